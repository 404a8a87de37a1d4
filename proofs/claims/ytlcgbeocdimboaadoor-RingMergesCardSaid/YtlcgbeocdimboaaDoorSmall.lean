/- The contracts of isFar, floor, few, and of the reference's apart, floor and Same. -/
import Derived.Test.YtlcgbeocdimboaaDoorCheck
set_option linter.unusedVariables false
set_option linter.unusedSimpArgs false
namespace Go.Proofs.YtlcgbeocdimboaaDoor
open Go.ChangeShapes Go.WideShapes Go.ChangeAt Go.RowKit Pm

/-- two points are too far from each other -/
def farB (a b : P) (lim : Int) : Bool := decide (lim < a.1 - b.1) || decide (lim < b.1 - a.1) || decide (lim < a.2 - b.2) || decide (lim < b.2 - a.2)
theorem max_run (ts : Array TypeId) (t : TypeId) (a b m : Int) (w : World) (h : max a b = m) : (Builtin.max_ ts t #[.int .i64 a, .int .i64 b]).run Tryd.prog w = .ok (.int .i64 m) w := by
  subst h
  show ((Builtin.max2 (.int .i64 a) (.int .i64 b)) >>= fun x => pure x).run Tryd.prog w = _
  by_cases h : a < b
  · rw [Int.max_eq_right (by omega)]
    simp [Builtin.max2, h]
  · rw [Int.max_eq_left (by omega)]
    simp [Builtin.max2, h]
set_option maxRecDepth 100000 in
set_option maxHeartbeats 1600000 in
theorem isFar_c (a b : P) (lim : Int) (r : Bool) (h : Hid (farB a b lim = r)) (ha : inP a = true) (hb : inP b = true) (w : World) : Calls Tryd.prog 42 #[pv a, pv b, .int .i64 lim] w fun e w' => e = .returned (.bool r) ∧ Q w w' := by
  obtain ⟨⟨a1, a2⟩, a3, a4⟩ := inP_yes ha
  obtain ⟨⟨b1, b2⟩, b3, b4⟩ := inP_yes hb
  obtain ⟨ax, ay⟩ := a
  obtain ⟨bx, bY⟩ := b
  simp only at a1 a2 a3 a4 b1 b2 b3 b4
  unfold pv
  obtain ⟨m1, hm1⟩ : ∃ m, max (ax - bx) (bx - ax) = m := ⟨_, rfl⟩
  obtain ⟨m2, hm2⟩ : ∃ m, max (ay - bY) (bY - ay) = m := ⟨_, rfl⟩
  have r1 := fun w => max_run #[3, 3] 3 (ax - bx) (bx - ax) m1 w hm1
  have r2 := fun w => max_run #[3, 3] 3 (ay - bY) (bY - ay) m2 w hm2
  have HE := Lib.hid (show (decide (lim < m1) || decide (lim < m2)) = r by
    rw [← h.out, ← hm1, ← hm2]
    unfold farB
    simp only
    rw [Bool.eq_iff_iff]
    simp only [Bool.or_eq_true, decide_eq_true_eq]
    omega)
  have w1 : IntKind.i64.wrap (ax - bx) = ax - bx := IntWalk.i64_in _ (by omega)
  have w2 : IntKind.i64.wrap (bx - ax) = bx - ax := IntWalk.i64_in _ (by omega)
  have w3 : IntKind.i64.wrap (ay - bY) = ay - bY := IntWalk.i64_in _ (by omega)
  have w4 : IntKind.i64.wrap (bY - ay) = bY - ay := IntWalk.i64_in _ (by omega)
  clear h ha hb hm1 hm2
  by_cases c1 : lim < m1
  · have t1 : decide (lim < m1) = true := decide_eq_true c1
    have HF := Lib.hid (show true = r by rw [← HE.out, t1]; rfl)
    clear HE
    go_enter Tryd.func42, Tryd.ntmps42
    go_wp2_with fail
    go_ret
    exact ⟨ret_bool HF.out, ((Q.refl w).alloc _).alloc _⟩
  · have t1 : decide (lim < m1) = false := decide_eq_false c1
    have HF := Lib.hid (show decide (lim < m2) = r by rw [← HE.out, t1]; rfl)
    clear HE
    go_enter Tryd.func42, Tryd.ntmps42
    go_wp2_with fail
    go_ret
    exact ⟨ret_bool HF.out, ((Q.refl w).alloc _).alloc _⟩
set_option maxRecDepth 100000 in
set_option maxHeartbeats 1600000 in
theorem apart_c (a b : P) (lim : Int) (r : Bool) (h : Hid (farB a b lim = r)) (ha : inP a = true) (hb : inP b = true) (w : World) : Calls Tryd.prog 32 #[pv a, pv b, .int .i64 lim] w fun e w' => e = .returned (.bool r) ∧ Q w w' := by
  obtain ⟨⟨a1, a2⟩, a3, a4⟩ := inP_yes ha
  obtain ⟨⟨b1, b2⟩, b3, b4⟩ := inP_yes hb
  obtain ⟨ax, ay⟩ := a
  obtain ⟨bx, bY⟩ := b
  simp only at a1 a2 a3 a4 b1 b2 b3 b4
  unfold pv
  obtain ⟨d1, hd1⟩ : ∃ m, ax - bx = m := ⟨_, rfl⟩
  obtain ⟨d2, hd2⟩ : ∃ m, bx - ax = m := ⟨_, rfl⟩
  obtain ⟨d3, hd3⟩ : ∃ m, ay - bY = m := ⟨_, rfl⟩
  obtain ⟨d4, hd4⟩ : ∃ m, bY - ay = m := ⟨_, rfl⟩
  have HE := Lib.hid (show (decide (lim < d1) || decide (lim < d2) || decide (lim < d3) || decide (lim < d4)) = r by
    rw [← h.out, ← hd1, ← hd2, ← hd3, ← hd4]; rfl)
  have w1 : IntKind.i64.wrap d1 = d1 := IntWalk.i64_in _ (by omega)
  have w2 : IntKind.i64.wrap d2 = d2 := IntWalk.i64_in _ (by omega)
  have w3 : IntKind.i64.wrap d3 = d3 := IntWalk.i64_in _ (by omega)
  have w4 : IntKind.i64.wrap d4 = d4 := IntWalk.i64_in _ (by omega)
  clear h ha hb
  by_cases c1 : lim < d1
  · have t1 : decide (lim < d1) = true := decide_eq_true c1
    have HF := Lib.hid (show true = r by rw [← HE.out, t1]; rfl)
    clear HE
    go_enter Tryd.func32, Tryd.ntmps32
    go_wp2_with fail
    go_ret
    exact ⟨ret_bool HF.out, ((Q.refl w).alloc _).alloc _⟩
  · have t1 : decide (lim < d1) = false := decide_eq_false c1
    by_cases c2 : lim < d2
    · have t2 : decide (lim < d2) = true := decide_eq_true c2
      have HF := Lib.hid (show true = r by rw [← HE.out, t1, t2]; rfl)
      clear HE
      go_enter Tryd.func32, Tryd.ntmps32
      go_wp2_with fail
      go_ret
      exact ⟨ret_bool HF.out, ((Q.refl w).alloc _).alloc _⟩
    · have t2 : decide (lim < d2) = false := decide_eq_false c2
      by_cases c3 : lim < d3
      · have t3 : decide (lim < d3) = true := decide_eq_true c3
        have HF := Lib.hid (show true = r by rw [← HE.out, t1, t2, t3]; rfl)
        clear HE
        go_enter Tryd.func32, Tryd.ntmps32
        go_wp2_with fail
        go_ret
        exact ⟨ret_bool HF.out, ((Q.refl w).alloc _).alloc _⟩
      · have t3 : decide (lim < d3) = false := decide_eq_false c3
        have HF := Lib.hid (show decide (lim < d4) = r by rw [← HE.out, t1, t2, t3]; rfl)
        clear HE
        go_enter Tryd.func32, Tryd.ntmps32
        go_wp2_with fail
        go_ret
        exact ⟨ret_bool HF.out, ((Q.refl w).alloc _).alloc _⟩
set_option maxHeartbeats 1600000 in
theorem rgFloor_c (n d r : Int) (h : Hid (n / d = r)) (hd : 0 < d) (hd2 : d ≤ 10000000) (h1 : -10000000 ≤ n) (h2 : n ≤ 10000000) (w : World) : Calls Tryd.prog 45 #[.int .i64 n, .int .i64 d] w fun e w' => e = .returned (.int .i64 r) ∧ w = w' := by
  have HF := Lib.hid (quo_floor (n := n) hd)
  obtain ⟨q1, q2⟩ := tdiv_bd hd h1 h2
  obtain ⟨m1, m2⟩ := tmod_bd (n := n) hd hd2
  have hz : (d == 0) = false := by simp; omega
  obtain ⟨q, hq⟩ : ∃ z, n.tdiv d = z := ⟨_, rfl⟩
  obtain ⟨m, hm⟩ : ∃ z, n.tmod d = z := ⟨_, rfl⟩
  rw [hq] at q1 q2 HF
  rw [hm] at m1 m2 HF
  have hd0 : ¬ d = 0 := by omega
  by_cases c : m < 0
  · have HR := Lib.hid (show q - 1 = r by rw [← h.out, HF.out, if_pos c])
    clear h HF
    go_enter Tryd.func45, Tryd.ntmps45
    go_wp2_with fail
    go_ret
    exact ⟨ret_int HR.out, rfl⟩
  · have HR := Lib.hid (show q = r by rw [← h.out, HF.out, if_neg c])
    clear h HF
    go_enter Tryd.func45, Tryd.ntmps45
    go_wp2_with fail
    go_ret
    exact ⟨ret_int HR.out, rfl⟩
theorem w64 (n : Int) (h1 : -9223372036854775808 ≤ n) (h2 : n ≤ 9223372036854775807) : wrap64 n = n := by unfold wrap64; omega
set_option maxHeartbeats 1600000 in
theorem rrFloor_c (n d r : Int) (h : Hid (n / d = r)) (hd : 0 < d) (hd2 : d ≤ 10000000) (h1 : -10000000 ≤ n) (h2 : n ≤ 10000000) (w : World) : Calls Tryd.prog 39 #[.int .i64 n, .int .i64 d] w fun e w' => e = .returned (.int .i64 r) ∧ w = w' := by
  have HF := Lib.hid (quo_floor (n := n) hd)
  obtain ⟨q1, q2⟩ := tdiv_bd hd h1 h2
  obtain ⟨m1, m2⟩ := tmod_bd (n := n) hd hd2
  have hz : (d == 0) = false := by simp; omega
  have hqm := Int.mul_tdiv_add_tmod n d
  rw [Int.mul_comm] at hqm
  obtain ⟨q, hq⟩ : ∃ z, n.tdiv d = z := ⟨_, rfl⟩
  obtain ⟨m, hm⟩ : ∃ z, n.tmod d = z := ⟨_, rfl⟩
  rw [hq] at q1 q2 HF hqm
  rw [hm] at m1 m2 HF hqm
  have hd0 : ¬ d = 0 := by omega
  obtain ⟨p, hp⟩ : ∃ z, q * d = z := ⟨_, rfl⟩
  rw [hp] at hqm
  have w1 : IntKind.i64.wrap p = p := IntWalk.i64_in _ (by omega)
  have w2 : wrap64 p = p := w64 _ (by omega) (by omega)
  by_cases c : m < 0
  · have HR := Lib.hid (show q - 1 = r by rw [← h.out, HF.out, if_pos c])
    have t1 : decide (n < p) = true := decide_eq_true (by omega)
    clear h HF hqm
    go_enter Tryd.func39, Tryd.ntmps39
    go_wp2_with fail
    go_ret
    exact ⟨ret_int HR.out, rfl⟩
  · have HR := Lib.hid (show q = r by rw [← h.out, HF.out, if_neg c])
    have t1 : decide (n < p) = false := decide_eq_false (by omega)
    clear h HF hqm
    go_enter Tryd.func39, Tryd.ntmps39
    go_wp2_with fail
    go_ret
    exact ⟨ret_int HR.out, rfl⟩
set_option maxHeartbeats 800000 in
theorem few_c (z : Int) (v : Value) (l : List RD) (b : Bool) (w : World) (hr : RdR w v l) (hl : l.length ≤ maxLen) (h : Hid (decide (l.length ≤ 100) = b)) : Calls Tryd.prog 10 #[.agg #[.int .i64 z, v]] w fun e w' => e = .returned (.bool b) ∧ Q w w' := by
  obtain ⟨A, c, rfl, hc, _⟩ := hr
  obtain ⟨n, hn⟩ : ∃ n, l.length = n := ⟨_, rfl⟩
  rw [hn] at h ⊢
  by_cases g : n ≤ 100
  · have i1 : (n : Int) ≤ 100 := by omega
    have HF := Lib.hid (show true = b by rw [← h.out]; exact (decide_eq_true g).symm)
    have t1 : decide ((n : Int) ≤ 100) = true := decide_eq_true i1
    clear h hn hc hl
    go_enter Tryd.func10, Tryd.ntmps10
    go_wp2_with fail
    go_ret
    exact ⟨ret_bool HF.out, (Q.refl w).alloc _⟩
  · have i1 : ¬ (n : Int) ≤ 100 := by omega
    have HF := Lib.hid (show false = b by rw [← h.out]; exact (decide_eq_false g).symm)
    have t1 : decide ((n : Int) ≤ 100) = false := decide_eq_false i1
    clear h hn hc hl
    go_enter Tryd.func10, Tryd.ntmps10
    go_wp2_with fail
    go_ret
    exact ⟨ret_bool HF.out, (Q.refl w).alloc _⟩
theorem eqP9 (a b c d : Int) (w : World) : (Op.equalIn 9999 38 (.agg #[.int .i64 a, .int .i64 b]) (.agg #[.int .i64 c, .int .i64 d])).run Tryd.prog w = .ok (a == c && b == d) w := by
  have u3 := Tryd.underlying3
  have a3 := Tryd.isAgg3
  have z3 := Tryd.sizeOf3
  have hS : Tryd.prog.underlying 38 = some (.struct (Tryd.prog.fieldsOf 38)) := by kernel_rfl
  have hp : Tryd.prog.stoodInHeld 38 = false := by kernel_rfl
  rw [show (9999 : Nat) = 9998 + 1 from rfl, run_equalIn_agg w 9998 38 _ _ hS hp]
  simp only [Program.fieldsOf, Tryd.underlying38]
  go_simp
  by_cases h1 : a = c <;> by_cases h2 : b = d <;> simp [h1, h2]
theorem eqRd (a b c d : Int) (o p : Bool) (w : World) : (Op.equalIn 10000 44 (.agg #[.int .i64 a, .int .i64 b, .bool o]) (.agg #[.int .i64 c, .int .i64 d, .bool p])).run Tryd.prog w = .ok (a == c && b == d && o == p) w := by
  have u3 := Tryd.underlying38
  have a3 := Tryd.isAgg38
  have z3 := Tryd.sizeOf38
  have u4 := Tryd.underlying4
  have a4 := Tryd.isAgg4
  have z4 := Tryd.sizeOf4
  have e1 := eqP9 a b c d
  have hS : Tryd.prog.underlying 44 = some (.struct (Tryd.prog.fieldsOf 44)) := by kernel_rfl
  have hp : Tryd.prog.stoodInHeld 44 = false := by kernel_rfl
  rw [show (10000 : Nat) = 9999 + 1 from rfl, run_equalIn_agg w 9999 44 _ _ hS hp]
  simp only [Program.fieldsOf, Tryd.underlying44]
  go_simp
  by_cases h1 : a = c <;> by_cases h2 : b = d <;> cases o <;> cases p <;> simp [h1, h2]
theorem eqGr : Tryd.prog.eqGuardType Tryd.prog.depth 44 = false := by kernel_rfl
end Go.Proofs.YtlcgbeocdimboaaDoor
