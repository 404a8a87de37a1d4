/- The contract of the reference's Same, and the smallest contracts of the laws. -/
import Derived.Test.YtkkghejbdakmpaaLeafB
import Derived.Laws.StructEq
set_option linter.unusedVariables false
set_option linter.unusedSimpArgs false
namespace Go.Proofs.Ytkkghejbdakmpaa
open Go.ChangeShapes Go.WideShapes Go.ChangeAt Go.RowKit Pm

theorem eqP (a b c d : Int) (w : World) : (Op.equalIn 10000 38 (.agg #[.int .i64 a, .int .i64 b]) (.agg #[.int .i64 c, .int .i64 d])).run Try.prog w = .ok (a == c && b == d) w := by
  have u3 := Try.underlying3
  have a3 := Try.isAgg3
  have z3 := Try.sizeOf3
  have hS : Try.prog.underlying 38 = some (.struct (Try.prog.fieldsOf 38)) := by kernel_rfl
  have hp : Try.prog.stoodInHeld 38 = false := by kernel_rfl
  rw [show (10000 : Nat) = 9999 + 1 from rfl, run_equalIn_agg w 9999 38 _ _ hS hp]
  simp only [Program.fieldsOf, Try.underlying38]
  go_simp
  by_cases h1 : a = c <;> by_cases h2 : b = d <;> simp [h1, h2]
theorem eqGp : Try.prog.eqGuardType Try.prog.depth 38 = false := by kernel_rfl
theorem eqSpan (a b c d : Int) (w : World) : (Op.equalIn 10000 29 (.agg #[.int .i64 a, .int .i64 b]) (.agg #[.int .i64 c, .int .i64 d])).run Try.prog w = .ok (a == c && b == d) w := by
  have u3 := Try.underlying3
  have a3 := Try.isAgg3
  have z3 := Try.sizeOf3
  have hS : Try.prog.underlying 29 = some (.struct (Try.prog.fieldsOf 29)) := by kernel_rfl
  have hp : Try.prog.stoodInHeld 29 = false := by kernel_rfl
  rw [show (10000 : Nat) = 9999 + 1 from rfl, run_equalIn_agg w 9999 29 _ _ hS hp]
  simp only [Program.fieldsOf, Try.underlying29]
  go_simp
  by_cases h1 : a = c <;> by_cases h2 : b = d <;> simp [h1, h2]
theorem eqGs : Try.prog.eqGuardType Try.prog.depth 29 = false := by kernel_rfl
theorem same_list {X Y : List P} (h : X.length = Y.length) (k : ∀ i, i < X.length → g X i = g Y i) : X = Y := List.ext_getElem? fun i => by
  by_cases hi : i < X.length
  · rw [g_some hi, g_some (l := Y) (by omega), k i hi]
  · rw [List.getElem?_eq_none (by omega), List.getElem?_eq_none (by omega)]
set_option maxRecDepth 100000 in
set_option maxHeartbeats 1600000 in
theorem Same_c (v v1 : Value) (X Y : List P) (bb : Bool) (h : Hid (decide (X = Y) = bb)) (w : World) (ha : RdP w v X) (hb : RdP w v1 Y) (hX : X.length ≤ maxLen) (hY : Y.length ≤ maxLen) : Calls Try.prog 20 #[v, v1] w fun e w' => e = .returned (.bool bb) ∧ Q w w' := by
  have HA := Lib.hid ha
  have HB := Lib.hid hb
  obtain ⟨A, c, rfl, hc, _⟩ := ha
  obtain ⟨A1, c1, rfl, hc1, _⟩ := hb
  obtain ⟨n, hn⟩ : ∃ n, X.length = n := ⟨_, rfl⟩
  obtain ⟨m, hm⟩ : ∃ n, Y.length = n := ⟨_, rfl⟩
  have HN := Lib.hid hn
  have HM := Lib.hid hm
  rw [hn] at HA
  rw [hm] at HB
  rw [hn, hm]
  unfold maxLen at hX hY
  by_cases hnm : n = m
  · subst hnm
    have hn6 : n ≤ 9223372036854775807 := by omega
    have t1 : ((n : Int) != (n : Int)) = false := by simp
    clear hc hc1 hn hm hX hY
    go_enter Try.func20, Try.ntmps20
    go_wp2_with fail
    go_loopw [5] (fun u5 wr => ∃ k : Nat, k ≤ n ∧ u5 = .int .i64 k ∧ Hid ((∀ i, i < k → g X i = g Y i) ∧ Q w wr)) (fun u5 _ => n - (intOf u5).toNat)
    case atStart => exact ⟨0, Nat.zero_le _, rfl, fun i hi => by omega, Q.refl _⟩
    case round =>
      obtain ⟨k, hk, rfl, HI⟩ := hrel
      by_cases hlt : k < n
      · have hkx : k < X.length := by rw [HN.out]; exact hlt
        have hky : k < Y.length := by rw [HM.out]; exact hlt
        obtain ⟨b, off, rfl, hb', _, hp0, hp1⟩ := HA.out.at HI.out.2 hkx
        obtain ⟨b2, off2, rfl, hb2', _, hp2, hp3⟩ := HB.out.at HI.out.2 hky
        obtain ⟨⟨xa, xb⟩, hx⟩ : ∃ x, g X k = x := ⟨_, rfl⟩
        obtain ⟨⟨ya, yb⟩, hy⟩ : ∃ y, g Y k = y := ⟨_, rfl⟩
        rw [hx] at hp0 hp1
        rw [hy] at hp2 hp3
        have HXY := Lib.hid (show g X k = (xa, xb) ∧ g Y k = (ya, yb) from ⟨hx, hy⟩)
        dsimp only at hp0 hp1 hp2 hp3
        have hgd := eqGp
        by_cases hxy : xa = ya ∧ xb = yb
        · have heq : ∀ w, (Op.equalIn 10000 38 (.agg #[.int .i64 xa, .int .i64 xb]) (.agg #[.int .i64 ya, .int .i64 yb])).run Try.prog w = .ok true w := fun w => by rw [eqP, hxy.1, hxy.2]; simp
          have HNX := Lib.hid (show ∀ i, i < k + 1 → g X i = g Y i from fun i hi => by
            by_cases e : i = k
            · subst e; rw [HXY.out.1, HXY.out.2, hxy.1, hxy.2]
            · exact HI.out.1 i (by omega))
          clear hx hy hkx hky hxy
          go_wp2_with fail
          go_quiet (fail)
          go_wp2_with fail
          go_roundw
          case rel => exact ⟨k + 1, by omega, by go_num, HNX.out, HI.out.2.drewN _⟩
          case measure => simp [intOf] <;> omega
        · have heq : ∀ w, (Op.equalIn 10000 38 (.agg #[.int .i64 xa, .int .i64 xb]) (.agg #[.int .i64 ya, .int .i64 yb])).run Try.prog w = .ok false w := fun w => by
            rw [eqP]
            have : (xa == ya && xb == yb) = false := by
              rw [Bool.eq_false_iff]; intro g; rw [Bool.and_eq_true, beq_iff_eq, beq_iff_eq] at g; exact hxy g
            rw [this]
          have HE := Lib.hid (show false = bb by rw [← h.out]; exact (decide_eq_false fun e => hxy (by
            have h1 := HXY.out.1; rw [e, HXY.out.2] at h1; injection h1 with h1 h2; exact ⟨h1.symm, h2.symm⟩)).symm)
          clear hx hy hkx hky hxy
          go_wp2_with fail
          go_quiet (fail)
          go_wp2_with fail
          go_ret
          exact ⟨ret_bool HE.out, HI.out.2.drewN _⟩
      · obtain rfl : k = n := by omega
        have HE := Lib.hid (show true = bb by rw [← h.out]; exact (decide_eq_true (same_list (by rw [HN.out, HM.out]) fun i hi => HI.out.1 i (by rw [HN.out] at hi; exact hi))).symm)
        go_wp2_with fail
        go_ret
        exact ⟨ret_bool HE.out, HI.out.2⟩
  · have t1 : ((n : Int) != (m : Int)) = true := by rw [bne_iff_ne]; omega
    have HE := Lib.hid (show false = bb by rw [← h.out]; exact (decide_eq_false fun e => hnm (by rw [← hn, ← hm, e])).symm)
    clear hc hc1 hn hm hX hY hnm
    go_enter Try.func20, Try.ntmps20
    go_wp2_with fail
    go_ret
    exact ⟨ret_bool HE.out, Q.refl _⟩
set_option maxHeartbeats 800000 in
theorem few_c (v : Value) (l : List P) (b : Bool) (w : World) (hr : RdP w v l) (hl : l.length ≤ maxLen) (h : Hid (decide (l.length ≤ 100) = b)) : Calls Try.prog 12 #[v] w fun e w' => e = .returned (.bool b) ∧ w = w' := by
  obtain ⟨A, c, rfl, hc, _⟩ := hr
  obtain ⟨n, hn⟩ : ∃ n, l.length = n := ⟨_, rfl⟩
  rw [hn] at h ⊢
  unfold maxLen at hl
  have HB := Lib.hid (show decide ((n : Int) ≤ 100) = b by rw [← h.out]; simp; omega)
  have hn6 : n ≤ 9223372036854775807 := by omega
  clear hc hl hn h
  go_enter Try.func12, Try.ntmps12
  go_wp2_with fail
  go_ret
  exact ⟨ret_bool HB.out, rfl⟩
set_option maxHeartbeats 800000 in
theorem pt_c (x y : Int) (w : World) : Calls Try.prog 36 #[.int .i64 x, .int .i64 y] w fun e w' => e = .returned (.agg #[.int .i64 x, .int .i64 y]) ∧ w.alloc (.cells #[.int .i64 x, .int .i64 y] 38) = w' := by
  go_enter Try.func36, Try.ntmps36
  go_wp2_with fail
  refine bodyPost_ret (v := .agg #[.int .i64 x, .int .i64 y]) (by simp [results, Try.results36, go_sem]) rfl ⟨rfl, ?_⟩
  rfl
end Go.Proofs.Ytkkghejbdakmpaa
