/- The contracts of the bounds of an edge, of the quotients, and of the order of points. -/
import Derived.Test.YtkkghejbdakmpaaLeaf
set_option linter.unusedVariables false
set_option linter.unusedSimpArgs false
namespace Go.Proofs.Ytkkghejbdakmpaa
open Go.ChangeShapes Go.WideShapes Go.ChangeAt Go.RowKit Pm

theorem inB_mk {a b q : P} {m1 m2 m3 m4 : Int} (h1 : min a.1 b.1 = m1) (h2 : max a.1 b.1 = m2) (h3 : min a.2 b.2 = m3) (h4 : max a.2 b.2 = m4) :
    inB a b q = (decide (m1 ≤ q.1) && decide (q.1 ≤ m2) && decide (m3 ≤ q.2) && decide (q.2 ≤ m4)) := by subst h1 h2 h3 h4; rfl
set_option maxHeartbeats 1600000 in
theorem isIn_c (a b q : P) (r : Bool) (h : Hid (inB a b q = r)) (w : World) : Calls Try.prog 46 #[pv a, pv b, pv q] w fun e w' => e = .returned (.bool r) ∧ Q w w' := by
  obtain ⟨ax, ay⟩ := a
  obtain ⟨bx, bY⟩ := b
  obtain ⟨qx, qy⟩ := q
  unfold pv
  dsimp only
  obtain ⟨m1, h1⟩ : ∃ z, min ax bx = z := ⟨_, rfl⟩
  obtain ⟨m2, h2⟩ : ∃ z, max ax bx = z := ⟨_, rfl⟩
  obtain ⟨m3, h3⟩ : ∃ z, min ay bY = z := ⟨_, rfl⟩
  obtain ⟨m4, h4⟩ : ∃ z, max ay bY = z := ⟨_, rfl⟩
  have HB := Lib.hid (show (decide (m1 ≤ qx) && decide (qx ≤ m2) && decide (m3 ≤ qy) && decide (qy ≤ m4)) = r by rw [← h.out, inB_mk h1 h2 h3 h4])
  clear h
  by_cases c1 : m1 ≤ qx
  · by_cases c2 : qx ≤ m2
    · by_cases c3 : m3 ≤ qy
      · by_cases c4 : qy ≤ m4
        · have HC := Lib.hid (show true = r by rw [← HB.out, decide_eq_true c1, decide_eq_true c2, decide_eq_true c3, decide_eq_true c4]; rfl)
          go_enter Try.func46, Try.ntmps46
          go_wp2_with fail
          go_ret
          exact ⟨ret_bool HC.out, q3 _ _ _ _⟩
        · have HC := Lib.hid (show false = r by rw [← HB.out, decide_eq_false c4, Bool.and_false])
          have c4' : decide (qy ≤ m4) = false := decide_eq_false c4
          go_enter Try.func46, Try.ntmps46
          go_wp2_with fail
          go_ret
          exact ⟨ret_bool HC.out, q3 _ _ _ _⟩
      · have HC := Lib.hid (show false = r by rw [← HB.out, decide_eq_false c3, Bool.and_false, Bool.false_and])
        have c3' : decide (m3 ≤ qy) = false := decide_eq_false c3
        go_enter Try.func46, Try.ntmps46
        go_wp2_with fail
        go_ret
        exact ⟨ret_bool HC.out, q3 _ _ _ _⟩
    · have HC := Lib.hid (show false = r by rw [← HB.out, decide_eq_false c2, Bool.and_false, Bool.false_and, Bool.false_and])
      have c2' : decide (qx ≤ m2) = false := decide_eq_false c2
      go_enter Try.func46, Try.ntmps46
      go_wp2_with fail
      go_ret
      exact ⟨ret_bool HC.out, q3 _ _ _ _⟩
  · have HC := Lib.hid (show false = r by rw [← HB.out, decide_eq_false c1, Bool.false_and, Bool.false_and, Bool.false_and])
    have c1' : decide (m1 ≤ qx) = false := decide_eq_false c1
    go_enter Try.func46, Try.ntmps46
    go_wp2_with fail
    go_ret
    exact ⟨ret_bool HC.out, q3 _ _ _ _⟩
/-- Go's quotient against the one rounded down -/
theorem quo_floor {n d : Int} (h : 0 < d) : n / d = if n.tmod d < 0 then n.tdiv d - 1 else n.tdiv d := by
  have e := Int.mul_tdiv_add_tmod n d
  have e2 := Int.mul_ediv_add_emod n d
  have b1 := Int.emod_nonneg n (by omega : d ≠ 0)
  have b2 := Int.emod_lt_of_pos n h
  have b3 : -d < n.tmod d ∧ n.tmod d < d := by
    have h1 := Int.tmod_lt_of_pos n h
    have h2 := Int.tmod_lt_of_pos (-n) h
    rw [Int.neg_tmod] at h2
    omega
  split
  · rename_i c
    have k : d * (n / d - (n.tdiv d - 1)) = d + n.tmod d - n % d := by rw [Int.mul_sub, Int.mul_sub]; omega
    rcases Int.lt_trichotomy (n / d - (n.tdiv d - 1)) 0 with z | z | z
    · exfalso
      have : d * (n / d - (n.tdiv d - 1)) ≤ d * -1 := Int.mul_le_mul_of_nonneg_left (by omega) (by omega)
      omega
    · omega
    · exfalso
      have : d * 1 ≤ d * (n / d - (n.tdiv d - 1)) := Int.mul_le_mul_of_nonneg_left (by omega) (by omega)
      omega
  · rename_i c
    have k : d * (n / d - n.tdiv d) = n.tmod d - n % d := by rw [Int.mul_sub]; omega
    rcases Int.lt_trichotomy (n / d - n.tdiv d) 0 with z | z | z
    · exfalso
      have : d * (n / d - n.tdiv d) ≤ d * -1 := Int.mul_le_mul_of_nonneg_left (by omega) (by omega)
      omega
    · omega
    · exfalso
      have : d * 1 ≤ d * (n / d - n.tdiv d) := Int.mul_le_mul_of_nonneg_left (by omega) (by omega)
      omega
theorem tdiv_bd {n d : Int} (h : 0 < d) (h1 : -10000000 ≤ n) (h2 : n ≤ 10000000) : -10000000 ≤ n.tdiv d ∧ n.tdiv d ≤ 10000000 := by
  have := Int.natAbs_tdiv_le_natAbs n d
  omega
theorem tmod_bd {n d : Int} (h : 0 < d) (h2 : d ≤ 10000000) : -10000000 ≤ n.tmod d ∧ n.tmod d ≤ 10000000 := by
  have h1 := Int.tmod_lt_of_pos n h
  have h3 := Int.tmod_lt_of_pos (-n) h
  rw [Int.neg_tmod] at h3
  omega
set_option maxHeartbeats 1600000 in
theorem floor_c (n d r : Int) (h : Hid (n / d = r)) (hd : 0 < d) (hd2 : d ≤ 10000000) (h1 : -10000000 ≤ n) (h2 : n ≤ 10000000) (w : World) : Calls Try.prog 55 #[.int .i64 n, .int .i64 d] w fun e w' => e = .returned (.int .i64 r) ∧ w = w' := by
  have HF := Lib.hid (quo_floor (n := n) hd)
  obtain ⟨q1, q2⟩ := tdiv_bd hd h1 h2
  obtain ⟨m1, m2⟩ := tmod_bd (n := n) hd hd2
  have hz : (d == 0) = false := by simp; omega
  obtain ⟨q, hq⟩ : ∃ z, n.tdiv d = z := ⟨_, rfl⟩
  obtain ⟨m, hm⟩ : ∃ z, n.tmod d = z := ⟨_, rfl⟩
  rw [hq] at q1 q2 HF
  rw [hm] at m1 m2 HF
  have hd0 : ¬ d = 0 := by omega
  by_cases c : m < 0
  · have HR := Lib.hid (show q - 1 = r by rw [← h.out, HF.out, if_pos c])
    clear h HF
    go_enter Try.func55, Try.ntmps55
    go_wp2_with fail
    go_ret
    exact ⟨ret_int HR.out, rfl⟩
  · have HR := Lib.hid (show q = r by rw [← h.out, HF.out, if_neg c])
    clear h HF
    go_enter Try.func55, Try.ntmps55
    go_wp2_with fail
    go_ret
    exact ⟨ret_int HR.out, rfl⟩
end Go.Proofs.Ytkkghejbdakmpaa
