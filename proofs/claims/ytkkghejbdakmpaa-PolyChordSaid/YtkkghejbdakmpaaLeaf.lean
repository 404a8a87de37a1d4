/- The contracts of the functions of one to three points, and of numbers. -/
import Derived.Test.YtkkghejbdakmpaaMem
set_option linter.unusedVariables false
set_option linter.unusedSimpArgs false
namespace Go.Proofs.Ytkkghejbdakmpaa
open Go.ChangeShapes Go.WideShapes Go.ChangeAt Go.RowKit Pm

theorem inR_lo {n : Int} (h : n < -600) : inR n = false := by unfold inR; simp; omega
theorem inR_hi {n : Int} (h : 600 < n) : inR n = false := by unfold inR; simp; omega
set_option maxHeartbeats 800000 in
theorem inRange_c (x y : Int) (b : Bool) (h : Hid (inP (x, y) = b)) (w : World) : Calls Try.prog 44 #[.agg #[.int .i64 x, .int .i64 y]] w fun e w' => e = .returned (.bool b) ∧ Q w w' := by
  have hb : inP (x, y) = (inR x && inR y) := rfl
  by_cases h1 : -600 ≤ x
  · by_cases h2 : x ≤ 600
    · by_cases h3 : -600 ≤ y
      · by_cases h4 : y ≤ 600
        · have HB := Lib.hid (show true = b by rw [← h.out, hb, inR_mk h1 h2, inR_mk h3 h4]; rfl)
          clear hb
          go_enter Try.func44, Try.ntmps44
          go_wp2_with fail
          go_ret
          exact ⟨ret_bool HB.out, (Q.refl _).alloc _⟩
        · have HB := Lib.hid (show false = b by rw [← h.out, hb, inR_hi (n := y) (by omega), Bool.and_false])
          have h4' : decide (y ≤ 600) = false := decide_eq_false h4
          clear hb
          go_enter Try.func44, Try.ntmps44
          go_wp2_with fail
          go_ret
          exact ⟨ret_bool HB.out, (Q.refl _).alloc _⟩
      · have HB := Lib.hid (show false = b by rw [← h.out, hb, inR_lo (n := y) (by omega), Bool.and_false])
        have h3' : decide (-600 ≤ y) = false := decide_eq_false h3
        clear hb
        go_enter Try.func44, Try.ntmps44
        go_wp2_with fail
        go_ret
        exact ⟨ret_bool HB.out, (Q.refl _).alloc _⟩
    · have HB := Lib.hid (show false = b by rw [← h.out, hb, inR_hi (n := x) (by omega), Bool.false_and])
      have h2' : decide (x ≤ 600) = false := decide_eq_false h2
      clear hb
      go_enter Try.func44, Try.ntmps44
      go_wp2_with fail
      go_ret
      exact ⟨ret_bool HB.out, (Q.refl _).alloc _⟩
  · have HB := Lib.hid (show false = b by rw [← h.out, hb, inR_lo (n := x) (by omega), Bool.false_and])
    have h1' : decide (-600 ≤ x) = false := decide_eq_false h1
    clear hb
    go_enter Try.func44, Try.ntmps44
    go_wp2_with fail
    go_ret
    exact ⟨ret_bool HB.out, (Q.refl _).alloc _⟩
theorem inRange_w (q : P) (b : Bool) (h : Hid (inP q = b)) (w : World) : Calls Try.prog 44 #[pv q] w fun e w' => e = .returned (.bool b) ∧ Q w w' := inRange_c q.1 q.2 b h w
/-- the three boxes of a call of three points -/
theorem q3 (w : World) (a b c : Obj) : Q w (((w.alloc a).alloc b).alloc c) := (((Q.refl _).alloc _).alloc _).alloc _
set_option maxHeartbeats 1600000 in
theorem cross_c (a b q : P) (r : Int) (h : Hid (crs a b q = r)) (ha : inP a = true) (hb : inP b = true) (hq : inP q = true) (w : World) : Calls Try.prog 45 #[pv a, pv b, pv q] w fun e w' => e = .returned (.int .i64 r) ∧ Q w w' := by
  have hbd := crs_bd ha hb hq
  obtain ⟨⟨a1, a2⟩, a3, a4⟩ := inP_yes ha
  obtain ⟨⟨b1, b2⟩, b3, b4⟩ := inP_yes hb
  obtain ⟨⟨q1, q2⟩, q3', q4⟩ := inP_yes hq
  clear ha hb hq
  obtain ⟨ax, ay⟩ := a
  obtain ⟨bx, by'⟩ := b
  obtain ⟨qx, qy⟩ := q
  unfold pv
  dsimp only at *
  have m1 := mul_bd (a := bx - ax) (b := qy - ay) (A := 1200) (B := 1200) (by omega) (by omega) (by omega) (by omega)
  have m2 := mul_bd (a := by' - ay) (b := qx - ax) (A := 1200) (B := 1200) (by omega) (by omega) (by omega) (by omega)
  have e : crs (ax, ay) (bx, by') (qx, qy) = (bx - ax) * (qy - ay) - (by' - ay) * (qx - ax) := rfl
  rw [e] at hbd
  have HR := Lib.hid (show (bx - ax) * (qy - ay) - (by' - ay) * (qx - ax) = r by rw [← h.out]; rfl)
  clear h e
  obtain ⟨d1, hd1⟩ : ∃ z, bx - ax = z := ⟨_, rfl⟩
  obtain ⟨d2, hd2⟩ : ∃ z, qy - ay = z := ⟨_, rfl⟩
  obtain ⟨d3, hd3⟩ : ∃ z, by' - ay = z := ⟨_, rfl⟩
  obtain ⟨d4, hd4⟩ : ∃ z, qx - ax = z := ⟨_, rfl⟩
  rw [hd1, hd2] at m1 hbd HR
  rw [hd3, hd4] at m2 hbd HR
  obtain ⟨p, hp⟩ : ∃ z, d1 * d2 = z := ⟨_, rfl⟩
  obtain ⟨t, ht⟩ : ∃ z, d3 * d4 = z := ⟨_, rfl⟩
  rw [hp] at m1 hbd HR
  rw [ht] at m2 hbd HR
  obtain ⟨m11, m12⟩ := m1
  obtain ⟨m21, m22⟩ := m2
  obtain ⟨s1, s2⟩ := hbd
  have w1 : IntKind.i64.wrap (bx - ax) = d1 := by rw [← hd1]; exact IntWalk.i64_in _ (by omega)
  go_enter Try.func45, Try.ntmps45
  go_wp2_with fail
  go_ret
  exact ⟨ret_int HR.out, q3 _ _ _ _⟩
end Go.Proofs.Ytkkghejbdakmpaa
