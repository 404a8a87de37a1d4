/- The contract of the quotient with the rule 'never up'. -/
import Derived.Test.YtedcimjhhcepmaaDoorWalkA
set_option linter.unusedVariables false
set_option linter.unusedSimpArgs false
namespace Go.Proofs.YtedcimjhhcepmaaDoor
open Go.ChangeShapes Go.WideShapes Go.ChangeAt Go.RowKit Um

set_option maxHeartbeats 3200000 in
theorem quotF_c (a b : Int) (w : World) (fa : Fit a) (fb : Fit b) (hb : b ≠ 0) (hm : ¬ (a = -9223372036854775808 ∧ b = -1)) :
    Calls Tryd.prog 31 #[.agg #[.func (.func 30) #[] #[]], .int .i64 a, .int .i64 b] w fun e w' => e = .returned (.tuple #[.int .i64 (fq a b), .bool true]) ∧ Q w w' := by
  have hb1 : (b == 0) = false := by simpa using hb
  obtain ⟨x, hx⟩ : ∃ x, (a == -9223372036854775808) = x := ⟨_, rfl⟩
  obtain ⟨y, hy⟩ : ∃ y, (b == -1) = y := ⟨_, rfl⟩
  have hxy : (x && y) = false := by
    rw [← hx, ← hy, Bool.eq_false_iff]; intro h; rw [Bool.and_eq_true, beq_iff_eq, beq_iff_eq] at h; exact hm h
  have td := tdiv_bd fa hb hm
  have fbd := fr_bd a b hb
  obtain ⟨q, hq⟩ : ∃ q, a.tdiv b = q := ⟨_, rfl⟩
  obtain ⟨r, hr⟩ : ∃ r, a.tmod b = r := ⟨_, rfl⟩
  have ha := adj_val hr
  have HAB := Lib.hid (div_facts a b hb)
  rw [hq, hr] at td
  obtain ⟨⟨q1, q2⟩, q3⟩ := td
  have FB := Lib.hid fb
  obtain ⟨b1, b2⟩ := fb
  clear fa hm
  have cases5 : (r = 0 ∧ adj a b = false) ∨ (r ≠ 0 ∧ 0 < r ∧ 0 < b ∧ adj a b = false) ∨ (r ≠ 0 ∧ r < 0 ∧ b < 0 ∧ adj a b = false) ∨ (r ≠ 0 ∧ 0 < r ∧ b < 0 ∧ adj a b = true) ∨ (r ≠ 0 ∧ r < 0 ∧ 0 < b ∧ adj a b = true) := by
    rw [ha]
    rcases Int.lt_trichotomy r 0 with h | h | h <;> rcases (show 0 < b ∨ b < 0 by omega) with g | g <;> simp [h, g] <;> omega
  rcases cases5 with ⟨h0, hadj⟩ | ⟨h0, h1, h2, hadj⟩ | ⟨h0, h1, h2, hadj⟩ | ⟨h0, h1, h2, hadj⟩ | ⟨h0, h1, h2, hadj⟩
  · subst h0
    have e := fq_no hadj
    rw [hq, hr] at e
    rw [e.2] at fbd
    have U := Lib.hid (show fq a b = q ∧ fr a b = 0 from e)
    have V := Lib.hid fbd
    clear ha hadj e q3 fbd
    rcases (show 0 < b ∨ b < 0 by omega) with hs | hs
    all_goals
      cases x <;> cases y <;> (try (simp at hxy; done))
      all_goals
        clear hxy
        go_enter Tryd.func31, Tryd.ntmps31
        go_wp2_with fail
        go_quiet (fail)
        go_wp2_with fail
        refine (never_c _ _ _).mono ?_
        rintro e w' ⟨rfl, rfl⟩
        go_wp2_with fail
        go_ret2
        exact ⟨ret_ib U.out.1.symm rfl, by repeat (first | exact Q.refl _ | refine Q.drewN ?_ _ | refine Q.drew ?_ | refine Q.alloc ?_ _)⟩
  all_goals
    have HR := Lib.hid (show (r != 0) = true by simpa using h0)
    have hr0 : (r != 0) = true := HR.out
    obtain ⟨q4, q5⟩ := q3 h0
    have R := Lib.hid fbd
    clear ha q3 fbd h0
  · have e := fq_no hadj
    rw [hq, hr] at e
    have U := Lib.hid e; clear e hadj
    have g : 0 ≤ r ∧ r < b := by have := R.out.1 h2; rw [U.out.2] at this; exact this
    have V := Lib.hid (show (0 < b → 0 ≤ r ∧ r < b) ∧ (b < 0 → b < r ∧ r ≤ 0) from ⟨fun _ => g, fun h => by omega⟩)
    obtain ⟨g1, g2⟩ := g
    have hd1 : decide (r < 0) = false := by simp; omega
    have hd2 : decide (b < 0) = false := by simp; omega
    cases x <;> cases y <;> (try (simp at hxy; done))
    all_goals
      clear hxy
      go_enter Tryd.func31, Tryd.ntmps31
      go_wp2_with fail
      go_quiet (fail)
      go_wp2_with fail
      refine (never_c _ _ _).mono ?_
      rintro e w' ⟨rfl, rfl⟩
      go_wp2_with fail
      go_ret2
      exact ⟨ret_ib U.out.1.symm rfl, by repeat (first | exact Q.refl _ | refine Q.drewN ?_ _ | refine Q.drew ?_ | refine Q.alloc ?_ _)⟩
  · have e := fq_no hadj
    rw [hq, hr] at e
    have U := Lib.hid e; clear e hadj
    have g : b < r ∧ r ≤ 0 := by have := R.out.2 h2; rw [U.out.2] at this; exact this
    have V := Lib.hid (show (0 < b → 0 ≤ r ∧ r < b) ∧ (b < 0 → b < r ∧ r ≤ 0) from ⟨fun h => by omega, fun _ => g⟩)
    obtain ⟨g1, g2⟩ := g
    have hd1 : decide (r < 0) = true := by simp; omega
    have hd2 : decide (b < 0) = true := by simp; omega
    cases x <;> cases y <;> (try (simp at hxy; done))
    all_goals
      clear hxy
      go_enter Tryd.func31, Tryd.ntmps31
      go_wp2_with fail
      go_quiet (fail)
      go_wp2_with fail
      refine (never_c _ _ _).mono ?_
      rintro e w' ⟨rfl, rfl⟩
      go_wp2_with fail
      go_ret2
      exact ⟨ret_ib U.out.1.symm rfl, by repeat (first | exact Q.refl _ | refine Q.drewN ?_ _ | refine Q.drew ?_ | refine Q.alloc ?_ _)⟩
  · have e := fq_yes hadj
    rw [hq, hr] at e
    have U := Lib.hid e; clear e hadj
    have g : b < r + b ∧ r + b ≤ 0 := by have := R.out.2 h2; rw [U.out.2] at this; exact this
    have V := Lib.hid (show (0 < b → 0 ≤ r + b ∧ r + b < b) ∧ (b < 0 → b < r + b ∧ r + b ≤ 0) from ⟨fun h => by omega, fun _ => g⟩)
    obtain ⟨g1, g2⟩ := g
    have hd1 : decide (r < 0) = false := by simp; omega
    have hd2 : decide (b < 0) = true := by simp; omega
    cases x <;> cases y <;> (try (simp at hxy; done))
    all_goals
      clear hxy
      go_enter Tryd.func31, Tryd.ntmps31
      go_wp2_with fail
      go_quiet (fail)
      go_wp2_with fail
      refine (never_c _ _ _).mono ?_
      rintro e w' ⟨rfl, rfl⟩
      go_wp2_with fail
      go_ret2
      exact ⟨ret_ib U.out.1.symm rfl, by repeat (first | exact Q.refl _ | refine Q.drewN ?_ _ | refine Q.drew ?_ | refine Q.alloc ?_ _)⟩
  · have e := fq_yes hadj
    rw [hq, hr] at e
    have U := Lib.hid e; clear e hadj
    have g : 0 ≤ r + b ∧ r + b < b := by have := R.out.1 h2; rw [U.out.2] at this; exact this
    have V := Lib.hid (show (0 < b → 0 ≤ r + b ∧ r + b < b) ∧ (b < 0 → b < r + b ∧ r + b ≤ 0) from ⟨fun _ => g, fun h => by omega⟩)
    obtain ⟨g1, g2⟩ := g
    have hd1 : decide (r < 0) = true := by simp; omega
    have hd2 : decide (b < 0) = false := by simp; omega
    cases x <;> cases y <;> (try (simp at hxy; done))
    all_goals
      clear hxy
      go_enter Tryd.func31, Tryd.ntmps31
      go_wp2_with fail
      go_quiet (fail)
      go_wp2_with fail
      refine (never_c _ _ _).mono ?_
      rintro e w' ⟨rfl, rfl⟩
      go_wp2_with fail
      go_ret2
      exact ⟨ret_ib U.out.1.symm rfl, by repeat (first | exact Q.refl _ | refine Q.drewN ?_ _ | refine Q.drew ?_ | refine Q.alloc ?_ _)⟩
end Go.Proofs.YtedcimjhhcepmaaDoor
