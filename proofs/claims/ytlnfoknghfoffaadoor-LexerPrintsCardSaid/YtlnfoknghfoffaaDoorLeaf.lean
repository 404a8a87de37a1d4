/- The contracts of the lexer's small functions and of the reference's. -/
import Derived.Test.YtlnfoknghfoffaaDoorGap
set_option linter.unusedVariables false
set_option linter.unusedSimpArgs false
namespace Go.Proofs.YtlnfoknghfoffaaDoor
open Go.ChangeShapes Go.WideShapes Go.ChangeAt Go.RowKit Lm

def dg (z : Int) : Bool := decide (48 ≤ z ∧ z ≤ 57)
def lt (z : Int) : Bool := decide ((97 ≤ z ∧ z ≤ 122) ∨ (65 ≤ z ∧ z ≤ 90) ∨ z = 95)
def nm (z : Int) : Bool := lt z || dg z
theorem isDigit_c (z : Int) (w : World) : Calls Tryd.prog 31 #[.int .i32 z] w fun E w' => E = .returned (.bool (dg z)) ∧ w = w' := by
  unfold dg
  by_cases h1 : 48 ≤ z
  · by_cases h2 : z ≤ 57
    · have HE := Lib.hid (show decide (48 ≤ z ∧ z ≤ 57) = true from decide_eq_true ⟨h1, h2⟩)
      go_enter Tryd.func31, Tryd.ntmps31
      go_wp2_with fail
      go_ret
      exact ⟨ret_bool (by first | exact HE.out.symm | rfl | (simp; omega)), rfl⟩
    · have HE := Lib.hid (show decide (48 ≤ z ∧ z ≤ 57) = false from decide_eq_false (by omega))
      go_enter Tryd.func31, Tryd.ntmps31
      go_wp2_with fail
      go_ret
      exact ⟨ret_bool (by first | exact HE.out.symm | rfl | (simp; omega)), rfl⟩
  · have HE := Lib.hid (show decide (48 ≤ z ∧ z ≤ 57) = false from decide_eq_false (by omega))
    go_enter Tryd.func31, Tryd.ntmps31
    go_wp2_with fail
    go_ret
    exact ⟨ret_bool (by first | exact HE.out.symm | rfl | (simp; omega)), rfl⟩
/-- the five ways of a byte through the tests on letters -/
theorem five_ways (z : Int) : (97 ≤ z ∧ z ≤ 122) ∨ (97 ≤ z ∧ ¬ z ≤ 122 ∧ 65 ≤ z ∧ ¬ z ≤ 90 ∧ z ≠ 95) ∨ (¬ 97 ≤ z ∧ 65 ≤ z ∧ z ≤ 90) ∨ (¬ 97 ≤ z ∧ 65 ≤ z ∧ ¬ z ≤ 90 ∧ z = 95) ∨ (¬ 97 ≤ z ∧ 65 ≤ z ∧ ¬ z ≤ 90 ∧ z ≠ 95) ∨ (¬ 97 ≤ z ∧ ¬ 65 ≤ z ∧ z ≠ 95) := by omega
theorem isLetter_c (z : Int) (w : World) : Calls Tryd.prog 34 #[.int .i32 z] w fun E w' => E = .returned (.bool (lt z)) ∧ w = w' := by
  unfold lt
  rcases five_ways z with ⟨h1, h2⟩ | ⟨h1, h2, h3, h4, h5⟩ | ⟨h1, h2, h3⟩ | ⟨h1, h2, h3, h4⟩ | ⟨h1, h2, h3, h4⟩ | ⟨h1, h2, h3⟩
  · have HE := Lib.hid (show decide ((97 ≤ z ∧ z ≤ 122) ∨ (65 ≤ z ∧ z ≤ 90) ∨ z = 95) = true from decide_eq_true (by omega))
    go_enter Tryd.func34, Tryd.ntmps34
    go_wp2_with fail
    go_ret
    exact ⟨ret_bool (by first | exact HE.out.symm | rfl | (simp; omega)), rfl⟩
  · have HE := Lib.hid (show decide ((97 ≤ z ∧ z ≤ 122) ∨ (65 ≤ z ∧ z ≤ 90) ∨ z = 95) = false from decide_eq_false (by omega))
    have h6 : (z == 95) = false := by simp; omega
    go_enter Tryd.func34, Tryd.ntmps34
    go_wp2_with fail
    go_ret
    exact ⟨ret_bool (by first | exact HE.out.symm | rfl | (simp; omega)), rfl⟩
  · have HE := Lib.hid (show decide ((97 ≤ z ∧ z ≤ 122) ∨ (65 ≤ z ∧ z ≤ 90) ∨ z = 95) = true from decide_eq_true (by omega))
    go_enter Tryd.func34, Tryd.ntmps34
    go_wp2_with fail
    go_ret
    exact ⟨ret_bool (by first | exact HE.out.symm | rfl | (simp; omega)), rfl⟩
  · have HE := Lib.hid (show decide ((97 ≤ z ∧ z ≤ 122) ∨ (65 ≤ z ∧ z ≤ 90) ∨ z = 95) = true from decide_eq_true (by omega))
    have h6 : (z == 95) = true := by simp; omega
    go_enter Tryd.func34, Tryd.ntmps34
    go_wp2_with fail
    go_ret
    exact ⟨ret_bool (by first | exact HE.out.symm | rfl | (simp; omega)), rfl⟩
  · have HE := Lib.hid (show decide ((97 ≤ z ∧ z ≤ 122) ∨ (65 ≤ z ∧ z ≤ 90) ∨ z = 95) = false from decide_eq_false (by omega))
    have h6 : (z == 95) = false := by simp; omega
    go_enter Tryd.func34, Tryd.ntmps34
    go_wp2_with fail
    go_ret
    exact ⟨ret_bool (by first | exact HE.out.symm | rfl | (simp; omega)), rfl⟩
  · have HE := Lib.hid (show decide ((97 ≤ z ∧ z ≤ 122) ∨ (65 ≤ z ∧ z ≤ 90) ∨ z = 95) = false from decide_eq_false (by omega))
    have h6 : (z == 95) = false := by simp; omega
    go_enter Tryd.func34, Tryd.ntmps34
    go_wp2_with fail
    go_ret
    exact ⟨ret_bool (by first | exact HE.out.symm | rfl | (simp; omega)), rfl⟩
theorem isOfName_c (z : Int) (w : World) : Calls Tryd.prog 36 #[.int .i32 z] w fun E w' => E = .returned (.bool (nm z)) ∧ w = w' := by
  unfold nm
  have H1 := Lib.hid (fun w => isLetter_c z w)
  have H2 := Lib.hid (fun w => isDigit_c z w)
  obtain ⟨a, ha⟩ : ∃ a, lt z = a := ⟨_, rfl⟩
  obtain ⟨b, hb⟩ : ∃ b, dg z = b := ⟨_, rfl⟩
  rw [ha] at H1
  rw [hb] at H2
  rw [ha, hb]
  clear ha hb
  cases a with
  | true =>
    go_enter Tryd.func36, Tryd.ntmps36
    go_wp2_with fail
    refine (H1.out _).mono ?_; rintro E w1 ⟨rfl, rfl⟩
    go_wp2_with fail
    go_ret
    exact ⟨rfl, rfl⟩
  | false =>
    go_enter Tryd.func36, Tryd.ntmps36
    go_wp2_with fail
    refine (H1.out _).mono ?_; rintro E w1 ⟨rfl, rfl⟩
    go_wp2_with fail
    refine (H2.out _).mono ?_; rintro E w1 ⟨rfl, rfl⟩
    go_wp2_with fail
    go_ret
    exact ⟨rfl, rfl⟩
theorem Digit_c (z : Int) (w : World) : Calls Tryd.prog 25 #[.int .u8 z] w fun E w' => E = .returned (.bool (dg z)) ∧ w = w' := by
  unfold dg
  by_cases h1 : 48 ≤ z
  · by_cases h2 : z ≤ 57
    · have HE := Lib.hid (show decide (48 ≤ z ∧ z ≤ 57) = true from decide_eq_true ⟨h1, h2⟩)
      go_enter Tryd.func25, Tryd.ntmps25
      go_wp2_with fail
      go_ret
      exact ⟨ret_bool (by first | exact HE.out.symm | rfl | (simp; omega)), rfl⟩
    · have HE := Lib.hid (show decide (48 ≤ z ∧ z ≤ 57) = false from decide_eq_false (by omega))
      go_enter Tryd.func25, Tryd.ntmps25
      go_wp2_with fail
      go_ret
      exact ⟨ret_bool (by first | exact HE.out.symm | rfl | (simp; omega)), rfl⟩
  · have HE := Lib.hid (show decide (48 ≤ z ∧ z ≤ 57) = false from decide_eq_false (by omega))
    go_enter Tryd.func25, Tryd.ntmps25
    go_wp2_with fail
    go_ret
    exact ⟨ret_bool (by first | exact HE.out.symm | rfl | (simp; omega)), rfl⟩
theorem Letter_c (z : Int) (w : World) : Calls Tryd.prog 27 #[.int .u8 z] w fun E w' => E = .returned (.bool (nm z)) ∧ w = w' := by
  have H2 := Lib.hid (fun w => Digit_c z w)
  obtain ⟨b, hb⟩ : ∃ b, dg z = b := ⟨_, rfl⟩
  have yes : lt z = true → true = nm z := fun h => by unfold nm; rw [h]; rfl
  have no : lt z = false → b = nm z := fun h => by unfold nm; rw [h, hb]; rfl
  unfold lt at yes no
  rw [hb] at H2
  clear hb
  rcases five_ways z with ⟨h1, h2⟩ | ⟨h1, h2, h3, h4, h5⟩ | ⟨h1, h2, h3⟩ | ⟨h1, h2, h3, h4⟩ | ⟨h1, h2, h3, h4⟩ | ⟨h1, h2, h3⟩
  · have HE := Lib.hid (yes (decide_eq_true (by omega)))
    clear yes no
    go_enter Tryd.func27, Tryd.ntmps27
    go_wp2_with fail
    go_ret
    exact ⟨ret_bool (by first | exact HE.out | (rw [← HE.out]; simp; omega) | rfl), rfl⟩
  · have HE := Lib.hid (no (decide_eq_false (by omega)))
    have h6 : (z == 95) = false := by simp; omega
    clear yes no
    go_enter Tryd.func27, Tryd.ntmps27
    go_wp2_with fail
    refine (H2.out _).mono ?_; rintro E w1 ⟨rfl, rfl⟩
    go_wp2_with fail
    go_ret
    exact ⟨ret_bool (by first | exact HE.out | (rw [← HE.out]; simp; omega) | rfl), rfl⟩
  · have HE := Lib.hid (yes (decide_eq_true (by omega)))
    clear yes no
    go_enter Tryd.func27, Tryd.ntmps27
    go_wp2_with fail
    go_ret
    exact ⟨ret_bool (by first | exact HE.out | (rw [← HE.out]; simp; omega) | rfl), rfl⟩
  · have HE := Lib.hid (yes (decide_eq_true (by omega)))
    have h6 : (z == 95) = true := by simp; omega
    clear yes no
    go_enter Tryd.func27, Tryd.ntmps27
    go_wp2_with fail
    go_ret
    exact ⟨ret_bool (by first | exact HE.out | (rw [← HE.out]; simp; omega) | rfl), rfl⟩
  · have HE := Lib.hid (no (decide_eq_false (by omega)))
    have h6 : (z == 95) = false := by simp; omega
    clear yes no
    go_enter Tryd.func27, Tryd.ntmps27
    go_wp2_with fail
    refine (H2.out _).mono ?_; rintro E w1 ⟨rfl, rfl⟩
    go_wp2_with fail
    go_ret
    exact ⟨ret_bool (by first | exact HE.out | (rw [← HE.out]; simp; omega) | rfl), rfl⟩
  · have HE := Lib.hid (no (decide_eq_false (by omega)))
    have h6 : (z == 95) = false := by simp; omega
    clear yes no
    go_enter Tryd.func27, Tryd.ntmps27
    go_wp2_with fail
    refine (H2.out _).mono ?_; rintro E w1 ⟨rfl, rfl⟩
    go_wp2_with fail
    go_ret
    exact ⟨ret_bool (by first | exact HE.out | (rw [← HE.out]; simp; omega) | rfl), rfl⟩
end Go.Proofs.YtlnfoknghfoffaaDoor
