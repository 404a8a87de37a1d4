/- The contracts of twoDigits, and of Format and Parse at the chapter's examples. -/
import Derived.Test.YthpopopodjgdaaaDoorCut
set_option linter.unusedVariables false
set_option linter.unusedSimpArgs false
namespace Go.Proofs.YthpopopodjgdaaaDoor
open Go.ChangeShapes Go.WideShapes Go.ChangeAt Go.RowKit Km

def diS (n : Nat) : ByteArray := ⟨(Lib.decDigits n).toArray⟩
theorem itoa_s (n : Nat) (h : n < 100) (w : World) : Calls Tryd.prog 44 #[.int .i64 n] w fun e w' => e = .returned (.string (diS n)) ∧ w' = w := Tryd.strconv_Itoa_small n h w
def tdS (n : Nat) : ByteArray := if n < 10 then (⟨#[48]⟩ : ByteArray) ++ diS n else diS n
set_option maxHeartbeats 800000 in
theorem twoD_c (n : Nat) (h : n < 100) (w : World) : Calls Tryd.prog 45 #[.int .i64 n] w fun e w' => e = .returned (.string (tdS n)) ∧ w' = w := by
  by_cases h1 : n < 10
  · have i1 : decide ((n : Int) < 10) = true := decide_eq_true (by omega)
    have i2 : (n : Int) < 10 := by omega
    obtain ⟨t, ht⟩ : ∃ t, diS n = t := ⟨_, rfl⟩
    have HT := Lib.hid (show tdS n = (⟨#[48]⟩ : ByteArray) ++ t by unfold tdS; rw [if_pos h1, ht])
    have hsz : ¬ 9223372036854775807 < (⟨#[48]⟩ : ByteArray).size + t.size := by
      have h3 : ∀ k, k < 100 → (diS k).size ≤ 3 := by decide +kernel
      have := h3 n h
      rw [ht] at this
      show ¬ 9223372036854775807 < 1 + t.size
      omega
    go_enter Tryd.func45, Tryd.ntmps45
    go_wp2_with fail
    refine (itoa_s n h _).mono ?_; rintro E w1 ⟨rfl, rfl⟩
    rw [ht]
    go_wp2_with fail
    go_ret
    exact ⟨congrArg (fun t => Ending.returned (.string t)) HT.out.symm, rfl⟩
  · have i1 : decide ((n : Int) < 10) = false := decide_eq_false (by omega)
    have i2 : ¬ (n : Int) < 10 := by omega
    have HT := Lib.hid (show tdS n = diS n by unfold tdS; rw [if_neg h1])
    go_enter Tryd.func45, Tryd.ntmps45
    go_wp2_with fail
    refine (itoa_s n h _).mono ?_; rintro E w1 ⟨rfl, rfl⟩
    go_wp2_with fail
    go_ret
    exact ⟨congrArg (fun t => Ending.returned (.string t)) HT.out.symm, rfl⟩
theorem itoa0 (w : World) : Calls Tryd.prog 44 #[.int .i64 0] w fun e w' => e = .returned (.string ⟨#[48]⟩) ∧ w' = w :=
  (itoa_s 0 (by decide) w).mono fun _ _ ⟨a, b⟩ => ⟨a.trans (by rw [show diS 0 = ⟨#[48]⟩ by decide +kernel]), b⟩
theorem td14 (w : World) : Calls Tryd.prog 45 #[.int .i64 14] w fun e w' => e = .returned (.string ⟨#[49, 52]⟩) ∧ w' = w :=
  (twoD_c 14 (by decide) w).mono fun _ _ ⟨a, b⟩ => ⟨a.trans (by rw [show tdS 14 = ⟨#[49, 52]⟩ by decide +kernel]), b⟩
theorem td0 (w : World) : Calls Tryd.prog 45 #[.int .i64 0] w fun e w' => e = .returned (.string ⟨#[48, 48]⟩) ∧ w' = w :=
  (twoD_c 0 (by decide) w).mono fun _ _ ⟨a, b⟩ => ⟨a.trans (by rw [show tdS 0 = ⟨#[48, 48]⟩ by decide +kernel]), b⟩
theorem format_ex (w : World) : Calls Tryd.prog 28 #[.int .i64 840] w fun e w' => e = .returned (.string ⟨#[100, 48, 32, 49, 52, 58, 48, 48]⟩) ∧ Q w w' := by
  have q1 : Int.tdiv 840 1440 = 0 := by decide
  go_enter Tryd.func28, Tryd.ntmps28
  go_wp2_with fail
  refine (isTime_c 840 true (Lib.hid (by decide)) _).mono ?_; rintro E w1 ⟨rfl, rfl⟩
  go_wp2_with fail
  refine (itoa0 _).mono ?_; rintro E w2 ⟨rfl, rfl⟩
  go_wp2_with fail
  refine (td14 _).mono ?_; rintro E w3 ⟨rfl, rfl⟩
  go_wp2_with fail
  refine (td0 _).mono ?_; rintro E w4 ⟨rfl, rfl⟩
  go_wp2_with fail
  go_ret
  exact ⟨rfl, Q.refl _⟩
def ex0 : ByteArray := ⟨#[100, 54, 57, 52, 52, 32, 49, 48, 58, 52, 48]⟩
def ex1 : ByteArray := ⟨#[54, 57, 52, 52, 32, 49, 48, 58, 52, 48]⟩
def ex2 : ByteArray := ⟨#[54, 57, 52, 52, 32, 49, 48]⟩
def ex3 : ByteArray := ⟨#[52, 48]⟩
def ex4 : ByteArray := ⟨#[54, 57, 52, 52]⟩
def ex5 : ByteArray := ⟨#[49, 48]⟩
theorem x1 : ex0.extract 1 ex0.size = ex1 := by decide +kernel
theorem x2 : ex1.extract 0 7 = ex2 := by decide +kernel
theorem x3 : ex1.extract (7 + 1) ex1.size = ex3 := by decide +kernel
theorem x4 : ex2.extract 0 4 = ex4 := by decide +kernel
theorem x5 : ex2.extract (4 + 1) ex2.size = ex5 := by decide +kernel
theorem y1 : Lib.indexByte ex1.data.toList 58 = ((7 : Nat) : Int) := by decide +kernel
theorem y2 : Lib.indexByte ex2.data.toList 32 = ((4 : Nat) : Int) := by decide +kernel
theorem n1 : plS ex4 = (6944, true) := by decide +kernel
theorem n2 : twS ex5 24 = (10, true) := by decide +kernel
theorem n3 : twS ex3 60 = (40, true) := by decide +kernel
theorem p0 : ((ex0.extract 0 1).toList == [100]) = true := by decide +kernel
set_option maxHeartbeats 800000 in
theorem parse_ex (w : World) : Calls Tryd.prog 26 #[.string ex0] w fun e w' => e = .returned (.tuple #[.int .i64 10000000, .int .i64 0]) ∧ Q w w' := by
  go_enter Tryd.func26, Tryd.ntmps26
  go_wp2_with fail
  refine (pre_yes ex0 (by decide) (by decide) p0 _).mono ?_; rintro E w1 ⟨rfl, hq1⟩
  rw [x1]
  have Q1 := Lib.hid hq1
  clear hq1
  go_wp2_with fail
  refine (cut_yes ex1 58 7 (by decide) (by decide) (Lib.hid y1) _).mono ?_; rintro E w2 ⟨rfl, hq2⟩
  rw [x2, x3]
  have Q2 := Lib.hid (Q1.out.trans hq2)
  clear hq2
  go_wp2_with fail
  refine (cut_yes ex2 32 4 (by decide) (by decide) (Lib.hid y2) _).mono ?_; rintro E w3 ⟨rfl, hq3⟩
  rw [x4, x5]
  have Q3 := Lib.hid (Q2.out.trans hq3)
  clear hq3
  go_wp2_with fail
  refine (plain_c ex4 6944 true _ (by decide) (Lib.hid n1)).mono ?_; rintro E w4 ⟨rfl, hq4⟩
  have Q4 := Lib.hid (Q3.out.trans hq4)
  clear hq4
  go_wp2_with fail
  refine (two_c ex5 24 10 true _ (by decide) (by decide) (by decide) (Lib.hid n2)).mono ?_; rintro E w5 ⟨rfl, hq5⟩
  have Q5 := Lib.hid (Q4.out.trans hq5)
  clear hq5
  go_wp2_with fail
  refine (two_c ex3 60 40 true _ (by decide) (by decide) (by decide) (Lib.hid n3)).mono ?_; rintro E w6 ⟨rfl, hq6⟩
  have Q6 := Lib.hid (Q5.out.trans hq6)
  clear hq6
  go_wp2_with fail
  refine (asTime_c 10000000 10000000 0 (Lib.hid (by decide)) _).mono ?_; rintro E w7 ⟨rfl, rfl⟩
  go_wp2_with fail
  go_ret2
  exact ⟨rfl, Q6.out⟩
end Go.Proofs.YthpopopodjgdaaaDoor
