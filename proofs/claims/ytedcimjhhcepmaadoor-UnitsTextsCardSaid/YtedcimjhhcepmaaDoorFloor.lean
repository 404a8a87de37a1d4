/- The contracts of Floor and Nearest, of both packages. -/
import Derived.Test.YtedcimjhhcepmaaDoorQuotF
import Derived.Test.YtedcimjhhcepmaaDoorQuotH
set_option linter.unusedVariables false
set_option linter.unusedSimpArgs false
namespace Go.Proofs.YtedcimjhhcepmaaDoor
open Go.ChangeShapes Go.WideShapes Go.ChangeAt Go.RowKit Um

/-- is there a quotient that an int holds? -/
def dOk (a b : Int) : Bool := !(decide (b = 0) || (decide (a = -9223372036854775808) && decide (b = -1)))
def flo (a b : Int) : Int := if dOk a b then fq a b else 0
def nea (a b : Int) : Int := if dOk a b then nq a b else 0
theorem d_yes {a b : Int} (hb : b ≠ 0) (hm : ¬ (a = -9223372036854775808 ∧ b = -1)) : dOk a b = true := by
  unfold dOk; rw [decide_eq_false hb]; simp; omega
theorem d_zero {a b : Int} (h : b = 0) : dOk a b = false := by unfold dOk; simp [h]
theorem d_min {a b : Int} (h : a = -9223372036854775808) (g : b = -1) : dOk a b = false := by unfold dOk; simp [h, g]
theorem d_inv {a b : Int} (h : dOk a b = true) : b ≠ 0 ∧ ¬ (a = -9223372036854775808 ∧ b = -1) := by
  constructor
  · intro g; rw [d_zero g] at h; cases h
  · intro g; rw [d_min g.1 g.2] at h; cases h
theorem quotF_no (a b : Int) (w : World) (h : dOk a b = false) :
    Calls Tryd.prog 31 #[.agg #[.func (.func 30) #[] #[]], .int .i64 a, .int .i64 b] w fun e w' => e = .returned (.tuple #[.int .i64 0, .bool false]) ∧ Q w w' := by
  by_cases hb : b = 0
  · have hb1 : (b == 0) = true := by simpa using hb
    clear h hb
    go_enter Tryd.func31, Tryd.ntmps31
    go_wp2_with fail
    go_ret2
    exact ⟨rfl, by repeat (first | exact Q.refl _ | refine Q.drewN ?_ _ | refine Q.drew ?_ | refine Q.alloc ?_ _)⟩
  · have hb1 : (b == 0) = false := by simpa using hb
    have hm : a = -9223372036854775808 ∧ b = -1 := by
      refine Decidable.byContradiction fun g => ?_
      rw [d_yes hb g] at h; cases h
    have h1 : (a == -9223372036854775808) = true := by rw [beq_iff_eq]; exact hm.1
    have h2 : (b == -1) = true := by rw [beq_iff_eq]; exact hm.2
    clear h hb hm
    go_enter Tryd.func31, Tryd.ntmps31
    go_wp2_with fail
    go_ret2
    exact ⟨rfl, by repeat (first | exact Q.refl _ | refine Q.drewN ?_ _ | refine Q.drew ?_ | refine Q.alloc ?_ _)⟩
theorem quotH_no (a b : Int) (w : World) (h : dOk a b = false) :
    Calls Tryd.prog 31 #[.agg #[.func (.func 32) #[] #[]], .int .i64 a, .int .i64 b] w fun e w' => e = .returned (.tuple #[.int .i64 0, .bool false]) ∧ Q w w' := by
  by_cases hb : b = 0
  · have hb1 : (b == 0) = true := by simpa using hb
    clear h hb
    go_enter Tryd.func31, Tryd.ntmps31
    go_wp2_with fail
    go_ret2
    exact ⟨rfl, by repeat (first | exact Q.refl _ | refine Q.drewN ?_ _ | refine Q.drew ?_ | refine Q.alloc ?_ _)⟩
  · have hb1 : (b == 0) = false := by simpa using hb
    have hm : a = -9223372036854775808 ∧ b = -1 := by
      refine Decidable.byContradiction fun g => ?_
      rw [d_yes hb g] at h; cases h
    have h1 : (a == -9223372036854775808) = true := by rw [beq_iff_eq]; exact hm.1
    have h2 : (b == -1) = true := by rw [beq_iff_eq]; exact hm.2
    clear h hb hm
    go_enter Tryd.func31, Tryd.ntmps31
    go_wp2_with fail
    go_ret2
    exact ⟨rfl, by repeat (first | exact Q.refl _ | refine Q.drewN ?_ _ | refine Q.drew ?_ | refine Q.alloc ?_ _)⟩
theorem quotF_all (a b : Int) (w : World) (fa : Fit a) (fb : Fit b) :
    Calls Tryd.prog 31 #[.agg #[.func (.func 30) #[] #[]], .int .i64 a, .int .i64 b] w fun e w' => e = .returned (.tuple #[.int .i64 (flo a b), .bool (dOk a b)]) ∧ Q w w' := by
  cases h : dOk a b with
  | false => exact (quotF_no a b w h).mono fun _ _ ⟨x, y⟩ => ⟨by rw [x]; unfold flo; rw [h]; rfl, y⟩
  | true => exact (quotF_c a b w fa fb (d_inv h).1 (d_inv h).2).mono fun _ _ ⟨x, y⟩ => ⟨by rw [x]; unfold flo; rw [h]; rfl, y⟩
theorem quotH_all (a b : Int) (w : World) (fa : Fit a) (fb : Fit b) :
    Calls Tryd.prog 31 #[.agg #[.func (.func 32) #[] #[]], .int .i64 a, .int .i64 b] w fun e w' => e = .returned (.tuple #[.int .i64 (nea a b), .bool (dOk a b)]) ∧ Q w w' := by
  cases h : dOk a b with
  | false => exact (quotH_no a b w h).mono fun _ _ ⟨x, y⟩ => ⟨by rw [x]; unfold nea; rw [h]; rfl, y⟩
  | true => exact (quotH_c a b w fa fb (d_inv h).1 (d_inv h).2).mono fun _ _ ⟨x, y⟩ => ⟨by rw [x]; unfold nea; rw [h]; rfl, y⟩
theorem Floor_c (a b : Int) (w : World) (fa : Fit a) (fb : Fit b) :
    Calls Tryd.prog 12 #[.int .i64 a, .int .i64 b] w fun e w' => e = .returned (.tuple #[.int .i64 (flo a b), .bool (dOk a b)]) ∧ Q w w' := by
  have FA := Lib.hid fa
  have FB := Lib.hid fb
  clear fa fb
  go_enter Tryd.func12, Tryd.ntmps12
  go_wp2_with fail
  refine (quotF_all a b _ FA.out FB.out).mono ?_; rintro e w' ⟨rfl, hq⟩
  go_wp2_with fail
  go_ret2
  exact ⟨rfl, hq⟩
theorem Nearest_c (a b : Int) (w : World) (fa : Fit a) (fb : Fit b) :
    Calls Tryd.prog 13 #[.int .i64 a, .int .i64 b] w fun e w' => e = .returned (.tuple #[.int .i64 (nea a b), .bool (dOk a b)]) ∧ Q w w' := by
  have FA := Lib.hid fa
  have FB := Lib.hid fb
  clear fa fb
  go_enter Tryd.func13, Tryd.ntmps13
  go_wp2_with fail
  refine (quotH_all a b _ FA.out FB.out).mono ?_; rintro e w' ⟨rfl, hq⟩
  go_wp2_with fail
  go_ret2
  exact ⟨rfl, hq⟩
end Go.Proofs.YtedcimjhhcepmaaDoor
