/- The examples of the chapter hold: the contract of awake. -/
import Derived.Test.YtnejobcbhddpoaaLaw
set_option linter.unusedVariables false
set_option linter.unusedSimpArgs false
namespace Go.Proofs.Ytnejobcbhddpoaa
open Go.ChangeShapes Go.WideShapes Go.ChangeAt Go.RowKit Wm

def ex1 : ByteArray := ⟨#[172, 2, 5]⟩
def ex2 : ByteArray := ⟨#[2, 97, 98]⟩
theorem ex_u : NU ex1 0 300 2 0 := ⟨by decide +kernel, by decide +kernel, by decide +kernel⟩
theorem ex_i : NI ex1 (0 + 2) (-10) 10 (-3) 1 0 := ⟨by decide +kernel, by decide +kernel, by decide +kernel⟩
theorem ex_e : eT ex2 0 1 = 4 := by decide +kernel
theorem ex_t : NT ex2 0 1 ByteArray.empty 0 4 := ⟨by unfold tT; rw [ex_e]; rfl, by unfold lT; rw [ex_e]; rfl, ex_e⟩
theorem aw1 (w : World) : Calls Try.prog 12 #[.int .u64 300] w fun e w' => e = .returned (.string ⟨#[172, 2]⟩) ∧ Q w w' :=
  (Uint_c 300 w (by decide)).mono fun _ _ ⟨a, b⟩ => ⟨by rw [a, show uv 300 = [172, 2] by rw [uv_ge (by decide), uv_lt (by decide)]; rfl]; rfl, b⟩
theorem aw2 (w : World) : Calls Try.prog 14 #[.int .i64 (-3)] w fun e w' => e = .returned (.string ⟨#[5]⟩) ∧ Q w w' :=
  (Int_c (-3) w (by unfold Fit; omega)).mono fun _ _ ⟨a, b⟩ => ⟨by rw [a, show uv (zz (-3)) = [5] by rw [show zz (-3) = 5 from rfl, uv_lt (by decide)]; rfl]; rfl, b⟩
theorem aw3 (w : World) : Calls Try.prog 17 #[.string ⟨#[97, 98]⟩] w fun e w' => e = .returned (.string ⟨#[2, 97, 98]⟩) ∧ Q w w' :=
  (Text_c ⟨#[97, 98]⟩ w (by decide)).mono fun _ _ ⟨a, b⟩ => ⟨by rw [a]; unfold txS; rw [show (ByteArray.mk #[97, 98]).size = 2 from rfl, uv_lt (by decide)]; rfl, b⟩
theorem aw4 (w : World) (v : Value) (h : RdI w v [1, -1]) : Calls Try.prog 19 #[v] w fun e w' => e = .returned (.string ⟨#[2, 2, 1]⟩) ∧ Q w w' :=
  (Ints_c v [1, -1] w h (by decide) (by intro z hz; simp at hz; unfold Fit; omega)).mono fun _ _ ⟨a, b⟩ => ⟨by
    rw [a]; unfold insL bodyI
    rw [show [(1 : Int), -1].length = 2 from rfl, uv_lt (by decide)]
    simp only [List.flatMap_cons, List.flatMap_nil]
    rw [show zz 1 = 2 from rfl, show zz (-1) = 1 from rfl, uv_lt (by decide), uv_lt (by decide)]; rfl, b⟩
theorem rdI_new (w : World) (T : TypeId) : RdI (w.alloc (.cells #[.int .i64 1, .int .i64 (-1)] T)) (.slice (some ⟨w.heap.size, 0, none⟩) 2 2) [1, -1] :=
  ⟨_, 2, rfl, Nat.le_refl _, fun _ => ⟨w.heap.size, 0, rfl, by simp, fun i z hz => by
    match i, hz with
    | 0, hz => simp at hz; subst hz; exact World.cell?_alloc_at _ _ _ _ rfl
    | 1, hz => simp at hz; subst hz; exact World.cell?_alloc_at _ _ _ _ rfl
    | i + 2, hz => simp at hz⟩⟩
set_option maxRecDepth 100000 in
set_option maxHeartbeats 1600000 in
theorem awake_c (w : World) : Calls Try.prog 16 #[] w fun e w' => e = .returned (.bool true) ∧ Q w w' := by
  go_enter Try.func16, Try.ntmps16
  go_wp2_with fail
  refine (New_c ex1 _).mono ?_; rintro e w1 ⟨b, rfl, hb, hr1, hq1⟩
  have R1 := Lib.hid hr1
  have Q1 := Lib.hid hq1
  clear hr1 hq1
  go_wp2_with fail
  refine (mUint_ok ex1 0 b 300 2 0 _ (by decide) (Lib.hid ex_u) R1.out).mono ?_; rintro e w2 ⟨rfl, hr2, hg2⟩
  have R2 := Lib.hid hr2
  have Q2 := Lib.hid (G.below Q1.out hg2 hb Q1.out.size)
  clear hr2 hg2
  go_wp2_with fail
  refine (mInt_ok ex1 (0 + 2) b (-10) 10 (-3) 1 0 _ (by decide) (Lib.hid ex_i) R2.out).mono ?_; rintro e w3 ⟨rfl, hr3, hg3⟩
  have R3 := Lib.hid hr3
  have Q3 := Lib.hid (G.below Q2.out hg3 hb Q2.out.size)
  clear hr3 hg3
  go_wp2_with fail
  refine (End_c ex1 (0 + 2 + 1) 0 b _ (by decide) R3.out).mono ?_; rintro e w4 ⟨rfl, rfl⟩
  rw [show endE ex1 (0 + 2 + 1) 0 = 0 by decide]
  go_wp2_with fail
  refine (New_c ex2 _).mono ?_; rintro e w5 ⟨b2, rfl, hb2, hr5, hq5⟩
  have R5 := Lib.hid hr5
  have Q5 := Lib.hid (Below.trans Q3.out (Below.mono hq5 Q3.out.size))
  have HB2 := Lib.hid (show w.heap.size ≤ b2 from Nat.le_trans Q3.out.size hb2)
  clear hr5 hq5 hb2
  go_wp2_with fail
  refine (mText_ok ex2 0 b2 1 ByteArray.empty 0 4 _ (by decide) (by decide) (by unfold Fit; omega) (Lib.hid ex_t) R5.out).mono ?_; rintro e w6 ⟨rfl, hr6, hg6⟩
  have R6 := Lib.hid hr6
  have Q6 := Lib.hid (G.below Q5.out hg6 HB2.out Q5.out.size)
  clear hr6 hg6
  go_wp2_with fail
  refine (Err_c ex2 (0 + 0) 4 b2 _ R6.out).mono ?_; rintro e w7 ⟨rfl, rfl⟩
  have he : (ByteArray.empty.toList == (ByteArray.mk #[]).toList) = true := by rw [beq_iff_eq]; rfl
  go_wp2_with fail
  refine (Left_c ex2 (0 + 0) 4 b2 _ (by decide) R6.out).mono ?_; rintro e w8 ⟨rfl, rfl⟩
  rw [show ex2.size - (0 + 0) = 3 by decide]
  go_wp2_with fail
  refine (aw1 _).mono ?_; rintro e w9 ⟨rfl, hq9⟩
  go_wp2_with fail
  refine (aw2 _).mono ?_; rintro e w10 ⟨rfl, hq10⟩
  go_wp2_with fail
  refine (aw3 _).mono ?_; rintro e w11 ⟨rfl, hq11⟩
  go_wp2_with fail
  refine (aw4 _ _ (rdI_new _ _)).mono ?_; rintro e w12 ⟨rfl, hq12⟩
  go_wp2_with fail
  go_ret
  exact ⟨rfl, Below.trans Q6.out (Below.mono (((hq9.trans hq10).trans hq11).trans (((Q.refl _).alloc _).trans hq12)) Q6.out.size)⟩
end Go.Proofs.Ytnejobcbhddpoaa
