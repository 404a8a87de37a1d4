/- The examples of the chapter. -/
import Derived.Test.YthpopopodjgdaaaDoorNew
import Derived.Test.YthpopopodjgdaaaDoorForm
set_option linter.unusedVariables false
set_option linter.unusedSimpArgs false
namespace Go.Proofs.YthpopopodjgdaaaDoor
open Go.ChangeShapes Go.WideShapes Go.ChangeAt Go.RowKit Km

theorem pts_one (w : World) (a b : Int) (T : TypeId) : RdP (w.alloc (.cells #[.int .i64 a, .int .i64 b] T)) (.slice (some ⟨w.heap.size, 0, none⟩) 1 1) [(a, b)] :=
  ⟨_, _, rfl, Nat.le_refl _, fun _ => ⟨w.heap.size, 0, rfl, by show w.heap.size < (w.heap.push _).size; simp, fun i x hx j u hu => by
    match i, hx with
    | 0, hx =>
      simp at hx; subst hx
      match j, hu with
      | 0, hu => have e : Value.int .i64 a = u := Option.some.inj hu; rw [← e]; exact World.cell?_alloc_at _ _ _ _ rfl
      | 1, hu => have e : Value.int .i64 b = u := Option.some.inj hu; rw [← e]; exact World.cell?_alloc_at _ _ _ _ rfl⟩⟩
def sh1 : List P := [(360, 840)]
theorem k0 : chk sh1 = 0 := by decide +kernel
theorem k1 : addS sh1 0 480 = (840, 0) := by decide +kernel
theorem k2 : addS sh1 0 481 = (10441, 0) := by decide +kernel
theorem k3 : nextS sh1 840 = (10440, 0) := by decide +kernel
theorem k4 : openS sh1 360 = true := by decide +kernel
theorem k5 : openS sh1 840 = false := by decide +kernel
theorem k6 : workS sh1 0 10080 = 480 := by decide +kernel
set_option maxRecDepth 100000 in
set_option maxHeartbeats 1600000 in
theorem awake_c (w : World) : Calls Tryd.prog 14 #[] w fun e w' => e = .returned (.bool true) ∧ Q w w' := by
  have C0 := Lib.hid (pts_one w 360 840 47)
  have HO := Lib.hid (chk_zero k0)
  go_enter Tryd.func14, Tryd.ntmps14
  go_wp2_with fail
  refine (New_c _ sh1 (Lib.hid k0) _ C0.out).mono ?_; rintro E w1 ⟨g, rfl, hc, hq1⟩
  have C1 := Lib.hid hc
  have Q1 := Lib.hid (show Q w w1 from ((Q.refl w).alloc _).trans hq1)
  clear hq1 hc
  go_wp2_with fail
  refine (Add_c g sh1 0 480 840 0 _ C1 HO (Lib.hid k1)).mono ?_; rintro E w2 ⟨rfl, hq⟩
  have C2 := Lib.hid (C1.out.q hq)
  have Q2 := Lib.hid (Q1.out.trans hq)
  clear hq
  go_wp2_with fail
  refine (Add_c g sh1 0 481 10441 0 _ C2 HO (Lib.hid k2)).mono ?_; rintro E w3 ⟨rfl, hq⟩
  have C3 := Lib.hid (C2.out.q hq)
  have Q3 := Lib.hid (Q2.out.trans hq)
  clear hq
  go_wp2_with fail
  refine (Next_c g sh1 840 10440 0 _ C3 HO (Lib.hid k3)).mono ?_; rintro E w4 ⟨rfl, hq⟩
  have C4 := Lib.hid (C3.out.q hq)
  have Q4 := Lib.hid (Q3.out.trans hq)
  clear hq
  go_wp2_with fail
  refine (parse_ex _).mono ?_; rintro E w5 ⟨rfl, hq⟩
  have C5 := Lib.hid (C4.out.q hq)
  have Q5 := Lib.hid (Q4.out.trans hq)
  clear hq
  go_wp2_with fail
  refine (Open_c g sh1 360 true _ C5 HO (Lib.hid k4)).mono ?_; rintro E w6 ⟨rfl, hq⟩
  have C6 := Lib.hid (C5.out.q hq)
  have Q6 := Lib.hid (Q5.out.trans hq)
  clear hq
  go_wp2_with fail
  refine (Open_c g sh1 840 false _ C6 HO (Lib.hid k5)).mono ?_; rintro E w7 ⟨rfl, hq⟩
  have C7 := Lib.hid (C6.out.q hq)
  have Q7 := Lib.hid (Q6.out.trans hq)
  clear hq
  go_wp2_with fail
  refine (Work_c g sh1 0 10080 480 _ C7 HO (Lib.hid k6)).mono ?_; rintro E w8 ⟨rfl, hq⟩
  have Q8 := Lib.hid (Q7.out.trans hq)
  clear hq
  go_wp2_with fail
  refine (format_ex _).mono ?_; rintro E w9 ⟨rfl, hq⟩
  have Q9 := Lib.hid (Q8.out.trans hq)
  clear hq
  have e9 : ((⟨#[100, 48, 32, 49, 52, 58, 48, 48]⟩ : ByteArray).toList == (⟨#[100, 48, 32, 49, 52, 58, 48, 48]⟩ : ByteArray).toList) = true := by simp
  go_wp2_with fail
  go_ret
  exact ⟨rfl, Q9.out⟩
end Go.Proofs.YthpopopodjgdaaaDoor
