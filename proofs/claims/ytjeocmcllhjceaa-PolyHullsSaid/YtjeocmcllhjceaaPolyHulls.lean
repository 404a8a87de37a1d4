/- For every list of points the law PolyHulls returns true: Hull returns the specified corners, asked for at most 100 points; and the examples hold. No condition. -/
import Derived.Test.YtjeocmcllhjceaaArgs
import Derived.Test.YtjeocmcllhjceaaRHull
set_option linter.unusedVariables false
set_option linter.unusedSimpArgs false
namespace Go.Proofs.Ytjeocmcllhjceaa
open Go.ChangeShapes Go.WideShapes Go.ChangeAt Go.RowKit Pm

set_option maxRecDepth 100000 in
set_option maxHeartbeats 1600000 in
theorem hulls_walk (w : World) (v : Value) (hv : ArgP w v) : Calls Try.prog 6 #[v] w fun e w' => e = .returned (.bool true) ∧ Below w.heap.size w w' := by
  obtain ⟨l, hr, hl, hf⟩ := hv
  have HR := Lib.hid hr
  have HL := Lib.hid hl
  obtain ⟨H, hH⟩ : ∃ e, hull l = e := ⟨_, rfl⟩
  have HH := Lib.hid hH
  have HHL := Lib.hid (show H.length ≤ maxLen by rw [← hH]; have := hull_len l; unfold maxLen; omega)
  clear hr hl hf hH
  obtain ⟨sm, hsm⟩ : ∃ b, decide (l.length ≤ 100) = b := ⟨_, rfl⟩
  have HSM := Lib.hid hsm
  clear hsm
  cases sm with
  | true =>
    go_enter Try.func6, Try.ntmps6
    go_wp2_with fail
    refine (few_c _ l true _ HR.out HL.out HSM).mono ?_; rintro E w1 ⟨rfl, rfl⟩
    go_wp2_with fail
    refine (Hull_c _ l _ HR.out HL.out).mono ?_; rintro E w1 ⟨v1, rfl, hr1, hq1⟩
    rw [HH.out] at hr1
    have Q1 := Lib.hid hq1
    have R1 := Lib.hid hr1
    clear hq1 hr1
    go_wp2_with fail
    refine (rHull_c _ l _ (RdG.q HR.out Q1.out) HL.out).mono ?_; rintro E w2 ⟨v2, rfl, hr2, hq2⟩
    rw [HH.out] at hr2
    have Q2 := Lib.hid (Q1.out.trans hq2)
    have S2 := Lib.hid (RdG.q R1.out hq2)
    have R2 := Lib.hid hr2
    clear hq2 hr2
    go_wp2_with fail
    refine (Same_c _ _ H H true (Lib.hid (by simp)) _ S2.out R2.out HHL.out HHL.out).mono ?_; rintro E w3 ⟨rfl, hq3⟩
    have Q3 := Lib.hid (Q2.out.trans hq3)
    clear hq3
    go_wp2_with fail
    refine (awake_c _).mono ?_; rintro E w7 ⟨rfl, hq7⟩
    go_wp2_with fail
    go_ret
    exact ⟨rfl, Q3.out.trans hq7⟩
  | false =>
    go_enter Try.func6, Try.ntmps6
    go_wp2_with fail
    refine (few_c _ l false _ HR.out HL.out HSM).mono ?_; rintro E w1 ⟨rfl, rfl⟩
    go_wp2_with fail
    refine (awake_c _).mono ?_; rintro E w5 ⟨rfl, hq5⟩
    go_wp2_with fail
    go_ret
    exact ⟨rfl, hq5⟩

namespace polyHulls
theorem own : ownKnob Try.prog.godebug = none := by kernel_rfl
set_option maxRecDepth 100000 in
set_option maxHeartbeats 800000 in
theorem lifted (os : Os) (started : os.Started) (H : Type) (enc : TypeId × Value → H) :
    ReturnsInHanded {} Try.checked os 6 .any (Rows.polyHullsSpec.pre6 enc Try.prog Try.f6 Rows.polyHullsRow.domain false) (Rows.polyHullsSpec.post enc Try.prog Try.f6 false true false false) := by
  refine returnsInHanded_of_change (C := Try.checked) own started (by kernel_rfl) Try.func6
    (ChangeSpec.witness6 (enc := enc) (C := Try.checked) false ⟨#[], #[.slice none 0 0], []⟩ 8 (by kernel_rfl) (by kernel_rfl) (by kernel_rfl) (by kernel_rfl)) ?_
  intro W base args ds gs before hval0 hW hcnd _
  have hval : ∀ (j : Nat) t v, Try.f6.params[j]? = some t → args[j]? = some v → Value.okWide Try.prog W .any base t v := hval0
  have hW' := hW
  obtain ⟨p, q, hA0, hV, rfl, hfz, hnd⟩ := hW
  have hA : DataW.TrodAll enc Try.prog W 0 (fun _ => true) true Try.f6.params.toList args.toList ds p := hA0
  rw [Try.params6] at hA hval
  obtain ⟨v0, vs0, d0, ds0, p0, q0, hargs, rfl, rfl, h0, r0⟩ := trodAll_cons hA
  obtain ⟨rfl, rfl, rfl⟩ := trodAll_nil r0
  obtain rfl : args = #[v0] := by cases args; simp_all
  obtain ⟨rfl, rfl⟩ := trodVars_none hV
  have a0 := open_pts (hval 0 22 v0 rfl rfl) h0
  clear hA0 hval0
  refine (hulls_walk W v0 a0).mono fun e W' ⟨he, bel⟩ => ?_
  subst he
  exact ⟨_, rfl, _, _, _, [], _, [], hW', trodAll_mk1 (shut_bool Try.underlying4 _), (trodAll_cons_mk (stays (by kernel_rfl) (of_decide_eq_true (by kernel_rfl)) h0 bel) trodAll_mk0), rfl, bel.frame _, fun h => by cases h⟩
theorem over : Rows.polyHullsRow.holds Try.pinned (OpenSpec.ofChange Rows.polyHullsSpec) :=
  OpenClaim.holds_of_wide 6 Try.f6 rfl rfl rfl rfl rfl rfl rfl ⟨rfl, rfl, rfl, rfl, rfl⟩ rfl rfl rfl rfl rfl (by kernel_rfl) Try.func6 (by kernel_rfl)
    (of_decide_eq_true (by kernel_rfl)) (by unfold Func.isWrapper; first | (rw [if_pos (by decide +kernel)]; kernel_rfl) | (rw [if_neg (by decide +kernel)]; exact ⟨rfl, rfl⟩))
    (fun os started H enc _ => lifted os started H enc)
theorem proved : Rows.PolyHullsSaid := over
end polyHulls

end Go.Proofs.Ytjeocmcllhjceaa
