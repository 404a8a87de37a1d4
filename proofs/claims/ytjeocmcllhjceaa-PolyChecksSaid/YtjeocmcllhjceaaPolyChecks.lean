/- For every list of points the law PolyChecks returns true: Check, Area2 and Bounds return the specified results, asked for at most 100 points; and the examples hold. No condition. -/
import Derived.Test.YtjeocmcllhjceaaArgs
import Derived.Test.YtjeocmcllhjceaaRA
import Derived.Test.YtjeocmcllhjceaaRBounds
import Derived.Test.YtjeocmcllhjceaaRectEq
set_option linter.unusedVariables false
set_option linter.unusedSimpArgs false
namespace Go.Proofs.Ytjeocmcllhjceaa
open Go.ChangeShapes Go.WideShapes Go.ChangeAt Go.RowKit Pm

set_option maxRecDepth 100000 in
set_option maxHeartbeats 1600000 in
theorem checks_walk (w : World) (v : Value) (hv : ArgP w v) : Calls Try.prog 3 #[v] w fun e w' => e = .returned (.bool true) ∧ Below w.heap.size w w' := by
  have q1 := eqRectG
  have q2 := eqGr
  obtain ⟨l, hr, hl, hf⟩ := hv
  have HR := Lib.hid hr
  have HL := Lib.hid hl
  obtain ⟨e, he⟩ : ∃ e, chk l = e := ⟨_, rfl⟩
  obtain ⟨a, ha⟩ : ∃ e, ar2 l = e := ⟨_, rfl⟩
  obtain ⟨⟨⟨b1, b2⟩, b3, b4⟩, hb⟩ : ∃ b, bnd l = b := ⟨_, rfl⟩
  have HE := Lib.hid he
  have HA := Lib.hid ha
  have HB := Lib.hid hb
  have t0 : ((e : Int) == (e : Int)) = true := by simp
  have t1 : (a == a) = true := by simp
  have t2 : (b1 == b1 && b2 == b2 && (b3 == b3 && b4 == b4)) = true := by simp
  have C1 := Lib.hid (fun W hr => show Calls Try.prog 18 #[v] W fun e w' => e = .returned (.agg #[.int .i64 b1, .int .i64 b2, .int .i64 b3, .int .i64 b4]) ∧ Q W w' from Bounds_c v l ((b1, b2), b3, b4) HB W hr hl)
  have C2 := Lib.hid (fun W hr => show Calls Try.prog 19 #[v] W fun e w' => e = .returned (.agg #[.int .i64 b1, .int .i64 b2, .int .i64 b3, .int .i64 b4]) ∧ Q W w' from rBounds_c v l ((b1, b2), b3, b4) HB W hr hl)
  clear hr hl hf he ha hb
  obtain ⟨sm, hsm⟩ : ∃ b, decide (l.length ≤ 100) = b := ⟨_, rfl⟩
  have HSM := Lib.hid hsm
  clear hsm
  cases sm with
  | true =>
    go_enter Try.func3, Try.ntmps3
    go_wp2_with fail
    refine (few_c _ l true _ HR.out HL.out HSM).mono ?_; rintro E w1 ⟨rfl, rfl⟩
    go_wp2_with fail
    refine (Check_c _ l e HE _ HR.out HL.out).mono ?_; rintro E w1 ⟨rfl, hq1⟩
    have Q1 := Lib.hid hq1
    clear hq1
    go_wp2_with fail
    refine (rCheck_c _ l e HE _ (RdG.q HR.out Q1.out) HL.out).mono ?_; rintro E w2 ⟨rfl, hq2⟩
    have Q2 := Lib.hid (Q1.out.trans hq2)
    clear hq2
    go_wp2_with fail
    refine (Area2_c _ l a HA _ (RdG.q HR.out Q2.out) HL.out).mono ?_; rintro E w3 ⟨rfl, hq3⟩
    have Q3 := Lib.hid (Q2.out.trans hq3)
    clear hq3
    go_wp2_with fail
    refine (rArea2_c _ l a HA _ (RdG.q HR.out Q3.out) HL.out).mono ?_; rintro E w4 ⟨rfl, hq4⟩
    have Q4 := Lib.hid (Q3.out.trans hq4)
    clear hq4
    go_wp2_with fail
    refine (C1.out _ (RdG.q HR.out Q4.out)).mono ?_; rintro E w5 ⟨rfl, hq5⟩
    have Q5 := Lib.hid (Q4.out.trans hq5)
    clear hq5
    go_wp2_with fail
    refine (C2.out _ (RdG.q HR.out Q5.out)).mono ?_; rintro E w6 ⟨rfl, hq6⟩
    have Q6 := Lib.hid (Q5.out.trans hq6)
    clear hq6
    go_wp2_with fail
    refine (awake_c _).mono ?_; rintro E w7 ⟨rfl, hq7⟩
    go_wp2_with fail
    go_ret
    exact ⟨rfl, Q6.out.trans hq7⟩
  | false =>
    go_enter Try.func3, Try.ntmps3
    go_wp2_with fail
    refine (few_c _ l false _ HR.out HL.out HSM).mono ?_; rintro E w1 ⟨rfl, rfl⟩
    go_wp2_with fail
    refine (awake_c _).mono ?_; rintro E w5 ⟨rfl, hq5⟩
    go_wp2_with fail
    go_ret
    exact ⟨rfl, hq5⟩

namespace polyChecks
theorem own : ownKnob Try.prog.godebug = none := by kernel_rfl
set_option maxRecDepth 100000 in
set_option maxHeartbeats 800000 in
theorem lifted (os : Os) (started : os.Started) (H : Type) (enc : TypeId × Value → H) :
    ReturnsInHanded {} Try.checked os 3 .any (Rows.polyChecksSpec.pre6 enc Try.prog Try.f3 Rows.polyChecksRow.domain false) (Rows.polyChecksSpec.post enc Try.prog Try.f3 false true false false) := by
  refine returnsInHanded_of_change (C := Try.checked) own started (by kernel_rfl) Try.func3
    (ChangeSpec.witness6 (enc := enc) (C := Try.checked) false ⟨#[], #[.slice none 0 0], []⟩ 8 (by kernel_rfl) (by kernel_rfl) (by kernel_rfl) (by kernel_rfl)) ?_
  intro W base args ds gs before hval0 hW hcnd _
  have hval : ∀ (j : Nat) t v, Try.f3.params[j]? = some t → args[j]? = some v → Value.okWide Try.prog W .any base t v := hval0
  have hW' := hW
  obtain ⟨p, q, hA0, hV, rfl, hfz, hnd⟩ := hW
  have hA : DataW.TrodAll enc Try.prog W 0 (fun _ => true) true Try.f3.params.toList args.toList ds p := hA0
  rw [Try.params3] at hA hval
  obtain ⟨v0, vs0, d0, ds0, p0, q0, hargs, rfl, rfl, h0, r0⟩ := trodAll_cons hA
  obtain ⟨rfl, rfl, rfl⟩ := trodAll_nil r0
  obtain rfl : args = #[v0] := by cases args; simp_all
  obtain ⟨rfl, rfl⟩ := trodVars_none hV
  have a0 := open_pts (hval 0 22 v0 rfl rfl) h0
  clear hA0 hval0
  refine (checks_walk W v0 a0).mono fun e W' ⟨he, bel⟩ => ?_
  subst he
  exact ⟨_, rfl, _, _, _, [], _, [], hW', trodAll_mk1 (shut_bool Try.underlying4 _), (trodAll_cons_mk (stays (by kernel_rfl) (of_decide_eq_true (by kernel_rfl)) h0 bel) trodAll_mk0), rfl, bel.frame _, fun h => by cases h⟩
theorem over : Rows.polyChecksRow.holds Try.pinned (OpenSpec.ofChange Rows.polyChecksSpec) :=
  OpenClaim.holds_of_wide 3 Try.f3 rfl rfl rfl rfl rfl rfl rfl ⟨rfl, rfl, rfl, rfl, rfl⟩ rfl rfl rfl rfl rfl (by kernel_rfl) Try.func3 (by kernel_rfl)
    (of_decide_eq_true (by kernel_rfl)) (by unfold Func.isWrapper; first | (rw [if_pos (by decide +kernel)]; kernel_rfl) | (rw [if_neg (by decide +kernel)]; exact ⟨rfl, rfl⟩))
    (fun os started H enc _ => lifted os started H enc)
theorem proved : Rows.PolyChecksSaid := over
end polyChecks

end Go.Proofs.Ytjeocmcllhjceaa
