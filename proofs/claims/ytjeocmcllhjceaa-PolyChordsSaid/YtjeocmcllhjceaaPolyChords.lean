/- For every list of points and any two heights the law PolyChords returns true: Chord returns the specified span, asked for at most 100 points; and the examples hold. No condition. -/
import Derived.Test.YtjeocmcllhjceaaArgs
import Derived.Test.YtjeocmcllhjceaaRChord
set_option linter.unusedVariables false
set_option linter.unusedSimpArgs false
namespace Go.Proofs.Ytjeocmcllhjceaa
open Go.ChangeShapes Go.WideShapes Go.ChangeAt Go.RowKit Pm

set_option maxRecDepth 100000 in
set_option maxHeartbeats 1600000 in
theorem chords_walk (w : World) (v u t : Value) (hv : ArgP w v) (hu : ArgI w u) (ht : ArgI w t) : Calls Try.prog 7 #[v, u, t] w fun e w' => e = .returned (.bool true) ∧ Below w.heap.size w w' := by
  have q1 := eqSpan
  have q2 := eqGs
  obtain ⟨l, hr, hl, hf⟩ := hv
  obtain ⟨lo, rfl, hlo⟩ := hu
  obtain ⟨hi, rfl, hhi⟩ := ht
  have HR := Lib.hid hr
  have HL := Lib.hid hl
  have HLO := Lib.hid hlo
  have HHI := Lib.hid hhi
  obtain ⟨⟨c1, c2⟩, hc⟩ : ∃ e, Pm.chord l lo hi = e := ⟨_, rfl⟩
  have HC := Lib.hid hc
  have t1 : (c1 == c1 && c2 == c2) = true := by simp
  have C1 := Lib.hid (fun W hr => show Calls Try.prog 29 #[v, .int .i64 lo, .int .i64 hi] W fun e w' => e = .returned (.agg #[.int .i64 c1, .int .i64 c2]) ∧ Q W w' from Chord_c v l lo hi (c1, c2) HC HLO.out HHI.out W hr HL.out)
  have C2 := Lib.hid (fun W hr => show Calls Try.prog 30 #[v, .int .i64 lo, .int .i64 hi] W fun e w' => e = .returned (.agg #[.int .i64 c1, .int .i64 c2]) ∧ Q W w' from rChord_c v l lo hi (c1, c2) HC HLO.out HHI.out W hr HL.out)
  clear hr hl hf hlo hhi hc
  obtain ⟨sm, hsm⟩ : ∃ b, decide (l.length ≤ 100) = b := ⟨_, rfl⟩
  have HSM := Lib.hid hsm
  clear hsm
  cases sm with
  | true =>
    go_enter Try.func7, Try.ntmps7
    go_wp2_with fail
    refine (few_c _ l true _ HR.out HL.out HSM).mono ?_; rintro E w1 ⟨rfl, rfl⟩
    go_wp2_with fail
    refine (C1.out _ HR.out).mono ?_; rintro E w1 ⟨rfl, hq1⟩
    have Q1 := Lib.hid hq1
    clear hq1
    go_wp2_with fail
    refine (C2.out _ (RdG.q HR.out Q1.out)).mono ?_; rintro E w2 ⟨rfl, hq2⟩
    have Q2 := Lib.hid (Q1.out.trans hq2)
    clear hq2
    go_wp2_with fail
    refine (awake_c _).mono ?_; rintro E w7 ⟨rfl, hq7⟩
    go_wp2_with fail
    go_ret
    exact ⟨rfl, Q2.out.trans hq7⟩
  | false =>
    go_enter Try.func7, Try.ntmps7
    go_wp2_with fail
    refine (few_c _ l false _ HR.out HL.out HSM).mono ?_; rintro E w1 ⟨rfl, rfl⟩
    go_wp2_with fail
    refine (awake_c _).mono ?_; rintro E w5 ⟨rfl, hq5⟩
    go_wp2_with fail
    go_ret
    exact ⟨rfl, hq5⟩

namespace polyChords
theorem own : ownKnob Try.prog.godebug = none := by kernel_rfl
set_option maxRecDepth 100000 in
set_option maxHeartbeats 800000 in
theorem lifted (os : Os) (started : os.Started) (H : Type) (enc : TypeId × Value → H) :
    ReturnsInHanded {} Try.checked os 7 .any (Rows.polyChordsSpec.pre6 enc Try.prog Try.f7 Rows.polyChordsRow.domain false) (Rows.polyChordsSpec.post enc Try.prog Try.f7 false true false false) := by
  refine returnsInHanded_of_change (C := Try.checked) own started (by kernel_rfl) Try.func7
    (ChangeSpec.witness6 (enc := enc) (C := Try.checked) false ⟨#[], #[.slice none 0 0, .int .i64 0, .int .i64 0], []⟩ 8 (by kernel_rfl) (by kernel_rfl) (by kernel_rfl) (by kernel_rfl)) ?_
  intro W base args ds gs before hval0 hW hcnd _
  have hval : ∀ (j : Nat) t v, Try.f7.params[j]? = some t → args[j]? = some v → Value.okWide Try.prog W .any base t v := hval0
  have hW' := hW
  obtain ⟨p, q, hA0, hV, rfl, hfz, hnd⟩ := hW
  have hA : DataW.TrodAll enc Try.prog W 0 (fun _ => true) true Try.f7.params.toList args.toList ds p := hA0
  rw [Try.params7] at hA hval
  obtain ⟨v0, vs0, d0, ds0, p0, q0, hargs, rfl, rfl, h0, r0⟩ := trodAll_cons hA
  obtain ⟨v1, vs1, d1, ds1, p1, q1, rfl, rfl, rfl, h1, r1⟩ := trodAll_cons r0
  obtain ⟨v2, vs2, d2, ds2, p2, q2, rfl, rfl, rfl, h2, r2⟩ := trodAll_cons r1
  obtain ⟨rfl, rfl, rfl⟩ := trodAll_nil r2
  obtain rfl : args = #[v0, v1, v2] := by cases args; simp_all
  obtain ⟨rfl, rfl⟩ := trodVars_none hV
  have a0 := open_pts (hval 0 22 v0 rfl rfl) h0
  have a1 := open_i64 (hval 1 3 v1 rfl rfl) h1
  have a2 := open_i64 (hval 2 3 v2 rfl rfl) h2
  clear hA0 hval0
  refine (chords_walk W v0 v1 v2 a0 a1 a2).mono fun e W' ⟨he, bel⟩ => ?_
  subst he
  exact ⟨_, rfl, _, _, _, [], _, [], hW', trodAll_mk1 (shut_bool Try.underlying4 _), (trodAll_cons_mk (stays (by kernel_rfl) (of_decide_eq_true (by kernel_rfl)) h0 bel) (trodAll_cons_mk (stays (by kernel_rfl) (of_decide_eq_true (by kernel_rfl)) h1 bel) (trodAll_cons_mk (stays (by kernel_rfl) (of_decide_eq_true (by kernel_rfl)) h2 bel) trodAll_mk0))), rfl, bel.frame _, fun h => by cases h⟩
theorem over : Rows.polyChordsRow.holds Try.pinned (OpenSpec.ofChange Rows.polyChordsSpec) :=
  OpenClaim.holds_of_wide 7 Try.f7 rfl rfl rfl rfl rfl rfl rfl ⟨rfl, rfl, rfl, rfl, rfl⟩ rfl rfl rfl rfl rfl (by kernel_rfl) Try.func7 (by kernel_rfl)
    (of_decide_eq_true (by kernel_rfl)) (by unfold Func.isWrapper; first | (rw [if_pos (by decide +kernel)]; kernel_rfl) | (rw [if_neg (by decide +kernel)]; exact ⟨rfl, rfl⟩))
    (fun os started H enc _ => lifted os started H enc)
theorem proved : Rows.PolyChordsSaid := over
end polyChords

end Go.Proofs.Ytjeocmcllhjceaa
