/- For every string and list the law WireTexts returns true: Text and Ints return the specified bytes (asked for at most 3000 bytes and 300 numbers), and the examples hold. No condition. -/
import Derived.Test.YtnejobcbhddpoaaArg
set_option linter.unusedVariables false
set_option linter.unusedSimpArgs false
namespace Go.Proofs.Ytnejobcbhddpoaa
open Go.ChangeShapes Go.WideShapes Go.ChangeAt Go.RowKit Wm

set_option maxHeartbeats 800000 in
theorem texts_walk (w : World) (v u : Value) (hv : ArgS w v) (hu : ArgL w u) : Calls Try.prog 4 #[v, u] w fun e w' => e = .returned (.bool true) ∧ Below w.heap.size w w' := by
  obtain ⟨s, rfl, hs⟩ := hv
  obtain ⟨l, hr, hf, hl⟩ := hu
  have HR := Lib.hid hr
  have HF := Lib.hid hf; clear hf
  obtain ⟨sA, sc, rfl, _, _⟩ := hr
  unfold maxLen at hs hl
  obtain ⟨n, hn⟩ : ∃ n, l.length = n := ⟨_, rfl⟩
  have HN := Lib.hid hn
  rw [hn] at hl HR
  rw [hn]
  clear hn
  by_cases h : s.size ≤ 3000 ∧ n ≤ 300
  · obtain ⟨g1, g2⟩ := h
    have i1 : (s.size : Int) ≤ 3000 := by omega
    have i2 : (n : Int) ≤ 300 := by omega
    have h1 : ((txS s).toList == (txS s).toList) = true := by simp
    have h2 : ((bs (insL l)).toList == (bs (insL l)).toList) = true := by simp
    go_enter Try.func4, Try.ntmps4
    go_wp2_with fail
    refine (Text_c s _ (by omega)).mono ?_; rintro E w1 ⟨rfl, hq1⟩
    go_wp2_with fail
    refine (rText_c s _ (by omega)).mono ?_; rintro E w2 ⟨rfl, hq2⟩
    go_wp2_with fail
    refine (Ints_c _ l _ (HR.out.q (hq1.trans hq2)) (by rw [HN.out]; omega) HF.out).mono ?_; rintro E w3 ⟨rfl, hq3⟩
    go_wp2_with fail
    refine (rInts_c _ l _ (HR.out.q ((hq1.trans hq2).trans hq3)) (by rw [HN.out]; omega) HF.out).mono ?_; rintro E w4 ⟨rfl, hq4⟩
    go_wp2_with fail
    refine (awake_c _).mono ?_; rintro E w5 ⟨rfl, hq5⟩
    go_wp2_with fail
    go_ret
    exact ⟨rfl, (((hq1.trans hq2).trans hq3).trans hq4).trans hq5⟩
  · have i1 : ¬ (s.size : Int) ≤ 3000 ∨ ((s.size : Int) ≤ 3000 ∧ ¬ (n : Int) ≤ 300) := by omega
    clear h
    rcases i1 with i1 | ⟨i1, i2⟩
    all_goals
      go_enter Try.func4, Try.ntmps4
      go_wp2_with fail
      refine (awake_c _).mono ?_; rintro E w5 ⟨rfl, hq5⟩
      go_wp2_with fail
      go_ret
      exact ⟨rfl, hq5⟩

namespace wireTexts
theorem own : ownKnob Try.prog.godebug = none := by kernel_rfl
set_option maxRecDepth 100000 in
set_option maxHeartbeats 800000 in
theorem lifted (os : Os) (started : os.Started) (H : Type) (enc : TypeId × Value → H) :
    ReturnsInHanded {} Try.checked os 4 .any (Rows.wireTextsSpec.pre6 enc Try.prog Try.f4 Rows.wireTextsRow.domain false) (Rows.wireTextsSpec.post enc Try.prog Try.f4 false true false false) := by
  refine returnsInHanded_of_change (C := Try.checked) own started (by kernel_rfl) Try.func4
    (ChangeSpec.witness6 (enc := enc) (C := Try.checked) false ⟨#[], #[.string ByteArray.empty, .slice none 0 0], []⟩ 8 (by kernel_rfl) (by kernel_rfl) (by kernel_rfl) (by kernel_rfl)) ?_
  intro W base args ds gs before hval0 hW hcnd _
  have hval : ∀ (j : Nat) t v, Try.f4.params[j]? = some t → args[j]? = some v → Value.okWide Try.prog W .any base t v := hval0
  have hW' := hW
  obtain ⟨p, q, hA0, hV, rfl, hfz, hnd⟩ := hW
  have hA : DataW.TrodAll enc Try.prog W 0 (fun _ => true) true Try.f4.params.toList args.toList ds p := hA0
  rw [Try.params4] at hA hval
  obtain ⟨v0, vs0, d0, ds0, p0, q0, hargs, rfl, rfl, h0, r0⟩ := trodAll_cons hA
  obtain ⟨v1, vs1, d1, ds1, p1, q1, rfl, rfl, rfl, h1, r1⟩ := trodAll_cons r0
  obtain ⟨rfl, rfl, rfl⟩ := trodAll_nil r1
  obtain rfl : args = #[v0, v1] := by cases args; simp_all
  obtain ⟨rfl, rfl⟩ := trodVars_none hV
  have a0 := open_str (hval 0 9 v0 rfl rfl) h0
  have a1 := open_list (hval 1 27 v1 rfl rfl) h1
  clear hA0 hval0
  refine (texts_walk W v0 v1 a0 a1).mono fun e W' ⟨he, bel⟩ => ?_
  subst he
  exact ⟨_, rfl, _, _, _, [], _, [], hW', trodAll_mk1 (shut_bool Try.underlying4 _), (trodAll_cons_mk (stays (by kernel_rfl) (of_decide_eq_true (by kernel_rfl)) h0 bel) (trodAll_cons_mk (stays (by kernel_rfl) (of_decide_eq_true (by kernel_rfl)) h1 bel) trodAll_mk0)), rfl, bel.frame _, fun h => by cases h⟩
theorem over : Rows.wireTextsRow.holds Try.pinned (OpenSpec.ofChange Rows.wireTextsSpec) :=
  OpenClaim.holds_of_wide 4 Try.f4 rfl rfl rfl rfl rfl rfl rfl ⟨rfl, rfl, rfl, rfl, rfl⟩ rfl rfl rfl rfl rfl (by kernel_rfl) Try.func4 (by kernel_rfl)
    (of_decide_eq_true (by kernel_rfl)) (by unfold Func.isWrapper; first | (rw [if_pos (by decide +kernel)]; kernel_rfl) | (rw [if_neg (by decide +kernel)]; exact ⟨rfl, rfl⟩))
    (fun os started H enc _ => lifted os started H enc)
theorem proved : Rows.WireTextsSaid := over
end wireTexts

end Go.Proofs.Ytnejobcbhddpoaa
