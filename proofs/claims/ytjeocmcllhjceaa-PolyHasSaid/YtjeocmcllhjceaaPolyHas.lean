/- For every list of points and every point the law PolyHas returns true: Has returns the specified result, asked for at most 100 points; and the examples hold. No condition. -/
import Derived.Test.YtjeocmcllhjceaaArgs
import Derived.Test.YtjeocmcllhjceaaRHas
set_option linter.unusedVariables false
set_option linter.unusedSimpArgs false
namespace Go.Proofs.Ytjeocmcllhjceaa
open Go.ChangeShapes Go.WideShapes Go.ChangeAt Go.RowKit Pm

theorem q_drawn {w w1 w2 : World} {n : Nat} (h1 : Q w w1) (h : Q (w1.drewN n) w2) : Q w w2 := (h1.drewN n).trans h
set_option maxRecDepth 100000 in
set_option maxHeartbeats 1600000 in
theorem has_walk (w : World) (v u : Value) (hv : ArgP w v) (hu : ArgQ w u) : Calls Try.prog 5 #[v, u] w fun e w' => e = .returned (.bool true) ∧ Below w.heap.size w w' := by
  obtain ⟨l, hr, hl, hf⟩ := hv
  obtain ⟨⟨qx, qy⟩, rfl, hq⟩ := hu
  have HR := Lib.hid hr
  have HL := Lib.hid hl
  obtain ⟨b, hb⟩ : ∃ e, has l (qx, qy) = e := ⟨_, rfl⟩
  have HB := Lib.hid hb
  have t0 : (b == b) = true := by simp
  have hb0 := BoxP.new w (qx, qy)
  have c0 := hb0.c0
  have c1 := hb0.c1
  unfold pv
  dsimp only at c0 c1 ⊢
  clear hr hl hf hq hb
  obtain ⟨sm, hsm⟩ : ∃ b, decide (l.length ≤ 100) = b := ⟨_, rfl⟩
  have HSM := Lib.hid hsm
  clear hsm
  cases sm with
  | true =>
    go_enter Try.func5, Try.ntmps5
    go_wp2_with fail
    obtain ⟨W0, hW0⟩ : ∃ W, w.alloc (.cells #[.int .i64 qx, .int .i64 qy] 38) = W := ⟨_, rfl⟩
    have HQ0 := Lib.hid (show Q w W0 by rw [← hW0]; exact (Q.refl w).alloc _)
    have HB0 := Lib.hid (show BoxP W0 w.heap.size (qx, qy) by rw [← hW0]; exact hb0)
    rw [hW0]
    clear hW0 hb0 c0 c1
    refine (few_c _ l true _ (RdG.q HR.out HQ0.out) HL.out HSM).mono ?_; rintro E w1 ⟨rfl, rfl⟩
    have c0 := HB0.out.c0
    have c1 := HB0.out.c1
    dsimp only at c0 c1
    go_wp2_with fail
    have HF := Lib.hid (fun (W : World) (hw : Q W0 W) => show W.cell? ⟨w.heap.size, 0, none⟩ = some (.int .i64 qx) ∧ W.cell? ⟨w.heap.size, 1, none⟩ = some (.int .i64 qy) from ⟨(HB0.out.q hw).c0, (HB0.out.q hw).c1⟩)
    have C1 := Lib.hid (fun W (hw : Q W0 W) => show Calls Try.prog 25 #[v, .agg #[.int .i64 qx, .int .i64 qy]] W fun e w' => e = .returned (.bool b) ∧ Q W w' from Has_c v l (qx, qy) b HB W (RdG.q HR.out (HQ0.out.trans hw)) HL.out)
    have C2 := Lib.hid (fun W (hw : Q W0 W) => show Calls Try.prog 26 #[v, .agg #[.int .i64 qx, .int .i64 qy]] W fun e w' => e = .returned (.bool b) ∧ Q W w' from rHas_c v l (qx, qy) b HB W (RdG.q HR.out (HQ0.out.trans hw)) HL.out)
    go_region_law (first
      | (go_simp; go_at_call 25; refine (C1.out _ (by repeat (first | exact Q.refl _ | refine Q.drewN ?_ _ | refine Q.drew ?_ | exact HQa.out | exact HQb.out | exact HQc.out))).mono ?_; rintro E wa ⟨rfl, hqa⟩; have HQa := Lib.hid (show Q W0 wa from Q.trans (by repeat (first | exact Q.refl _ | refine Q.drewN ?_ _ | refine Q.drew ?_ | exact HQa.out | exact HQb.out | exact HQc.out)) hqa); obtain ⟨f0, f1⟩ := HF.out wa HQa.out; clear hqa)
      | (go_simp; go_at_call 26; refine (C2.out _ (by repeat (first | exact Q.refl _ | refine Q.drewN ?_ _ | refine Q.drew ?_ | exact HQa.out | exact HQb.out | exact HQc.out))).mono ?_; rintro E wb ⟨rfl, hqb⟩; have HQb := Lib.hid (show Q W0 wb from Q.trans (by repeat (first | exact Q.refl _ | refine Q.drewN ?_ _ | refine Q.drew ?_ | exact HQa.out | exact HQb.out | exact HQc.out)) hqb); obtain ⟨g0, g1⟩ := HF.out wb HQb.out; clear hqb)
      | (go_simp; go_at_call 13; refine (awake_c _).mono ?_; rintro E wc ⟨rfl, hqc⟩; have HQc := Lib.hid (show Q W0 wc from Q.trans (by repeat (first | exact Q.refl _ | refine Q.drewN ?_ _ | refine Q.drew ?_ | exact HQa.out | exact HQb.out | exact HQc.out)) hqc); obtain ⟨j0, j1⟩ := HF.out wc HQc.out; clear hqc))
    all_goals go_wp2_with fail
    all_goals go_ret
    all_goals exact ⟨rfl, by repeat (first | exact HQ0.out.trans HQa.out | exact HQ0.out.trans HQb.out | exact HQ0.out.trans HQc.out | refine Q.drewN ?_ _ | refine Q.drew ?_)⟩
  | false =>
    go_enter Try.func5, Try.ntmps5
    go_wp2_with fail
    refine (few_c _ l false _ (RdG.q HR.out ((Q.refl w).alloc _)) HL.out HSM).mono ?_; rintro E w1 ⟨rfl, rfl⟩
    go_wp2_with fail
    refine (awake_c _).mono ?_; rintro E w5 ⟨rfl, hq5⟩
    go_wp2_with fail
    go_ret
    exact ⟨rfl, ((Q.refl w).alloc _).trans hq5⟩

namespace polyHas
theorem own : ownKnob Try.prog.godebug = none := by kernel_rfl
set_option maxRecDepth 100000 in
set_option maxHeartbeats 800000 in
theorem lifted (os : Os) (started : os.Started) (H : Type) (enc : TypeId × Value → H) :
    ReturnsInHanded {} Try.checked os 5 .any (Rows.polyHasSpec.pre6 enc Try.prog Try.f5 Rows.polyHasRow.domain false) (Rows.polyHasSpec.post enc Try.prog Try.f5 false true false false) := by
  refine returnsInHanded_of_change (C := Try.checked) own started (by kernel_rfl) Try.func5
    (ChangeSpec.witness6 (enc := enc) (C := Try.checked) false ⟨#[], #[.slice none 0 0, .agg #[.int .i64 0, .int .i64 0]], []⟩ 8 (by kernel_rfl) (by kernel_rfl) (by kernel_rfl) (by kernel_rfl)) ?_
  intro W base args ds gs before hval0 hW hcnd _
  have hval : ∀ (j : Nat) t v, Try.f5.params[j]? = some t → args[j]? = some v → Value.okWide Try.prog W .any base t v := hval0
  have hW' := hW
  obtain ⟨p, q, hA0, hV, rfl, hfz, hnd⟩ := hW
  have hA : DataW.TrodAll enc Try.prog W 0 (fun _ => true) true Try.f5.params.toList args.toList ds p := hA0
  rw [Try.params5] at hA hval
  obtain ⟨v0, vs0, d0, ds0, p0, q0, hargs, rfl, rfl, h0, r0⟩ := trodAll_cons hA
  obtain ⟨v1, vs1, d1, ds1, p1, q1, rfl, rfl, rfl, h1, r1⟩ := trodAll_cons r0
  obtain ⟨rfl, rfl, rfl⟩ := trodAll_nil r1
  obtain rfl : args = #[v0, v1] := by cases args; simp_all
  obtain ⟨rfl, rfl⟩ := trodVars_none hV
  have a0 := open_pts (hval 0 22 v0 rfl rfl) h0
  have a1 := open_pt (hval 1 38 v1 rfl rfl) h1
  clear hA0 hval0
  refine (has_walk W v0 v1 a0 a1).mono fun e W' ⟨he, bel⟩ => ?_
  subst he
  exact ⟨_, rfl, _, _, _, [], _, [], hW', trodAll_mk1 (shut_bool Try.underlying4 _), (trodAll_cons_mk (stays (by kernel_rfl) (of_decide_eq_true (by kernel_rfl)) h0 bel) (trodAll_cons_mk (stays (by kernel_rfl) (of_decide_eq_true (by kernel_rfl)) h1 bel) trodAll_mk0)), rfl, bel.frame _, fun h => by cases h⟩
theorem over : Rows.polyHasRow.holds Try.pinned (OpenSpec.ofChange Rows.polyHasSpec) :=
  OpenClaim.holds_of_wide 5 Try.f5 rfl rfl rfl rfl rfl rfl rfl ⟨rfl, rfl, rfl, rfl, rfl⟩ rfl rfl rfl rfl rfl (by kernel_rfl) Try.func5 (by kernel_rfl)
    (of_decide_eq_true (by kernel_rfl)) (by unfold Func.isWrapper; first | (rw [if_pos (by decide +kernel)]; kernel_rfl) | (rw [if_neg (by decide +kernel)]; exact ⟨rfl, rfl⟩))
    (fun os started H enc _ => lifted os started H enc)
theorem proved : Rows.PolyHasSaid := over
end polyHas

end Go.Proofs.Ytjeocmcllhjceaa
