/- For every grid, x and y the law CurveGrids returns true: CheckGrid and Value return the specified results, asked for at most 40 rows of 40 values; and the examples hold. No condition. -/
import Derived.Test.YtlkgbfiaeedpfaaFew
set_option linter.unusedVariables false
set_option linter.unusedSimpArgs false
namespace Go.Proofs.Ytlkgbfiaeedpfaa
open Go.ChangeShapes Go.WideShapes Go.ChangeAt Go.RowKit Cm

theorem b3K {w W W' : World} {g : Nat} {u1 u2 u3 : Value} (k : W.cell? ⟨g, 0, none⟩ = some u1 ∧ W.cell? ⟨g, 1, none⟩ = some u2 ∧ W.cell? ⟨g, 2, none⟩ = some u3 ∧ g < W.heap.size ∧ Q w W) (hq : Q W W') :
    W'.cell? ⟨g, 0, none⟩ = some u1 ∧ W'.cell? ⟨g, 1, none⟩ = some u2 ∧ W'.cell? ⟨g, 2, none⟩ = some u3 ∧ g < W'.heap.size ∧ Q w W' := by
  obtain ⟨h1, h2, h3, h4, h5⟩ := k
  exact ⟨(hq.cell (p := ⟨g, 0, none⟩) h4).trans h1, (hq.cell (p := ⟨g, 1, none⟩) h4).trans h2, (hq.cell (p := ⟨g, 2, none⟩) h4).trans h3, Nat.lt_of_lt_of_le h4 hq.size, h5.trans hq⟩
theorem b3Q {w W : World} {g : Nat} {u1 u2 u3 : Value} (k : W.cell? ⟨g, 0, none⟩ = some u1 ∧ W.cell? ⟨g, 1, none⟩ = some u2 ∧ W.cell? ⟨g, 2, none⟩ = some u3 ∧ g < W.heap.size ∧ Q w W) : Q w W := k.2.2.2.2
set_option maxRecDepth 100000 in
set_option maxHeartbeats 1600000 in
theorem grids_walk (w : World) (v u t : Value) (hv : ArgG w v) (hu : ArgI w u) (ht : ArgI w t) : Calls Try.prog 6 #[v, u, t] w fun e w' => e = .returned (.bool true) ∧ Below w.heap.size w w' := by
  obtain ⟨v1, v2, v3, xs, ys, vs, rfl, h1, h2, h3, l1, l2, l3, l4⟩ := hv
  obtain ⟨x, rfl, _⟩ := hu
  obtain ⟨y, rfl, _⟩ := ht
  have R1 := Lib.hid h1
  have R2 := Lib.hid h2
  have R3 := Lib.hid h3
  obtain ⟨A1, c1, rfl, _, _⟩ := h1
  obtain ⟨A2, c2, rfl, _, _⟩ := h2
  obtain ⟨A3, c3, rfl, _⟩ := h3.len
  have L1 := Lib.hid l1
  have L2 := Lib.hid l2
  have L3 := Lib.hid l3
  have L4 := Lib.hid l4
  obtain ⟨e, he⟩ : ∃ e, chkG xs ys vs = e := ⟨_, rfl⟩
  obtain ⟨b, hb⟩ : ∃ b, vaS xs ys vs x y = b := ⟨_, rfl⟩
  have HE := Lib.hid he
  have HB := Lib.hid hb
  have t0 : ((e : Int) == (e : Int)) = true := by simp
  have t1 : (b == b) = true := by simp
  clear he hb h3 l1 l2 l3 l4
  obtain ⟨n, hn⟩ : ∃ n, xs.length = n := ⟨_, rfl⟩
  obtain ⟨m, hm⟩ : ∃ n, ys.length = n := ⟨_, rfl⟩
  obtain ⟨k, hk⟩ : ∃ n, vs.length = n := ⟨_, rfl⟩
  rw [hn] at R1
  rw [hm] at R2
  rw [hk] at R3
  rw [hn, hm, hk]
  clear hn hm hk
  obtain ⟨W0, hW0⟩ : ∃ W, w.alloc (.cells #[.slice A1 n c1, .slice A2 m c2, .slice A3 k c3] 34) = W := ⟨_, rfl⟩
  have Q0 := Lib.hid (show Q w W0 by rw [← hW0]; exact (Q.refl w).alloc _)
  have B0 := Lib.hid (show box3 W0 w.heap.size (.slice A1 n c1) (.slice A2 m c2) (.slice A3 k c3) by rw [← hW0]; exact box3_new w (.slice A1 n c1) (.slice A2 m c2) (.slice A3 k c3) 34)
  obtain ⟨t0', t1', t2', t3'⟩ := B0.out
  go_enter Try.func6, Try.ntmps6
  go_wp2_with fail
  refine (few_c _ _ _ xs ys vs _ (RdG.q R1.out Q0.out) (RdG.q R2.out Q0.out) (R3.out.q Q0.out) L1.out L2.out L3.out L4).mono ?_; rintro E w1 ⟨fb, rfl, hfb, hq1⟩
  have Q1 := Lib.hid hq1
  obtain ⟨b0, b1, b2, b3⟩ := B0.out.q hq1
  have QA := Lib.hid (Q0.out.trans hq1)
  clear hq1 hW0 t0' t1' t2' t3'
  cases fb with
  | true =>
    have HG := Lib.hid (hfb rfl)
    have qa := QA.out
    have hd : Q w1 w1.drew := (Q.refl w1).drew
    have K1 := Lib.hid (fun (W : World) (hS : W.cell? ⟨w.heap.size, 0, none⟩ = some (.slice A1 n c1) ∧ W.cell? ⟨w.heap.size, 1, none⟩ = some (.slice A2 m c2) ∧ W.cell? ⟨w.heap.size, 2, none⟩ = some (.slice A3 k c3) ∧ w.heap.size < W.heap.size ∧ Q w W) => CheckGrid_c _ _ _ xs ys vs e HE W (RdG.q R1.out hS.2.2.2.2) (RdG.q R2.out hS.2.2.2.2) (R3.out.q hS.2.2.2.2) HG)
    have K2 := Lib.hid (fun (W : World) (hS : W.cell? ⟨w.heap.size, 0, none⟩ = some (.slice A1 n c1) ∧ W.cell? ⟨w.heap.size, 1, none⟩ = some (.slice A2 m c2) ∧ W.cell? ⟨w.heap.size, 2, none⟩ = some (.slice A3 k c3) ∧ w.heap.size < W.heap.size ∧ Q w W) => rCheckGrid_c _ _ _ xs ys vs e HE W (RdG.q R1.out hS.2.2.2.2) (RdG.q R2.out hS.2.2.2.2) (R3.out.q hS.2.2.2.2) HG)
    have K3 := Lib.hid (fun (W : World) (hS : W.cell? ⟨w.heap.size, 0, none⟩ = some (.slice A1 n c1) ∧ W.cell? ⟨w.heap.size, 1, none⟩ = some (.slice A2 m c2) ∧ W.cell? ⟨w.heap.size, 2, none⟩ = some (.slice A3 k c3) ∧ w.heap.size < W.heap.size ∧ Q w W) => Value_c _ _ _ xs ys vs x y b HB W (RdG.q R1.out hS.2.2.2.2) (RdG.q R2.out hS.2.2.2.2) (R3.out.q hS.2.2.2.2) HG)
    have K4 := Lib.hid (fun (W : World) (hS : W.cell? ⟨w.heap.size, 0, none⟩ = some (.slice A1 n c1) ∧ W.cell? ⟨w.heap.size, 1, none⟩ = some (.slice A2 m c2) ∧ W.cell? ⟨w.heap.size, 2, none⟩ = some (.slice A3 k c3) ∧ w.heap.size < W.heap.size ∧ Q w W) => rValue_c _ _ _ xs ys vs x y b HB W (RdG.q R1.out hS.2.2.2.2) (RdG.q R2.out hS.2.2.2.2) (R3.out.q hS.2.2.2.2) HG)
    clear hfb
    go_wp2_with fail
    go_region_held3 (fun W => W.cell? ⟨w.heap.size, 0, none⟩ = some (.slice A1 n c1) ∧ W.cell? ⟨w.heap.size, 1, none⟩ = some (.slice A2 m c2) ∧ W.cell? ⟨w.heap.size, 2, none⟩ = some (.slice A3 k c3) ∧ w.heap.size < W.heap.size ∧ Q w W)
      (first | exact b3K ⟨b0, b1, b2, b3, qa⟩ hd | exact b3K (by assumption) (by assumption))
      (first | (go_at_call 22; refine (K1.out _ (by assumption)).mono ?_; rintro E w2 ⟨rfl, hq2⟩) | (go_at_call 23; refine (K2.out _ (by assumption)).mono ?_; rintro E w2 ⟨rfl, hq2⟩) | (go_at_call 24; refine (K3.out _ (by assumption)).mono ?_; rintro E w2 ⟨rfl, hq2⟩) | (go_at_call 25; refine (K4.out _ (by assumption)).mono ?_; rintro E w2 ⟨rfl, hq2⟩) | (go_at_call 12; refine (awake_c _).mono ?_; rintro E w2 ⟨rfl, hq2⟩))
    all_goals go_wp2_with fail
    all_goals go_ret
    all_goals exact ⟨rfl, b3Q (by assumption)⟩
  | false =>
    clear hfb
    go_wp2_with fail
    refine (awake_c _).mono ?_; rintro E w6 ⟨rfl, hq6⟩
    go_wp2_with fail
    go_ret
    exact ⟨rfl, QA.out.trans hq6⟩

namespace curveGrids
theorem own : ownKnob Try.prog.godebug = none := by kernel_rfl
set_option maxRecDepth 100000 in
set_option maxHeartbeats 800000 in
theorem lifted (os : Os) (started : os.Started) (H : Type) (enc : TypeId × Value → H) :
    ReturnsInHanded {} Try.checked os 6 .any (Rows.curveGridsSpec.pre6 enc Try.prog Try.f6 Rows.curveGridsRow.domain false) (Rows.curveGridsSpec.post enc Try.prog Try.f6 false true false false) := by
  refine returnsInHanded_of_change (C := Try.checked) own started (by kernel_rfl) Try.func6
    (ChangeSpec.witness6 (enc := enc) (C := Try.checked) false ⟨#[], #[.agg #[.slice none 0 0, .slice none 0 0, .slice none 0 0], .int .i64 0, .int .i64 0], []⟩ 8 (by kernel_rfl) (by kernel_rfl) (by kernel_rfl) (by kernel_rfl)) ?_
  intro W base args ds gs before hval0 hW hcnd _
  have hval : ∀ (j : Nat) t v, Try.f6.params[j]? = some t → args[j]? = some v → Value.okWide Try.prog W .any base t v := hval0
  have hW' := hW
  obtain ⟨p, q, hA0, hV, rfl, hfz, hnd⟩ := hW
  have hA : DataW.TrodAll enc Try.prog W 0 (fun _ => true) true Try.f6.params.toList args.toList ds p := hA0
  rw [Try.params6] at hA hval
  obtain ⟨v0, vs0, d0, ds0, p0, q0, hargs, rfl, rfl, h0, r0⟩ := trodAll_cons hA
  obtain ⟨v1, vs1, d1, ds1, p1, q1, rfl, rfl, rfl, h1, r1⟩ := trodAll_cons r0
  obtain ⟨v2, vs2, d2, ds2, p2, q2, rfl, rfl, rfl, h2, r2⟩ := trodAll_cons r1
  obtain ⟨rfl, rfl, rfl⟩ := trodAll_nil r2
  obtain rfl : args = #[v0, v1, v2] := by cases args; simp_all
  obtain ⟨rfl, rfl⟩ := trodVars_none hV
  have a0 := open_grid (hval 0 34 v0 rfl rfl) h0
  have a1 := open_i64 (hval 1 3 v1 rfl rfl) h1
  have a2 := open_i64 (hval 2 3 v2 rfl rfl) h2
  clear hA0 hval0
  refine (grids_walk W v0 v1 v2 a0 a1 a2).mono fun e W' ⟨he, bel⟩ => ?_
  subst he
  exact ⟨_, rfl, _, _, _, [], _, [], hW', trodAll_mk1 (shut_bool Try.underlying4 _), (trodAll_cons_mk (stays (by kernel_rfl) (of_decide_eq_true (by kernel_rfl)) h0 bel) (trodAll_cons_mk (stays (by kernel_rfl) (of_decide_eq_true (by kernel_rfl)) h1 bel) (trodAll_cons_mk (stays (by kernel_rfl) (of_decide_eq_true (by kernel_rfl)) h2 bel) trodAll_mk0))), rfl, bel.frame _, fun h => by cases h⟩
theorem over : Rows.curveGridsRow.holds Try.pinned (OpenSpec.ofChange Rows.curveGridsSpec) :=
  OpenClaim.holds_of_wide 6 Try.f6 rfl rfl rfl rfl rfl rfl rfl ⟨rfl, rfl, rfl, rfl, rfl⟩ rfl rfl rfl rfl rfl (by kernel_rfl) Try.func6 (by kernel_rfl)
    (of_decide_eq_true (by kernel_rfl)) (by unfold Func.isWrapper; first | (rw [if_pos (by decide +kernel)]; kernel_rfl) | (rw [if_neg (by decide +kernel)]; exact ⟨rfl, rfl⟩))
    (fun os started H enc _ => lifted os started H enc)
theorem proved : Rows.CurveGridsSaid := over
end curveGrids

end Go.Proofs.Ytlkgbfiaeedpfaa
