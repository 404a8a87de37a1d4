/- For every two rings the law RingMerges returns true: Merge returns the specified ring, or the error, asked for rings of at most 100 readings; and the examples hold. No condition. -/
import Derived.Test.YtlcgbeocdimboaaDoorRingChecks
import Derived.Test.YtlcgbeocdimboaaDoorRMerge
set_option linter.unusedVariables false
set_option linter.unusedSimpArgs false
namespace Go.Proofs.YtlcgbeocdimboaaDoor
open Go.ChangeShapes Go.WideShapes Go.ChangeAt Go.RowKit Pm

set_option maxRecDepth 100000 in
set_option maxHeartbeats 3200000 in
theorem merges_walk (w : World) (v u : Value) (hv : ArgR w v) (hu : ArgR w u) (hD : Dir w) : Calls Tryd.prog 6 #[v, u] w fun e w' => e = .returned (.bool true) ∧ Below w.heap.size w w' := by
  obtain ⟨z, s, l, rfl, hr, hnn, hl⟩ := hv
  obtain ⟨z1, s1, m, rfl, hr1, hnn1, hl1⟩ := hu
  have HR := Lib.hid hr
  have HR1 := Lib.hid hr1
  have HL := Lib.hid hl
  have HL1 := Lib.hid hl1
  have HNN := Lib.hid hnn
  have HD := Lib.hid hD
  obtain ⟨Wa, hWa⟩ : ∃ W, w.alloc (.cells #[.int .i64 z, s] 24) = W := ⟨_, rfl⟩
  obtain ⟨W0, hW0⟩ : ∃ W, Wa.alloc (.cells #[.int .i64 z1, s1] 24) = W := ⟨_, rfl⟩
  obtain ⟨hsa, hqa, hya⟩ := box_facts hWa
  obtain ⟨hs, hq0, hy⟩ := box_facts hW0
  have Q0 := Lib.hid (hqa.trans hq0)
  have HY := Lib.hid (show ∀ W, Q W0 W → (W.cell? ⟨w.heap.size, 0, none⟩ = some (.int .i64 z) ∧ W.cell? ⟨w.heap.size, 1, none⟩ = some s) ∧ W.cell? ⟨Wa.heap.size, 0, none⟩ = some (.int .i64 z1) ∧ W.cell? ⟨Wa.heap.size, 1, none⟩ = some s1 from fun W h => ⟨hya W (hq0.trans h), hy W h⟩)
  obtain ⟨⟨y0, y1⟩, y2, y3⟩ := HY.out W0 (Q.refl _)
  obtain ⟨sm, hsm⟩ : ∃ b, decide (l.length ≤ 100) = b := ⟨_, rfl⟩
  obtain ⟨sn, hsn⟩ : ∃ b, decide (m.length ≤ 100) = b := ⟨_, rfl⟩
  have HSM := Lib.hid hsm
  have HSN := Lib.hid hsn
  clear hr hr1 hl hl1 hD hq0 hqa hy hya hnn hnn1
  cases sm with
  | true =>
    cases sn with
    | true =>
      have H6 := Lib.hid (show l.length ≤ 1000000 by have := of_decide_eq_true hsm; omega)
      have H7 := Lib.hid (show m.length ≤ 1000000 by have := of_decide_eq_true hsn; omega)
      obtain ⟨zz, hzz⟩ : ∃ e, mgZ z l z1 m = e := ⟨_, rfl⟩
      obtain ⟨L, hL⟩ : ∃ e, mgL z l z1 m = e := ⟨_, rfl⟩
      obtain ⟨ee, hee⟩ : ∃ e, mgE z l z1 m = e := ⟨_, rfl⟩
      have HM := Lib.hid (fun W (h : Q w W) => Merge_c z z1 s s1 l m W (rdr_q HR.out h) (rdr_q HR1.out h) H6.out H7.out)
      have HM2 := Lib.hid (fun W (h : Q w W) => rMerge_c z z1 s s1 l m W (rdr_q HR.out h) (rdr_q HR1.out h) HNN.out H6.out H7.out)
      rw [hzz, hL, hee] at HM HM2
      have t0 : ((ee : Int) == (ee : Int)) = true := by simp
      have HLL := Lib.hid (show L.length ≤ maxLen by
        rw [← hL]; unfold mgL; split
        · rw [mgU_len]; exact HL.out
        · simp)
      clear hsm hsn hzz hL hee
      go_enter Tryd.func6, Tryd.ntmps6
      go_wp2_with fail
      ((with_reducible refine (few_c z s l true W0 (rdr_q HR.out Q0.out) HL.out HSM).mono ?_); rintro E w1 ⟨rfl, hq1⟩)
      have Q1 := Lib.hid hq1
      obtain ⟨⟨x0, x1⟩, x2, x3⟩ := HY.out w1 hq1
      clear hq1 y0 y1 y2 y3
      go_wp2_with fail
      ((with_reducible refine (few_c z1 s1 m true w1 (rdr_q HR1.out (Q0.out.trans Q1.out)) HL1.out HSN).mono ?_); rintro E w2 ⟨rfl, hq2⟩)
      have Q2 := Lib.hid (Q1.out.trans hq2)
      obtain ⟨⟨y0, y1⟩, y2, y3⟩ := HY.out w2 Q2.out
      clear hq2 x0 x1 x2 x3
      go_wp2_with fail
      ((with_reducible refine (HM.out w2 (Q0.out.trans Q2.out)).mono ?_); rintro E w3 ⟨A3, c3, rfl, hc3⟩)
      obtain ⟨V3, hV3⟩ : ∃ W, w3.alloc (.cells #[.int .i64 zz, .slice A3 L.length c3] 24) = W := ⟨_, rfl⟩
      obtain ⟨v3, qv3, f3⟩ := box_facts hV3
      have QV3 := Lib.hid (Q2.out.trans (hc3.2.1.trans qv3))
      have R3 := Lib.hid (RdG.q hc3.1 qv3)
      have F3 := Lib.hid f3
      obtain ⟨⟨x0, x1⟩, x2, x3⟩ := HY.out V3 QV3.out
      clear hc3 qv3 f3 y0 y1 y2 y3
      go_wp2_with fail
      ((with_reducible refine (HM2.out V3 (Q0.out.trans QV3.out)).mono ?_); rintro E w4 ⟨A4, c4, rfl, hc4⟩)
      obtain ⟨V4, hV4⟩ : ∃ W, w4.alloc (.cells #[.int .i64 zz, .slice A4 L.length c4] 24) = W := ⟨_, rfl⟩
      obtain ⟨v4, qv4, f4⟩ := box_facts hV4
      have Q34 := Lib.hid (hc4.2.1.trans qv4)
      have R4 := Lib.hid (RdG.q hc4.1 qv4)
      have R34 := Lib.hid (RdG.q R3.out Q34.out)
      obtain ⟨p0, p1⟩ := F3.out V4 Q34.out
      obtain ⟨p2, p3⟩ := f4 V4 (Q.refl _)
      have QV4 := Lib.hid (Q0.out.trans (QV3.out.trans Q34.out))
      clear hc4 qv4 f4 x0 x1 x2 x3
      go_wp2_with fail
      refine (Same_c zz zz (.slice A3 L.length c3) (.slice A4 L.length c4) L L true (Lib.hid (by simp)) V4 R34.out R4.out HLL.out HLL.out).mono ?_; rintro E w5 ⟨rfl, hq5⟩
      have Q5 := Lib.hid (QV4.out.trans hq5)
      clear hq5 p0 p1 p2 p3
      go_wp2_with fail
      refine (awake_c _ (HD.out.q Q5.out)).mono ?_; rintro E w6 ⟨rfl, hq6⟩
      go_wp2_with fail
      go_ret
      exact ⟨rfl, Q5.out.trans hq6⟩
    | false =>
      clear hsm hsn
      go_enter Tryd.func6, Tryd.ntmps6
      go_wp2_with fail
      ((with_reducible refine (few_c z s l true W0 (rdr_q HR.out Q0.out) HL.out HSM).mono ?_); rintro E w1 ⟨rfl, hq1⟩)
      have Q1 := Lib.hid hq1
      obtain ⟨⟨x0, x1⟩, x2, x3⟩ := HY.out w1 hq1
      clear hq1 y0 y1 y2 y3
      go_wp2_with fail
      ((with_reducible refine (few_c z1 s1 m false w1 (rdr_q HR1.out (Q0.out.trans Q1.out)) HL1.out HSN).mono ?_); rintro E w2 ⟨rfl, hq2⟩)
      have Q2 := Lib.hid (Q0.out.trans (Q1.out.trans hq2))
      clear hq2 x0 x1 x2 x3
      go_wp2_with fail
      refine (awake_c _ (HD.out.q Q2.out)).mono ?_; rintro E w6 ⟨rfl, hq6⟩
      go_wp2_with fail
      go_ret
      exact ⟨rfl, Q2.out.trans hq6⟩
  | false =>
    clear hsm hsn
    go_enter Tryd.func6, Tryd.ntmps6
    go_wp2_with fail
    ((with_reducible refine (few_c z s l false W0 (rdr_q HR.out Q0.out) HL.out HSM).mono ?_); rintro E w1 ⟨rfl, hq1⟩)
    have Q1 := Lib.hid (Q0.out.trans hq1)
    clear hq1 y0 y1 y2 y3
    go_wp2_with fail
    refine (awake_c _ (HD.out.q Q1.out)).mono ?_; rintro E w6 ⟨rfl, hq6⟩
    go_wp2_with fail
    go_ret
    exact ⟨rfl, Q1.out.trans hq6⟩

open Go.ChangeMaps (open_string shut_string)
namespace ringMerges
theorem witness (os : Os) {H : Type} (enc : TypeId × Value → H) : (OpenSpec.ofChange Rows.ringMergesSpec).preRow enc Tryd.prog Tryd.f6 Rows.ringMergesRow.domain false Rows.ringMergesRow.laid ((start os).forCall (fun _ _ => 0) ⟨#[], #[Value.agg #[.int .i64 0, .slice none 0 0], Value.agg #[.int .i64 0, .slice none 0 0]], []⟩).memory #[Value.agg #[.int .i64 0, .slice none 0 0], Value.agg #[.int .i64 0, .slice none 0 0]] := by
  have hw : (DataW.whole enc Tryd.prog ((start os).forCall (fun _ _ => 0) ⟨#[], #[Value.agg #[.int .i64 0, .slice none 0 0], Value.agg #[.int .i64 0, .slice none 0 0]], []⟩).memory Tryd.f6.params.toList Rows.ringMergesSpec.vars false (#[Value.agg #[.int .i64 0, .slice none 0 0], Value.agg #[.int .i64 0, .slice none 0 0]] : Array Value).toList 8).map (fun x => (x.1, x.2.1)) = some ([.agg [.lit (.int .i64 0), .nil], .agg [.lit (.int .i64 0), .nil]], []) := by kernel_rfl
  obtain ⟨⟨x1, x2, x3⟩, hx, hx1⟩ := Option.map_eq_some_iff.1 hw
  simp only [Prod.mk.injEq] at hx1
  obtain ⟨rfl, rfl⟩ := hx1
  exact OpenSpec.preRow_of_cond 8 hx (by kernel_rfl) (fun k hk => by cases hk) (by kernel_rfl) (door_met os _)
set_option maxRecDepth 100000 in
set_option maxHeartbeats 800000 in
theorem lifted (os : Os) (started : os.Started) (H : Type) (enc : TypeId × Value → H) (F : Stop.Interp) :
    ReturnsInHanded {} Tryd.checked os 6 .any ((OpenSpec.ofChange Rows.ringMergesSpec).preRow enc Tryd.prog Tryd.f6 Rows.ringMergesRow.domain false Rows.ringMergesRow.laid) (((OpenSpec.ofChange Rows.ringMergesSpec).at F).post enc Tryd.prog Tryd.f6 false true false false) := by
  refine returnsInHanded_of_row (C := Tryd.checked) (s := OpenSpec.ofChange Rows.ringMergesSpec) own started (by kernel_rfl) Tryd.func6
    (witness_row_atRef (enc := enc) (C := Tryd.checked) false (start os) #[Value.agg #[.int .i64 0, .slice none 0 0], Value.agg #[.int .i64 0, .slice none 0 0]] rfl (by kernel_rfl) (by kernel_rfl) (by kernel_rfl) (witness os enc)) ?_
  intro W base args ds gs before hval0 hW _ _ _ hL _ _
  have hval : ∀ (j : Nat) t v, Tryd.f6.params[j]? = some t → args[j]? = some v → Value.okWide Tryd.prog W .any base t v := hval0
  have hW' := hW
  obtain ⟨p, q, hA0, hV, rfl, hfz, hnd⟩ := hW
  have hA : DataW.TrodAll enc Tryd.prog W 0 (fun _ => true) true Tryd.f6.params.toList args.toList ds p := hA0
  rw [Tryd.params6] at hA hval
  obtain ⟨v0, vs0, d0, ds0, p0, q0, hargs, rfl, rfl, h0, r0⟩ := trodAll_cons hA
  obtain ⟨v1, vs1, d1, ds1, p1, q1, rfl, rfl, rfl, h1, r1⟩ := trodAll_cons r0
  obtain ⟨rfl, rfl, rfl⟩ := trodAll_nil r1
  obtain rfl : args = #[v0, v1] := by cases args; simp_all
  obtain ⟨rfl, rfl⟩ := trodVars_none hV
  have a0 := open_ring (hval 0 24 v0 rfl rfl) h0
  have a1 := open_ring (hval 1 24 v1 rfl rfl) h1
  clear hA0 hval0
  refine (merges_walk W v0 v1 a0 a1 (five_laid hL)).mono fun e W' ⟨he, bel⟩ => ?_
  subst he
  exact ⟨_, rfl, _, _, _, [], _, [], hW', trodAll_mk1 (shut_bool Tryd.underlying4 _), (trodAll_cons_mk (stays (by kernel_rfl) (of_decide_eq_true (by kernel_rfl)) h0 bel) (trodAll_cons_mk (stays (by kernel_rfl) (of_decide_eq_true (by kernel_rfl)) h1 bel) trodAll_mk0)), rfl, bel.frame _, fun h => by cases h⟩
theorem said : Rows.ringMergesRow.holds Tryd.pinned (OpenSpec.ofChange Rows.ringMergesSpec) :=
  OpenClaim.holds_of_cond 6 Tryd.f6 rfl rfl rfl rfl rfl rfl rfl ⟨rfl, rfl, rfl, rfl, rfl⟩ rfl rfl rfl rfl rfl (by kernel_rfl) Tryd.func6 (by kernel_rfl)
    (of_decide_eq_true (by kernel_rfl)) (by unfold Func.isWrapper; first | (rw [if_pos (by decide +kernel)]; kernel_rfl) | (rw [if_neg (by decide +kernel)]; exact ⟨rfl, rfl⟩))
    (fun os started H enc _ F => by rw [OpenClaim.pre_eq_preRow]; exact lifted os started H enc F)
theorem plain (f : FuncId) (fn : Func) (hf : Tryd.pinned.checked.prog.funcNamed "sawmill/sawmilllaw12.RingMerges" = some f) (hfn : Tryd.pinned.checked.prog.funcs[f]? = some fn) :
    false = Tryd.pinned.checked.prog.looks [] ∧ ∀ (j : Nat) t, fn.params[j]? = some t → Tryd.pinned.checked.prog.wantsStandIn t = false := by
  obtain rfl : f = 6 := Option.some.inj ((show Tryd.prog.funcNamed "sawmill/sawmilllaw12.RingMerges" = some 6 by kernel_rfl).symm.trans hf) |>.symm
  obtain rfl : fn = Tryd.f6 := (Option.some.inj (Tryd.func6.symm.trans hfn)).symm
  refine ⟨by kernel_rfl, fun j t ht => ?_⟩
  rw [Tryd.params6] at ht
  have hm := Array.mem_of_getElem? ht
  obtain rfl : t = 24 := by simpa using hm
  exact (show Tryd.prog.wantsStandIn 24 = false by kernel_rfl)
theorem proved : Rows.RingMergesCardSaid :=
  Claim7.holds_tied_plain_at .later [] _ _ _ _ said (fun _ h => by cases h) (by kernel_rfl) (fun _ h => by cases h) ringMerges_row_tie rfl ⟨rfl, rfl⟩ (by kernel_rfl) rfl plain (by kernel_rfl)
end ringMerges

end Go.Proofs.YtlcgbeocdimboaaDoor
