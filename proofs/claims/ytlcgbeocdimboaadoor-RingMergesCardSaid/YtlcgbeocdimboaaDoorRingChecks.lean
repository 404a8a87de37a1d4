/- For every ring the law RingChecks returns true: Check and Gaps return the specified results, asked for rings of at most 100 readings; and the examples hold. No condition. -/
import Derived.Test.YtlcgbeocdimboaaDoorArgs
import Derived.Test.YtlcgbeocdimboaaDoorAwake
set_option linter.unusedVariables false
set_option linter.unusedSimpArgs false
namespace Go.Proofs.YtlcgbeocdimboaaDoor
open Go.ChangeShapes Go.WideShapes Go.ChangeAt Go.RowKit Pm

theorem rdr_q {w w' : World} {v : Value} {l : List RD} (h : RdR w v l) (hq : Q w w') : RdR w' v l := RdG.q h hq
theorem box_facts {w W0 : World} {x0 x1 : Value} {T : TypeId} (h : w.alloc (.cells #[x0, x1] T) = W0) : w.heap.size < W0.heap.size ∧ Q w W0 ∧ ∀ W, Q W0 W → W.cell? ⟨w.heap.size, 0, none⟩ = some x0 ∧ W.cell? ⟨w.heap.size, 1, none⟩ = some x1 := by
  subst h
  have hs : w.heap.size < (w.alloc (.cells #[x0, x1] T)).heap.size := by simp
  exact ⟨hs, (Q.refl w).alloc _, fun W h => ⟨(h.cell (p := ⟨w.heap.size, 0, none⟩) hs).trans (World.cell?_alloc_at _ _ _ _ rfl), (h.cell (p := ⟨w.heap.size, 1, none⟩) hs).trans (World.cell?_alloc_at _ _ _ _ rfl)⟩⟩
set_option maxRecDepth 100000 in
set_option maxHeartbeats 3200000 in
theorem checks_walk (w : World) (v : Value) (hv : ArgR w v) (hD : Dir w) : Calls Tryd.prog 3 #[v] w fun e w' => e = .returned (.bool true) ∧ Below w.heap.size w w' := by
  obtain ⟨z, s, l, rfl, hr, hnn, hl⟩ := hv
  have HR := Lib.hid hr
  have HL := Lib.hid hl
  have HD := Lib.hid hD
  obtain ⟨W0, hW0⟩ : ∃ W, w.alloc (.cells #[.int .i64 z, s] 24) = W := ⟨_, rfl⟩
  obtain ⟨hs, hq0, hy⟩ := box_facts hW0
  have Q0 := Lib.hid hq0
  have HY := Lib.hid hy
  obtain ⟨y0, y1⟩ := hy W0 (Q.refl _)
  obtain ⟨sm, hsm⟩ : ∃ b, decide (l.length ≤ 100) = b := ⟨_, rfl⟩
  have HSM := Lib.hid hsm
  clear hr hl hD hq0 hy hnn
  cases sm with
  | true =>
    have H6 := Lib.hid (show l.length ≤ 1000000 by have := of_decide_eq_true hsm; omega)
    obtain ⟨e, he⟩ : ∃ e, chkR z l = e := ⟨_, rfl⟩
    obtain ⟨G, hG⟩ : ∃ e, gN l = e := ⟨_, rfl⟩
    obtain ⟨M, hM⟩ : ∃ e, gL l = e := ⟨_, rfl⟩
    have HE := Lib.hid he
    have HG := Lib.hid hG
    have HM := Lib.hid hM
    have t0 : ((e : Int) == (e : Int)) = true := by simp
    have t1 : ((G : Int) == (G : Int)) = true := by simp
    have t2 : ((M : Int) == (M : Int)) = true := by simp
    clear hsm he hG hM
    go_enter Tryd.func3, Tryd.ntmps3
    go_wp2_with fail
    ((with_reducible refine (few_c z s l true W0 (rdr_q HR.out Q0.out) HL.out HSM).mono ?_); rintro E w1 ⟨rfl, hq1⟩)
    have Q1 := Lib.hid hq1
    obtain ⟨x0, x1⟩ := HY.out w1 hq1
    clear hq1 y0 y1
    go_wp2_with fail
    ((with_reducible refine (Gaps_c z s l G M HG HM w1 (rdr_q HR.out (Q0.out.trans Q1.out)) H6.out).mono ?_); rintro E w2 ⟨rfl, hq2⟩)
    have Q2 := Lib.hid (Q1.out.trans hq2)
    obtain ⟨y0, y1⟩ := HY.out w2 Q2.out
    clear hq2 x0 x1
    go_wp2_with fail
    ((with_reducible refine (rGaps_c z s l G M HG HM w2 (rdr_q HR.out (Q0.out.trans Q2.out)) H6.out).mono ?_); rintro E w3 ⟨rfl, hq3⟩)
    have Q3 := Lib.hid (Q2.out.trans hq3)
    have Q03 := Lib.hid (Q0.out.trans Q3.out)
    clear hq3 y0 y1
    have HK := Lib.hid (show ∀ W, Q w3 W → Hid (Q w3 W) ∧ W.cell? ⟨w.heap.size, 0, none⟩ = some (.int .i64 z) ∧ W.cell? ⟨w.heap.size, 1, none⟩ = some s from fun W h => ⟨Lib.hid h, HY.out W (Q3.out.trans h)⟩)
    have C1 := Lib.hid (show ∀ W, Q w3 W → Calls Tryd.prog 14 #[.agg #[.int .i64 z, s]] W fun e' w' => e' = .returned (.int .i64 e) ∧ Q W w' from fun W h => Check_c z s l e HE W (rdr_q HR.out (Q03.out.trans h)) HL.out)
    have C2 := Lib.hid (show ∀ W, Q w3 W → Calls Tryd.prog 15 #[.agg #[.int .i64 z, s]] W fun e' w' => e' = .returned (.int .i64 e) ∧ Q W w' from fun W h => rCheck_r z s l e HE W (rdr_q HR.out (Q03.out.trans h)) HL.out)
    have C3 := Lib.hid (show ∀ W, Q w3 W → Calls Tryd.prog 11 #[] W fun e' w' => e' = .returned (.bool true) ∧ Q W w' from fun W h => awake_c W (HD.out.q (Q03.out.trans h)))
    go_wp2_with fail
    go_region_held3 (fun W => Hid (Q w3 W) ∧ W.cell? ⟨w.heap.size, 0, none⟩ = some (.int .i64 z) ∧ W.cell? ⟨w.heap.size, 1, none⟩ = some s) (first | exact HK.out _ (Q.refl w3).drew | exact HK.out _ ((hq_of (by assumption)).trans hq4) | exact HK.out _ ((hq_of (by assumption)).trans hq5) | exact HK.out _ ((hq_of (by assumption)).trans hq6)) (first | (go_at_call 14; ((with_reducible refine (C1.out _ (hq_of (by assumption))).mono ?_); rintro e4 w4 ⟨rfl, hq4⟩)) | (go_at_call 15; ((with_reducible refine (C2.out _ (hq_of (by assumption))).mono ?_); rintro e5 w5 ⟨rfl, hq5⟩)) | (go_at_call 11; ((with_reducible refine (C3.out _ (hq_of (by assumption))).mono ?_); rintro e6 w6 ⟨rfl, hq6⟩)))
    all_goals
      have QF := Lib.hid (Q03.out.trans (hq_of (by assumption)))
      go_wp2_with fail
      go_ret
      exact ⟨rfl, QF.out⟩
  | false =>
    clear hsm
    go_enter Tryd.func3, Tryd.ntmps3
    go_wp2_with fail
    ((with_reducible refine (few_c z s l false W0 (rdr_q HR.out Q0.out) HL.out HSM).mono ?_); rintro E w1 ⟨rfl, hq1⟩)
    have Q1 := Lib.hid (Q0.out.trans hq1)
    clear hq1
    go_wp2_with fail
    refine (awake_c _ (HD.out.q Q1.out)).mono ?_; rintro E w5 ⟨rfl, hq5⟩
    go_wp2_with fail
    go_ret
    exact ⟨rfl, Q1.out.trans hq5⟩

open Go.ChangeMaps (open_string shut_string)
namespace ringChecks
theorem witness (os : Os) {H : Type} (enc : TypeId × Value → H) : (OpenSpec.ofChange Rows.ringChecksSpec).preRow enc Tryd.prog Tryd.f3 Rows.ringChecksRow.domain false Rows.ringChecksRow.laid ((start os).forCall (fun _ _ => 0) ⟨#[], #[Value.agg #[.int .i64 0, .slice none 0 0]], []⟩).memory #[Value.agg #[.int .i64 0, .slice none 0 0]] := by
  have hw : (DataW.whole enc Tryd.prog ((start os).forCall (fun _ _ => 0) ⟨#[], #[Value.agg #[.int .i64 0, .slice none 0 0]], []⟩).memory Tryd.f3.params.toList Rows.ringChecksSpec.vars false (#[Value.agg #[.int .i64 0, .slice none 0 0]] : Array Value).toList 8).map (fun x => (x.1, x.2.1)) = some ([.agg [.lit (.int .i64 0), .nil]], []) := by kernel_rfl
  obtain ⟨⟨x1, x2, x3⟩, hx, hx1⟩ := Option.map_eq_some_iff.1 hw
  simp only [Prod.mk.injEq] at hx1
  obtain ⟨rfl, rfl⟩ := hx1
  exact OpenSpec.preRow_of_cond 8 hx (by kernel_rfl) (fun k hk => by cases hk) (by kernel_rfl) (door_met os _)
set_option maxRecDepth 100000 in
set_option maxHeartbeats 800000 in
theorem lifted (os : Os) (started : os.Started) (H : Type) (enc : TypeId × Value → H) (F : Stop.Interp) :
    ReturnsInHanded {} Tryd.checked os 3 .any ((OpenSpec.ofChange Rows.ringChecksSpec).preRow enc Tryd.prog Tryd.f3 Rows.ringChecksRow.domain false Rows.ringChecksRow.laid) (((OpenSpec.ofChange Rows.ringChecksSpec).at F).post enc Tryd.prog Tryd.f3 false true false false) := by
  refine returnsInHanded_of_row (C := Tryd.checked) (s := OpenSpec.ofChange Rows.ringChecksSpec) own started (by kernel_rfl) Tryd.func3
    (witness_row_atRef (enc := enc) (C := Tryd.checked) false (start os) #[Value.agg #[.int .i64 0, .slice none 0 0]] rfl (by kernel_rfl) (by kernel_rfl) (by kernel_rfl) (witness os enc)) ?_
  intro W base args ds gs before hval0 hW _ _ _ hL _ _
  have hval : ∀ (j : Nat) t v, Tryd.f3.params[j]? = some t → args[j]? = some v → Value.okWide Tryd.prog W .any base t v := hval0
  have hW' := hW
  obtain ⟨p, q, hA0, hV, rfl, hfz, hnd⟩ := hW
  have hA : DataW.TrodAll enc Tryd.prog W 0 (fun _ => true) true Tryd.f3.params.toList args.toList ds p := hA0
  rw [Tryd.params3] at hA hval
  obtain ⟨v0, vs0, d0, ds0, p0, q0, hargs, rfl, rfl, h0, r0⟩ := trodAll_cons hA
  obtain ⟨rfl, rfl, rfl⟩ := trodAll_nil r0
  obtain rfl : args = #[v0] := by cases args; simp_all
  obtain ⟨rfl, rfl⟩ := trodVars_none hV
  have a0 := open_ring (hval 0 24 v0 rfl rfl) h0
  clear hA0 hval0
  refine (checks_walk W v0 a0 (five_laid hL)).mono fun e W' ⟨he, bel⟩ => ?_
  subst he
  exact ⟨_, rfl, _, _, _, [], _, [], hW', trodAll_mk1 (shut_bool Tryd.underlying4 _), (trodAll_cons_mk (stays (by kernel_rfl) (of_decide_eq_true (by kernel_rfl)) h0 bel) trodAll_mk0), rfl, bel.frame _, fun h => by cases h⟩
theorem said : Rows.ringChecksRow.holds Tryd.pinned (OpenSpec.ofChange Rows.ringChecksSpec) :=
  OpenClaim.holds_of_cond 3 Tryd.f3 rfl rfl rfl rfl rfl rfl rfl ⟨rfl, rfl, rfl, rfl, rfl⟩ rfl rfl rfl rfl rfl (by kernel_rfl) Tryd.func3 (by kernel_rfl)
    (of_decide_eq_true (by kernel_rfl)) (by unfold Func.isWrapper; first | (rw [if_pos (by decide +kernel)]; kernel_rfl) | (rw [if_neg (by decide +kernel)]; exact ⟨rfl, rfl⟩))
    (fun os started H enc _ F => by rw [OpenClaim.pre_eq_preRow]; exact lifted os started H enc F)
theorem plain (f : FuncId) (fn : Func) (hf : Tryd.pinned.checked.prog.funcNamed "sawmill/sawmilllaw12.RingChecks" = some f) (hfn : Tryd.pinned.checked.prog.funcs[f]? = some fn) :
    false = Tryd.pinned.checked.prog.looks [] ∧ ∀ (j : Nat) t, fn.params[j]? = some t → Tryd.pinned.checked.prog.wantsStandIn t = false := by
  obtain rfl : f = 3 := Option.some.inj ((show Tryd.prog.funcNamed "sawmill/sawmilllaw12.RingChecks" = some 3 by kernel_rfl).symm.trans hf) |>.symm
  obtain rfl : fn = Tryd.f3 := (Option.some.inj (Tryd.func3.symm.trans hfn)).symm
  refine ⟨by kernel_rfl, fun j t ht => ?_⟩
  rw [Tryd.params3] at ht
  have hm := Array.mem_of_getElem? ht
  obtain rfl : t = 24 := by simpa using hm
  exact (show Tryd.prog.wantsStandIn 24 = false by kernel_rfl)
theorem proved : Rows.RingChecksCardSaid :=
  Claim7.holds_tied_plain_at .later [] _ _ _ _ said (fun _ h => by cases h) (by kernel_rfl) (fun _ h => by cases h) ringChecks_row_tie rfl ⟨rfl, rfl⟩ (by kernel_rfl) rfl plain (by kernel_rfl)
end ringChecks

end Go.Proofs.YtlcgbeocdimboaaDoor
