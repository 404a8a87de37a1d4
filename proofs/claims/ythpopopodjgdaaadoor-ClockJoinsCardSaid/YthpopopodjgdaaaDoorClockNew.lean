/- For every list of shifts the law ClockNew returns true: New accepts exactly the specified lists, and returns a calendar or the specified error (asked for at most 40 shifts); and the examples hold. No condition. -/
import Derived.Test.YthpopopodjgdaaaDoorArgs
set_option linter.unusedVariables false
set_option linter.unusedSimpArgs false
namespace Go.Proofs.YthpopopodjgdaaaDoor
open Go.ChangeShapes Go.WideShapes Go.ChangeAt Go.RowKit Km

theorem few_c (v : Value) (l : List P) (b : Bool) (w : World) (hr : RdP w v l) (hl : l.length ≤ maxLen) (h : Hid (decide (l.length ≤ 40) = b)) : Calls Tryd.prog 13 #[v] w fun e w' => e = .returned (.bool b) ∧ w = w' := by
  obtain ⟨A, c, rfl, _⟩ := hr
  unfold maxLen at hl
  go_enter Tryd.func13, Tryd.ntmps13
  go_wp2
  go_ret
  exact ⟨ret_bool (by rw [← h.out]; simp; omega), rfl⟩
set_option maxRecDepth 100000 in
set_option maxHeartbeats 1600000 in
theorem new_walk (w : World) (v : Value) (hv : ArgP w v) (_ : Laid w) : Calls Tryd.prog 3 #[v] w fun e w' => e = .returned (.bool true) ∧ Below w.heap.size w w' := by
  obtain ⟨l, hr, hl⟩ := hv
  have HR := Lib.hid hr
  have HL := Lib.hid hl
  obtain ⟨e, he⟩ : ∃ e, chk l = e := ⟨_, rfl⟩
  have HE := Lib.hid he
  have t0 : ((e : Int) == (e : Int)) = true := by simp
  obtain ⟨sm, hsm⟩ : ∃ b, decide (l.length ≤ 40) = b := ⟨_, rfl⟩
  have HSM := Lib.hid hsm
  clear hr hl hsm
  cases sm with
  | true =>
    by_cases h0 : e = 0
    · subst h0
      clear he
      go_enter Tryd.func3, Tryd.ntmps3
      go_wp2_with fail
      refine (few_c _ l true _ HR.out HL.out HSM).mono ?_; rintro E w1 ⟨rfl, rfl⟩
      go_wp2_with fail
      refine (New_c _ l HE _ HR.out).mono ?_; rintro E w1 ⟨g, rfl, _, hq1⟩
      have Q1 := Lib.hid hq1
      clear hq1
      go_wp2_with fail
      refine (rCheck_c _ l 0 HE _ (RdG.q HR.out Q1.out) HL.out).mono ?_; rintro E w2 ⟨rfl, hq2⟩
      have Q2 := Lib.hid (Q1.out.trans hq2)
      clear hq2
      go_wp2_with fail
      refine (awake_c _).mono ?_; rintro E w5 ⟨rfl, hq5⟩
      go_wp2_with fail
      go_ret
      exact ⟨rfl, Q2.out.trans hq5⟩
    · have t1 : ((e : Int) == 0) = false := by simp; exact h0
      go_enter Tryd.func3, Tryd.ntmps3
      go_wp2_with fail
      refine (few_c _ l true _ HR.out HL.out HSM).mono ?_; rintro E w1 ⟨rfl, rfl⟩
      go_wp2_with fail
      refine (New_no _ l e HE h0 _ HR.out HL.out).mono ?_; rintro E w1 ⟨rfl, hq1⟩
      have Q1 := Lib.hid hq1
      clear hq1
      go_wp2_with fail
      refine (rCheck_c _ l e HE _ (RdG.q HR.out Q1.out) HL.out).mono ?_; rintro E w2 ⟨rfl, hq2⟩
      have Q2 := Lib.hid (Q1.out.trans hq2)
      clear hq2
      go_wp2_with fail
      refine (awake_c _).mono ?_; rintro E w5 ⟨rfl, hq5⟩
      go_wp2_with fail
      go_ret
      exact ⟨rfl, Q2.out.trans hq5⟩
  | false =>
    go_enter Tryd.func3, Tryd.ntmps3
    go_wp2_with fail
    refine (few_c _ l false _ HR.out HL.out HSM).mono ?_; rintro E w1 ⟨rfl, rfl⟩
    go_wp2_with fail
    refine (awake_c _).mono ?_; rintro E w5 ⟨rfl, hq5⟩
    go_wp2_with fail
    go_ret
    exact ⟨rfl, hq5⟩

open Go.ChangeMaps (open_string shut_string)
namespace clockNew
theorem witness (os : Os) {H : Type} (enc : TypeId × Value → H) : (OpenSpec.ofChange Rows.clockNewSpec).preRow enc Tryd.prog Tryd.f3 Rows.clockNewRow.domain false Rows.clockNewRow.laid ((start os).forCall (fun _ _ => 0) ⟨#[], #[Value.slice none 0 0], []⟩).memory #[Value.slice none 0 0] := by
  have hw : (DataW.whole enc Tryd.prog ((start os).forCall (fun _ _ => 0) ⟨#[], #[Value.slice none 0 0], []⟩).memory Tryd.f3.params.toList Rows.clockNewSpec.vars false (#[Value.slice none 0 0] : Array Value).toList 8).map (fun x => (x.1, x.2.1)) = some ([.nil], []) := by kernel_rfl
  obtain ⟨⟨x1, x2, x3⟩, hx, hx1⟩ := Option.map_eq_some_iff.1 hw
  simp only [Prod.mk.injEq] at hx1
  obtain ⟨rfl, rfl⟩ := hx1
  exact OpenSpec.preRow_of_cond 8 hx (by kernel_rfl) (fun k hk => by cases hk) (by kernel_rfl) (door_met os _)
set_option maxRecDepth 100000 in
set_option maxHeartbeats 800000 in
theorem lifted (os : Os) (started : os.Started) (H : Type) (enc : TypeId × Value → H) (F : Stop.Interp) :
    ReturnsInHanded {} Tryd.checked os 3 .any ((OpenSpec.ofChange Rows.clockNewSpec).preRow enc Tryd.prog Tryd.f3 Rows.clockNewRow.domain false Rows.clockNewRow.laid) (((OpenSpec.ofChange Rows.clockNewSpec).at F).post enc Tryd.prog Tryd.f3 false true false false) := by
  refine returnsInHanded_of_row (C := Tryd.checked) (s := OpenSpec.ofChange Rows.clockNewSpec) own started (by kernel_rfl) Tryd.func3
    (witness_row_atRef (enc := enc) (C := Tryd.checked) false (start os) #[Value.slice none 0 0] rfl (by kernel_rfl) (by kernel_rfl) (by kernel_rfl) (witness os enc)) ?_
  intro W base args ds gs before hval0 hW _ _ _ hL _ _
  have hval : ∀ (j : Nat) t v, Tryd.f3.params[j]? = some t → args[j]? = some v → Value.okWide Tryd.prog W .any base t v := hval0
  have hW' := hW
  obtain ⟨p, q, hA0, hV, rfl, hfz, hnd⟩ := hW
  have hA : DataW.TrodAll enc Tryd.prog W 0 (fun _ => true) true Tryd.f3.params.toList args.toList ds p := hA0
  rw [Tryd.params3] at hA hval
  obtain ⟨v0, vs0, d0, ds0, p0, q0, hargs, rfl, rfl, h0, r0⟩ := trodAll_cons hA
  obtain ⟨rfl, rfl, rfl⟩ := trodAll_nil r0
  obtain rfl : args = #[v0] := by cases args; simp_all
  obtain ⟨rfl, rfl⟩ := trodVars_none hV
  have a0 := open_pts (hval 0 22 v0 rfl rfl) h0
  clear hA0 hval0
  refine (new_walk W v0 a0 (five_laid hL)).mono fun e W' ⟨he, bel⟩ => ?_
  subst he
  exact ⟨_, rfl, _, _, _, [], _, [], hW', trodAll_mk1 (shut_bool Tryd.underlying4 _), (trodAll_cons_mk (stays (by kernel_rfl) (of_decide_eq_true (by kernel_rfl)) h0 bel) trodAll_mk0), rfl, bel.frame _, fun h => by cases h⟩
theorem said : Rows.clockNewRow.holds Tryd.pinned (OpenSpec.ofChange Rows.clockNewSpec) :=
  OpenClaim.holds_of_cond 3 Tryd.f3 rfl rfl rfl rfl rfl rfl rfl ⟨rfl, rfl, rfl, rfl, rfl⟩ rfl rfl rfl rfl rfl (by kernel_rfl) Tryd.func3 (by kernel_rfl)
    (of_decide_eq_true (by kernel_rfl)) (by unfold Func.isWrapper; first | (rw [if_pos (by decide +kernel)]; kernel_rfl) | (rw [if_neg (by decide +kernel)]; exact ⟨rfl, rfl⟩))
    (fun os started H enc _ F => by rw [OpenClaim.pre_eq_preRow]; exact lifted os started H enc F)
theorem plain (f : FuncId) (fn : Func) (hf : Tryd.pinned.checked.prog.funcNamed "sawmill/sawmilllaw07.ClockNew" = some f) (hfn : Tryd.pinned.checked.prog.funcs[f]? = some fn) :
    false = Tryd.pinned.checked.prog.looks [] ∧ ∀ (j : Nat) t, fn.params[j]? = some t → Tryd.pinned.checked.prog.wantsStandIn t = false := by
  obtain rfl : f = 3 := Option.some.inj ((show Tryd.prog.funcNamed "sawmill/sawmilllaw07.ClockNew" = some 3 by kernel_rfl).symm.trans hf) |>.symm
  obtain rfl : fn = Tryd.f3 := (Option.some.inj (Tryd.func3.symm.trans hfn)).symm
  refine ⟨by kernel_rfl, fun j t ht => ?_⟩
  rw [Tryd.params3] at ht
  have hm := Array.mem_of_getElem? ht
  obtain rfl : t = 22 := by simpa using hm
  exact (show Tryd.prog.wantsStandIn 22 = false by kernel_rfl)
theorem proved : Rows.ClockNewCardSaid :=
  Claim7.holds_tied_plain_at .later [] _ _ _ _ said (fun _ h => by cases h) (by kernel_rfl) (fun _ h => by cases h) clockNew_row_tie rfl ⟨rfl, rfl⟩ (by kernel_rfl) rfl plain (by kernel_rfl)
end clockNew

end Go.Proofs.YthpopopodjgdaaaDoor
