/- For every list of shifts and any two numbers the law ClockAdds returns true: Add returns the specified time, or error (asked for at most 40 shifts); and the examples hold. No condition. -/
import Derived.Test.YthpopopodjgdaaaDoorMade
set_option linter.unusedVariables false
set_option linter.unusedSimpArgs false
namespace Go.Proofs.YthpopopodjgdaaaDoor
open Go.ChangeShapes Go.WideShapes Go.ChangeAt Go.RowKit Km

set_option maxRecDepth 100000 in
set_option maxHeartbeats 3200000 in
theorem adds_walk (w : World) (v u0 u1 : Value) (hv : ArgP w v) (hu0 : ArgI w u0) (hu1 : ArgI w u1) (_ : Laid w) : Calls Tryd.prog 6 #[v, u0, u1] w fun e w' => e = .returned (.bool true) ∧ Below w.heap.size w w' := by
  obtain ⟨l, hr, hl⟩ := hv
  obtain ⟨a0, rfl, _⟩ := hu0
  obtain ⟨a1, rfl, _⟩ := hu1
  have HR := Lib.hid hr
  have HL := Lib.hid hl
  obtain ⟨e, he⟩ : ∃ e, chk l = e := ⟨_, rfl⟩
  have HE := Lib.hid he
  obtain ⟨sm, hsm⟩ : ∃ b, decide (l.length ≤ 40) = b := ⟨_, rfl⟩
  have HSM := Lib.hid hsm
  clear hr hl hsm
  cases sm with
  | true =>
    by_cases h0 : e = 0
    · subst h0
      have HO := Lib.hid (chk_zero he)
      obtain ⟨x, k, hx⟩ : ∃ x k, addS l a0 a1 = (x, k) := ⟨_, _, rfl⟩
      have HXK := Lib.hid hx
      have t1 : (x == x) = true := by simp
      have t3 : ((k : Int) == k) = true := by simp
      clear hx
      clear he
      go_enter Tryd.func6, Tryd.ntmps6
      go_wp2_with fail
      refine (few_c _ l true _ HR.out HL.out HSM).mono ?_; rintro E w1 ⟨rfl, rfl⟩
      go_wp2_with fail
      refine (rCheck_c _ l 0 HE _ HR.out HL.out).mono ?_; rintro E w1 ⟨rfl, hq1⟩
      have Q1 := Lib.hid hq1
      clear hq1
      go_wp2_with fail
      refine (made_yes _ l HE HSM _ (RdG.q HR.out Q1.out) HL.out).mono ?_; rintro E w2 ⟨g, rfl, hc, hq2⟩
      have HC2 := Lib.hid hc
      have Q2 := Lib.hid (Q1.out.trans hq2)
      clear hq2 hc
      go_wp2_with fail
      refine (Add_c g l a0 a1 x k _ HC2 HO HXK).mono ?_; rintro E w3 ⟨rfl, hq3⟩
      have Q3 := Lib.hid (Q2.out.trans hq3)
      have HC3 := Lib.hid (HC2.out.q hq3)
      clear hq3
      go_wp2_with fail
      refine (rAdd_c _ l a0 a1 x k _ (RdG.q HR.out Q3.out) HO HXK).mono ?_; rintro E w4 ⟨rfl, hq4⟩
      have Q4 := Lib.hid (Q3.out.trans hq4)
      have HC4 := Lib.hid (HC3.out.q hq4)
      clear hq4
      go_wp2_with fail
      refine (awake_c _).mono ?_; rintro E w9 ⟨rfl, hq9⟩
      go_wp2_with fail
      go_ret
      exact ⟨rfl, Q4.out.trans hq9⟩
    · have t1 : ((e : Int) != 0) = true := by simp; exact h0
      go_enter Tryd.func6, Tryd.ntmps6
      go_wp2_with fail
      refine (few_c _ l true _ HR.out HL.out HSM).mono ?_; rintro E w1 ⟨rfl, rfl⟩
      go_wp2_with fail
      refine (rCheck_c _ l e HE _ HR.out HL.out).mono ?_; rintro E w1 ⟨rfl, hq1⟩
      have Q1 := Lib.hid hq1
      clear hq1
      go_wp2_with fail
      refine (awake_c _).mono ?_; rintro E w5 ⟨rfl, hq5⟩
      go_wp2_with fail
      go_ret
      exact ⟨rfl, Q1.out.trans hq5⟩
  | false =>
    go_enter Tryd.func6, Tryd.ntmps6
    go_wp2_with fail
    refine (few_c _ l false _ HR.out HL.out HSM).mono ?_; rintro E w1 ⟨rfl, rfl⟩
    go_wp2_with fail
    refine (awake_c _).mono ?_; rintro E w5 ⟨rfl, hq5⟩
    go_wp2_with fail
    go_ret
    exact ⟨rfl, hq5⟩

open Go.ChangeMaps (open_string shut_string)
namespace clockAdds
theorem witness (os : Os) {H : Type} (enc : TypeId × Value → H) : (OpenSpec.ofChange Rows.clockAddsSpec).preRow enc Tryd.prog Tryd.f6 Rows.clockAddsRow.domain false Rows.clockAddsRow.laid ((start os).forCall (fun _ _ => 0) ⟨#[], #[Value.slice none 0 0, Value.int .i64 0, Value.int .i64 0], []⟩).memory #[Value.slice none 0 0, Value.int .i64 0, Value.int .i64 0] := by
  have hw : (DataW.whole enc Tryd.prog ((start os).forCall (fun _ _ => 0) ⟨#[], #[Value.slice none 0 0, Value.int .i64 0, Value.int .i64 0], []⟩).memory Tryd.f6.params.toList Rows.clockAddsSpec.vars false (#[Value.slice none 0 0, Value.int .i64 0, Value.int .i64 0] : Array Value).toList 8).map (fun x => (x.1, x.2.1)) = some ([.nil, .lit (.int .i64 0), .lit (.int .i64 0)], []) := by kernel_rfl
  obtain ⟨⟨x1, x2, x3⟩, hx, hx1⟩ := Option.map_eq_some_iff.1 hw
  simp only [Prod.mk.injEq] at hx1
  obtain ⟨rfl, rfl⟩ := hx1
  exact OpenSpec.preRow_of_cond 8 hx (by kernel_rfl) (fun k hk => by cases hk) (by kernel_rfl) (door_met os _)
set_option maxRecDepth 100000 in
set_option maxHeartbeats 800000 in
theorem lifted (os : Os) (started : os.Started) (H : Type) (enc : TypeId × Value → H) (F : Stop.Interp) :
    ReturnsInHanded {} Tryd.checked os 6 .any ((OpenSpec.ofChange Rows.clockAddsSpec).preRow enc Tryd.prog Tryd.f6 Rows.clockAddsRow.domain false Rows.clockAddsRow.laid) (((OpenSpec.ofChange Rows.clockAddsSpec).at F).post enc Tryd.prog Tryd.f6 false true false false) := by
  refine returnsInHanded_of_row (C := Tryd.checked) (s := OpenSpec.ofChange Rows.clockAddsSpec) own started (by kernel_rfl) Tryd.func6
    (witness_row_atRef (enc := enc) (C := Tryd.checked) false (start os) #[Value.slice none 0 0, Value.int .i64 0, Value.int .i64 0] rfl (by kernel_rfl) (by kernel_rfl) (by kernel_rfl) (witness os enc)) ?_
  intro W base args ds gs before hval0 hW _ _ _ hL _ _
  have hval : ∀ (j : Nat) t v, Tryd.f6.params[j]? = some t → args[j]? = some v → Value.okWide Tryd.prog W .any base t v := hval0
  have hW' := hW
  obtain ⟨p, q, hA0, hV, rfl, hfz, hnd⟩ := hW
  have hA : DataW.TrodAll enc Tryd.prog W 0 (fun _ => true) true Tryd.f6.params.toList args.toList ds p := hA0
  rw [Tryd.params6] at hA hval
  obtain ⟨v0, vs0, d0, ds0, p0, q0, hargs, rfl, rfl, h0, r0⟩ := trodAll_cons hA
  obtain ⟨v1, vs1, d1, ds1, p1, q1, rfl, rfl, rfl, h1, r1⟩ := trodAll_cons r0
  obtain ⟨v2, vs2, d2, ds2, p2, q2, rfl, rfl, rfl, h2, r2⟩ := trodAll_cons r1
  obtain ⟨rfl, rfl, rfl⟩ := trodAll_nil r2
  obtain rfl : args = #[v0, v1, v2] := by cases args; simp_all
  obtain ⟨rfl, rfl⟩ := trodVars_none hV
  have a0 := open_pts (hval 0 22 v0 rfl rfl) h0
  have a1 := open_i64 (hval 1 3 v1 rfl rfl) h1
  have a2 := open_i64 (hval 2 3 v2 rfl rfl) h2
  clear hA0 hval0
  refine (adds_walk W v0 v1 v2 a0 a1 a2 (five_laid hL)).mono fun e W' ⟨he, bel⟩ => ?_
  subst he
  exact ⟨_, rfl, _, _, _, [], _, [], hW', trodAll_mk1 (shut_bool Tryd.underlying4 _), (trodAll_cons_mk (stays (by kernel_rfl) (of_decide_eq_true (by kernel_rfl)) h0 bel) (trodAll_cons_mk (stays (by kernel_rfl) (of_decide_eq_true (by kernel_rfl)) h1 bel) (trodAll_cons_mk (stays (by kernel_rfl) (of_decide_eq_true (by kernel_rfl)) h2 bel) trodAll_mk0))), rfl, bel.frame _, fun h => by cases h⟩
theorem said : Rows.clockAddsRow.holds Tryd.pinned (OpenSpec.ofChange Rows.clockAddsSpec) :=
  OpenClaim.holds_of_cond 6 Tryd.f6 rfl rfl rfl rfl rfl rfl rfl ⟨rfl, rfl, rfl, rfl, rfl⟩ rfl rfl rfl rfl rfl (by kernel_rfl) Tryd.func6 (by kernel_rfl)
    (of_decide_eq_true (by kernel_rfl)) (by unfold Func.isWrapper; first | (rw [if_pos (by decide +kernel)]; kernel_rfl) | (rw [if_neg (by decide +kernel)]; exact ⟨rfl, rfl⟩))
    (fun os started H enc _ F => by rw [OpenClaim.pre_eq_preRow]; exact lifted os started H enc F)
theorem plain (f : FuncId) (fn : Func) (hf : Tryd.pinned.checked.prog.funcNamed "sawmill/sawmilllaw07.ClockAdds" = some f) (hfn : Tryd.pinned.checked.prog.funcs[f]? = some fn) :
    false = Tryd.pinned.checked.prog.looks [] ∧ ∀ (j : Nat) t, fn.params[j]? = some t → Tryd.pinned.checked.prog.wantsStandIn t = false := by
  obtain rfl : f = 6 := Option.some.inj ((show Tryd.prog.funcNamed "sawmill/sawmilllaw07.ClockAdds" = some 6 by kernel_rfl).symm.trans hf) |>.symm
  obtain rfl : fn = Tryd.f6 := (Option.some.inj (Tryd.func6.symm.trans hfn)).symm
  refine ⟨by kernel_rfl, fun j t ht => ?_⟩
  rw [Tryd.params6] at ht
  have hm := Array.mem_of_getElem? ht
  rcases (show t = 22 ∨ t = 3 by simpa using hm) with rfl | rfl
  · exact (show Tryd.prog.wantsStandIn 22 = false by kernel_rfl)
  · exact (show Tryd.prog.wantsStandIn 3 = false by kernel_rfl)
theorem proved : Rows.ClockAddsCardSaid :=
  Claim7.holds_tied_plain_at .later [] _ _ _ _ said (fun _ h => by cases h) (by kernel_rfl) (fun _ h => by cases h) clockAdds_row_tie rfl ⟨rfl, rfl⟩ (by kernel_rfl) rfl plain (by kernel_rfl)
end clockAdds

end Go.Proofs.YthpopopodjgdaaaDoor
