/- For every list of shifts and any number the law ClockNexts returns true: the mill works at the time that Next returns, and not before; if it returns none, it never works again (asked for at most 40 shifts); and the examples hold. No condition. -/
import Derived.Test.YthpopopodjgdaaaDoorMade
import Derived.Test.YthpopopodjgdaaaDoorNextM
set_option linter.unusedVariables false
set_option linter.unusedSimpArgs false
namespace Go.Proofs.YthpopopodjgdaaaDoor
open Go.ChangeShapes Go.WideShapes Go.ChangeAt Go.RowKit Km

set_option maxRecDepth 100000 in
set_option maxHeartbeats 3200000 in
theorem nexts_walk (w : World) (v u0 : Value) (hv : ArgP w v) (hu0 : ArgI w u0) (_ : Laid w) : Calls Tryd.prog 10 #[v, u0] w fun e w' => e = .returned (.bool true) ∧ Below w.heap.size w w' := by
  obtain ⟨l, hr, hl⟩ := hv
  obtain ⟨a0, rfl, _⟩ := hu0
  have HR := Lib.hid hr
  have HL := Lib.hid hl
  obtain ⟨e, he⟩ : ∃ e, chk l = e := ⟨_, rfl⟩
  have HE := Lib.hid he
  obtain ⟨sm, hsm⟩ : ∃ b, decide (l.length ≤ 40) = b := ⟨_, rfl⟩
  have HSM := Lib.hid hsm
  clear hr hl hsm
  cases sm with
  | false =>
    go_enter Tryd.func10, Tryd.ntmps10
    go_wp2_with fail
    refine (made_big _ l HSM _ HR.out HL.out).mono ?_; rintro E w1 ⟨rfl, hq1⟩
    have Q1 := Lib.hid hq1
    clear hq1
    go_wp2_with fail
    refine (awake_c _).mono ?_; rintro E w9 ⟨rfl, hq9⟩
    go_wp2_with fail
    go_ret
    exact ⟨rfl, Q1.out.trans hq9⟩
  | true =>
    by_cases h0 : e = 0
    case neg =>
      go_enter Tryd.func10, Tryd.ntmps10
      go_wp2_with fail
      refine (made_no _ l e HE h0 HSM _ HR.out HL.out).mono ?_; rintro E w1 ⟨rfl, hq1⟩
      have Q1 := Lib.hid hq1
      clear hq1
      go_wp2_with fail
      refine (awake_c _).mono ?_; rintro E w9 ⟨rfl, hq9⟩
      go_wp2_with fail
      go_ret
      exact ⟨rfl, Q1.out.trans hq9⟩
    case pos =>
      subst h0
      have HO := Lib.hid (chk_zero he)
      clear he
      obtain ⟨b, hb⟩ : ∃ b, isT a0 = b := ⟨_, rfl⟩
      have HB := Lib.hid hb
      cases b with
      | false =>
        clear hb
        go_enter Tryd.func10, Tryd.ntmps10
        go_wp2_with fail
        refine (made_yes _ l HE HSM _ HR.out HL.out).mono ?_; rintro E w1 ⟨g, rfl, hc, hq1⟩
        have HC1 := Lib.hid hc
        have Q1 := Lib.hid hq1
        clear hq1 hc
        go_wp2_with fail
        refine (lIsTime_c a0 false HB _).mono ?_; rintro E wT ⟨rfl, rfl⟩
        go_wp2_with fail
        refine (awake_c _).mono ?_; rintro E w9 ⟨rfl, hq9⟩
        go_wp2_with fail
        go_ret
        exact ⟨rfl, Q1.out.trans hq9⟩
      | true =>
        rcases next_cases HO.out hb with ⟨x, hn, hx, hop, hwk⟩ | ⟨hn, hwk, hop⟩
        · have HN := Lib.hid hn
          have HOP := Lib.hid hop
          have HWK := Lib.hid hwk
          have hx' : decide (a0 ≤ x) = true := decide_eq_true hx
          clear hb hn hop hwk
          go_enter Tryd.func10, Tryd.ntmps10
          go_wp2_with fail
          refine (made_yes _ l HE HSM _ HR.out HL.out).mono ?_; rintro E w1 ⟨g, rfl, hc, hq1⟩
          have HC1 := Lib.hid hc
          have Q1 := Lib.hid hq1
          clear hq1 hc
          go_wp2_with fail
          refine (lIsTime_c a0 true HB _).mono ?_; rintro E wT ⟨rfl, rfl⟩
          go_wp2_with fail
          refine (Next_c g l a0 x 0 _ HC1 HO HN).mono ?_; rintro E w2 ⟨rfl, hq2⟩
          have Q2 := Lib.hid (Q1.out.trans hq2)
          have HC2 := Lib.hid (HC1.out.q hq2)
          clear hq2
          go_wp2_with fail
          refine (Open_c g l x true _ HC2 HO HOP).mono ?_; rintro E w3 ⟨rfl, hq3⟩
          have Q3 := Lib.hid (Q2.out.trans hq3)
          have HC3 := Lib.hid (HC2.out.q hq3)
          clear hq3
          go_wp2_with fail
          refine (Work_c g l a0 x 0 _ HC3 HO HWK).mono ?_; rintro E w4 ⟨rfl, hq4⟩
          have Q4 := Lib.hid (Q3.out.trans hq4)
          have HC4 := Lib.hid (HC3.out.q hq4)
          clear hq4
          go_wp2_with fail
          refine (awake_c _).mono ?_; rintro E w9 ⟨rfl, hq9⟩
          go_wp2_with fail
          go_ret
          exact ⟨rfl, Q4.out.trans hq9⟩
        · have HN := Lib.hid hn
          have HOP := Lib.hid hop
          have HWK := Lib.hid hwk
          clear hb hn hop hwk
          go_enter Tryd.func10, Tryd.ntmps10
          go_wp2_with fail
          refine (made_yes _ l HE HSM _ HR.out HL.out).mono ?_; rintro E w1 ⟨g, rfl, hc, hq1⟩
          have HC1 := Lib.hid hc
          have Q1 := Lib.hid hq1
          clear hq1 hc
          go_wp2_with fail
          refine (lIsTime_c a0 true HB _).mono ?_; rintro E wT ⟨rfl, rfl⟩
          go_wp2_with fail
          refine (Next_c g l a0 0 15 _ HC1 HO HN).mono ?_; rintro E w2 ⟨rfl, hq2⟩
          have Q2 := Lib.hid (Q1.out.trans hq2)
          have HC2 := Lib.hid (HC1.out.q hq2)
          clear hq2
          go_wp2_with fail
          refine (Work_c g l a0 10000000 0 _ HC2 HO HWK).mono ?_; rintro E w3 ⟨rfl, hq3⟩
          have Q3 := Lib.hid (Q2.out.trans hq3)
          have HC3 := Lib.hid (HC2.out.q hq3)
          clear hq3
          go_wp2_with fail
          refine (Open_c g l 10000000 false _ HC3 HO HOP).mono ?_; rintro E w4 ⟨rfl, hq4⟩
          have Q4 := Lib.hid (Q3.out.trans hq4)
          have HC4 := Lib.hid (HC3.out.q hq4)
          clear hq4
          go_wp2_with fail
          refine (awake_c _).mono ?_; rintro E w9 ⟨rfl, hq9⟩
          go_wp2_with fail
          go_ret
          exact ⟨rfl, Q4.out.trans hq9⟩

open Go.ChangeMaps (open_string shut_string)
namespace clockNexts
theorem witness (os : Os) {H : Type} (enc : TypeId × Value → H) : (OpenSpec.ofChange Rows.clockNextsSpec).preRow enc Tryd.prog Tryd.f10 Rows.clockNextsRow.domain false Rows.clockNextsRow.laid ((start os).forCall (fun _ _ => 0) ⟨#[], #[Value.slice none 0 0, Value.int .i64 0], []⟩).memory #[Value.slice none 0 0, Value.int .i64 0] := by
  have hw : (DataW.whole enc Tryd.prog ((start os).forCall (fun _ _ => 0) ⟨#[], #[Value.slice none 0 0, Value.int .i64 0], []⟩).memory Tryd.f10.params.toList Rows.clockNextsSpec.vars false (#[Value.slice none 0 0, Value.int .i64 0] : Array Value).toList 8).map (fun x => (x.1, x.2.1)) = some ([.nil, .lit (.int .i64 0)], []) := by kernel_rfl
  obtain ⟨⟨x1, x2, x3⟩, hx, hx1⟩ := Option.map_eq_some_iff.1 hw
  simp only [Prod.mk.injEq] at hx1
  obtain ⟨rfl, rfl⟩ := hx1
  exact OpenSpec.preRow_of_cond 8 hx (by kernel_rfl) (fun k hk => by cases hk) (by kernel_rfl) (door_met os _)
set_option maxRecDepth 100000 in
set_option maxHeartbeats 800000 in
theorem lifted (os : Os) (started : os.Started) (H : Type) (enc : TypeId × Value → H) (F : Stop.Interp) :
    ReturnsInHanded {} Tryd.checked os 10 .any ((OpenSpec.ofChange Rows.clockNextsSpec).preRow enc Tryd.prog Tryd.f10 Rows.clockNextsRow.domain false Rows.clockNextsRow.laid) (((OpenSpec.ofChange Rows.clockNextsSpec).at F).post enc Tryd.prog Tryd.f10 false true false false) := by
  refine returnsInHanded_of_row (C := Tryd.checked) (s := OpenSpec.ofChange Rows.clockNextsSpec) own started (by kernel_rfl) Tryd.func10
    (witness_row_atRef (enc := enc) (C := Tryd.checked) false (start os) #[Value.slice none 0 0, Value.int .i64 0] rfl (by kernel_rfl) (by kernel_rfl) (by kernel_rfl) (witness os enc)) ?_
  intro W base args ds gs before hval0 hW _ _ _ hL _ _
  have hval : ∀ (j : Nat) t v, Tryd.f10.params[j]? = some t → args[j]? = some v → Value.okWide Tryd.prog W .any base t v := hval0
  have hW' := hW
  obtain ⟨p, q, hA0, hV, rfl, hfz, hnd⟩ := hW
  have hA : DataW.TrodAll enc Tryd.prog W 0 (fun _ => true) true Tryd.f10.params.toList args.toList ds p := hA0
  rw [Tryd.params10] at hA hval
  obtain ⟨v0, vs0, d0, ds0, p0, q0, hargs, rfl, rfl, h0, r0⟩ := trodAll_cons hA
  obtain ⟨v1, vs1, d1, ds1, p1, q1, rfl, rfl, rfl, h1, r1⟩ := trodAll_cons r0
  obtain ⟨rfl, rfl, rfl⟩ := trodAll_nil r1
  obtain rfl : args = #[v0, v1] := by cases args; simp_all
  obtain ⟨rfl, rfl⟩ := trodVars_none hV
  have a0 := open_pts (hval 0 22 v0 rfl rfl) h0
  have a1 := open_i64 (hval 1 3 v1 rfl rfl) h1
  clear hA0 hval0
  refine (nexts_walk W v0 v1 a0 a1 (five_laid hL)).mono fun e W' ⟨he, bel⟩ => ?_
  subst he
  exact ⟨_, rfl, _, _, _, [], _, [], hW', trodAll_mk1 (shut_bool Tryd.underlying4 _), (trodAll_cons_mk (stays (by kernel_rfl) (of_decide_eq_true (by kernel_rfl)) h0 bel) (trodAll_cons_mk (stays (by kernel_rfl) (of_decide_eq_true (by kernel_rfl)) h1 bel) trodAll_mk0)), rfl, bel.frame _, fun h => by cases h⟩
theorem said : Rows.clockNextsRow.holds Tryd.pinned (OpenSpec.ofChange Rows.clockNextsSpec) :=
  OpenClaim.holds_of_cond 10 Tryd.f10 rfl rfl rfl rfl rfl rfl rfl ⟨rfl, rfl, rfl, rfl, rfl⟩ rfl rfl rfl rfl rfl (by kernel_rfl) Tryd.func10 (by kernel_rfl)
    (of_decide_eq_true (by kernel_rfl)) (by unfold Func.isWrapper; first | (rw [if_pos (by decide +kernel)]; kernel_rfl) | (rw [if_neg (by decide +kernel)]; exact ⟨rfl, rfl⟩))
    (fun os started H enc _ F => by rw [OpenClaim.pre_eq_preRow]; exact lifted os started H enc F)
theorem plain (f : FuncId) (fn : Func) (hf : Tryd.pinned.checked.prog.funcNamed "sawmill/sawmilllaw07.ClockNexts" = some f) (hfn : Tryd.pinned.checked.prog.funcs[f]? = some fn) :
    false = Tryd.pinned.checked.prog.looks [] ∧ ∀ (j : Nat) t, fn.params[j]? = some t → Tryd.pinned.checked.prog.wantsStandIn t = false := by
  obtain rfl : f = 10 := Option.some.inj ((show Tryd.prog.funcNamed "sawmill/sawmilllaw07.ClockNexts" = some 10 by kernel_rfl).symm.trans hf) |>.symm
  obtain rfl : fn = Tryd.f10 := (Option.some.inj (Tryd.func10.symm.trans hfn)).symm
  refine ⟨by kernel_rfl, fun j t ht => ?_⟩
  rw [Tryd.params10] at ht
  have hm := Array.mem_of_getElem? ht
  rcases (show t = 22 ∨ t = 3 by simpa using hm) with rfl | rfl
  · exact (show Tryd.prog.wantsStandIn 22 = false by kernel_rfl)
  · exact (show Tryd.prog.wantsStandIn 3 = false by kernel_rfl)
theorem proved : Rows.ClockNextsCardSaid :=
  Claim7.holds_tied_plain_at .later [] _ _ _ _ said (fun _ h => by cases h) (by kernel_rfl) (fun _ h => by cases h) clockNexts_row_tie rfl ⟨rfl, rfl⟩ (by kernel_rfl) rfl plain (by kernel_rfl)
end clockNexts

end Go.Proofs.YthpopopodjgdaaaDoor
