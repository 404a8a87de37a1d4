/- For every list of shifts and any two numbers the law ClockInverts returns true: as many minutes are worked up to the time that Add returns, the last one directly before it; if it returns none, there are fewer up to the end (asked for at most 40 shifts); and the examples hold. No condition. -/
import Derived.Test.YthpopopodjgdaaaDoorMade
import Derived.Test.YthpopopodjgdaaaDoorNextM
set_option linter.unusedVariables false
set_option linter.unusedSimpArgs false
namespace Go.Proofs.YthpopopodjgdaaaDoor
open Go.ChangeShapes Go.WideShapes Go.ChangeAt Go.RowKit Km

set_option maxRecDepth 100000 in
set_option maxHeartbeats 3200000 in
theorem inverts_walk (w : World) (v u0 u1 : Value) (hv : ArgP w v) (hu0 : ArgI w u0) (hu1 : ArgI w u1) (_ : Laid w) : Calls Tryd.prog 9 #[v, u0, u1] w fun e w' => e = .returned (.bool true) ∧ Below w.heap.size w w' := by
  obtain ⟨l, hr, hl⟩ := hv
  obtain ⟨a0, rfl, _⟩ := hu0
  obtain ⟨a1, rfl, _⟩ := hu1
  have HR := Lib.hid hr
  have HL := Lib.hid hl
  obtain ⟨e, he⟩ : ∃ e, chk l = e := ⟨_, rfl⟩
  have HE := Lib.hid he
  obtain ⟨sm, hsm⟩ : ∃ b, decide (l.length ≤ 40) = b := ⟨_, rfl⟩
  have HSM := Lib.hid hsm
  clear hr hl hsm
  cases sm with
  | false =>
    go_enter Tryd.func9, Tryd.ntmps9
    go_wp2_with fail
    refine (made_big _ l HSM _ HR.out HL.out).mono ?_; rintro E w1 ⟨rfl, hq1⟩
    have Q1 := Lib.hid hq1
    clear hq1
    go_wp2_with fail
    refine (awake_c _).mono ?_; rintro E w9 ⟨rfl, hq9⟩
    go_wp2_with fail
    go_ret
    exact ⟨rfl, Q1.out.trans hq9⟩
  | true =>
    by_cases h0 : e = 0
    case neg =>
      go_enter Tryd.func9, Tryd.ntmps9
      go_wp2_with fail
      refine (made_no _ l e HE h0 HSM _ HR.out HL.out).mono ?_; rintro E w1 ⟨rfl, hq1⟩
      have Q1 := Lib.hid hq1
      clear hq1
      go_wp2_with fail
      refine (awake_c _).mono ?_; rintro E w9 ⟨rfl, hq9⟩
      go_wp2_with fail
      go_ret
      exact ⟨rfl, Q1.out.trans hq9⟩
    case pos =>
      subst h0
      have HO := Lib.hid (chk_zero he)
      clear he
      obtain ⟨b, hb⟩ : ∃ b, isT a0 = b := ⟨_, rfl⟩
      have HB := Lib.hid hb
      cases b with
      | false =>
        clear hb
        go_enter Tryd.func9, Tryd.ntmps9
        go_wp2_with fail
        refine (made_yes _ l HE HSM _ HR.out HL.out).mono ?_; rintro E w1 ⟨g, rfl, hc, hq1⟩
        have HC1 := Lib.hid hc
        have Q1 := Lib.hid hq1
        clear hq1 hc
        go_wp2_with fail
        refine (lIsTime_c a0 false HB _).mono ?_; rintro E wT ⟨rfl, rfl⟩
        go_wp2_with fail
        refine (awake_c _).mono ?_; rintro E w9 ⟨rfl, hq9⟩
        go_wp2_with fail
        go_ret
        exact ⟨rfl, Q1.out.trans hq9⟩
      | true =>
        by_cases hm : 0 ≤ a1 ∧ a1 ≤ 10000000
        · have hmT := isT_mk hm.1 hm.2
          have m1 : decide (a1 < 0) = false := decide_eq_false (by omega)
          have m1' : ¬ a1 < 0 := by omega
          have m2 : decide (10000000 < a1) = false := decide_eq_false (by omega)
          have m2' : ¬ 10000000 < a1 := by omega
          have HMB := Lib.hid hm
          rcases add_cases HO.out hb hmT with ⟨h0, hn, hwk⟩ | ⟨h0, x, hn, hx, hxT, hwk, hop, hwk2⟩ | ⟨hn, hwk⟩
          · subst h0
            have HN := Lib.hid hn
            have HWK := Lib.hid hwk
            have x1 : decide (a0 < a0) = false := decide_eq_false (by omega)
            have x2 : (a0 != a0) = false := by simp
            clear hb hm hmT hn hwk
            go_enter Tryd.func9, Tryd.ntmps9
            go_wp2_with fail
            refine (made_yes _ l HE HSM _ HR.out HL.out).mono ?_; rintro E w1 ⟨g, rfl, hc, hq1⟩
            have HC1 := Lib.hid hc
            have Q1 := Lib.hid hq1
            clear hq1 hc
            go_wp2_with fail
            refine (lIsTime_c a0 true HB _).mono ?_; rintro E wT ⟨rfl, rfl⟩
            go_wp2_with fail
            refine (Add_c g l a0 0 a0 0 _ HC1 HO HN).mono ?_; rintro E w2 ⟨rfl, hq2⟩
            have Q2 := Lib.hid (Q1.out.trans hq2)
            have HC2 := Lib.hid (HC1.out.q hq2)
            clear hq2
            go_wp2_with fail
            refine (lIsTime_c a0 true HB _).mono ?_; rintro E wT ⟨rfl, rfl⟩
            go_wp2_with fail
            refine (Work_c g l a0 a0 0 _ HC2 HO HWK).mono ?_; rintro E w3 ⟨rfl, hq3⟩
            have Q3 := Lib.hid (Q2.out.trans hq3)
            have HC3 := Lib.hid (HC2.out.q hq3)
            clear hq3
            go_wp2_with fail
            refine (awake_c _).mono ?_; rintro E w9 ⟨rfl, hq9⟩
            go_wp2_with fail
            go_ret
            exact ⟨rfl, Q3.out.trans hq9⟩
          · have HN := Lib.hid hn
            have HWK := Lib.hid hwk
            have HWK2 := Lib.hid hwk2
            have HOP := Lib.hid hop
            have HX := Lib.hid hxT
            have xb := isT_yes hxT
            have x1 : decide (x < a0) = false := decide_eq_false (by omega)
            have x1' : ¬ x < a0 := by omega
            have x2 : decide (a0 < x) = true := decide_eq_true hx
            have x3 : (a1 == 0) = false := by simp; exact h0
            have x4 : (a1 != a1) = false := by simp
            obtain ⟨y, hy⟩ : ∃ y, x - 1 = y := ⟨_, rfl⟩
            have r1 : wrap64 (x - 1) = y := by rw [hy]; exact IntWalk.wrap64_in _ (by omega)
            obtain ⟨m, hm1⟩ : ∃ y, a1 - 1 = y := ⟨_, rfl⟩
            have r2 : wrap64 (a1 - 1) = m := by rw [hm1]; exact IntWalk.wrap64_in _ (by omega)
            have x5 : (m == m) = true := by simp
            have x6 : (m == (a1 - 1)) = true := by rw [← hm1]; simp
            have x7 : (m == wrap64 (a1 - 1)) = true := by rw [r2]; simp
            rw [hy] at HOP HWK2
            rw [hm1] at HWK2
            clear hb hm hmT hn hwk hwk2 hop hxT xb hx h0 hy hm1
            go_enter Tryd.func9, Tryd.ntmps9
            go_wp2_with fail
            refine (made_yes _ l HE HSM _ HR.out HL.out).mono ?_; rintro E w1 ⟨g, rfl, hc, hq1⟩
            have HC1 := Lib.hid hc
            have Q1 := Lib.hid hq1
            clear hq1 hc
            go_wp2_with fail
            refine (lIsTime_c a0 true HB _).mono ?_; rintro E wT ⟨rfl, rfl⟩
            go_wp2_with fail
            refine (Add_c g l a0 a1 x 0 _ HC1 HO HN).mono ?_; rintro E w2 ⟨rfl, hq2⟩
            have Q2 := Lib.hid (Q1.out.trans hq2)
            have HC2 := Lib.hid (HC1.out.q hq2)
            clear hq2
            go_wp2_with fail
            refine (lIsTime_c x true HX _).mono ?_; rintro E wT ⟨rfl, rfl⟩
            go_wp2_with fail
            refine (Work_c g l a0 x a1 _ HC2 HO HWK).mono ?_; rintro E w3 ⟨rfl, hq3⟩
            have Q3 := Lib.hid (Q2.out.trans hq3)
            have HC3 := Lib.hid (HC2.out.q hq3)
            clear hq3
            go_wp2_with fail
            (try rw [r1])
            refine (Open_c g l y true _ HC3 HO HOP).mono ?_; rintro E w4 ⟨rfl, hq4⟩
            have Q4 := Lib.hid (Q3.out.trans hq4)
            have HC4 := Lib.hid (HC3.out.q hq4)
            clear hq4
            go_wp2_with fail
            (try rw [r1])
            refine (Work_c g l a0 y m _ HC4 HO HWK2).mono ?_; rintro E w5 ⟨rfl, hq5⟩
            have Q5 := Lib.hid (Q4.out.trans hq5)
            have HC5 := Lib.hid (HC4.out.q hq5)
            clear hq5
            go_wp2_with fail
            refine (awake_c _).mono ?_; rintro E w9 ⟨rfl, hq9⟩
            go_wp2_with fail
            go_ret
            exact ⟨rfl, Q5.out.trans hq9⟩
          · have HN := Lib.hid hn
            obtain ⟨k, hk⟩ : ∃ k, workS l a0 10000000 = k := ⟨_, rfl⟩
            have HWK := Lib.hid hk
            rw [hk] at hwk
            have x1 : decide (k < a1) = true := decide_eq_true hwk
            clear hb hm hmT hn hwk hk
            go_enter Tryd.func9, Tryd.ntmps9
            go_wp2_with fail
            refine (made_yes _ l HE HSM _ HR.out HL.out).mono ?_; rintro E w1 ⟨g, rfl, hc, hq1⟩
            have HC1 := Lib.hid hc
            have Q1 := Lib.hid hq1
            clear hq1 hc
            go_wp2_with fail
            refine (lIsTime_c a0 true HB _).mono ?_; rintro E wT ⟨rfl, rfl⟩
            go_wp2_with fail
            refine (Add_c g l a0 a1 0 15 _ HC1 HO HN).mono ?_; rintro E w2 ⟨rfl, hq2⟩
            have Q2 := Lib.hid (Q1.out.trans hq2)
            have HC2 := Lib.hid (HC1.out.q hq2)
            clear hq2
            go_wp2_with fail
            refine (Work_c g l a0 10000000 k _ HC2 HO HWK).mono ?_; rintro E w3 ⟨rfl, hq3⟩
            have Q3 := Lib.hid (Q2.out.trans hq3)
            have HC3 := Lib.hid (HC2.out.q hq3)
            clear hq3
            go_wp2_with fail
            refine (awake_c _).mono ?_; rintro E w9 ⟨rfl, hq9⟩
            go_wp2_with fail
            go_ret
            exact ⟨rfl, Q3.out.trans hq9⟩
        · have n0 : (decide (a1 < 0) = true ∧ a1 < 0) ∨ (decide (a1 < 0) = false ∧ ¬ a1 < 0 ∧ decide (10000000 < a1) = true ∧ 10000000 < a1) := by
            by_cases q : a1 < 0
            · exact .inl ⟨decide_eq_true q, q⟩
            · have q2 : 10000000 < a1 := by omega
              exact .inr ⟨decide_eq_false q, q, decide_eq_true q2, q2⟩
          clear hb hm
          rcases n0 with ⟨q1, q1'⟩ | ⟨q1, q1', q2, q2'⟩
          all_goals
            go_enter Tryd.func9, Tryd.ntmps9
            go_wp2_with fail
            refine (made_yes _ l HE HSM _ HR.out HL.out).mono ?_; rintro E w1 ⟨g, rfl, hc, hq1⟩
            have HC1 := Lib.hid hc
            have Q1 := Lib.hid hq1
            clear hq1 hc
            go_wp2_with fail
            refine (lIsTime_c a0 true HB _).mono ?_; rintro E wT ⟨rfl, rfl⟩
            go_wp2_with fail
            refine (awake_c _).mono ?_; rintro E w9 ⟨rfl, hq9⟩
            go_wp2_with fail
            go_ret
            exact ⟨rfl, Q1.out.trans hq9⟩

open Go.ChangeMaps (open_string shut_string)
namespace clockInverts
theorem witness (os : Os) {H : Type} (enc : TypeId × Value → H) : (OpenSpec.ofChange Rows.clockInvertsSpec).preRow enc Tryd.prog Tryd.f9 Rows.clockInvertsRow.domain false Rows.clockInvertsRow.laid ((start os).forCall (fun _ _ => 0) ⟨#[], #[Value.slice none 0 0, Value.int .i64 0, Value.int .i64 0], []⟩).memory #[Value.slice none 0 0, Value.int .i64 0, Value.int .i64 0] := by
  have hw : (DataW.whole enc Tryd.prog ((start os).forCall (fun _ _ => 0) ⟨#[], #[Value.slice none 0 0, Value.int .i64 0, Value.int .i64 0], []⟩).memory Tryd.f9.params.toList Rows.clockInvertsSpec.vars false (#[Value.slice none 0 0, Value.int .i64 0, Value.int .i64 0] : Array Value).toList 8).map (fun x => (x.1, x.2.1)) = some ([.nil, .lit (.int .i64 0), .lit (.int .i64 0)], []) := by kernel_rfl
  obtain ⟨⟨x1, x2, x3⟩, hx, hx1⟩ := Option.map_eq_some_iff.1 hw
  simp only [Prod.mk.injEq] at hx1
  obtain ⟨rfl, rfl⟩ := hx1
  exact OpenSpec.preRow_of_cond 8 hx (by kernel_rfl) (fun k hk => by cases hk) (by kernel_rfl) (door_met os _)
set_option maxRecDepth 100000 in
set_option maxHeartbeats 800000 in
theorem lifted (os : Os) (started : os.Started) (H : Type) (enc : TypeId × Value → H) (F : Stop.Interp) :
    ReturnsInHanded {} Tryd.checked os 9 .any ((OpenSpec.ofChange Rows.clockInvertsSpec).preRow enc Tryd.prog Tryd.f9 Rows.clockInvertsRow.domain false Rows.clockInvertsRow.laid) (((OpenSpec.ofChange Rows.clockInvertsSpec).at F).post enc Tryd.prog Tryd.f9 false true false false) := by
  refine returnsInHanded_of_row (C := Tryd.checked) (s := OpenSpec.ofChange Rows.clockInvertsSpec) own started (by kernel_rfl) Tryd.func9
    (witness_row_atRef (enc := enc) (C := Tryd.checked) false (start os) #[Value.slice none 0 0, Value.int .i64 0, Value.int .i64 0] rfl (by kernel_rfl) (by kernel_rfl) (by kernel_rfl) (witness os enc)) ?_
  intro W base args ds gs before hval0 hW _ _ _ hL _ _
  have hval : ∀ (j : Nat) t v, Tryd.f9.params[j]? = some t → args[j]? = some v → Value.okWide Tryd.prog W .any base t v := hval0
  have hW' := hW
  obtain ⟨p, q, hA0, hV, rfl, hfz, hnd⟩ := hW
  have hA : DataW.TrodAll enc Tryd.prog W 0 (fun _ => true) true Tryd.f9.params.toList args.toList ds p := hA0
  rw [Tryd.params9] at hA hval
  obtain ⟨v0, vs0, d0, ds0, p0, q0, hargs, rfl, rfl, h0, r0⟩ := trodAll_cons hA
  obtain ⟨v1, vs1, d1, ds1, p1, q1, rfl, rfl, rfl, h1, r1⟩ := trodAll_cons r0
  obtain ⟨v2, vs2, d2, ds2, p2, q2, rfl, rfl, rfl, h2, r2⟩ := trodAll_cons r1
  obtain ⟨rfl, rfl, rfl⟩ := trodAll_nil r2
  obtain rfl : args = #[v0, v1, v2] := by cases args; simp_all
  obtain ⟨rfl, rfl⟩ := trodVars_none hV
  have a0 := open_pts (hval 0 22 v0 rfl rfl) h0
  have a1 := open_i64 (hval 1 3 v1 rfl rfl) h1
  have a2 := open_i64 (hval 2 3 v2 rfl rfl) h2
  clear hA0 hval0
  refine (inverts_walk W v0 v1 v2 a0 a1 a2 (five_laid hL)).mono fun e W' ⟨he, bel⟩ => ?_
  subst he
  exact ⟨_, rfl, _, _, _, [], _, [], hW', trodAll_mk1 (shut_bool Tryd.underlying4 _), (trodAll_cons_mk (stays (by kernel_rfl) (of_decide_eq_true (by kernel_rfl)) h0 bel) (trodAll_cons_mk (stays (by kernel_rfl) (of_decide_eq_true (by kernel_rfl)) h1 bel) (trodAll_cons_mk (stays (by kernel_rfl) (of_decide_eq_true (by kernel_rfl)) h2 bel) trodAll_mk0))), rfl, bel.frame _, fun h => by cases h⟩
theorem said : Rows.clockInvertsRow.holds Tryd.pinned (OpenSpec.ofChange Rows.clockInvertsSpec) :=
  OpenClaim.holds_of_cond 9 Tryd.f9 rfl rfl rfl rfl rfl rfl rfl ⟨rfl, rfl, rfl, rfl, rfl⟩ rfl rfl rfl rfl rfl (by kernel_rfl) Tryd.func9 (by kernel_rfl)
    (of_decide_eq_true (by kernel_rfl)) (by unfold Func.isWrapper; first | (rw [if_pos (by decide +kernel)]; kernel_rfl) | (rw [if_neg (by decide +kernel)]; exact ⟨rfl, rfl⟩))
    (fun os started H enc _ F => by rw [OpenClaim.pre_eq_preRow]; exact lifted os started H enc F)
theorem plain (f : FuncId) (fn : Func) (hf : Tryd.pinned.checked.prog.funcNamed "sawmill/sawmilllaw07.ClockInverts" = some f) (hfn : Tryd.pinned.checked.prog.funcs[f]? = some fn) :
    false = Tryd.pinned.checked.prog.looks [] ∧ ∀ (j : Nat) t, fn.params[j]? = some t → Tryd.pinned.checked.prog.wantsStandIn t = false := by
  obtain rfl : f = 9 := Option.some.inj ((show Tryd.prog.funcNamed "sawmill/sawmilllaw07.ClockInverts" = some 9 by kernel_rfl).symm.trans hf) |>.symm
  obtain rfl : fn = Tryd.f9 := (Option.some.inj (Tryd.func9.symm.trans hfn)).symm
  refine ⟨by kernel_rfl, fun j t ht => ?_⟩
  rw [Tryd.params9] at ht
  have hm := Array.mem_of_getElem? ht
  rcases (show t = 22 ∨ t = 3 by simpa using hm) with rfl | rfl
  · exact (show Tryd.prog.wantsStandIn 22 = false by kernel_rfl)
  · exact (show Tryd.prog.wantsStandIn 3 = false by kernel_rfl)
theorem proved : Rows.ClockInvertsCardSaid :=
  Claim7.holds_tied_plain_at .later [] _ _ _ _ said (fun _ h => by cases h) (by kernel_rfl) (fun _ h => by cases h) clockInverts_row_tie rfl ⟨rfl, rfl⟩ (by kernel_rfl) rfl plain (by kernel_rfl)
end clockInverts

end Go.Proofs.YthpopopodjgdaaaDoor
