/- For every number and string the law ClockBack returns true: Parse inverts Format, and Format inverts Parse (asked of strings of at most 100 bytes); and the examples hold. No condition. -/
import Derived.Test.YthpopopodjgdaaaDoorBackM
import Derived.Test.YthpopopodjgdaaaDoorAwake
import Derived.Lib.SmallJoins
set_option linter.unusedVariables false
set_option linter.unusedSimpArgs false
namespace Go.Proofs.YthpopopodjgdaaaDoor
open Go.ChangeShapes Go.WideShapes Go.ChangeAt Go.RowKit Km

theorem gPow : Tryd.prog.globalNamed "internal/strconv.uint64pow10" = some 1 := by kernel_rfl
theorem Laid.stays {w w' : World} (h : Laid w) (hq : Q w w') : Laid w' := Go.Joins.tab_stays gPow h hq (Nat.le_refl _)
theorem lawT_c (n : Int) (b : Bool) (h : Hid (isT n = b)) (w : World) : Calls Tryd.prog 30 #[.int .i64 n] w fun e w' => e = .returned (.bool b) ∧ w = w' := lIsTime_c n b h w
set_option maxRecDepth 100000 in
set_option maxHeartbeats 3200000 in
theorem back_walk (t : Int) (s : ByteArray) (w : World) (_ : Fit t) (_ : s.size ≤ maxLen) (hl : Laid w) : Calls Tryd.prog 11 #[.int .i64 t, .string s] w fun e w' => e = .returned (.bool true) ∧ Below w.heap.size w w' := by
  by_cases hs : 100 < s.size
  · have i1 : (100 : Int) < (s.size : Int) := by omega
    have i2 : decide ((100 : Int) < (s.size : Int)) = true := decide_eq_true i1
    go_enter Tryd.func11, Tryd.ntmps11
    go_wp2_with fail
    refine (awake_c _).mono ?_; rintro E w1 ⟨rfl, hq1⟩
    go_wp2_with fail
    go_ret
    exact ⟨rfl, hq1⟩
  · have i1 : ¬ (100 : Int) < (s.size : Int) := by omega
    have i2 : decide ((100 : Int) < (s.size : Int)) = false := decide_eq_false i1
    have S1 := Lib.hid (show s.size ≤ 1000000 by omega)
    have HL := Lib.hid hl
    obtain ⟨F, hF⟩ : ∃ F, fmS t = F := ⟨_, rfl⟩
    have HF := Lib.hid hF
    have SF := Lib.hid (show F.size ≤ 1000000 by rw [← hF]; have := fmS_size t; omega)
    obtain ⟨b, hb⟩ : ∃ b, isT t = b := ⟨_, rfl⟩
    have HB := Lib.hid hb
    obtain ⟨x, e, hxe⟩ : ∃ x e, paS F = (x, e) := ⟨_, _, rfl⟩
    have HX := Lib.hid hxe
    obtain ⟨n, k, hnk⟩ : ∃ n k, paS s = (n, k) := ⟨_, _, rfl⟩
    have HN := Lib.hid hnk
    have hbk := back_two hnk
    -- the second half: two ways
    have hway : (k ≠ 0 ∧ n = 0) ∨ (k = 0 ∧ isT n = true ∧ fmS n = s) := by
      by_cases g : k = 0
      · exact .inr ⟨g, hbk.1 g⟩
      · exact .inl ⟨g, hbk.2 g⟩
    -- the first half: two ways
    have hfst : (b = true ∧ x = t ∧ e = 0) ∨ (b = false ∧ F = ⟨#[]⟩) := by
      cases b with
      | true =>
        have := back_one hb
        rw [hF, hxe] at this
        injection this with p q
        exact .inl ⟨rfl, p, q⟩
      | false => exact .inr ⟨rfl, by rw [← hF, fmS_no hb]; rfl⟩
    clear hF hb hxe hnk hbk hs hl
    rcases hfst with ⟨rfl, rfl, rfl⟩ | ⟨rfl, rfl⟩
    · rcases hway with ⟨hk, rfl⟩ | ⟨rfl, hT, hfm⟩
      · have j1 : ((k : Int) != 0) = true := by simp; exact hk
        clear hk
        go_enter Tryd.func11, Tryd.ntmps11
        go_wp2_with fail
        refine (Format_c x F _ HL.out HF).mono ?_; rintro E w1 ⟨rfl, hq1⟩
        have Q1 := Lib.hid (show Q w w1 from hq1)
        clear hq1
        go_wp2_with fail
        refine (Parse_c F x 0 _ SF.out HX).mono ?_; rintro E w2 ⟨rfl, hq2⟩
        have Q2 := Lib.hid (Q1.out.trans hq2)
        clear hq2
        go_wp2_with fail
        refine (lawT_c x true HB _).mono ?_; rintro E w3 ⟨rfl, rfl⟩
        go_wp2_with fail
        refine (lawT_c x true HB _).mono ?_; rintro E w3 ⟨rfl, rfl⟩
        go_wp2_with fail
        refine (Parse_c s 0 k _ S1.out HN).mono ?_; rintro E w4 ⟨rfl, hq4⟩
        have Q4 := Lib.hid (Q2.out.trans hq4)
        clear hq4
        go_wp2_with fail
        refine (awake_c _).mono ?_; rintro E w5 ⟨rfl, hq5⟩
        go_wp2_with fail
        go_ret
        exact ⟨rfl, Q4.out.trans hq5⟩
      · have HT := Lib.hid hT
        have HM := Lib.hid hfm
        clear hT hfm
        go_enter Tryd.func11, Tryd.ntmps11
        go_wp2_with fail
        refine (Format_c x F _ HL.out HF).mono ?_; rintro E w1 ⟨rfl, hq1⟩
        have Q1 := Lib.hid (show Q w w1 from hq1)
        clear hq1
        go_wp2_with fail
        refine (Parse_c F x 0 _ SF.out HX).mono ?_; rintro E w2 ⟨rfl, hq2⟩
        have Q2 := Lib.hid (Q1.out.trans hq2)
        clear hq2
        go_wp2_with fail
        refine (lawT_c x true HB _).mono ?_; rintro E w3 ⟨rfl, rfl⟩
        go_wp2_with fail
        refine (lawT_c x true HB _).mono ?_; rintro E w3 ⟨rfl, rfl⟩
        go_wp2_with fail
        refine (Parse_c s n 0 _ S1.out HN).mono ?_; rintro E w4 ⟨rfl, hq4⟩
        have Q4 := Lib.hid (Q2.out.trans hq4)
        clear hq4
        go_wp2_with fail
        refine (lawT_c n true HT _).mono ?_; rintro E w5 ⟨rfl, rfl⟩
        go_wp2_with fail
        refine (Format_c n s _ (HL.out.stays Q4.out) HM).mono ?_; rintro E w6 ⟨rfl, hq6⟩
        have Q6 := Lib.hid (Q4.out.trans hq6)
        clear hq6
        go_wp2_with fail
        refine (awake_c _).mono ?_; rintro E w7 ⟨rfl, hq7⟩
        go_wp2_with fail
        go_ret
        exact ⟨rfl, Q6.out.trans hq7⟩
    · rcases hway with ⟨hk, rfl⟩ | ⟨rfl, hT, hfm⟩
      · have j1 : ((k : Int) != 0) = true := by simp; exact hk
        clear hk
        go_enter Tryd.func11, Tryd.ntmps11
        go_wp2_with fail
        refine (Format_c t ⟨#[]⟩ _ HL.out HF).mono ?_; rintro E w1 ⟨rfl, hq1⟩
        have Q1 := Lib.hid (show Q w w1 from hq1)
        clear hq1
        go_wp2_with fail
        refine (Parse_c ⟨#[]⟩ x e _ SF.out HX).mono ?_; rintro E w2 ⟨rfl, hq2⟩
        have Q2 := Lib.hid (Q1.out.trans hq2)
        clear hq2
        go_wp2_with fail
        refine (lawT_c t false HB _).mono ?_; rintro E w3 ⟨rfl, rfl⟩
        go_wp2_with fail
        refine (lawT_c t false HB _).mono ?_; rintro E w3 ⟨rfl, rfl⟩
        go_wp2_with fail
        refine (Format_c t ⟨#[]⟩ _ (HL.out.stays Q2.out) HF).mono ?_; rintro E w8 ⟨rfl, hq8⟩
        have Q8 := Lib.hid (Q2.out.trans hq8)
        clear hq8
        go_wp2_with fail
        refine (Parse_c s 0 k _ S1.out HN).mono ?_; rintro E w4 ⟨rfl, hq4⟩
        have Q4 := Lib.hid (Q8.out.trans hq4)
        clear hq4
        go_wp2_with fail
        refine (awake_c _).mono ?_; rintro E w5 ⟨rfl, hq5⟩
        go_wp2_with fail
        go_ret
        exact ⟨rfl, Q4.out.trans hq5⟩
      · have HT := Lib.hid hT
        have HM := Lib.hid hfm
        clear hT hfm
        go_enter Tryd.func11, Tryd.ntmps11
        go_wp2_with fail
        refine (Format_c t ⟨#[]⟩ _ HL.out HF).mono ?_; rintro E w1 ⟨rfl, hq1⟩
        have Q1 := Lib.hid (show Q w w1 from hq1)
        clear hq1
        go_wp2_with fail
        refine (Parse_c ⟨#[]⟩ x e _ SF.out HX).mono ?_; rintro E w2 ⟨rfl, hq2⟩
        have Q2 := Lib.hid (Q1.out.trans hq2)
        clear hq2
        go_wp2_with fail
        refine (lawT_c t false HB _).mono ?_; rintro E w3 ⟨rfl, rfl⟩
        go_wp2_with fail
        refine (lawT_c t false HB _).mono ?_; rintro E w3 ⟨rfl, rfl⟩
        go_wp2_with fail
        refine (Format_c t ⟨#[]⟩ _ (HL.out.stays Q2.out) HF).mono ?_; rintro E w8 ⟨rfl, hq8⟩
        have Q8 := Lib.hid (Q2.out.trans hq8)
        clear hq8
        go_wp2_with fail
        refine (Parse_c s n 0 _ S1.out HN).mono ?_; rintro E w4 ⟨rfl, hq4⟩
        have Q4 := Lib.hid (Q8.out.trans hq4)
        clear hq4
        go_wp2_with fail
        refine (lawT_c n true HT _).mono ?_; rintro E w5 ⟨rfl, rfl⟩
        go_wp2_with fail
        refine (Format_c n s _ (HL.out.stays Q4.out) HM).mono ?_; rintro E w6 ⟨rfl, hq6⟩
        have Q6 := Lib.hid (Q4.out.trans hq6)
        clear hq6
        go_wp2_with fail
        refine (awake_c _).mono ?_; rintro E w7 ⟨rfl, hq7⟩
        go_wp2_with fail
        go_ret
        exact ⟨rfl, Q6.out.trans hq7⟩

open Go.ChangeMaps (open_string shut_string)
namespace clockBack
theorem witness (os : Os) {H : Type} (enc : TypeId × Value → H) : (OpenSpec.ofChange Rows.clockBackSpec).preRow enc Tryd.prog Tryd.f11 Rows.clockBackRow.domain false Rows.clockBackRow.laid ((start os).forCall (fun _ _ => 0) ⟨#[], #[Value.int .i64 0, Value.string ⟨#[]⟩], []⟩).memory #[Value.int .i64 0, Value.string ⟨#[]⟩] := by
  have hw : (DataW.whole enc Tryd.prog ((start os).forCall (fun _ _ => 0) ⟨#[], #[Value.int .i64 0, Value.string ⟨#[]⟩], []⟩).memory Tryd.f11.params.toList Rows.clockBackSpec.vars false (#[Value.int .i64 0, Value.string ⟨#[]⟩] : Array Value).toList 8).map (fun x => (x.1, x.2.1)) = some ([.lit (.int .i64 0), .lit (.string [])], []) := by kernel_rfl
  obtain ⟨⟨x1, x2, x3⟩, hx, hx1⟩ := Option.map_eq_some_iff.1 hw
  simp only [Prod.mk.injEq] at hx1
  obtain ⟨rfl, rfl⟩ := hx1
  exact OpenSpec.preRow_of_cond 8 hx (by kernel_rfl) (fun k hk => by cases hk) (by kernel_rfl) (door_met os _)
set_option maxRecDepth 100000 in
theorem lifted (os : Os) (started : os.Started) (H : Type) (enc : TypeId × Value → H) (F : Stop.Interp) :
    ReturnsInHanded {} Tryd.checked os 11 .any ((OpenSpec.ofChange Rows.clockBackSpec).preRow enc Tryd.prog Tryd.f11 Rows.clockBackRow.domain false Rows.clockBackRow.laid) (((OpenSpec.ofChange Rows.clockBackSpec).at F).post enc Tryd.prog Tryd.f11 false true false false) := by
  refine returnsInHanded_of_row (C := Tryd.checked) (s := OpenSpec.ofChange Rows.clockBackSpec) own started (by kernel_rfl) Tryd.func11
    (witness_row_atRef (enc := enc) (C := Tryd.checked) false (start os) #[Value.int .i64 0, Value.string ⟨#[]⟩] rfl (by kernel_rfl) (by kernel_rfl) (by kernel_rfl) (witness os enc)) ?_
  intro W base args ds gs before hval0 hW _ _ _ hL _ _
  have hval : ∀ (j : Nat) t v, Tryd.f11.params[j]? = some t → args[j]? = some v → Value.okWide Tryd.prog W .any base t v := hval0
  have hW' := hW
  obtain ⟨p, q, hA0, hV, rfl, hfz, hnd⟩ := hW
  have hA : DataW.TrodAll enc Tryd.prog W 0 (fun _ => true) true Tryd.f11.params.toList args.toList ds p := hA0
  rw [Tryd.params11] at hA hval
  obtain ⟨v0, vs0, d0, ds0, p0, q0, hargs, rfl, rfl, h0, r0⟩ := trodAll_cons hA
  obtain ⟨v1, vs1, d1, ds1, p1, q1, rfl, rfl, rfl, h1, r1⟩ := trodAll_cons r0
  obtain ⟨rfl, rfl, rfl⟩ := trodAll_nil r1
  obtain rfl : args = #[v0, v1] := by cases args; simp_all
  obtain ⟨rfl, rfl⟩ := trodVars_none hV
  obtain ⟨a0, rfl, rfl, rfl, w0⟩ := open_int Tryd.underlying3 (hval 0 3 v0 rfl rfl) h0
  obtain ⟨a1, rfl, rfl, rfl, w1⟩ := open_string Tryd.underlying9 (hval 1 9 v1 rfl rfl) h1
  clear hA0 hval0
  refine (back_walk a0 a1 W (fit_of w0) w1 (five_laid hL)).mono fun e W' ⟨he, bel⟩ => ?_
  subst he
  exact ⟨_, rfl, _, _, _, [], _, [], hW', trodAll_mk1 (shut_bool Tryd.underlying4 _), (trodAll_cons_mk (shut_int Tryd.underlying3 w0) (trodAll_cons_mk (shut_string Tryd.underlying9 w1) trodAll_mk0)), rfl, bel.frame _, fun h => by cases h⟩
theorem said : Rows.clockBackRow.holds Tryd.pinned (OpenSpec.ofChange Rows.clockBackSpec) :=
  OpenClaim.holds_of_cond 11 Tryd.f11 rfl rfl rfl rfl rfl rfl rfl ⟨rfl, rfl, rfl, rfl, rfl⟩ rfl rfl rfl rfl rfl (by kernel_rfl) Tryd.func11 (by kernel_rfl)
    (of_decide_eq_true (by kernel_rfl)) (by unfold Func.isWrapper; first | (rw [if_pos (by decide +kernel)]; kernel_rfl) | (rw [if_neg (by decide +kernel)]; exact ⟨rfl, rfl⟩))
    (fun os started H enc _ F => by rw [OpenClaim.pre_eq_preRow]; exact lifted os started H enc F)
theorem plain (f : FuncId) (fn : Func) (hf : Tryd.pinned.checked.prog.funcNamed "sawmill/sawmilllaw07.ClockBack" = some f) (hfn : Tryd.pinned.checked.prog.funcs[f]? = some fn) :
    false = Tryd.pinned.checked.prog.looks [] ∧ ∀ (j : Nat) t, fn.params[j]? = some t → Tryd.pinned.checked.prog.wantsStandIn t = false := by
  obtain rfl : f = 11 := Option.some.inj ((show Tryd.prog.funcNamed "sawmill/sawmilllaw07.ClockBack" = some 11 by kernel_rfl).symm.trans hf) |>.symm
  obtain rfl : fn = Tryd.f11 := (Option.some.inj (Tryd.func11.symm.trans hfn)).symm
  refine ⟨by kernel_rfl, fun j t ht => ?_⟩
  rw [Tryd.params11] at ht
  have hm := Array.mem_of_getElem? ht
  rcases (show t = 3 ∨ t = 9 by simpa using hm) with rfl | rfl
  · exact (show Tryd.prog.wantsStandIn 3 = false by kernel_rfl)
  · exact (show Tryd.prog.wantsStandIn 9 = false by kernel_rfl)
theorem proved : Rows.ClockBackCardSaid :=
  Claim7.holds_tied_plain_at .later [] _ _ _ _ said (fun _ h => by cases h) (by kernel_rfl) (fun _ h => by cases h) clockBack_row_tie rfl ⟨rfl, rfl⟩ (by kernel_rfl) rfl plain (by kernel_rfl)
end clockBack

end Go.Proofs.YthpopopodjgdaaaDoor
