/- For every string the law LexerErrors returns true: the offset of an error is within the text, what stands ahead of it has no error, and what begins there has the same error at its beginning (asked for at most 3000 bytes), and the examples hold. The row's list gives the error variable. -/
import Derived.Test.YtlnfoknghfoffaaDoorLaid
import Derived.Test.YtlnfoknghfoffaaDoorTexts
set_option linter.unusedVariables false
set_option linter.unusedSimpArgs false
namespace Go.Proofs.YtlnfoknghfoffaaDoor
open Go.ChangeShapes Go.WideShapes Go.ChangeAt Go.RowKit Lm

set_option maxRecDepth 100000 in
set_option maxHeartbeats 1600000 in
theorem errors_walk (s : ByteArray) (w : World) (hs : s.size ≤ maxLen) (hL : Laid w) : Calls Tryd.prog 9 #[.string s] w fun e w' => e = .returned (.bool true) ∧ Below w.heap.size w w' := by
  unfold maxLen at hs
  have HL := Lib.hid hL
  clear hL
  by_cases h1 : 3000 < s.size
  · have i1 : 3000 < (s.size : Int) := by omega
    go_enter Tryd.func9, Tryd.ntmps9
    go_wp2_with fail
    refine (awake_c _ HL.out).mono ?_; rintro E w1 ⟨rfl, hq1⟩
    go_wp2_with fail
    go_ret
    exact ⟨rfl, hq1⟩
  · have i1 : ¬ 3000 < (s.size : Int) := by omega
    obtain ⟨l, e, p, hr⟩ : ∃ l e p, scan s = (l, e, p) := ⟨_, _, _, rfl⟩
    by_cases he : e = 0
    · subst he
      obtain ⟨rfl, hl, _⟩ := scan_ok (by omega) hr
      have HA := Lib.hid (fun w h => sc_is s l 0 0 hr (by omega) w h)
      have t1 : 0 < (l.length : Int) := by have := List.length_pos_iff.2 hl; omega
      clear hr hl
      go_enter Tryd.func9, Tryd.ntmps9
      go_wp2_with fail
      refine (HA.out _ HL.out).mono ?_; rintro E w1 ⟨v1, rfl, hr1, hq1⟩
      have L1 := Lib.hid (HL.out.stays hq1)
      have Q1 := Lib.hid hq1
      obtain ⟨A1, c1, rfl, hc1, _⟩ := hr1
      clear hq1 hc1
      go_wp2_with fail
      refine (awake_c _ L1.out).mono ?_; rintro E w2 ⟨rfl, hq2⟩
      go_wp2_with fail
      go_ret
      exact ⟨rfl, Q1.out.trans hq2⟩
    · obtain ⟨rfl, hp, hk, ⟨l1, h2⟩, h3⟩ := scan_err (by omega) hr he
      have HA := Lib.hid (fun w h => sc_is s [] e p hr (by omega) w h)
      have HB := Lib.hid (fun w h => sc_is (s.extract 0 p) l1 0 0 h2 (by rw [ext_size (by omega)]; omega) w h)
      have HC := Lib.hid (show ∀ w, Laid w → Calls Tryd.prog 11 #[.string (s.extract p s.size)] w (S1Post [] e 0 w) from fun w h => sc_is (rs s p) [] e 0 h3 (by rw [rs_size]; omega) w h)
      have t1 : ((e : Int) == (e : Int)) = true := by simp
      have i2 : ¬ (p : Int) < 0 := by omega
      have i3 : (p : Int) < (s.size : Int) := by omega
      have i4 : ((e : Int) == 0) = false := by simp; omega
      clear hr h2 h3
      rcases hk with rfl | rfl | rfl
      all_goals
        go_enter Tryd.func9, Tryd.ntmps9
        go_wp2_with fail
        refine (HA.out _ HL.out).mono ?_; rintro E w1 ⟨v1, rfl, hr1, hq1⟩
        have L1 := Lib.hid (HL.out.stays hq1)
        have Q1 := Lib.hid hq1
        obtain ⟨A1, c1, rfl, hc1, _⟩ := hr1
        clear hq1 hc1
        go_wp2_with fail
        refine (HB.out _ L1.out).mono ?_; rintro E w2 ⟨v2, rfl, hr2, hq2⟩
        have L2 := Lib.hid (L1.out.stays hq2)
        have Q2 := Lib.hid (Q1.out.trans hq2)
        obtain ⟨A2, c2, rfl, hc2, _⟩ := hr2
        clear hq2 hc2
        go_wp2_with fail
        refine (HC.out _ L2.out).mono ?_; rintro E w3 ⟨v3, rfl, hr3, hq3⟩
        have L3 := Lib.hid (L2.out.stays hq3)
        have Q3 := Lib.hid (Q2.out.trans hq3)
        obtain ⟨A3, c3, rfl, hc3, _⟩ := hr3
        clear hq3 hc3
        go_wp2_with fail
        refine (awake_c _ L3.out).mono ?_; rintro E w4 ⟨rfl, hq4⟩
        go_wp2_with fail
        go_ret
        exact ⟨rfl, Q3.out.trans hq4⟩

open Go.ChangeMaps (open_string shut_string)
namespace lexerErrors
theorem witness (os : Os) {H : Type} (enc : TypeId × Value → H) : (OpenSpec.ofChange Rows.lexerErrorsSpec).preRow enc Tryd.prog Tryd.f9 Rows.lexerErrorsRow.domain false Rows.lexerErrorsRow.laid ((start os).forCall (fun _ _ => 0) ⟨#[], #[Value.string ⟨#[]⟩], []⟩).memory #[Value.string ⟨#[]⟩] := by
  have hw : (DataW.whole enc Tryd.prog ((start os).forCall (fun _ _ => 0) ⟨#[], #[Value.string ⟨#[]⟩], []⟩).memory Tryd.f9.params.toList Rows.lexerErrorsSpec.vars false (#[Value.string ⟨#[]⟩] : Array Value).toList 8).map (fun x => (x.1, x.2.1)) = some ([.lit (.string [])], []) := by kernel_rfl
  obtain ⟨⟨x1, x2, x3⟩, hx, hx1⟩ := Option.map_eq_some_iff.1 hw
  simp only [Prod.mk.injEq] at hx1
  obtain ⟨rfl, rfl⟩ := hx1
  exact OpenSpec.preRow_of_cond 8 hx (by kernel_rfl) (fun k hk => by cases hk) (by kernel_rfl) (door_met os _)
set_option maxRecDepth 100000 in
theorem lifted (os : Os) (started : os.Started) (H : Type) (enc : TypeId × Value → H) (F : Stop.Interp) :
    ReturnsInHanded {} Tryd.checked os 9 .any ((OpenSpec.ofChange Rows.lexerErrorsSpec).preRow enc Tryd.prog Tryd.f9 Rows.lexerErrorsRow.domain false Rows.lexerErrorsRow.laid) (((OpenSpec.ofChange Rows.lexerErrorsSpec).at F).post enc Tryd.prog Tryd.f9 false true false false) := by
  refine returnsInHanded_of_row (C := Tryd.checked) (s := OpenSpec.ofChange Rows.lexerErrorsSpec) own started (by kernel_rfl) Tryd.func9
    (witness_row_atRef (enc := enc) (C := Tryd.checked) false (start os) #[Value.string ⟨#[]⟩] rfl (by kernel_rfl) (by kernel_rfl) (by kernel_rfl) (witness os enc)) ?_
  intro W base args ds gs before hval0 hW _ _ _ hL _ _
  have hval : ∀ (j : Nat) t v, Tryd.f9.params[j]? = some t → args[j]? = some v → Value.okWide Tryd.prog W .any base t v := hval0
  have hW' := hW
  obtain ⟨p, q, hA0, hV, rfl, hfz, hnd⟩ := hW
  have hA : DataW.TrodAll enc Tryd.prog W 0 (fun _ => true) true Tryd.f9.params.toList args.toList ds p := hA0
  rw [Tryd.params9] at hA hval
  obtain ⟨v0, vs0, d0, ds0, p0, q0, hargs, rfl, rfl, h0, r0⟩ := trodAll_cons hA
  obtain ⟨rfl, rfl, rfl⟩ := trodAll_nil r0
  obtain rfl : args = #[v0] := by cases args; simp_all
  obtain ⟨rfl, rfl⟩ := trodVars_none hV
  obtain ⟨a0, rfl, rfl, rfl, w0⟩ := open_string Tryd.underlying9 (hval 0 9 v0 rfl rfl) h0
  clear hA0 hval0
  refine (errors_walk a0 W w0 (five_laid hL)).mono fun e W' ⟨he, bel⟩ => ?_
  subst he
  exact ⟨_, rfl, _, _, _, [], _, [], hW', trodAll_mk1 (shut_bool Tryd.underlying4 _), (trodAll_cons_mk (shut_string Tryd.underlying9 w0) trodAll_mk0), rfl, bel.frame _, fun h => by cases h⟩
theorem said : Rows.lexerErrorsRow.holds Tryd.pinned (OpenSpec.ofChange Rows.lexerErrorsSpec) :=
  OpenClaim.holds_of_cond 9 Tryd.f9 rfl rfl rfl rfl rfl rfl rfl ⟨rfl, rfl, rfl, rfl, rfl⟩ rfl rfl rfl rfl rfl (by kernel_rfl) Tryd.func9 (by kernel_rfl)
    (of_decide_eq_true (by kernel_rfl)) (by unfold Func.isWrapper; first | (rw [if_pos (by decide +kernel)]; kernel_rfl) | (rw [if_neg (by decide +kernel)]; exact ⟨rfl, rfl⟩))
    (fun os started H enc _ F => by rw [OpenClaim.pre_eq_preRow]; exact lifted os started H enc F)
theorem plain (f : FuncId) (fn : Func) (hf : Tryd.pinned.checked.prog.funcNamed "sawmill/sawmilllaw06.LexerErrors" = some f) (hfn : Tryd.pinned.checked.prog.funcs[f]? = some fn) :
    true = Tryd.pinned.checked.prog.looks [] ∧ ∀ (j : Nat) t, fn.params[j]? = some t → Tryd.pinned.checked.prog.wantsStandIn t = false := by
  obtain rfl : f = 9 := Option.some.inj ((show Tryd.prog.funcNamed "sawmill/sawmilllaw06.LexerErrors" = some 9 by kernel_rfl).symm.trans hf) |>.symm
  obtain rfl : fn = Tryd.f9 := (Option.some.inj (Tryd.func9.symm.trans hfn)).symm
  refine ⟨by kernel_rfl, fun j t ht => ?_⟩
  rw [Tryd.params9] at ht
  have hm := Array.mem_of_getElem? ht
  obtain rfl : t = 9 := by simpa using hm
  exact (show Tryd.prog.wantsStandIn 9 = false by kernel_rfl)
theorem proved : Rows.LexerErrorsCardSaid :=
  Claim7.holds_tied_plain_at .later [] _ _ _ _ said (fun _ h => by cases h) (by kernel_rfl) (fun _ h => by cases h) lexerErrors_row_tie rfl ⟨rfl, rfl⟩ (by kernel_rfl) rfl plain (by kernel_rfl)
end lexerErrors

end Go.Proofs.YtlnfoknghfoffaaDoor
