/- For every string the law LexerAgain returns true: the printed lexemes of a text are read as the same lexemes (asked for at most 3000 bytes), and the examples hold. The row's list gives the error variable. -/
import Derived.Test.YtlnfoknghfoffaaDoorLaid
import Derived.Test.YtlnfoknghfoffaaDoorTexts
set_option linter.unusedVariables false
set_option linter.unusedSimpArgs false
namespace Go.Proofs.YtlnfoknghfoffaaDoor
open Go.ChangeShapes Go.WideShapes Go.ChangeAt Go.RowKit Lm

theorem err_lt {s : ByteArray} (hs : s.size ≤ 8000) {l : List LT} {e a : Nat} (h : scan s = (l, e, a)) (he : e ≠ 0) : l = [] := (scan_err hs h he).1
set_option maxRecDepth 100000 in
set_option maxHeartbeats 1600000 in
theorem again_walk (s : ByteArray) (w : World) (hs : s.size ≤ maxLen) (hL : Laid w) : Calls Tryd.prog 7 #[.string s] w fun e w' => e = .returned (.bool true) ∧ Below w.heap.size w w' := by
  unfold maxLen at hs
  have HL := Lib.hid hL
  clear hL
  by_cases h1 : 3000 < s.size
  · have i1 : 3000 < (s.size : Int) := by omega
    go_enter Tryd.func7, Tryd.ntmps7
    go_wp2_with fail
    refine (awake_c _ HL.out).mono ?_; rintro E w1 ⟨rfl, hq1⟩
    go_wp2_with fail
    go_ret
    exact ⟨rfl, hq1⟩
  · have i1 : ¬ 3000 < (s.size : Int) := by omega
    obtain ⟨l, e, p, hr⟩ : ∃ l e p, scan s = (l, e, p) := ⟨_, _, _, rfl⟩
    by_cases he : e = 0
    · subst he
      obtain ⟨hj, hl, hp, m, h2, h3, h4, h5⟩ := scan_again (by omega) hr
      have HA := Lib.hid (fun w h => sc_is s l 0 p hr (by omega) w h)
      have HP := Lib.hid (fun v w h => Print_c v l w h (by omega) (by omega))
      have HB := Lib.hid (fun w h => sc_is (prS l) m 0 0 h2 (by omega) w h)
      have HS := Lib.hid (fun v u w h k => Same_eq v u l m w h k h3 (by omega))
      have HM := Lib.hid (show ∀ v w, Rd w v m → Calls Tryd.prog 15 #[v] w fun E w' => E = .returned (.string (prS l)) ∧ Q w w' from fun v w h => (Print_c v m w h (by omega) (by rw [h4]; omega)).mono fun E w' ⟨a, b⟩ => ⟨by rw [a]; unfold prS; rw [h4], b⟩)
      obtain ⟨T, hT⟩ : ∃ T, prS l = T := ⟨_, rfl⟩
      rw [hT] at HP HB HM
      have e4 : (T.toList == T.toList) = true := by simp
      clear hr h2 h3 h4 h5 hj hl hp hT
      go_enter Tryd.func7, Tryd.ntmps7
      go_wp2_with fail
      refine (HA.out _ HL.out).mono ?_; rintro E w1 ⟨v1, rfl, hr1, hq1⟩
      have R1 := Lib.hid hr1
      have L1 := Lib.hid (HL.out.stays hq1)
      have Q1 := Lib.hid hq1
      obtain ⟨A1, c1, rfl, hc1, _⟩ := hr1
      clear hq1 hc1
      go_wp2_with fail
      refine (HP.out _ _ R1.out).mono ?_; rintro E w2 ⟨rfl, hq2⟩
      have R2 := Lib.hid (R1.out.q hq2)
      have L2 := Lib.hid (L1.out.stays hq2)
      have Q2 := Lib.hid (Q1.out.trans hq2)
      clear hq2
      go_wp2_with fail
      refine (HB.out _ L2.out).mono ?_; rintro E w3 ⟨v3, rfl, hr3, hq3⟩
      have S3 := Lib.hid hr3
      have R3 := Lib.hid (R2.out.q hq3)
      have L3 := Lib.hid (L2.out.stays hq3)
      have Q3 := Lib.hid (Q2.out.trans hq3)
      obtain ⟨A3, c3, rfl, hc3, _⟩ := hr3
      clear hq3 hc3
      go_wp2_with fail
      refine (HS.out _ _ _ R3.out S3.out).mono ?_; rintro E w4 ⟨rfl, hq4⟩
      have S4 := Lib.hid (S3.out.q hq4)
      have L4 := Lib.hid (L3.out.stays hq4)
      have Q4 := Lib.hid (Q3.out.trans hq4)
      clear hq4
      go_wp2_with fail
      refine (HM.out _ _ S4.out).mono ?_; rintro E w5 ⟨rfl, hq5⟩
      have L5 := Lib.hid (L4.out.stays hq5)
      have Q5 := Lib.hid (Q4.out.trans hq5)
      clear hq5
      go_wp2_with fail
      refine (awake_c _ L5.out).mono ?_; rintro E w6 ⟨rfl, hq6⟩
      go_wp2_with fail
      go_ret
      exact ⟨rfl, Q5.out.trans hq6⟩
    · have HA := Lib.hid (fun w h => sc_is s l e p hr (by omega) w h)
      have i4 : ((e : Int) == 0) = false := by simp; omega
      have i5 : ((e : Int) != 0) = true := by simp; omega
      clear hr
      go_enter Tryd.func7, Tryd.ntmps7
      go_wp2_with fail
      refine (HA.out _ HL.out).mono ?_; rintro E w1 ⟨v1, rfl, hr1, hq1⟩
      have L1 := Lib.hid (HL.out.stays hq1)
      have Q1 := Lib.hid hq1
      obtain ⟨A1, c1, rfl, hc1, _⟩ := hr1
      clear hq1 hc1
      go_wp2_with fail
      refine (awake_c _ L1.out).mono ?_; rintro E w2 ⟨rfl, hq2⟩
      go_wp2_with fail
      go_ret
      exact ⟨rfl, Q1.out.trans hq2⟩

open Go.ChangeMaps (open_string shut_string)
namespace lexerAgain
theorem witness (os : Os) {H : Type} (enc : TypeId × Value → H) : (OpenSpec.ofChange Rows.lexerAgainSpec).preRow enc Tryd.prog Tryd.f7 Rows.lexerAgainRow.domain false Rows.lexerAgainRow.laid ((start os).forCall (fun _ _ => 0) ⟨#[], #[Value.string ⟨#[]⟩], []⟩).memory #[Value.string ⟨#[]⟩] := by
  have hw : (DataW.whole enc Tryd.prog ((start os).forCall (fun _ _ => 0) ⟨#[], #[Value.string ⟨#[]⟩], []⟩).memory Tryd.f7.params.toList Rows.lexerAgainSpec.vars false (#[Value.string ⟨#[]⟩] : Array Value).toList 8).map (fun x => (x.1, x.2.1)) = some ([.lit (.string [])], []) := by kernel_rfl
  obtain ⟨⟨x1, x2, x3⟩, hx, hx1⟩ := Option.map_eq_some_iff.1 hw
  simp only [Prod.mk.injEq] at hx1
  obtain ⟨rfl, rfl⟩ := hx1
  exact OpenSpec.preRow_of_cond 8 hx (by kernel_rfl) (fun k hk => by cases hk) (by kernel_rfl) (door_met os _)
set_option maxRecDepth 100000 in
theorem lifted (os : Os) (started : os.Started) (H : Type) (enc : TypeId × Value → H) (F : Stop.Interp) :
    ReturnsInHanded {} Tryd.checked os 7 .any ((OpenSpec.ofChange Rows.lexerAgainSpec).preRow enc Tryd.prog Tryd.f7 Rows.lexerAgainRow.domain false Rows.lexerAgainRow.laid) (((OpenSpec.ofChange Rows.lexerAgainSpec).at F).post enc Tryd.prog Tryd.f7 false true false false) := by
  refine returnsInHanded_of_row (C := Tryd.checked) (s := OpenSpec.ofChange Rows.lexerAgainSpec) own started (by kernel_rfl) Tryd.func7
    (witness_row_atRef (enc := enc) (C := Tryd.checked) false (start os) #[Value.string ⟨#[]⟩] rfl (by kernel_rfl) (by kernel_rfl) (by kernel_rfl) (witness os enc)) ?_
  intro W base args ds gs before hval0 hW _ _ _ hL _ _
  have hval : ∀ (j : Nat) t v, Tryd.f7.params[j]? = some t → args[j]? = some v → Value.okWide Tryd.prog W .any base t v := hval0
  have hW' := hW
  obtain ⟨p, q, hA0, hV, rfl, hfz, hnd⟩ := hW
  have hA : DataW.TrodAll enc Tryd.prog W 0 (fun _ => true) true Tryd.f7.params.toList args.toList ds p := hA0
  rw [Tryd.params7] at hA hval
  obtain ⟨v0, vs0, d0, ds0, p0, q0, hargs, rfl, rfl, h0, r0⟩ := trodAll_cons hA
  obtain ⟨rfl, rfl, rfl⟩ := trodAll_nil r0
  obtain rfl : args = #[v0] := by cases args; simp_all
  obtain ⟨rfl, rfl⟩ := trodVars_none hV
  obtain ⟨a0, rfl, rfl, rfl, w0⟩ := open_string Tryd.underlying9 (hval 0 9 v0 rfl rfl) h0
  clear hA0 hval0
  refine (again_walk a0 W w0 (five_laid hL)).mono fun e W' ⟨he, bel⟩ => ?_
  subst he
  exact ⟨_, rfl, _, _, _, [], _, [], hW', trodAll_mk1 (shut_bool Tryd.underlying4 _), (trodAll_cons_mk (shut_string Tryd.underlying9 w0) trodAll_mk0), rfl, bel.frame _, fun h => by cases h⟩
theorem said : Rows.lexerAgainRow.holds Tryd.pinned (OpenSpec.ofChange Rows.lexerAgainSpec) :=
  OpenClaim.holds_of_cond 7 Tryd.f7 rfl rfl rfl rfl rfl rfl rfl ⟨rfl, rfl, rfl, rfl, rfl⟩ rfl rfl rfl rfl rfl (by kernel_rfl) Tryd.func7 (by kernel_rfl)
    (of_decide_eq_true (by kernel_rfl)) (by unfold Func.isWrapper; first | (rw [if_pos (by decide +kernel)]; kernel_rfl) | (rw [if_neg (by decide +kernel)]; exact ⟨rfl, rfl⟩))
    (fun os started H enc _ F => by rw [OpenClaim.pre_eq_preRow]; exact lifted os started H enc F)
theorem plain (f : FuncId) (fn : Func) (hf : Tryd.pinned.checked.prog.funcNamed "sawmill/sawmilllaw06.LexerAgain" = some f) (hfn : Tryd.pinned.checked.prog.funcs[f]? = some fn) :
    true = Tryd.pinned.checked.prog.looks [] ∧ ∀ (j : Nat) t, fn.params[j]? = some t → Tryd.pinned.checked.prog.wantsStandIn t = false := by
  obtain rfl : f = 7 := Option.some.inj ((show Tryd.prog.funcNamed "sawmill/sawmilllaw06.LexerAgain" = some 7 by kernel_rfl).symm.trans hf) |>.symm
  obtain rfl : fn = Tryd.f7 := (Option.some.inj (Tryd.func7.symm.trans hfn)).symm
  refine ⟨by kernel_rfl, fun j t ht => ?_⟩
  rw [Tryd.params7] at ht
  have hm := Array.mem_of_getElem? ht
  obtain rfl : t = 9 := by simpa using hm
  exact (show Tryd.prog.wantsStandIn 9 = false by kernel_rfl)
theorem proved : Rows.LexerAgainCardSaid :=
  Claim7.holds_tied_plain_at .later [] _ _ _ _ said (fun _ h => by cases h) (by kernel_rfl) (fun _ h => by cases h) lexerAgain_row_tie rfl ⟨rfl, rfl⟩ (by kernel_rfl) rfl plain (by kernel_rfl)
end lexerAgain

end Go.Proofs.YtlnfoknghfoffaaDoor
