/- For every string the law LexerMarks returns true: IsMark recognizes exactly the marks, and each mark is a lexeme (asked for at most 1000 bytes), and the examples hold. The row's list gives the error variable. -/
import Derived.Test.YtpibeojmippfhaaDoorLaid
set_option linter.unusedVariables false
set_option linter.unusedSimpArgs false
namespace Go.Proofs.YtpibeojmippfhaaDoor
open Go.ChangeShapes Go.WideShapes Go.ChangeAt Go.RowKit Lm

theorem marks_scan : ∀ m ∈ marksL, scan ⟨m.toArray⟩ = ([⟨3, ⟨m.toArray⟩, 0, 0⟩, ⟨0, ⟨#[]⟩, 0, (m.length : Nat)⟩], 0, 0) := by decide +kernel
theorem mark_is {s : ByteArray} (h : isM s.toList = true) : ∃ n : Nat, scan s = ([⟨3, s, 0, 0⟩, ⟨0, ⟨#[]⟩, 0, n⟩], 0, 0) := by
  unfold isM at h
  obtain ⟨m, hm, he⟩ := List.any_eq_true.1 h
  rw [beq_iff_eq] at he
  have e : s = ⟨m.toArray⟩ := lst_eq (by rw [he, lst_mk])
  exact ⟨m.length, by rw [e]; exact marks_scan m hm⟩
set_option maxRecDepth 100000 in
set_option maxHeartbeats 1600000 in
theorem marks_walk (s : ByteArray) (w : World) (hs : s.size ≤ maxLen) (hL : Laid w) : Calls Tryd.prog 5 #[.string s] w fun e w' => e = .returned (.bool true) ∧ Below w.heap.size w w' := by
  unfold maxLen at hs
  have HL := Lib.hid hL
  clear hL
  by_cases h1 : 1000 < s.size
  · have i1 : 1000 < (s.size : Int) := by omega
    go_enter Tryd.func5, Tryd.ntmps5
    go_wp2_with fail
    refine (awake_c _ HL.out).mono ?_; rintro E w1 ⟨rfl, hq1⟩
    go_wp2_with fail
    go_ret
    exact ⟨rfl, hq1⟩
  · have i1 : ¬ 1000 < (s.size : Int) := by omega
    have H1 := Lib.hid (fun w => IsMark_c s w)
    have H2 := Lib.hid (fun w => rIsMark_c s w)
    cases hm : isM s.toList with
    | false =>
      rw [hm] at H1 H2
      clear hm
      go_enter Tryd.func5, Tryd.ntmps5
      go_wp2_with fail
      refine (H1.out _).mono ?_; rintro E w1 ⟨rfl, rfl⟩
      go_wp2_with fail
      refine (H2.out _).mono ?_; rintro E w1 ⟨rfl, hq1⟩
      go_wp2_with fail
      refine (H1.out _).mono ?_; rintro E w2 ⟨rfl, rfl⟩
      go_wp2_with fail
      refine (awake_c _ (HL.out.stays hq1)).mono ?_; rintro E w3 ⟨rfl, hq3⟩
      go_wp2_with fail
      go_ret
      exact ⟨rfl, hq1.trans hq3⟩
    | true =>
      rw [hm] at H1 H2
      obtain ⟨n, hn⟩ := mark_is hm
      have HS := Lib.hid (fun w h => sc_is s _ 0 0 hn (by omega) w h)
      clear hm hn
      go_enter Tryd.func5, Tryd.ntmps5
      go_wp2_with fail
      refine (H1.out _).mono ?_; rintro E w1 ⟨rfl, rfl⟩
      go_wp2_with fail
      refine (H2.out _).mono ?_; rintro E w1 ⟨rfl, hq1⟩
      have L1 := Lib.hid (HL.out.stays hq1)
      have Q1 := Lib.hid hq1
      clear hq1
      go_wp2_with fail
      refine (H1.out _).mono ?_; rintro E w2 ⟨rfl, rfl⟩
      go_wp2_with fail
      refine (HS.out _ L1.out).mono ?_; rintro E w2 ⟨v2, rfl, hr2, hq2⟩
      have L2 := Lib.hid (L1.out.stays hq2)
      have Q2 := Lib.hid (Q1.out.trans hq2)
      have hr3 := hr2
      obtain ⟨A, c, rfl, hc, _⟩ := hr3
      obtain ⟨rb, ro, rfl, hrb, hlc, hnl, c0, c1, c2, c3⟩ := hr2.at (Q.refl w2) (i := 0) (by simp)
      simp only [List.getElem_cons_zero, Nat.zero_mul, Nat.add_zero, Nat.zero_add] at c0 c1 c2 c3
      have e4 : (s.toList == s.toList) = true := by simp
      clear hq2 hr2 hnl
      go_wp2_with fail
      refine (awake_c _ L2.out).mono ?_; rintro E w3 ⟨rfl, hq3⟩
      go_wp2_with fail
      go_ret
      exact ⟨rfl, Q2.out.trans hq3⟩

open Go.ChangeMaps (open_string shut_string)
namespace lexerMarks
theorem witness (os : Os) {H : Type} (enc : TypeId × Value → H) : (OpenSpec.ofChange Rows.lexerMarksSpec).preRow enc Tryd.prog Tryd.f5 Rows.lexerMarksRow.domain false Rows.lexerMarksRow.laid ((start os).forCall (fun _ _ => 0) ⟨#[], #[Value.string ⟨#[]⟩], []⟩).memory #[Value.string ⟨#[]⟩] := by
  have hw : (DataW.whole enc Tryd.prog ((start os).forCall (fun _ _ => 0) ⟨#[], #[Value.string ⟨#[]⟩], []⟩).memory Tryd.f5.params.toList Rows.lexerMarksSpec.vars false (#[Value.string ⟨#[]⟩] : Array Value).toList 8).map (fun x => (x.1, x.2.1)) = some ([.lit (.string [])], []) := by kernel_rfl
  obtain ⟨⟨x1, x2, x3⟩, hx, hx1⟩ := Option.map_eq_some_iff.1 hw
  simp only [Prod.mk.injEq] at hx1
  obtain ⟨rfl, rfl⟩ := hx1
  exact OpenSpec.preRow_of_cond 8 hx (by kernel_rfl) (fun k hk => by cases hk) (by kernel_rfl) (door_met os _)
set_option maxRecDepth 100000 in
theorem lifted (os : Os) (started : os.Started) (H : Type) (enc : TypeId × Value → H) (F : Stop.Interp) :
    ReturnsInHanded {} Tryd.checked os 5 .any ((OpenSpec.ofChange Rows.lexerMarksSpec).preRow enc Tryd.prog Tryd.f5 Rows.lexerMarksRow.domain false Rows.lexerMarksRow.laid) (((OpenSpec.ofChange Rows.lexerMarksSpec).at F).post enc Tryd.prog Tryd.f5 false true false false) := by
  refine returnsInHanded_of_row (C := Tryd.checked) (s := OpenSpec.ofChange Rows.lexerMarksSpec) own started (by kernel_rfl) Tryd.func5
    (witness_row_atRef (enc := enc) (C := Tryd.checked) false (start os) #[Value.string ⟨#[]⟩] rfl (by kernel_rfl) (by kernel_rfl) (by kernel_rfl) (witness os enc)) ?_
  intro W base args ds gs before hval0 hW _ _ _ hL _ _
  have hval : ∀ (j : Nat) t v, Tryd.f5.params[j]? = some t → args[j]? = some v → Value.okWide Tryd.prog W .any base t v := hval0
  have hW' := hW
  obtain ⟨p, q, hA0, hV, rfl, hfz, hnd⟩ := hW
  have hA : DataW.TrodAll enc Tryd.prog W 0 (fun _ => true) true Tryd.f5.params.toList args.toList ds p := hA0
  rw [Tryd.params5] at hA hval
  obtain ⟨v0, vs0, d0, ds0, p0, q0, hargs, rfl, rfl, h0, r0⟩ := trodAll_cons hA
  obtain ⟨rfl, rfl, rfl⟩ := trodAll_nil r0
  obtain rfl : args = #[v0] := by cases args; simp_all
  obtain ⟨rfl, rfl⟩ := trodVars_none hV
  obtain ⟨a0, rfl, rfl, rfl, w0⟩ := open_string Tryd.underlying9 (hval 0 9 v0 rfl rfl) h0
  clear hA0 hval0
  refine (marks_walk a0 W w0 (five_laid hL)).mono fun e W' ⟨he, bel⟩ => ?_
  subst he
  exact ⟨_, rfl, _, _, _, [], _, [], hW', trodAll_mk1 (shut_bool Tryd.underlying4 _), (trodAll_cons_mk (shut_string Tryd.underlying9 w0) trodAll_mk0), rfl, bel.frame _, fun h => by cases h⟩
theorem said : Rows.lexerMarksRow.holds Tryd.pinned (OpenSpec.ofChange Rows.lexerMarksSpec) :=
  OpenClaim.holds_of_cond 5 Tryd.f5 rfl rfl rfl rfl rfl rfl rfl ⟨rfl, rfl, rfl, rfl, rfl⟩ rfl rfl rfl rfl rfl (by kernel_rfl) Tryd.func5 (by kernel_rfl)
    (of_decide_eq_true (by kernel_rfl)) (by unfold Func.isWrapper; first | (rw [if_pos (by decide +kernel)]; kernel_rfl) | (rw [if_neg (by decide +kernel)]; exact ⟨rfl, rfl⟩))
    (fun os started H enc _ F => by rw [OpenClaim.pre_eq_preRow]; exact lifted os started H enc F)
theorem plain (f : FuncId) (fn : Func) (hf : Tryd.pinned.checked.prog.funcNamed "sawmill/sawmilllaw06.LexerMarks" = some f) (hfn : Tryd.pinned.checked.prog.funcs[f]? = some fn) :
    true = Tryd.pinned.checked.prog.looks [] ∧ ∀ (j : Nat) t, fn.params[j]? = some t → Tryd.pinned.checked.prog.wantsStandIn t = false := by
  obtain rfl : f = 5 := Option.some.inj ((show Tryd.prog.funcNamed "sawmill/sawmilllaw06.LexerMarks" = some 5 by kernel_rfl).symm.trans hf) |>.symm
  obtain rfl : fn = Tryd.f5 := (Option.some.inj (Tryd.func5.symm.trans hfn)).symm
  refine ⟨by kernel_rfl, fun j t ht => ?_⟩
  rw [Tryd.params5] at ht
  have hm := Array.mem_of_getElem? ht
  obtain rfl : t = 9 := by simpa using hm
  exact (show Tryd.prog.wantsStandIn 9 = false by kernel_rfl)
theorem proved : Rows.LexerMarksCardSaid :=
  Claim7.holds_tied_plain_at .later [] _ _ _ _ said (fun _ h => by cases h) (by kernel_rfl) (fun _ h => by cases h) lexerMarks_row_tie rfl ⟨rfl, rfl⟩ (by kernel_rfl) rfl plain (by kernel_rfl)
end lexerMarks

end Go.Proofs.YtpibeojmippfhaaDoor
