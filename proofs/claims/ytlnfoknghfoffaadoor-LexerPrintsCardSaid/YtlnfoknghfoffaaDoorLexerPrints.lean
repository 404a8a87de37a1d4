/- For every two lists of lexemes the law LexerPrints returns true: Print and Same return the specified results (asked for lists of at most 60 lexemes with texts of at most 200 bytes), and the examples hold. The row's list gives the error variable. -/
import Derived.Test.YtlnfoknghfoffaaDoorLArgs
import Derived.Test.YtlnfoknghfoffaaDoorPrintR
import Derived.Test.YtlnfoknghfoffaaDoorSameR
set_option linter.unusedVariables false
set_option linter.unusedSimpArgs false
namespace Go.Proofs.YtlnfoknghfoffaaDoor
open Go.ChangeShapes Go.WideShapes Go.ChangeAt Go.RowKit Lm

theorem gr_no {l : List LT} (h : gr l = false) : l.length ≤ 60 ∧ ∀ x ∈ l, x.t.size ≤ 200 := by
  unfold gr at h
  rw [Bool.or_eq_false_iff, List.any_eq_false] at h
  refine ⟨by have := of_decide_eq_false h.2; omega, fun x hx => ?_⟩
  have := h.1 x hx
  simpa using this
theorem sum_le : ∀ (l : List LT), (∀ x ∈ l, x.t.size ≤ 200) → (((txL l).map (·.data.toList)).map List.length).sum ≤ 200 * l.length
  | [], _ => by simp [txL]
  | x :: l, h => by
    have ih := sum_le l (fun y hy => h y (by simp [hy]))
    have e : txL (x :: l) = (if x.k = 0 then [] else [x.t]) ++ txL l := by unfold txL; rw [List.flatMap_cons]
    have hx := h x (by simp)
    rw [e]
    split
    · rw [List.nil_append, List.length_cons]; omega
    · simp only [List.singleton_append, List.map_cons, List.sum_cons, List.length_cons]
      have : x.t.data.toList.length = x.t.size := by simp
      omega
theorem small_join {l : List LT} (h1 : l.length ≤ 60) (h2 : ∀ x ∈ l, x.t.size ≤ 200) : (Lib.join ((txL l).map (·.data.toList)) [32]).length ≤ 140737488355328 := by
  have := join_len ((txL l).map (·.data.toList))
  have h3 := sum_le l h2
  have h4 := txL_len l
  rw [List.length_map] at this
  omega
/-- what Same answers -/
def SmV (l m : List LT) (b : Bool) : Prop := (l.length ≠ m.length ∧ b = false) ∨ SmP l m l.length b
theorem smv_ex (l m : List LT) : ∃ b, SmV l m b := by
  by_cases h : l.length = m.length
  · by_cases g : ∀ (i : Nat) (h1 : i < l.length) (h2 : i < m.length), like1 l[i] m[i]
    · exact ⟨true, .inr ⟨rfl, h.symm, fun _ => g, fun _ => rfl⟩⟩
    · exact ⟨false, .inr ⟨rfl, h.symm, fun e => (by cases e), fun e => absurd e g⟩⟩
  · exact ⟨false, .inl ⟨h, rfl⟩⟩
theorem Same_v {l m : List LT} {b : Bool} (h : SmV l m b) (hl : l.length ≤ 60) (hm : m.length ≤ 60) (v u : Value) (w : World) (hr : Rd w v l) (hu : Rd w u m) : Calls Tryd.prog 17 #[v, u] w fun E w' => E = .returned (.bool b) ∧ Q w w' := by
  rcases h with ⟨h, rfl⟩ | h
  · exact Same_len v u l m w hr hu h (by omega) (by omega)
  · exact Same_any v u l m _ b w hr hu (Lib.hid h) (by omega)
theorem rSame_v {l m : List LT} {b : Bool} (h : SmV l m b) (hl : l.length ≤ 60) (hm : m.length ≤ 60) (v u : Value) (w : World) (hr : Rd w v l) (hu : Rd w u m) : Calls Tryd.prog 18 #[v, u] w fun E w' => E = .returned (.bool b) ∧ Q w w' := by
  rcases h with ⟨h, rfl⟩ | h
  · exact rSame_len v u l m w hr hu h
  · exact rSame_any v u l m _ b w hr hu (Lib.hid h) (by omega)
set_option maxRecDepth 100000 in
set_option maxHeartbeats 3200000 in
theorem prints_walk (w : World) (v u : Value) (hv : ArgL w v) (hu : ArgL w u) (hL : Laid w) : Calls Tryd.prog 4 #[v, u] w fun e w' => e = .returned (.bool true) ∧ Below w.heap.size w w' := by
  obtain ⟨l, hr, hl⟩ := hv
  obtain ⟨m, hr2, hm⟩ := hu
  have HL := Lib.hid hL
  clear hL
  have GA := Lib.hid (great_c v l w hr hl)
  have GB := Lib.hid (great_c u m w hr2 hm)
  obtain ⟨ga, ha⟩ : ∃ b, gr l = b := ⟨_, rfl⟩
  obtain ⟨gb, hb⟩ : ∃ b, gr m = b := ⟨_, rfl⟩
  rw [ha] at GA
  rw [hb] at GB
  cases ga with
  | true =>
    clear ha hb hr hr2
    go_enter Tryd.func4, Tryd.ntmps4
    go_wp2_with fail
    refine GA.out.mono ?_; rintro E w1 ⟨rfl, rfl⟩
    go_wp2_with fail
    refine (awake_c _ HL.out).mono ?_; rintro E w2 ⟨rfl, hq2⟩
    go_wp2_with fail
    go_ret
    exact ⟨rfl, hq2⟩
  | false =>
    obtain ⟨l1, l2⟩ := gr_no ha
    cases gb with
    | true =>
      clear ha hb hr hr2
      go_enter Tryd.func4, Tryd.ntmps4
      go_wp2_with fail
      refine GA.out.mono ?_; rintro E w1 ⟨rfl, rfl⟩
      go_wp2_with fail
      refine GB.out.mono ?_; rintro E w1 ⟨rfl, rfl⟩
      go_wp2_with fail
      refine (awake_c _ HL.out).mono ?_; rintro E w2 ⟨rfl, hq2⟩
      go_wp2_with fail
      go_ret
      exact ⟨rfl, hq2⟩
    | false =>
      obtain ⟨m1, m2⟩ := gr_no hb
      obtain ⟨b, hb2⟩ := smv_ex l m
      have HP := Lib.hid (Print_c v l w hr (by omega) (small_join l1 l2))
      have HR := Lib.hid (fun w h => rPrint_c v l w h l1 l2)
      have HS := Lib.hid (Same_v hb2 l1 m1 v u)
      have HT := Lib.hid (rSame_v hb2 l1 m1 v u)
      have HU := Lib.hid (fun w h => Same_eq v v l l w h h (likeL.refl l) (by omega))
      have RL := Lib.hid hr
      have RM := Lib.hid hr2
      obtain ⟨T, hT⟩ : ∃ T, prS l = T := ⟨_, rfl⟩
      rw [hT] at HP HR
      have e4 : (T.toList == T.toList) = true := by simp
      clear ha hb hb2 hr hr2 hT
      go_enter Tryd.func4, Tryd.ntmps4
      go_wp2_with fail
      refine GA.out.mono ?_; rintro E w1 ⟨rfl, rfl⟩
      go_wp2_with fail
      refine GB.out.mono ?_; rintro E w1 ⟨rfl, rfl⟩
      go_wp2_with fail
      refine HP.out.mono ?_; rintro E w1 ⟨rfl, hq1⟩
      have R1 := Lib.hid (RL.out.q hq1)
      have M1 := Lib.hid (RM.out.q hq1)
      have L1 := Lib.hid (HL.out.stays hq1)
      have Q1 := Lib.hid hq1
      clear hq1
      go_wp2_with fail
      refine (HR.out _ R1.out).mono ?_; rintro E w2 ⟨rfl, rfl⟩
      go_wp2_with fail
      refine (HS.out _ R1.out M1.out).mono ?_; rintro E w2 ⟨rfl, hq2⟩
      have R2 := Lib.hid (R1.out.q hq2)
      have M2 := Lib.hid (M1.out.q hq2)
      have L2 := Lib.hid (L1.out.stays hq2)
      have Q2 := Lib.hid (Q1.out.trans hq2)
      clear hq2
      go_wp2_with fail
      refine (HT.out _ R2.out M2.out).mono ?_; rintro E w3 ⟨rfl, hq3⟩
      have R3 := Lib.hid (R2.out.q hq3)
      have L3 := Lib.hid (L2.out.stays hq3)
      have Q3 := Lib.hid (Q2.out.trans hq3)
      clear hq3
      go_wp2_with fail
      refine (HU.out _ R3.out).mono ?_; rintro E w4 ⟨rfl, hq4⟩
      have L4 := Lib.hid (L3.out.stays hq4)
      have Q4 := Lib.hid (Q3.out.trans hq4)
      clear hq4
      go_wp2_with fail
      refine (awake_c _ L4.out).mono ?_; rintro E w5 ⟨rfl, hq5⟩
      go_wp2_with fail
      go_ret
      exact ⟨rfl, Q4.out.trans hq5⟩

open Go.ChangeMaps (open_string shut_string)
namespace lexerPrints
theorem witness (os : Os) {H : Type} (enc : TypeId × Value → H) : (OpenSpec.ofChange Rows.lexerPrintsSpec).preRow enc Tryd.prog Tryd.f4 Rows.lexerPrintsRow.domain false Rows.lexerPrintsRow.laid ((start os).forCall (fun _ _ => 0) ⟨#[], #[Value.slice none 0 0, Value.slice none 0 0], []⟩).memory #[Value.slice none 0 0, Value.slice none 0 0] := by
  have hw : (DataW.whole enc Tryd.prog ((start os).forCall (fun _ _ => 0) ⟨#[], #[Value.slice none 0 0, Value.slice none 0 0], []⟩).memory Tryd.f4.params.toList Rows.lexerPrintsSpec.vars false (#[Value.slice none 0 0, Value.slice none 0 0] : Array Value).toList 8).map (fun x => (x.1, x.2.1)) = some ([.nil, .nil], []) := by kernel_rfl
  obtain ⟨⟨x1, x2, x3⟩, hx, hx1⟩ := Option.map_eq_some_iff.1 hw
  simp only [Prod.mk.injEq] at hx1
  obtain ⟨rfl, rfl⟩ := hx1
  exact OpenSpec.preRow_of_cond 8 hx (by kernel_rfl) (fun k hk => by cases hk) (by kernel_rfl) (door_met os _)
set_option maxRecDepth 100000 in
set_option maxHeartbeats 800000 in
theorem lifted (os : Os) (started : os.Started) (H : Type) (enc : TypeId × Value → H) (F : Stop.Interp) :
    ReturnsInHanded {} Tryd.checked os 4 .any ((OpenSpec.ofChange Rows.lexerPrintsSpec).preRow enc Tryd.prog Tryd.f4 Rows.lexerPrintsRow.domain false Rows.lexerPrintsRow.laid) (((OpenSpec.ofChange Rows.lexerPrintsSpec).at F).post enc Tryd.prog Tryd.f4 false true false false) := by
  refine returnsInHanded_of_row (C := Tryd.checked) (s := OpenSpec.ofChange Rows.lexerPrintsSpec) own started (by kernel_rfl) Tryd.func4
    (witness_row_atRef (enc := enc) (C := Tryd.checked) false (start os) #[Value.slice none 0 0, Value.slice none 0 0] rfl (by kernel_rfl) (by kernel_rfl) (by kernel_rfl) (witness os enc)) ?_
  intro W base args ds gs before hval0 hW _ _ _ hL _ _
  have hval : ∀ (j : Nat) t v, Tryd.f4.params[j]? = some t → args[j]? = some v → Value.okWide Tryd.prog W .any base t v := hval0
  have hW' := hW
  obtain ⟨p, q, hA0, hV, rfl, hfz, hnd⟩ := hW
  have hA : DataW.TrodAll enc Tryd.prog W 0 (fun _ => true) true Tryd.f4.params.toList args.toList ds p := hA0
  rw [Tryd.params4] at hA hval
  obtain ⟨v0, vs0, d0, ds0, p0, q0, hargs, rfl, rfl, h0, r0⟩ := trodAll_cons hA
  obtain ⟨v1, vs1, d1, ds1, p1, q1, rfl, rfl, rfl, h1, r1⟩ := trodAll_cons r0
  obtain ⟨rfl, rfl, rfl⟩ := trodAll_nil r1
  obtain rfl : args = #[v0, v1] := by cases args; simp_all
  obtain ⟨rfl, rfl⟩ := trodVars_none hV
  have a0 := open_lxs (hval 0 23 v0 rfl rfl) h0
  have a1 := open_lxs (hval 1 23 v1 rfl rfl) h1
  clear hA0 hval0
  refine (prints_walk W v0 v1 a0 a1 (five_laid hL)).mono fun e W' ⟨he, bel⟩ => ?_
  subst he
  exact ⟨_, rfl, _, _, _, [], _, [], hW', trodAll_mk1 (shut_bool Tryd.underlying4 _), (trodAll_cons_mk (stays (by kernel_rfl) (of_decide_eq_true (by kernel_rfl)) h0 bel) (trodAll_cons_mk (stays (by kernel_rfl) (of_decide_eq_true (by kernel_rfl)) h1 bel) trodAll_mk0)), rfl, bel.frame _, fun h => by cases h⟩
theorem said : Rows.lexerPrintsRow.holds Tryd.pinned (OpenSpec.ofChange Rows.lexerPrintsSpec) :=
  OpenClaim.holds_of_cond 4 Tryd.f4 rfl rfl rfl rfl rfl rfl rfl ⟨rfl, rfl, rfl, rfl, rfl⟩ rfl rfl rfl rfl rfl (by kernel_rfl) Tryd.func4 (by kernel_rfl)
    (of_decide_eq_true (by kernel_rfl)) (by unfold Func.isWrapper; first | (rw [if_pos (by decide +kernel)]; kernel_rfl) | (rw [if_neg (by decide +kernel)]; exact ⟨rfl, rfl⟩))
    (fun os started H enc _ F => by rw [OpenClaim.pre_eq_preRow]; exact lifted os started H enc F)
theorem plain (f : FuncId) (fn : Func) (hf : Tryd.pinned.checked.prog.funcNamed "sawmill/sawmilllaw06.LexerPrints" = some f) (hfn : Tryd.pinned.checked.prog.funcs[f]? = some fn) :
    true = Tryd.pinned.checked.prog.looks [] ∧ ∀ (j : Nat) t, fn.params[j]? = some t → Tryd.pinned.checked.prog.wantsStandIn t = false := by
  obtain rfl : f = 4 := Option.some.inj ((show Tryd.prog.funcNamed "sawmill/sawmilllaw06.LexerPrints" = some 4 by kernel_rfl).symm.trans hf) |>.symm
  obtain rfl : fn = Tryd.f4 := (Option.some.inj (Tryd.func4.symm.trans hfn)).symm
  refine ⟨by kernel_rfl, fun j t ht => ?_⟩
  rw [Tryd.params4] at ht
  have hm := Array.mem_of_getElem? ht
  obtain rfl : t = 23 := by simpa using hm
  exact (show Tryd.prog.wantsStandIn 23 = false by kernel_rfl)
theorem proved : Rows.LexerPrintsCardSaid :=
  Claim7.holds_tied_plain_at .later [] _ _ _ _ said (fun _ h => by cases h) (by kernel_rfl) (fun _ h => by cases h) lexerPrints_row_tie rfl ⟨rfl, rfl⟩ (by kernel_rfl) rfl plain (by kernel_rfl)
end lexerPrints

end Go.Proofs.YtlnfoknghfoffaaDoor
