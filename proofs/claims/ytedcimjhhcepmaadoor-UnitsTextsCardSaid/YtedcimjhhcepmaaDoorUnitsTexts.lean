/- For every number, number of digits and string, the law UnitsTexts returns true. No condition. -/
import Derived.Test.YtedcimjhhcepmaaDoorLaid
import Derived.Test.YtedcimjhhcepmaaDoorRefParse
import Derived.Test.YtedcimjhhcepmaaDoorRefDec
set_option linter.unusedVariables false
set_option linter.unusedSimpArgs false
namespace Go.Proofs.YtedcimjhhcepmaaDoor
open Go.ChangeShapes Go.WideShapes Go.ChangeAt Go.RowKit Um

theorem DecT_is (n digits : Int) (D : ByteArray) (h : Hid (decS n digits = D)) (fn : Fit n) (w : World) (ht : Laid w) :
    Calls Tryd.prog 26 #[.int .i64 n, .int .i64 digits] w fun e w' => e = .returned (.string D) ∧ Q w w' :=
  (Decimal_c n digits fn w ht.tab).mono fun _ _ ⟨a, b⟩ => ⟨by rw [a, h.out], b⟩
theorem ParT_is (s : ByteArray) (digits v f : Int) (h : Hid (pRes (lst s) (clamp digits 0 9).toNat = (v, f))) (hs : s.size ≤ 1000) (w : World) (hL : Laid w) :
    Calls Tryd.prog 24 #[.string s, .int .i64 digits] w fun e w' => e = .returned (.tuple #[.int .i64 v, .int .i64 f]) ∧ Q w w' :=
  (Parse_c s digits hs w hL).mono fun _ _ ⟨a, b⟩ => ⟨by rw [a, h.out], b⟩
theorem rDecT_is (n digits : Int) (D : ByteArray) (h : Hid (decS n digits = D)) (fn : Fit n) (w : World) :
    Calls Tryd.prog 27 #[.int .i64 n, .int .i64 digits] w fun e w' => e = .returned (.string D) ∧ Q w w' := by
  have h0 : 0 ≤ clamp digits 0 9 := by unfold clamp; split <;> (try split) <;> (try split) <;> omega
  obtain ⟨K, hK⟩ := Int.eq_ofNat_of_zero_le h0
  refine (rDecimal_is n digits n.natAbs K fn (Lib.hid hK) (Lib.hid rfl) w).mono fun _ _ ⟨a, b⟩ => ⟨?_, b⟩
  rw [a, ← h.out]; unfold decS; rw [hK, Int.toNat_natCast]
theorem rParT_is (s : ByteArray) (digits v f : Int) (h : Hid (pRes (lst s) (clamp digits 0 9).toNat = (v, f))) (hs : s.size ≤ 100) (w : World) :
    Calls Tryd.prog 25 #[.string s, .int .i64 digits] w fun e w' => e = .returned (.tuple #[.int .i64 v, .int .i64 f]) ∧ Q w w' := by
  have h0 : 0 ≤ clamp digits 0 9 := by unfold clamp; split <;> (try split) <;> (try split) <;> omega
  obtain ⟨K, hK⟩ := Int.eq_ofNat_of_zero_le h0
  exact rParse_is s digits K v f hs (Lib.hid hK) (Lib.hid (by have := h.out; rwa [hK, Int.toNat_natCast] at this)) w
set_option maxHeartbeats 1600000 in
theorem texts_walk (n digits : Int) (s : ByteArray) (w : World) (fn : Fit n) (_fd : Fit digits) (hs : s.size ≤ maxLen) (hL : Laid w) :
    Calls Tryd.prog 7 #[.int .i64 n, .int .i64 digits, .string s] w fun e w' => e = .returned (.bool true) ∧ Below w.heap.size w w' := by
  have HL := Lib.hid hL; clear hL
  have HS := Lib.hid hs; clear hs
  have FN := Lib.hid fn
  by_cases h : 100 < s.size
  · clear fn
    go_enter Tryd.func7, Tryd.ntmps7
    go_wp2_with fail
    refine (awake_c _ HL.out).mono ?_; rintro e w1 ⟨rfl, hq1⟩
    go_wp2_with fail
    go_ret
    exact ⟨rfl, hq1⟩
  · obtain ⟨D, hD⟩ : ∃ D, decS n digits = D := ⟨_, rfl⟩
    have H1 := Lib.hid hD
    have S2 := Lib.hid (show s.size ≤ 1000 by omega)
    have S3 := Lib.hid (show s.size ≤ 100 by omega)
    obtain ⟨k, hk⟩ : ∃ k, (pRes (lst s) (clamp digits 0 9).toNat).1 = k := ⟨_, rfl⟩
    obtain ⟨f, hf⟩ : ∃ k, (pRes (lst s) (clamp digits 0 9).toNat).2 = k := ⟨_, rfl⟩
    have H3 := Lib.hid (show pRes (lst s) (clamp digits 0 9).toNat = (k, f) by rw [← hk, ← hf])
    clear fn hD hk hf
    go_enter Tryd.func7, Tryd.ntmps7
    go_wp2_with fail
    refine (ParT_is s digits k f H3 S2.out _ HL.out).mono ?_; rintro e w1 ⟨rfl, hq1⟩
    have q1 : Q w w1 := by exact hq1
    go_wp2_with fail
    refine (rParT_is s digits k f H3 S3.out _).mono ?_; rintro e w2 ⟨rfl, hq2⟩
    go_wp2_with fail
    refine (DecT_is n digits D H1 FN.out _ ((HL.out.stays q1).stays hq2)).mono ?_; rintro e w3 ⟨rfl, hq3⟩
    go_wp2_with fail
    refine (rDecT_is n digits D H1 FN.out _).mono ?_; rintro e w4 ⟨rfl, hq4⟩
    go_wp2_with fail
    refine (awake_c _ ((((HL.out.stays q1).stays hq2).stays hq3).stays hq4)).mono ?_; rintro e w5 ⟨rfl, hq5⟩
    go_wp2_with fail
    go_ret
    exact ⟨rfl, (((q1.trans hq2).trans hq3).trans hq4).trans hq5⟩

open Go.ChangeMaps (open_string shut_string)
namespace unitsTexts
theorem witness (os : Os) {H : Type} (enc : TypeId × Value → H) : (OpenSpec.ofChange Rows.unitsTextsSpec).preRow enc Tryd.prog Tryd.f7 Rows.unitsTextsRow.domain false Rows.unitsTextsRow.laid ((start os).forCall (fun _ _ => 0) ⟨#[], #[Value.int .i64 0, Value.int .i64 0, Value.string ⟨#[]⟩], []⟩).memory #[Value.int .i64 0, Value.int .i64 0, Value.string ⟨#[]⟩] := by
  have hw : (DataW.whole enc Tryd.prog ((start os).forCall (fun _ _ => 0) ⟨#[], #[Value.int .i64 0, Value.int .i64 0, Value.string ⟨#[]⟩], []⟩).memory Tryd.f7.params.toList Rows.unitsTextsSpec.vars false (#[Value.int .i64 0, Value.int .i64 0, Value.string ⟨#[]⟩] : Array Value).toList 8).map (fun x => (x.1, x.2.1)) = some ([.lit (.int .i64 0), .lit (.int .i64 0), .lit (.string [])], []) := by kernel_rfl
  obtain ⟨⟨x1, x2, x3⟩, hx, hx1⟩ := Option.map_eq_some_iff.1 hw
  simp only [Prod.mk.injEq] at hx1
  obtain ⟨rfl, rfl⟩ := hx1
  exact OpenSpec.preRow_of_cond 8 hx (by kernel_rfl) (fun k hk => by cases hk) (by kernel_rfl) (door_met os _)
set_option maxRecDepth 100000 in
theorem lifted (os : Os) (started : os.Started) (H : Type) (enc : TypeId × Value → H) (F : Stop.Interp) :
    ReturnsInHanded {} Tryd.checked os 7 .any ((OpenSpec.ofChange Rows.unitsTextsSpec).preRow enc Tryd.prog Tryd.f7 Rows.unitsTextsRow.domain false Rows.unitsTextsRow.laid) (((OpenSpec.ofChange Rows.unitsTextsSpec).at F).post enc Tryd.prog Tryd.f7 false true false false) := by
  refine returnsInHanded_of_row (C := Tryd.checked) (s := OpenSpec.ofChange Rows.unitsTextsSpec) own started (by kernel_rfl) Tryd.func7
    (witness_row_atRef (enc := enc) (C := Tryd.checked) false (start os) #[Value.int .i64 0, Value.int .i64 0, Value.string ⟨#[]⟩] rfl (by kernel_rfl) (by kernel_rfl) (by kernel_rfl) (witness os enc)) ?_
  intro W base args ds gs before hval0 hW _ _ _ hL _ _
  have hval : ∀ (j : Nat) t v, Tryd.f7.params[j]? = some t → args[j]? = some v → Value.okWide Tryd.prog W .any base t v := hval0
  have hW' := hW
  obtain ⟨p, q, hA0, hV, rfl, hfz, hnd⟩ := hW
  have hA : DataW.TrodAll enc Tryd.prog W 0 (fun _ => true) true Tryd.f7.params.toList args.toList ds p := hA0
  rw [Tryd.params7] at hA hval
  obtain ⟨v0, vs0, d0, ds0, p0, q0, hargs, rfl, rfl, h0, r0⟩ := trodAll_cons hA
  obtain ⟨v1, vs1, d1, ds1, p1, q1, rfl, rfl, rfl, h1, r1⟩ := trodAll_cons r0
  obtain ⟨v2, vs2, d2, ds2, p2, q2, rfl, rfl, rfl, h2, r2⟩ := trodAll_cons r1
  obtain ⟨rfl, rfl, rfl⟩ := trodAll_nil r2
  obtain rfl : args = #[v0, v1, v2] := by cases args; simp_all
  obtain ⟨rfl, rfl⟩ := trodVars_none hV
  obtain ⟨a0, rfl, rfl, rfl, w0⟩ := open_int Tryd.underlying3 (hval 0 3 v0 rfl rfl) h0
  obtain ⟨a1, rfl, rfl, rfl, w1⟩ := open_int Tryd.underlying3 (hval 1 3 v1 rfl rfl) h1
  obtain ⟨a2, rfl, rfl, rfl, w2⟩ := open_string Tryd.underlying9 (hval 2 9 v2 rfl rfl) h2
  clear hA0 hval0
  refine (texts_walk a0 a1 a2 W (fit_of w0) (fit_of w1) w2 (five_laid hL)).mono fun e W' ⟨he, bel⟩ => ?_
  subst he
  exact ⟨_, rfl, _, _, _, [], _, [], hW', trodAll_mk1 (shut_bool Tryd.underlying4 _), (trodAll_cons_mk (shut_int Tryd.underlying3 w0) (trodAll_cons_mk (shut_int Tryd.underlying3 w1) (trodAll_cons_mk (shut_string Tryd.underlying9 w2) trodAll_mk0))), rfl, bel.frame _, fun h => by cases h⟩
theorem said : Rows.unitsTextsRow.holds Tryd.pinned (OpenSpec.ofChange Rows.unitsTextsSpec) :=
  OpenClaim.holds_of_cond 7 Tryd.f7 rfl rfl rfl rfl rfl rfl rfl ⟨rfl, rfl, rfl, rfl, rfl⟩ rfl rfl rfl rfl rfl (by kernel_rfl) Tryd.func7 (by kernel_rfl)
    (of_decide_eq_true (by kernel_rfl)) (by unfold Func.isWrapper; first | (rw [if_pos (by decide +kernel)]; kernel_rfl) | (rw [if_neg (by decide +kernel)]; exact ⟨rfl, rfl⟩))
    (fun os started H enc _ F => by rw [OpenClaim.pre_eq_preRow]; exact lifted os started H enc F)
theorem plain (f : FuncId) (fn : Func) (hf : Tryd.pinned.checked.prog.funcNamed "sawmill/sawmilllaw01.UnitsTexts" = some f) (hfn : Tryd.pinned.checked.prog.funcs[f]? = some fn) :
    true = Tryd.pinned.checked.prog.looks [] ∧ ∀ (j : Nat) t, fn.params[j]? = some t → Tryd.pinned.checked.prog.wantsStandIn t = false := by
  obtain rfl : f = 7 := Option.some.inj ((show Tryd.prog.funcNamed "sawmill/sawmilllaw01.UnitsTexts" = some 7 by kernel_rfl).symm.trans hf) |>.symm
  obtain rfl : fn = Tryd.f7 := (Option.some.inj (Tryd.func7.symm.trans hfn)).symm
  refine ⟨by kernel_rfl, fun j t ht => ?_⟩
  rw [Tryd.params7] at ht
  have hm := Array.mem_of_getElem? ht
  rcases (show t = 3 ∨ t = 9 by simpa using hm) with rfl | rfl
  · exact (show Tryd.prog.wantsStandIn 3 = false by kernel_rfl)
  · exact (show Tryd.prog.wantsStandIn 9 = false by kernel_rfl)
theorem proved : Rows.UnitsTextsCardSaid :=
  Claim7.holds_tied_plain_at .later [] _ _ _ _ said (fun _ h => by cases h) (by kernel_rfl) (fun _ h => by cases h) unitsTexts_row_tie rfl ⟨rfl, rfl⟩ (by kernel_rfl) rfl plain (by kernel_rfl)
end unitsTexts

end Go.Proofs.YtedcimjhhcepmaaDoor
