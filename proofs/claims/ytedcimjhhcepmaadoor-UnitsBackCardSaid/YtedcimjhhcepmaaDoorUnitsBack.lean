/- For every number, number of digits and string, the law UnitsBack returns true. No condition. -/
import Derived.Test.YtedcimjhhcepmaaDoorLaid
import Derived.Test.YtedcimjhhcepmaaDoorNumMath
set_option linter.unusedVariables false
set_option linter.unusedSimpArgs false
namespace Go.Proofs.YtedcimjhhcepmaaDoor
open Go.ChangeShapes Go.WideShapes Go.ChangeAt Go.RowKit Um

theorem Dec_is (n digits : Int) (D : ByteArray) (h : Hid (decS n digits = D)) (fn : Fit n) (w : World) (ht : Laid w) :
    Calls Tryd.prog 26 #[.int .i64 n, .int .i64 digits] w fun e w' => e = .returned (.string D) ∧ Q w w' :=
  (Decimal_c n digits fn w ht.tab).mono fun _ _ ⟨a, b⟩ => ⟨by rw [a, h.out], b⟩
theorem Par_is (s : ByteArray) (digits v f : Int) (h : Hid (pRes (lst s) (clamp digits 0 9).toNat = (v, f))) (hs : s.size ≤ 1000) (w : World) (hL : Laid w) :
    Calls Tryd.prog 24 #[.string s, .int .i64 digits] w fun e w' => e = .returned (.tuple #[.int .i64 v, .int .i64 f]) ∧ Q w w' :=
  (Parse_c s digits hs w hL).mono fun _ _ ⟨a, b⟩ => ⟨by rw [a, h.out], b⟩
theorem clamp9 (d : Int) : (clamp d 0 9).toNat ≤ 9 := by unfold clamp; split <;> (try split) <;> (try split) <;> omega
set_option maxHeartbeats 1600000 in
theorem back_walk (n digits : Int) (s : ByteArray) (w : World) (fn : Fit n) (_fd : Fit digits) (hs : s.size ≤ maxLen) (hL : Laid w) :
    Calls Tryd.prog 11 #[.int .i64 n, .int .i64 digits, .string s] w fun e w' => e = .returned (.bool true) ∧ Below w.heap.size w w' := by
  have HL := Lib.hid hL; clear hL
  have HS := Lib.hid hs; clear hs
  have FN := Lib.hid fn
  by_cases h : 100 < s.size
  · clear fn
    go_enter Tryd.func11, Tryd.ntmps11
    go_wp2_with fail
    refine (awake_c _ HL.out).mono ?_; rintro e w1 ⟨rfl, hq1⟩
    go_wp2_with fail
    go_ret
    exact ⟨rfl, hq1⟩
  · obtain ⟨D, hD⟩ : ∃ D, decS n digits = D := ⟨_, rfl⟩
    have H1 := Lib.hid hD
    have H2 := Lib.hid (show pRes (lst D) (clamp digits 0 9).toNat = (n, 0) by rw [← hD]; unfold decS; rw [lst_bs]; exact parse_dec fn _)
    have S1 := Lib.hid (show D.size ≤ 1000 by rw [← hD]; unfold decS; rw [bs_size]; exact dec_size (by have := fn.1; have := fn.2; omega) (clamp9 _))
    have S2 := Lib.hid (show s.size ≤ 1000 by omega)
    obtain ⟨k, hk⟩ : ∃ k, (pRes (lst s) (clamp digits 0 9).toNat).1 = k := ⟨_, rfl⟩
    obtain ⟨f, hf⟩ : ∃ k, (pRes (lst s) (clamp digits 0 9).toNat).2 = k := ⟨_, rfl⟩
    have H3 := Lib.hid (show pRes (lst s) (clamp digits 0 9).toNat = (k, f) by rw [← hk, ← hf])
    clear fn hD
    by_cases hf0 : f = 0
    · subst hf0
      have dp := dec_parse hf
      rw [hk] at dp
      have FK := Lib.hid dp.1
      have H4 := Lib.hid (show decS k digits = s by unfold decS; rw [dp.2, bs_lst])
      clear hk hf dp
      go_enter Tryd.func11, Tryd.ntmps11
      go_wp2_with fail
      refine (Dec_is n digits D H1 FN.out _ HL.out).mono ?_; rintro e w1 ⟨rfl, hq1⟩
      have q1 : Q w w1 := by exact hq1
      go_wp2_with fail
      refine (Par_is D digits n 0 H2 S1.out _ (HL.out.stays q1)).mono ?_; rintro e w2 ⟨rfl, hq2⟩
      go_wp2_with fail
      refine (Par_is s digits k 0 H3 S2.out _ ((HL.out.stays q1).stays hq2)).mono ?_; rintro e w3 ⟨rfl, hq3⟩
      go_wp2_with fail
      refine (Dec_is k digits s H4 FK.out _ (((HL.out.stays q1).stays hq2).stays hq3)).mono ?_; rintro e w4 ⟨rfl, hq4⟩
      go_wp2_with fail
      refine (awake_c _ ((((HL.out.stays q1).stays hq2).stays hq3).stays hq4)).mono ?_; rintro e w5 ⟨rfl, hq5⟩
      go_wp2_with fail
      go_ret
      exact ⟨rfl, (((q1.trans hq2).trans hq3).trans hq4).trans hq5⟩
    · obtain rfl : k = 0 := by rw [← hk]; exact parse_err (by rw [hf]; exact hf0)
      have i1 : (f == 0) = false := by rw [beq_eq_false_iff_ne]; exact hf0
      have i2 : (f != 0) = true := by rw [bne_iff_ne]; exact hf0
      clear hk hf hf0
      go_enter Tryd.func11, Tryd.ntmps11
      go_wp2_with fail
      refine (Dec_is n digits D H1 FN.out _ HL.out).mono ?_; rintro e w1 ⟨rfl, hq1⟩
      have q1 : Q w w1 := by exact hq1
      go_wp2_with fail
      refine (Par_is D digits n 0 H2 S1.out _ (HL.out.stays q1)).mono ?_; rintro e w2 ⟨rfl, hq2⟩
      go_wp2_with fail
      refine (Par_is s digits 0 f H3 S2.out _ ((HL.out.stays q1).stays hq2)).mono ?_; rintro e w3 ⟨rfl, hq3⟩
      go_wp2_with fail
      refine (awake_c _ (((HL.out.stays q1).stays hq2).stays hq3)).mono ?_; rintro e w5 ⟨rfl, hq5⟩
      go_wp2_with fail
      go_ret
      exact ⟨rfl, ((q1.trans hq2).trans hq3).trans hq5⟩

open Go.ChangeMaps (open_string shut_string)
namespace unitsBack
theorem witness (os : Os) {H : Type} (enc : TypeId × Value → H) : (OpenSpec.ofChange Rows.unitsBackSpec).preRow enc Tryd.prog Tryd.f11 Rows.unitsBackRow.domain false Rows.unitsBackRow.laid ((start os).forCall (fun _ _ => 0) ⟨#[], #[Value.int .i64 0, Value.int .i64 0, Value.string ⟨#[]⟩], []⟩).memory #[Value.int .i64 0, Value.int .i64 0, Value.string ⟨#[]⟩] := by
  have hw : (DataW.whole enc Tryd.prog ((start os).forCall (fun _ _ => 0) ⟨#[], #[Value.int .i64 0, Value.int .i64 0, Value.string ⟨#[]⟩], []⟩).memory Tryd.f11.params.toList Rows.unitsBackSpec.vars false (#[Value.int .i64 0, Value.int .i64 0, Value.string ⟨#[]⟩] : Array Value).toList 8).map (fun x => (x.1, x.2.1)) = some ([.lit (.int .i64 0), .lit (.int .i64 0), .lit (.string [])], []) := by kernel_rfl
  obtain ⟨⟨x1, x2, x3⟩, hx, hx1⟩ := Option.map_eq_some_iff.1 hw
  simp only [Prod.mk.injEq] at hx1
  obtain ⟨rfl, rfl⟩ := hx1
  exact OpenSpec.preRow_of_cond 8 hx (by kernel_rfl) (fun k hk => by cases hk) (by kernel_rfl) (door_met os _)
set_option maxRecDepth 100000 in
theorem lifted (os : Os) (started : os.Started) (H : Type) (enc : TypeId × Value → H) (F : Stop.Interp) :
    ReturnsInHanded {} Tryd.checked os 11 .any ((OpenSpec.ofChange Rows.unitsBackSpec).preRow enc Tryd.prog Tryd.f11 Rows.unitsBackRow.domain false Rows.unitsBackRow.laid) (((OpenSpec.ofChange Rows.unitsBackSpec).at F).post enc Tryd.prog Tryd.f11 false true false false) := by
  refine returnsInHanded_of_row (C := Tryd.checked) (s := OpenSpec.ofChange Rows.unitsBackSpec) own started (by kernel_rfl) Tryd.func11
    (witness_row_atRef (enc := enc) (C := Tryd.checked) false (start os) #[Value.int .i64 0, Value.int .i64 0, Value.string ⟨#[]⟩] rfl (by kernel_rfl) (by kernel_rfl) (by kernel_rfl) (witness os enc)) ?_
  intro W base args ds gs before hval0 hW _ _ _ hL _ _
  have hval : ∀ (j : Nat) t v, Tryd.f11.params[j]? = some t → args[j]? = some v → Value.okWide Tryd.prog W .any base t v := hval0
  have hW' := hW
  obtain ⟨p, q, hA0, hV, rfl, hfz, hnd⟩ := hW
  have hA : DataW.TrodAll enc Tryd.prog W 0 (fun _ => true) true Tryd.f11.params.toList args.toList ds p := hA0
  rw [Tryd.params11] at hA hval
  obtain ⟨v0, vs0, d0, ds0, p0, q0, hargs, rfl, rfl, h0, r0⟩ := trodAll_cons hA
  obtain ⟨v1, vs1, d1, ds1, p1, q1, rfl, rfl, rfl, h1, r1⟩ := trodAll_cons r0
  obtain ⟨v2, vs2, d2, ds2, p2, q2, rfl, rfl, rfl, h2, r2⟩ := trodAll_cons r1
  obtain ⟨rfl, rfl, rfl⟩ := trodAll_nil r2
  obtain rfl : args = #[v0, v1, v2] := by cases args; simp_all
  obtain ⟨rfl, rfl⟩ := trodVars_none hV
  obtain ⟨a0, rfl, rfl, rfl, w0⟩ := open_int Tryd.underlying3 (hval 0 3 v0 rfl rfl) h0
  obtain ⟨a1, rfl, rfl, rfl, w1⟩ := open_int Tryd.underlying3 (hval 1 3 v1 rfl rfl) h1
  obtain ⟨a2, rfl, rfl, rfl, w2⟩ := open_string Tryd.underlying9 (hval 2 9 v2 rfl rfl) h2
  clear hA0 hval0
  refine (back_walk a0 a1 a2 W (fit_of w0) (fit_of w1) w2 (five_laid hL)).mono fun e W' ⟨he, bel⟩ => ?_
  subst he
  exact ⟨_, rfl, _, _, _, [], _, [], hW', trodAll_mk1 (shut_bool Tryd.underlying4 _), (trodAll_cons_mk (shut_int Tryd.underlying3 w0) (trodAll_cons_mk (shut_int Tryd.underlying3 w1) (trodAll_cons_mk (shut_string Tryd.underlying9 w2) trodAll_mk0))), rfl, bel.frame _, fun h => by cases h⟩
theorem said : Rows.unitsBackRow.holds Tryd.pinned (OpenSpec.ofChange Rows.unitsBackSpec) :=
  OpenClaim.holds_of_cond 11 Tryd.f11 rfl rfl rfl rfl rfl rfl rfl ⟨rfl, rfl, rfl, rfl, rfl⟩ rfl rfl rfl rfl rfl (by kernel_rfl) Tryd.func11 (by kernel_rfl)
    (of_decide_eq_true (by kernel_rfl)) (by unfold Func.isWrapper; first | (rw [if_pos (by decide +kernel)]; kernel_rfl) | (rw [if_neg (by decide +kernel)]; exact ⟨rfl, rfl⟩))
    (fun os started H enc _ F => by rw [OpenClaim.pre_eq_preRow]; exact lifted os started H enc F)
theorem plain (f : FuncId) (fn : Func) (hf : Tryd.pinned.checked.prog.funcNamed "sawmill/sawmilllaw01.UnitsBack" = some f) (hfn : Tryd.pinned.checked.prog.funcs[f]? = some fn) :
    true = Tryd.pinned.checked.prog.looks [] ∧ ∀ (j : Nat) t, fn.params[j]? = some t → Tryd.pinned.checked.prog.wantsStandIn t = false := by
  obtain rfl : f = 11 := Option.some.inj ((show Tryd.prog.funcNamed "sawmill/sawmilllaw01.UnitsBack" = some 11 by kernel_rfl).symm.trans hf) |>.symm
  obtain rfl : fn = Tryd.f11 := (Option.some.inj (Tryd.func11.symm.trans hfn)).symm
  refine ⟨by kernel_rfl, fun j t ht => ?_⟩
  rw [Tryd.params11] at ht
  have hm := Array.mem_of_getElem? ht
  rcases (show t = 3 ∨ t = 9 by simpa using hm) with rfl | rfl
  · exact (show Tryd.prog.wantsStandIn 3 = false by kernel_rfl)
  · exact (show Tryd.prog.wantsStandIn 9 = false by kernel_rfl)
theorem proved : Rows.UnitsBackCardSaid :=
  Claim7.holds_tied_plain_at .later [] _ _ _ _ said (fun _ h => by cases h) (by kernel_rfl) (fun _ h => by cases h) unitsBack_row_tie rfl ⟨rfl, rfl⟩ (by kernel_rfl) rfl plain (by kernel_rfl)
end unitsBack

end Go.Proofs.YtedcimjhhcepmaaDoor
