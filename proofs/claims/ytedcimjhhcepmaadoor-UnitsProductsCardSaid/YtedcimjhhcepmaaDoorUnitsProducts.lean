/- For every three numbers, the law UnitsProducts returns true. No condition. -/
import Derived.Test.YtedcimjhhcepmaaDoorLaid
set_option linter.unusedVariables false
set_option linter.unusedSimpArgs false
namespace Go.Proofs.YtedcimjhhcepmaaDoor
open Go.ChangeShapes Go.WideShapes Go.ChangeAt Go.RowKit Um

def sm (n : Int) : Bool := decide (-2147483648 ≤ n) && decide (n ≤ 2147483648)
theorem small_c (n : Int) (w : World) : Calls Tryd.prog 28 #[.int .i64 n] w fun e w' => e = .returned (.bool (sm n)) ∧ w = w' := by
  by_cases h1 : -2147483648 ≤ n
  · by_cases h2 : n ≤ 2147483648
    · have e := Lib.hid (show sm n = true by unfold sm; simp [h1, h2])
      go_enter Tryd.func28, Tryd.ntmps28
      go_wp2
      go_ret
      exact ⟨ret_bool e.out.symm, rfl⟩
    · have e := Lib.hid (show sm n = false by unfold sm; simp [h1, h2])
      go_enter Tryd.func28, Tryd.ntmps28
      go_wp2
      go_ret
      exact ⟨ret_bool e.out.symm, rfl⟩
  · have e := Lib.hid (show sm n = false by unfold sm; simp [h1])
    go_enter Tryd.func28, Tryd.ntmps28
    go_wp2
    go_ret
    exact ⟨ret_bool e.out.symm, rfl⟩
theorem small_is (n : Int) (x : Bool) (h : Hid (sm n = x)) (w : World) : Calls Tryd.prog 28 #[.int .i64 n] w fun e w' => e = .returned (.bool x) ∧ w = w' :=
  (small_c n w).mono fun _ _ ⟨p, r⟩ => ⟨by rw [p, h.out], r⟩
theorem MulDiv_is (a b c v f : Int) (h : Hid (mdV a b c = v ∧ mdE a b c = f)) (w : World) (fa : Fit a) (fb : Fit b) (fc : Fit c) :
    Calls Tryd.prog 17 #[.int .i64 a, .int .i64 b, .int .i64 c] w fun e w' => e = .returned (.tuple #[.int .i64 v, .int .i64 f]) ∧ Q w w' :=
  (MulDiv_c a b c fa fb fc w).mono fun _ _ ⟨p, r⟩ => ⟨by rw [p, h.out.1, h.out.2], r⟩
theorem md_comm (a b c : Int) : mdV b a c = mdV a b c ∧ mdE b a c = mdE a b c := by
  unfold mdV mdE; rw [Int.mul_comm b a]; exact ⟨rfl, rfl⟩
theorem md_self {a c : Int} (fa : Fit a) (hc : 0 < c) : mdV a c c = a ∧ mdE a c c = 0 :=
  (md_of hc (Int.mul_ediv_cancel a (by omega))).1 fa
theorem prod_bd {a b : Int} (ha : sm a = true) (hb : sm b = true) : -4611686018427387904 ≤ a * b ∧ a * b ≤ 4611686018427387904 := by
  unfold sm at ha hb
  rw [Bool.and_eq_true, decide_eq_true_eq, decide_eq_true_eq] at ha hb
  have h : a.natAbs * b.natAbs ≤ 2147483648 * 2147483648 := Nat.mul_le_mul (by omega) (by omega)
  rw [← Int.natAbs_mul] at h
  omega
theorem md_one {a b : Int} (ha : sm a = true) (hb : sm b = true) : mdV a b 1 = a * b ∧ mdE a b 1 = 0 :=
  (md_of (by omega) (Int.ediv_one _)).1 (by have := prod_bd ha hb; unfold Fit; omega)

set_option maxHeartbeats 1600000 in
theorem products_walk (a b c : Int) (w : World) (fa : Fit a) (fb : Fit b) (fc : Fit c) (hL : Laid w) : Calls Tryd.prog 9 #[.int .i64 a, .int .i64 b, .int .i64 c] w fun e w' => e = .returned (.bool true) ∧ Below w.heap.size w w' := by
  have HL := Lib.hid hL; clear hL
  obtain ⟨n3, h3⟩ : ∃ n, mdV a b c = n := ⟨_, rfl⟩
  obtain ⟨f3, g3⟩ : ∃ n, mdE a b c = n := ⟨_, rfl⟩
  have H3 := Lib.hid (show mdV a b c = n3 ∧ mdE a b c = f3 from ⟨h3, g3⟩)
  have H4 := Lib.hid (show mdV b a c = n3 ∧ mdE b a c = f3 from ⟨by rw [(md_comm a b c).1, h3], by rw [(md_comm a b c).2, g3]⟩)
  obtain ⟨n1, h1⟩ : ∃ n, mdV a c c = n := ⟨_, rfl⟩
  obtain ⟨f1, g1⟩ : ∃ n, mdE a c c = n := ⟨_, rfl⟩
  have H1 := Lib.hid (show mdV a c c = n1 ∧ mdE a c c = f1 from ⟨h1, g1⟩)
  obtain ⟨n2, h2⟩ : ∃ n, mdV a b 1 = n := ⟨_, rfl⟩
  obtain ⟨f2, g2⟩ : ∃ n, mdE a b 1 = n := ⟨_, rfl⟩
  have H2 := Lib.hid (show mdV a b 1 = n2 ∧ mdE a b 1 = f2 from ⟨h2, g2⟩)
  have FA := Lib.hid fa
  have FB := Lib.hid fb
  have FC := Lib.hid fc
  have F1 := Lib.hid (show Fit 1 from ⟨by decide, by decide⟩)
  obtain ⟨p, hp⟩ : ∃ p, a * b = p := ⟨_, rfl⟩
  have e1 : (0 < c ∧ n1 = a ∧ f1 = 0) ∨ c ≤ 0 := by
    by_cases hc : 0 < c
    · have := md_self fa hc; exact .inl ⟨hc, by rw [← h1, this.1], by rw [← g1, this.2]⟩
    · exact .inr (by omega)
  have e2 : (sm a = false) ∨ (sm a = true ∧ sm b = false) ∨ (sm a = true ∧ sm b = true ∧ n2 = p ∧ f2 = 0 ∧ wrap64 p = p) := by
    cases xa : sm a with
    | false => exact .inl rfl
    | true =>
      cases xb : sm b with
      | false => exact .inr (.inl ⟨rfl, rfl⟩)
      | true =>
        have := md_one xa xb
        have bd := prod_bd xa xb
        rw [hp] at this bd
        exact .inr (.inr ⟨rfl, rfl, by rw [← h2, this.1], by rw [← g2, this.2], by simp only [wrap64]; omega⟩)
  clear h1 g1 h2 g2 h3 g3 fa fb fc
  rcases e1 with ⟨c1, rfl, rfl⟩ | c1 <;> rcases e2 with xa | ⟨xa, xb⟩ | ⟨xa, xb, rfl, rfl, hw⟩
  case inl.inl | inr.inl =>
    have XA := Lib.hid xa
    clear xa
    go_enter Tryd.func9, Tryd.ntmps9
    go_wp2_with fail
    refine (MulDiv_is _ _ _ _ _ H1 _ FA.out FC.out FC.out).mono ?_; rintro e w1 ⟨rfl, hq1⟩
    have k1 : Q w w1 := by exact hq1
    go_wp2_with fail
    refine (MulDiv_is _ _ _ _ _ H2 _ FA.out FB.out F1.out).mono ?_; rintro e w2 ⟨rfl, hq2⟩
    go_wp2_with fail
    refine (small_is _ _ XA _).mono ?_; rintro e w3 ⟨rfl, rfl⟩
    go_wp2_with fail
    refine (MulDiv_is _ _ _ _ _ H3 _ FA.out FB.out FC.out).mono ?_; rintro e w3 ⟨rfl, hq3⟩
    go_wp2_with fail
    refine (MulDiv_is _ _ _ _ _ H4 _ FB.out FA.out FC.out).mono ?_; rintro e w4 ⟨rfl, hq4⟩
    go_wp2_with fail
    refine (awake_c _ ((((HL.out.stays k1).stays hq2).stays hq3).stays hq4)).mono ?_; rintro e w5 ⟨rfl, hq5⟩
    go_wp2_with fail
    go_ret
    exact ⟨rfl, (((k1.trans hq2).trans hq3).trans hq4).trans hq5⟩
  case inl.inr.inl | inr.inr.inl =>
    have XA := Lib.hid xa
    have XB := Lib.hid xb
    clear xa xb
    go_enter Tryd.func9, Tryd.ntmps9
    go_wp2_with fail
    refine (MulDiv_is _ _ _ _ _ H1 _ FA.out FC.out FC.out).mono ?_; rintro e w1 ⟨rfl, hq1⟩
    have k1 : Q w w1 := by exact hq1
    go_wp2_with fail
    refine (MulDiv_is _ _ _ _ _ H2 _ FA.out FB.out F1.out).mono ?_; rintro e w2 ⟨rfl, hq2⟩
    go_wp2_with fail
    refine (small_is _ _ XA _).mono ?_; rintro e w3 ⟨rfl, rfl⟩
    go_wp2_with fail
    refine (small_is _ _ XB _).mono ?_; rintro e w3 ⟨rfl, rfl⟩
    go_wp2_with fail
    refine (MulDiv_is _ _ _ _ _ H3 _ FA.out FB.out FC.out).mono ?_; rintro e w3 ⟨rfl, hq3⟩
    go_wp2_with fail
    refine (MulDiv_is _ _ _ _ _ H4 _ FB.out FA.out FC.out).mono ?_; rintro e w4 ⟨rfl, hq4⟩
    go_wp2_with fail
    refine (awake_c _ ((((HL.out.stays k1).stays hq2).stays hq3).stays hq4)).mono ?_; rintro e w5 ⟨rfl, hq5⟩
    go_wp2_with fail
    go_ret
    exact ⟨rfl, (((k1.trans hq2).trans hq3).trans hq4).trans hq5⟩
  case inl.inr.inr | inr.inr.inr =>
    have XA := Lib.hid xa
    have XB := Lib.hid xb
    clear xa xb
    go_enter Tryd.func9, Tryd.ntmps9
    go_wp2_with fail
    refine (MulDiv_is _ _ _ _ _ H1 _ FA.out FC.out FC.out).mono ?_; rintro e w1 ⟨rfl, hq1⟩
    have k1 : Q w w1 := by exact hq1
    go_wp2_with fail
    refine (MulDiv_is _ _ _ _ _ H2 _ FA.out FB.out F1.out).mono ?_; rintro e w2 ⟨rfl, hq2⟩
    go_wp2_with fail
    refine (small_is _ _ XA _).mono ?_; rintro e w3 ⟨rfl, rfl⟩
    go_wp2_with fail
    refine (small_is _ _ XB _).mono ?_; rintro e w3 ⟨rfl, rfl⟩
    go_wp2_with fail
    refine (MulDiv_is _ _ _ _ _ H3 _ FA.out FB.out FC.out).mono ?_; rintro e w3 ⟨rfl, hq3⟩
    go_wp2_with fail
    refine (MulDiv_is _ _ _ _ _ H4 _ FB.out FA.out FC.out).mono ?_; rintro e w4 ⟨rfl, hq4⟩
    go_wp2_with fail
    refine (awake_c _ ((((HL.out.stays k1).stays hq2).stays hq3).stays hq4)).mono ?_; rintro e w5 ⟨rfl, hq5⟩
    go_wp2_with fail
    go_ret
    exact ⟨rfl, (((k1.trans hq2).trans hq3).trans hq4).trans hq5⟩

open Go.ChangeMaps (open_string shut_string)
namespace unitsProducts
theorem witness (os : Os) {H : Type} (enc : TypeId × Value → H) : (OpenSpec.ofChange Rows.unitsProductsSpec).preRow enc Tryd.prog Tryd.f9 Rows.unitsProductsRow.domain false Rows.unitsProductsRow.laid ((start os).forCall (fun _ _ => 0) ⟨#[], #[Value.int .i64 0, Value.int .i64 0, Value.int .i64 0], []⟩).memory #[Value.int .i64 0, Value.int .i64 0, Value.int .i64 0] := by
  have hw : (DataW.whole enc Tryd.prog ((start os).forCall (fun _ _ => 0) ⟨#[], #[Value.int .i64 0, Value.int .i64 0, Value.int .i64 0], []⟩).memory Tryd.f9.params.toList Rows.unitsProductsSpec.vars false (#[Value.int .i64 0, Value.int .i64 0, Value.int .i64 0] : Array Value).toList 8).map (fun x => (x.1, x.2.1)) = some ([.lit (.int .i64 0), .lit (.int .i64 0), .lit (.int .i64 0)], []) := by kernel_rfl
  obtain ⟨⟨x1, x2, x3⟩, hx, hx1⟩ := Option.map_eq_some_iff.1 hw
  simp only [Prod.mk.injEq] at hx1
  obtain ⟨rfl, rfl⟩ := hx1
  exact OpenSpec.preRow_of_cond 8 hx (by kernel_rfl) (fun k hk => by cases hk) (by kernel_rfl) (door_met os _)
set_option maxRecDepth 100000 in
theorem lifted (os : Os) (started : os.Started) (H : Type) (enc : TypeId × Value → H) (F : Stop.Interp) :
    ReturnsInHanded {} Tryd.checked os 9 .any ((OpenSpec.ofChange Rows.unitsProductsSpec).preRow enc Tryd.prog Tryd.f9 Rows.unitsProductsRow.domain false Rows.unitsProductsRow.laid) (((OpenSpec.ofChange Rows.unitsProductsSpec).at F).post enc Tryd.prog Tryd.f9 false true false false) := by
  refine returnsInHanded_of_row (C := Tryd.checked) (s := OpenSpec.ofChange Rows.unitsProductsSpec) own started (by kernel_rfl) Tryd.func9
    (witness_row_atRef (enc := enc) (C := Tryd.checked) false (start os) #[Value.int .i64 0, Value.int .i64 0, Value.int .i64 0] rfl (by kernel_rfl) (by kernel_rfl) (by kernel_rfl) (witness os enc)) ?_
  intro W base args ds gs before hval0 hW _ _ _ hL _ _
  have hval : ∀ (j : Nat) t v, Tryd.f9.params[j]? = some t → args[j]? = some v → Value.okWide Tryd.prog W .any base t v := hval0
  have hW' := hW
  obtain ⟨p, q, hA0, hV, rfl, hfz, hnd⟩ := hW
  have hA : DataW.TrodAll enc Tryd.prog W 0 (fun _ => true) true Tryd.f9.params.toList args.toList ds p := hA0
  rw [Tryd.params9] at hA hval
  obtain ⟨v0, vs0, d0, ds0, p0, q0, hargs, rfl, rfl, h0, r0⟩ := trodAll_cons hA
  obtain ⟨v1, vs1, d1, ds1, p1, q1, rfl, rfl, rfl, h1, r1⟩ := trodAll_cons r0
  obtain ⟨v2, vs2, d2, ds2, p2, q2, rfl, rfl, rfl, h2, r2⟩ := trodAll_cons r1
  obtain ⟨rfl, rfl, rfl⟩ := trodAll_nil r2
  obtain rfl : args = #[v0, v1, v2] := by cases args; simp_all
  obtain ⟨rfl, rfl⟩ := trodVars_none hV
  obtain ⟨a0, rfl, rfl, rfl, w0⟩ := open_int Tryd.underlying3 (hval 0 3 v0 rfl rfl) h0
  obtain ⟨a1, rfl, rfl, rfl, w1⟩ := open_int Tryd.underlying3 (hval 1 3 v1 rfl rfl) h1
  obtain ⟨a2, rfl, rfl, rfl, w2⟩ := open_int Tryd.underlying3 (hval 2 3 v2 rfl rfl) h2
  clear hA0 hval0
  refine (products_walk a0 a1 a2 W (fit_of w0) (fit_of w1) (fit_of w2) (five_laid hL)).mono fun e W' ⟨he, bel⟩ => ?_
  subst he
  exact ⟨_, rfl, _, _, _, [], _, [], hW', trodAll_mk1 (shut_bool Tryd.underlying4 _), (trodAll_cons_mk (shut_int Tryd.underlying3 w0) (trodAll_cons_mk (shut_int Tryd.underlying3 w1) (trodAll_cons_mk (shut_int Tryd.underlying3 w2) trodAll_mk0))), rfl, bel.frame _, fun h => by cases h⟩
theorem said : Rows.unitsProductsRow.holds Tryd.pinned (OpenSpec.ofChange Rows.unitsProductsSpec) :=
  OpenClaim.holds_of_cond 9 Tryd.f9 rfl rfl rfl rfl rfl rfl rfl ⟨rfl, rfl, rfl, rfl, rfl⟩ rfl rfl rfl rfl rfl (by kernel_rfl) Tryd.func9 (by kernel_rfl)
    (of_decide_eq_true (by kernel_rfl)) (by unfold Func.isWrapper; first | (rw [if_pos (by decide +kernel)]; kernel_rfl) | (rw [if_neg (by decide +kernel)]; exact ⟨rfl, rfl⟩))
    (fun os started H enc _ F => by rw [OpenClaim.pre_eq_preRow]; exact lifted os started H enc F)
theorem plain (f : FuncId) (fn : Func) (hf : Tryd.pinned.checked.prog.funcNamed "sawmill/sawmilllaw01.UnitsProducts" = some f) (hfn : Tryd.pinned.checked.prog.funcs[f]? = some fn) :
    true = Tryd.pinned.checked.prog.looks [] ∧ ∀ (j : Nat) t, fn.params[j]? = some t → Tryd.pinned.checked.prog.wantsStandIn t = false := by
  obtain rfl : f = 9 := Option.some.inj ((show Tryd.prog.funcNamed "sawmill/sawmilllaw01.UnitsProducts" = some 9 by kernel_rfl).symm.trans hf) |>.symm
  obtain rfl : fn = Tryd.f9 := (Option.some.inj (Tryd.func9.symm.trans hfn)).symm
  refine ⟨by kernel_rfl, fun j t ht => ?_⟩
  rw [Tryd.params9] at ht
  have hm := Array.mem_of_getElem? ht
  obtain rfl : t = 3 := by simpa using hm
  exact (show Tryd.prog.wantsStandIn 3 = false by kernel_rfl)
theorem proved : Rows.UnitsProductsCardSaid :=
  Claim7.holds_tied_plain_at .later [] _ _ _ _ said (fun _ h => by cases h) (by kernel_rfl) (fun _ h => by cases h) unitsProducts_row_tie rfl ⟨rfl, rfl⟩ (by kernel_rfl) rfl plain (by kernel_rfl)
end unitsProducts

end Go.Proofs.YtedcimjhhcepmaaDoor
