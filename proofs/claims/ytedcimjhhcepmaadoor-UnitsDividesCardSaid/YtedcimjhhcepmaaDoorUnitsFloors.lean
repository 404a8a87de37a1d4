/- For every two numbers, the law UnitsFloors returns true. No condition. -/
import Derived.Test.YtedcimjhhcepmaaDoorLaid
set_option linter.unusedVariables false
set_option linter.unusedSimpArgs false
namespace Go.Proofs.YtedcimjhhcepmaaDoor
open Go.ChangeShapes Go.WideShapes Go.ChangeAt Go.RowKit Um

theorem Floor_is (a b q : Int) (x : Bool) (h : Hid (flo a b = q ∧ dOk a b = x)) (w : World) (fa : Fit a) (fb : Fit b) :
    Calls Tryd.prog 12 #[.int .i64 a, .int .i64 b] w fun e w' => e = .returned (.tuple #[.int .i64 q, .bool x]) ∧ Q w w' :=
  (Floor_c a b w fa fb).mono fun _ _ ⟨p, r⟩ => ⟨by rw [p, h.out.1, h.out.2], r⟩
theorem Nearest_is (a b q : Int) (x : Bool) (h : Hid (nea a b = q ∧ dOk a b = x)) (w : World) (fa : Fit a) (fb : Fit b) :
    Calls Tryd.prog 13 #[.int .i64 a, .int .i64 b] w fun e w' => e = .returned (.tuple #[.int .i64 q, .bool x]) ∧ Q w w' :=
  (Nearest_c a b w fa fb).mono fun _ _ ⟨p, r⟩ => ⟨by rw [p, h.out.1, h.out.2], r⟩
/-- the rest of a quotient -/
def Rest (a b q r : Int) : Prop := wrap64 (a - wrap64 (q * b)) = r ∧ -9223372036854775808 ≤ q ∧ q ≤ 9223372036854775807
theorem wrap_rest {a b q r : Int} (h : a = b * q + r) (h1 : -9223372036854775808 ≤ r) (h2 : r ≤ 9223372036854775807) : wrap64 (a - wrap64 (q * b)) = r := by
  obtain ⟨p, hp⟩ : ∃ p, q * b = p := ⟨_, rfl⟩
  rw [Int.mul_comm] at h
  rw [hp] at h ⊢
  simp only [wrap64]; omega
theorem half_pos {r b : Int} (h : 0 < b) (g : half r b = false) : r < b - r := by
  unfold half at g; rw [if_neg (by omega)] at g; have := of_decide_eq_false g; omega
theorem half_pos' {r b : Int} (h : 0 < b) (g : half r b = true) : b - r ≤ r := by
  unfold half at g; rw [if_neg (by omega)] at g; exact of_decide_eq_true g
theorem half_neg {r b : Int} (h : b < 0) (g : half r b = false) : b - r < r := by
  unfold half at g; rw [if_pos h] at g; have := of_decide_eq_false g; omega
theorem half_neg' {r b : Int} (h : b < 0) (g : half r b = true) : r ≤ b - r := by
  unfold half at g; rw [if_pos h] at g; exact of_decide_eq_true g
theorem fq_fit {a b : Int} (fa : Fit a) (hb : b ≠ 0) (hm : ¬ (a = -9223372036854775808 ∧ b = -1)) :
    Fit (fq a b) ∧ (fr a b ≠ 0 → -4611686018427387905 ≤ fq a b ∧ fq a b ≤ 4611686018427387904) := by
  obtain ⟨t1, t2⟩ := tdiv_bd fa hb hm
  unfold Fit at t1 ⊢
  by_cases h0 : a.tmod b = 0
  · have e := fq_no (a := a) (b := b) (by unfold adj; rw [decide_eq_false (by simp [h0])]; rfl)
    rw [e.1, e.2]
    exact ⟨t1, fun g => absurd h0 g⟩
  · have := t2 h0
    cases hj : adj a b with
    | false => have e := fq_no hj; rw [e.1]; exact ⟨by omega, fun _ => by omega⟩
    | true => have e := fq_yes hj; rw [e.1]; exact ⟨by omega, fun _ => by omega⟩
theorem fl_cases {a b : Int} (fa : Fit a) (fb : Fit b) (h : dOk a b = true) : ∃ q r n : Int, flo a b = q ∧ nea a b = n ∧ Rest a b q r ∧
    ((0 < b ∧ 0 ≤ r ∧ r < b ∧ ((r < b - r ∧ n = q) ∨ (b - r ≤ r ∧ n = q + 1 ∧ q ≤ 4611686018427387904))) ∨
     (b < 0 ∧ r ≤ 0 ∧ b < r ∧ ((b - r < r ∧ n = q) ∨ (r ≤ b - r ∧ n = q + 1 ∧ q ≤ 4611686018427387904)))) := by
  obtain ⟨hb, hm⟩ := d_inv h
  have fd := fr_bd a b hb
  have fe := fq_eq a b hb
  have ff := fq_fit fa hb hm
  refine ⟨fq a b, fr a b, nq a b, by unfold flo; rw [h]; rfl, by unfold nea; rw [h]; rfl, ⟨?_, ff.1.1, ff.1.2⟩, ?_⟩
  · obtain ⟨b1, b2⟩ := fb
    exact wrap_rest fe (by rcases (show 0 < b ∨ b < 0 by omega) with g | g; have := fd.1 g; omega; have := fd.2 g; omega) (by rcases (show 0 < b ∨ b < 0 by omega) with g | g; have := fd.1 g; omega; have := fd.2 g; omega)
  · cases hh : half (fr a b) b with
    | false =>
      rcases (show 0 < b ∨ b < 0 by omega) with g | g
      · exact .inl ⟨g, (fd.1 g).1, (fd.1 g).2, .inl ⟨half_pos g hh, by unfold nq; rw [hh]; simp⟩⟩
      · exact .inr ⟨g, (fd.2 g).2, (fd.2 g).1, .inl ⟨half_neg g hh, by unfold nq; rw [hh]; simp⟩⟩
    | true =>
      have h0 : fr a b ≠ 0 := fun e => by rw [e, half_zero hb] at hh; cases hh
      rcases (show 0 < b ∨ b < 0 by omega) with g | g
      · exact .inl ⟨g, (fd.1 g).1, (fd.1 g).2, .inr ⟨half_pos' g hh, by unfold nq; rw [hh]; simp, (ff.2 h0).2⟩⟩
      · exact .inr ⟨g, (fd.2 g).2, (fd.2 g).1, .inr ⟨half_neg' g hh, by unfold nq; rw [hh]; simp, (ff.2 h0).2⟩⟩

set_option maxHeartbeats 1600000 in
theorem floors_walk (a b : Int) (w : World) (fa : Fit a) (fb : Fit b) (hL : Laid w) : Calls Tryd.prog 8 #[.int .i64 a, .int .i64 b] w fun e w' => e = .returned (.bool true) ∧ Below w.heap.size w w' := by
  have HL := Lib.hid hL; clear hL
  cases h : dOk a b with
  | false =>
    have hF := Lib.hid (show flo a b = 0 ∧ dOk a b = false from ⟨by unfold flo; rw [h]; rfl, h⟩)
    have hN := Lib.hid (show nea a b = 0 ∧ dOk a b = false from ⟨by unfold nea; rw [h]; rfl, h⟩)
    have FA := Lib.hid fa
    have FB := Lib.hid fb
    clear fa fb
    by_cases hb : b = 0
    · have hb1 : (b == 0) = true := by simpa using hb
      clear hb h
      go_enter Tryd.func8, Tryd.ntmps8
      go_wp2_with fail
      refine (Floor_is a b _ _ hF _ FA.out FB.out).mono ?_; rintro e w1 ⟨rfl, hq1⟩
      have q1 : Q w w1 := by exact hq1
      go_wp2_with fail
      refine (Nearest_is a b _ _ hN _ FA.out FB.out).mono ?_; rintro e w2 ⟨rfl, hq2⟩
      go_wp2_with fail
      refine (awake_c _ ((HL.out.stays q1).stays hq2)).mono ?_; rintro e w3 ⟨rfl, hq3⟩
      go_wp2_with fail
      go_ret
      exact ⟨rfl, (hq1.trans hq2).trans hq3⟩
    · have hm : a = -9223372036854775808 ∧ b = -1 := by
        refine Decidable.byContradiction fun g => ?_
        rw [d_yes hb g] at h; cases h
      have hb1 : (b == 0) = false := by simpa using hb
      have h1 : (a == -9223372036854775808) = true := by rw [beq_iff_eq]; exact hm.1
      have h2 : (b == -1) = true := by rw [beq_iff_eq]; exact hm.2
      clear hb h hm
      go_enter Tryd.func8, Tryd.ntmps8
      go_wp2_with fail
      refine (Floor_is a b _ _ hF _ FA.out FB.out).mono ?_; rintro e w1 ⟨rfl, hq1⟩
      have q1 : Q w w1 := by exact hq1
      go_wp2_with fail
      refine (Nearest_is a b _ _ hN _ FA.out FB.out).mono ?_; rintro e w2 ⟨rfl, hq2⟩
      go_wp2_with fail
      refine (awake_c _ ((HL.out.stays q1).stays hq2)).mono ?_; rintro e w3 ⟨rfl, hq3⟩
      go_wp2_with fail
      go_ret
      exact ⟨rfl, (hq1.trans hq2).trans hq3⟩
  | true =>
    obtain ⟨q, r, n, e1, e2, ⟨e3, q1, q2⟩, hc⟩ := fl_cases fa fb h
    have hF := Lib.hid (show flo a b = q ∧ dOk a b = true from ⟨e1, h⟩)
    have hN := Lib.hid (show nea a b = n ∧ dOk a b = true from ⟨e2, h⟩)
    have hb1 : (b == 0) = false := by simpa using (d_inv h).1
    have FA := Lib.hid fa
    have FB := Lib.hid fb
    obtain ⟨b1, b2⟩ := fb
    clear fa h e1 e2
    rcases hc with ⟨c1, c2, c3, ⟨c4, c5⟩ | ⟨c4, c5, c6⟩⟩ | ⟨c1, c2, c3, ⟨c4, c5⟩ | ⟨c4, c5, c6⟩⟩
    all_goals
      subst c5
      have t1 := Lib.hid c1
      go_enter Tryd.func8, Tryd.ntmps8
      go_wp2_with fail
      refine (Floor_is a b _ _ hF _ FA.out FB.out).mono ?_; rintro e w1 ⟨rfl, hq1⟩
      have g1 : Q w w1 := by exact hq1
      go_wp2_with fail
      refine (Nearest_is a b _ _ hN _ FA.out FB.out).mono ?_; rintro e w2 ⟨rfl, hq2⟩
      go_wp2_with fail
      refine (awake_c _ ((HL.out.stays g1).stays hq2)).mono ?_; rintro e w3 ⟨rfl, hq3⟩
      go_wp2_with fail
      go_ret
      exact ⟨rfl, (hq1.trans hq2).trans hq3⟩

open Go.ChangeMaps (open_string shut_string)
namespace unitsFloors
theorem witness (os : Os) {H : Type} (enc : TypeId × Value → H) : (OpenSpec.ofChange Rows.unitsFloorsSpec).preRow enc Tryd.prog Tryd.f8 Rows.unitsFloorsRow.domain false Rows.unitsFloorsRow.laid ((start os).forCall (fun _ _ => 0) ⟨#[], #[Value.int .i64 0, Value.int .i64 0], []⟩).memory #[Value.int .i64 0, Value.int .i64 0] := by
  have hw : (DataW.whole enc Tryd.prog ((start os).forCall (fun _ _ => 0) ⟨#[], #[Value.int .i64 0, Value.int .i64 0], []⟩).memory Tryd.f8.params.toList Rows.unitsFloorsSpec.vars false (#[Value.int .i64 0, Value.int .i64 0] : Array Value).toList 8).map (fun x => (x.1, x.2.1)) = some ([.lit (.int .i64 0), .lit (.int .i64 0)], []) := by kernel_rfl
  obtain ⟨⟨x1, x2, x3⟩, hx, hx1⟩ := Option.map_eq_some_iff.1 hw
  simp only [Prod.mk.injEq] at hx1
  obtain ⟨rfl, rfl⟩ := hx1
  exact OpenSpec.preRow_of_cond 8 hx (by kernel_rfl) (fun k hk => by cases hk) (by kernel_rfl) (door_met os _)
set_option maxRecDepth 100000 in
theorem lifted (os : Os) (started : os.Started) (H : Type) (enc : TypeId × Value → H) (F : Stop.Interp) :
    ReturnsInHanded {} Tryd.checked os 8 .any ((OpenSpec.ofChange Rows.unitsFloorsSpec).preRow enc Tryd.prog Tryd.f8 Rows.unitsFloorsRow.domain false Rows.unitsFloorsRow.laid) (((OpenSpec.ofChange Rows.unitsFloorsSpec).at F).post enc Tryd.prog Tryd.f8 false true false false) := by
  refine returnsInHanded_of_row (C := Tryd.checked) (s := OpenSpec.ofChange Rows.unitsFloorsSpec) own started (by kernel_rfl) Tryd.func8
    (witness_row_atRef (enc := enc) (C := Tryd.checked) false (start os) #[Value.int .i64 0, Value.int .i64 0] rfl (by kernel_rfl) (by kernel_rfl) (by kernel_rfl) (witness os enc)) ?_
  intro W base args ds gs before hval0 hW _ _ _ hL _ _
  have hval : ∀ (j : Nat) t v, Tryd.f8.params[j]? = some t → args[j]? = some v → Value.okWide Tryd.prog W .any base t v := hval0
  have hW' := hW
  obtain ⟨p, q, hA0, hV, rfl, hfz, hnd⟩ := hW
  have hA : DataW.TrodAll enc Tryd.prog W 0 (fun _ => true) true Tryd.f8.params.toList args.toList ds p := hA0
  rw [Tryd.params8] at hA hval
  obtain ⟨v0, vs0, d0, ds0, p0, q0, hargs, rfl, rfl, h0, r0⟩ := trodAll_cons hA
  obtain ⟨v1, vs1, d1, ds1, p1, q1, rfl, rfl, rfl, h1, r1⟩ := trodAll_cons r0
  obtain ⟨rfl, rfl, rfl⟩ := trodAll_nil r1
  obtain rfl : args = #[v0, v1] := by cases args; simp_all
  obtain ⟨rfl, rfl⟩ := trodVars_none hV
  obtain ⟨a0, rfl, rfl, rfl, w0⟩ := open_int Tryd.underlying3 (hval 0 3 v0 rfl rfl) h0
  obtain ⟨a1, rfl, rfl, rfl, w1⟩ := open_int Tryd.underlying3 (hval 1 3 v1 rfl rfl) h1
  clear hA0 hval0
  refine (floors_walk a0 a1 W (fit_of w0) (fit_of w1) (five_laid hL)).mono fun e W' ⟨he, bel⟩ => ?_
  subst he
  exact ⟨_, rfl, _, _, _, [], _, [], hW', trodAll_mk1 (shut_bool Tryd.underlying4 _), (trodAll_cons_mk (shut_int Tryd.underlying3 w0) (trodAll_cons_mk (shut_int Tryd.underlying3 w1) trodAll_mk0)), rfl, bel.frame _, fun h => by cases h⟩
theorem said : Rows.unitsFloorsRow.holds Tryd.pinned (OpenSpec.ofChange Rows.unitsFloorsSpec) :=
  OpenClaim.holds_of_cond 8 Tryd.f8 rfl rfl rfl rfl rfl rfl rfl ⟨rfl, rfl, rfl, rfl, rfl⟩ rfl rfl rfl rfl rfl (by kernel_rfl) Tryd.func8 (by kernel_rfl)
    (of_decide_eq_true (by kernel_rfl)) (by unfold Func.isWrapper; first | (rw [if_pos (by decide +kernel)]; kernel_rfl) | (rw [if_neg (by decide +kernel)]; exact ⟨rfl, rfl⟩))
    (fun os started H enc _ F => by rw [OpenClaim.pre_eq_preRow]; exact lifted os started H enc F)
theorem plain (f : FuncId) (fn : Func) (hf : Tryd.pinned.checked.prog.funcNamed "sawmill/sawmilllaw01.UnitsFloors" = some f) (hfn : Tryd.pinned.checked.prog.funcs[f]? = some fn) :
    true = Tryd.pinned.checked.prog.looks [] ∧ ∀ (j : Nat) t, fn.params[j]? = some t → Tryd.pinned.checked.prog.wantsStandIn t = false := by
  obtain rfl : f = 8 := Option.some.inj ((show Tryd.prog.funcNamed "sawmill/sawmilllaw01.UnitsFloors" = some 8 by kernel_rfl).symm.trans hf) |>.symm
  obtain rfl : fn = Tryd.f8 := (Option.some.inj (Tryd.func8.symm.trans hfn)).symm
  refine ⟨by kernel_rfl, fun j t ht => ?_⟩
  rw [Tryd.params8] at ht
  have hm := Array.mem_of_getElem? ht
  obtain rfl : t = 3 := by simpa using hm
  exact (show Tryd.prog.wantsStandIn 3 = false by kernel_rfl)
theorem proved : Rows.UnitsFloorsCardSaid :=
  Claim7.holds_tied_plain_at .later [] _ _ _ _ said (fun _ h => by cases h) (by kernel_rfl) (fun _ h => by cases h) unitsFloors_row_tie rfl ⟨rfl, rfl⟩ (by kernel_rfl) rfl plain (by kernel_rfl)
end unitsFloors

end Go.Proofs.YtedcimjhhcepmaaDoor
