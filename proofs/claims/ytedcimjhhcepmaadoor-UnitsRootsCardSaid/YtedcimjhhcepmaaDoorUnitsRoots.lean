/- For every number, the law UnitsRoots returns true: the square of Root is at most the number, the next one's is greater; 0 for negative numbers. No condition. -/
import Derived.Test.YtedcimjhhcepmaaDoorLaid
set_option linter.unusedVariables false
set_option linter.unusedSimpArgs false
namespace Go.Proofs.YtedcimjhhcepmaaDoor
open Go.ChangeShapes Go.WideShapes Go.ChangeAt Go.RowKit Um

theorem root_max {n r : Nat} (h : IsRoot n r) (hn : n ≤ 9223372036854775807) : r ≤ 3037000499 := by
  obtain ⟨h1, _⟩ := h
  by_cases g : r ≤ 3037000499
  · exact g
  · have := Nat.mul_le_mul (show 3037000500 ≤ r by omega) (show 3037000500 ≤ r by omega); omega
theorem ret_and {a : Bool} (h : a = true) : Ending.returned (.bool a) = .returned (.bool true) := by rw [h]

set_option maxHeartbeats 800000 in
theorem roots_walk (n : Int) (w : World) (fn : Fit n) (hL : Laid w) : Calls Tryd.prog 6 #[.int .i64 n] w fun e w' => e = .returned (.bool true) ∧ Below w.heap.size w w' := by
  have HL := Lib.hid hL; clear hL
  have FN := Lib.hid fn; clear fn
  by_cases h : n < 0
  · go_enter Tryd.func6, Tryd.ntmps6
    go_wp2_with fail
    refine (Root_c n FN.out _).mono ?_; rintro e w1 ⟨r, rfl, hr, rfl⟩
    have hr0 : r = 0 := by rcases hr with ⟨_, h0⟩ | ⟨h0, _⟩; exact h0; omega
    subst hr0
    clear hr
    go_wp2_with fail
    refine (awake_c _ HL.out).mono ?_; rintro e w1 ⟨rfl, hq1⟩
    go_wp2_with fail
    go_ret
    exact ⟨rfl, hq1⟩
  · go_enter Tryd.func6, Tryd.ntmps6
    go_wp2_with fail
    refine (Root_c n FN.out _).mono ?_; rintro e w1 ⟨r, rfl, hr, rfl⟩
    have HR : IsRoot n.toNat r := by rcases hr with ⟨h0, _⟩ | ⟨_, h0⟩; omega; exact h0
    have hm := root_max HR (by have := FN.out.2; omega)
    obtain ⟨p, hp⟩ : ∃ p, r * r = p := ⟨_, rfl⟩
    obtain ⟨g1, g2⟩ := HR
    rw [hp] at g1
    have g3 : n.toNat < p + 2 * r + 1 := by
      have : (r + 1) * (r + 1) = r * r + 2 * r + 1 := by rw [Nat.add_mul, Nat.mul_add]; omega
      rw [this, hp] at g2; exact g2
    have hpi : (r : Int) * (r : Int) = (p : Int) := by rw [← hp]; push_cast; rfl
    have hpm : p ≤ 9223372036854775807 := by have := FN.out.2; omega
    have w1 : wrap64 (p : Int) = (p : Int) := by simp only [wrap64]; omega
    have w2 : wrap64 (n - (p : Int)) = n - p := by have := FN.out; unfold Fit at this; simp only [wrap64]; omega
    have w3 : wrap64 (2 * (r : Int)) = 2 * r := by simp only [wrap64]; omega
    have t1 : (r : Int) ≤ 3037000499 := by omega
    have t2 : (p : Int) ≤ n := by omega
    have t3 : n - (p : Int) ≤ 2 * (r : Int) := by omega
    have t0 : ¬ (r : Int) < 0 := by omega
    clear hr g1 g2 g3 hm hpm hp
    go_wp2_with fail
    refine (awake_c _ HL.out).mono ?_; rintro e w1 ⟨rfl, hq1⟩
    go_wp2_with fail
    go_ret
    exact ⟨rfl, hq1⟩

open Go.ChangeMaps (open_string shut_string)
namespace unitsRoots
theorem witness (os : Os) {H : Type} (enc : TypeId × Value → H) : (OpenSpec.ofChange Rows.unitsRootsSpec).preRow enc Tryd.prog Tryd.f6 Rows.unitsRootsRow.domain false Rows.unitsRootsRow.laid ((start os).forCall (fun _ _ => 0) ⟨#[], #[Value.int .i64 0], []⟩).memory #[Value.int .i64 0] := by
  have hw : (DataW.whole enc Tryd.prog ((start os).forCall (fun _ _ => 0) ⟨#[], #[Value.int .i64 0], []⟩).memory Tryd.f6.params.toList Rows.unitsRootsSpec.vars false (#[Value.int .i64 0] : Array Value).toList 8).map (fun x => (x.1, x.2.1)) = some ([.lit (.int .i64 0)], []) := by kernel_rfl
  obtain ⟨⟨x1, x2, x3⟩, hx, hx1⟩ := Option.map_eq_some_iff.1 hw
  simp only [Prod.mk.injEq] at hx1
  obtain ⟨rfl, rfl⟩ := hx1
  exact OpenSpec.preRow_of_cond 8 hx (by kernel_rfl) (fun k hk => by cases hk) (by kernel_rfl) (door_met os _)
set_option maxRecDepth 100000 in
theorem lifted (os : Os) (started : os.Started) (H : Type) (enc : TypeId × Value → H) (F : Stop.Interp) :
    ReturnsInHanded {} Tryd.checked os 6 .any ((OpenSpec.ofChange Rows.unitsRootsSpec).preRow enc Tryd.prog Tryd.f6 Rows.unitsRootsRow.domain false Rows.unitsRootsRow.laid) (((OpenSpec.ofChange Rows.unitsRootsSpec).at F).post enc Tryd.prog Tryd.f6 false true false false) := by
  refine returnsInHanded_of_row (C := Tryd.checked) (s := OpenSpec.ofChange Rows.unitsRootsSpec) own started (by kernel_rfl) Tryd.func6
    (witness_row_atRef (enc := enc) (C := Tryd.checked) false (start os) #[Value.int .i64 0] rfl (by kernel_rfl) (by kernel_rfl) (by kernel_rfl) (witness os enc)) ?_
  intro W base args ds gs before hval0 hW _ _ _ hL _ _
  have hval : ∀ (j : Nat) t v, Tryd.f6.params[j]? = some t → args[j]? = some v → Value.okWide Tryd.prog W .any base t v := hval0
  have hW' := hW
  obtain ⟨p, q, hA0, hV, rfl, hfz, hnd⟩ := hW
  have hA : DataW.TrodAll enc Tryd.prog W 0 (fun _ => true) true Tryd.f6.params.toList args.toList ds p := hA0
  rw [Tryd.params6] at hA hval
  obtain ⟨v0, vs0, d0, ds0, p0, q0, hargs, rfl, rfl, h0, r0⟩ := trodAll_cons hA
  obtain ⟨rfl, rfl, rfl⟩ := trodAll_nil r0
  obtain rfl : args = #[v0] := by cases args; simp_all
  obtain ⟨rfl, rfl⟩ := trodVars_none hV
  obtain ⟨a0, rfl, rfl, rfl, w0⟩ := open_int Tryd.underlying3 (hval 0 3 v0 rfl rfl) h0
  clear hA0 hval0
  refine (roots_walk a0 W (fit_of w0) (five_laid hL)).mono fun e W' ⟨he, bel⟩ => ?_
  subst he
  exact ⟨_, rfl, _, _, _, [], _, [], hW', trodAll_mk1 (shut_bool Tryd.underlying4 _), (trodAll_cons_mk (shut_int Tryd.underlying3 w0) trodAll_mk0), rfl, bel.frame _, fun h => by cases h⟩
theorem said : Rows.unitsRootsRow.holds Tryd.pinned (OpenSpec.ofChange Rows.unitsRootsSpec) :=
  OpenClaim.holds_of_cond 6 Tryd.f6 rfl rfl rfl rfl rfl rfl rfl ⟨rfl, rfl, rfl, rfl, rfl⟩ rfl rfl rfl rfl rfl (by kernel_rfl) Tryd.func6 (by kernel_rfl)
    (of_decide_eq_true (by kernel_rfl)) (by unfold Func.isWrapper; first | (rw [if_pos (by decide +kernel)]; kernel_rfl) | (rw [if_neg (by decide +kernel)]; exact ⟨rfl, rfl⟩))
    (fun os started H enc _ F => by rw [OpenClaim.pre_eq_preRow]; exact lifted os started H enc F)
theorem plain (f : FuncId) (fn : Func) (hf : Tryd.pinned.checked.prog.funcNamed "sawmill/sawmilllaw01.UnitsRoots" = some f) (hfn : Tryd.pinned.checked.prog.funcs[f]? = some fn) :
    true = Tryd.pinned.checked.prog.looks [] ∧ ∀ (j : Nat) t, fn.params[j]? = some t → Tryd.pinned.checked.prog.wantsStandIn t = false := by
  obtain rfl : f = 6 := Option.some.inj ((show Tryd.prog.funcNamed "sawmill/sawmilllaw01.UnitsRoots" = some 6 by kernel_rfl).symm.trans hf) |>.symm
  obtain rfl : fn = Tryd.f6 := (Option.some.inj (Tryd.func6.symm.trans hfn)).symm
  refine ⟨by kernel_rfl, fun j t ht => ?_⟩
  rw [Tryd.params6] at ht
  have hm := Array.mem_of_getElem? ht
  obtain rfl : t = 3 := by simpa using hm
  exact (show Tryd.prog.wantsStandIn 3 = false by kernel_rfl)
theorem proved : Rows.UnitsRootsCardSaid :=
  Claim7.holds_tied_plain_at .later [] _ _ _ _ said (fun _ h => by cases h) (by kernel_rfl) (fun _ h => by cases h) unitsRoots_row_tie rfl ⟨rfl, rfl⟩ (by kernel_rfl) rfl plain (by kernel_rfl)
end unitsRoots

end Go.Proofs.YtedcimjhhcepmaaDoor
