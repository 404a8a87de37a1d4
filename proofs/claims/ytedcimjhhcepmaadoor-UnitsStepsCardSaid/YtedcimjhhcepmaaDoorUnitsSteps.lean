/- For every three numbers, the law UnitsSteps returns true. No condition. -/
import Derived.Test.YtedcimjhhcepmaaDoorLaid
set_option linter.unusedVariables false
set_option linter.unusedSimpArgs false
namespace Go.Proofs.YtedcimjhhcepmaaDoor
open Go.ChangeShapes Go.WideShapes Go.ChangeAt Go.RowKit Um

theorem between_l (n a b : Int) (h : a ≤ n ∧ n ≤ b) (w : World) : Calls Tryd.prog 29 #[.int .i64 n, .int .i64 a, .int .i64 b] w fun e w' => e = .returned (.bool true) ∧ w = w' := by
  obtain ⟨h1, h2⟩ := h
  go_enter Tryd.func29, Tryd.ntmps29
  go_wp2
  go_ret
  exact ⟨rfl, rfl⟩
theorem between_r (n a b : Int) (h : b ≤ n ∧ n ≤ a) (w : World) : Calls Tryd.prog 29 #[.int .i64 n, .int .i64 a, .int .i64 b] w fun e w' => e = .returned (.bool true) ∧ w = w' := by
  obtain ⟨h1, h2⟩ := h
  by_cases g1 : a ≤ n
  · by_cases g2 : n ≤ b
    · exact between_l n a b ⟨g1, g2⟩ w
    · go_enter Tryd.func29, Tryd.ntmps29
      go_wp2
      go_ret
      exact ⟨rfl, rfl⟩
  · go_enter Tryd.func29, Tryd.ntmps29
    go_wp2
    go_ret
    exact ⟨rfl, rfl⟩
def Btw (n a b : Int) : Prop := (a ≤ n ∧ n ≤ b) ∨ (b ≤ n ∧ n ≤ a)
theorem between_is (n a b : Int) (h : Btw n a b) (w : World) : Calls Tryd.prog 29 #[.int .i64 n, .int .i64 a, .int .i64 b] w fun e w' => e = .returned (.bool true) ∧ w = w' := by
  rcases h with h | h
  · exact between_l n a b h w
  · exact between_r n a b h w
theorem Toward_is (a b k v : Int) (h : Hid (tw a b k = v)) (w : World) (fa : Fit a) (fb : Fit b) :
    Calls Tryd.prog 21 #[.int .i64 a, .int .i64 b, .int .i64 k] w fun e w' => e = .returned (.int .i64 v) ∧ Q w w' :=
  (Toward_c a b k fa fb w).mono fun _ _ ⟨p, r⟩ => ⟨by rw [p, h.out], r⟩
theorem st_full {d : Nat} (h : 0 < d) : st d 10000 = d := by
  unfold st; rw [Nat.mul_div_cancel _ (by omega), if_neg (by omega)]
theorem st_mono {d k l : Nat} (h : k ≤ l) : st d k ≤ st d l := by
  have : d * k / 10000 ≤ d * l / 10000 := Nat.div_le_div_right (Nat.mul_le_mul_left _ h)
  unfold st; split <;> split <;> omega
theorem tw_zero (a b k : Int) (h : k ≤ 0) : tw a b k = a := by
  unfold tw; rw [if_pos (.inl (by unfold clamp; rw [if_neg (by omega)]; by_cases g : k < 0; rw [if_pos g]; rw [if_neg g, if_neg (by omega)]; omega))]
theorem tw_same (a k : Int) : tw a a k = a := by unfold tw; rw [if_pos (.inr rfl)]
theorem clamp_in {k : Int} (h : 0 ≤ k) (g : k ≤ 10000) : clamp k 0 10000 = k := by
  unfold clamp; rw [if_neg (by omega), if_neg (by omega), if_neg (by omega)]
theorem clamp_up {k : Int} (g : 10000 ≤ k) : clamp k 0 10000 = 10000 := by
  unfold clamp; rw [if_neg (by omega), if_neg (by omega)]; by_cases h : 10000 < k; rw [if_pos h]; rw [if_neg h]; omega
theorem tw_down {a b : Int} {c : Int} {k : Nat} (hc : clamp c 0 10000 = k) (hk : 0 < k) (h : b < a) : tw a b c = a - (st (a - b).toNat k : Nat) := by
  unfold tw; rw [hc, if_neg (by omega), if_pos h]; simp
theorem tw_up {a b : Int} {c : Int} {k : Nat} (hc : clamp c 0 10000 = k) (hk : 0 < k) (h : a < b) : tw a b c = a + (st (b - a).toNat k : Nat) := by
  unfold tw; rw [hc, if_neg (by omega), if_neg (by omega)]; simp
theorem tw_full (a b k : Int) (g : 10000 ≤ k) : tw a b k = b := by
  have hc := clamp_up g
  rcases Int.lt_trichotomy a b with h | h | h
  · rw [tw_up (k := 10000) hc (by omega) h, st_full (by omega)]; omega
  · subst h; exact tw_same _ _
  · rw [tw_down (k := 10000) hc (by omega) h, st_full (by omega)]; omega
theorem tw_mid {a b k : Int} (h1 : 0 < k) (h2 : k < 10000) (hab : a ≠ b) : Btw (tw a b k) a b ∧ tw a b k ≠ a ∧ Btw (tw a b (k + 1)) (tw a b k) b := by
  obtain ⟨K, rfl⟩ := Int.eq_ofNat_of_zero_le (show 0 ≤ k by omega)
  have c1 : clamp (K : Int) 0 10000 = (K : Nat) := clamp_in (by omega) (by omega)
  have c2 : clamp ((K : Int) + 1) 0 10000 = ((K + 1 : Nat) : Int) := by rw [clamp_in (by omega) (by omega)]; push_cast; rfl
  rcases (show a < b ∨ b < a by omega) with h | h
  · rw [tw_up c1 (by omega) h, tw_up c2 (by omega) h]
    have s1 := st_bd (d := (b - a).toNat) (k := K) (by omega) (by omega) (by omega)
    have s2 := st_bd (d := (b - a).toNat) (k := K + 1) (by omega) (by omega) (by omega)
    have s3 := st_mono (d := (b - a).toNat) (show K ≤ K + 1 by omega)
    exact ⟨.inl ⟨by omega, by omega⟩, by omega, .inl ⟨by omega, by omega⟩⟩
  · rw [tw_down c1 (by omega) h, tw_down c2 (by omega) h]
    have s1 := st_bd (d := (a - b).toNat) (k := K) (by omega) (by omega) (by omega)
    have s2 := st_bd (d := (a - b).toNat) (k := K + 1) (by omega) (by omega) (by omega)
    have s3 := st_mono (d := (a - b).toNat) (show K ≤ K + 1 by omega)
    exact ⟨.inr ⟨by omega, by omega⟩, by omega, .inr ⟨by omega, by omega⟩⟩

set_option maxHeartbeats 1600000 in
theorem steps_walk (a b k : Int) (w : World) (fa : Fit a) (fb : Fit b) (fk : Fit k) (hL : Laid w) : Calls Tryd.prog 10 #[.int .i64 a, .int .i64 b, .int .i64 k] w fun e w' => e = .returned (.bool true) ∧ Below w.heap.size w w' := by
  have HL := Lib.hid hL; clear hL
  have FA := Lib.hid fa
  have FB := Lib.hid fb
  have TF := Lib.hid (tw_full a b 10000 (by omega))
  have TZ := Lib.hid (tw_zero a b 0 (by omega))
  clear fa fb fk
  by_cases h0 : k ≤ 0
  · have T := Lib.hid (tw_zero a b k h0)
    have B := Lib.hid (show Btw a a b by unfold Btw; omega)
    go_enter Tryd.func10, Tryd.ntmps10
    go_wp2_with fail
    refine (Toward_is _ _ _ _ T _ FA.out FB.out).mono ?_; rintro e w1 ⟨rfl, hq1⟩
    have k1 : Q w w1 := by exact hq1
    go_wp2_with fail
    refine (between_is _ _ _ B.out _).mono ?_; rintro e w2 ⟨rfl, rfl⟩
    go_wp2_with fail
    refine (Toward_is _ _ _ _ TF _ FA.out FB.out).mono ?_; rintro e w2 ⟨rfl, hq2⟩
    go_wp2_with fail
    refine (Toward_is _ _ _ _ TZ _ FA.out FB.out).mono ?_; rintro e w3 ⟨rfl, hq3⟩
    go_wp2_with fail
    refine (awake_c _ (((HL.out.stays k1).stays hq2).stays hq3)).mono ?_; rintro e w4 ⟨rfl, hq4⟩
    go_wp2_with fail
    go_ret
    exact ⟨rfl, ((k1.trans hq2).trans hq3).trans hq4⟩
  · by_cases h1 : 10000 ≤ k
    · have T := Lib.hid (tw_full a b k h1)
      have B := Lib.hid (show Btw b a b by unfold Btw; omega)
      by_cases hab : a = b
      · have hb1 : (a != b) = false := by simpa using hab
        clear hab
        go_enter Tryd.func10, Tryd.ntmps10
        go_wp2_with fail
        refine (Toward_is _ _ _ _ T _ FA.out FB.out).mono ?_; rintro e w1 ⟨rfl, hq1⟩
        have k1 : Q w w1 := by exact hq1
        go_wp2_with fail
        refine (between_is _ _ _ B.out _).mono ?_; rintro e w2 ⟨rfl, rfl⟩
        go_wp2_with fail
        refine (Toward_is _ _ _ _ TF _ FA.out FB.out).mono ?_; rintro e w2 ⟨rfl, hq2⟩
        go_wp2_with fail
        refine (Toward_is _ _ _ _ TZ _ FA.out FB.out).mono ?_; rintro e w3 ⟨rfl, hq3⟩
        go_wp2_with fail
        refine (awake_c _ (((HL.out.stays k1).stays hq2).stays hq3)).mono ?_; rintro e w4 ⟨rfl, hq4⟩
        go_wp2_with fail
        go_ret
        exact ⟨rfl, ((k1.trans hq2).trans hq3).trans hq4⟩
      · have hb1 : (a != b) = true := by simpa using hab
        have hb2 : (b == a) = false := by simpa using fun e => hab e.symm
        clear hab
        go_enter Tryd.func10, Tryd.ntmps10
        go_wp2_with fail
        refine (Toward_is _ _ _ _ T _ FA.out FB.out).mono ?_; rintro e w1 ⟨rfl, hq1⟩
        have k1 : Q w w1 := by exact hq1
        go_wp2_with fail
        refine (between_is _ _ _ B.out _).mono ?_; rintro e w2 ⟨rfl, rfl⟩
        go_wp2_with fail
        refine (Toward_is _ _ _ _ TF _ FA.out FB.out).mono ?_; rintro e w2 ⟨rfl, hq2⟩
        go_wp2_with fail
        refine (Toward_is _ _ _ _ TZ _ FA.out FB.out).mono ?_; rintro e w3 ⟨rfl, hq3⟩
        go_wp2_with fail
        refine (awake_c _ (((HL.out.stays k1).stays hq2).stays hq3)).mono ?_; rintro e w4 ⟨rfl, hq4⟩
        go_wp2_with fail
        go_ret
        exact ⟨rfl, ((k1.trans hq2).trans hq3).trans hq4⟩
    · by_cases hab : a = b
      · subst hab
        have hb1 : (a != a) = false := by simp
        have T := Lib.hid (tw_same a k)
        have T1 := Lib.hid (tw_same a (k + 1))
        have B := Lib.hid (show Btw a a a by unfold Btw; omega)
        go_enter Tryd.func10, Tryd.ntmps10
        go_wp2_with fail
        refine (Toward_is _ _ _ _ T _ FA.out FB.out).mono ?_; rintro e w1 ⟨rfl, hq1⟩
        have k1 : Q w w1 := by exact hq1
        go_wp2_with fail
        refine (between_is _ _ _ B.out _).mono ?_; rintro e w2 ⟨rfl, rfl⟩
        go_wp2_with fail
        refine (Toward_is _ _ _ _ T1 _ FA.out FB.out).mono ?_; rintro e w5 ⟨rfl, hq5⟩
        go_wp2_with fail
        refine (between_is _ _ _ B.out _).mono ?_; rintro e w2 ⟨rfl, rfl⟩
        go_wp2_with fail
        refine (Toward_is _ _ _ _ TF _ FA.out FB.out).mono ?_; rintro e w2 ⟨rfl, hq2⟩
        go_wp2_with fail
        refine (Toward_is _ _ _ _ TZ _ FA.out FB.out).mono ?_; rintro e w3 ⟨rfl, hq3⟩
        go_wp2_with fail
        refine (awake_c _ ((((HL.out.stays k1).stays hq5).stays hq2).stays hq3)).mono ?_; rintro e w4 ⟨rfl, hq4⟩
        go_wp2_with fail
        go_ret
        exact ⟨rfl, (((k1.trans hq5).trans hq2).trans hq3).trans hq4⟩
      · have hm := tw_mid (show 0 < k by omega) (show k < 10000 by omega) hab
        obtain ⟨n, hn⟩ : ∃ n, tw a b k = n := ⟨_, rfl⟩
        obtain ⟨m, hmm⟩ : ∃ m, tw a b (k + 1) = m := ⟨_, rfl⟩
        rw [hn, hmm] at hm
        have T := Lib.hid hn
        have T1 := Lib.hid hmm
        have B := Lib.hid hm.1
        have B1 := Lib.hid hm.2.2
        have hb1 : (a != b) = true := by simpa using hab
        have hb2 : (n == a) = false := by simpa using hm.2.1
        clear hab hm hn hmm
        go_enter Tryd.func10, Tryd.ntmps10
        go_wp2_with fail
        refine (Toward_is _ _ _ _ T _ FA.out FB.out).mono ?_; rintro e w1 ⟨rfl, hq1⟩
        have k1 : Q w w1 := by exact hq1
        go_wp2_with fail
        refine (between_is _ _ _ B.out _).mono ?_; rintro e w2 ⟨rfl, rfl⟩
        go_wp2_with fail
        refine (Toward_is _ _ _ _ T1 _ FA.out FB.out).mono ?_; rintro e w5 ⟨rfl, hq5⟩
        go_wp2_with fail
        refine (between_is _ _ _ B1.out _).mono ?_; rintro e w2 ⟨rfl, rfl⟩
        go_wp2_with fail
        refine (Toward_is _ _ _ _ TF _ FA.out FB.out).mono ?_; rintro e w2 ⟨rfl, hq2⟩
        go_wp2_with fail
        refine (Toward_is _ _ _ _ TZ _ FA.out FB.out).mono ?_; rintro e w3 ⟨rfl, hq3⟩
        go_wp2_with fail
        refine (awake_c _ ((((HL.out.stays k1).stays hq5).stays hq2).stays hq3)).mono ?_; rintro e w4 ⟨rfl, hq4⟩
        go_wp2_with fail
        go_ret
        exact ⟨rfl, (((k1.trans hq5).trans hq2).trans hq3).trans hq4⟩

open Go.ChangeMaps (open_string shut_string)
namespace unitsSteps
theorem witness (os : Os) {H : Type} (enc : TypeId × Value → H) : (OpenSpec.ofChange Rows.unitsStepsSpec).preRow enc Tryd.prog Tryd.f10 Rows.unitsStepsRow.domain false Rows.unitsStepsRow.laid ((start os).forCall (fun _ _ => 0) ⟨#[], #[Value.int .i64 0, Value.int .i64 0, Value.int .i64 0], []⟩).memory #[Value.int .i64 0, Value.int .i64 0, Value.int .i64 0] := by
  have hw : (DataW.whole enc Tryd.prog ((start os).forCall (fun _ _ => 0) ⟨#[], #[Value.int .i64 0, Value.int .i64 0, Value.int .i64 0], []⟩).memory Tryd.f10.params.toList Rows.unitsStepsSpec.vars false (#[Value.int .i64 0, Value.int .i64 0, Value.int .i64 0] : Array Value).toList 8).map (fun x => (x.1, x.2.1)) = some ([.lit (.int .i64 0), .lit (.int .i64 0), .lit (.int .i64 0)], []) := by kernel_rfl
  obtain ⟨⟨x1, x2, x3⟩, hx, hx1⟩ := Option.map_eq_some_iff.1 hw
  simp only [Prod.mk.injEq] at hx1
  obtain ⟨rfl, rfl⟩ := hx1
  exact OpenSpec.preRow_of_cond 8 hx (by kernel_rfl) (fun k hk => by cases hk) (by kernel_rfl) (door_met os _)
set_option maxRecDepth 100000 in
theorem lifted (os : Os) (started : os.Started) (H : Type) (enc : TypeId × Value → H) (F : Stop.Interp) :
    ReturnsInHanded {} Tryd.checked os 10 .any ((OpenSpec.ofChange Rows.unitsStepsSpec).preRow enc Tryd.prog Tryd.f10 Rows.unitsStepsRow.domain false Rows.unitsStepsRow.laid) (((OpenSpec.ofChange Rows.unitsStepsSpec).at F).post enc Tryd.prog Tryd.f10 false true false false) := by
  refine returnsInHanded_of_row (C := Tryd.checked) (s := OpenSpec.ofChange Rows.unitsStepsSpec) own started (by kernel_rfl) Tryd.func10
    (witness_row_atRef (enc := enc) (C := Tryd.checked) false (start os) #[Value.int .i64 0, Value.int .i64 0, Value.int .i64 0] rfl (by kernel_rfl) (by kernel_rfl) (by kernel_rfl) (witness os enc)) ?_
  intro W base args ds gs before hval0 hW _ _ _ hL _ _
  have hval : ∀ (j : Nat) t v, Tryd.f10.params[j]? = some t → args[j]? = some v → Value.okWide Tryd.prog W .any base t v := hval0
  have hW' := hW
  obtain ⟨p, q, hA0, hV, rfl, hfz, hnd⟩ := hW
  have hA : DataW.TrodAll enc Tryd.prog W 0 (fun _ => true) true Tryd.f10.params.toList args.toList ds p := hA0
  rw [Tryd.params10] at hA hval
  obtain ⟨v0, vs0, d0, ds0, p0, q0, hargs, rfl, rfl, h0, r0⟩ := trodAll_cons hA
  obtain ⟨v1, vs1, d1, ds1, p1, q1, rfl, rfl, rfl, h1, r1⟩ := trodAll_cons r0
  obtain ⟨v2, vs2, d2, ds2, p2, q2, rfl, rfl, rfl, h2, r2⟩ := trodAll_cons r1
  obtain ⟨rfl, rfl, rfl⟩ := trodAll_nil r2
  obtain rfl : args = #[v0, v1, v2] := by cases args; simp_all
  obtain ⟨rfl, rfl⟩ := trodVars_none hV
  obtain ⟨a0, rfl, rfl, rfl, w0⟩ := open_int Tryd.underlying3 (hval 0 3 v0 rfl rfl) h0
  obtain ⟨a1, rfl, rfl, rfl, w1⟩ := open_int Tryd.underlying3 (hval 1 3 v1 rfl rfl) h1
  obtain ⟨a2, rfl, rfl, rfl, w2⟩ := open_int Tryd.underlying3 (hval 2 3 v2 rfl rfl) h2
  clear hA0 hval0
  refine (steps_walk a0 a1 a2 W (fit_of w0) (fit_of w1) (fit_of w2) (five_laid hL)).mono fun e W' ⟨he, bel⟩ => ?_
  subst he
  exact ⟨_, rfl, _, _, _, [], _, [], hW', trodAll_mk1 (shut_bool Tryd.underlying4 _), (trodAll_cons_mk (shut_int Tryd.underlying3 w0) (trodAll_cons_mk (shut_int Tryd.underlying3 w1) (trodAll_cons_mk (shut_int Tryd.underlying3 w2) trodAll_mk0))), rfl, bel.frame _, fun h => by cases h⟩
theorem said : Rows.unitsStepsRow.holds Tryd.pinned (OpenSpec.ofChange Rows.unitsStepsSpec) :=
  OpenClaim.holds_of_cond 10 Tryd.f10 rfl rfl rfl rfl rfl rfl rfl ⟨rfl, rfl, rfl, rfl, rfl⟩ rfl rfl rfl rfl rfl (by kernel_rfl) Tryd.func10 (by kernel_rfl)
    (of_decide_eq_true (by kernel_rfl)) (by unfold Func.isWrapper; first | (rw [if_pos (by decide +kernel)]; kernel_rfl) | (rw [if_neg (by decide +kernel)]; exact ⟨rfl, rfl⟩))
    (fun os started H enc _ F => by rw [OpenClaim.pre_eq_preRow]; exact lifted os started H enc F)
theorem plain (f : FuncId) (fn : Func) (hf : Tryd.pinned.checked.prog.funcNamed "sawmill/sawmilllaw01.UnitsSteps" = some f) (hfn : Tryd.pinned.checked.prog.funcs[f]? = some fn) :
    true = Tryd.pinned.checked.prog.looks [] ∧ ∀ (j : Nat) t, fn.params[j]? = some t → Tryd.pinned.checked.prog.wantsStandIn t = false := by
  obtain rfl : f = 10 := Option.some.inj ((show Tryd.prog.funcNamed "sawmill/sawmilllaw01.UnitsSteps" = some 10 by kernel_rfl).symm.trans hf) |>.symm
  obtain rfl : fn = Tryd.f10 := (Option.some.inj (Tryd.func10.symm.trans hfn)).symm
  refine ⟨by kernel_rfl, fun j t ht => ?_⟩
  rw [Tryd.params10] at ht
  have hm := Array.mem_of_getElem? ht
  obtain rfl : t = 3 := by simpa using hm
  exact (show Tryd.prog.wantsStandIn 3 = false by kernel_rfl)
theorem proved : Rows.UnitsStepsCardSaid :=
  Claim7.holds_tied_plain_at .later [] _ _ _ _ said (fun _ h => by cases h) (by kernel_rfl) (fun _ h => by cases h) unitsSteps_row_tie rfl ⟨rfl, rfl⟩ (by kernel_rfl) rfl plain (by kernel_rfl)
end unitsSteps

end Go.Proofs.YtedcimjhhcepmaaDoor
