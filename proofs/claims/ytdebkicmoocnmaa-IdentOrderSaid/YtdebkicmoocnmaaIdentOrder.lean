/- For every kind and any two numbers the law IdentOrder returns true: codes of a kind are ordered as their numbers are, and Next goes to the next number. No condition. -/
import Derived.Test.YtdebkicmoocnmaaIdentBack
set_option linter.unusedVariables false
set_option linter.unusedSimpArgs false
namespace Go.Proofs.Ytdebkicmoocnmaa
open Go.ChangeShapes Go.WideShapes Go.ChangeAt Go.RowKit Idm

theorem Code_no (k n : Int) (w : World) : Calls Try.prog 16 #[.int .u8 k, .int .i64 n] w fun e w' => e = .returned (.tuple #[.string (cS k n), .int .i64 (cE k n)]) ∧ Q w w' := Code_c k n w
theorem Code_is (k n : Int) (h : Hid (cpB k = true ∧ 0 ≤ n ∧ n ≤ 999999)) (w : World) : Calls Try.prog 16 #[.int .u8 k, .int .i64 n] w fun e w' => e = .returned (.tuple #[.string (codeS k n), .int .i64 0]) ∧ Q w w' := by
  obtain ⟨hk, h0, h1⟩ := h.out
  have c := c_yes (n := n) hk h0 h1
  exact (Code_c k n w).mono fun e w' ⟨a, b⟩ => ⟨by rw [a, c.1, c.2], b⟩
theorem Next_is (k n : Int) (h : Hid (cpB k = true ∧ 0 ≤ n ∧ n ≤ 999998)) (w : World) : Calls Try.prog 22 #[.string (codeS k n)] w fun e w' => e = .returned (.tuple #[.string (codeS k (n + 1)), .int .i64 0]) ∧ Q w w' := by
  obtain ⟨hk, h0, h1⟩ := h.out
  have e := code_split hk h0 (by omega : n ≤ 999999)
  have c := c_yes (n := n + 1) hk (by omega) (by omega)
  refine (Next_c (codeS k n) w (maxLen_of (by rw [code_size]; omega))).mono fun _ w' ⟨a, b⟩ => ⟨?_, b⟩
  rw [a]; unfold nxS nxE; rw [if_pos e.1, if_pos e.1, e.2.1, e.2.2, c.1, c.2]
theorem Next_end (k : Int) (h : Hid (cpB k = true)) (w : World) : Calls Try.prog 22 #[.string (codeS k 999999)] w fun e w' => e = .returned (.tuple #[.string ⟨#[]⟩, .int .i64 9]) ∧ Q w w' := by
  have hk := h.out
  have e := code_split (n := 999999) hk (by omega) (by omega)
  have c := c_rng (n := 999999 + 1) hk (by omega)
  refine (Next_c (codeS k 999999) w (maxLen_of (by rw [code_size]; omega))).mono fun _ w' ⟨a, b⟩ => ⟨?_, b⟩
  rw [a]; unfold nxS nxE; rw [if_pos e.1, if_pos e.1, e.2.1, e.2.2, c.1, c.2]

set_option maxRecDepth 100000 in
set_option maxHeartbeats 800000 in
theorem order_walk (k n m : Int) (w : World) (_ : (Lit.int .u8 k).wf = true) (_ : (Lit.int .i64 n).wf = true) (_ : (Lit.int .i64 m).wf = true) :
    Calls Try.prog 10 #[.int .u8 k, .int .i64 n, .int .i64 m] w fun e w' => e = .returned (.bool true) ∧ Below w.heap.size w w' := by
  by_cases hE : cE k n = 0
  · by_cases hF : cE k m = 0
    · obtain ⟨hk, h0, h1⟩ := c_inv hE
      obtain ⟨_, g0, g1⟩ := c_inv hF
      clear hE hF
      have HN := Lib.hid (show cpB k = true ∧ 0 ≤ n ∧ n ≤ 999999 from ⟨hk, h0, h1⟩)
      have HM := Lib.hid (show cpB k = true ∧ 0 ≤ m ∧ m ≤ 999999 from ⟨hk, g0, g1⟩)
      have hless := code_less hk h0 h1 g0 g1
      by_cases hl : n = 999999
      · subst hl
        have HK := Lib.hid hk; clear hk
        go_enter Try.func10, Try.ntmps10
        go_wp2_with fail
        refine (Code_is k 999999 HN _).mono ?_; rintro e w1 ⟨rfl, hq1⟩
        go_wp2_with fail
        refine (Code_is k m HM _).mono ?_; rintro e w2 ⟨rfl, hq2⟩
        go_wp2_with fail
        refine (Next_end k HK _).mono ?_; rintro e w3 ⟨rfl, hq3⟩
        go_wp2_with fail
        refine (awake_c _).mono ?_; rintro e w7 ⟨rfl, hq7⟩
        go_wp2_with fail
        go_ret
        exact ⟨rfl, ((hq1.trans hq2).trans hq3).trans hq7⟩
      · have HL := Lib.hid (show cpB k = true ∧ 0 ≤ n ∧ n ≤ 999998 from ⟨hk, h0, by omega⟩)
        have HP := Lib.hid (show cpB k = true ∧ 0 ≤ n + 1 ∧ n + 1 ≤ 999999 from ⟨hk, by omega, by omega⟩)
        have heq : ((codeS k n).toList == (codeS k m).toList) = (n == m) := by
          rw [Bool.eq_iff_iff, beq_iff_eq, beq_iff_eq]
          constructor
          · intro h; rw [Lib.toList_data, Lib.toList_data] at h; exact code_inj hk h0 h1 g0 g1 (ByteArray.ext (Array.toList_inj.1 h))
          · rintro rfl; rfl
        have hl2 : (n == 999999) = false := by simpa using hl
        clear hk hl
        go_enter Try.func10, Try.ntmps10
        go_wp2_with fail
        refine (Code_is k n HN _).mono ?_; rintro e w1 ⟨rfl, hq1⟩
        go_wp2_with fail
        refine (Code_is k m HM _).mono ?_; rintro e w2 ⟨rfl, hq2⟩
        go_wp2_with fail
        refine (Next_is k n HL _).mono ?_; rintro e w3 ⟨rfl, hq3⟩
        go_wp2_with fail
        refine (Code_is k (n + 1) HP _).mono ?_; rintro e w4 ⟨rfl, hq4⟩
        go_wp2_with fail
        refine (awake_c _).mono ?_; rintro e w7 ⟨rfl, hq7⟩
        go_wp2_with fail
        go_ret
        exact ⟨rfl, (((hq1.trans hq2).trans hq3).trans hq4).trans hq7⟩
    · have h4 : (cE k m != 0) = true := by rw [bne_iff_ne]; exact hF
      have h3 : (cE k n != 0) = false := by simp [hE]
      clear hE hF
      go_enter Try.func10, Try.ntmps10
      go_wp2_with fail
      refine (Code_no k n _).mono ?_; rintro e w1 ⟨rfl, hq1⟩
      go_wp2_with fail
      refine (Code_no k m _).mono ?_; rintro e w2 ⟨rfl, hq2⟩
      go_wp2_with fail
      refine (awake_c _).mono ?_; rintro e w3 ⟨rfl, hq3⟩
      go_wp2_with fail
      go_ret
      exact ⟨rfl, (hq1.trans hq2).trans hq3⟩
  · have h3 : (cE k n != 0) = true := by rw [bne_iff_ne]; exact hE
    clear hE
    go_enter Try.func10, Try.ntmps10
    go_wp2_with fail
    refine (Code_no k n _).mono ?_; rintro e w1 ⟨rfl, hq1⟩
    go_wp2_with fail
    refine (Code_no k m _).mono ?_; rintro e w2 ⟨rfl, hq2⟩
    go_wp2_with fail
    refine (awake_c _).mono ?_; rintro e w3 ⟨rfl, hq3⟩
    go_wp2_with fail
    go_ret
    exact ⟨rfl, (hq1.trans hq2).trans hq3⟩

open Go.ChangeMaps (open_string shut_string)
namespace identOrder
theorem own : ownKnob Try.prog.godebug = none := by kernel_rfl
set_option maxRecDepth 100000 in
theorem lifted (os : Os) (started : os.Started) (H : Type) (enc : TypeId × Value → H) :
    ReturnsInHanded {} Try.checked os 10 .any (Rows.identOrderSpec.pre6 enc Try.prog Try.f10 Rows.identOrderRow.domain false) (Rows.identOrderSpec.post enc Try.prog Try.f10 false true false false) := by
  refine returnsInHanded_of_change (C := Try.checked) own started (by kernel_rfl) Try.func10
    (ChangeSpec.witness6 (enc := enc) (C := Try.checked) false ⟨#[], #[.int .u8 0, .int .i64 0, .int .i64 0], []⟩ 8 (by kernel_rfl) (by kernel_rfl) (by kernel_rfl) (by kernel_rfl)) ?_
  intro W base args ds gs before hval0 hW hcnd _
  have hval : ∀ (j : Nat) t v, Try.f10.params[j]? = some t → args[j]? = some v → Value.okWide Try.prog W .any base t v := hval0
  have hW' := hW
  obtain ⟨p, q, hA0, hV, rfl, hfz, hnd⟩ := hW
  have hA : DataW.TrodAll enc Try.prog W 0 (fun _ => true) true Try.f10.params.toList args.toList ds p := hA0
  rw [Try.params10] at hA hval
  obtain ⟨v0, vs0, d0, ds0, p0, q0, hargs, rfl, rfl, h0, r0⟩ := trodAll_cons hA
  obtain ⟨v1, vs1, d1, ds1, p1, q1, rfl, rfl, rfl, h1, r1⟩ := trodAll_cons r0
  obtain ⟨v2, vs2, d2, ds2, p2, q2, rfl, rfl, rfl, h2, r2⟩ := trodAll_cons r1
  obtain ⟨rfl, rfl, rfl⟩ := trodAll_nil r2
  obtain rfl : args = #[v0, v1, v2] := by cases args; simp_all
  obtain ⟨rfl, rfl⟩ := trodVars_none hV
  obtain ⟨a0, rfl, rfl, rfl, w0⟩ := open_int Try.underlying5 (hval 0 5 v0 rfl rfl) h0
  obtain ⟨a1, rfl, rfl, rfl, w1⟩ := open_int Try.underlying3 (hval 1 3 v1 rfl rfl) h1
  obtain ⟨a2, rfl, rfl, rfl, w2⟩ := open_int Try.underlying3 (hval 2 3 v2 rfl rfl) h2
  clear hA0 hval0
  refine (order_walk a0 a1 a2 W w0 w1 w2).mono fun e W' ⟨he, bel⟩ => ?_
  subst he
  exact ⟨_, rfl, _, _, _, [], _, [], hW', trodAll_mk1 (shut_bool Try.underlying4 _), (trodAll_cons_mk (shut_int Try.underlying5 w0) (trodAll_cons_mk (shut_int Try.underlying3 w1) (trodAll_cons_mk (shut_int Try.underlying3 w2) trodAll_mk0))), rfl, bel.frame _, fun h => by cases h⟩
theorem over : Rows.identOrderRow.holds Try.pinned (OpenSpec.ofChange Rows.identOrderSpec) :=
  OpenClaim.holds_of_wide 10 Try.f10 rfl rfl rfl rfl rfl rfl rfl ⟨rfl, rfl, rfl, rfl, rfl⟩ rfl rfl rfl rfl rfl (by kernel_rfl) Try.func10 (by kernel_rfl)
    (of_decide_eq_true (by kernel_rfl)) (by unfold Func.isWrapper; first | (rw [if_pos (by decide +kernel)]; kernel_rfl) | (rw [if_neg (by decide +kernel)]; exact ⟨rfl, rfl⟩))
    (fun os started H enc _ => lifted os started H enc)
theorem proved : Rows.IdentOrderSaid := over
end identOrder

end Go.Proofs.Ytdebkicmoocnmaa
