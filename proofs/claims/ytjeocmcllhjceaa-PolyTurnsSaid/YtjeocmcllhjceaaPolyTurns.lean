/- For every list of points and every number of quarters the law PolyTurns returns true: Turn and Mirror return the specified points, asked for at most 100 points; and the examples hold. No condition. -/
import Derived.Test.YtjeocmcllhjceaaArgs
import Derived.Test.YtjeocmcllhjceaaRTurnB
set_option linter.unusedVariables false
set_option linter.unusedSimpArgs false
namespace Go.Proofs.Ytjeocmcllhjceaa
open Go.ChangeShapes Go.WideShapes Go.ChangeAt Go.RowKit Pm

theorem turn_len (l : List P) (q : Int) : (turn l q).length ≤ l.length := by
  unfold turn; split
  · rw [List.length_map]; exact Nat.le_refl _
  · exact Nat.zero_le _
theorem mir_len (l : List P) : (mir l).length ≤ l.length := by
  unfold mir; split
  · simp
  · exact Nat.zero_le _
set_option maxRecDepth 100000 in
set_option maxHeartbeats 1600000 in
theorem turns_walk (w : World) (v u : Value) (hv : ArgP w v) (hu : ArgI w u) : Calls Try.prog 4 #[v, u] w fun e w' => e = .returned (.bool true) ∧ Below w.heap.size w w' := by
  obtain ⟨l, hr, hl, hf⟩ := hv
  obtain ⟨q, rfl, hq⟩ := hu
  have HR := Lib.hid hr
  have HL := Lib.hid hl
  have HF := Lib.hid hf
  have HFQ := Lib.hid hq
  obtain ⟨T, hT⟩ : ∃ e, turn l q = e := ⟨_, rfl⟩
  obtain ⟨M, hM⟩ : ∃ e, mir l = e := ⟨_, rfl⟩
  have HT := Lib.hid hT
  have HM := Lib.hid hM
  have HTL := Lib.hid (show T.length ≤ maxLen by rw [← hT]; have := turn_len l q; omega)
  have HML := Lib.hid (show M.length ≤ maxLen by rw [← hM]; have := mir_len l; omega)
  clear hr hl hf hq hT hM
  obtain ⟨sm, hsm⟩ : ∃ b, decide (l.length ≤ 100) = b := ⟨_, rfl⟩
  have HSM := Lib.hid hsm
  cases sm with
  | true =>
    have H6 := Lib.hid (show l.length ≤ 1000000 by have := of_decide_eq_true hsm; omega)
    clear hsm
    go_enter Try.func4, Try.ntmps4
    go_wp2_with fail
    refine (few_c _ l true _ HR.out HL.out HSM).mono ?_; rintro E w1 ⟨rfl, rfl⟩
    go_wp2_with fail
    refine (Turn_c _ l q T HT _ HR.out H6.out HFQ.out HF.out).mono ?_; rintro E w1 ⟨v1, rfl, hr1, hq1⟩
    have Q1 := Lib.hid hq1
    have R1 := Lib.hid hr1
    clear hq1 hr1
    go_wp2_with fail
    refine (rTurn_c _ l q T HT _ (RdG.q HR.out Q1.out) H6.out HFQ.out HF.out).mono ?_; rintro E w2 ⟨v2, rfl, hr2, hq2⟩
    have Q2 := Lib.hid (Q1.out.trans hq2)
    have S2 := Lib.hid (RdG.q R1.out hq2)
    have R2 := Lib.hid hr2
    clear hq2 hr2
    go_wp2_with fail
    refine (Same_c _ _ T T true (Lib.hid (by simp)) _ S2.out R2.out HTL.out HTL.out).mono ?_; rintro E w3 ⟨rfl, hq3⟩
    have Q3 := Lib.hid (Q2.out.trans hq3)
    clear hq3
    go_wp2_with fail
    refine (Mirror_c _ l M HM _ (RdG.q HR.out Q3.out) H6.out HF).mono ?_; rintro E w4 ⟨v4, rfl, hr4, hq4⟩
    have Q4 := Lib.hid (Q3.out.trans hq4)
    have R4 := Lib.hid hr4
    clear hq4 hr4
    go_wp2_with fail
    refine (rMirror_c _ l M HM _ (RdG.q HR.out Q4.out) H6.out HF).mono ?_; rintro E w5 ⟨v5, rfl, hr5, hq5⟩
    have Q5 := Lib.hid (Q4.out.trans hq5)
    have S5 := Lib.hid (RdG.q R4.out hq5)
    have R5 := Lib.hid hr5
    clear hq5 hr5
    go_wp2_with fail
    refine (Same_c _ _ M M true (Lib.hid (by simp)) _ S5.out R5.out HML.out HML.out).mono ?_; rintro E w6 ⟨rfl, hq6⟩
    have Q6 := Lib.hid (Q5.out.trans hq6)
    clear hq6
    go_wp2_with fail
    refine (awake_c _).mono ?_; rintro E w7 ⟨rfl, hq7⟩
    go_wp2_with fail
    go_ret
    exact ⟨rfl, Q6.out.trans hq7⟩
  | false =>
    clear hsm
    go_enter Try.func4, Try.ntmps4
    go_wp2_with fail
    refine (few_c _ l false _ HR.out HL.out HSM).mono ?_; rintro E w1 ⟨rfl, rfl⟩
    go_wp2_with fail
    refine (awake_c _).mono ?_; rintro E w5 ⟨rfl, hq5⟩
    go_wp2_with fail
    go_ret
    exact ⟨rfl, hq5⟩

namespace polyTurns
theorem own : ownKnob Try.prog.godebug = none := by kernel_rfl
set_option maxRecDepth 100000 in
set_option maxHeartbeats 800000 in
theorem lifted (os : Os) (started : os.Started) (H : Type) (enc : TypeId × Value → H) :
    ReturnsInHanded {} Try.checked os 4 .any (Rows.polyTurnsSpec.pre6 enc Try.prog Try.f4 Rows.polyTurnsRow.domain false) (Rows.polyTurnsSpec.post enc Try.prog Try.f4 false true false false) := by
  refine returnsInHanded_of_change (C := Try.checked) own started (by kernel_rfl) Try.func4
    (ChangeSpec.witness6 (enc := enc) (C := Try.checked) false ⟨#[], #[.slice none 0 0, .int .i64 0], []⟩ 8 (by kernel_rfl) (by kernel_rfl) (by kernel_rfl) (by kernel_rfl)) ?_
  intro W base args ds gs before hval0 hW hcnd _
  have hval : ∀ (j : Nat) t v, Try.f4.params[j]? = some t → args[j]? = some v → Value.okWide Try.prog W .any base t v := hval0
  have hW' := hW
  obtain ⟨p, q, hA0, hV, rfl, hfz, hnd⟩ := hW
  have hA : DataW.TrodAll enc Try.prog W 0 (fun _ => true) true Try.f4.params.toList args.toList ds p := hA0
  rw [Try.params4] at hA hval
  obtain ⟨v0, vs0, d0, ds0, p0, q0, hargs, rfl, rfl, h0, r0⟩ := trodAll_cons hA
  obtain ⟨v1, vs1, d1, ds1, p1, q1, rfl, rfl, rfl, h1, r1⟩ := trodAll_cons r0
  obtain ⟨rfl, rfl, rfl⟩ := trodAll_nil r1
  obtain rfl : args = #[v0, v1] := by cases args; simp_all
  obtain ⟨rfl, rfl⟩ := trodVars_none hV
  have a0 := open_pts (hval 0 22 v0 rfl rfl) h0
  have a1 := open_i64 (hval 1 3 v1 rfl rfl) h1
  clear hA0 hval0
  refine (turns_walk W v0 v1 a0 a1).mono fun e W' ⟨he, bel⟩ => ?_
  subst he
  exact ⟨_, rfl, _, _, _, [], _, [], hW', trodAll_mk1 (shut_bool Try.underlying4 _), (trodAll_cons_mk (stays (by kernel_rfl) (of_decide_eq_true (by kernel_rfl)) h0 bel) (trodAll_cons_mk (stays (by kernel_rfl) (of_decide_eq_true (by kernel_rfl)) h1 bel) trodAll_mk0)), rfl, bel.frame _, fun h => by cases h⟩
theorem over : Rows.polyTurnsRow.holds Try.pinned (OpenSpec.ofChange Rows.polyTurnsSpec) :=
  OpenClaim.holds_of_wide 4 Try.f4 rfl rfl rfl rfl rfl rfl rfl ⟨rfl, rfl, rfl, rfl, rfl⟩ rfl rfl rfl rfl rfl (by kernel_rfl) Try.func4 (by kernel_rfl)
    (of_decide_eq_true (by kernel_rfl)) (by unfold Func.isWrapper; first | (rw [if_pos (by decide +kernel)]; kernel_rfl) | (rw [if_neg (by decide +kernel)]; exact ⟨rfl, rfl⟩))
    (fun os started H enc _ => lifted os started H enc)
theorem proved : Rows.PolyTurnsSaid := over
end polyTurns

end Go.Proofs.Ytjeocmcllhjceaa
