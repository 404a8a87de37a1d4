/- For every kind, number and string the law IdentBack returns true: Split gives back what Code was given, and what Split accepts is the Code of its results (asked for strings of at most 2000 bytes). No condition. -/
import Derived.Test.YtdebkicmoocnmaaAwake
import Derived.Test.YtdebkicmoocnmaaMathB
import Derived.OpenShut
import Derived.ShutString
set_option linter.unusedVariables false
set_option linter.unusedSimpArgs false
namespace Go.Proofs.Ytdebkicmoocnmaa
open Go.ChangeShapes Go.WideShapes Go.ChangeAt Go.RowKit Idm

theorem maxLen_of {s : ByteArray} (h : s.size ≤ 2000) : s.size ≤ maxLen := by unfold maxLen; omega
theorem cS_split {k n : Int} (h : cE k n = 0) : spE (cS k n) = 0 ∧ spK (cS k n) = k ∧ spN (cS k n) = n ∧ (cS k n).size = 8 ∧ isB (cS k n) k = true := by
  obtain ⟨hk, h0, h1⟩ := c_inv h
  rw [(c_yes hk h0 h1).2]
  have e := code_split hk h0 h1
  refine ⟨e.1, e.2.1, e.2.2, code_size _ _, ?_⟩
  unfold isB; rw [e.1, e.2.1]; simp
theorem Split_code (k n : Int) (h : Hid (cE k n = 0)) (w : World) : Calls Try.prog 18 #[.string (cS k n)] w fun e w' => e = .returned (.tuple #[.int .u8 k, .int .i64 n, .int .i64 0]) ∧ Q w w' := by
  have c := cS_split h.out
  refine (Split_c (cS k n) w (maxLen_of (by omega))).mono fun e w' ⟨a, b⟩ => ⟨?_, b⟩
  rw [a, c.1, c.2.1, c.2.2.1]
theorem Is_code (k n : Int) (h : Hid (cE k n = 0)) (w : World) : Calls Try.prog 20 #[.string (cS k n), .int .u8 k] w fun e w' => e = .returned (.bool true) ∧ Q w w' := by
  have c := cS_split h.out
  refine (Is_c (cS k n) k w (maxLen_of (by omega))).mono fun e w' ⟨a, b⟩ => ⟨?_, b⟩
  rw [a, c.2.2.2.2]
theorem Split_no (s : ByteArray) (h : Hid (¬ spE s = 0)) (hs : s.size ≤ 2000) (w : World) : Calls Try.prog 18 #[.string s] w fun e w' => e = .returned (.tuple #[.int .u8 0, .int .i64 0, .int .i64 (spE s)]) ∧ Q w w' := by
  refine (Split_c s w (maxLen_of hs)).mono fun e w' ⟨a, b⟩ => ⟨?_, b⟩
  rw [a]; unfold spK spN; rw [if_neg h.out, if_neg h.out]
theorem Is_no (s : ByteArray) (k : Int) (h : Hid (¬ spE s = 0)) (hs : s.size ≤ 2000) (w : World) : Calls Try.prog 20 #[.string s, .int .u8 k] w fun e w' => e = .returned (.bool false) ∧ Q w w' := by
  refine (Is_c s k w (maxLen_of hs)).mono fun e w' ⟨a, b⟩ => ⟨?_, b⟩
  rw [a]; unfold isB; rw [show (spE s == 0) = false by simpa using h.out]; rfl
theorem Split_yes (s : ByteArray) (h : Hid (spE s = 0)) (hs : s.size ≤ 2000) (w : World) : Calls Try.prog 18 #[.string s] w fun e w' => e = .returned (.tuple #[.int .u8 (spK s), .int .i64 (spN s), .int .i64 0]) ∧ Q w w' := by
  refine (Split_c s w (maxLen_of hs)).mono fun e w' ⟨a, b⟩ => ⟨?_, b⟩
  rw [a, h.out]
theorem Is_yes (s : ByteArray) (h : Hid (spE s = 0)) (hs : s.size ≤ 2000) (w : World) : Calls Try.prog 20 #[.string s, .int .u8 (spK s)] w fun e w' => e = .returned (.bool true) ∧ Q w w' := by
  refine (Is_c s _ w (maxLen_of hs)).mono fun e w' ⟨a, b⟩ => ⟨?_, b⟩
  rw [a]; unfold isB; rw [h.out]; simp
theorem Code_back (s : ByteArray) (h : Hid (spE s = 0)) (w : World) : Calls Try.prog 16 #[.int .u8 (spK s), .int .i64 (spN s)] w fun e w' => e = .returned (.tuple #[.string s, .int .i64 0]) ∧ Q w w' := by
  have c := code_back h.out
  refine (Code_c _ _ w).mono fun e w' ⟨a, b⟩ => ⟨?_, b⟩
  rw [a, c.1, c.2.1]

set_option maxRecDepth 100000 in
set_option maxHeartbeats 800000 in
theorem back_walk (k n : Int) (s : ByteArray) (w : World) (_ : (Lit.int .u8 k).wf = true) (_ : (Lit.int .i64 n).wf = true) (_hs : s.size ≤ maxLen) :
    Calls Try.prog 8 #[.int .u8 k, .int .i64 n, .string s] w fun e w' => e = .returned (.bool true) ∧ Below w.heap.size w w' := by
  clear _hs
  by_cases h : 2000 < s.size
  · go_enter Try.func8, Try.ntmps8
    go_wp2_with fail
    refine (awake_c _).mono ?_; rintro e w1 ⟨rfl, hq1⟩
    go_wp2_with fail
    go_ret
    exact ⟨rfl, hq1⟩
  · have h2 : s.size ≤ 2000 := by omega
    by_cases hE : cE k n = 0
    · have HE := Lib.hid hE
      have h3 : (cE k n == 0) = true := by simp [hE]
      have hsz : (cS k n).size = 8 := (cS_split hE).2.2.2.1
      have hkk : (k != k) = false := by simp
      have hnn : (n != n) = false := by simp
      clear hE
      by_cases hF : spE s = 0
      · have HF := Lib.hid hF; clear hF
        have h5 : (s.toList == s.toList) = true := by simp
        go_enter Try.func8, Try.ntmps8
        go_wp2_with fail
        refine (Code_c k n _).mono ?_; rintro e w1 ⟨rfl, hq1⟩
        go_wp2_with fail
        refine (Split_code k n HE _).mono ?_; rintro e w2 ⟨rfl, hq2⟩
        go_wp2_with fail
        refine (Is_code k n HE _).mono ?_; rintro e w3 ⟨rfl, hq3⟩
        go_wp2_with fail
        refine (Split_yes s HF h2 _).mono ?_; rintro e w4 ⟨rfl, hq4⟩
        go_wp2_with fail
        refine (Code_back s HF _).mono ?_; rintro e w5 ⟨rfl, hq5⟩
        go_wp2_with fail
        refine (Is_yes s HF h2 _).mono ?_; rintro e w6 ⟨rfl, hq6⟩
        go_wp2_with fail
        refine (awake_c _).mono ?_; rintro e w7 ⟨rfl, hq7⟩
        go_wp2_with fail
        go_ret
        exact ⟨rfl, (((((hq1.trans hq2).trans hq3).trans hq4).trans hq5).trans hq6).trans hq7⟩
      · have HF := Lib.hid hF
        have h5 : (spE s != 0) = true := by rw [bne_iff_ne]; exact hF
        clear hF
        go_enter Try.func8, Try.ntmps8
        go_wp2_with fail
        refine (Code_c k n _).mono ?_; rintro e w1 ⟨rfl, hq1⟩
        go_wp2_with fail
        refine (Split_code k n HE _).mono ?_; rintro e w2 ⟨rfl, hq2⟩
        go_wp2_with fail
        refine (Is_code k n HE _).mono ?_; rintro e w3 ⟨rfl, hq3⟩
        go_wp2_with fail
        refine (Split_no s HF h2 _).mono ?_; rintro e w4 ⟨rfl, hq4⟩
        go_wp2_with fail
        refine (Is_no s k HF h2 _).mono ?_; rintro e w6 ⟨rfl, hq6⟩
        go_wp2_with fail
        refine (awake_c _).mono ?_; rintro e w7 ⟨rfl, hq7⟩
        go_wp2_with fail
        go_ret
        exact ⟨rfl, ((((hq1.trans hq2).trans hq3).trans hq4).trans hq6).trans hq7⟩
    · have h3 : (cE k n == 0) = false := by simpa using hE
      clear hE
      by_cases hF : spE s = 0
      · have HF := Lib.hid hF; clear hF
        have h5 : (s.toList == s.toList) = true := by simp
        go_enter Try.func8, Try.ntmps8
        go_wp2_with fail
        refine (Code_c k n _).mono ?_; rintro e w1 ⟨rfl, hq1⟩
        go_wp2_with fail
        refine (Split_yes s HF h2 _).mono ?_; rintro e w4 ⟨rfl, hq4⟩
        go_wp2_with fail
        refine (Code_back s HF _).mono ?_; rintro e w5 ⟨rfl, hq5⟩
        go_wp2_with fail
        refine (Is_yes s HF h2 _).mono ?_; rintro e w6 ⟨rfl, hq6⟩
        go_wp2_with fail
        refine (awake_c _).mono ?_; rintro e w7 ⟨rfl, hq7⟩
        go_wp2_with fail
        go_ret
        exact ⟨rfl, (((hq1.trans hq4).trans hq5).trans hq6).trans hq7⟩
      · have HF := Lib.hid hF
        have h5 : (spE s != 0) = true := by rw [bne_iff_ne]; exact hF
        clear hF
        go_enter Try.func8, Try.ntmps8
        go_wp2_with fail
        refine (Code_c k n _).mono ?_; rintro e w1 ⟨rfl, hq1⟩
        go_wp2_with fail
        refine (Split_no s HF h2 _).mono ?_; rintro e w4 ⟨rfl, hq4⟩
        go_wp2_with fail
        refine (Is_no s k HF h2 _).mono ?_; rintro e w6 ⟨rfl, hq6⟩
        go_wp2_with fail
        refine (awake_c _).mono ?_; rintro e w7 ⟨rfl, hq7⟩
        go_wp2_with fail
        go_ret
        exact ⟨rfl, ((hq1.trans hq4).trans hq6).trans hq7⟩

open Go.ChangeMaps (open_string shut_string)
namespace identBack
theorem own : ownKnob Try.prog.godebug = none := by kernel_rfl
set_option maxRecDepth 100000 in
theorem lifted (os : Os) (started : os.Started) (H : Type) (enc : TypeId × Value → H) :
    ReturnsInHanded {} Try.checked os 8 .any (Rows.identBackSpec.pre6 enc Try.prog Try.f8 Rows.identBackRow.domain false) (Rows.identBackSpec.post enc Try.prog Try.f8 false true false false) := by
  refine returnsInHanded_of_change (C := Try.checked) own started (by kernel_rfl) Try.func8
    (ChangeSpec.witness6 (enc := enc) (C := Try.checked) false ⟨#[], #[.int .u8 0, .int .i64 0, .string ByteArray.empty], []⟩ 8 (by kernel_rfl) (by kernel_rfl) (by kernel_rfl) (by kernel_rfl)) ?_
  intro W base args ds gs before hval0 hW hcnd _
  have hval : ∀ (j : Nat) t v, Try.f8.params[j]? = some t → args[j]? = some v → Value.okWide Try.prog W .any base t v := hval0
  have hW' := hW
  obtain ⟨p, q, hA0, hV, rfl, hfz, hnd⟩ := hW
  have hA : DataW.TrodAll enc Try.prog W 0 (fun _ => true) true Try.f8.params.toList args.toList ds p := hA0
  rw [Try.params8] at hA hval
  obtain ⟨v0, vs0, d0, ds0, p0, q0, hargs, rfl, rfl, h0, r0⟩ := trodAll_cons hA
  obtain ⟨v1, vs1, d1, ds1, p1, q1, rfl, rfl, rfl, h1, r1⟩ := trodAll_cons r0
  obtain ⟨v2, vs2, d2, ds2, p2, q2, rfl, rfl, rfl, h2, r2⟩ := trodAll_cons r1
  obtain ⟨rfl, rfl, rfl⟩ := trodAll_nil r2
  obtain rfl : args = #[v0, v1, v2] := by cases args; simp_all
  obtain ⟨rfl, rfl⟩ := trodVars_none hV
  obtain ⟨a0, rfl, rfl, rfl, w0⟩ := open_int Try.underlying5 (hval 0 5 v0 rfl rfl) h0
  obtain ⟨a1, rfl, rfl, rfl, w1⟩ := open_int Try.underlying3 (hval 1 3 v1 rfl rfl) h1
  obtain ⟨a2, rfl, rfl, rfl, w2⟩ := open_string Try.underlying9 (hval 2 9 v2 rfl rfl) h2
  clear hA0 hval0
  refine (back_walk a0 a1 a2 W w0 w1 w2).mono fun e W' ⟨he, bel⟩ => ?_
  subst he
  exact ⟨_, rfl, _, _, _, [], _, [], hW', trodAll_mk1 (shut_bool Try.underlying4 _), (trodAll_cons_mk (shut_int Try.underlying5 w0) (trodAll_cons_mk (shut_int Try.underlying3 w1) (trodAll_cons_mk (shut_string Try.underlying9 w2) trodAll_mk0))), rfl, bel.frame _, fun h => by cases h⟩
theorem over : Rows.identBackRow.holds Try.pinned (OpenSpec.ofChange Rows.identBackSpec) :=
  OpenClaim.holds_of_wide 8 Try.f8 rfl rfl rfl rfl rfl rfl rfl ⟨rfl, rfl, rfl, rfl, rfl⟩ rfl rfl rfl rfl rfl (by kernel_rfl) Try.func8 (by kernel_rfl)
    (of_decide_eq_true (by kernel_rfl)) (by unfold Func.isWrapper; first | (rw [if_pos (by decide +kernel)]; kernel_rfl) | (rw [if_neg (by decide +kernel)]; exact ⟨rfl, rfl⟩))
    (fun os started H enc _ => lifted os started H enc)
theorem proved : Rows.IdentBackSaid := over
end identBack

end Go.Proofs.Ytdebkicmoocnmaa
