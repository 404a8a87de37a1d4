/- The contracts of Is and Next, of both packages. -/
import Derived.Test.YtdebkicmoocnmaaCode
set_option linter.unusedVariables false
set_option linter.unusedSimpArgs false
namespace Go.Proofs.Ytdebkicmoocnmaa
open Go.ChangeShapes Go.WideShapes Go.ChangeAt Go.RowKit Idm

/-- what Is answers -/
def isB (s : ByteArray) (kind : Int) : Bool := (spE s == 0) && (spK s == kind)
set_option maxHeartbeats 400000 in
theorem Is_c (s : ByteArray) (kind : Int) (w : World) (hs : s.size ≤ maxLen) : Calls Try.prog 20 #[.string s, .int .u8 kind] w fun e w' => e = .returned (.bool (isB s kind)) ∧ Q w w' := by
  have HS := Lib.hid hs; clear hs
  cases h1 : (spE s == 0) with
  | false =>
    have HB := Lib.hid (show isB s kind = false by unfold isB; rw [h1]; rfl)
    go_enter Try.func20, Try.ntmps20
    go_wp2_with fail
    refine (Split_c s w HS.out).mono ?_
    rintro e w' ⟨rfl, hq⟩
    go_wp2_with fail
    go_ret
    exact ⟨ret_bool HB.out.symm, hq⟩
  | true =>
    have HB := Lib.hid (show isB s kind = (spK s == kind) by unfold isB; rw [h1]; rfl)
    go_enter Try.func20, Try.ntmps20
    go_wp2_with fail
    refine (Split_c s w HS.out).mono ?_
    rintro e w' ⟨rfl, hq⟩
    go_wp2_with fail
    go_ret
    exact ⟨ret_bool HB.out.symm, hq⟩
set_option maxHeartbeats 400000 in
theorem rIs_c (s : ByteArray) (kind : Int) (w : World) (hs : s.size ≤ maxLen) : Calls Try.prog 21 #[.string s, .int .u8 kind] w fun e w' => e = .returned (.bool (isB s kind)) ∧ Q w w' := by
  have HS := Lib.hid hs; clear hs
  cases h1 : (spE s == 0) with
  | false =>
    have HB := Lib.hid (show isB s kind = false by unfold isB; rw [h1]; rfl)
    go_enter Try.func21, Try.ntmps21
    go_wp2_with fail
    refine (rSplit_c s w HS.out).mono ?_
    rintro e w' ⟨rfl, hq⟩
    go_wp2_with fail
    go_ret
    exact ⟨ret_bool HB.out.symm, hq⟩
  | true =>
    have HB := Lib.hid (show isB s kind = (spK s == kind) by unfold isB; rw [h1]; rfl)
    go_enter Try.func21, Try.ntmps21
    go_wp2_with fail
    refine (rSplit_c s w HS.out).mono ?_
    rintro e w' ⟨rfl, hq⟩
    go_wp2_with fail
    go_ret
    exact ⟨ret_bool HB.out.symm, hq⟩
/-- what Next answers -/
def nxE (s : ByteArray) : Int := if spE s = 0 then cE (spK s) (spN s + 1) else spE s
def nxS (s : ByteArray) : ByteArray := if spE s = 0 then cS (spK s) (spN s + 1) else ⟨#[]⟩
theorem spN_bd (s : ByteArray) : 0 ≤ spN s ∧ spN s ≤ 999999 := by
  unfold spN
  by_cases h : spE s = 0
  · rw [if_pos h]
    obtain ⟨_, _, hd, _⟩ := spE_inv h
    exact nu_lt (Nat.le_refl 6) (fun i hi => dgN_at hd i hi)
  · rw [if_neg h]; omega
set_option maxHeartbeats 400000 in
theorem Next_c (s : ByteArray) (w : World) (hs : s.size ≤ maxLen) : Calls Try.prog 22 #[.string s] w fun e w' => e = .returned (.tuple #[.string (nxS s), .int .i64 (nxE s)]) ∧ Q w w' := by
  have HS := Lib.hid hs; clear hs
  have hb := spN_bd s
  by_cases h1 : spE s = 0
  · have h2 : (spE s != 0) = false := by rw [h1]; rfl
    have HB := Lib.hid (show nxS s = cS (spK s) (spN s + 1) ∧ nxE s = cE (spK s) (spN s + 1) by unfold nxS nxE; rw [if_pos h1, if_pos h1]; exact ⟨rfl, rfl⟩)
    clear h1
    go_enter Try.func22, Try.ntmps22
    go_wp2_with fail
    refine (Split_c s w HS.out).mono ?_
    rintro e w1 ⟨rfl, hq⟩
    go_wp2_with fail
    refine (Code_c _ _ _).mono ?_
    rintro e w2 ⟨rfl, hq2⟩
    go_wp2_with fail
    go_ret2
    exact ⟨ret2s HB.out.1.symm HB.out.2.symm, hq.trans hq2⟩
  · have h2 : (spE s != 0) = true := by rw [bne_iff_ne]; exact h1
    have HB := Lib.hid (show nxS s = ⟨#[]⟩ ∧ nxE s = spE s by unfold nxS nxE; rw [if_neg h1, if_neg h1]; exact ⟨rfl, rfl⟩)
    clear h1
    go_enter Try.func22, Try.ntmps22
    go_wp2_with fail
    refine (Split_c s w HS.out).mono ?_
    rintro e w1 ⟨rfl, hq⟩
    go_wp2_with fail
    go_ret2
    exact ⟨ret2s HB.out.1.symm HB.out.2.symm, hq⟩
set_option maxHeartbeats 400000 in
theorem rNext_c (s : ByteArray) (w : World) (hs : s.size ≤ maxLen) : Calls Try.prog 23 #[.string s] w fun e w' => e = .returned (.tuple #[.string (nxS s), .int .i64 (nxE s)]) ∧ Q w w' := by
  have HS := Lib.hid hs; clear hs
  have hb := spN_bd s
  by_cases h1 : spE s = 0
  · have h2 : (spE s != 0) = false := by rw [h1]; rfl
    have HB := Lib.hid (show nxS s = cS (spK s) (spN s + 1) ∧ nxE s = cE (spK s) (spN s + 1) by unfold nxS nxE; rw [if_pos h1, if_pos h1]; exact ⟨rfl, rfl⟩)
    clear h1
    go_enter Try.func23, Try.ntmps23
    go_wp2_with fail
    refine (rSplit_c s w HS.out).mono ?_
    rintro e w1 ⟨rfl, hq⟩
    go_wp2_with fail
    refine (rCode_c _ _ _).mono ?_
    rintro e w2 ⟨rfl, hq2⟩
    go_wp2_with fail
    go_ret2
    exact ⟨ret2s HB.out.1.symm HB.out.2.symm, hq.trans hq2⟩
  · have h2 : (spE s != 0) = true := by rw [bne_iff_ne]; exact h1
    have HB := Lib.hid (show nxS s = ⟨#[]⟩ ∧ nxE s = spE s by unfold nxS nxE; rw [if_neg h1, if_neg h1]; exact ⟨rfl, rfl⟩)
    clear h1
    go_enter Try.func23, Try.ntmps23
    go_wp2_with fail
    refine (rSplit_c s w HS.out).mono ?_
    rintro e w1 ⟨rfl, hq⟩
    go_wp2_with fail
    go_ret2
    exact ⟨ret2s HB.out.1.symm HB.out.2.symm, hq⟩
end Go.Proofs.Ytdebkicmoocnmaa
