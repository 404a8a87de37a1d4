/- The contracts of Hex, Seal, Open and their references. -/
import Derived.Test.YtiffnnjegfghoaaChain
import Derived.StillTailTactics
set_option linter.unusedVariables false
set_option linter.unusedSimpArgs false
namespace Go.Proofs.Ytiffnnjegfghoaa
open Go.ChangeShapes Go.WideShapes Go.ChangeAt Go.RowKit Cm

theorem Hex_c (n : Nat) (w : World) (hn : n < 18446744073709551616) : Calls Try.prog 21 #[.int .u64 n] w fun e w' => e = .returned (.string (bs (hexL n 16))) ∧ Q w w' := by
  have h := last_c n 16 w hn (by omega)
  have HH := Lib.hid h
  clear hn h
  go_enter Try.func21, Try.ntmps21
  go_wp2_with fail
  refine HH.out.mono ?_; rintro e w1 ⟨rfl, hq1⟩
  go_wp2_with fail
  go_ret
  exact ⟨rfl, hq1⟩
theorem rHex_c (n : Nat) (w : World) (hn : n < 18446744073709551616) : Calls Try.prog 22 #[.int .u64 n] w fun e w' => e = .returned (.string (bs (hexL n 16))) ∧ Q w w' := by
  have h := digits_c n 16 w hn (by omega) (by omega)
  have HH := Lib.hid h
  clear hn h
  go_enter Try.func22, Try.ntmps22
  go_wp2_with fail
  refine HH.out.mono ?_; rintro e w1 ⟨rfl, hq1⟩
  go_wp2_with fail
  go_ret
  exact ⟨rfl, hq1⟩
/-- the check of a string -/
def ckL (s : ByteArray) : List UInt8 := hexL (crcS (bt s) s.size) 8
theorem ckL_len (s : ByteArray) : (ckL s).length = 8 := hexL_len _ _
theorem seal_c (s : ByteArray) (w : World) (hs : s.size ≤ 1100) : Calls Try.prog 32 #[.string s] w fun e w' => e = .returned (.string (bs (ckL s))) ∧ Q w w' := by
  have HS := Lib.hid hs
  obtain ⟨r, hr⟩ : ∃ r, crcS (bt s) s.size = r := ⟨_, rfl⟩
  have hrb : r < 4294967296 := by rw [← hr]; exact crcS_lt (bt_bd s) _
  have hrb2 : (r : Int) ≤ 4294967295 := by omega
  have h := fun w => last_c r 8 w (by omega) (by omega)
  have HH := Lib.hid h
  have HC : Hid (∀ w, Calls Try.prog 12 #[.string s] w fun e w' => e = .returned (.int .u32 (r : Nat)) ∧ w = w') := by
    intro w; rw [← hr]; exact Crc_c s w (by unfold maxLen; omega)
  have HR := Lib.hid (show bs (hexL r 8) = bs (ckL s) by unfold ckL; rw [hr])
  clear hs h hr hrb
  go_enter Try.func32, Try.ntmps32
  go_wp2_with fail
  refine (HC.out _).mono ?_; rintro e w1 ⟨rfl, rfl⟩
  go_wp2_with fail
  refine (HH.out _).mono ?_; rintro e w1 ⟨rfl, hq1⟩
  rw [HR.out]
  go_wp2_with fail
  go_ret
  exact ⟨rfl, hq1⟩
theorem Seal_c (s : ByteArray) (w : World) (hs : s.size ≤ 1100) : Calls Try.prog 25 #[.string s] w fun e w' => e = .returned (.string (s ++ bs (ckL s))) ∧ Q w w' := by
  have h1 : (bs (ckL s)).size ≤ 8 := by rw [size_bs, ckL_len]; omega
  go_enter Try.func25, Try.ntmps25
  go_wp2_with fail
  refine (seal_c s _ hs).mono ?_; rintro e w1 ⟨rfl, hq1⟩
  go_wp2_with fail
  go_ret
  exact ⟨rfl, hq1⟩
theorem rSeal_c (s : ByteArray) (w : World) (hs : s.size ≤ 1100) : Calls Try.prog 26 #[.string s] w fun e w' => e = .returned (.string (s ++ bs (ckL s))) ∧ Q w w' := by
  have HS := Lib.hid hs
  obtain ⟨r, hr⟩ : ∃ r, crcS (bt s) s.size = r := ⟨_, rfl⟩
  have hrb : r < 4294967296 := by rw [← hr]; exact crcS_lt (bt_bd s) _
  have hrb2 : (r : Int) ≤ 4294967295 := by omega
  have h := fun w => digits_c r 8 w (by omega) (by omega) (by omega)
  have HH := Lib.hid h
  have HC : Hid (∀ w, Calls Try.prog 13 #[.string s] w fun e w' => e = .returned (.int .u32 (r : Nat)) ∧ w = w') := by
    intro w; rw [← hr]; exact rCrc_c s w (by unfold maxLen; omega)
  have HR := Lib.hid (show bs (hexL r 8) = bs (ckL s) by unfold ckL; rw [hr])
  have h1 : (bs (ckL s)).size ≤ 8 := by rw [size_bs, ckL_len]; omega
  clear h hr hrb
  go_enter Try.func26, Try.ntmps26
  go_wp2_with fail
  refine (HC.out _).mono ?_; rintro e w1 ⟨rfl, rfl⟩
  go_wp2_with fail
  refine (HH.out _).mono ?_; rintro e w1 ⟨rfl, hq1⟩
  rw [HR.out]
  go_wp2_with fail
  go_ret
  exact ⟨rfl, hq1⟩
end Go.Proofs.Ytiffnnjegfghoaa
