/- The examples of the chapter hold: the contract of awake. -/
import Derived.Test.YtiffnnjegfghoaaNumber
set_option linter.unusedVariables false
set_option linter.unusedSimpArgs false
namespace Go.Proofs.Ytiffnnjegfghoaa
open Go.ChangeShapes Go.WideShapes Go.ChangeAt Go.RowKit Cm

theorem aw1 (w : World) : Calls Try.prog 19 #[.string ⟨#[48, 48, 48, 48, 48, 48, 48, 48, 48, 48, 48, 48, 48, 48, 102, 102]⟩] w fun e w' => e = .returned (.tuple #[.int .u64 255, .int .i64 0]) ∧ Q w w' :=
  (Number_c _ w (by decide +kernel)).mono fun _ _ ⟨a, b⟩ => ⟨by rw [a, show nV ⟨#[48, 48, 48, 48, 48, 48, 48, 48, 48, 48, 48, 48, 48, 48, 102, 102]⟩ = 255 from by decide +kernel, show nE ⟨#[48, 48, 48, 48, 48, 48, 48, 48, 48, 48, 48, 48, 48, 48, 102, 102]⟩ = 0 from by decide +kernel]; rfl, b⟩
theorem opS_yes {s : ByteArray} (h8 : ¬ s.size < 8) (h : opn s = true) : opS s = bodyS s := by unfold opS; rw [if_neg h8, if_pos h]
theorem opE_yes {s : ByteArray} (h8 : ¬ s.size < 8) (h : opn s = true) : opE s = 0 := by unfold opE; rw [if_neg h8, if_pos h]
theorem opS_no {s : ByteArray} (h : opn s = false) : opS s = ByteArray.empty := by unfold opS; rw [h]; simp
theorem opE_no {s : ByteArray} (h8 : ¬ s.size < 8) (h : opn s = false) : opE s = 16 := by unfold opE; rw [if_neg h8, h]; simp
theorem op_yes : opn ⟨#[97, 101, 56, 98, 55, 98, 101, 52, 51]⟩ = true := by unfold opn; rw [tl, tl]; decide +kernel
theorem op_no : opn ⟨#[97, 48, 48, 48, 48, 48, 48, 48, 48]⟩ = false := by unfold opn; rw [tl, tl]; decide +kernel
theorem aw2 (w : World) : Calls Try.prog 23 #[.string ⟨#[97, 101, 56, 98, 55, 98, 101, 52, 51]⟩] w fun e w' => e = .returned (.tuple #[.string ⟨#[97]⟩, .int .i64 0]) ∧ Q w w' :=
  (Open_c _ w (by decide +kernel)).mono fun _ _ ⟨a, b⟩ => ⟨by
    rw [a, opS_yes (by decide +kernel) op_yes, opE_yes (by decide +kernel) op_yes]
    rw [show bodyS ⟨#[97, 101, 56, 98, 55, 98, 101, 52, 51]⟩ = ⟨#[97]⟩ from by decide +kernel], b⟩
theorem aw3 (w : World) : Calls Try.prog 23 #[.string ⟨#[97, 48, 48, 48, 48, 48, 48, 48, 48]⟩] w fun e w' => e = .returned (.tuple #[.string ByteArray.empty, .int .i64 16]) ∧ Q w w' :=
  (Open_c _ w (by decide +kernel)).mono fun _ _ ⟨a, b⟩ => ⟨by
    rw [a, opS_no op_no, opE_no (by decide +kernel) op_no], b⟩
theorem aw4 (w : World) : Calls Try.prog 12 #[.string ⟨#[49, 50, 51, 52, 53, 54, 55, 56, 57]⟩] w fun e w' => e = .returned (.int .u32 3421780262) ∧ Q w w' :=
  (Crc_c _ w (by decide +kernel)).mono fun _ _ ⟨a, b⟩ => ⟨by rw [a, show crcS (bt ⟨#[49, 50, 51, 52, 53, 54, 55, 56, 57]⟩) (ByteArray.size ⟨#[49, 50, 51, 52, 53, 54, 55, 56, 57]⟩) = 3421780262 from by decide +kernel]; rfl, b ▸ Q.refl _⟩
theorem aw5 (w : World) : Calls Try.prog 12 #[.string ⟨#[]⟩] w fun e w' => e = .returned (.int .u32 0) ∧ Q w w' :=
  (Crc_c _ w (by decide +kernel)).mono fun _ _ ⟨a, b⟩ => ⟨by rw [a, show crcS (bt ⟨#[]⟩) (ByteArray.size ⟨#[]⟩) = 0 from by decide +kernel]; rfl, b ▸ Q.refl _⟩
theorem aw6 (w : World) : Calls Try.prog 15 #[.string ⟨#[]⟩] w fun e w' => e = .returned (.int .u64 14695981039346656037) ∧ Q w w' :=
  (Hash_c _ w (by decide +kernel)).mono fun _ _ ⟨a, b⟩ => ⟨by rw [a, show fnv (bt ⟨#[]⟩) (ByteArray.size ⟨#[]⟩) = 14695981039346656037 from by decide +kernel]; rfl, b ▸ Q.refl _⟩
theorem aw7 (w : World) : Calls Try.prog 15 #[.string ⟨#[97]⟩] w fun e w' => e = .returned (.int .u64 12638187200555641996) ∧ Q w w' :=
  (Hash_c _ w (by decide +kernel)).mono fun _ _ ⟨a, b⟩ => ⟨by rw [a, show fnv (bt ⟨#[97]⟩) (ByteArray.size ⟨#[97]⟩) = 12638187200555641996 from by decide +kernel]; rfl, b ▸ Q.refl _⟩
theorem aw8 (w : World) : Calls Try.prog 21 #[.int .u64 255] w fun e w' => e = .returned (.string ⟨#[48, 48, 48, 48, 48, 48, 48, 48, 48, 48, 48, 48, 48, 48, 102, 102]⟩) ∧ Q w w' :=
  (Hex_c 255 w (by omega)).mono fun _ _ ⟨a, b⟩ => ⟨by rw [a, show bs (hexL 255 16) = ⟨#[48, 48, 48, 48, 48, 48, 48, 48, 48, 48, 48, 48, 48, 48, 102, 102]⟩ from by decide +kernel], b⟩
theorem aw9 (w : World) : Calls Try.prog 25 #[.string ⟨#[]⟩] w fun e w' => e = .returned (.string ⟨#[48, 48, 48, 48, 48, 48, 48, 48]⟩) ∧ Q w w' :=
  (Seal_c _ w (by decide +kernel)).mono fun _ _ ⟨a, b⟩ => ⟨by rw [a, show (⟨#[]⟩ : ByteArray) ++ bs (ckL ⟨#[]⟩) = ⟨#[48, 48, 48, 48, 48, 48, 48, 48]⟩ from by decide +kernel], b⟩

set_option maxRecDepth 100000 in
set_option maxHeartbeats 1600000 in
theorem awake_c (w : World) : Calls Try.prog 14 #[] w fun e w' => e = .returned (.bool true) ∧ Q w w' := by
  go_enter Try.func14, Try.ntmps14
  go_wp2_with fail
  refine (aw1 _).mono ?_; rintro e w1 ⟨rfl, hq1⟩
  go_wp2_with fail
  refine (aw2 _).mono ?_; rintro e w2 ⟨rfl, hq2⟩
  go_wp2_with fail
  refine (aw3 _).mono ?_; rintro e w3 ⟨rfl, hq3⟩
  go_wp2_with fail
  refine (aw4 _).mono ?_; rintro e w4 ⟨rfl, hq4⟩
  go_wp2_with fail
  refine (aw5 _).mono ?_; rintro e w5 ⟨rfl, hq5⟩
  go_wp2_with fail
  refine (aw6 _).mono ?_; rintro e w6 ⟨rfl, hq6⟩
  go_wp2_with fail
  refine (aw7 _).mono ?_; rintro e w7 ⟨rfl, hq7⟩
  go_wp2_with fail
  refine (aw8 _).mono ?_; rintro e w8 ⟨rfl, hq8⟩
  go_wp2_with fail
  refine (aw9 _).mono ?_; rintro e w9 ⟨rfl, hq9⟩
  go_wp2_with fail
  go_ret
  exact ⟨rfl, (((((((hq1.trans hq2).trans hq3).trans hq4).trans hq5).trans hq6).trans hq7).trans hq8).trans hq9⟩
theorem short_c (s : ByteArray) (w : World) (hs : s.size ≤ maxLen) : Calls Try.prog 11 #[.string s] w fun e w' => e = .returned (.bool (decide (s.size ≤ 1000))) ∧ w = w' := by
  unfold maxLen at hs
  go_enter Try.func11, Try.ntmps11
  go_wp2
  go_ret
  exact ⟨ret_bool (by simp; omega), rfl⟩
theorem short_is (s : ByteArray) (b : Bool) (hs : s.size ≤ maxLen) (h : Hid (decide (s.size ≤ 1000) = b)) (w : World) : Calls Try.prog 11 #[.string s] w fun e w' => e = .returned (.bool b) ∧ w = w' :=
  (short_c s w hs).mono fun _ _ ⟨a, c⟩ => ⟨by rw [a, h.out], c⟩
theorem u64_of {n : Int} (h : (Lit.int .u64 n).wf = true) : ∃ m : Nat, n = (m : Int) ∧ m < 18446744073709551616 := by
  have h2 : (decide (IntKind.min .u64 ≤ n) && decide (n ≤ IntKind.max .u64)) = true := h
  rw [Bool.and_eq_true, decide_eq_true_eq, decide_eq_true_eq, show IntKind.min .u64 = 0 by decide, show IntKind.max .u64 = 18446744073709551615 by decide] at h2
  exact ⟨n.toNat, by omega, by omega⟩
end Go.Proofs.Ytiffnnjegfghoaa
