/- A code in which one byte was replaced, or two neighbours that differ were exchanged, is not a code of the same kind. Plain facts. -/
import Derived.Test.YtdebkicmoocnmaaIdentBack
import Derived.Laws.Bits64
set_option linter.unusedVariables false
set_option linter.unusedSimpArgs false
namespace Go.Proofs.Ytdebkicmoocnmaa
open Go.ChangeShapes Go.WideShapes Go.ChangeAt Go.RowKit Idm

theorem xor_u8 {a b : Int} (ha : 0 ≤ a ∧ a ≤ 255) (hb : 0 ≤ b ∧ b ≤ 255) (h0 : b ≠ 0) : (0 ≤ bits .xor .u8 a b ∧ bits .xor .u8 a b ≤ 255) ∧ bits .xor .u8 a b ≠ a := by
  obtain ⟨x, rfl⟩ := Int.eq_ofNat_of_zero_le ha.1
  obtain ⟨y, rfl⟩ := Int.eq_ofNat_of_zero_le hb.1
  have hx : x ^^^ y < 2 ^ 8 := Nat.xor_lt_two_pow (by omega) (by omega)
  have h1 : (BitVec.ofInt 8 (x : Int)).toNat = x := by
    rw [BitVec.ofInt_natCast, BitVec.toNat_ofNat]; exact Nat.mod_eq_of_lt (by omega)
  have h2 : (BitVec.ofInt 8 (y : Int)).toNat = y := by
    rw [BitVec.ofInt_natCast, BitVec.toNat_ofNat]; exact Nat.mod_eq_of_lt (by omega)
  have e : bits .xor .u8 (x : Int) (y : Int) = ((x ^^^ y : Nat) : Int) := by
    show IntKind.u8.wrap ((BitVec.ofInt 8 (x : Int) ^^^ BitVec.ofInt 8 (y : Int)).toNat : Int) = _
    rw [BitVec.toNat_xor, h1, h2, show ∀ n : Int, IntKind.u8.wrap n = n % 256 from fun n => by simp [IntKind.wrap, IntKind.bits, IntKind.signed]]
    omega
  rw [e]
  refine ⟨⟨by omega, by omega⟩, fun g => h0 ?_⟩
  have g2 : x ^^^ y = x := by omega
  have : x ^^^ (x ^^^ y) = x ^^^ x := by rw [g2]
  rw [← Nat.xor_assoc, Nat.xor_self, Nat.zero_xor] at this
  omega

theorem lm7 (f : Nat → Int) : lm f 7 = (f 0 + 2 * f 1 + 3 * f 2 + 4 * f 3 + 5 * f 4 + 6 * f 5 + 7 * f 6) % 23 := by
  show (((((((0 + 1 * f 0) % 23 + 2 * f 1) % 23 + 3 * f 2) % 23 + 4 * f 3) % 23 + 5 * f 4) % 23 + 6 * f 5) % 23 + 7 * f 6) % 23 = _
  omega
/-- what a code is -/
theorem isB_inv {s : ByteArray} {k : Int} (h : isB s k = true) : bt s 0 = k ∧ (48 ≤ bt s 1 ∧ bt s 1 ≤ 57) ∧ (48 ≤ bt s 2 ∧ bt s 2 ≤ 57) ∧ (48 ≤ bt s 3 ∧ bt s 3 ≤ 57) ∧ (48 ≤ bt s 4 ∧ bt s 4 ≤ 57) ∧ (48 ≤ bt s 5 ∧ bt s 5 ≤ 57) ∧ (48 ≤ bt s 6 ∧ bt s 6 ≤ 57) ∧
    bt s 7 = 65 + (bt s 0 + 2 * bt s 1 + 3 * bt s 2 + 4 * bt s 3 + 5 * bt s 4 + 6 * bt s 5 + 7 * bt s 6) % 23 := by
  unfold isB at h
  rw [Bool.and_eq_true, beq_iff_eq, beq_iff_eq] at h
  obtain ⟨h1, h2⟩ := h
  obtain ⟨_, _, hd, hs⟩ := spE_inv h1
  have eK : spK s = bt s 0 := by unfold spK; rw [if_pos h1]
  exact ⟨by rw [← eK, h2], dg_bd (dgN_at hd 0 (by omega)), dg_bd (dgN_at hd 1 (by omega)), dg_bd (dgN_at hd 2 (by omega)), dg_bd (dgN_at hd 3 (by omega)), dg_bd (dgN_at hd 4 (by omega)), dg_bd (dgN_at hd 5 (by omega)),
    by rw [hs]; unfold chk; rw [lm7]⟩
theorem replaced {S T : ByteArray} {k y : Int} {i : Nat} (hi : i < 8) (hS : isB S k = true) (hT : ∀ j, j < 8 → bt T j = if j = i then y else bt S j) (hy : y ≠ bt S i) : isB T k = false := by
  rw [Bool.eq_false_iff]; intro h
  obtain ⟨a0, a1, a2, a3, a4, a5, a6, a7⟩ := isB_inv hS
  obtain ⟨b0, b1, b2, b3, b4, b5, b6, b7⟩ := isB_inv h
  have t0 := hT 0 (by omega)
  have t1 := hT 1 (by omega)
  have t2 := hT 2 (by omega)
  have t3 := hT 3 (by omega)
  have t4 := hT 4 (by omega)
  have t5 := hT 5 (by omega)
  have t6 := hT 6 (by omega)
  have t7 := hT 7 (by omega)
  rcases (show i = 0 ∨ i = 1 ∨ i = 2 ∨ i = 3 ∨ i = 4 ∨ i = 5 ∨ i = 6 ∨ i = 7 by omega) with rfl | rfl | rfl | rfl | rfl | rfl | rfl | rfl <;>
    simp (config := { decide := true }) only [if_true, if_false] at t0 t1 t2 t3 t4 t5 t6 t7 <;>
    (simp only [t0, t1, t2, t3, t4, t5, t6, t7] at b0 b1 b2 b3 b4 b5 b6 b7; omega)
theorem exchanged {S T : ByteArray} {k : Int} {i : Nat} (hi : i < 7) (hS : isB S k = true) (hT : ∀ j, j < 8 → bt T j = if j = i then bt S (i + 1) else if j = i + 1 then bt S i else bt S j) (hy : bt S i ≠ bt S (i + 1)) : isB T k = false := by
  rw [Bool.eq_false_iff]; intro h
  obtain ⟨a0, a1, a2, a3, a4, a5, a6, a7⟩ := isB_inv hS
  obtain ⟨b0, b1, b2, b3, b4, b5, b6, b7⟩ := isB_inv h
  have t0 := hT 0 (by omega)
  have t1 := hT 1 (by omega)
  have t2 := hT 2 (by omega)
  have t3 := hT 3 (by omega)
  have t4 := hT 4 (by omega)
  have t5 := hT 5 (by omega)
  have t6 := hT 6 (by omega)
  have t7 := hT 7 (by omega)
  rcases (show i = 0 ∨ i = 1 ∨ i = 2 ∨ i = 3 ∨ i = 4 ∨ i = 5 ∨ i = 6 by omega) with rfl | rfl | rfl | rfl | rfl | rfl | rfl <;>
    simp (config := { decide := true }) only [if_true, if_false, Nat.reduceAdd, Nat.zero_add] at t0 t1 t2 t3 t4 t5 t6 t7 hy <;>
    (simp only [t0, t1, t2, t3, t4, t5, t6, t7] at b0 b1 b2 b3 b4 b5 b6 b7; omega)
end Go.Proofs.Ytdebkicmoocnmaa
