/- The arithmetic under the long division of two words by one (Knuth's algorithm D, base 2^32). No program. -/
import Derived.Test.YtedcimjhhcepmaaDoorMath
import Derived.Lib.ItoaNum
import Derived.Laws.Bits64b
set_option linter.unusedVariables false
set_option linter.unusedSimpArgs false
open Go.RowKit
namespace Go.Proofs.YtedcimjhhcepmaaDoor
namespace Um

/-- One digit: u < Y = yn1 * B + yn0, N = u * B + u1 with u1 < B: what the loop keeps: q * yn1 + rhat = u, and the digit is at most q. -/
structure Dig (B yn1 yn0 u u1 q rhat : Nat) : Prop where
  sum : q * yn1 + rhat = u
  up : (u * B + u1) / (yn1 * B + yn0) ≤ q
  top : q ≤ B + 1

theorem dig_start {B yn1 yn0 u u1 : Nat} (hB : B = 4294967296) (h1 : 2147483648 ≤ yn1) (h0 : yn0 < B) (hu : u < yn1 * B + yn0) (hu1 : u1 < B) :
    Dig B yn1 yn0 u u1 (u / yn1) (u % yn1) := by
  have hy : 0 < yn1 := by omega
  refine ⟨by rw [Nat.mul_comm]; exact Nat.div_add_mod u yn1, ?_, ?_⟩
  · -- N / Y ≤ u / yn1: since q * Y ≤ N < (u + 1) * B, q * yn1 ≤ u
    rw [Nat.le_div_iff_mul_le hy]
    have h := Nat.div_mul_le_self (u * B + u1) (yn1 * B + yn0)
    generalize (u * B + u1) / (yn1 * B + yn0) = q at *
    have e : q * (yn1 * B + yn0) = q * yn1 * B + q * yn0 := by rw [Nat.mul_add, Nat.mul_assoc]
    have h2 : q * yn1 * B < (u + 1) * B := by rw [Nat.succ_mul]; omega
    exact Nat.le_of_lt_succ (Nat.lt_of_mul_lt_mul_right h2)
  · -- u / yn1 ≤ B + 1
    have : u / yn1 < B + 2 := by
      rw [Nat.div_lt_iff_lt_mul hy]
      have : (B + 2) * yn1 = yn1 * B + 2 * yn1 := by rw [Nat.add_mul, Nat.mul_comm B yn1]
      omega
    omega
/-- the test that lowers the digit -/
def Low (B yn0 u1 q rhat : Nat) : Prop := B ≤ q ∨ B * rhat + u1 < q * yn0
theorem dig_down {B yn1 yn0 u u1 q rhat : Nat} (hB : B = 4294967296) (h : Dig B yn1 yn0 u u1 q rhat) (hY : 0 < yn1 * B + yn0) (hu : u < yn1 * B + yn0) (hu1 : u1 < B) (hl : Low B yn0 u1 q rhat) :
    1 ≤ q ∧ Dig B yn1 yn0 u u1 (q - 1) (rhat + yn1) := by
  have hq : (u * B + u1) / (yn1 * B + yn0) < q := by
    rw [Nat.div_lt_iff_lt_mul hY]
    have e : q * (yn1 * B + yn0) = q * yn1 * B + q * yn0 := by rw [Nat.mul_add, Nat.mul_assoc]
    have e2 : u * B = q * yn1 * B + rhat * B := by rw [← h.sum, Nat.add_mul]
    rcases hl with hl | hl
    · -- q ≥ B: N < Y * B ≤ q * Y
      have h3 : u * B + u1 < (u + 1) * B := by rw [Nat.succ_mul]; omega
      have h4 : (u + 1) * B ≤ (yn1 * B + yn0) * B := Nat.mul_le_mul_right _ hu
      have h5 : (yn1 * B + yn0) * B ≤ (yn1 * B + yn0) * q := Nat.mul_le_mul_left _ hl
      rw [Nat.mul_comm _ q] at h5
      omega
    · rw [Nat.mul_comm B rhat] at hl
      omega
  have h1 : 1 ≤ q := Nat.lt_of_le_of_lt (Nat.zero_le _) hq
  refine ⟨h1, ⟨?_, by omega, by have := h.top; omega⟩⟩
  have := h.sum
  have e : (q - 1) * yn1 = q * yn1 - yn1 := by rw [Nat.sub_mul, Nat.one_mul]
  have e2 : yn1 ≤ q * yn1 := Nat.le_mul_of_pos_left _ (by omega)
  omega
theorem dig_end {B yn1 yn0 u u1 q rhat : Nat} (hB : B = 4294967296) (h : Dig B yn1 yn0 u u1 q rhat) (hY : 0 < yn1 * B + yn0) (h0 : yn0 < B)
    (hl : ¬ Low B yn0 u1 q rhat ∨ (B ≤ rhat ∧ q ≤ B)) : q = (u * B + u1) / (yn1 * B + yn0) := by
  refine Nat.le_antisymm ?_ h.up
  rw [Nat.le_div_iff_mul_le hY]
  have e : q * (yn1 * B + yn0) = q * yn1 * B + q * yn0 := by rw [Nat.mul_add, Nat.mul_assoc]
  have e2 : u * B = q * yn1 * B + rhat * B := by rw [← h.sum, Nat.add_mul]
  rcases hl with hl | ⟨hl, hq⟩
  · unfold Low at hl
    have : q * yn0 ≤ B * rhat + u1 := by omega
    rw [Nat.mul_comm B rhat] at this
    omega
  · have h3 : q * yn0 ≤ B * B := Nat.mul_le_mul hq (by omega)
    have h4 : B * B ≤ rhat * B := Nat.mul_le_mul_right _ hl
    omega
/-- a step of the long division -/
theorem two_steps {B Y X u u1 u0 q1 q0 r1 : Nat} (hY : 0 < Y) (hX : X = (u * B + u1) * B + u0) (h1 : q1 = (u * B + u1) / Y) (hr : r1 = (u * B + u1) % Y) (hB : 0 < B) (h0 : u0 < B)
    (h2 : q0 = (r1 * B + u0) / Y) : X / Y = q1 * B + q0 ∧ X % Y = (r1 * B + u0) % Y := by
  have e : u * B + u1 = Y * q1 + r1 := by rw [h1, hr]; exact (Nat.div_add_mod _ _).symm
  have e2 : X = r1 * B + u0 + Y * (q1 * B) := by rw [hX, e, Nat.add_mul, Nat.mul_assoc]; omega
  refine ⟨?_, ?_⟩
  · rw [e2, Nat.add_mul_div_left _ _ hY, h2, Nat.add_comm]
  · rw [e2, Nat.add_mul_mod_self_left]
/-- the quotient and the remainder of the shifted numbers -/
theorem shifted (X y s : Nat) (hy : 0 < y) : (X * 2 ^ s) / (y * 2 ^ s) = X / y ∧ (X * 2 ^ s) % (y * 2 ^ s) / 2 ^ s = X % y := by
  have hs : 0 < 2 ^ s := Nat.two_pow_pos s
  refine ⟨Nat.mul_div_mul_right _ _ hs, ?_⟩
  rw [Nat.mul_mod_mul_right, Nat.mul_div_cancel _ hs]
/-- the length in bits, from both sides -/
theorem bitLen_bounds (x : Nat) (h0 : x ≠ 0) (h : x < 2 ^ 64) : 1 ≤ Lib.bitLen x ∧ Lib.bitLen x ≤ 64 ∧ 2 ^ (Lib.bitLen x - 1) ≤ x ∧ x < 2 ^ Lib.bitLen x := by
  have := Lib.bitLenAux_bounds 64 x h h0
  exact ⟨this.1, Lib.bitLen_le x 64 (Nat.le_refl _) h, this.2.1, this.2.2⟩
theorem lead (y : Nat) (h2 : 2 ≤ y) (h : y < 18446744073709551616) :
    ∃ s : Nat, 64 - (Lib.bitLen y : Int) = (s : Int) ∧ s < 63 ∧ 9223372036854775808 ≤ y * 2 ^ s ∧ y * 2 ^ s < 18446744073709551616 := by
  obtain ⟨a, b, c, d⟩ := bitLen_bounds y (by omega) (by omega)
  generalize Lib.bitLen y = L at *
  obtain ⟨k, rfl⟩ : ∃ k, L = k + 1 := ⟨L - 1, by omega⟩
  refine ⟨63 - k, by omega, ?_, ?_, ?_⟩
  · rcases Nat.eq_zero_or_pos k with rfl | hk
    · simp at d; omega
    · omega
  · have e : 2 ^ k * 2 ^ (63 - k) = 9223372036854775808 := by rw [← Nat.pow_add, show k + (63 - k) = 63 by omega]
    rw [← e]; exact Nat.mul_le_mul_right _ (by simpa using c)
  · have e : 2 ^ (k + 1) * 2 ^ (63 - k) = 18446744073709551616 := by rw [← Nat.pow_add, show k + 1 + (63 - k) = 64 by omega]
    rw [← e]; exact Nat.mul_lt_mul_of_pos_right d (Nat.two_pow_pos _)
/-- the shifted upper word: its part of the quotient's numerator -/
theorem upper (hi lo y s : Nat) (h : hi < y) (hlo : lo < 18446744073709551616) (hs : s ≤ 64) :
    hi * 2 ^ s + lo / 2 ^ (64 - s) < y * 2 ^ s ∧ (hi * 2 ^ s + lo / 2 ^ (64 - s)) * 18446744073709551616 + lo * 2 ^ s % 18446744073709551616 = (hi * 18446744073709551616 + lo) * 2 ^ s ∧ lo / 2 ^ (64 - s) < 2 ^ s := by
  have e : 2 ^ (64 - s) * 2 ^ s = 18446744073709551616 := by rw [← Nat.pow_add, show 64 - s + s = 64 by omega]
  have hp : 0 < 2 ^ (64 - s) := Nat.two_pow_pos _
  have hps : 0 < 2 ^ s := Nat.two_pow_pos _
  have h3 : lo / 2 ^ (64 - s) < 2 ^ s := by rw [Nat.div_lt_iff_lt_mul hp, Nat.mul_comm, e]; exact hlo
  refine ⟨?_, ?_, h3⟩
  · have : (hi + 1) * 2 ^ s ≤ y * 2 ^ s := Nat.mul_le_mul_right _ h
    rw [Nat.succ_mul] at this; omega
  · have e2 : lo * 2 ^ s % 18446744073709551616 = lo % 2 ^ (64 - s) * 2 ^ s := by rw [← e, Nat.mul_mod_mul_right]
    have e3 : lo * 2 ^ s = lo / 2 ^ (64 - s) * 18446744073709551616 + lo % 2 ^ (64 - s) * 2 ^ s := by
      have := Nat.div_add_mod lo (2 ^ (64 - s))
      calc lo * 2 ^ s = (2 ^ (64 - s) * (lo / 2 ^ (64 - s)) + lo % 2 ^ (64 - s)) * 2 ^ s := by rw [this]
        _ = 2 ^ (64 - s) * 2 ^ s * (lo / 2 ^ (64 - s)) + lo % 2 ^ (64 - s) * 2 ^ s := by rw [Nat.add_mul, Nat.mul_right_comm]
        _ = _ := by rw [e, Nat.mul_comm 18446744073709551616]
    rw [e2, Nat.add_mul, Nat.add_mul, e3, Nat.mul_right_comm hi 18446744073709551616]
    omega
theorem wrapn {a : Int} {n : Nat} (h : a = (n : Int)) (hn : n < 18446744073709551616) : IntKind.u64.wrap a = (n : Int) := by rw [h]; exact IntWalk.u64_in _ (by omega)
theorem wrapm {a : Int} {n : Nat} (h : a = (n : Int)) : IntKind.u64.wrap a = ((n % 18446744073709551616 : Nat) : Int) := by rw [h, IntKind.wrap_u64]; omega
theorem cast_shl (a s : Nat) : (a : Int) * 2 ^ s = ((a * 2 ^ s : Nat) : Int) := by simp
theorem cast_shr (a s : Nat) : (a : Int) / 2 ^ s = ((a / 2 ^ s : Nat) : Int) := by simp
theorem maskn {a : Nat} (ha : a < 18446744073709551616) : bits .and .u64 (a : Int) 4294967295 = ((a % 4294967296 : Nat) : Int) := by
  have h := bits_and_u64_nat a 4294967295 ha (by omega)
  have e : a &&& 4294967295 = a % 4294967296 := Nat.and_two_pow_sub_one_eq_mod a 32
  rw [e] at h; exact h
theorem orn {a b : Nat} (ha : a < 18446744073709551616) (hb : b < 18446744073709551616) : bits .or .u64 (a : Int) (b : Int) = ((a ||| b : Nat) : Int) := bits_or_u64_nat a b ha hb
theorem or_add (hi s b : Nat) (hb : b < 2 ^ s) : hi * 2 ^ s ||| b = hi * 2 ^ s + b := by
  rw [Nat.mul_comm, Nat.two_pow_add_eq_or_of_lt hb]
theorem divn (a : Nat) : (a : Int) / 4294967296 = ((a / 4294967296 : Nat) : Int) := by omega
theorem cast_div (a b : Nat) : (a : Int) / (b : Int) = ((a / b : Nat) : Int) := rfl
/-- the rest of a word's quotient, as the program reckons it -/
theorem restn {U y1 q r : Nat} (hU : U < 18446744073709551616) (h : q * y1 + r = U) : IntKind.u64.wrap ((U : Int) - IntKind.u64.wrap ((q : Int) * (y1 : Int))) = (r : Int) := by
  have e : (q : Int) * (y1 : Int) = ((q * y1 : Nat) : Int) := by simp
  rw [wrapn e (by omega)]
  exact wrapn (by omega) (by omega)
/-- what the loop lowers -/
def mea (n : Int) : Nat := (4294967296 - n).toNat
theorem mea_lt {r y1 : Nat} (h : r + y1 < 4294967296) (hy : 0 < y1) : mea ((r : Int) + (y1 : Int)) < mea (r : Int) := by unfold mea; omega
/-- the next partial remainder, as the program reckons it -/
theorem rem_wrap {U u1 q Y R : Nat} (h : U * 4294967296 + u1 = q * Y + R) (hR : R < 18446744073709551616) :
    IntKind.u64.wrap (IntKind.u64.wrap (IntKind.u64.wrap ((U : Int) * 4294967296) + (u1 : Int)) - IntKind.u64.wrap ((q : Int) * (Y : Int))) = (R : Int) := by
  have e : (q : Int) * (Y : Int) = ((q * Y : Nat) : Int) := by simp
  rw [e]
  generalize q * Y = P at *
  simp only [IntKind.wrap_u64]
  omega
theorem quo_wrap {q1 q0 X : Nat} (h : q1 * 4294967296 + q0 = X) (hX : X < 18446744073709551616) :
    IntKind.u64.wrap (IntKind.u64.wrap ((q1 : Int) * 4294967296) + (q0 : Int)) = (X : Int) := by
  simp only [IntKind.wrap_u64]
  omega
theorem minus_one {q Q : Nat} (h1 : 1 ≤ q) (h : q - 1 = Q) : (q : Int) - 1 = (Q : Int) := by omega
end Um
end Go.Proofs.YtedcimjhhcepmaaDoor
