/- Plain facts about quotients and roots (no program). -/
import Derived.WalkKit
import Derived.ProofKit
set_option linter.unusedVariables false
set_option linter.unusedSimpArgs false
open Go.RowKit
namespace Go.Proofs.YtedcimjhhcepmaaDoor
namespace Um

/-- a number that an int holds -/
def Fit (n : Int) : Prop := -9223372036854775808 ≤ n ∧ n ≤ 9223372036854775807
def clamp (n low high : Int) : Int := if high < low then low else if n < low then low else if high < n then high else n

/-- does the truncated quotient lie above the exact one? -/
def adj (a b : Int) : Bool := decide (a.tmod b ≠ 0) && (decide (a.tmod b < 0) != decide (b < 0))
def fq (a b : Int) : Int := if adj a b then a.tdiv b - 1 else a.tdiv b
def fr (a b : Int) : Int := if adj a b then a.tmod b + b else a.tmod b
/-- is the rest at least half of the divisor? -/
def half (r b : Int) : Bool := if b < 0 then decide (r ≤ b - r) else decide (b - r ≤ r)

theorem div_facts (a b : Int) (hb : b ≠ 0) : a = b * a.tdiv b + a.tmod b ∧ (a.tmod b).natAbs < b.natAbs ∧ (0 ≤ a → 0 ≤ a.tmod b) ∧ (a ≤ 0 → a.tmod b ≤ 0) := by
  refine ⟨(Int.mul_tdiv_add_tmod a b).symm, ?_, fun h => Int.tmod_nonneg _ h, fun h => ?_⟩
  · rw [Int.natAbs_tmod]; exact Nat.mod_lt _ (by omega)
  · have := Int.tmod_nonneg b (a := -a) (by omega)
    rw [Int.neg_tmod] at this; omega
theorem fr_bd (a b : Int) (hb : b ≠ 0) : (0 < b → 0 ≤ fr a b ∧ fr a b < b) ∧ (b < 0 → b < fr a b ∧ fr a b ≤ 0) := by
  obtain ⟨_, h, _, _⟩ := div_facts a b hb
  unfold fr adj
  by_cases h0 : a.tmod b = 0
  · rw [h0]; simp; (try omega)
  · by_cases h1 : a.tmod b < 0 <;> by_cases h2 : b < 0 <;> simp [h0, h1, h2] <;> omega
theorem fq_eq (a b : Int) (hb : b ≠ 0) : a = b * fq a b + fr a b := by
  obtain ⟨h, _, _, _⟩ := div_facts a b hb
  unfold fq fr
  cases adj a b with
  | false => exact h
  | true => simp only [if_true]; rw [Int.mul_sub]; omega
theorem tdiv_bd {a b : Int} (fa : Fit a) (hb : b ≠ 0) (hm : ¬ (a = -9223372036854775808 ∧ b = -1)) :
    Fit (a.tdiv b) ∧ (a.tmod b ≠ 0 → -4611686018427387904 ≤ a.tdiv b ∧ a.tdiv b ≤ 4611686018427387904) := by
  obtain ⟨f1, f2⟩ := fa
  have e : (a.tdiv b).natAbs = a.natAbs / b.natAbs := Int.natAbs_tdiv a b
  by_cases h1 : b.natAbs = 1
  · have hz : a.tmod b = 0 := by
      have := (div_facts a b hb).2.1; omega
    refine ⟨?_, fun h => absurd hz h⟩
    rw [h1, Nat.div_one] at e
    by_cases hb1 : b = 1
    · subst hb1; rw [Int.tdiv_one]; exact ⟨f1, f2⟩
    · have hb2 : b = -1 := by omega
      have : a ≠ -9223372036854775808 := fun h => hm ⟨h, hb2⟩
      unfold Fit; omega
  · have h2 : a.natAbs / b.natAbs ≤ a.natAbs / 2 := Nat.div_le_div_left (by omega) (by omega)
    have : (a.tdiv b).natAbs ≤ 4611686018427387904 := by omega
    unfold Fit; omega
theorem adj_val {a b r : Int} (h : a.tmod b = r) : adj a b = (decide (r ≠ 0) && (decide (r < 0) != decide (b < 0))) := by unfold adj; rw [h]
theorem fq_no {a b : Int} (h : adj a b = false) : fq a b = a.tdiv b ∧ fr a b = a.tmod b := by unfold fq fr; rw [h]; exact ⟨rfl, rfl⟩
theorem fq_yes {a b : Int} (h : adj a b = true) : fq a b = a.tdiv b - 1 ∧ fr a b = a.tmod b + b := by unfold fq fr; rw [h]; exact ⟨rfl, rfl⟩
theorem half_zero {b : Int} (hb : b ≠ 0) : half 0 b = false := by
  unfold half
  by_cases h : b < 0
  · rw [if_pos h]; simp; omega
  · rw [if_neg h]; simp; omega
/-- the quotient rounded to the nearest integer -/
def nq (a b : Int) : Int := fq a b + (if half (fr a b) b then 1 else 0)
theorem nq_is {a b q r : Int} {x : Bool} (h : fq a b = q ∧ fr a b = r) (g : half r b = x) : nq a b = q + (if x then 1 else 0) := by unfold nq; rw [h.1, h.2, g]
end Um
end Go.Proofs.YtedcimjhhcepmaaDoor
