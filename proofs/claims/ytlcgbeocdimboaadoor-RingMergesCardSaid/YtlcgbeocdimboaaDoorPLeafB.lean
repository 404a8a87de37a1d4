/- The contracts of the bounds of an edge, of the quotients, and of the order of points. -/
import Derived.Test.YtlcgbeocdimboaaDoorPLeaf
set_option linter.unusedVariables false
set_option linter.unusedSimpArgs false
namespace Go.Proofs.YtlcgbeocdimboaaDoor
open Go.ChangeShapes Go.WideShapes Go.ChangeAt Go.RowKit Pm

theorem inB_mk {a b q : P} {m1 m2 m3 m4 : Int} (h1 : min a.1 b.1 = m1) (h2 : max a.1 b.1 = m2) (h3 : min a.2 b.2 = m3) (h4 : max a.2 b.2 = m4) :
    inB a b q = (decide (m1 ≤ q.1) && decide (q.1 ≤ m2) && decide (m3 ≤ q.2) && decide (q.2 ≤ m4)) := by subst h1 h2 h3 h4; rfl
/-- Go's quotient against the one rounded down -/
theorem quo_floor {n d : Int} (h : 0 < d) : n / d = if n.tmod d < 0 then n.tdiv d - 1 else n.tdiv d := by
  have e := Int.mul_tdiv_add_tmod n d
  have e2 := Int.mul_ediv_add_emod n d
  have b1 := Int.emod_nonneg n (by omega : d ≠ 0)
  have b2 := Int.emod_lt_of_pos n h
  have b3 : -d < n.tmod d ∧ n.tmod d < d := by
    have h1 := Int.tmod_lt_of_pos n h
    have h2 := Int.tmod_lt_of_pos (-n) h
    rw [Int.neg_tmod] at h2
    omega
  split
  · rename_i c
    have k : d * (n / d - (n.tdiv d - 1)) = d + n.tmod d - n % d := by rw [Int.mul_sub, Int.mul_sub]; omega
    rcases Int.lt_trichotomy (n / d - (n.tdiv d - 1)) 0 with z | z | z
    · exfalso
      have : d * (n / d - (n.tdiv d - 1)) ≤ d * -1 := Int.mul_le_mul_of_nonneg_left (by omega) (by omega)
      omega
    · omega
    · exfalso
      have : d * 1 ≤ d * (n / d - (n.tdiv d - 1)) := Int.mul_le_mul_of_nonneg_left (by omega) (by omega)
      omega
  · rename_i c
    have k : d * (n / d - n.tdiv d) = n.tmod d - n % d := by rw [Int.mul_sub]; omega
    rcases Int.lt_trichotomy (n / d - n.tdiv d) 0 with z | z | z
    · exfalso
      have : d * (n / d - n.tdiv d) ≤ d * -1 := Int.mul_le_mul_of_nonneg_left (by omega) (by omega)
      omega
    · omega
    · exfalso
      have : d * 1 ≤ d * (n / d - n.tdiv d) := Int.mul_le_mul_of_nonneg_left (by omega) (by omega)
      omega
theorem tdiv_bd {n d : Int} (h : 0 < d) (h1 : -10000000 ≤ n) (h2 : n ≤ 10000000) : -10000000 ≤ n.tdiv d ∧ n.tdiv d ≤ 10000000 := by
  have := Int.natAbs_tdiv_le_natAbs n d
  omega
theorem tmod_bd {n d : Int} (h : 0 < d) (h2 : d ≤ 10000000) : -10000000 ≤ n.tmod d ∧ n.tmod d ≤ 10000000 := by
  have h1 := Int.tmod_lt_of_pos n h
  have h3 := Int.tmod_lt_of_pos (-n) h
  rw [Int.neg_tmod] at h3
  omega
end Go.Proofs.YtlcgbeocdimboaaDoor
