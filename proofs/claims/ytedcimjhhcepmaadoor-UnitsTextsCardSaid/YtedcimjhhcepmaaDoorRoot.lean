/- The contract of units.Root. -/
import Derived.Test.YtedcimjhhcepmaaDoorWalkA
import Derived.Test.YtedcimjhhcepmaaDoorDivMath
set_option linter.unusedVariables false
set_option linter.unusedSimpArgs false
namespace Go.Proofs.YtedcimjhhcepmaaDoor
open Go.ChangeShapes Go.WideShapes Go.ChangeAt Go.RowKit Um

/-- the root is at least r, and less than r + 2^m; t is the bit to be tried -/
def RootInv (n : Nat) (v3 v4 : Value) : Prop := ∃ r t m : Nat, v3 = .int .u64 (r : Int) ∧ v4 = .int .u64 (t : Int) ∧ Hid (((m = 0 ∧ t = 0) ∨ (∃ j, m = j + 1 ∧ t = 2 ^ j)) ∧ m ≤ 32 ∧ r * r ≤ n ∧ n < (r + 2 ^ m) * (r + 2 ^ m) ∧ r + 2 ^ m ≤ 4294967296)
def IsRoot (n : Nat) (r : Nat) : Prop := r * r ≤ n ∧ n < (r + 1) * (r + 1)
theorem root_step {n r j : Nat} (h : r * r ≤ n ∧ n < (r + 2 ^ (j + 1)) * (r + 2 ^ (j + 1)) ∧ r + 2 ^ (j + 1) ≤ 4294967296) :
    (((r + 2 ^ j) * (r + 2 ^ j) ≤ n → (r + 2 ^ j) * (r + 2 ^ j) ≤ n ∧ n < (r + 2 ^ j + 2 ^ j) * (r + 2 ^ j + 2 ^ j) ∧ r + 2 ^ j + 2 ^ j ≤ 4294967296)) ∧
    ((¬ (r + 2 ^ j) * (r + 2 ^ j) ≤ n → r * r ≤ n ∧ n < (r + 2 ^ j) * (r + 2 ^ j) ∧ r + 2 ^ j ≤ 4294967296)) := by
  have e : r + 2 ^ (j + 1) = r + 2 ^ j + 2 ^ j := by rw [Nat.pow_succ]; omega
  have hp := Nat.two_pow_pos j
  rw [e] at h
  exact ⟨fun g => ⟨g, h.2.1, h.2.2⟩, fun g => ⟨h.1, by omega, by omega⟩⟩
def rootV (n : Int) (r : Nat) : Prop := (n < 0 ∧ r = 0) ∨ (0 ≤ n ∧ IsRoot n.toNat r)
def RootEnd (n : Int) (w : World) (e : Ending) (w' : World) : Prop := ∃ r : Nat, e = .returned (.int .i64 (r : Int)) ∧ rootV n r ∧ w = w'

set_option maxHeartbeats 800000 in
theorem Root_c (n : Int) (fn : Fit n) (w : World) : Calls Tryd.prog 23 #[.int .i64 n] w (RootEnd n w) := by
  obtain ⟨f1, f2⟩ := fn
  by_cases h : n < 0
  · have HR := Lib.hid (show rootV n 0 from .inl ⟨h, rfl⟩)
    go_enter Tryd.func23, Tryd.ntmps23
    go_wp2
    go_ret
    exact ⟨0, rfl, HR.out, rfl⟩
  · obtain ⟨m, rfl⟩ := Int.eq_ofNat_of_zero_le (show 0 ≤ n by omega)
    have FM := Lib.hid (show m ≤ 9223372036854775807 by omega)
    clear f1 f2
    have i0 : (m : Int) ≤ 9223372036854775807 := by have := FM.out; omega
    go_enter Tryd.func23, Tryd.ntmps23
    go_wp2_with fail
    go_loop [3, 4] (fun v3 v4 => RootInv m v3 v4) (fun _ v4 => (intOf v4).toNat)
    case atStart => exact ⟨0, 2147483648, 32, rfl, rfl, ⟨.inr ⟨31, rfl, by decide⟩, by omega, by omega, by have := FM.out; omega, by omega⟩⟩
    case round =>
      obtain ⟨r, t, m2, rfl, rfl, HI⟩ := hrel
      obtain ⟨ht, hm, h1, h2, h3⟩ := HI.out
      rcases ht with ⟨rfl, rfl⟩ | ⟨j, rfl, htj⟩
      · have HR := Lib.hid (show rootV (m : Int) r from .inr ⟨by omega, by rw [Int.toNat_natCast]; exact ⟨h1, by simpa using h2⟩⟩)
        have i3 : (r : Int) ≤ 4294967295 := by simp at h3; omega
        clear h1 h2 h3 hm HI
        go_wp2_with fail
        go_ret
        exact ⟨r, rfl, HR.out, rfl⟩
      · have S := root_step ⟨h1, h2, h3⟩
        have hp2 : 0 < 2 ^ j := Nat.two_pow_pos j
        have e2 : 2 ^ (j + 1) = 2 ^ j + 2 ^ j := by rw [Nat.pow_succ]; omega
        rw [e2] at h3
        rw [← htj] at S h3 hp2
        have HT := Lib.hid htj
        obtain ⟨p, hp⟩ : ∃ p, (r + t) * (r + t) = p := ⟨_, rfl⟩
        have hpi : ((r : Int) + (t : Int)) * ((r : Int) + (t : Int)) = (p : Int) := by rw [← hp]; simp
        have hpb : p ≤ 18446744065119617025 := by rw [← hp]; exact Nat.mul_le_mul (show r + t ≤ 4294967295 by omega) (show r + t ≤ 4294967295 by omega)
        have i1 : (p : Int) ≤ 18446744065119617025 := by omega
        have i2 : (r : Int) ≤ 4294967295 := by omega
        have i3 : (t : Int) ≤ 4294967295 := by omega
        have i4 : (0 : Int) < (t : Int) := by omega
        rw [hp] at S
        have nxt : (∃ j2, j = j2 + 1) ∨ j = 0 := by rcases j with _ | j2; · exact .inr rfl
                                                    · exact .inl ⟨j2, rfl⟩
        have half : (j = 0 ∧ t / 2 = 0) ∨ (∃ i, j = i + 1 ∧ t / 2 = 2 ^ i) := by
          rcases nxt with ⟨j2, rfl⟩ | rfl
          · exact .inr ⟨j2, rfl, by rw [htj, Nat.pow_succ]; omega⟩
          · exact .inl ⟨rfl, by rw [htj]⟩
        by_cases hle : p ≤ m
        · have HN := Lib.hid (show (((j = 0 ∧ t / 2 = 0) ∨ (∃ i, j = i + 1 ∧ t / 2 = 2 ^ i)) ∧ j ≤ 32 ∧ (r + t) * (r + t) ≤ m ∧ m < (r + t + 2 ^ j) * (r + t + 2 ^ j) ∧ r + t + 2 ^ j ≤ 4294967296) from by
            have := S.1 hle
            rw [← htj]
            exact ⟨half, by omega, by rw [hp]; exact hle, this.2.1, this.2.2⟩)
          have i5 : (p : Int) ≤ (m : Int) := by omega
          clear S nxt half hpb hp hp2 h1 h2 h3 hm HI htj hle e2
          go_wp2_with fail
          go_round
          case rel => exact ⟨r + t, t / 2, j, by go_num, by go_num, HN⟩
          case measure => simp [intOf]; omega
        · have HN := Lib.hid (show (((j = 0 ∧ t / 2 = 0) ∨ (∃ i, j = i + 1 ∧ t / 2 = 2 ^ i)) ∧ j ≤ 32 ∧ r * r ≤ m ∧ m < (r + 2 ^ j) * (r + 2 ^ j) ∧ r + 2 ^ j ≤ 4294967296) from by
            have := S.2 hle
            rw [← htj]
            exact ⟨half, by omega, h1, by rw [hp]; omega, this.2.2⟩)
          have i5 : ¬ (p : Int) ≤ (m : Int) := by omega
          clear S nxt half hpb hp hp2 h1 h2 h3 hm HI htj hle e2
          go_wp2_with fail
          go_round
          case rel => exact ⟨r, t / 2, j, by go_num, by go_num, HN⟩
          case measure => simp [intOf]; omega
end Go.Proofs.YtedcimjhhcepmaaDoor
