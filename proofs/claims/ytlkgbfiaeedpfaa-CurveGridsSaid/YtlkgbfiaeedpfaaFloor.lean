/- The contracts of both floors, and of Between. -/
import Derived.Test.YtlkgbfiaeedpfaaMem
set_option linter.unusedVariables false
set_option linter.unusedSimpArgs false
namespace Go.Proofs.Ytlkgbfiaeedpfaa
open Go.ChangeShapes Go.WideShapes Go.ChangeAt Go.RowKit Cm

theorem div_parts {a b : Int} (hb : 0 < b) : (a.tmod b < 0 → a / b = a.tdiv b - 1) ∧ (¬ a.tmod b < 0 → a / b = a.tdiv b) ∧ (a.tdiv b * b > a ↔ a.tmod b < 0) := by
  have h1 := Int.mul_tdiv_add_tmod a b
  have h2 : (a.tmod b).natAbs < b.natAbs := by rw [Int.natAbs_tmod]; exact Nat.mod_lt _ (by omega)
  have e : a.tdiv b * b = b * a.tdiv b := Int.mul_comm _ _
  refine ⟨fun h => ?_, fun h => ?_, ?_⟩
  · refine ((Int.ediv_emod_unique (r := a.tmod b + b) hb).2 ⟨?_, by omega, by omega⟩).1
    rw [Int.mul_sub, Int.mul_one]; omega
  · exact ((Int.ediv_emod_unique (r := a.tmod b) hb).2 ⟨by omega, by omega, by omega⟩).1
  · omega
def big (a : Int) : Prop := -10000000000000 ≤ a ∧ a ≤ 10000000000000
theorem tdiv_big {a b : Int} (ha : big a) : big (a.tdiv b) := by
  have e : (a.tdiv b).natAbs = a.natAbs / b.natAbs := Int.natAbs_tdiv a b
  have : a.natAbs / b.natAbs ≤ a.natAbs := Nat.div_le_self _ _
  unfold big at ha ⊢
  omega
theorem div_big {a b : Int} (hb : 0 < b) (ha : big a) : -10000000000001 ≤ a / b ∧ a / b ≤ 10000000000001 := by
  have h := tdiv_big (b := b) ha
  obtain ⟨h1, h2, _⟩ := div_parts (a := a) hb
  unfold big at h
  by_cases g : a.tmod b < 0
  · rw [h1 g]; omega
  · rw [h2 g]; omega
set_option maxHeartbeats 800000 in
theorem floor_e (a b q : Int) (hb : 0 < b) (ha : big a) (h : Hid (a / b = q)) (w : World) : Calls Try.prog 30 #[.int .i64 a, .int .i64 b] w fun e w' => e = .returned (.int .i64 q) ∧ w' = w := by
  obtain ⟨d, hd⟩ : ∃ d, a.tdiv b = d := ⟨_, rfl⟩
  obtain ⟨r, hr⟩ : ∃ r, a.tmod b = r := ⟨_, rfl⟩
  obtain ⟨p1, p2, _⟩ := div_parts (a := a) hb
  have t := tdiv_big (b := b) ha
  rw [hr, hd] at p1 p2
  rw [hd] at t
  obtain ⟨t1, t2⟩ := t
  have h0 : (b == 0) = false := by simp; omega
  have h0b : ¬ b = 0 := by omega
  have w1 : wrap64 d = d := IntWalk.wrap64_in d (by omega)
  have w2 : wrap64 (d - 1) = d - 1 := IntWalk.wrap64_in _ (by omega)
  by_cases hlt : r < 0
  · have HE := Lib.hid (show d - 1 = q by rw [← h.out, p1 hlt])
    have hlt' : decide (r < 0) = true := decide_eq_true hlt
    clear p1 p2 t1 t2 ha h hlt hb
    go_enter Try.func30, Try.ntmps30
    go_wp2_with fail
    go_ret
    exact ⟨ret_int (by first | exact HE.out | (rw [w2]; exact HE.out) | (rw [w1]; exact HE.out)), rfl⟩
  · have HE := Lib.hid (show d = q by rw [← h.out, p2 hlt])
    have hlt' : decide (r < 0) = false := decide_eq_false hlt
    clear p1 p2 t1 t2 ha h hlt hb
    go_enter Try.func30, Try.ntmps30
    go_wp2_with fail
    go_ret
    exact ⟨ret_int (by first | exact HE.out | (rw [w2]; exact HE.out) | (rw [w1]; exact HE.out)), rfl⟩
set_option maxHeartbeats 800000 in
theorem rfloor_e (a b q : Int) (hb : 0 < b) (ha : big a) (h : Hid (a / b = q)) (w : World) : Calls Try.prog 31 #[.int .i64 a, .int .i64 b] w fun e w' => e = .returned (.int .i64 q) ∧ w' = w := by
  obtain ⟨d, hd⟩ : ∃ d, a.tdiv b = d := ⟨_, rfl⟩
  obtain ⟨p1, p2, p3⟩ := div_parts (a := a) hb
  have t := tdiv_big (b := b) ha
  rw [hd] at p1 p2 t p3
  obtain ⟨m, hm⟩ : ∃ m, d * b = m := ⟨_, rfl⟩
  have hmb : -20000000000000000000 ≤ m ∧ m ≤ 20000000000000000000 → True := fun _ => trivial
  have hmod : a - m = a.tmod b := by have := Int.mul_tdiv_add_tmod a b; rw [hd, Int.mul_comm] at this; omega
  have hmm : -10000000000000 ≤ m ∧ m ≤ 10000000000000 := by
    have g1 := fun h => Int.tmod_nonneg b (a := a) h
    have g2 : a ≤ 0 → a.tmod b ≤ 0 := fun h => by have := Int.tmod_nonneg b (a := -a) (by omega); rw [Int.neg_tmod] at this; omega
    have g3 : (a.tmod b).natAbs ≤ a.natAbs := by rw [Int.natAbs_tmod]; exact Nat.mod_le _ _
    unfold big at ha
    omega
  rw [hm] at p3
  obtain ⟨t1, t2⟩ := t
  have h0 : (b == 0) = false := by simp; omega
  have h0b : ¬ b = 0 := by omega
  have w1 : wrap64 d = d := IntWalk.wrap64_in d (by omega)
  have w2 : wrap64 (d - 1) = d - 1 := IntWalk.wrap64_in _ (by omega)
  have w3 : wrap64 m = m := IntWalk.wrap64_in _ (by omega)
  by_cases hlt : a < m
  · have HE := Lib.hid (show d - 1 = q by rw [← h.out, p1 (p3.1 hlt)])
    have hlt' : decide (a < m) = true := decide_eq_true hlt
    clear p1 p2 t1 t2 ha h hlt hb p3 hmm hmod hmb
    go_enter Try.func31, Try.ntmps31
    go_wp2_with fail
    go_ret
    exact ⟨ret_int (by first | exact HE.out | (rw [w2]; exact HE.out) | (rw [w1]; exact HE.out)), rfl⟩
  · have HE := Lib.hid (show d = q by rw [← h.out, p2 (fun g => hlt (p3.2 g))])
    have hlt' : decide (a < m) = false := decide_eq_false hlt
    clear p1 p2 t1 t2 ha h hlt hb p3 hmm hmod hmb
    go_enter Try.func31, Try.ntmps31
    go_wp2_with fail
    go_ret
    exact ⟨ret_int (by first | exact HE.out | (rw [w2]; exact HE.out) | (rw [w1]; exact HE.out)), rfl⟩
theorem floor_c (a b q : Int) (hb : 0 < b) (ha : big a) (h : Hid (a / b = q)) (w : World) : Calls Try.prog 30 #[.int .i64 a, .int .i64 b] w fun e w' => e = .returned (.int .i64 q) ∧ Q w w' :=
  (floor_e a b q hb ha h w).mono fun _ _ ⟨h1, h2⟩ => ⟨h1, by rw [h2]; exact Q.refl _⟩
theorem rfloor_c (a b q : Int) (hb : 0 < b) (ha : big a) (h : Hid (a / b = q)) (w : World) : Calls Try.prog 31 #[.int .i64 a, .int .i64 b] w fun e w' => e = .returned (.int .i64 q) ∧ Q w w' :=
  (rfloor_e a b q hb ha h w).mono fun _ _ ⟨h1, h2⟩ => ⟨h1, by rw [h2]; exact Q.refl _⟩
end Go.Proofs.Ytlkgbfiaeedpfaa
