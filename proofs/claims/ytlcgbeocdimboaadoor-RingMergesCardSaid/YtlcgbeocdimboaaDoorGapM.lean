/- The longest run of gaps, counted in two ways (no walk). -/
import Derived.Test.YtlcgbeocdimboaaDoorMath
set_option linter.unusedVariables false
set_option linter.unusedSimpArgs false
namespace Go.Proofs.YtlcgbeocdimboaaDoor
open Go.RowKit Pm

/-- whether the reading i, around the ring, is a gap -/
def gapA (l : List RD) (i : Nat) : Bool := !(gr l (i % l.length)).o
theorem gapA_per (l : List RD) (i : Nat) : gapA l (i + l.length) = gapA l i := by unfold gapA; rw [Nat.add_mod_right]
theorem gapA_mod (l : List RD) (i j : Nat) : gapA l (i % l.length + j) = gapA l (i + j) := by unfold gapA; rw [Nat.mod_add_mod]
/-- the gaps in a window -/
def cw (l : List RD) (s : Nat) : Nat → Nat
  | 0 => 0
  | k + 1 => cw l s k + (gapA l (s + k)).toNat
/-- how many readings are gaps -/
def gN (l : List RD) : Nat := cw l 0 l.length
/-- the run of gaps that ends ahead of i -/
def runE (l : List RD) : Nat → Nat
  | 0 => 0
  | i + 1 => if gapA l i = true then runE l i + 1 else 0
/-- the longest one ahead of i -/
def lonE (l : List RD) : Nat → Nat
  | 0 => 0
  | i + 1 => if gapA l i = true then max (lonE l i) (runE l i + 1) else lonE l i
/-- the run of gaps from i on, of m readings at most -/
def runF (l : List RD) : Nat → Nat → Nat
  | _, 0 => 0
  | i, m + 1 => if gapA l i = true then runF l (i + 1) m + 1 else 0
/-- the longest one from a reading ahead of i on -/
def mr (l : List RD) : Nat → Nat
  | 0 => 0
  | i + 1 => if gapA l i = true then max (mr l i) (runF l i l.length) else mr l i
theorem cw_add (l : List RD) (s : Nat) : ∀ k, cw l s (k + 1) = (gapA l s).toNat + cw l (s + 1) k
  | 0 => by simp [cw]
  | k + 1 => by
    show cw l s (k + 1) + _ = _ + (cw l (s + 1) k + _)
    rw [cw_add l s k, show s + (k + 1) = s + 1 + k by omega]; omega
theorem cw_turn (l : List RD) (s : Nat) : cw l (s + 1) l.length = cw l s l.length := by
  have h := cw_add l s l.length
  have h2 : cw l s (l.length + 1) = cw l s l.length + (gapA l (s + l.length)).toNat := rfl
  rw [gapA_per] at h2
  omega
theorem cw_any (l : List RD) : ∀ s, cw l s l.length = gN l
  | 0 => rfl
  | s + 1 => by rw [cw_turn, cw_any l s]
theorem cw_mono (l : List RD) (s : Nat) : ∀ {k m : Nat}, k ≤ m → cw l s k ≤ cw l s m := by
  intro k m h
  induction h with
  | refl => exact Nat.le_refl _
  | step h ih => exact Nat.le_trans ih (Nat.le_add_right _ _)
theorem cw_all (l : List RD) (s : Nat) : ∀ k, (∀ j, j < k → gapA l (s + j) = true) → cw l s k = k
  | 0, _ => rfl
  | k + 1, h => by
    show cw l s k + _ = _
    rw [cw_all l s k (fun j hj => h j (by omega)), h k (by omega)]; rfl
theorem cw_le (l : List RD) (s : Nat) : ∀ k, cw l s k ≤ k
  | 0 => Nat.le_refl _
  | k + 1 => by
    have := cw_le l s k
    have : (gapA l (s + k)).toNat ≤ 1 := Bool.toNat_le _
    show cw l s k + _ ≤ _
    omega
theorem gN_le (l : List RD) : gN l ≤ l.length := cw_le l 0 _
theorem runF_all (l : List RD) : ∀ (m i : Nat) (j : Nat), j < runF l i m → gapA l (i + j) = true
  | 0, i, j, h => absurd h (Nat.not_lt_zero _)
  | m + 1, i, j, h => by
    have e : runF l i (m + 1) = if gapA l i = true then runF l (i + 1) m + 1 else 0 := rfl
    rw [e] at h
    split at h
    · rename_i g
      match j with
      | 0 => exact g
      | j + 1 => have := runF_all l m (i + 1) j (by omega); rwa [show i + (j + 1) = i + 1 + j by omega]
    · omega
theorem runF_le (l : List RD) : ∀ (m i : Nat), runF l i m ≤ m
  | 0, i => Nat.le_refl _
  | m + 1, i => by
    have := runF_le l m (i + 1)
    show (if gapA l i = true then _ else _) ≤ _
    split <;> omega
theorem runF_ge (l : List RD) : ∀ (m i k : Nat), k ≤ m → (∀ j, j < k → gapA l (i + j) = true) → k ≤ runF l i m
  | 0, i, k, h, _ => by omega
  | m + 1, i, 0, h, _ => Nat.zero_le _
  | m + 1, i, k + 1, h, g => by
    have h0 := g 0 (by omega)
    rw [Nat.add_zero] at h0
    have := runF_ge l m (i + 1) k (by omega) (fun j hj => by rw [show i + 1 + j = i + (j + 1) by omega]; exact g (j + 1) (by omega))
    show _ ≤ (if gapA l i = true then _ else _)
    rw [if_pos h0]; omega
theorem runE_all (l : List RD) : ∀ (i : Nat), runE l i ≤ i ∧ ∀ j, j < runE l i → gapA l (i - runE l i + j) = true
  | 0 => ⟨Nat.le_refl _, fun j h => absurd h (Nat.not_lt_zero _)⟩
  | i + 1 => by
    obtain ⟨h1, h2⟩ := runE_all l i
    have e : runE l (i + 1) = if gapA l i = true then runE l i + 1 else 0 := rfl
    rw [e]
    split
    · rename_i g
      refine ⟨by omega, fun j hj => ?_⟩
      rw [show i + 1 - (runE l i + 1) = i - runE l i by omega]
      by_cases hj2 : j < runE l i
      · exact h2 j hj2
      · rw [show i - runE l i + j = i by omega]; exact g
    · exact ⟨Nat.zero_le _, fun j h => absurd h (Nat.not_lt_zero _)⟩
theorem runE_ge (l : List RD) : ∀ (k i : Nat), (∀ j, j < k → gapA l (i + j) = true) → k ≤ runE l (i + k)
  | 0, i, _ => Nat.zero_le _
  | k + 1, i, h => by
    have := runE_ge l k i (fun j hj => h j (by omega))
    have e : runE l (i + (k + 1)) = if gapA l (i + k) = true then runE l (i + k) + 1 else 0 := rfl
    rw [e, if_pos (h k (by omega))]; omega
theorem lonE_ge (l : List RD) : ∀ {i m : Nat}, i ≤ m → runE l i ≤ lonE l m := by
  intro i m
  induction m with
  | zero =>
    intro h
    have hi : i = 0 := by omega
    subst hi
    exact Nat.le_refl _
  | succ m ih =>
    intro h
    have e : lonE l (m + 1) = if gapA l m = true then max (lonE l m) (runE l m + 1) else lonE l m := rfl
    by_cases hi : i = m + 1
    · subst hi
      have e2 : runE l (m + 1) = if gapA l m = true then runE l m + 1 else 0 := rfl
      rw [e, e2]; split <;> omega
    · have := ih (by omega)
      rw [e]; split <;> omega
theorem lonE_ex (l : List RD) : ∀ m, ∃ i, i ≤ m ∧ lonE l m = runE l i
  | 0 => ⟨0, Nat.le_refl _, rfl⟩
  | m + 1 => by
    obtain ⟨i, hi, e⟩ := lonE_ex l m
    have e1 : lonE l (m + 1) = if gapA l m = true then max (lonE l m) (runE l m + 1) else lonE l m := rfl
    have e2 : runE l (m + 1) = if gapA l m = true then runE l m + 1 else 0 := rfl
    by_cases g : gapA l m = true
    · rw [if_pos g] at e1 e2
      by_cases c : lonE l m ≤ runE l m + 1
      · exact ⟨m + 1, Nat.le_refl _, by omega⟩
      · exact ⟨i, by omega, by omega⟩
    · rw [if_neg g] at e1
      exact ⟨i, by omega, by omega⟩
theorem mr_ge (l : List RD) : ∀ {i m : Nat}, i < m → runF l i l.length ≤ mr l m := by
  intro i m
  induction m with
  | zero => intro h; omega
  | succ m ih =>
    intro h
    have e : mr l (m + 1) = if gapA l m = true then max (mr l m) (runF l m l.length) else mr l m := rfl
    by_cases hi : i = m
    · subst hi
      by_cases g : gapA l i = true
      · rw [e, if_pos g]; omega
      · have : runF l i l.length = 0 := by
          cases hn : l.length with
          | zero => rfl
          | succ n => show (if gapA l i = true then _ else _) = _; rw [if_neg g]
        omega
    · have := ih (by omega)
      rw [e]; split <;> omega
theorem mr_ex (l : List RD) : ∀ m, mr l m = 0 ∨ ∃ i, i < m ∧ mr l m = runF l i l.length
  | 0 => .inl rfl
  | m + 1 => by
    have e : mr l (m + 1) = if gapA l m = true then max (mr l m) (runF l m l.length) else mr l m := rfl
    by_cases g : gapA l m = true
    · rw [if_pos g] at e
      by_cases c : mr l m ≤ runF l m l.length
      · exact .inr ⟨m, by omega, by omega⟩
      · rcases mr_ex l m with h | ⟨i, hi, h⟩
        · omega
        · exact .inr ⟨i, by omega, by omega⟩
    · rw [if_neg g] at e
      rcases mr_ex l m with h | ⟨i, hi, h⟩
      · exact .inl (by omega)
      · exact .inr ⟨i, by omega, by omega⟩
/-- what Gaps answers -/
def gL (l : List RD) : Nat := min (lonE l (2 * l.length)) (gN l)
theorem gaps_same (l : List RD) : gL l = mr l l.length := by
  unfold gL
  apply Nat.le_antisymm
  · obtain ⟨i, hi, e⟩ := lonE_ex l (2 * l.length)
    obtain ⟨h1, h2⟩ := runE_all l i
    by_cases h0 : l.length = 0
    · have := gN_le l; omega
    · by_cases hL : runE l i ≤ l.length
      · have k : runE l i ≤ runF l ((i - runE l i) % l.length) l.length := runF_ge l _ _ _ hL fun j hj => by rw [gapA_mod]; exact h2 j hj
        have := mr_ge l (Nat.mod_lt (i - runE l i) (by omega) : (i - runE l i) % l.length < l.length)
        omega
      · have k : l.length ≤ runF l ((i - runE l i) % l.length) l.length := runF_ge l _ _ _ (Nat.le_refl _) fun j hj => by rw [gapA_mod]; exact h2 j (by omega)
        have := mr_ge l (Nat.mod_lt (i - runE l i) (by omega) : (i - runE l i) % l.length < l.length)
        have := gN_le l
        omega
  · rcases mr_ex l l.length with h | ⟨i, hi, h⟩
    · omega
    · have k1 := runF_le l l.length i
      have k2 := runF_all l l.length i
      have k3 := runE_ge l (runF l i l.length) i k2
      have k4 := lonE_ge l (show i + runF l i l.length ≤ 2 * l.length by omega)
      have k5 := cw_all l i _ k2
      have k6 := cw_mono l i k1
      rw [cw_any] at k6
      omega
end Go.Proofs.YtlcgbeocdimboaaDoor
