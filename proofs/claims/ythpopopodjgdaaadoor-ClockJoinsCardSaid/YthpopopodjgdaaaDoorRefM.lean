/- Plain facts about Next, Open and Add (no program). -/
import Derived.Test.YthpopopodjgdaaaDoorCalls
set_option linter.unusedVariables false
set_option linter.unusedSimpArgs false
namespace Go.Proofs.YthpopopodjgdaaaDoor
open Go.RowKit Km

theorem asT_yes {n : Int} (h : isT n = true) : asT n = (n, 0) := by unfold asT; rw [if_pos h]
theorem asT_no {n : Int} (h : isT n = false) : asT n = (0, 15) := by unfold asT; rw [h, if_neg (by decide)]
theorem isT_mk {n : Int} (h0 : 0 ≤ n) (h1 : n ≤ 10000000) : isT n = true := by unfold isT; rw [decide_eq_true h0, decide_eq_true h1]; rfl
theorem isT_big {n : Int} (h1 : 10000000 < n) : isT n = false := by unfold isT; rw [decide_eq_false (show ¬ n ≤ 10000000 by omega), Bool.and_false]
theorem openS_of {l : List P} (h : okL l) {t : Int} (ht : isT t = true) (ho : opn l t) : openS l t = true := by
  unfold openS nextS
  rw [if_pos ht, kth_of h (isT_yes ht).1 ho, asT_yes ht]
  simp
theorem openS_not {l : List P} (h : okL l) {t : Int} (ho : isT t = true → ¬ opn l t) : openS l t = false := by
  unfold openS nextS
  by_cases ht : isT t = true
  · rw [if_pos ht]
    obtain ⟨k1, k2, k3⟩ := kth_spec h (WU_small h ht).1
    by_cases hk : isT (kth l (WU l t)) = true
    · rw [asT_yes hk]
      have : kth l (WU l t) ≠ t := fun e => ho ht (by rw [← e]; exact k2)
      simp [this]
    · rw [asT_no (Bool.eq_false_iff.2 hk)]; rfl
  · rw [if_neg ht]; rfl
theorem openS_iff {l : List P} (h : okL l) (t : Int) : openS l t = true ↔ isT t = true ∧ opn l t := by
  constructor
  · intro g
    by_cases ht : isT t = true
    · refine ⟨ht, Classical.byContradiction fun ho => ?_⟩
      rw [openS_not h fun _ => ho] at g; cases g
    · rw [openS_not h fun e => absurd e ht] at g; cases g
  · exact fun g => openS_of h g.1 g.2
/-- the next shift's beginning, looked for from the end -/
def cd (l : List P) (m : Int) (n : Nat) : Nat → Int
  | 0 => 10080 + F l 0
  | d + 1 => if m < F l (n - 1 - d) then F l (n - 1 - d) else cd l m n d
theorem cd_spec {l : List P} (h : okL l) (m : Int) : ∀ d, d ≤ l.length → (∃ i, l.length - d ≤ i ∧ i < l.length ∧ m < F l i ∧ (∀ j, l.length - d ≤ j → j < i → F l j ≤ m) ∧ cd l m l.length d = F l i) ∨ ((∀ j, l.length - d ≤ j → j < l.length → F l j ≤ m) ∧ cd l m l.length d = 10080 + F l 0)
  | 0, _ => .inr ⟨fun j h1 h2 => by omega, rfl⟩
  | d + 1, hd => by
    show (∃ i, _ ∧ _ ∧ _ ∧ _ ∧ (if m < F l (l.length - 1 - d) then F l (l.length - 1 - d) else cd l m l.length d) = F l i) ∨ (_ ∧ (if m < F l (l.length - 1 - d) then F l (l.length - 1 - d) else cd l m l.length d) = 10080 + F l 0)
    by_cases g : m < F l (l.length - 1 - d)
    · rw [if_pos g]
      exact .inl ⟨l.length - 1 - d, by omega, by omega, g, fun j h1 h2 => by omega, rfl⟩
    · rw [if_neg g]
      rcases cd_spec h m d (by omega) with ⟨i, h1, h2, h3, h4, h5⟩ | ⟨h1, h2⟩
      · refine .inl ⟨i, by omega, h2, h3, fun j k1 k2 => ?_, h5⟩
        by_cases e : j = l.length - 1 - d
        · rw [e]; omega
        · exact h4 j (by omega) k2
      · refine .inr ⟨fun j k1 k2 => ?_, h2⟩
        by_cases e : j = l.length - 1 - d
        · rw [e]; omega
        · exact h1 j (by omega) k2
/-- where the mill does not work the next shift's beginning is the next working minute -/
theorem cd_next {l : List P} (h : okL l) {t : Int} (ht : 0 ≤ t) (ho : ¬ opn l t) : t - t % 10080 + cd l (t % 10080) l.length l.length = kth l (WU l t) := by
  have hshut : ∀ j, j < l.length → F l j ≤ t % 10080 → U l j ≤ t % 10080 := fun j hj h1 => by
    rcases Int.lt_or_le (t % 10080) (U l j) with g | g
    · exact absurd ⟨j, hj, h1, g⟩ ho
    · exact g
  obtain ⟨k1, k2, k3⟩ := kth_spec h (WU_bd h ht).1
  rcases cd_spec h (t % 10080) l.length (Nat.le_refl _) with ⟨i, _, h2, h3, h4, h5⟩ | ⟨h1, h2⟩
  · rw [h5]
    have hf := h.f0 i h2
    have hfu := h.fu i h2
    have huw := h.uw i h2
    have hp : PU l i ≤ t % 10080 := by
      by_cases e : i = 0
      · subst e; show (0 : Int) ≤ _; omega
      · obtain ⟨d, rfl⟩ : ∃ d, i = d + 1 := ⟨i - 1, by omega⟩
        rw [PU_succ]
        exact hshut d (by omega) (h4 d (by omega) (by omega))
    have e1 : (t - t % 10080 + F l i) / 10080 = t / 10080 := by omega
    have e2 : (t - t % 10080 + F l i) % 10080 = F l i := by omega
    refine open_unique h (by omega) k1 ⟨i, h2, by rw [e2]; exact Int.le_refl _, by rw [e2]; exact hfu⟩ k2 ?_
    rw [k3]
    unfold WU
    rw [e1, e2, wk_gap h (by omega) (h.up i h2) (fun _ => Int.le_refl _), wk_gap h (by omega) hp fun _ => by omega]
  · rw [h2]
    have hf := h.f0 0 h.one
    have hfu := h.fu 0 h.one
    have huw := h.uw 0 h.one
    have e1 : (t - t % 10080 + (10080 + F l 0)) / 10080 = t / 10080 + 1 := by omega
    have e2 : (t - t % 10080 + (10080 + F l 0)) % 10080 = F l 0 := by omega
    refine open_unique h (by omega) k1 ⟨0, h.one, by rw [e2]; exact Int.le_refl _, by rw [e2]; exact hfu⟩ k2 ?_
    rw [k3]
    unfold WU
    rw [e1, e2, wk_gap h (i := 0) (Nat.zero_le _) hf (fun _ => Int.le_refl _), wk_low h _ (Nat.le_refl _) fun j hj => hshut j hj (h1 j (by omega) hj), Int.add_mul]
    show _ + 0 = _
    omega
/-- the time behind so many minutes of work -/
theorem add_last {l : List P} (h : okL l) {t m : Int} (ht : 0 ≤ t) (hm : 1 ≤ m) : t ≤ kth l (WU l t + m - 1) ∧ WU l (kth l (WU l t + m - 1)) = WU l t + m - 1 ∧ WU l (kth l (WU l t + m - 1) + 1) = WU l t + m ∧ opn l (kth l (WU l t + m - 1)) := by
  have h0 := (WU_bd h ht).1
  obtain ⟨k1, k2, k3⟩ := kth_spec h (k := WU l t + m - 1) (by omega)
  exact ⟨kth_ge h ht (by omega), k3, by rw [WU_open h k1 k2, k3]; omega, k2⟩
/-- what the binary search finds -/
theorem add_found {l : List P} (h : okL l) {t m x : Int} (ht : isT t = true) (hm : isT m = true) (hx : t ≤ x) (hx2 : x ≤ 10000000) (h1 : m ≤ WU l x - WU l t) (h2 : ∀ y, t ≤ y → y < x → WU l y - WU l t < m) : addS l t m = (x, 0) := by
  have tb := isT_yes ht
  have mb := isT_yes hm
  unfold addS
  rw [if_pos ht, if_pos hm]
  by_cases e : m = 0
  · rw [if_pos e]
    have : x = t := by
      rcases Int.lt_or_le t x with g | g
      · have := h2 t (Int.le_refl _) g; omega
      · omega
    rw [this]
  · rw [if_neg e]
    obtain ⟨a1, a2, a3, _⟩ := add_last h (t := t) (m := m) tb.1 (by omega)
    have : kth l (WU l t + m - 1) + 1 = x := by
      rcases Int.lt_trichotomy (kth l (WU l t + m - 1) + 1) x with g | g | g
      · have := h2 _ (show t ≤ kth l (WU l t + m - 1) + 1 by omega) g; omega
      · exact g
      · have := WU_mono h (a := x) (b := kth l (WU l t + m - 1)) (by omega) (by omega); omega
    rw [this, asT_yes (isT_mk (by omega) hx2)]
theorem add_none {l : List P} (h : okL l) {t m : Int} (ht : isT t = true) (hm : isT m = true) (h1 : WU l 10000000 - WU l t < m) : addS l t m = (0, 15) := by
  have tb := isT_yes ht
  have mb := isT_yes hm
  unfold addS
  rw [if_pos ht, if_pos hm]
  have e : ¬ m = 0 := fun e => by have := WU_mono h tb.1 tb.2; omega
  rw [if_neg e]
  obtain ⟨a1, a2, a3, _⟩ := add_last h (t := t) (m := m) tb.1 (by omega)
  refine asT_no (isT_big ?_)
  rcases Int.lt_or_le 10000000 (kth l (WU l t + m - 1) + 1) with g | g
  · exact g
  · have := WU_mono h (a := kth l (WU l t + m - 1) + 1) (b := 10000000) (by omega) g; omega
theorem wk_term {l : List P} (h : okL l) {m : Int} {k : Nat} (hk : k < l.length) : wk l m (k + 1) = wk l m k + max 0 (min m (U l k) - F l k) := by
  have := h.fu k hk
  show wk l m k + _ = _
  omega
end Go.Proofs.YthpopopodjgdaaaDoor
