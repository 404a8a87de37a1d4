/- Plain facts about working time: first errors, the minutes worked before a time, the time of a minute (no program). -/
import Derived.WalkKit
import Derived.ProofKit
set_option linter.unusedVariables false
set_option linter.unusedSimpArgs false
namespace Go.Proofs.YthpopopodjgdaaaDoor
open Go.RowKit
namespace Km
abbrev P := Int × Int
def fstF (f : Nat → Bool) : Nat → Nat → Nat
  | 0, a => a
  | k + 1, a => if f a then a else fstF f k (a + 1)
theorem fstF_eq {f : Nat → Bool} {j : Nat} : ∀ (k a : Nat), (∀ i, a ≤ i → i < j → f i = false) → a ≤ j → j ≤ a + k → (j = a + k ∨ f j = true) → fstF f k a = j
  | 0, a, _, h1, h2, _ => by show a = j; omega
  | k + 1, a, h, h1, h2, h3 => by
    show (if f a then a else fstF f k (a + 1)) = j
    by_cases e : a = j
    · subst e
      rcases h3 with h3 | h3
      · omega
      · rw [if_pos h3]
    · rw [h a (Nat.le_refl _) (by omega), if_neg (by decide)]
      exact fstF_eq k (a + 1) (fun i hi hj => h i (by omega) hj) (by omega) (by omega) (by rcases h3 with h3 | h3; exact .inl (by omega); exact .inr h3)
/-- the first of n errors -/
def firstE (f : Nat → Nat) (n : Nat) : Nat := if fstF (fun i => f i != 0) n 0 < n then f (fstF (fun i => f i != 0) n 0) else 0
theorem firstE_hit {f : Nat → Nat} {n k : Nat} (h : ∀ i, i < k → f i = 0) (hk : k < n) (h0 : f k ≠ 0) : firstE f n = f k := by
  unfold firstE
  rw [fstF_eq (j := k) n 0 (fun i _ hi => by rw [h i hi]; rfl) (Nat.zero_le _) (by omega) (.inr (by simpa using h0)), if_pos hk]
theorem firstE_none {f : Nat → Nat} {n : Nat} (h : ∀ i, i < n → f i = 0) : firstE f n = 0 := by
  unfold firstE
  rw [fstF_eq (j := n) n 0 (fun i _ hi => by rw [h i hi]; rfl) (Nat.zero_le _) (by omega) (.inl (by omega)), if_neg (by omega)]
theorem firstE_zero {f : Nat → Nat} {n : Nat} (h : firstE f n = 0) : ∀ i, i < n → f i = 0 := by
  have all : ∀ k, k ≤ n → ∀ i, i < k → f i = 0 := by
    intro k
    induction k with
    | zero => intro _ i hi; omega
    | succ k ih =>
      intro hk i hi
      by_cases e : i = k
      · subst e
        refine Decidable.byContradiction fun g => ?_
        rw [firstE_hit (ih (by omega)) (by omega) g] at h
        exact g h
      · exact ih (by omega) i (by omega)
  exact all n (Nat.le_refl _)
def F (l : List P) (i : Nat) : Int := (l.getD i (0, 0)).1
def U (l : List P) (i : Nat) : Int := (l.getD i (0, 0)).2
/-- the end of the shift before -/
def PU (l : List P) (i : Nat) : Int := if i = 0 then 0 else U l (i - 1)
theorem PU_zero (l : List P) : PU l 0 = 0 := rfl
theorem PU_succ (l : List P) (i : Nat) : PU l (i + 1) = U l i := rfl
def errC (l : List P) (i : Nat) : Nat := if F l i < 0 ∨ U l i ≤ F l i ∨ 10080 < U l i then 9 else if F l i < PU l i then 11 else 0
def chk (l : List P) : Nat := if l.length = 0 then 3 else if 21 < l.length then 4 else firstE (errC l) l.length
structure okL (l : List P) : Prop where
  one : 0 < l.length
  few : l.length ≤ 21
  f0 : ∀ i, i < l.length → 0 ≤ F l i
  fu : ∀ i, i < l.length → F l i < U l i
  uw : ∀ i, i < l.length → U l i ≤ 10080
  up : ∀ i, i < l.length → PU l i ≤ F l i
theorem errC_nine {l : List P} {i : Nat} (h : F l i < 0 ∨ U l i ≤ F l i ∨ 10080 < U l i) : errC l i = 9 := by unfold errC; rw [if_pos h]
theorem errC_eleven {l : List P} {i : Nat} (h : ¬ (F l i < 0 ∨ U l i ≤ F l i ∨ 10080 < U l i)) (h1 : F l i < PU l i) : errC l i = 11 := by unfold errC; rw [if_neg h, if_pos h1]
theorem errC_zero {l : List P} {i : Nat} (h : ¬ (F l i < 0 ∨ U l i ≤ F l i ∨ 10080 < U l i)) (h1 : ¬ F l i < PU l i) : errC l i = 0 := by unfold errC; rw [if_neg h, if_neg h1]
theorem errC_ok {l : List P} {i : Nat} (h : errC l i = 0) : 0 ≤ F l i ∧ F l i < U l i ∧ U l i ≤ 10080 ∧ PU l i ≤ F l i := by
  unfold errC at h
  by_cases g : F l i < 0 ∨ U l i ≤ F l i ∨ 10080 < U l i
  · rw [if_pos g] at h; cases h
  · rw [if_neg g] at h
    by_cases k : F l i < PU l i
    · rw [if_pos k] at h; cases h
    · omega
theorem chk_zero {l : List P} (h : chk l = 0) : okL l := by
  unfold chk at h
  by_cases h1 : l.length = 0
  · rw [if_pos h1] at h; cases h
  · rw [if_neg h1] at h
    by_cases h2 : 21 < l.length
    · rw [if_pos h2] at h; cases h
    · rw [if_neg h2] at h
      have h3 := firstE_zero h
      exact ⟨by omega, by omega, fun i hi => (errC_ok (h3 i hi)).1, fun i hi => (errC_ok (h3 i hi)).2.1, fun i hi => (errC_ok (h3 i hi)).2.2.1, fun i hi => (errC_ok (h3 i hi)).2.2.2⟩
theorem chk_ok {l : List P} (h : okL l) : chk l = 0 := by
  unfold chk
  rw [if_neg (by have := h.one; omega), if_neg (by have := h.few; omega)]
  exact firstE_none fun i hi => errC_zero (by have := h.f0 i hi; have := h.fu i hi; have := h.uw i hi; omega) (by have := h.up i hi; omega)
theorem chk_mid {l : List P} (h0 : 0 < l.length) (h1 : l.length ≤ 21) : chk l = firstE (errC l) l.length := by unfold chk; rw [if_neg (by omega), if_neg (by omega)]
/-- the length of the first k shifts -/
def SW (l : List P) : Nat → Int
  | 0 => 0
  | k + 1 => SW l k + (U l k - F l k)
/-- what the first k shifts work before minute m of a week -/
def wk (l : List P) (m : Int) : Nat → Int
  | 0 => 0
  | k + 1 => wk l m k + (min (max m (F l k)) (U l k) - F l k)
def WU (l : List P) (t : Int) : Int := t / 10080 * SW l l.length + wk l (t % 10080) l.length
def opn (l : List P) (t : Int) : Prop := ∃ i, i < l.length ∧ F l i ≤ t % 10080 ∧ t % 10080 < U l i
theorem U_le {l : List P} (h : okL l) {i j : Nat} (hij : i < j) (hj : j < l.length) : U l i ≤ F l j := by
  obtain ⟨d, rfl⟩ : ∃ d, j = i + d + 1 := ⟨j - i - 1, by omega⟩
  induction d with
  | zero => exact h.up (i + 1) hj
  | succ d ih =>
    have h1 := ih (by omega) (by omega)
    have h2 := h.fu (i + d + 1) (by omega)
    have h3 := h.up (i + d + 1 + 1) hj
    rw [PU_succ] at h3
    show U l i ≤ F l (i + d + 1 + 1)
    omega
theorem wk_low {l : List P} {m : Int} (h : okL l) : ∀ k, k ≤ l.length → (∀ j, j < k → U l j ≤ m) → wk l m k = SW l k
  | 0, _, _ => rfl
  | k + 1, hk, hj => by
    show wk l m k + _ = SW l k + _
    rw [wk_low h k (by omega) fun j hj2 => hj j (by omega)]
    have h1 := hj k (by omega)
    have h2 := h.fu k (by omega)
    omega
theorem wk_high {l : List P} {m : Int} (h : okL l) (i : Nat) : ∀ d, i + d ≤ l.length → (∀ j, i ≤ j → j < i + d → m ≤ F l j) → wk l m (i + d) = wk l m i
  | 0, _, _ => rfl
  | d + 1, hk, hj => by
    show wk l m (i + d) + (min (max m (F l (i + d))) (U l (i + d)) - F l (i + d)) = wk l m i
    rw [wk_high h i d (by omega) fun j h1 h2 => hj j h1 (by omega)]
    have h1 := hj (i + d) (by omega) (by omega)
    have h2 := h.fu (i + d) (by omega)
    omega
/-- between shift i - 1 and shift i -/
theorem wk_gap {l : List P} {m : Int} (h : okL l) {i : Nat} (hi : i ≤ l.length) (h1 : PU l i ≤ m) (h2 : i < l.length → m ≤ F l i) : wk l m l.length = SW l i := by
  have e := wk_high (m := m) h i (l.length - i) (by omega) fun j h3 h4 => by
    by_cases g : i = j
    · subst g; exact h2 (by omega)
    · have q1 := h2 (by omega)
      have q2 := U_le h (i := i) (j := j) (by omega) (by omega)
      have q3 := h.fu i (by omega)
      omega
  rw [show i + (l.length - i) = l.length by omega] at e
  rw [e]
  refine wk_low h i hi fun j hj => ?_
  obtain ⟨d, rfl⟩ : ∃ d, i = d + 1 := ⟨i - 1, by omega⟩
  rw [PU_succ] at h1
  by_cases g : j = d
  · rw [g]; exact h1
  · have q2 := U_le h (i := j) (j := d) (by omega) (by omega)
    have q3 := h.fu d (by omega)
    omega
/-- in shift i -/
theorem wk_in {l : List P} {m : Int} (h : okL l) {i : Nat} (hi : i < l.length) (h1 : F l i ≤ m) (h2 : m ≤ U l i) : wk l m l.length = SW l i + (m - F l i) := by
  have e := wk_high (m := m) h (i + 1) (l.length - (i + 1)) (by omega) fun j h3 h4 => by
    have q2 := U_le h (i := i) (j := j) (by omega) (by omega)
    omega
  rw [show i + 1 + (l.length - (i + 1)) = l.length by omega] at e
  rw [e]
  show wk l m i + _ = _
  rw [wk_low h i (by omega) fun j hj => by have := U_le h (i := j) (j := i) hj hi; omega]
  omega
/-- a minute lies in a shift or between two -/
theorem where_ {l : List P} (h : okL l) {m : Int} (hm : 0 ≤ m) : (∃ i, i < l.length ∧ F l i ≤ m ∧ m < U l i) ∨ ∃ i, i ≤ l.length ∧ PU l i ≤ m ∧ (i < l.length → m < F l i) := by
  have go : ∀ k, k ≤ l.length → (∃ i, i < l.length ∧ F l i ≤ m ∧ m < U l i) ∨ (∃ i, i < k ∧ i ≤ l.length ∧ PU l i ≤ m ∧ (i < l.length → m < F l i)) ∨ PU l k ≤ m := by
    intro k
    induction k with
    | zero => intro _; exact .inr (.inr hm)
    | succ k ih =>
      intro hk
      rcases ih (by omega) with g | ⟨i, g1, g2⟩ | g
      · exact .inl g
      · exact .inr (.inl ⟨i, by omega, g2⟩)
      · by_cases h1 : m < F l k
        · exact .inr (.inl ⟨k, by omega, by omega, g, fun _ => h1⟩)
        · by_cases h2 : m < U l k
          · exact .inl ⟨k, by omega, by omega, h2⟩
          · exact .inr (.inr (by rw [PU_succ]; omega))
  rcases go l.length (Nat.le_refl _) with g | ⟨i, _, g2⟩ | g
  · exact .inl g
  · exact .inr ⟨i, g2⟩
  · exact .inr ⟨l.length, Nat.le_refl _, g, fun h => by omega⟩
theorem SW_pos {l : List P} (h : okL l) : ∀ k, k ≤ l.length → (k : Int) ≤ SW l k
  | 0, _ => Int.le_refl _
  | k + 1, hk => by
    have h1 := SW_pos h k (by omega)
    have h2 := h.fu k (by omega)
    show ((k + 1 : Nat) : Int) ≤ SW l k + _
    omega
theorem SW_le {l : List P} (h : okL l) : ∀ k, k ≤ l.length → SW l k ≤ PU l k
  | 0, _ => Int.le_refl _
  | k + 1, hk => by
    have h1 := SW_le h k (by omega)
    have h2 := h.up k (by omega)
    rw [PU_succ]
    show SW l k + _ ≤ _
    omega
theorem W_bd {l : List P} (h : okL l) : 1 ≤ SW l l.length ∧ SW l l.length ≤ 10080 := by
  have h1 := SW_pos h l.length (Nat.le_refl _)
  have h2 := SW_le h l.length (Nat.le_refl _)
  have h3 := h.one
  obtain ⟨d, hd⟩ : ∃ d, l.length = d + 1 := ⟨l.length - 1, by omega⟩
  have h4 := h.uw d (by omega)
  rw [hd, PU_succ] at h2
  rw [hd] at h1 ⊢
  omega
theorem SW_mono {l : List P} (h : okL l) {i : Nat} : ∀ d, i + d ≤ l.length → SW l i ≤ SW l (i + d)
  | 0, _ => Int.le_refl _
  | d + 1, hd => by
    have h1 := SW_mono h (i := i) d (by omega)
    have h2 := h.fu (i + d) (by omega)
    show SW l i ≤ SW l (i + d) + (U l (i + d) - F l (i + d))
    omega
theorem wk_week {l : List P} (h : okL l) : wk l 10080 l.length = SW l l.length := wk_low h _ (Nat.le_refl _) fun j hj => h.uw j hj
theorem wk_zero {l : List P} (h : okL l) : wk l 0 l.length = 0 := wk_gap h (i := 0) (Nat.zero_le _) (Int.le_refl _) fun hi => h.f0 0 hi
theorem wk_bd {l : List P} (h : okL l) {m : Int} (hm : 0 ≤ m) : 0 ≤ wk l m l.length ∧ wk l m l.length ≤ SW l l.length := by
  rcases where_ h hm with ⟨i, hi, h1, h2⟩ | ⟨i, hi, h1, h2⟩
  · rw [wk_in h hi h1 (by omega)]
    have q1 := SW_pos h i (by omega)
    have q2 := SW_mono h (i := i + 1) (l.length - (i + 1)) (by omega)
    rw [show i + 1 + (l.length - (i + 1)) = l.length by omega] at q2
    have q3 : SW l (i + 1) = SW l i + (U l i - F l i) := rfl
    omega
  · rw [wk_gap h hi h1 fun q => by have := h2 q; omega]
    have q1 := SW_pos h i hi
    have q2 := SW_mono h (i := i) (l.length - i) (by omega)
    rw [show i + (l.length - i) = l.length by omega] at q2
    omega
theorem wk_step_in {l : List P} (h : okL l) {m : Int} {i : Nat} (hi : i < l.length) (h1 : F l i ≤ m) (h2 : m < U l i) : wk l (m + 1) l.length = wk l m l.length + 1 := by
  rw [wk_in h hi h1 (by omega), wk_in h hi (by omega) (by omega)]; omega
theorem wk_step_gap {l : List P} (h : okL l) {m : Int} {i : Nat} (hi : i ≤ l.length) (h1 : PU l i ≤ m) (h2 : i < l.length → m < F l i) : wk l (m + 1) l.length = wk l m l.length := by
  rw [wk_gap h hi h1 fun q => by have := h2 q; omega, wk_gap h hi (by omega) fun q => by have := h2 q; omega]
theorem WU_next {l : List P} (h : okL l) {t : Int} (ht : 0 ≤ t) : WU l (t + 1) = t / 10080 * SW l l.length + wk l (t % 10080 + 1) l.length := by
  unfold WU
  by_cases g : t % 10080 = 10079
  · rw [show (t + 1) / 10080 = t / 10080 + 1 by omega, show (t + 1) % 10080 = 0 by omega, g, show (10079 : Int) + 1 = 10080 from rfl, wk_zero h, wk_week h, Int.add_mul]
    omega
  · rw [show (t + 1) / 10080 = t / 10080 by omega, show (t + 1) % 10080 = t % 10080 + 1 by omega]
theorem WU_open {l : List P} (h : okL l) {t : Int} (ht : 0 ≤ t) (ho : opn l t) : WU l (t + 1) = WU l t + 1 := by
  obtain ⟨i, hi, h1, h2⟩ := ho
  rw [WU_next h ht, wk_step_in h hi h1 h2]
  unfold WU; omega
theorem WU_shut {l : List P} (h : okL l) {t : Int} (ht : 0 ≤ t) (ho : ¬ opn l t) : WU l (t + 1) = WU l t := by
  rcases where_ h (m := t % 10080) (by omega) with g | ⟨i, hi, h1, h2⟩
  · exact absurd g ho
  · rw [WU_next h ht, wk_step_gap h hi h1 h2]; rfl
theorem WU_mono {l : List P} (h : okL l) {a b : Int} (ha : 0 ≤ a) (hab : a ≤ b) : WU l a ≤ WU l b := by
  obtain ⟨d, rfl⟩ : ∃ d : Nat, b = a + d := ⟨(b - a).toNat, by omega⟩
  clear hab
  induction d with
  | zero => rw [show a + ((0 : Nat) : Int) = a by omega]; exact Int.le_refl _
  | succ d ih =>
    rw [show a + ((d + 1 : Nat) : Int) = a + d + 1 by omega]
    by_cases g : opn l (a + d)
    · rw [WU_open h (by omega) g]; omega
    · rw [WU_shut h (by omega) g]; exact ih
theorem WU_lt {l : List P} (h : okL l) {a b : Int} (ha : 0 ≤ a) (ho : opn l a) (hab : a < b) : WU l a + 1 ≤ WU l b := by
  rw [← WU_open h ha ho]; exact WU_mono h (by omega) (by omega)
theorem WU_bd {l : List P} (h : okL l) {t : Int} (ht : 0 ≤ t) : 0 ≤ WU l t ∧ WU l t ≤ t / 10080 * 10080 + 10080 := by
  have h1 := wk_bd h (m := t % 10080) (by omega)
  have h2 := W_bd h
  unfold WU
  have q : 0 ≤ t / 10080 := by omega
  have q1 : 0 ≤ t / 10080 * SW l l.length := Int.mul_nonneg q (by omega)
  have q2 : t / 10080 * SW l l.length ≤ t / 10080 * 10080 := Int.mul_le_mul_of_nonneg_left h2.2 q
  omega
theorem open_unique {l : List P} (h : okL l) {a b : Int} (ha : 0 ≤ a) (hb : 0 ≤ b) (oa : opn l a) (ob : opn l b) (e : WU l a = WU l b) : a = b := by
  rcases Int.lt_trichotomy a b with g | g | g
  · have := WU_lt h ha oa g; omega
  · exact g
  · have := WU_lt h hb ob g; omega
/-- the minute of the week behind i rounds of minuteAfter -/
def ms (l : List P) (k : Int) : Nat → Int
  | 0 => k
  | i + 1 => if PU l i ≤ ms l k i then ms l k i + (F l i - PU l i) else ms l k i
theorem ms_next {l : List P} {k : Int} (i : Nat) : ms l k (i + 1) = if PU l i ≤ ms l k i then ms l k i + (F l i - PU l i) else ms l k i := rfl
theorem ms_spec {l : List P} (h : okL l) {k : Int} (hk : 0 ≤ k) : ∀ i, i ≤ l.length → (SW l i ≤ k ∧ ms l k i = PU l i + (k - SW l i)) ∨ ∃ j, j < i ∧ SW l j ≤ k ∧ ms l k i = F l j + (k - SW l j) ∧ ms l k i < U l j
  | 0, _ => .inl ⟨hk, by show k = 0 + (k - 0); omega⟩
  | i + 1, hi => by
    rw [ms_next]
    rcases ms_spec h hk i (by omega) with ⟨h1, h2⟩ | ⟨j, h1, h2, h3, h4⟩
    · have e : SW l (i + 1) = SW l i + (U l i - F l i) := rfl
      rw [if_pos (by omega)]
      by_cases g : SW l (i + 1) ≤ k
      · exact .inl ⟨g, by rw [PU_succ]; omega⟩
      · exact .inr ⟨i, by omega, h1, by omega, by omega⟩
    · have hp : ¬ PU l i ≤ ms l k i := by
        obtain ⟨d, rfl⟩ : ∃ d, i = d + 1 := ⟨i - 1, by omega⟩
        rw [PU_succ]
        by_cases g : j = d
        · subst g; omega
        · have q1 := U_le h (i := j) (j := d) (by omega) (by omega)
          have q2 := h.fu d (by omega)
          omega
      rw [if_neg hp]
      exact .inr ⟨j, by omega, h2, h3, h4⟩
theorem ms_bd {l : List P} (h : okL l) {k : Int} (hk : 0 ≤ k) (hk2 : k ≤ 10080) {i : Nat} (hi : i ≤ l.length) : 0 ≤ ms l k i ∧ ms l k i ≤ 30240 := by
  rcases ms_spec h hk i hi with ⟨h1, h2⟩ | ⟨j, h1, h2, h3, h4⟩
  · have := SW_pos h i hi
    have : 0 ≤ PU l i ∧ PU l i ≤ 10080 := by
      by_cases e : i = 0
      · subst e; exact ⟨Int.le_refl _, by show (0 : Int) ≤ _; omega⟩
      · obtain ⟨d, rfl⟩ : ∃ d, i = d + 1 := ⟨i - 1, by omega⟩
        rw [PU_succ]
        have := h.f0 d (by omega); have := h.fu d (by omega); have := h.uw d (by omega)
        omega
    omega
  · have := h.f0 j (by omega); have := h.uw j (by omega)
    omega
/-- the time of the k-th working minute -/
def kth (l : List P) (k : Int) : Int := k / SW l l.length * 10080 + ms l (k % SW l l.length) l.length
theorem kth_spec {l : List P} (h : okL l) {k : Int} (hk : 0 ≤ k) : 0 ≤ kth l k ∧ opn l (kth l k) ∧ WU l (kth l k) = k := by
  have hw := W_bd h
  have hq : 0 ≤ k / SW l l.length := Int.ediv_nonneg hk (by omega)
  have hr : 0 ≤ k % SW l l.length := Int.emod_nonneg _ (by omega)
  have hr2 : k % SW l l.length < SW l l.length := Int.emod_lt_of_pos _ (by omega)
  rcases ms_spec h hr l.length (Nat.le_refl _) with ⟨h1, _⟩ | ⟨j, h1, h2, h3, h4⟩
  · omega
  · have hj0 := h.f0 j h1
    have hjw := h.uw j h1
    have e1 : kth l k / 10080 = k / SW l l.length := by unfold kth; omega
    have e2 : kth l k % 10080 = ms l (k % SW l l.length) l.length := by unfold kth; omega
    refine ⟨by unfold kth; omega, ⟨j, h1, by rw [e2]; omega, by rw [e2]; exact h4⟩, ?_⟩
    unfold WU
    rw [e1, e2, wk_in h h1 (by omega) (by omega), h3]
    have := Int.mul_ediv_add_emod k (SW l l.length)
    rw [Int.mul_comm] at this
    omega
theorem kth_ge {l : List P} (h : okL l) {t k : Int} (ht : 0 ≤ t) (hk : WU l t ≤ k) : t ≤ kth l k := by
  have hk0 : 0 ≤ k := Int.le_trans (WU_bd h ht).1 hk
  obtain ⟨h1, h2, h3⟩ := kth_spec h hk0
  rcases Int.lt_or_le (kth l k) t with g | g
  · have := WU_lt h h1 h2 g; omega
  · exact g
theorem kth_of {l : List P} (h : okL l) {t : Int} (ht : 0 ≤ t) (ho : opn l t) : kth l (WU l t) = t := by
  obtain ⟨h1, h2, h3⟩ := kth_spec h (WU_bd h ht).1
  exact open_unique h h1 ht h2 ho h3
theorem kth_le {l : List P} (h : okL l) {k : Int} (hk : 0 ≤ k) (hk2 : k ≤ 40000000) : kth l k ≤ 40000000 * 10080 + 30240 := by
  have hw := W_bd h
  have hr : 0 ≤ k % SW l l.length := Int.emod_nonneg _ (by omega)
  have hr2 : k % SW l l.length < SW l l.length := Int.emod_lt_of_pos _ (by omega)
  have h1 := ms_bd h hr (by omega) (Nat.le_refl l.length)
  have h2 : k / SW l l.length ≤ k := Int.ediv_le_self _ hk
  unfold kth
  omega
end Km
end Go.Proofs.YthpopopodjgdaaaDoor
