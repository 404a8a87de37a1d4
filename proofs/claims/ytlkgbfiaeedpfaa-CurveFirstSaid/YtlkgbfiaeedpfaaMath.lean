/- Plain facts about curves and grids: first errors, interpolation, the first x (no program). -/
import Derived.WalkKit
import Derived.ProofKit
set_option linter.unusedVariables false
set_option linter.unusedSimpArgs false
namespace Go.Proofs.Ytlkgbfiaeedpfaa
open Go.RowKit
namespace Cm
abbrev P := Int × Int
/-- a number of a curve -/
def inR (n : Int) : Bool := decide (-1000000 ≤ n) && decide (n ≤ 1000000)
theorem inR_yes {n : Int} (h : inR n = true) : -1000000 ≤ n ∧ n ≤ 1000000 := by
  unfold inR at h; rw [Bool.and_eq_true, decide_eq_true_eq, decide_eq_true_eq] at h; exact h
theorem inR_mk {n : Int} (h : -1000000 ≤ n) (k : n ≤ 1000000) : inR n = true := by
  unfold inR; rw [Bool.and_eq_true, decide_eq_true_eq, decide_eq_true_eq]; exact ⟨h, k⟩
/-- the first index from a up to n at which f holds, or n -/
def fstF (f : Nat → Bool) : Nat → Nat → Nat
  | 0, a => a
  | k + 1, a => if f a then a else fstF f k (a + 1)
def fst (f : Nat → Bool) (a n : Nat) : Nat := fstF f (n - a) a
theorem fstF_eq {f : Nat → Bool} {j : Nat} : ∀ (k a : Nat), (∀ i, a ≤ i → i < j → f i = false) → a ≤ j → j ≤ a + k → (j = a + k ∨ f j = true) → fstF f k a = j
  | 0, a, _, h1, h2, _ => by show a = j; omega
  | k + 1, a, h, h1, h2, h3 => by
    show (if f a then a else fstF f k (a + 1)) = j
    by_cases e : a = j
    · subst e
      rcases h3 with h3 | h3
      · omega
      · rw [if_pos h3]
    · rw [h a (Nat.le_refl _) (by omega), if_neg (by decide)]
      exact fstF_eq k (a + 1) (fun i hi hj => h i (by omega) hj) (by omega) (by omega) (by rcases h3 with h3 | h3; exact .inl (by omega); exact .inr h3)
theorem fst_eq {f : Nat → Bool} {a n j : Nat} (h : ∀ i, a ≤ i → i < j → f i = false) (h1 : a ≤ j) (h2 : j ≤ n) (h3 : j = n ∨ f j = true) : fst f a n = j :=
  fstF_eq _ _ h h1 (by omega) (by rcases h3 with h3 | h3; exact .inl (by omega); exact .inr h3)
theorem fstF_spec (f : Nat → Bool) : ∀ (k a : Nat), a ≤ fstF f k a ∧ fstF f k a ≤ a + k ∧ (∀ i, a ≤ i → i < fstF f k a → f i = false) ∧ (fstF f k a = a + k ∨ f (fstF f k a) = true)
  | 0, a => ⟨Nat.le_refl _, Nat.le_refl _, fun i h1 h2 => by have : i < a := h2; omega, .inl rfl⟩
  | k + 1, a => by
    show a ≤ (if f a then a else fstF f k (a + 1)) ∧ (if f a then a else fstF f k (a + 1)) ≤ a + (k + 1) ∧ (∀ i, a ≤ i → i < (if f a then a else fstF f k (a + 1)) → f i = false) ∧ ((if f a then a else fstF f k (a + 1)) = a + (k + 1) ∨ f (if f a then a else fstF f k (a + 1)) = true)
    cases e : f a with
    | true => rw [if_pos rfl]; exact ⟨Nat.le_refl _, by omega, fun i h1 h2 => by omega, .inr e⟩
    | false =>
      rw [if_neg (by decide)]
      obtain ⟨h1, h2, h3, h4⟩ := fstF_spec f k (a + 1)
      refine ⟨by omega, by omega, fun i g1 g2 => ?_, by rcases h4 with h4 | h4; exact .inl (by omega); exact .inr h4⟩
      by_cases g : i = a
      · rw [g]; exact e
      · exact h3 i (by omega) g2
theorem fst_spec (f : Nat → Bool) {a n : Nat} (h : a ≤ n) : a ≤ fst f a n ∧ fst f a n ≤ n ∧ (∀ i, a ≤ i → i < fst f a n → f i = false) ∧ (fst f a n = n ∨ f (fst f a n) = true) := by
  obtain ⟨h1, h2, h3, h4⟩ := fstF_spec f (n - a) a
  rw [show a + (n - a) = n by omega] at h2 h4
  exact ⟨h1, h2, h3, h4⟩
/-- the first of n errors -/
def firstE (f : Nat → Nat) (n : Nat) : Nat := if fst (fun i => f i != 0) 0 n < n then f (fst (fun i => f i != 0) 0 n) else 0
theorem firstE_hit {f : Nat → Nat} {n k : Nat} (h : ∀ i, i < k → f i = 0) (hk : k < n) (h0 : f k ≠ 0) : firstE f n = f k := by
  unfold firstE
  rw [fst_eq (j := k) (fun i _ hi => by rw [h i hi]; rfl) (Nat.zero_le _) (by omega) (.inr (by simpa using h0)), if_pos hk]
theorem firstE_none {f : Nat → Nat} {n : Nat} (h : ∀ i, i < n → f i = 0) : firstE f n = 0 := by
  unfold firstE
  rw [fst_eq (j := n) (fun i _ hi => by rw [h i hi]; rfl) (Nat.zero_le _) (Nat.le_refl _) (.inl rfl), if_neg (by omega)]
theorem firstE_zero {f : Nat → Nat} {n : Nat} (h : firstE f n = 0) : ∀ i, i < n → f i = 0 := by
  obtain ⟨h1, h2, h3, h4⟩ := fst_spec (fun i => f i != 0) (Nat.zero_le n)
  unfold firstE at h
  by_cases g : fst (fun i => f i != 0) 0 n < n
  · rw [if_pos g] at h
    rcases h4 with h4 | h4
    · omega
    · simp [h] at h4
  · intro i hi
    have := h3 i (Nat.zero_le _) (by omega)
    simpa using this
def X (l : List P) (i : Nat) : Int := (l.getD i (0, 0)).1
def Y (l : List P) (i : Nat) : Int := (l.getD i (0, 0)).2
def errA (l : List P) (i : Nat) : Nat := if inR (X l i) = true ∧ inR (Y l i) = true then (if 0 < i ∧ X l i ≤ X l (i - 1) then 11 else 0) else 9
def chk (l : List P) : Nat := if l.length = 0 then 3 else if 16 < l.length then 4 else firstE (errA l) l.length
structure okC (l : List P) : Prop where
  one : 0 < l.length
  few : l.length ≤ 16
  inx : ∀ i, i < l.length → -1000000 ≤ X l i ∧ X l i ≤ 1000000
  iny : ∀ i, i < l.length → -1000000 ≤ Y l i ∧ Y l i ≤ 1000000
  up : ∀ i, 0 < i → i < l.length → X l (i - 1) < X l i
theorem errA_zero {l : List P} {i : Nat} (h : errA l i = 0) : (-1000000 ≤ X l i ∧ X l i ≤ 1000000) ∧ (-1000000 ≤ Y l i ∧ Y l i ≤ 1000000) ∧ (0 < i → X l (i - 1) < X l i) := by
  unfold errA at h
  by_cases g : inR (X l i) = true ∧ inR (Y l i) = true
  · rw [if_pos g] at h
    by_cases k : 0 < i ∧ X l i ≤ X l (i - 1)
    · rw [if_pos k] at h; cases h
    · exact ⟨inR_yes g.1, inR_yes g.2, fun h0 => by omega⟩
  · rw [if_neg g] at h; cases h
theorem errA_ok {l : List P} {i : Nat} (h1 : -1000000 ≤ X l i ∧ X l i ≤ 1000000) (h2 : -1000000 ≤ Y l i ∧ Y l i ≤ 1000000) (h3 : 0 < i → X l (i - 1) < X l i) : errA l i = 0 := by
  unfold errA
  rw [if_pos ⟨inR_mk h1.1 h1.2, inR_mk h2.1 h2.2⟩, if_neg (by omega)]
theorem chk_zero {l : List P} (h : chk l = 0) : okC l := by
  unfold chk at h
  by_cases h1 : l.length = 0
  · rw [if_pos h1] at h; cases h
  · rw [if_neg h1] at h
    by_cases h2 : 16 < l.length
    · rw [if_pos h2] at h; cases h
    · rw [if_neg h2] at h
      have h3 := firstE_zero h
      exact ⟨by omega, by omega, fun i hi => (errA_zero (h3 i hi)).1, fun i hi => (errA_zero (h3 i hi)).2.1, fun i h0 hi => (errA_zero (h3 i hi)).2.2 h0⟩
theorem chk_ok {l : List P} (h : okC l) : chk l = 0 := by
  unfold chk
  rw [if_neg (by have := h.one; omega), if_neg (by have := h.few; omega)]
  exact firstE_none fun i hi => errA_ok (h.inx i hi) (h.iny i hi) fun h0 => h.up i h0 hi
theorem chk_lt (l : List P) : chk l < 20 := by
  have hA : ∀ i, errA l i < 20 := fun i => by unfold errA; split <;> (try split) <;> omega
  unfold chk firstE
  split
  · omega
  · split
    · omega
    · split
      · exact hA _
      · omega
/-- ascending numbers -/
def asc (p : Nat → Int) (m : Nat) : Prop := ∀ i, 0 < i → i < m → p (i - 1) < p i
theorem asc_lt {p : Nat → Int} {m : Nat} (h : asc p m) : ∀ d i : Nat, i + d + 1 < m → p i < p (i + d + 1)
  | 0, i, hi => h (i + 1) (by omega) hi
  | d + 1, i, hi => by
    have h1 := asc_lt h d i (by omega)
    have h2 := h (i + d + 1 + 1) (by omega) hi
    rw [Nat.add_sub_cancel] at h2
    exact Int.lt_trans h1 h2
theorem asc_le {p : Nat → Int} {m i j : Nat} (h : asc p m) (hij : i ≤ j) (hj : j < m) : p i ≤ p j := by
  by_cases e : i = j
  · subst e; exact Int.le_refl _
  · have := asc_lt h (j - i - 1) i (by omega)
    rw [show i + (j - i - 1) + 1 = j by omega] at this
    exact Int.le_of_lt this
/-- between a at s and b at t -/
def ip (s a t b n : Int) : Int := a + (b - a) * (n - s) / (t - s)
theorem ip_bd {s a t b n : Int} (h : s < t) (h1 : s ≤ n) (h2 : n ≤ t) : min a b ≤ ip s a t b n ∧ ip s a t b n ≤ max a b := by
  unfold ip
  have ht : 0 < t - s := by omega
  by_cases hab : a ≤ b
  · have l1 : 0 ≤ (b - a) * (n - s) := Int.mul_nonneg (by omega) (by omega)
    have l2 : (b - a) * (n - s) ≤ (b - a) * (t - s) := Int.mul_le_mul_of_nonneg_left (by omega) (by omega)
    have l3 : 0 ≤ (b - a) * (n - s) / (t - s) := Int.ediv_nonneg l1 (by omega)
    have l4 : (b - a) * (n - s) / (t - s) ≤ b - a := by
      have := Int.ediv_le_ediv ht l2
      rw [Int.mul_ediv_cancel _ (by omega)] at this; exact this
    omega
  · have l1 : (b - a) * (n - s) ≤ 0 := Int.mul_nonpos_of_nonpos_of_nonneg (by omega) (by omega)
    have l2 : (b - a) * (t - s) ≤ (b - a) * (n - s) := Int.mul_le_mul_of_nonpos_left (by omega) (by omega)
    have l3 : (b - a) * (n - s) / (t - s) ≤ 0 := by
      have := Int.ediv_le_ediv ht l1
      simpa using this
    have l4 : b - a ≤ (b - a) * (n - s) / (t - s) := by
      have := Int.ediv_le_ediv ht l2
      rw [Int.mul_ediv_cancel _ (by omega)] at this; exact this
    omega
theorem ip_end {s a t b : Int} (h : s < t) : ip s a t b t = b := by
  unfold ip; rw [Int.mul_ediv_cancel _ (by omega)]; omega
theorem ip_start {s a t b : Int} : ip s a t b s = a := by
  unfold ip; rw [Int.sub_self, Int.mul_zero, Int.zero_ediv, Int.add_zero]
theorem ip_mono {s a t b n m : Int} (h : s < t) (hab : a ≤ b) (hnm : n ≤ m) : ip s a t b n ≤ ip s a t b m := by
  unfold ip
  have := Int.ediv_le_ediv (a := (b - a) * (n - s)) (b := (b - a) * (m - s)) (c := t - s) (by omega) (Int.mul_le_mul_of_nonneg_left (by omega) (by omega))
  omega
/-- the place of n among m ascending numbers, behind the first one -/
def seg (p : Nat → Int) (m : Nat) (n : Int) : Nat := fst (fun i => decide (n ≤ p i)) 1 m
def alS (p v : Nat → Int) (m : Nat) (n : Int) : Int :=
  if n ≤ p 0 then v 0 else if seg p m n < m then ip (p (seg p m n - 1)) (v (seg p m n - 1)) (p (seg p m n)) (v (seg p m n)) n else v (m - 1)
theorem al_lo {p v : Nat → Int} {m : Nat} {n : Int} (h : n ≤ p 0) : alS p v m n = v 0 := by unfold alS; rw [if_pos h]
theorem al_hit {p v : Nat → Int} {m k : Nat} {n : Int} (h : ∀ i, i < k → p i < n) (h1 : 0 < k) (h2 : k < m) (h3 : n ≤ p k) : alS p v m n = ip (p (k - 1)) (v (k - 1)) (p k) (v k) n := by
  unfold alS seg
  rw [if_neg (by have := h 0 h1; omega), fst_eq (f := fun i => decide (n ≤ p i)) (j := k) (fun i _ hi => decide_eq_false (by have := h i hi; omega)) h1 (Nat.le_of_lt h2) (.inr (decide_eq_true h3)), if_pos h2]
theorem al_hi {p v : Nat → Int} {m : Nat} {n : Int} (h : ∀ i, i < m → p i < n) (h1 : 0 < m) : alS p v m n = v (m - 1) := by
  unfold alS seg
  rw [if_neg (by have := h 0 h1; omega), fst_eq (j := m) (fun i _ hi => decide_eq_false (by have := h i hi; omega)) h1 (Nat.le_refl _) (.inl rfl), if_neg (by omega)]
/-- where n lies -/
theorem al_where {p : Nat → Int} {m : Nat} (n : Int) (h0 : 0 < m) : n ≤ p 0 ∨ (∃ k, 0 < k ∧ k < m ∧ n ≤ p k ∧ ∀ i, i < k → p i < n) ∨ (∀ i, i < m → p i < n) := by
  by_cases h : n ≤ p 0
  · exact .inl h
  · obtain ⟨h1, h2, h3, h4⟩ := fst_spec (fun i => decide (n ≤ p i)) (a := 1) (n := m) h0
    have hb : ∀ i, i < fst (fun i => decide (n ≤ p i)) 1 m → p i < n := fun i hi => by
      by_cases e : i = 0
      · subst e; omega
      · have := h3 i (by omega) hi; have := of_decide_eq_false this; omega
    rcases h4 with h4 | h4
    · exact .inr (.inr fun i hi => hb i (by omega))
    · by_cases e : fst (fun i => decide (n ≤ p i)) 1 m = m
      · exact .inr (.inr fun i hi => hb i (by omega))
      · exact .inr (.inl ⟨_, h1, by omega, of_decide_eq_true h4, hb⟩)
theorem al_congr {p v p' v' : Nat → Int} {m : Nat} {n : Int} (h0 : 0 < m) (hp : ∀ i, i < m → p i = p' i) (hv : ∀ i, i < m → v i = v' i) : alS p v m n = alS p' v' m n := by
  rcases al_where (p := p) n h0 with h | ⟨k, h1, h2, h3, h4⟩ | h
  · rw [al_lo h, al_lo (by rw [← hp 0 h0]; exact h), hv 0 h0]
  · rw [al_hit h4 h1 h2 h3, al_hit (p := p') (fun i hi => by rw [← hp i (by omega)]; exact h4 i hi) h1 h2 (by rw [← hp k h2]; exact h3), hp _ h2, hp _ (by omega), hv _ h2, hv _ (by omega)]
  · rw [al_hi h h0, al_hi (p := p') (fun i hi => by rw [← hp i hi]; exact h i hi) h0, hv _ (by omega)]
/-- the value lies between the least and the greatest one -/
theorem al_bd {p v : Nat → Int} {m : Nat} {n lo hi : Int} (ha : asc p m) (h0 : 0 < m) (hv : ∀ i, i < m → lo ≤ v i ∧ v i ≤ hi) : lo ≤ alS p v m n ∧ alS p v m n ≤ hi := by
  rcases al_where (p := p) n h0 with h | ⟨k, h1, h2, h3, h4⟩ | h
  · rw [al_lo h]; exact hv 0 h0
  · rw [al_hit h4 h1 h2 h3]
    have := ip_bd (a := v (k - 1)) (b := v k) (ha k h1 h2) (Int.le_of_lt (h4 (k - 1) (by omega))) h3
    have := hv k h2
    have := hv (k - 1) (by omega)
    omega
  · rw [al_hi h h0]; exact hv _ (by omega)
theorem al_at {p v : Nat → Int} {m k : Nat} (ha : asc p m) (hk : k < m) : alS p v m (p k) = v k := by
  by_cases e : k = 0
  · subst e; exact al_lo (Int.le_refl _)
  · rw [al_hit (k := k) (fun i hi => by have := asc_lt ha (k - i - 1) i (by omega); rw [show i + (k - i - 1) + 1 = k by omega] at this; exact this) (by omega) hk (Int.le_refl _)]
    exact ip_end (ha k (by omega) hk)
theorem al_seg {p v : Nat → Int} {m k : Nat} {n : Int} (ha : asc p m) (h1 : 0 < k) (h2 : k < m) (h3 : p (k - 1) ≤ n) (h4 : n ≤ p k) : alS p v m n = ip (p (k - 1)) (v (k - 1)) (p k) (v k) n := by
  by_cases e : n = p (k - 1)
  · subst e; rw [al_at ha (by omega), ip_start]
  · exact al_hit (fun i hi => Int.lt_of_le_of_lt (asc_le ha (j := k - 1) (by omega) (by omega)) (by omega)) h1 h2 h4
theorem al_end {p v : Nat → Int} {m : Nat} {n : Int} (ha : asc p m) (h0 : 0 < m) (h : p (m - 1) ≤ n) : alS p v m n = v (m - 1) := by
  by_cases e : n = p (m - 1)
  · subst e; exact al_at ha (by omega)
  · exact al_hi (fun i hi => Int.lt_of_le_of_lt (asc_le ha (j := m - 1) (by omega) (by omega)) (by omega)) h0
theorem al_mono {p v : Nat → Int} {m : Nat} {n k : Int} (ha : asc p m) (h0 : 0 < m) (hv : ∀ i, 0 < i → i < m → v (i - 1) ≤ v i) (hnk : n ≤ k) : alS p v m n ≤ alS p v m k := by
  have mono : ∀ d i : Nat, i + d < m → v i ≤ v (i + d) := by
    intro d
    induction d with
    | zero => intro i _; exact Int.le_refl _
    | succ d ih => intro i hi; have h1 := ih i (by omega); have h2 := hv (i + d + 1) (by omega) hi; rw [Nat.add_sub_cancel] at h2; exact Int.le_trans h1 h2
  have vle : ∀ i j : Nat, i ≤ j → j < m → v i ≤ v j := fun i j h1 h2 => by have := mono (j - i) i (by omega); rw [show i + (j - i) = j by omega] at this; exact this
  have low : ∀ x, v 0 ≤ alS p v m x := fun x => (al_bd (lo := v 0) (hi := v (m - 1)) ha h0 fun i hi => ⟨vle 0 i (by omega) hi, vle i (m - 1) (by omega) (by omega)⟩).1
  have high : ∀ x, alS p v m x ≤ v (m - 1) := fun x => (al_bd (lo := v 0) (hi := v (m - 1)) ha h0 fun i hi => ⟨vle 0 i (by omega) hi, vle i (m - 1) (by omega) (by omega)⟩).2
  rcases al_where (p := p) n h0 with h | ⟨i, h1, h2, h3, h4⟩ | h
  · rw [al_lo h]; exact low k
  · rcases al_where (p := p) k h0 with g | ⟨j, g1, g2, g3, g4⟩ | g
    · have := h4 0 h1; omega
    · have hij : i ≤ j := by
        rcases Nat.lt_or_ge j i with q | q
        · have := h4 j q; omega
        · exact q
      by_cases e : i = j
      · subst e
        rw [al_hit h4 h1 h2 h3, al_hit g4 g1 g2 g3]
        exact ip_mono (ha i h1 h2) (hv i h1 h2) hnk
      · rw [al_hit h4 h1 h2 h3, al_hit g4 g1 g2 g3]
        have q1 := ip_bd (a := v (i - 1)) (b := v i) (ha i h1 h2) (Int.le_of_lt (h4 (i - 1) (by omega))) h3
        have q2 := ip_bd (a := v (j - 1)) (b := v j) (ha j g1 g2) (Int.le_of_lt (g4 (j - 1) (by omega))) g3
        have q3 := vle i (j - 1) (by omega) (by omega)
        have q4 := hv i h1 h2
        have q5 := hv j g1 g2
        omega
    · rw [al_hi g h0]; exact high n
  · rw [al_hi h h0, al_hi (p := p) (n := k) (fun i hi => by have := h i hi; omega) h0]; exact Int.le_refl _
def atS (l : List P) (x : Int) : Int := if chk l = 0 then alS (X l) (Y l) l.length x else 0
/-- the first index whose value is at least y -/
def rk (l : List P) (y : Int) : Nat := fst (fun i => decide (y ≤ Y l i)) 0 l.length
def rx (s a t b y : Int) : Int := s - (a - y) * (t - s) / (b - a)
def reS (l : List P) (y : Int) : Int × Bool :=
  if chk l = 0 then (if rk l y < l.length then (if rk l y = 0 then (X l 0, true) else (rx (X l (rk l y - 1)) (Y l (rk l y - 1)) (X l (rk l y)) (Y l (rk l y)) y, true)) else (0, false)) else (0, false)
theorem re_bad {l : List P} {y : Int} (h : chk l ≠ 0) : reS l y = (0, false) := by unfold reS; rw [if_neg h]
theorem re_none {l : List P} {y : Int} (h : ∀ i, i < l.length → Y l i < y) : reS l y = (0, false) := by
  unfold reS rk
  rw [fst_eq (j := l.length) (fun i _ hi => decide_eq_false (by have := h i hi; omega)) (Nat.zero_le _) (Nat.le_refl _) (.inl rfl), if_neg (Nat.lt_irrefl _), ite_self]
theorem re_zero {l : List P} {y : Int} (h : chk l = 0) (h0 : 0 < l.length) (h1 : y ≤ Y l 0) : reS l y = (X l 0, true) := by
  unfold reS rk
  rw [if_pos h, fst_eq (j := 0) (fun i _ hi => by omega) (Nat.le_refl _) (Nat.zero_le _) (.inr (decide_eq_true h1)), if_pos h0, if_pos rfl]
theorem re_hit {l : List P} {y : Int} {k : Nat} (h : chk l = 0) (h0 : 0 < k) (hk : k < l.length) (h1 : y ≤ Y l k) (h2 : ∀ i, i < k → Y l i < y) : reS l y = (rx (X l (k - 1)) (Y l (k - 1)) (X l k) (Y l k) y, true) := by
  unfold reS rk
  rw [if_pos h, fst_eq (f := fun i => decide (y ≤ Y l i)) (j := k) (fun i _ hi => decide_eq_false (by have := h2 i hi; omega)) (Nat.zero_le _) (by omega) (.inr (decide_eq_true h1)), if_pos hk, if_neg (by omega)]
theorem ip_ge {s a t b y n : Int} (hst : s < t) (hay : a < y) (hyb : y ≤ b) : y ≤ ip s a t b n ↔ rx s a t b y ≤ n := by
  unfold ip rx
  have h1 : y ≤ a + (b - a) * (n - s) / (t - s) ↔ (y - a) * (t - s) ≤ (b - a) * (n - s) := by
    rw [← Int.le_ediv_iff_mul_le (by omega)]; omega
  have h2 : s - (a - y) * (t - s) / (b - a) ≤ n ↔ (s - n) * (b - a) ≤ (a - y) * (t - s) := by
    rw [← Int.le_ediv_iff_mul_le (by omega)]; omega
  rw [h1, h2]
  have e1 : (y - a) * (t - s) = -((a - y) * (t - s)) := by rw [← Int.neg_mul]; congr 1; omega
  have e2 : (b - a) * (n - s) = -((s - n) * (b - a)) := by rw [← Int.neg_mul, Int.mul_comm]; congr 1; omega
  rw [e1, e2]; omega
theorem rx_bd {s a t b y : Int} (hst : s < t) (hay : a < y) (hyb : y ≤ b) : s < rx s a t b y ∧ rx s a t b y ≤ t := by
  have h1 := ip_ge (n := s) hst hay hyb
  have h2 := ip_ge (n := t) hst hay hyb
  rw [ip_start] at h1
  rw [ip_end hst] at h2
  omega
/-- no value falls -/
def upL (l : List P) : Bool := (List.range l.length).all fun i => i == 0 || decide (Y l (i - 1) ≤ Y l i)
theorem upL_iff (l : List P) : upL l = true ↔ ∀ i, 0 < i → i < l.length → Y l (i - 1) ≤ Y l i := by
  unfold upL
  rw [List.all_eq_true]
  constructor
  · intro h i h0 hi
    have := h i (List.mem_range.2 hi)
    rw [Bool.or_eq_true, beq_iff_eq, decide_eq_true_eq] at this
    omega
  · intro h i hi
    rw [Bool.or_eq_true, beq_iff_eq, decide_eq_true_eq]
    by_cases e : i = 0
    · exact .inl e
    · exact .inr (h i (by omega) (List.mem_range.1 hi))
def riS (l : List P) : Bool := decide (chk l = 0) && upL l
end Cm
end Go.Proofs.Ytlkgbfiaeedpfaa
