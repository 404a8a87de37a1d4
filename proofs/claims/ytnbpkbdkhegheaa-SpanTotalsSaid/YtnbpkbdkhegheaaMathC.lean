/- Plain facts: the loop of Common, the gaps of a set (no program). -/
import Derived.Test.YtnbpkbdkhegheaaMathI
set_option linter.unusedVariables false
set_option linter.unusedSimpArgs false
namespace Go.Proofs.Ytnbpkbdkhegheaa
open Go.RowKit
namespace Sm

theorem add_mem {X : List S} {s t : S} (h : t ∈ addL X s) : t ∈ X ∨ t.2 = s.2 ∨ ∃ u ∈ X, t.2 = max u.2 s.2 := by
  by_cases h0 : s.2 ≤ s.1
  · rw [add_empty h0] at h; exact .inl h
  · rcases snoc_cases X with rfl | ⟨Y, u, rfl⟩
    · rw [add_nil h0, List.mem_singleton] at h; subst h; exact .inr (.inl rfl)
    · by_cases h2 : u.2 < s.1
      · rw [add_far h0 h2] at h
        rcases List.mem_append.1 h with g | g
        · exact .inl g
        · rw [List.mem_singleton] at g; subst g; exact .inr (.inl rfl)
      · rw [add_near h0 h2] at h
        rcases List.mem_append.1 h with g | g
        · exact .inl (List.mem_append_left _ g)
        · rw [List.mem_singleton] at g; subst g; exact .inr (.inr ⟨u, by simp, rfl⟩)
def meetS' (s t : S) : S := if min s.2 t.2 ≤ max s.1 t.1 then (0, 0) else (max s.1 t.1, min s.2 t.2)
/-- the state of Common's loop -/
structure ComInv (X Y a b R : List S) : Prop where
  ca : can a
  cb : can b
  cr : can R
  hm : ∀ n, (mem R n ∨ (mem a n ∧ mem b n)) ↔ (mem X n ∧ mem Y n)
  hr : ∀ t ∈ R, ∀ x ∈ a, ∀ y ∈ b, t.2 ≤ max x.1 y.1
  hl : R.length + a.length + b.length ≤ X.length + Y.length + 1
theorem com_start {X Y : List S} (hX : can X) (hY : can Y) : ComInv X Y X Y [] :=
  ⟨hX, hY, can_nil, fun n => ⟨fun h => h.elim (fun g => (mem_nil n g).elim) id, .inr⟩, fun t ht => (List.not_mem_nil ht).elim, by simp⟩
theorem com_add {X Y a b R : List S} {x y : S} (h : ComInv X Y (x :: a) (y :: b) R) : can (addL R (meetS' x y)) ∧ (∀ n, mem (addL R (meetS' x y)) n ↔ mem R n ∨ ((x.1 ≤ n ∧ n < x.2) ∧ (y.1 ≤ n ∧ n < y.2))) ∧ (addL R (meetS' x y)).length ≤ R.length + 1 := by
  unfold meetS'
  by_cases g : min x.2 y.2 ≤ max x.1 y.1
  · rw [if_pos g, add_empty (Int.le_refl _)]
    exact ⟨h.cr, fun n => ⟨.inl, fun k => k.elim id fun k => by omega⟩, by omega⟩
  · rw [if_neg g]
    obtain ⟨a1, a2, _, a4⟩ := add_spec (s := (max x.1 y.1, min x.2 y.2)) h.cr fun t ht => by
      have h1 := h.hr t ht x (by simp) y (by simp)
      have h2 := h.cr.1 t ht
      show t.1 ≤ max x.1 y.1; omega
    refine ⟨a1, fun n => (a2 n).trans ?_, a4⟩
    dsimp only
    constructor
    · rintro (k | k)
      · exact .inl k
      · exact .inr (by omega)
    · rintro (k | k)
      · exact .inl k
      · exact .inr (by omega)
theorem meet_end {x y : S} : (meetS' x y).2 ≤ (meetS' x y).1 ∨ ((meetS' x y).2 ≤ x.2 ∧ (meetS' x y).2 ≤ y.2) := by
  unfold meetS'
  split
  · left; exact Int.le_refl _
  · right; dsimp only; omega
theorem com_left {X Y a b R : List S} {x y : S} (h : ComInv X Y (x :: a) (y :: b) R) (hxy : x.2 < y.2) : ComInv X Y a (y :: b) (addL R (meetS' x y)) := by
  obtain ⟨a1, a2, a3⟩ := com_add h
  have hx := can_head h.ca
  have hy := can_head h.cb
  refine ⟨can_tail h.ca, h.cb, a1, fun n => ?_, fun t ht x' hx' y' hy' => ?_, ?_⟩
  · rw [a2, ← h.hm n, mem_cons (s := x)]
    constructor
    · rintro ((k | k) | k)
      · exact .inl k
      · exact .inr ⟨.inl k.1, mem_cons.2 (.inl k.2)⟩
      · exact .inr ⟨.inr k.1, k.2⟩
    · rintro (k | ⟨k | k, k2⟩)
      · exact .inl (.inl k)
      · refine .inl (.inr ⟨k, ?_⟩)
        rcases mem_cons.1 k2 with g | g
        · exact g
        · have := mem_gt h.cb g; omega
      · exact .inr ⟨k, k2⟩
  · have hx2 := hx.2 x' hx'
    have old : ∀ u ∈ R, u.2 ≤ max x'.1 y'.1 := fun u hu => h.hr u hu x' (List.mem_cons_of_mem _ hx') y' hy'
    rcases meet_end (x := x) (y := y) with g | g
    · rw [add_empty g] at ht; exact old t ht
    · rcases add_mem ht with k | k | ⟨u, hu, k⟩
      · exact old t k
      · omega
      · have := old u hu; omega
  · have := h.hl; simp only [List.length_cons] at this ⊢; omega
theorem com_right {X Y a b R : List S} {x y : S} (h : ComInv X Y (x :: a) (y :: b) R) (hxy : ¬ x.2 < y.2) : ComInv X Y (x :: a) b (addL R (meetS' x y)) := by
  obtain ⟨a1, a2, a3⟩ := com_add h
  have hx := can_head h.ca
  have hy := can_head h.cb
  refine ⟨h.ca, can_tail h.cb, a1, fun n => ?_, fun t ht x' hx' y' hy' => ?_, ?_⟩
  · rw [a2, ← h.hm n, mem_cons (s := y)]
    constructor
    · rintro ((k | k) | k)
      · exact .inl k
      · exact .inr ⟨mem_cons.2 (.inl k.1), .inl k.2⟩
      · exact .inr ⟨k.1, .inr k.2⟩
    · rintro (k | ⟨k2, k | k⟩)
      · exact .inl (.inl k)
      · refine .inl (.inr ⟨?_, k⟩)
        rcases mem_cons.1 k2 with g | g
        · exact g
        · have := mem_gt h.ca g; omega
      · exact .inr ⟨k2, k⟩
  · have hy2 := hy.2 y' hy'
    have old : ∀ u ∈ R, u.2 ≤ max x'.1 y'.1 := fun u hu => h.hr u hu x' hx' y' (List.mem_cons_of_mem _ hy')
    rcases meet_end (x := x) (y := y) with g | g
    · rw [add_empty g] at ht; exact old t ht
    · rcases add_mem ht with k | k | ⟨u, hu, k⟩
      · exact old t k
      · omega
      · have := old u hu; omega
  · have := h.hl; simp only [List.length_cons] at this ⊢; omega
theorem com_end {X Y a b R l l' : List S} (h : ComInv X Y a b R) (h0 : a = [] ∨ b = []) (hX : X = canonL l) (hY : Y = canonL l') : R = comS l l' := by
  obtain ⟨c1, c2⟩ := comS_spec l l'
  refine can_eq h.cr c1 fun n => ?_
  rw [c2, ← (canon_spec l).2.1, ← (canon_spec l').2.1, ← hX, ← hY, ← h.hm n]
  constructor
  · exact .inl
  · rintro (k | ⟨k1, k2⟩)
    · exact k
    · rcases h0 with rfl | rfl
      · exact (mem_nil n k1).elim
      · exact (mem_nil n k2).elim

/-! gaps -/
def gapF (X : List S) (m : Int) : List S × Int := X.foldl (fun z s => (addL z.1 (z.2, s.1), s.2)) ([], m)
def gapL (X : List S) (m M : Int) : List S := addL (gapF X m).1 ((gapF X m).2, M)
theorem gapF_snoc (X : List S) (s : S) (m : Int) : gapF (X ++ [s]) m = (addL (gapF X m).1 ((gapF X m).2, s.1), s.2) := by unfold gapF; rw [List.foldl_append]; rfl
theorem gapF_spec (m : Int) (X : List S) : can X → (∀ s ∈ X, m ≤ s.1) →
    can (gapF X m).1 ∧ (∀ t ∈ (gapF X m).1, t.2 ≤ (gapF X m).2) ∧ (∀ n, mem (gapF X m).1 n ↔ (m ≤ n ∧ n < (gapF X m).2 ∧ ¬ mem X n)) ∧ (∀ s ∈ X, s.2 ≤ (gapF X m).2) ∧ ((gapF X m).2 = m ∨ ∃ s ∈ X, (gapF X m).2 = s.2) ∧ (gapF X m).1.length ≤ X.length := by
  refine snoc_ind (p := fun X => can X → (∀ s ∈ X, m ≤ s.1) →
    can (gapF X m).1 ∧ (∀ t ∈ (gapF X m).1, t.2 ≤ (gapF X m).2) ∧ (∀ n, mem (gapF X m).1 n ↔ (m ≤ n ∧ n < (gapF X m).2 ∧ ¬ mem X n)) ∧ (∀ s ∈ X, s.2 ≤ (gapF X m).2) ∧ ((gapF X m).2 = m ∨ ∃ s ∈ X, (gapF X m).2 = s.2) ∧ (gapF X m).1.length ≤ X.length) ?_ ?_ X
  · intro _ _
    exact ⟨can_nil, fun t ht => (List.not_mem_nil ht).elim, fun n => ⟨fun h => (mem_nil n h).elim, fun h => by have h1 : n < m := h.2.1; omega⟩, fun t ht => (List.not_mem_nil ht).elim, .inl rfl, Nat.le_refl _⟩
  · intro X s ih hX hm
    have hp := List.pairwise_append.1 hX.2
    obtain ⟨i1, i2, i3, i4, i5, i6⟩ := ih ⟨fun u hu => hX.1 u (List.mem_append_left _ hu), hp.1⟩ fun t ht => hm t (List.mem_append_left _ ht)
    have hs := hX.1 s (by simp)
    have hms := hm s (by simp)
    have hXs : ∀ u ∈ X, u.2 < s.1 := fun u hu => hp.2.2 u hu s (by simp)
    rw [gapF_snoc]
    generalize gapF X m = z at i1 i2 i3 i4 i5 i6 ⊢
    obtain ⟨R, f⟩ := z
    dsimp only at i1 i2 i3 i4 i5 i6 ⊢
    have hf : f ≤ s.1 := by
      rcases i5 with g | ⟨u, hu, g⟩
      · omega
      · have := hXs u hu; omega
    obtain ⟨a1, a2, a3, a4⟩ := add_spec (s := (f, s.1)) i1 fun t ht => by have := i2 t ht; have := i1.1 t ht; show t.1 ≤ f; omega
    refine ⟨a1, fun t ht => ?_, fun n => ?_, fun t ht => ?_, .inr ⟨s, by simp, rfl⟩, by rw [List.length_append, List.length_singleton]; omega⟩
    · rcases add_mem ht with k | k | ⟨u, hu, k⟩
      · have := i2 t k; omega
      · dsimp only at k; omega
      · have := i2 u hu; dsimp only at k; omega
    · rw [a2, i3, mem_append, mem_one]
      dsimp only
      constructor
      · rintro (⟨k1, k2, k3⟩ | ⟨k1, k2⟩)
        · exact ⟨k1, by omega, fun g => g.elim k3 (fun g => by omega)⟩
        · refine ⟨?_, by omega, fun g => g.elim (fun ⟨u, hu, g⟩ => ?_) (fun g => by omega)⟩
          · rcases i5 with g | ⟨u, hu, g⟩
            · omega
            · have := hm u (List.mem_append_left _ hu); have := hX.1 u (List.mem_append_left _ hu); omega
          · have := i4 u hu; omega
      · rintro ⟨k1, k2, k3⟩
        by_cases g : n < f
        · exact .inl ⟨k1, g, fun h => k3 (.inl h)⟩
        · refine .inr ⟨by omega, ?_⟩
          by_cases g2 : n < s.1
          · exact g2
          · exact (k3 (.inr ⟨by omega, by omega⟩)).elim
    · rcases List.mem_append.1 ht with g | g
      · have := hXs t g; omega
      · rw [List.mem_singleton] at g; subst g; exact Int.le_refl _
theorem gapL_spec {m M : Int} {X : List S} (hX : can X) (hm : ∀ s ∈ X, m ≤ s.1) : can (gapL X m M) ∧ (∀ n, n < M → m ≤ n → (mem (gapL X m M) n ↔ ¬ mem X n)) ∧ (gapL X m M).length ≤ X.length + 1 := by
  obtain ⟨i1, i2, i3, i4, i5, i6⟩ := gapF_spec m X hX hm
  unfold gapL
  obtain ⟨a1, a2, _, a4⟩ := add_spec (s := ((gapF X m).2, M)) i1 fun t ht => by have := i2 t ht; have := i1.1 t ht; show t.1 ≤ (gapF X m).2; omega
  refine ⟨a1, fun n hn hmn => ?_, by omega⟩
  rw [a2, i3]
  dsimp only
  constructor
  · rintro (⟨_, _, k⟩ | ⟨k1, k2⟩)
    · exact k
    · rintro ⟨u, hu, g⟩
      have := i4 u hu; omega
  · intro k
    by_cases g : n < (gapF X m).2
    · exact .inl ⟨hmn, g, k⟩
    · exact .inr ⟨by omega, hn⟩
end Sm
end Go.Proofs.Ytnbpkbdkhegheaa
