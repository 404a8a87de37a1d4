/- Plain facts about sets of spans: canonical lists, their members, their measure (no program). -/
import Derived.WalkKit
import Derived.ProofKit
set_option linter.unusedVariables false
set_option linter.unusedSimpArgs false
namespace Go.Proofs.Ytnbpkbdkhegheaa
open Go.RowKit
namespace Sm
abbrev S := Int × Int
/-- n is in a span of the list -/
def mem (l : List S) (n : Int) : Prop := ∃ s ∈ l, s.1 ≤ n ∧ n < s.2
def can (l : List S) : Prop := (∀ s ∈ l, s.1 < s.2) ∧ l.Pairwise fun s t => s.2 < t.1
theorem mem_nil (n : Int) : ¬ mem [] n := by rintro ⟨s, h, _⟩; cases h
theorem mem_cons {s : S} {l : List S} {n : Int} : mem (s :: l) n ↔ (s.1 ≤ n ∧ n < s.2) ∨ mem l n := by
  constructor
  · rintro ⟨t, ht, h⟩
    rcases List.mem_cons.1 ht with rfl | ht
    · exact .inl h
    · exact .inr ⟨t, ht, h⟩
  · rintro (h | ⟨t, ht, h⟩)
    · exact ⟨s, List.mem_cons_self, h⟩
    · exact ⟨t, List.mem_cons_of_mem _ ht, h⟩
theorem mem_append {a b : List S} {n : Int} : mem (a ++ b) n ↔ mem a n ∨ mem b n := by
  constructor
  · rintro ⟨t, ht, h⟩
    rcases List.mem_append.1 ht with ht | ht
    · exact .inl ⟨t, ht, h⟩
    · exact .inr ⟨t, ht, h⟩
  · rintro (⟨t, ht, h⟩ | ⟨t, ht, h⟩)
    · exact ⟨t, List.mem_append_left _ ht, h⟩
    · exact ⟨t, List.mem_append_right _ ht, h⟩
theorem mem_one {s : S} {n : Int} : mem [s] n ↔ s.1 ≤ n ∧ n < s.2 := by rw [mem_cons]; exact ⟨fun h => h.elim id fun h => (mem_nil n h).elim, .inl⟩
theorem can_nil : can [] := ⟨fun s h => (List.not_mem_nil h).elim, List.Pairwise.nil⟩
theorem snoc_ind {α : Type} {p : List α → Prop} (h0 : p []) (h1 : ∀ l a, p l → p (l ++ [a])) (l : List α) : p l := by
  have h : ∀ r : List α, p r.reverse := by
    intro r
    induction r with
    | nil => exact h0
    | cons a r ih => rw [List.reverse_cons]; exact h1 _ _ ih
  rw [← List.reverse_reverse l]; exact h _
theorem can_one {s : S} (h : s.1 < s.2) : can [s] := ⟨fun t ht => by rw [List.mem_singleton] at ht; rw [ht]; exact h, List.pairwise_singleton _ _⟩
theorem can_tail {s : S} {l : List S} (h : can (s :: l)) : can l := ⟨fun t ht => h.1 t (List.mem_cons_of_mem _ ht), (List.pairwise_cons.1 h.2).2⟩
theorem can_head {s : S} {l : List S} (h : can (s :: l)) : s.1 < s.2 ∧ ∀ t ∈ l, s.2 < t.1 := ⟨h.1 s List.mem_cons_self, (List.pairwise_cons.1 h.2).1⟩
theorem can_cons {s : S} {l : List S} (h : can l) (h1 : s.1 < s.2) (h2 : ∀ t ∈ l, s.2 < t.1) : can (s :: l) :=
  ⟨fun t ht => (List.mem_cons.1 ht).elim (fun e => by rw [e]; exact h1) (h.1 t), List.pairwise_cons.2 ⟨h2, h.2⟩⟩
theorem can_append {a b : List S} (ha : can a) (hb : can b) (h : ∀ s ∈ a, ∀ t ∈ b, s.2 < t.1) : can (a ++ b) :=
  ⟨fun s hs => (List.mem_append.1 hs).elim (ha.1 s) (hb.1 s), List.pairwise_append.2 ⟨ha.2, hb.2, h⟩⟩
theorem mem_ge {s : S} {l : List S} (h : can (s :: l)) {n : Int} (hn : mem (s :: l) n) : s.1 ≤ n := by
  obtain ⟨t, ht, h1, _⟩ := hn
  have := can_head h
  rcases List.mem_cons.1 ht with rfl | ht
  · exact h1
  · have := this.2 t ht; omega
theorem mem_gt {s : S} {l : List S} (h : can (s :: l)) {n : Int} (hn : mem l n) : s.2 < n := by
  obtain ⟨t, ht, h1, _⟩ := hn
  have := (can_head h).2 t ht; omega
/-- a set has one canonical list -/
theorem can_unique : ∀ {a b : List S}, can a → can b → (∀ n, mem a n ↔ mem b n) → a = b
  | [], [], _, _, _ => rfl
  | [], t :: q, _, hb, h => ((mem_nil t.1) ((h t.1).2 (mem_cons.2 (.inl ⟨by omega, (can_head hb).1⟩)))).elim
  | s :: r, [], ha, _, h => ((mem_nil s.1) ((h s.1).1 (mem_cons.2 (.inl ⟨by omega, (can_head ha).1⟩)))).elim
  | s :: r, t :: q, ha, hb, h => by
    have s1 := (can_head ha).1
    have t1 := (can_head hb).1
    have e1 := mem_ge hb ((h s.1).1 (mem_cons.2 (.inl ⟨by omega, s1⟩)))
    have e2 := mem_ge ha ((h t.1).2 (mem_cons.2 (.inl ⟨by omega, t1⟩)))
    have no : ∀ {u : S} {l : List S}, can (u :: l) → ¬ mem (u :: l) u.2 := fun {u l} hu g => by
      rcases mem_cons.1 g with g | g
      · omega
      · have := mem_gt hu g; omega
    have e3 : s.2 = t.2 := by
      rcases Int.lt_trichotomy s.2 t.2 with g | g | g
      · exact (no ha ((h s.2).2 (mem_cons.2 (.inl ⟨by omega, g⟩)))).elim
      · exact g
      · exact (no hb ((h t.2).1 (mem_cons.2 (.inl ⟨by omega, g⟩)))).elim
    obtain rfl : s = t := Prod.ext (by omega) e3
    rw [can_unique (can_tail ha) (can_tail hb) fun n => ?_]
    constructor
    · intro g
      have g1 := mem_gt ha g
      rcases mem_cons.1 ((h n).1 (mem_cons.2 (.inr g))) with g2 | g2
      · omega
      · exact g2
    · intro g
      have g1 := mem_gt hb g
      rcases mem_cons.1 ((h n).2 (mem_cons.2 (.inr g))) with g2 | g2
      · omega
      · exact g2
/-- adds a span to a canonical list none of whose spans begins behind it -/
def addL (x : List S) (s : S) : List S :=
  if s.2 ≤ s.1 then x else
  match x.getLast? with
  | none => [s]
  | some t => if t.2 < s.1 then x ++ [s] else x.dropLast ++ [(t.1, max t.2 s.2)]
theorem add_empty {x : List S} {s : S} (h : s.2 ≤ s.1) : addL x s = x := by unfold addL; rw [if_pos h]
theorem add_nil {s : S} (h : ¬ s.2 ≤ s.1) : addL [] s = [s] := by unfold addL; rw [if_neg h]; rfl
theorem add_far {x : List S} {s t : S} (h : ¬ s.2 ≤ s.1) (h2 : t.2 < s.1) : addL (x ++ [t]) s = x ++ [t] ++ [s] := by
  unfold addL; rw [if_neg h, List.getLast?_concat]; exact if_pos h2
theorem add_near {x : List S} {s t : S} (h : ¬ s.2 ≤ s.1) (h2 : ¬ t.2 < s.1) : addL (x ++ [t]) s = x ++ [(t.1, max t.2 s.2)] := by
  unfold addL; rw [if_neg h, List.getLast?_concat]
  show (if t.2 < s.1 then _ else _) = _
  rw [if_neg h2, List.dropLast_concat]
theorem snoc_cases (x : List S) : x = [] ∨ ∃ y t, x = y ++ [t] := by
  rcases List.eq_nil_or_concat x with h | ⟨y, t, h⟩
  · exact .inl h
  · exact .inr ⟨y, t, by rw [h, List.concat_eq_append]⟩
/-- what addL gives -/
theorem add_spec {x : List S} {s : S} (hx : can x) (hs : ∀ t ∈ x, t.1 ≤ s.1) :
    can (addL x s) ∧ (∀ n, mem (addL x s) n ↔ mem x n ∨ (s.1 ≤ n ∧ n < s.2)) ∧ (∀ t ∈ addL x s, t.1 ≤ s.1) ∧ (addL x s).length ≤ x.length + 1 := by
  by_cases h : s.2 ≤ s.1
  · rw [add_empty h]
    exact ⟨hx, fun n => ⟨.inl, fun g => g.elim id fun g => by omega⟩, hs, by omega⟩
  · rcases snoc_cases x with rfl | ⟨y, t, rfl⟩
    · rw [add_nil h]
      refine ⟨can_one (by omega), fun n => ?_, fun t ht => ?_, by simp⟩
      · rw [mem_one]; exact ⟨.inr, fun g => g.elim (fun g => (mem_nil n g).elim) id⟩
      · rw [List.mem_singleton] at ht; rw [ht]; exact Int.le_refl _
    · have hp := List.pairwise_append.1 hx.2
      have ht := hx.1 t (by simp)
      have hts := hs t (by simp)
      have hy : can y := ⟨fun u hu => hx.1 u (List.mem_append_left _ hu), hp.1⟩
      have hyt : ∀ u ∈ y, u.2 < t.1 := fun u hu => hp.2.2 u hu t (by simp)
      by_cases h2 : t.2 < s.1
      · rw [add_far h h2]
        refine ⟨can_append hx (can_one (by omega)) (fun u hu v hv => ?_), fun n => ?_, fun u hu => ?_, by simp⟩
        · rw [List.mem_singleton] at hv; subst hv
          rcases List.mem_append.1 hu with g | g
          · have := hyt u g; omega
          · rw [List.mem_singleton] at g; subst g; exact h2
        · rw [mem_append, mem_one]
        · rcases List.mem_append.1 hu with g | g
          · exact hs u g
          · rw [List.mem_singleton] at g; subst g; exact Int.le_refl _
      · rw [add_near h h2]
        refine ⟨can_append hy (can_one (by show t.1 < max t.2 s.2; omega)) (fun u hu v hv => ?_), fun n => ?_, fun u hu => ?_, by simp⟩
        · rw [List.mem_singleton] at hv; subst hv; exact hyt u hu
        · rw [mem_append, mem_append, mem_one, mem_one]
          show mem y n ∨ (t.1 ≤ n ∧ n < max t.2 s.2) ↔ _
          constructor
          · rintro (g | ⟨g1, g2⟩)
            · exact .inl (.inl g)
            · by_cases g3 : n < t.2
              · exact .inl (.inr ⟨g1, g3⟩)
              · exact .inr ⟨by omega, by omega⟩
          · rintro ((g | g) | g)
            · exact .inl g
            · exact .inr ⟨g.1, by omega⟩
            · exact .inr ⟨by omega, by omega⟩
        · rcases List.mem_append.1 hu with g | g
          · exact hs u (List.mem_append_left _ g)
          · rw [List.mem_singleton] at g; subst g; exact hts
/-- spans in ascending order, added one after the other -/
def addsL (l : List S) : List S := l.foldl addL []
theorem adds_snoc (l : List S) (s : S) : addsL (l ++ [s]) = addL (addsL l) s := by unfold addsL; rw [List.foldl_append]; rfl
theorem adds_spec {l : List S} (h : l.Pairwise fun s t => s.1 ≤ t.1) : can (addsL l) ∧ (∀ n, mem (addsL l) n ↔ mem l n) ∧ (∀ b, (∀ t ∈ l, t.1 ≤ b) → ∀ t ∈ addsL l, t.1 ≤ b) ∧ (addsL l).length ≤ l.length := by
  revert h
  refine snoc_ind (p := fun l => l.Pairwise (fun s t => s.1 ≤ t.1) → can (addsL l) ∧ (∀ n, mem (addsL l) n ↔ mem l n) ∧ (∀ b, (∀ t ∈ l, t.1 ≤ b) → ∀ t ∈ addsL l, t.1 ≤ b) ∧ (addsL l).length ≤ l.length) ?_ ?_ l
  · intro _
    exact ⟨can_nil, fun n => Iff.rfl, fun b h t ht => (List.not_mem_nil ht).elim, Nat.le_refl _⟩
  · intro l s ih h
    obtain ⟨p1, _, p3⟩ := List.pairwise_append.1 h
    obtain ⟨i1, i2, i3, i4⟩ := ih p1
    obtain ⟨a1, a2, a3, a4⟩ := add_spec i1 (i3 s.1 fun t ht => p3 t ht s (by simp))
    rw [adds_snoc]
    refine ⟨a1, fun n => by rw [a2, i2, mem_append, mem_one], fun b hb t ht => ?_, by simp; omega⟩
    have := a3 t ht
    have := hb s (by simp)
    omega
/-- the canonical list of a set, by insertion -/
def leS (a b : S) : Bool := decide (a.1 ≤ b.1)
def canonL (l : List S) : List S := addsL (l.mergeSort leS)
theorem canon_spec (l : List S) : can (canonL l) ∧ (∀ n, mem (canonL l) n ↔ mem l n) ∧ (canonL l).length ≤ l.length := by
  have hs := List.pairwise_mergeSort (le := leS) (fun a b c h1 h2 => by unfold leS at *; simp at *; omega) (fun a b => by unfold leS; simp; omega) l
  have hp := List.mergeSort_perm l leS
  obtain ⟨a1, a2, _, a4⟩ := adds_spec (l := l.mergeSort leS) (hs.imp fun {a b} h => by unfold leS at h; simpa using h)
  refine ⟨a1, fun n => (a2 n).trans ?_, by rw [← hp.length_eq]; exact a4⟩
  unfold mem
  constructor
  · rintro ⟨s, hs, h⟩; exact ⟨s, hp.mem_iff.1 hs, h⟩
  · rintro ⟨s, hs, h⟩; exact ⟨s, hp.mem_iff.2 hs, h⟩
/-- any canonical list with the right members is the one -/
theorem canon_of {l x : List S} (hx : can x) (h : ∀ n, mem x n ↔ mem l n) : x = canonL l :=
  can_unique hx (canon_spec l).1 fun n => (h n).trans ((canon_spec l).2.1 n).symm
theorem canon_sorted {l p : List S} (hp : p.Perm l) (hs : p.Pairwise fun s t => s.1 ≤ t.1) : addsL p = canonL l := by
  obtain ⟨a1, a2, _, _⟩ := adds_spec hs
  refine canon_of a1 fun n => (a2 n).trans ?_
  unfold mem
  constructor
  · rintro ⟨s, hs, h⟩; exact ⟨s, hp.mem_iff.1 hs, h⟩
  · rintro ⟨s, hs, h⟩; exact ⟨s, hp.mem_iff.2 hs, h⟩
theorem canon_self {l : List S} (h : can l) : canonL l = l := (canon_of h fun n => Iff.rfl).symm
end Sm
end Go.Proofs.Ytnbpkbdkhegheaa
