/- Plain facts: insertion, common part, difference, gaps: each gives the canonical list of its set (no program). -/
import Derived.Test.YtnbpkbdkhegheaaMath
set_option linter.unusedVariables false
set_option linter.unusedSimpArgs false
namespace Go.Proofs.Ytnbpkbdkhegheaa
open Go.RowKit
namespace Sm

/-- one round of insert -/
def stepI (x : List S × List S × S) (t : S) : List S × List S × S :=
  if t.2 < x.2.2.1 then (x.1 ++ [t], x.2.1, x.2.2) else if x.2.2.2 < t.1 then (x.1, x.2.1 ++ [t], x.2.2) else (x.1, x.2.1, (min x.2.2.1 t.1, max x.2.2.2 t.2))
def insF (X : List S) (s : S) : List S × List S × S := X.foldl stepI ([], [], s)
def insL (X : List S) (s : S) : List S := (insF X s).1 ++ [(insF X s).2.2] ++ (insF X s).2.1
theorem insF_snoc (X : List S) (t s : S) : insF (X ++ [t]) s = stepI (insF X s) t := by unfold insF; rw [List.foldl_append]; rfl
theorem ins_spec {X : List S} {s : S} (hs : s.1 < s.2) : can X →
    (∀ u ∈ (insF X s).1, u ∈ X) ∧ (∀ u ∈ (insF X s).2.1, u ∈ X) ∧ can (insF X s).1 ∧ can (insF X s).2.1 ∧ (∀ u ∈ (insF X s).1, u.2 < (insF X s).2.2.1) ∧ (∀ u ∈ (insF X s).2.1, (insF X s).2.2.2 < u.1) ∧ (insF X s).2.2.1 < (insF X s).2.2.2 ∧
    (∀ n, (mem (insF X s).1 n ∨ mem (insF X s).2.1 n ∨ ((insF X s).2.2.1 ≤ n ∧ n < (insF X s).2.2.2)) ↔ (mem X n ∨ (s.1 ≤ n ∧ n < s.2))) ∧ (insF X s).1.length + (insF X s).2.1.length ≤ X.length := by
  refine snoc_ind (p := fun X => can X → (∀ u ∈ (insF X s).1, u ∈ X) ∧ (∀ u ∈ (insF X s).2.1, u ∈ X) ∧ can (insF X s).1 ∧ can (insF X s).2.1 ∧ (∀ u ∈ (insF X s).1, u.2 < (insF X s).2.2.1) ∧ (∀ u ∈ (insF X s).2.1, (insF X s).2.2.2 < u.1) ∧ (insF X s).2.2.1 < (insF X s).2.2.2 ∧
    (∀ n, (mem (insF X s).1 n ∨ mem (insF X s).2.1 n ∨ ((insF X s).2.2.1 ≤ n ∧ n < (insF X s).2.2.2)) ↔ (mem X n ∨ (s.1 ≤ n ∧ n < s.2))) ∧ (insF X s).1.length + (insF X s).2.1.length ≤ X.length) ?_ ?_ X
  · intro _
    exact ⟨fun u hu => hu, fun u hu => hu, can_nil, can_nil, fun u hu => (List.not_mem_nil hu).elim, fun u hu => (List.not_mem_nil hu).elim, hs, fun n => ⟨fun h => h.elim (fun h => .inl h) (fun h => h.elim (fun h => .inl h) .inr), fun h => h.elim .inl (fun h => .inr (.inr h))⟩, Nat.le_refl _⟩
  · intro X t ih hX
    have hp := List.pairwise_append.1 hX.2
    have ht := hX.1 t (by simp)
    have hXt : ∀ u ∈ X, u.2 < t.1 := fun u hu => hp.2.2 u hu t (by simp)
    obtain ⟨i1, i2, i3, i4, i5, i6, i7, i8, i9⟩ := ih ⟨fun u hu => hX.1 u (List.mem_append_left _ hu), hp.1⟩
    rw [insF_snoc]
    generalize insF X s = z at i1 i2 i3 i4 i5 i6 i7 i8 i9 ⊢
    obtain ⟨b, a, r⟩ := z
    dsimp only at i1 i2 i3 i4 i5 i6 i7 i8 i9
    unfold stepI
    by_cases h1 : t.2 < r.1
    · rw [if_pos h1]
      refine ⟨fun u hu => ?_, fun u hu => List.mem_append_left _ (i2 u hu), can_append i3 (can_one ht) (fun u hu w hw => ?_), i4, fun u hu => ?_, i6, i7, fun n => ?_, by simp; omega⟩
      · rcases List.mem_append.1 hu with g | g
        · exact List.mem_append_left _ (i1 u g)
        · exact List.mem_append_right _ g
      · rw [List.mem_singleton] at hw; subst hw; exact hXt u (i1 u hu)
      · rcases List.mem_append.1 hu with g | g
        · exact i5 u g
        · rw [List.mem_singleton] at g; subst g; exact h1
      · have := i8 n
        simp only
        rw [mem_append, mem_append, mem_one]
        constructor
        · rintro ((g | g) | g | g)
          · exact (this.1 (.inl g)).elim (fun g => .inl (.inl g)) .inr
          · exact .inl (.inr g)
          · exact (this.1 (.inr (.inl g))).elim (fun g => .inl (.inl g)) .inr
          · exact (this.1 (.inr (.inr g))).elim (fun g => .inl (.inl g)) .inr
        · rintro ((g | g) | g)
          · rcases this.2 (.inl g) with g | g | g
            · exact .inl (.inl g)
            · exact .inr (.inl g)
            · exact .inr (.inr g)
          · exact .inl (.inr g)
          · rcases this.2 (.inr g) with g | g | g
            · exact .inl (.inl g)
            · exact .inr (.inl g)
            · exact .inr (.inr g)
    · rw [if_neg h1]
      by_cases h2 : r.2 < t.1
      · rw [if_pos h2]
        refine ⟨fun u hu => List.mem_append_left _ (i1 u hu), fun u hu => ?_, i3, can_append i4 (can_one ht) (fun u hu w hw => ?_), i5, fun u hu => ?_, i7, fun n => ?_, by simp; omega⟩
        · rcases List.mem_append.1 hu with g | g
          · exact List.mem_append_left _ (i2 u g)
          · exact List.mem_append_right _ g
        · rw [List.mem_singleton] at hw; subst hw; exact hXt u (i2 u hu)
        · rcases List.mem_append.1 hu with g | g
          · exact i6 u g
          · rw [List.mem_singleton] at g; subst g; exact h2
        · have := i8 n
          simp only
          rw [mem_append, mem_append, mem_one]
          constructor
          · rintro (g | (g | g) | g)
            · exact (this.1 (.inl g)).elim (fun g => .inl (.inl g)) .inr
            · exact (this.1 (.inr (.inl g))).elim (fun g => .inl (.inl g)) .inr
            · exact .inl (.inr g)
            · exact (this.1 (.inr (.inr g))).elim (fun g => .inl (.inl g)) .inr
          · rintro ((g | g) | g)
            · rcases this.2 (.inl g) with g | g | g
              · exact .inl g
              · exact .inr (.inl (.inl g))
              · exact .inr (.inr g)
            · exact .inr (.inl (.inr g))
            · rcases this.2 (.inr g) with g | g | g
              · exact .inl g
              · exact .inr (.inl (.inl g))
              · exact .inr (.inr g)
      · rw [if_neg h2]
        have ha : a = [] := by
          cases a with
          | nil => rfl
          | cons u q =>
            have g1 := i6 u (by simp)
            have g2 := hXt u (i2 u (by simp))
            have g3 := (can_head i4).1
            omega
        subst ha
        refine ⟨fun u hu => List.mem_append_left _ (i1 u hu), fun u hu => (List.not_mem_nil hu).elim, i3, can_nil, fun u hu => ?_, fun u hu => (List.not_mem_nil hu).elim, ?_, fun n => ?_, by simp at i9 ⊢; omega⟩
        · have g1 := i5 u hu
          have g2 := hXt u (i1 u hu)
          show u.2 < min r.1 t.1
          omega
        · show min r.1 t.1 < max r.2 t.2
          omega
        · have := i8 n
          show (mem b n ∨ mem [] n ∨ (min r.1 t.1 ≤ n ∧ n < max r.2 t.2)) ↔ _
          rw [mem_append, mem_one]
          constructor
          · rintro (g | g | g)
            · exact (this.1 (.inl g)).elim (fun g => .inl (.inl g)) .inr
            · exact (mem_nil n g).elim
            · by_cases k : t.1 ≤ n ∧ n < t.2
              · exact .inl (.inr k)
              · exact (this.1 (.inr (.inr (by omega)))).elim (fun g => .inl (.inl g)) .inr
          · rintro ((g | g) | g)
            · rcases this.2 (.inl g) with g | g | g
              · exact .inl g
              · exact (mem_nil n g).elim
              · exact .inr (.inr (by omega))
            · exact .inr (.inr (by omega))
            · rcases this.2 (.inr g) with g | g | g
              · exact .inl g
              · exact (mem_nil n g).elim
              · exact .inr (.inr (by omega))
theorem insL_spec {X : List S} {s : S} (hX : can X) (hs : s.1 < s.2) : can (insL X s) ∧ (∀ n, mem (insL X s) n ↔ mem X n ∨ (s.1 ≤ n ∧ n < s.2)) ∧ (insL X s).length ≤ X.length + 1 := by
  obtain ⟨i1, i2, i3, i4, i5, i6, i7, i8, i9⟩ := ins_spec hs hX
  unfold insL
  generalize insF X s = z at i1 i2 i3 i4 i5 i6 i7 i8 i9 ⊢
  obtain ⟨b, a, r⟩ := z
  dsimp only at i1 i2 i3 i4 i5 i6 i7 i8 i9 ⊢
  refine ⟨can_append (can_append i3 (can_one i7) (fun u hu w hw => ?_)) i4 (fun u hu w hw => ?_), fun n => ?_, by simp; omega⟩
  · rw [List.mem_singleton] at hw; subst hw; exact i5 u hu
  · rcases List.mem_append.1 hu with g | g
    · have := i5 u g; have := i6 w hw; omega
    · rw [List.mem_singleton] at g; subst g; exact i6 w hw
  · rw [mem_append, mem_append, mem_one, ← i8 n]
    constructor
    · rintro ((g | g) | g)
      · exact .inl g
      · exact .inr (.inr g)
      · exact .inr (.inl g)
    · rintro (g | g | g)
      · exact .inl (.inl g)
      · exact .inr g
      · exact .inl (.inr g)
/-- the reference's Canon -/
def insN (X : List S) (s : S) : List S := if s.1 < s.2 then insL X s else X
def rcanL (l : List S) : List S := l.foldl insN []
theorem rcan_snoc (l : List S) (s : S) : rcanL (l ++ [s]) = insN (rcanL l) s := by unfold rcanL; rw [List.foldl_append]; rfl
theorem insN_spec {X l : List S} {s : S} (hX : can X) (hm : ∀ n, mem X n ↔ mem l n) : can (insN X s) ∧ (∀ n, mem (insN X s) n ↔ mem (l ++ [s]) n) ∧ (insN X s).length ≤ X.length + 1 := by
  unfold insN
  by_cases h : s.1 < s.2
  · rw [if_pos h]
    obtain ⟨a, b, c⟩ := insL_spec hX h
    exact ⟨a, fun n => by rw [b, mem_append, mem_one, hm], c⟩
  · rw [if_neg h]
    exact ⟨hX, fun n => by rw [mem_append, mem_one, hm]; exact ⟨.inl, fun g => g.elim id fun g => by omega⟩, by omega⟩
theorem rcan_spec (l : List S) : can (rcanL l) ∧ (∀ n, mem (rcanL l) n ↔ mem l n) ∧ (rcanL l).length ≤ l.length := by
  refine snoc_ind (p := fun l => can (rcanL l) ∧ (∀ n, mem (rcanL l) n ↔ mem l n) ∧ (rcanL l).length ≤ l.length) ⟨can_nil, fun n => Iff.rfl, Nat.le_refl _⟩ (fun l s ih => ?_) l
  rw [rcan_snoc]
  obtain ⟨a, b, c⟩ := insN_spec (s := s) ih.1 ih.2.1
  exact ⟨a, b, by rw [List.length_append]; have := ih.2.2; simp; omega⟩
theorem rcan_eq (l : List S) : rcanL l = canonL l := canon_of (rcan_spec l).1 (rcan_spec l).2.1
/-- spans put into a canonical list, one after the other -/
theorem ins_all (a b : List S) : b.foldl insN (canonL a) = canonL (a ++ b) := by
  rw [← rcan_eq, ← rcan_eq]; unfold rcanL; rw [List.foldl_append]

/-! the common part -/
def meetP (s t : S) : S := (max s.1 t.1, min s.2 t.2)
def piece (s : S) : List S := if s.1 < s.2 then [s] else []
theorem mem_piece (s : S) (n : Int) : mem (piece s) n ↔ s.1 ≤ n ∧ n < s.2 := by
  unfold piece
  split
  · exact mem_one
  · exact ⟨fun h => (mem_nil n h).elim, fun h => by omega⟩
theorem piece_mem {s u : S} (h : u ∈ piece s) : u = s ∧ s.1 < s.2 := by
  unfold piece at h
  split at h
  · rw [List.mem_singleton] at h; exact ⟨h, by assumption⟩
  · cases h
def rowC (Y : List S) (x : S) : List S := Y.flatMap fun y => piece (meetP x y)
def comL (X Y : List S) : List S := X.flatMap (rowC Y)
theorem mem_flatMap {l : List S} {f : S → List S} {n : Int} : mem (l.flatMap f) n ↔ ∃ s ∈ l, mem (f s) n := by
  unfold mem
  constructor
  · rintro ⟨t, ht, h⟩
    obtain ⟨s, hs, hts⟩ := List.mem_flatMap.1 ht
    exact ⟨s, hs, t, hts, h⟩
  · rintro ⟨s, hs, t, hts, h⟩
    exact ⟨t, List.mem_flatMap.2 ⟨s, hs, hts⟩, h⟩
theorem com_mem (X Y : List S) (n : Int) : mem (comL X Y) n ↔ mem X n ∧ mem Y n := by
  unfold comL
  rw [mem_flatMap]
  constructor
  · rintro ⟨x, hx, h⟩
    unfold rowC at h
    rw [mem_flatMap] at h
    obtain ⟨y, hy, h⟩ := h
    rw [mem_piece] at h
    unfold meetP at h; simp only at h
    exact ⟨⟨x, hx, by omega⟩, ⟨y, hy, by omega⟩⟩
  · rintro ⟨⟨x, hx, h1⟩, y, hy, h2⟩
    refine ⟨x, hx, ?_⟩
    unfold rowC
    rw [mem_flatMap]
    refine ⟨y, hy, ?_⟩
    rw [mem_piece]; unfold meetP; simp only; omega
theorem com_can {X Y : List S} (hX : can X) (hY : can Y) : can (comL X Y) := by
  have inrow : ∀ x u, u ∈ rowC Y x → ∃ y ∈ Y, u = meetP x y ∧ u.1 < u.2 := fun x u hu => by
    obtain ⟨y, hy, h⟩ := List.mem_flatMap.1 hu
    obtain ⟨rfl, h2⟩ := piece_mem h
    exact ⟨y, hy, rfl, h2⟩
  refine ⟨fun u hu => ?_, ?_⟩
  · obtain ⟨x, _, h⟩ := List.mem_flatMap.1 hu
    obtain ⟨_, _, _, h2⟩ := inrow x u h
    exact h2
  · unfold comL
    rw [List.pairwise_flatMap]
    refine ⟨fun x hx => ?_, hX.2.imp fun {x x'} hxx u hu v hv => ?_⟩
    · unfold rowC
      rw [List.pairwise_flatMap]
      refine ⟨fun y hy => ?_, hY.2.imp fun {y y'} hyy u hu v hv => ?_⟩
      · unfold piece; split <;> simp
      · obtain ⟨rfl, _⟩ := piece_mem hu
        obtain ⟨rfl, _⟩ := piece_mem hv
        unfold meetP; simp only; omega
    · obtain ⟨y, hy, rfl, _⟩ := inrow x u hu
      obtain ⟨y', hy', rfl, _⟩ := inrow x' v hv
      unfold meetP; simp only; omega

/-! the difference -/
def cutL (y s : S) : List S := piece (s.1, min s.2 y.1) ++ piece (max s.1 y.2, s.2)
def minL (X Y : List S) : List S := Y.foldl (fun o y => o.flatMap (cutL y)) X
theorem cut_mem (X : List S) (y : S) (hy : y.1 < y.2) (n : Int) : mem (X.flatMap (cutL y)) n ↔ mem X n ∧ ¬ (y.1 ≤ n ∧ n < y.2) := by
  rw [mem_flatMap]
  constructor
  · rintro ⟨s, hs, h⟩
    unfold cutL at h
    rw [mem_append, mem_piece, mem_piece] at h
    simp only at h
    exact ⟨⟨s, hs, by omega⟩, by omega⟩
  · rintro ⟨⟨s, hs, h1⟩, h2⟩
    refine ⟨s, hs, ?_⟩
    unfold cutL
    rw [mem_append, mem_piece, mem_piece]
    simp only
    omega
theorem cut_in {y s u : S} (h : u ∈ cutL y s) : s.1 ≤ u.1 ∧ u.2 ≤ s.2 ∧ u.1 < u.2 := by
  unfold cutL at h
  rcases List.mem_append.1 h with g | g
  · obtain ⟨rfl, g2⟩ := piece_mem g; simp only at g2 ⊢; omega
  · obtain ⟨rfl, g2⟩ := piece_mem g; simp only at g2 ⊢; omega
theorem cut_can {X : List S} {y : S} (hX : can X) (hy : y.1 < y.2) : can (X.flatMap (cutL y)) := by
  refine ⟨fun u hu => ?_, ?_⟩
  · obtain ⟨s, _, h⟩ := List.mem_flatMap.1 hu
    exact (cut_in h).2.2
  · rw [List.pairwise_flatMap]
    refine ⟨fun s hs => ?_, hX.2.imp fun {s s'} hss u hu v hv => ?_⟩
    · unfold cutL
      rw [List.pairwise_append]
      refine ⟨by unfold piece; split <;> simp, by unfold piece; split <;> simp, fun u hu v hv => ?_⟩
      obtain ⟨rfl, _⟩ := piece_mem hu
      obtain ⟨rfl, _⟩ := piece_mem hv
      simp only; omega
    · have := cut_in hu; have := cut_in hv; omega
theorem piece_len (s : S) : (piece s).length ≤ 1 := by unfold piece; split <;> simp
theorem cut_len1 {y : S} (hy : y.1 < y.2) : ∀ {X : List S}, (∀ s ∈ X, y.1 ≤ s.1) → (X.flatMap (cutL y)).length ≤ X.length
  | [], _ => Nat.le_refl _
  | s :: X, h => by
    rw [List.flatMap_cons, List.length_append, List.length_cons]
    have h1 := cut_len1 hy (X := X) fun t ht => h t (List.mem_cons_of_mem _ ht)
    have h2 := h s List.mem_cons_self
    have h3 : (cutL y s).length ≤ 1 := by
      unfold cutL
      rw [show piece (s.1, min s.2 y.1) = [] by unfold piece; rw [if_neg (by simp only; omega)]]
      exact piece_len _
    omega
theorem cut_len {y : S} (hy : y.1 < y.2) : ∀ {X : List S}, can X → (X.flatMap (cutL y)).length ≤ X.length + 1
  | [], _ => by simp
  | s :: X, h => by
    rw [List.flatMap_cons, List.length_append, List.length_cons]
    have hh := can_head h
    by_cases g : s.2 ≤ y.2
    · have h1 := cut_len hy (can_tail h)
      have h3 : (cutL y s).length ≤ 1 := by
        unfold cutL
        rw [show piece (max s.1 y.2, s.2) = [] by unfold piece; rw [if_neg (by simp only; omega)], List.append_nil]
        exact piece_len _
      omega
    · have h1 := cut_len1 hy (X := X) fun t ht => by have := hh.2 t ht; omega
      have h3 : (cutL y s).length ≤ 2 := by
        unfold cutL
        rw [List.length_append]
        have := piece_len (s.1, min s.2 y.1); have := piece_len (max s.1 y.2, s.2); omega
      omega
theorem min_snoc (X Y : List S) (y : S) : minL X (Y ++ [y]) = (minL X Y).flatMap (cutL y) := by unfold minL; rw [List.foldl_append]; rfl
theorem min_spec {X : List S} (hX : can X) (Y : List S) : (∀ y ∈ Y, y.1 < y.2) → can (minL X Y) ∧ (∀ n, mem (minL X Y) n ↔ mem X n ∧ ¬ mem Y n) ∧ (minL X Y).length ≤ X.length + Y.length := by
  refine snoc_ind (p := fun Y => (∀ y ∈ Y, y.1 < y.2) → can (minL X Y) ∧ (∀ n, mem (minL X Y) n ↔ mem X n ∧ ¬ mem Y n) ∧ (minL X Y).length ≤ X.length + Y.length) (fun _ => ⟨hX, fun n => ⟨fun h => ⟨h, mem_nil n⟩, fun h => h.1⟩, Nat.le_refl _⟩) (fun Y y ih hy => ?_) Y
  obtain ⟨a, b, c⟩ := ih fun t ht => hy t (List.mem_append_left _ ht)
  have h0 := hy y (by simp)
  rw [min_snoc]
  refine ⟨cut_can a h0, fun n => ?_, ?_⟩
  · rw [cut_mem _ _ h0, b, mem_append, mem_one]
    constructor
    · rintro ⟨⟨h1, h2⟩, h3⟩; exact ⟨h1, fun g => g.elim h2 h3⟩
    · rintro ⟨h1, h2⟩; exact ⟨⟨h1, fun g => h2 (.inl g)⟩, fun g => h2 (.inr g)⟩
  · have := cut_len h0 a
    rw [List.length_append, List.length_singleton]; omega
/-- the three operations on any lists -/
def uniS (a b : List S) : List S := canonL (a ++ b)
def comS (a b : List S) : List S := comL (canonL a) (canonL b)
def minS (a b : List S) : List S := minL (canonL a) (canonL b)
theorem uniS_spec (a b : List S) : can (uniS a b) ∧ ∀ n, mem (uniS a b) n ↔ mem a n ∨ mem b n := ⟨(canon_spec _).1, fun n => by unfold uniS; rw [(canon_spec _).2.1, mem_append]⟩
theorem comS_spec (a b : List S) : can (comS a b) ∧ ∀ n, mem (comS a b) n ↔ mem a n ∧ mem b n :=
  ⟨com_can (canon_spec a).1 (canon_spec b).1, fun n => by unfold comS; rw [com_mem, (canon_spec a).2.1, (canon_spec b).2.1]⟩
theorem minS_spec (a b : List S) : can (minS a b) ∧ ∀ n, mem (minS a b) n ↔ mem a n ∧ ¬ mem b n := by
  obtain ⟨h1, h2, _⟩ := min_spec (canon_spec a).1 (canonL b) (canon_spec b).1.1
  exact ⟨h1, fun n => by unfold minS; rw [h2, (canon_spec a).2.1, (canon_spec b).2.1]⟩
theorem can_eq {x y : List S} (hx : can x) (hy : can y) (h : ∀ n, mem x n ↔ mem y n) : x = y := can_unique hx hy h
theorem comL_len (X Y : List S) : (comL X Y).length ≤ X.length * Y.length := by
  unfold comL
  induction X with
  | nil => simp
  | cons x X ih =>
    rw [List.flatMap_cons, List.length_append, List.length_cons, Nat.succ_mul]
    have : (rowC Y x).length ≤ Y.length := by
      unfold rowC
      clear ih
      induction Y with
      | nil => simp
      | cons y Y ih2 => rw [List.flatMap_cons, List.length_append, List.length_cons]; have := piece_len (meetP x y); omega
    omega
end Sm
end Go.Proofs.Ytnbpkbdkhegheaa
