/- Has answers true exactly inside of a convex round. -/
import Derived.Test.YtkkghejbdakmpaaNodup
set_option linter.unusedVariables false
set_option linter.unusedSimpArgs false
namespace Go.Proofs.Ytkkghejbdakmpaa
namespace Pm

structure Rnd (H : List P) : Prop where
  G : Pgon H H
  inj : ∀ {i j : Nat}, i < j → j < H.length → g H i ≠ g H j
  n3 : 3 ≤ H.length
def UpE (y : Int) (a b : P) : Prop := a.2 ≤ y ∧ y < b.2
def DnE (y : Int) (a b : P) : Prop := b.2 ≤ y ∧ y < a.2
theorem four_id (a b c d : P) (y : Int) : (b.2 - y) * crs c d a + (y - a.2) * crs c d b + ((d.2 - y) * crs a b c + (y - c.2) * crs a b d) = 0 := by unfold crs; grind
theorem side_id (z a b c : P) : (b.2 - a.2) * crs z a c = (c.2 - a.2) * crs z a b + (a.2 - z.2) * crs a b c := by unfold crs; grind
theorem four_zero {p q r s : Int} (h1 : 0 ≤ p) (h2 : 0 ≤ q) (h3 : 0 ≤ r) (h4 : 0 ≤ s) (h : p + q + (r + s) = 0) : p = 0 ∧ r = 0 := by omega
theorem on_line {a b c : P} (h : crs a b c = 0) (hab : a.2 < b.2 ∨ b.2 < a.2) (hc : a.2 = c.2) : a = c := by
  have e : crs a b c = -((b.2 - a.2) * (c.1 - a.1)) := by unfold crs; rw [show c.2 - a.2 = 0 by omega, Int.mul_zero]; omega
  rcases Int.mul_eq_zero.1 (show (b.2 - a.2) * (c.1 - a.1) = 0 by omega) with k | k
  · omega
  · exact Prod.ext (by omega) hc
theorem ahead {z a b c : P} (h1 : 0 < crs z a b) (h2 : 0 ≤ crs z a c) (h0 : crs a b c = 0) (hab : a.2 < b.2) : a.2 ≤ c.2 := by
  have id := side_id z a b c
  rw [h0, Int.mul_zero] at id
  have p := Int.mul_nonneg (show 0 ≤ b.2 - a.2 by omega) h2
  rcases Int.lt_or_le c.2 a.2 with k | k
  · have := Int.mul_neg_of_neg_of_pos (show c.2 - a.2 < 0 by omega) h1; omega
  · exact k
/-- one edge alone leads up over a height -/
theorem Rnd.up_one {H : List P} (R : Rnd H) {y : Int} {i j : Nat} (hi : i < H.length) (hj : j < H.length) (ui : UpE y (g H i) (g H (nx H i))) (uj : UpE y (g H j) (g H (nx H j))) : i = j := by
  have n3 := R.n3
  obtain ⟨u1, u2⟩ := ui
  obtain ⟨v1, v2⟩ := uj
  have id := four_id (g H i) (g H (nx H i)) (g H j) (g H (nx H j)) y
  have ai := R.G.ed j hj _ (mem_g hi)
  have bi := R.G.ed j hj _ (mem_g (nx_lt (l := H) i (by omega)))
  have aj := R.G.ed i hi _ (mem_g hj)
  have bj := R.G.ed i hi _ (mem_g (nx_lt (l := H) j (by omega)))
  obtain ⟨z1, z2⟩ := four_zero (Int.mul_nonneg (by omega) ai) (Int.mul_nonneg (by omega) bi) (Int.mul_nonneg (by omega) aj) (Int.mul_nonneg (by omega) bj) id
  have w1 : crs (g H j) (g H (nx H j)) (g H i) = 0 := by
    rcases Int.mul_eq_zero.1 z1 with k | k
    · omega
    · exact k
  have w2 : crs (g H i) (g H (nx H i)) (g H j) = 0 := by
    rcases Int.mul_eq_zero.1 z2 with k | k
    · omega
    · exact k
  obtain ⟨pi, hpi, ei⟩ := back_ix hi
  obtain ⟨pj, hpj, ej⟩ := back_ix hj
  have ti := R.G.tr pi hpi
  have tj := R.G.tr pj hpj
  have si := R.G.ed pi hpi _ (mem_g hj)
  have sj := R.G.ed pj hpj _ (mem_g hi)
  rw [ei] at ti si
  rw [ej] at tj sj
  have h1 := ahead ti si w2 (by omega)
  have h2 := ahead tj sj w1 (by omega)
  have e := on_line w2 (.inl (by omega)) (by omega)
  rcases Nat.lt_trichotomy i j with k | k | k
  · exact absurd e (R.inj k hj)
  · exact k
  · exact absurd e.symm (R.inj k hi)
theorem four_id2 (a b c d : P) (y : Int) : (a.2 - y) * crs c d b + (y - b.2) * crs c d a + ((c.2 - y) * crs a b d + (y - d.2) * crs a b c) = 0 := by unfold crs; grind
/-- b is where the edge from a leads; w behind it -/
theorem behind {a b w d : P} (h1 : 0 < crs a b w) (h2 : 0 ≤ crs b w d) (h0 : crs a b d = 0) (hab : b.2 < a.2) : b.2 ≤ d.2 := by
  have id : (a.2 - b.2) * crs b w d = (d.2 - b.2) * crs a b w + (w.2 - b.2) * -crs a b d := by unfold crs; grind
  rw [h0, Int.neg_zero, Int.mul_zero] at id
  have p := Int.mul_nonneg (show 0 ≤ a.2 - b.2 by omega) h2
  rcases Int.lt_or_le d.2 b.2 with k | k
  · have := Int.mul_neg_of_neg_of_pos (show d.2 - b.2 < 0 by omega) h1; omega
  · exact k
theorem nx_inj {H : List P} {i j : Nat} (hi : i < H.length) (hj : j < H.length) (h : nx H i = nx H j) : i = j := by
  have e : ∀ i, i < H.length → nx H i = if i + 1 = H.length then 0 else i + 1 := fun i hi => by
    unfold nx
    split
    · rename_i c; rw [c, Nat.mod_self]
    · exact Nat.mod_eq_of_lt (by omega)
  rw [e i hi, e j hj] at h
  split at h <;> split at h <;> omega
/-- one edge alone leads down over a height -/
theorem Rnd.dn_one {H : List P} (R : Rnd H) {y : Int} {i j : Nat} (hi : i < H.length) (hj : j < H.length) (ui : DnE y (g H i) (g H (nx H i))) (uj : DnE y (g H j) (g H (nx H j))) : i = j := by
  have n3 := R.n3
  obtain ⟨u1, u2⟩ := ui
  obtain ⟨v1, v2⟩ := uj
  have id := four_id2 (g H i) (g H (nx H i)) (g H j) (g H (nx H j)) y
  have ni := nx_lt (l := H) i (by omega)
  have nj := nx_lt (l := H) j (by omega)
  have ai := R.G.ed j hj _ (mem_g hi)
  have bi := R.G.ed j hj _ (mem_g ni)
  have aj := R.G.ed i hi _ (mem_g hj)
  have bj := R.G.ed i hi _ (mem_g nj)
  obtain ⟨z1, z2⟩ := four_zero (Int.mul_nonneg (by omega) bi) (Int.mul_nonneg (by omega) ai) (Int.mul_nonneg (by omega) bj) (Int.mul_nonneg (by omega) aj) id
  have w1 : crs (g H j) (g H (nx H j)) (g H (nx H i)) = 0 := by
    rcases Int.mul_eq_zero.1 z1 with k | k
    · omega
    · exact k
  have w2 : crs (g H i) (g H (nx H i)) (g H (nx H j)) = 0 := by
    rcases Int.mul_eq_zero.1 z2 with k | k
    · omega
    · exact k
  have h1 := behind (R.G.tr i hi) (R.G.ed _ ni _ (mem_g nj)) w2 (by omega)
  have h2 := behind (R.G.tr j hj) (R.G.ed _ nj _ (mem_g ni)) w1 (by omega)
  have e : g H (nx H i) = g H (nx H j) := on_line (b := g H i) (by rw [crs_rev]; omega) (.inl (by omega)) (by omega)
  have en : nx H i = nx H j := by
    rcases Nat.lt_trichotomy (nx H i) (nx H j) with k | k | k
    · exact absurd e (R.inj k nj)
    · exact k
    · exact absurd e.symm (R.inj k ni)
  exact nx_inj hi hj en
theorem par_none {f : Nat → Bool} : ∀ {n : Nat}, (∀ i, i < n → f i = false) → parN f n = false
  | 0, _ => rfl
  | n + 1, h => by
    show (if f n then !parN f n else parN f n) = false
    rw [h n (by omega), par_none fun i hi => h i (by omega)]; rfl
theorem par_one {f : Nat → Bool} : ∀ {n i : Nat}, i < n → f i = true → (∀ j, j < n → j ≠ i → f j = false) → parN f n = true
  | 0, i, h, _, _ => by omega
  | n + 1, i, hi, h1, h2 => by
    show (if f n then !parN f n else parN f n) = true
    by_cases e : i = n
    · subst e; rw [h1, par_none fun j hj => h2 j (by omega) (by omega)]; rfl
    · rw [h2 n (by omega) (fun k => e k.symm), par_one (i := i) (by omega) h1 fun j hj => h2 j (by omega)]; rfl
theorem par_two {f : Nat → Bool} : ∀ {n i j : Nat}, i < n → j < n → i ≠ j → f i = true → f j = true → (∀ k, k < n → k ≠ i → k ≠ j → f k = false) → parN f n = false
  | 0, i, j, h, _, _, _, _, _ => by omega
  | n + 1, i, j, hi, hj, hne, h1, h2, h3 => by
    show (if f n then !parN f n else parN f n) = false
    by_cases e : i = n
    · subst e; rw [h1, par_one (i := j) (by omega) h2 fun k hk hkj => h3 k (by omega) (by omega) hkj]; rfl
    · by_cases e2 : j = n
      · subst e2; rw [h2, par_one (i := i) (by omega) h1 fun k hk hki => h3 k (by omega) hki (by omega)]; rfl
      · rw [h3 n (by omega) (fun k => e k.symm) (fun k => e2 k.symm), par_two (i := i) (j := j) (by omega) (by omega) hne h1 h2 fun k hk => h3 k (by omega)]; rfl
theorem par_ex {f : Nat → Bool} {n : Nat} (h : parN f n = true) : ∃ i, i < n ∧ f i = true := by
  apply Classical.byContradiction
  intro hno
  rw [par_none fun i hi => by cases e : f i with | false => rfl | true => exact absurd ⟨i, hi, e⟩ hno] at h
  cases h
theorem flp_iff {a b : P} {X y : Int} : flp a b (X, y) = true ↔ (UpE y a b ∧ 0 < crs a b (X, y)) ∨ (DnE y a b ∧ crs a b (X, y) < 0) := by
  unfold flp UpE DnE
  simp only [Bool.or_eq_true, Bool.and_eq_true, decide_eq_true_eq]
theorem onE_iff {a b : P} {X y : Int} : onE a b (X, y) = true ↔ crs a b (X, y) = 0 ∧ (min a.1 b.1 ≤ X ∧ X ≤ max a.1 b.1) ∧ min a.2 b.2 ≤ y ∧ y ≤ max a.2 b.2 := by
  unfold onE inB
  simp only [Bool.and_eq_true, decide_eq_true_eq]
  constructor
  · rintro ⟨h1, ⟨⟨h2, h3⟩, h4⟩, h5⟩; exact ⟨h1, ⟨h2, h3⟩, h4, h5⟩
  · rintro ⟨h1, ⟨h2, h3⟩, h4, h5⟩; exact ⟨h1, ⟨⟨h2, h3⟩, h4⟩, h5⟩
/-- a point on an edge is inside -/
theorem Rnd.on_ins {H : List P} (R : Rnd H) {X y : Int} {i : Nat} (hi : i < H.length) (h : onE (g H i) (g H (nx H i)) (X, y) = true) : Ins H y X := by
  have n3 := R.n3
  obtain ⟨h0, ⟨x1, x2⟩, y1, y2⟩ := onE_iff.1 h
  have ni := nx_lt (l := H) i (by omega)
  rcases Int.lt_trichotomy (g H i).2 (g H (nx H i)).2 with c | c | c
  · exact edges_ins R.G (fun x hx => hx) ⟨i, hi, .inl ⟨c, by omega, by omega, by omega⟩⟩ ⟨i, hi, .inl ⟨c, by omega, by omega, by omega⟩⟩
  · intro f hf
    have a := R.G.ed f hf _ (mem_g hi)
    have b := R.G.ed f hf _ (mem_g ni)
    have ey : y = (g H i).2 := by omega
    have id : ((g H (nx H i)).1 - (g H i).1) * crs (g H f) (g H (nx H f)) (X, y) = ((g H (nx H i)).1 - X) * crs (g H f) (g H (nx H f)) (g H i) + (X - (g H i).1) * crs (g H f) (g H (nx H f)) (g H (nx H i)) := by
      generalize g H f = u
      generalize g H (nx H f) = v
      generalize hA : g H i = A at *
      generalize hB : g H (nx H i) = B at *
      clear a b h h0 hA hB
      unfold crs
      dsimp only
      rw [ey, ← c]
      clear ey c x1 x2 y1 y2
      grind
    rcases Int.lt_or_le (crs (g H f) (g H (nx H f)) (X, y)) 0 with k | k
    · exfalso
      rcases Int.lt_trichotomy (g H i).1 (g H (nx H i)).1 with d | d | d
      · have p1 := Int.mul_nonneg (show 0 ≤ (g H (nx H i)).1 - X by omega) a
        have p2 := Int.mul_nonneg (show 0 ≤ X - (g H i).1 by omega) b
        have := Int.mul_neg_of_pos_of_neg (show 0 < (g H (nx H i)).1 - (g H i).1 by omega) k
        omega
      · have : g H i = (X, y) := Prod.ext (by show _ = X; omega) (by show _ = y; omega)
        rw [this] at a; omega
      · have p1 := Int.mul_nonneg (show 0 ≤ -((g H (nx H i)).1 - X) by omega) a
        have p2 := Int.mul_nonneg (show 0 ≤ -(X - (g H i).1) by omega) b
        have := Int.mul_pos (show 0 < -((g H (nx H i)).1 - (g H i).1) by omega) (show 0 < -crs (g H f) (g H (nx H f)) (X, y) by omega)
        rw [Int.neg_mul_neg] at this
        rw [Int.neg_mul] at p1 p2
        omega
    · exact k
  · exact edges_ins R.G (fun x hx => hx) ⟨i, hi, .inr ⟨c, by omega, by omega, by omega⟩⟩ ⟨i, hi, .inr ⟨c, by omega, by omega, by omega⟩⟩
theorem up_to_dn {H : List P} {y : Int} {k : Nat} (hk : k < H.length) (u : UpE y (g H k) (g H (nx H k))) : ∃ i, i < H.length ∧ DnE y (g H i) (g H (nx H i)) := by
  obtain ⟨i, hi, p1, p2⟩ := ceases (p := fun i => y < (g H i).2) (nx_lt (l := H) k (by omega)) hk u.2 (by have := u.1; omega)
  have p2 : ¬ y < (g H (nx H i)).2 := p2
  exact ⟨i, hi, by omega, p1⟩
theorem dn_to_up {H : List P} {y : Int} {k : Nat} (hk : k < H.length) (u : DnE y (g H k) (g H (nx H k))) : ∃ i, i < H.length ∧ UpE y (g H i) (g H (nx H i)) := by
  obtain ⟨i, hi, p1, p2⟩ := ceases (p := fun i => (g H i).2 ≤ y) (nx_lt (l := H) k (by omega)) hk u.1 (by have := u.2; omega)
  have p2 : ¬ (g H (nx H i)).2 ≤ y := p2
  exact ⟨i, hi, p1, by omega⟩
theorem not_both {a b : P} {y : Int} (h1 : UpE y a b) (h2 : DnE y a b) : False := by unfold UpE at h1; unfold DnE at h2; omega
/-- an odd number of flips is inside -/
theorem Rnd.odd_ins {H : List P} (R : Rnd H) {X y : Int} (h : parN (fun i => flp (g H i) (g H (nx H i)) (X, y)) H.length = true) : Ins H y X := by
  have n3 := R.n3
  obtain ⟨k, hk, f⟩ := par_ex h
  rcases flp_iff.1 f with ⟨u, c⟩ | ⟨u, c⟩
  · obtain ⟨j, hj, d⟩ := up_to_dn hk u
    rcases Int.lt_or_le (crs (g H j) (g H (nx H j)) (X, y)) 0 with e | e
    · exfalso
      rw [par_two (i := k) (j := j) hk hj (fun q => by subst q; exact not_both u d) f (flp_iff.2 (.inr ⟨d, e⟩)) (fun i hi h1 h2 => by
        cases q : flp (g H i) (g H (nx H i)) (X, y) with
        | false => rfl
        | true =>
          rcases flp_iff.1 q with ⟨z, _⟩ | ⟨z, _⟩
          · exact absurd (R.up_one hi hk z u) h1
          · exact absurd (R.dn_one hi hj z d) h2)] at h
      cases h
    · obtain ⟨u1, u2⟩ := u
      obtain ⟨d1, d2⟩ := d
      exact edges_ins R.G (fun x hx => hx) ⟨j, hj, .inr ⟨by omega, d1, by omega, e⟩⟩ ⟨k, hk, .inl ⟨by omega, u1, by omega, by omega⟩⟩
  · obtain ⟨j, hj, d⟩ := dn_to_up hk u
    exfalso
    rcases Int.lt_or_le 0 (crs (g H j) (g H (nx H j)) (X, y)) with e | e
    · rw [par_two (i := k) (j := j) hk hj (fun q => by subst q; exact not_both d u) f (flp_iff.2 (.inl ⟨d, e⟩)) (fun i hi h1 h2 => by
        cases q : flp (g H i) (g H (nx H i)) (X, y) with
        | false => rfl
        | true =>
          rcases flp_iff.1 q with ⟨z, _⟩ | ⟨z, _⟩
          · exact absurd (R.up_one hi hj z d) h2
          · exact absurd (R.dn_one hi hk z u) h1)] at h
      cases h
    · obtain ⟨u1, u2⟩ := u
      obtain ⟨d1, d2⟩ := d
      have := beside (u := g H k) (v := g H (nx H k)) (X := X) (y := y) (a := g H j) (b := g H (nx H j)) (by omega) d1 (by omega) (R.G.ed k hk _ (mem_g hj)) (R.G.ed k hk _ (mem_g (nx_lt _ (by omega)))) (mul_nn (.inr ⟨by omega, e⟩))
      omega
/-- inside is on an edge, or an odd number of flips -/
theorem Rnd.ins_has {H : List P} (R : Rnd H) {X y : Int} (h : Ins H y X) : (∃ i, i < H.length ∧ onE (g H i) (g H (nx H i)) (X, y) = true) ∨ parN (fun i => flp (g H i) (g H (nx H i)) (X, y)) H.length = true := by
  have n3 := R.n3
  by_cases hon : ∃ i, i < H.length ∧ onE (g H i) (g H (nx H i)) (X, y) = true
  · exact .inl hon
  · right
    have no : ∀ i, i < H.length → onE (g H i) (g H (nx H i)) (X, y) = false := fun i hi => by
      cases q : onE (g H i) (g H (nx H i)) (X, y) with
      | false => rfl
      | true => exact absurd ⟨i, hi, q⟩ hon
    obtain ⟨_, ⟨j, hj, r⟩⟩ := ins_edges R.G n3 h
    have nd : ∀ i, i < H.length → ¬ (DnE y (g H i) (g H (nx H i)) ∧ crs (g H i) (g H (nx H i)) (X, y) < 0) := fun i hi k => by have := h i hi; omega
    have up : ∃ i, i < H.length ∧ UpE y (g H i) (g H (nx H i)) := by
      rcases r with ⟨r1, r2, r3, r4⟩ | ⟨r1, r2, r3, r4⟩
      · by_cases c : y < (g H (nx H j)).2
        · exact ⟨j, hj, r2, c⟩
        · have ey : y = (g H (nx H j)).2 := by omega
          have nj := nx_lt (l := H) j (by omega)
          have t := R.G.tr j hj
          have p := h _ nj
          obtain ⟨b, hb⟩ : ∃ b, g H (nx H j) = b := ⟨_, rfl⟩
          obtain ⟨c', hc⟩ : ∃ b, g H (nx H (nx H j)) = b := ⟨_, rfl⟩
          rw [hb] at r1 r3 r4 ey c t p
          rw [hc] at t p
          have x1 : X ≤ b.1 := by
            rcases Int.lt_or_le b.1 X with k | k
            · exfalso
              have e : crs (g H j) b (X, y) = (b.2 - (g H j).2) * (b.1 - X) := by rw [ey]; unfold crs; dsimp only; grind
              have := Int.mul_neg_of_pos_of_neg (show 0 < b.2 - (g H j).2 by omega) (show b.1 - X < 0 by omega)
              omega
            · exact k
          rcases Int.lt_trichotomy c'.2 b.2 with d | d | d
          · exfalso
            have x2 : b.1 ≤ X := by
              rcases Int.lt_or_le X b.1 with k | k
              · exfalso
                have e : crs b c' (X, y) = (b.2 - c'.2) * (X - b.1) := by rw [ey]; unfold crs; dsimp only; grind
                have := Int.mul_neg_of_pos_of_neg (show 0 < b.2 - c'.2 by omega) (show X - b.1 < 0 by omega)
                omega
              · exact k
            have := no j hj
            rw [hb, onE_iff.2 ⟨?_, by omega, by omega⟩] at this
            · cases this
            · have e : crs (g H j) b (X, y) = (b.2 - (g H j).2) * (b.1 - X) := by rw [ey]; unfold crs; dsimp only; grind
              rw [e, show b.1 - X = 0 by omega, Int.mul_zero]
          · exfalso
            have t2 := R.G.tr _ nj
            have nn := nx_lt (l := H) (nx H j) (by omega)
            have p2 := h _ nn
            rw [hb, hc] at t2
            rw [hc] at p2
            obtain ⟨e', he⟩ : ∃ b, g H (nx H (nx H (nx H j))) = b := ⟨_, rfl⟩
            rw [he] at t2 p2
            have tt : crs b c' e' = (c'.1 - b.1) * (e'.2 - c'.2) := by unfold crs; rw [show c'.2 - b.2 = 0 by omega, show e'.2 - b.2 = e'.2 - c'.2 by omega]; omega
            have tj : crs (g H j) b c' = (b.2 - (g H j).2) * (b.1 - c'.1) := by
              have : c'.2 = b.2 := d
              unfold crs; rw [this]; grind
            have cb : c'.1 < b.1 := by
              rcases Int.lt_or_le c'.1 b.1 with k | k
              · exact k
              · have := Int.mul_nonneg (show 0 ≤ b.2 - (g H j).2 by omega) (show 0 ≤ c'.1 - b.1 by omega)
                rw [show b.1 - c'.1 = -(c'.1 - b.1) by omega, Int.mul_neg] at tj; omega
            have ec : e'.2 < c'.2 := by
              rcases Int.lt_or_le e'.2 c'.2 with k | k
              · exact k
              · have := Int.mul_nonneg (show 0 ≤ b.1 - c'.1 by omega) (show 0 ≤ e'.2 - c'.2 by omega)
                rw [show c'.1 - b.1 = -(b.1 - c'.1) by omega, Int.neg_mul] at tt; omega
            have x2 : c'.1 ≤ X := by
              rcases Int.lt_or_le X c'.1 with k | k
              · exfalso
                have e : crs c' e' (X, y) = (c'.2 - e'.2) * (X - c'.1) := by rw [ey, ← d]; unfold crs; dsimp only; grind
                have := Int.mul_neg_of_pos_of_neg (show 0 < c'.2 - e'.2 by omega) (show X - c'.1 < 0 by omega)
                omega
              · exact k
            have := no _ nj
            rw [hb, hc, onE_iff.2 ⟨?_, by omega, by omega⟩] at this
            · cases this
            · unfold crs; rw [show c'.2 - b.2 = 0 by omega]; dsimp only; rw [show y - b.2 = 0 by omega, Int.mul_zero, Int.zero_mul]; rfl
          · exact ⟨nx H j, nj, by rw [hb]; omega, by rw [hc]; omega⟩
      · exact dn_to_up hj ⟨r2, by
          rcases Int.lt_or_le y (g H j).2 with k | k
          · exact k
          · exfalso
            have p := h j hj
            have q := no j hj
            have e0 : crs (g H j) (g H (nx H j)) (X, y) = 0 := by omega
            have ex := on_line (a := g H j) (b := g H (nx H j)) (c := (X, y)) e0 (.inr r1) (by show _ = y; omega)
            rw [onE_iff.2 ⟨e0, by rw [ex]; dsimp only; omega, by omega⟩] at q
            cases q⟩
    obtain ⟨k, hk, u⟩ := up
    have ck : 0 < crs (g H k) (g H (nx H k)) (X, y) := by
      have p := h k hk
      rcases Int.lt_or_le 0 (crs (g H k) (g H (nx H k)) (X, y)) with c | c
      · exact c
      · exfalso
        have q := no k hk
        obtain ⟨u1, u2⟩ := u
        have e0 : crs (g H k) (g H (nx H k)) (X, y) = 0 := by omega
        have sx := seg_x (g H k) (g H (nx H k)) X y
        rw [e0] at sx
        rw [onE_iff.2 ⟨e0, ?_, by omega⟩] at q
        · cases q
        · constructor
          · rcases Int.lt_or_le X (min (g H k).1 (g H (nx H k)).1) with d | d
            · have p1 := Int.mul_pos (show 0 < (g H (nx H k)).2 - y by omega) (show 0 < (g H k).1 - X by omega)
              have p2 := Int.mul_nonneg (show 0 ≤ y - (g H k).2 by omega) (show 0 ≤ (g H (nx H k)).1 - X by omega)
              omega
            · exact d
          · rcases Int.lt_or_le (max (g H k).1 (g H (nx H k)).1) X with d | d
            · have p1 := Int.mul_pos (show 0 < (g H (nx H k)).2 - y by omega) (show 0 < -((g H k).1 - X) by omega)
              have p2 := Int.mul_nonneg (show 0 ≤ y - (g H k).2 by omega) (show 0 ≤ -((g H (nx H k)).1 - X) by omega)
              rw [Int.mul_neg] at p1 p2
              omega
            · exact d
    exact par_one hk (flp_iff.2 (.inl ⟨u, ck⟩)) fun i hi hne => by
      cases q : flp (g H i) (g H (nx H i)) (X, y) with
      | false => rfl
      | true =>
        rcases flp_iff.1 q with ⟨z, _⟩ | z
        · exact absurd (R.up_one hi hk z u) hne
        · exact absurd z (nd i hi)
/-- Has answers true exactly inside -/
theorem Rnd.has_iff {H : List P} (R : Rnd H) (hc : chk H = 0) {X y : Int} (hq : inP (X, y) = true) : has H (X, y) = true ↔ Ins H y X := by
  unfold has
  rw [decide_eq_true hc, hq, Bool.and_self, Bool.true_and, Bool.or_eq_true]
  constructor
  · rintro (h | h)
    · obtain ⟨i, hi, e⟩ := anyN_ex h; exact R.on_ins hi e
    · exact R.odd_ins h
  · intro h
    rcases R.ins_has h with ⟨i, hi, e⟩ | e
    · exact .inl (anyN_yes (f := fun i => onE (g H i) (g H (nx H i)) (X, y)) hi e)
    · exact .inr e
end Pm
end Go.Proofs.Ytkkghejbdakmpaa
