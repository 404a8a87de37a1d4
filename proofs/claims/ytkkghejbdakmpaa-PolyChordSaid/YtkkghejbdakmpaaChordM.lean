/- The chord by edges is the chord by half planes. -/
import Derived.Test.YtkkghejbdakmpaaPgon
set_option linter.unusedVariables false
set_option linter.unusedSimpArgs false
namespace Go.Proofs.Ytkkghejbdakmpaa
namespace Pm

/-- somewhere in a round, what holds at k and not at j ceases to hold -/
theorem ceases {n : Nat} {p : Nat → Prop} {k j : Nat} (hk : k < n) (hj : j < n) (h1 : p k) (h2 : ¬ p j) : ∃ i, i < n ∧ p i ∧ ¬ p ((i + 1) % n) := by
  apply Classical.byContradiction
  intro hno
  have hn : 0 < n := by omega
  have st : ∀ i, i < n → p i → p ((i + 1) % n) := fun i hi hp => Classical.byContradiction fun hq => hno ⟨i, hi, hp, hq⟩
  have all : ∀ m, p ((k + m) % n) := by
    intro m
    induction m with
    | zero => rw [Nat.add_zero, Nat.mod_eq_of_lt hk]; exact h1
    | succ m ih =>
      have := st _ (Nat.mod_lt _ hn) ih
      rw [Nat.mod_add_mod] at this; exact this
  have h := all (n - k + j)
  rw [show k + (n - k + j) = n + j by omega, Nat.add_mod_left, Nat.mod_eq_of_lt hj] at h
  exact h2 h
theorem most_of (f : Nat → Int) : ∀ n, 0 < n → ∃ k, k < n ∧ ∀ i, i < n → f i ≤ f k
  | 0, h => by omega
  | 1, _ => ⟨0, by omega, fun i hi => by rw [show i = 0 by omega]; exact Int.le_refl _⟩
  | n + 2, _ => by
    obtain ⟨k, hk, h⟩ := most_of f (n + 1) (by omega)
    by_cases c : f k ≤ f (n + 1)
    · refine ⟨n + 1, by omega, fun i hi => ?_⟩
      by_cases e : i = n + 1
      · rw [e]; exact Int.le_refl _
      · have := h i (by omega); omega
    · refine ⟨k, by omega, fun i hi => ?_⟩
      by_cases e : i = n + 1
      · rw [e]; omega
      · exact h i (by omega)
theorem back_ix {H : List P} {k : Nat} (hk : k < H.length) : ∃ i, i < H.length ∧ nx H i = k := by
  refine ⟨(k + (H.length - 1)) % H.length, Nat.mod_lt _ (by omega), ?_⟩
  unfold nx
  rw [Nat.mod_add_mod, show k + (H.length - 1) + 1 = k + H.length by omega, Nat.add_mod_right, Nat.mod_eq_of_lt hk]
theorem apex (u v w : P) (X y : Int) : crs u v w * (y - v.2) = crs u v (X, y) * (w.2 - v.2) - crs v w (X, y) * (v.2 - u.2) := by
  unfold crs; dsimp only; grind
def Ins (H : List P) (y X : Int) : Prop := ∀ i, i < H.length → 0 ≤ crs (g H i) (g H (nx H i)) (X, y)
theorem ins_hi {H D : List P} (G : Pgon H D) {y X : Int} (h : Ins H y X) {k : Nat} (hk : k < H.length) (hm : ∀ i, i < H.length → (g H i).2 ≤ (g H k).2) : y ≤ (g H k).2 := by
  obtain ⟨i, hi, e⟩ := back_ix hk
  have t := G.tr i hi
  have a := h i hi
  have b := h k hk
  rw [e] at t a
  have m1 := hm i hi
  have m2 := hm (nx H k) (nx_lt k (by omega))
  have id := apex (g H i) (g H k) (g H (nx H k)) X y
  rcases Int.lt_or_le (g H k).2 y with c | c
  · exfalso
    have p1 := Int.mul_pos t (show 0 < y - (g H k).2 by omega)
    have p2 := Int.mul_nonneg a (show 0 ≤ -((g H (nx H k)).2 - (g H k).2) by omega)
    have p3 := Int.mul_nonneg b (show 0 ≤ (g H k).2 - (g H i).2 by omega)
    rw [Int.mul_neg] at p2
    omega
  · exact c
theorem ins_lo {H D : List P} (G : Pgon H D) {y X : Int} (h : Ins H y X) {k : Nat} (hk : k < H.length) (hm : ∀ i, i < H.length → (g H k).2 ≤ (g H i).2) : (g H k).2 ≤ y := by
  obtain ⟨i, hi, e⟩ := back_ix hk
  have t := G.tr i hi
  have a := h i hi
  have b := h k hk
  rw [e] at t a
  have m1 := hm i hi
  have m2 := hm (nx H k) (nx_lt k (by omega))
  have id := apex (g H i) (g H k) (g H (nx H k)) X y
  rcases Int.lt_or_le y (g H k).2 with c | c
  · exfalso
    have p1 := Int.mul_pos t (show 0 < -(y - (g H k).2) by omega)
    have p2 := Int.mul_nonneg a (show 0 ≤ ((g H (nx H k)).2 - (g H k).2) by omega)
    have p3 := Int.mul_nonneg b (show 0 ≤ -((g H k).2 - (g H i).2) by omega)
    rw [Int.mul_neg] at p1 p3
    omega
  · exact c
def LefE (y X : Int) (a b : P) : Prop := (a.2 < b.2 ∧ a.2 ≤ y ∧ y ≤ b.2 ∧ crs a b (X, y) ≤ 0) ∨ (b.2 < a.2 ∧ b.2 ≤ y ∧ y ≤ a.2 ∧ 0 ≤ crs a b (X, y))
def RigE (y X : Int) (a b : P) : Prop := (a.2 < b.2 ∧ a.2 ≤ y ∧ y ≤ b.2 ∧ 0 ≤ crs a b (X, y)) ∨ (b.2 < a.2 ∧ b.2 ≤ y ∧ y ≤ a.2 ∧ crs a b (X, y) ≤ 0)
theorem ins_edges {H D : List P} (G : Pgon H D) (h3 : 3 ≤ H.length) {y X : Int} (h : Ins H y X) : (∃ i, i < H.length ∧ LefE y X (g H i) (g H (nx H i))) ∧ ∃ i, i < H.length ∧ RigE y X (g H i) (g H (nx H i)) := by
  obtain ⟨k, hk, hm⟩ := most_of (fun i => (g H i).2) H.length (by omega)
  obtain ⟨j, hj, hl⟩ := most_of (fun i => -(g H i).2) H.length (by omega)
  have hl : ∀ i, i < H.length → (g H j).2 ≤ (g H i).2 := fun i hi => by have := hl i hi; omega
  have y1 := ins_hi G h hk hm
  have y2 := ins_lo G h hj hl
  have hlt : (g H j).2 < (g H k).2 := by
    rcases Int.lt_or_le (g H j).2 (g H k).2 with c | c
    · exact c
    · exfalso
      have al : ∀ i, i < H.length → (g H i).2 = (g H k).2 := fun i hi => by have := hm i hi; have := hl i hi; omega
      have t := G.tr k hk
      have e1 := al (nx H k) (nx_lt k (by omega))
      have e2 := al (nx H (nx H k)) (nx_lt _ (by omega))
      unfold crs at t
      rw [e1, e2, Int.sub_self, Int.mul_zero, Int.zero_mul] at t
      omega
  constructor
  · by_cases c : (g H j).2 < y
    · obtain ⟨i, hi, p1, p2⟩ := ceases (p := fun i => y ≤ (g H i).2) hk hj y1 (by omega)
      have p2 : ¬ y ≤ (g H (nx H i)).2 := p2
      exact ⟨i, hi, .inr ⟨by omega, by omega, p1, h i hi⟩⟩
    · obtain ⟨i, hi, p1, p2⟩ := ceases (p := fun i => y < (g H i).2) hk hj (by omega) (by omega)
      have p2 : ¬ y < (g H (nx H i)).2 := p2
      exact ⟨i, hi, .inr ⟨by omega, by omega, by omega, h i hi⟩⟩
  · by_cases c : y < (g H k).2
    · obtain ⟨i, hi, p1, p2⟩ := ceases (p := fun i => (g H i).2 ≤ y) hj hk y2 (by omega)
      have p2 : ¬ (g H (nx H i)).2 ≤ y := p2
      exact ⟨i, hi, .inl ⟨by omega, p1, by omega, h i hi⟩⟩
    · obtain ⟨i, hi, p1, p2⟩ := ceases (p := fun i => (g H i).2 < y) hj hk (by omega) (by omega)
      have p2 : ¬ (g H (nx H i)).2 < y := p2
      exact ⟨i, hi, .inl ⟨by omega, by omega, by omega, h i hi⟩⟩
theorem seg_id (a b u v : P) (X y : Int) : (b.2 - a.2) * crs u v (X, y) = (b.2 - y) * crs u v a + (y - a.2) * crs u v b + (v.2 - u.2) * crs a b (X, y) := by
  unfold crs; dsimp only; grind
theorem crs_rev (a b p : P) : crs b a p = - crs a b p := by unfold crs; grind
/-- a point beside an edge that crosses its height, on the right side of it, is on the left of an edge that leads down, and the other way around -/
theorem beside {a b u v : P} {X y : Int} (h1 : a.2 < b.2) (h2 : a.2 ≤ y) (h3 : y ≤ b.2) (ha : 0 ≤ crs u v a) (hb : 0 ≤ crs u v b) (hs : 0 ≤ (v.2 - u.2) * crs a b (X, y)) : 0 ≤ crs u v (X, y) := by
  have id := seg_id a b u v X y
  have p1 := Int.mul_nonneg (show 0 ≤ b.2 - y by omega) ha
  have p2 := Int.mul_nonneg (show 0 ≤ y - a.2 by omega) hb
  rcases Int.lt_or_le (crs u v (X, y)) 0 with c | c
  · exfalso
    have := Int.mul_neg_of_pos_of_neg (show 0 < b.2 - a.2 by omega) c
    omega
  · exact c
theorem mul_nn {a b : Int} (h : (0 ≤ a ∧ 0 ≤ b) ∨ (a ≤ 0 ∧ b ≤ 0)) : 0 ≤ a * b := by
  rcases h with ⟨h1, h2⟩ | ⟨h1, h2⟩
  · exact Int.mul_nonneg h1 h2
  · exact Int.mul_nonneg_of_nonpos_of_nonpos h1 h2
theorem edges_ins {H D : List P} (G : Pgon H D) (hsub : ∀ x, x ∈ H → x ∈ D) {y X : Int} (h1 : ∃ i, i < H.length ∧ LefE y X (g H i) (g H (nx H i))) (h2 : ∃ i, i < H.length ∧ RigE y X (g H i) (g H (nx H i))) : Ins H y X := by
  obtain ⟨i, hi, L⟩ := h1
  obtain ⟨j, hj, R⟩ := h2
  intro f hf
  have V : ∀ k, k < H.length → 0 ≤ crs (g H f) (g H (nx H f)) (g H k) := fun k hk => G.ed f hf _ (hsub _ (mem_g hk))
  have ni := nx_lt (l := H) i (by omega)
  have nj := nx_lt (l := H) j (by omega)
  rcases Int.le_total 0 ((g H (nx H f)).2 - (g H f).2) with c | c
  · rcases R with ⟨r1, r2, r3, r4⟩ | ⟨r1, r2, r3, r4⟩
    · exact beside r1 r2 r3 (V j hj) (V _ nj) (mul_nn (.inl ⟨c, r4⟩))
    · exact beside r1 r2 r3 (V _ nj) (V j hj) (mul_nn (.inl ⟨c, by rw [crs_rev]; omega⟩))
  · rcases L with ⟨r1, r2, r3, r4⟩ | ⟨r1, r2, r3, r4⟩
    · exact beside r1 r2 r3 (V i hi) (V _ ni) (mul_nn (.inr ⟨c, r4⟩))
    · exact beside r1 r2 r3 (V _ ni) (V i hi) (mul_nn (.inr ⟨c, by rw [crs_rev]; omega⟩))
/-! the chord by edges -/
theorem crs_form (a b : P) (X y : Int) : crs a b (X, y) = (b.1 - a.1) * (y - a.2) - (X - a.1) * (b.2 - a.2) := by unfold crs; dsimp only; rw [Int.mul_comm (b.2 - a.2)]
theorem addE_1 {y X : Int} {a b s : P} : (addE y a b s).1 ≤ X ↔ s.1 ≤ X ∨ (a.2 ≤ b.2 ∧ a.2 < b.2 ∧ a.2 ≤ y ∧ y ≤ b.2 ∧ crs a b (X, y) ≤ 0) ∨ (b.2 < a.2 ∧ (addE y a b s).1 ≤ X) := by
  by_cases hab : a.2 ≤ b.2
  · unfold addE
    split
    · rename_i h
      constructor
      · exact .inl
      · rintro (k | ⟨_, k1, k2, k3, _⟩ | ⟨k, _⟩)
        · exact k
        · omega
        · omega
    · rename_i h
      have hd : 0 < b.2 - a.2 := by omega
      have e := Int.le_ediv_iff_mul_le (a := a.1 - X) (b := -((b.1 - a.1) * (y - a.2))) hd
      rw [crs_form]
      have e2 : (a.1 - X) * (b.2 - a.2) = -((X - a.1) * (b.2 - a.2)) := by rw [← Int.neg_mul]; congr 1; omega
      rw [e2] at e
      dsimp only
      constructor
      · intro k
        rcases (show s.1 ≤ X ∨ a.1 - -((b.1 - a.1) * (y - a.2)) / (b.2 - a.2) ≤ X by omega) with k | k
        · exact .inl k
        · exact .inr (.inl ⟨hab, by omega, by omega, by omega, by have := e.1 (by omega); omega⟩)
      · rintro (k | ⟨_, k1, k2, k3, k4⟩ | ⟨k, _⟩)
        · omega
        · have := e.2 (by omega); omega
        · omega
  · constructor
    · intro h; exact .inr (.inr ⟨by omega, h⟩)
    · rintro (k | ⟨k, _⟩ | ⟨_, k⟩)
      · unfold addE; rw [if_pos (by omega)]; exact k
      · omega
      · exact k
theorem addE_l {y X : Int} {a b s : P} (hab : a.2 ≤ b.2) : (addE y a b s).1 ≤ X ↔ s.1 ≤ X ∨ (a.2 < b.2 ∧ a.2 ≤ y ∧ y ≤ b.2 ∧ crs a b (X, y) ≤ 0) := by
  rw [addE_1]
  constructor
  · rintro (k | ⟨_, k⟩ | ⟨k, _⟩)
    · exact .inl k
    · exact .inr k
    · omega
  · rintro (k | k)
    · exact .inl k
    · exact .inr (.inl ⟨hab, k⟩)
theorem addE_r {y X : Int} {a b s : P} (hab : a.2 ≤ b.2) : X ≤ (addE y a b s).2 ↔ X ≤ s.2 ∨ (a.2 < b.2 ∧ a.2 ≤ y ∧ y ≤ b.2 ∧ 0 ≤ crs a b (X, y)) := by
  unfold addE
  split
  · rename_i h
    constructor
    · exact .inl
    · rintro (k | ⟨k1, k2, k3, _⟩)
      · exact k
      · omega
  · rename_i h
    have hd : 0 < b.2 - a.2 := by omega
    have e := Int.le_ediv_iff_mul_le (a := X - a.1) (b := (b.1 - a.1) * (y - a.2)) hd
    rw [crs_form]
    dsimp only
    constructor
    · intro k
      rcases (show X ≤ s.2 ∨ X ≤ a.1 + (b.1 - a.1) * (y - a.2) / (b.2 - a.2) by omega) with k | k
      · exact .inl k
      · exact .inr ⟨by omega, by omega, by omega, by have := e.1 (by omega); omega⟩
    · rintro (k | ⟨k1, k2, k3, k4⟩)
      · omega
      · have := e.2 (by omega); omega
theorem addO_l {y X : Int} {a b s : P} : (addO y a b s).1 ≤ X ↔ s.1 ≤ X ∨ LefE y X a b := by
  unfold addO LefE
  split
  · rename_i h
    rw [addE_l (by omega), crs_rev a b]
    constructor
    · rintro (k | ⟨k1, k2, k3, k4⟩)
      · exact .inl k
      · exact .inr (.inr ⟨k1, k2, k3, by omega⟩)
    · rintro (k | ⟨k1, _⟩ | ⟨k1, k2, k3, k4⟩)
      · exact .inl k
      · omega
      · exact .inr ⟨k1, k2, k3, by omega⟩
  · rename_i h
    rw [addE_l (by omega)]
    constructor
    · rintro (k | k)
      · exact .inl k
      · exact .inr (.inl k)
    · rintro (k | k | ⟨k, _⟩)
      · exact .inl k
      · exact .inr k
      · omega
theorem addO_r {y X : Int} {a b s : P} : X ≤ (addO y a b s).2 ↔ X ≤ s.2 ∨ RigE y X a b := by
  unfold addO RigE
  split
  · rename_i h
    rw [addE_r (by omega), crs_rev a b]
    constructor
    · rintro (k | ⟨k1, k2, k3, k4⟩)
      · exact .inl k
      · exact .inr (.inr ⟨k1, k2, k3, by omega⟩)
    · rintro (k | ⟨k1, _⟩ | ⟨k1, k2, k3, k4⟩)
      · exact .inl k
      · omega
      · exact .inr ⟨k1, k2, k3, by omega⟩
  · rename_i h
    rw [addE_r (by omega)]
    constructor
    · rintro (k | k)
      · exact .inl k
      · exact .inr (.inl k)
    · rintro (k | k | ⟨k, _⟩)
      · exact .inl k
      · exact .inr k
      · omega
theorem ex_succ {k : Nat} {p : Nat → Prop} : (∃ i, i < k + 1 ∧ p i) ↔ (∃ i, i < k ∧ p i) ∨ p k := by
  constructor
  · rintro ⟨i, hi, h⟩
    by_cases e : i = k
    · subst e; exact .inr h
    · exact .inl ⟨i, by omega, h⟩
  · rintro (⟨i, hi, h⟩ | h)
    · exact ⟨i, by omega, h⟩
    · exact ⟨k, by omega, h⟩
theorem par_l (H : List P) (y : Int) {X : Int} (hX : X < top) : ∀ k, (parA H y k).1 ≤ X ↔ ∃ i, i < k ∧ LefE y X (g H i) (g H (nx H i))
  | 0 => ⟨fun h => absurd (show top ≤ X from h) (by omega), fun ⟨i, hi, _⟩ => by omega⟩
  | k + 1 => by rw [show parA H y (k + 1) = addO y (g H k) (g H (nx H k)) (parA H y k) from rfl, addO_l, par_l H y hX k, ex_succ]
theorem par_r (H : List P) (y : Int) {X : Int} (hX : least < X) : ∀ k, X ≤ (parA H y k).2 ↔ ∃ i, i < k ∧ RigE y X (g H i) (g H (nx H i))
  | 0 => ⟨fun h => absurd (show X ≤ least from h) (by omega), fun ⟨i, hi, _⟩ => by omega⟩
  | k + 1 => by rw [show parA H y (k + 1) = addO y (g H k) (g H (nx H k)) (parA H y k) from rfl, addO_r, par_r H y hX k, ex_succ]
theorem seg_x (a b : P) (X y : Int) : crs a b (X, y) = (b.2 - y) * (a.1 - X) + (y - a.2) * (b.1 - X) := by unfold crs; dsimp only; grind
theorem lef_bd {a b : P} (ha : inP a = true) (hb : inP b = true) {y X : Int} (h : LefE y X a b) : -600 ≤ X := by
  obtain ⟨⟨a1, _⟩, _⟩ := inP_yes ha
  obtain ⟨⟨b1, _⟩, _⟩ := inP_yes hb
  rcases Int.lt_or_le X (-600) with c | c
  · exfalso
    have e := seg_x a b X y
    rcases h with ⟨h1, h2, h3, h4⟩ | ⟨h1, h2, h3, h4⟩
    · by_cases hy : y < b.2
      · have p1 := Int.mul_pos (show 0 < b.2 - y by omega) (show 0 < a.1 - X by omega)
        have p2 := Int.mul_nonneg (show 0 ≤ y - a.2 by omega) (show 0 ≤ b.1 - X by omega)
        omega
      · have p1 := Int.mul_nonneg (show 0 ≤ b.2 - y by omega) (show 0 ≤ a.1 - X by omega)
        have p2 := Int.mul_pos (show 0 < y - a.2 by omega) (show 0 < b.1 - X by omega)
        omega
    · by_cases hy : b.2 < y
      · have p1 := Int.mul_pos (show 0 < -(b.2 - y) by omega) (show 0 < a.1 - X by omega)
        have p2 := Int.mul_nonneg (show 0 ≤ -(y - a.2) by omega) (show 0 ≤ b.1 - X by omega)
        rw [Int.neg_mul] at p1 p2
        omega
      · have p1 := Int.mul_nonneg (show 0 ≤ -(b.2 - y) by omega) (show 0 ≤ a.1 - X by omega)
        have p2 := Int.mul_pos (show 0 < -(y - a.2) by omega) (show 0 < b.1 - X by omega)
        rw [Int.neg_mul] at p1 p2
        omega
  · exact c
theorem rig_bd {a b : P} (ha : inP a = true) (hb : inP b = true) {y X : Int} (h : RigE y X a b) : X ≤ 600 := by
  obtain ⟨⟨_, a1⟩, _⟩ := inP_yes ha
  obtain ⟨⟨_, b1⟩, _⟩ := inP_yes hb
  rcases Int.lt_or_le 600 X with c | c
  · exfalso
    have e := seg_x a b X y
    rcases h with ⟨h1, h2, h3, h4⟩ | ⟨h1, h2, h3, h4⟩
    · by_cases hy : y < b.2
      · have p1 := Int.mul_pos (show 0 < b.2 - y by omega) (show 0 < -(a.1 - X) by omega)
        have p2 := Int.mul_nonneg (show 0 ≤ y - a.2 by omega) (show 0 ≤ -(b.1 - X) by omega)
        rw [Int.mul_neg] at p1 p2
        omega
      · have p1 := Int.mul_nonneg (show 0 ≤ b.2 - y by omega) (show 0 ≤ -(a.1 - X) by omega)
        have p2 := Int.mul_pos (show 0 < y - a.2 by omega) (show 0 < -(b.1 - X) by omega)
        rw [Int.mul_neg] at p1 p2
        omega
    · by_cases hy : b.2 < y
      · have p1 := Int.mul_pos (show 0 < -(b.2 - y) by omega) (show 0 < -(a.1 - X) by omega)
        have p2 := Int.mul_nonneg (show 0 ≤ -(y - a.2) by omega) (show 0 ≤ -(b.1 - X) by omega)
        rw [Int.neg_mul_neg] at p1 p2
        omega
      · have p1 := Int.mul_nonneg (show 0 ≤ -(b.2 - y) by omega) (show 0 ≤ -(a.1 - X) by omega)
        have p2 := Int.mul_pos (show 0 < -(y - a.2) by omega) (show 0 < -(b.1 - X) by omega)
        rw [Int.neg_mul_neg] at p1 p2
        omega
  · exact c
def Sq (s : P) (X : Int) : Prop := s.1 ≤ X ∧ X ≤ s.2
theorem part_sq {H : List P} (G : Pgon H H) (h3 : 3 ≤ H.length) (hR : RL H) (y X : Int) : Sq (part H y) X ↔ (-600 ≤ X ∧ X ≤ 600) ∧ Ins H y X := by
  have rg : ∀ i, inP (g H i) = true := fun i => by
    by_cases hi : i < H.length
    · exact hR _ (mem_g hi)
    · unfold g; rw [List.getD_eq_getElem?_getD, List.getElem?_eq_none (by omega)]; rfl
  have ht : top = 9223372036854775807 := rfl
  have hl : least = -9223372036854775808 := rfl
  constructor
  · rintro ⟨h1, h2⟩
    have hX1 : X < top := by
      rcases Int.lt_or_le X top with c | c
      · exact c
      · obtain ⟨i, _, h⟩ := (par_r H y (show least < X by omega) H.length).1 h2
        have := rig_bd (rg _) (rg _) h; omega
    have L := (par_l H y hX1 H.length).1 h1
    obtain ⟨i, hi, hL⟩ := L
    have b1 := lef_bd (rg _) (rg _) hL
    have R := (par_r H y (show least < X by omega) H.length).1 h2
    obtain ⟨j, hj, hR'⟩ := R
    exact ⟨⟨b1, rig_bd (rg _) (rg _) hR'⟩, edges_ins G (fun x hx => hx) ⟨i, hi, hL⟩ ⟨j, hj, hR'⟩⟩
  · rintro ⟨⟨b1, b2⟩, h⟩
    obtain ⟨L, R⟩ := ins_edges G h3 h
    exact ⟨(par_l H y (show X < top by omega) H.length).2 L, (par_r H y (show least < X by omega) H.length).2 R⟩
/-! the chord by half planes -/
def badE (y : Int) (a b : P) : Bool := decide (b.2 - a.2 = 0) && decide ((b.1 - a.1) * (y - a.2) < 0)
def accE (y : Int) (a b s : P) : P := if 0 < b.2 - a.2 then (s.1, min s.2 (a.1 + (b.1 - a.1) * (y - a.2) / (b.2 - a.2))) else if b.2 - a.2 < 0 then (max s.1 (a.1 - (b.1 - a.1) * (y - a.2) / (-(b.2 - a.2))), s.2) else s
def acA (H : List P) (y : Int) : Nat → P
  | 0 => (-600, 600)
  | k + 1 => accE y (g H k) (g H (nx H k)) (acA H y k)
def acr (H : List P) (y : Int) : P := if anyN (fun i => badE y (g H i) (g H (nx H i))) H.length then (1, 0) else acA H y H.length
theorem accE_sq {y X : Int} {a b s : P} : Sq (accE y a b s) X ↔ Sq s X ∧ (b.2 - a.2 ≠ 0 → 0 ≤ crs a b (X, y)) := by
  unfold accE Sq
  rw [crs_form]
  split
  · rename_i hd
    have e := Int.le_ediv_iff_mul_le (a := X - a.1) (b := (b.1 - a.1) * (y - a.2)) hd
    dsimp only
    constructor
    · rintro ⟨h1, h2⟩
      exact ⟨⟨h1, by omega⟩, fun _ => by have := e.1 (by omega); omega⟩
    · rintro ⟨⟨h1, h2⟩, h3⟩
      have := e.2 (by have := h3 (by omega); omega)
      exact ⟨h1, by omega⟩
  · split
    · rename_i hd' hd
      have e := Int.le_ediv_iff_mul_le (a := a.1 - X) (b := (b.1 - a.1) * (y - a.2)) (show 0 < -(b.2 - a.2) by omega)
      have e2 : (a.1 - X) * -(b.2 - a.2) = (X - a.1) * (b.2 - a.2) := by rw [Int.mul_neg, ← Int.neg_mul]; congr 1; omega
      rw [e2] at e
      dsimp only
      constructor
      · rintro ⟨h1, h2⟩
        exact ⟨⟨by omega, h2⟩, fun _ => by have := e.1 (by omega); omega⟩
      · rintro ⟨⟨h1, h2⟩, h3⟩
        have := e.2 (by have := h3 (by omega); omega)
        exact ⟨by omega, h2⟩
    · constructor
      · intro h; exact ⟨h, fun k => by omega⟩
      · intro h; exact h.1
theorem acA_sq (H : List P) (y X : Int) : ∀ k, Sq (acA H y k) X ↔ (-600 ≤ X ∧ X ≤ 600) ∧ ∀ i, i < k → ((g H (nx H i)).2 - (g H i).2 ≠ 0 → 0 ≤ crs (g H i) (g H (nx H i)) (X, y))
  | 0 => ⟨fun h => ⟨h, fun i hi => by omega⟩, fun h => h.1⟩
  | k + 1 => by
    rw [show acA H y (k + 1) = accE y (g H k) (g H (nx H k)) (acA H y k) from rfl, accE_sq, acA_sq H y X k]
    constructor
    · rintro ⟨⟨h1, h2⟩, h3⟩
      refine ⟨h1, fun i hi => ?_⟩
      by_cases e : i = k
      · rw [e]; exact h3
      · exact h2 i (by omega)
    · rintro ⟨h1, h2⟩
      exact ⟨⟨h1, fun i hi => h2 i (by omega)⟩, h2 k (by omega)⟩
theorem anyN_ex {f : Nat → Bool} : ∀ {n : Nat}, anyN f n = true → ∃ i, i < n ∧ f i = true
  | 0, h => by cases h
  | n + 1, h => by
    have h : (anyN f n || f n) = true := h
    rw [Bool.or_eq_true] at h
    rcases h with h | h
    · obtain ⟨i, hi, e⟩ := anyN_ex h; exact ⟨i, by omega, e⟩
    · exact ⟨n, by omega, h⟩
theorem acr_sq (H : List P) (y X : Int) : Sq (acr H y) X ↔ (-600 ≤ X ∧ X ≤ 600) ∧ Ins H y X := by
  unfold acr
  split
  · rename_i h
    obtain ⟨i, hi, e⟩ := anyN_ex h
    unfold badE at e
    rw [Bool.and_eq_true, decide_eq_true_eq, decide_eq_true_eq] at e
    constructor
    · rintro ⟨h1, h2⟩; have h1 : (1 : Int) ≤ X := h1; have h2 : X ≤ 0 := h2; omega
    · rintro ⟨_, h⟩
      have := h i hi
      rw [crs_form, e.1, Int.mul_zero] at this; omega
  · rename_i h
    rw [acA_sq]
    constructor
    · rintro ⟨h1, h2⟩
      refine ⟨h1, fun i hi => ?_⟩
      by_cases c : (g H (nx H i)).2 - (g H i).2 = 0
      · rw [crs_form, c, Int.mul_zero]
        rcases Int.lt_or_le (((g H (nx H i)).1 - (g H i).1) * (y - (g H i).2)) 0 with d | d
        · exact absurd (anyN_yes (f := fun i => badE y (g H i) (g H (nx H i))) hi (by unfold badE; rw [decide_eq_true c, decide_eq_true d]; rfl)) h
        · omega
      · exact h2 i hi c
    · rintro ⟨h1, h2⟩
      exact ⟨h1, fun i hi _ => h2 i hi⟩
theorem sq_eq {s t : P} (h : ∀ X, Sq s X ↔ Sq t X) : s = t ∨ (s.2 < s.1 ∧ t.2 < t.1) := by
  unfold Sq at h
  by_cases c : s.1 ≤ s.2
  · have a := (h s.1).1 ⟨Int.le_refl _, c⟩
    have b := (h s.2).1 ⟨c, Int.le_refl _⟩
    have d := (h t.1).2 ⟨Int.le_refl _, by omega⟩
    have e := (h t.2).2 ⟨by omega, Int.le_refl _⟩
    exact .inl (Prod.ext (by omega) (by omega))
  · refine .inr ⟨by omega, ?_⟩
    rcases Int.lt_or_le t.2 t.1 with d | d
    · exact d
    · have := (h t.1).2 ⟨Int.le_refl _, d⟩; omega
def cmbR (s t : P) : P := if s.2 < s.1 ∨ t.2 < t.1 ∨ min s.2 t.2 ≤ max s.1 t.1 then (0, 0) else (max s.1 t.1, min s.2 t.2)
def chordR (l : List P) (lo hi : Int) : P := if hull l = [] ∨ hi ≤ lo ∨ lo < -600 ∨ 600 < hi then (0, 0) else cmbR (acr (hull l) lo) (acr (hull l) hi)
theorem cmb_zero {a b : P} (h : a.2 < a.1 ∨ b.2 < b.1) : cmb a b = (0, 0) := by unfold cmb; rw [if_pos (by omega)]
theorem cmb_same {a b s t : P} (h1 : a = s ∨ (a.2 < a.1 ∧ s.2 < s.1)) (h2 : b = t ∨ (b.2 < b.1 ∧ t.2 < t.1)) : cmb a b = cmbR s t := by
  rcases h1 with rfl | ⟨c, d⟩
  · rcases h2 with rfl | ⟨c, d⟩
    · unfold cmb cmbR
      by_cases k : min a.2 b.2 ≤ max a.1 b.1
      · rw [if_pos k, if_pos (by omega)]
      · rw [if_neg k, if_neg (by omega)]
    · rw [cmb_zero (.inr c)]; unfold cmbR; rw [if_pos (.inr (.inl d))]
  · rw [cmb_zero (.inl c)]; unfold cmbR; rw [if_pos (.inl d)]
theorem chord_same (l : List P) (lo hi : Int) : chord l lo hi = chordR l lo hi := by
  unfold chord chordR
  by_cases c0 : hi ≤ lo
  · rw [if_pos c0, if_pos (.inr (.inl c0))]
  · rw [if_neg c0]
    by_cases ch : hull l = []
    · rw [if_pos (.inl ch), ch]
      exact cmb_zero (.inl (show least < top by decide))
    · obtain ⟨G0, h3⟩ := hull_pgon ch
      have G : Pgon (hull l) (hull l) := ⟨fun i hi p hp => G0.ed i hi p (G0.me p hp), G0.tr, fun x hx => hx⟩
      have hR := hull_rng l
      have no : ∀ y X, (y < -600 ∨ 600 < y) → ¬ Ins (hull l) y X := fun y X hy h => by
        obtain ⟨k, hk, hm⟩ := most_of (fun i => (g (hull l) i).2) (hull l).length (by omega)
        obtain ⟨j, hj, hl⟩ := most_of (fun i => -(g (hull l) i).2) (hull l).length (by omega)
        have y1 := ins_hi G h hk hm
        have y2 := ins_lo G h hj (fun i hi => by have := hl i hi; omega)
        have a := inP_yes (hR _ (mem_g hk))
        have b := inP_yes (hR _ (mem_g hj))
        omega
      have emp : ∀ y, (y < -600 ∨ 600 < y) → (part (hull l) y).2 < (part (hull l) y).1 := fun y hy => by
        rcases Int.lt_or_le (part (hull l) y).2 (part (hull l) y).1 with c | c
        · exact c
        · exact absurd ((part_sq G h3 hR y _).1 ⟨Int.le_refl _, c⟩).2 (no y _ hy)
      by_cases c1 : lo < -600
      · rw [if_pos (.inr (.inr (.inl c1)))]
        exact cmb_zero (.inl (emp lo (.inl c1)))
      · by_cases c2 : 600 < hi
        · rw [if_pos (.inr (.inr (.inr c2)))]
          exact cmb_zero (.inr (emp hi (.inr c2)))
        · rw [if_neg (by rintro (k | k | k | k) <;> first | exact ch k | omega)]
          exact cmb_same (sq_eq fun X => (part_sq G h3 hR lo X).trans (acr_sq _ lo X).symm) (sq_eq fun X => (part_sq G h3 hR hi X).trans (acr_sq _ hi X).symm)
end Pm
end Go.Proofs.Ytkkghejbdakmpaa
