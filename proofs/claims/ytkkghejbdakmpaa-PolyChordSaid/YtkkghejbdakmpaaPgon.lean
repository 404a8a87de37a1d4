/- The corners of the hull, in a round: the points lie to the left of every edge, and every corner turns to the left. -/
import Derived.Test.YtkkghejbdakmpaaConv
set_option linter.unusedVariables false
set_option linter.unusedSimpArgs false
namespace Go.Proofs.Ytkkghejbdakmpaa
namespace Pm

def ng (p : P) : P := (-p.1, -p.2)
theorem ng_ng (p : P) : ng (ng p) = p := by unfold ng; simp
theorem crs_ng (a b p : P) : crs (ng a) (ng b) (ng p) = crs a b p := by
  unfold crs ng; dsimp only
  rw [show -b.1 - -a.1 = -(b.1 - a.1) by omega, show -p.2 - -a.2 = -(p.2 - a.2) by omega, show -b.2 - -a.2 = -(b.2 - a.2) by omega, show -p.1 - -a.1 = -(p.1 - a.1) by omega, Int.neg_mul_neg, Int.neg_mul_neg]
theorem bef_ng (a b : P) : bef (ng a) (ng b) = bef b a := by
  cases h : bef b a with
  | true => rw [bef_iff] at *; unfold ng; dsimp only; omega
  | false => rw [bef_no] at *; unfold ng; dsimp only; omega
theorem pop_ng (q : P) : ∀ s : List P, pop (ng q) (s.map ng) = (pop q s).map ng
  | [] => rfl
  | [a] => rfl
  | b :: a :: r => by
    show pop (ng q) (ng b :: ng a :: r.map ng) = _
    rw [pop, pop, crs_ng]
    split
    · exact pop_ng q (a :: r)
    · rfl
theorem chR_ng (l : List P) : chR (l.map ng) = (chR l).map ng := by
  refine snoc_ind (p := fun l => chR (l.map ng) = (chR l).map ng) rfl (fun l q ih => ?_) l
  rw [List.map_append, List.map_cons, List.map_nil, chR_snoc, chR_snoc, ih, pop_ng]; rfl
theorem edg_ng {E : P → P → Prop} : ∀ {S : List P}, edg E (S.map ng) → edg (fun a b => E (ng a) (ng b)) S
  | [], _ => trivial
  | [a], _ => trivial
  | b :: a :: r, ⟨h1, h2⟩ => ⟨h1, edg_ng (S := a :: r) h2⟩
theorem trn_ng : ∀ {S : List P}, trn (S.map ng) → trn S
  | [], _ => trivial
  | [a], _ => trivial
  | [b, a], _ => trivial
  | c :: b :: a :: r, ⟨h1, h2⟩ => ⟨by rw [crs_ng] at h1; exact h1, trn_ng (S := b :: a :: r) h2⟩
/-- the edges of a way by numbers -/
theorem edg_at {E : P → P → Prop} : ∀ {S : List P}, edg E S → ∀ i, i + 1 < S.length → E (g S.reverse i) (g S.reverse (i + 1))
  | [], _, i, h => by simp at h
  | [a], _, i, h => by simp at h
  | b :: a :: r, ⟨h1, h2⟩, i, h => by
    by_cases e : i = r.length
    · subst e
      have x1 : g (b :: a :: r).reverse r.length = a := by
        unfold g
        rw [List.getD_eq_getElem?_getD, List.reverse_cons, List.reverse_cons, List.getElem?_append_left (by simp), List.getElem?_append_right (by simp)]; simp
      have x2 : g (b :: a :: r).reverse (r.length + 1) = b := by
        unfold g
        rw [List.getD_eq_getElem?_getD, List.reverse_cons, List.getElem?_append_right (by simp)]; simp
      rw [x1, x2]; exact h1
    · have hi : i + 1 < (a :: r).length := by simp at h ⊢; omega
      have k := edg_at h2 i hi
      have x : ∀ j, j < (a :: r).length → g (b :: a :: r).reverse j = g (a :: r).reverse j := fun j hj => by
        unfold g
        rw [List.getD_eq_getElem?_getD, List.getD_eq_getElem?_getD, List.reverse_cons (a := b), List.getElem?_append_left (by simpa using hj)]
      rw [x i (by omega), x (i + 1) hi]; exact k
theorem trn_at : ∀ {S : List P}, trn S → ∀ i, i + 2 < S.length → 0 < crs (g S.reverse i) (g S.reverse (i + 1)) (g S.reverse (i + 2))
  | [], _, i, h => by simp at h
  | [a], _, i, h => by simp at h
  | [b, a], _, i, h => by have : i + 2 < 2 := h; omega
  | c :: b :: a :: r, ⟨h1, h2⟩, i, h => by
    by_cases e : i = r.length
    · subst e
      have x1 : g (c :: b :: a :: r).reverse r.length = a := by
        unfold g
        rw [List.getD_eq_getElem?_getD, List.reverse_cons, List.reverse_cons, List.reverse_cons, List.getElem?_append_left (by simp), List.getElem?_append_left (by simp), List.getElem?_append_right (by simp)]; simp
      have x2 : g (c :: b :: a :: r).reverse (r.length + 1) = b := by
        unfold g
        rw [List.getD_eq_getElem?_getD, List.reverse_cons, List.reverse_cons, List.getElem?_append_left (by simp), List.getElem?_append_right (by simp)]; simp
      have x3 : g (c :: b :: a :: r).reverse (r.length + 2) = c := by
        unfold g
        rw [List.getD_eq_getElem?_getD, List.reverse_cons, List.getElem?_append_right (by simp)]; simp
      rw [x1, x2, x3]; exact h1
    · have hi : i + 2 < (b :: a :: r).length := by simp at h ⊢; omega
      have k := trn_at h2 i hi
      have x : ∀ j, j < (b :: a :: r).length → g (c :: b :: a :: r).reverse j = g (b :: a :: r).reverse j := fun j hj => by
        unfold g
        rw [List.getD_eq_getElem?_getD, List.getD_eq_getElem?_getD, List.reverse_cons (a := c), List.getElem?_append_left (by simpa using hj)]
      rw [x i (by omega), x (i + 1) (by omega), x (i + 2) hi]; exact k
/-- both ways over points in strict order -/
structure Two (D lo up : List P) : Prop where
  n2 : 2 ≤ lo.length
  m2 : 2 ≤ up.length
  lo0 : g lo 0 = g D 0
  lo1 : g lo (lo.length - 1) = g D (D.length - 1)
  up0 : g up 0 = g D (D.length - 1)
  up1 : g up (up.length - 1) = g D 0
  el : ∀ i, i + 1 < lo.length → bef (g lo i) (g lo (i + 1)) = true ∧ ∀ p, p ∈ D → 0 ≤ crs (g lo i) (g lo (i + 1)) p
  eu : ∀ i, i + 1 < up.length → bef (g up (i + 1)) (g up i) = true ∧ ∀ p, p ∈ D → 0 ≤ crs (g up i) (g up (i + 1)) p
  tl : ∀ i, i + 2 < lo.length → 0 < crs (g lo i) (g lo (i + 1)) (g lo (i + 2))
  tu : ∀ i, i + 2 < up.length → 0 < crs (g up i) (g up (i + 1)) (g up (i + 2))
  ml : ∀ x, x ∈ lo → x ∈ D
  mu : ∀ x, x ∈ up → x ∈ D
  so : D.Pairwise (fun a b => bef a b = true)
theorem g_head {l : List P} {x : P} (h : l.head? = some x) : g l 0 = x := by
  cases l with
  | nil => cases h
  | cons a r => exact Option.some.inj h
theorem g_last {l : List P} {x : P} (h : l.getLast? = some x) : g l (l.length - 1) = x := by
  unfold g; rw [List.getD_eq_getElem?_getD, ← List.getLast?_eq_getElem?, h]; rfl
theorem head_g {l : List P} (h : l ≠ []) : l.head? = some (g l 0) := by
  cases l with
  | nil => exact absurd rfl h
  | cons a r => rfl
theorem last_g {l : List P} (h : l ≠ []) : l.getLast? = some (g l (l.length - 1)) := by
  rw [List.getLast?_eq_getElem?]
  exact g_some (by have := List.length_pos_iff.2 h; omega)
theorem two_of {D : List P} (h : D.Pairwise (fun a b => bef a b = true)) (h2 : 2 ≤ D.length) : Two D (chn D) (chn D.reverse) := by
  have hne : D ≠ [] := by intro e; rw [e] at h2; simp at h2
  have J := chR_J D h hne
  have hN : (D.reverse.map ng).Pairwise (fun a b => bef a b = true) := by
    rw [List.pairwise_map]
    refine (List.pairwise_reverse.2 h).imp fun {a b} hab => ?_
    rw [bef_ng]; exact hab
  have K := chR_J (D.reverse.map ng) hN (by simp [hne])
  rw [chR_ng] at K
  have Ked := edg_ng K.ed
  have Ktr := trn_ng K.tr
  have inD : ∀ p, p ∈ D → ng p ∈ D.reverse.map ng := fun p hp => List.mem_map.2 ⟨p, List.mem_reverse.2 hp, rfl⟩
  have c1 := chR_two h2
  have c2 := chR_two (l := D.reverse) (by rw [List.length_reverse]; exact h2)
  have hd := J.hd
  have bot := J.bot
  have khd := K.hd
  have kbot := K.bot
  rw [last_g hne] at hd
  rw [head_g hne] at bot
  rw [List.head?_map, List.getLast?_map, List.getLast?_reverse, head_g hne] at khd
  rw [List.head?_map, List.getLast?_map, List.head?_reverse, last_g hne] at kbot
  have khd : (chR D.reverse).head? = some (g D 0) := by
    cases hc : (chR D.reverse).head? with
    | none => rw [hc] at khd; cases khd
    | some z =>
      rw [hc] at khd
      have : ng z = ng (g D 0) := Option.some.inj khd
      rw [show z = g D 0 by rw [← ng_ng z, this, ng_ng]]
  have kbot : (chR D.reverse).getLast? = some (g D (D.length - 1)) := by
    cases hc : (chR D.reverse).getLast? with
    | none => rw [hc] at kbot; cases kbot
    | some z =>
      rw [hc] at kbot
      have : ng z = ng (g D (D.length - 1)) := Option.some.inj kbot
      rw [show z = g D (D.length - 1) by rw [← ng_ng z, this, ng_ng]]
  refine ⟨by rw [chn_length]; exact c1, by rw [chn_length]; exact c2, ?_, ?_, ?_, ?_, ?_, ?_, ?_, ?_, chn_mem D, fun x hx => List.mem_reverse.1 (chn_mem _ x hx), h⟩
  · exact g_head (by unfold chn; rw [List.head?_reverse]; exact bot)
  · exact g_last (by unfold chn; rw [List.getLast?_reverse]; exact hd)
  · exact g_head (by unfold chn; rw [List.head?_reverse]; exact kbot)
  · exact g_last (by unfold chn; rw [List.getLast?_reverse]; exact khd)
  · intro i hi
    exact edg_at J.ed i (by rw [chn_length] at hi; exact hi)
  · intro i hi
    have k := edg_at Ked i (by rw [chn_length] at hi; exact hi)
    refine ⟨by have := k.1; rw [bef_ng] at this; exact this, fun p hp => ?_⟩
    have := k.2 (ng p) (inD p hp)
    rw [crs_ng] at this; exact this
  · intro i hi
    exact trn_at J.tr i (by rw [chn_length] at hi; exact hi)
  · intro i hi
    exact trn_at Ktr i (by rw [chn_length] at hi; exact hi)
/-- where both edges at the last point lie on one line, all points do -/
theorem line_of {D : List P} {a t b : P} (ha : bef a t = true) (hb : bef b t = true) (hD : ∀ p, p ∈ D → le p t) (h1 : ∀ p, p ∈ D → 0 ≤ crs a t p) (h2 : ∀ p, p ∈ D → 0 ≤ crs t b p) (h0 : crs a t b = 0) : ∀ p, p ∈ D → crs a t p = 0 ∧ crs t b p = 0 := by
  intro p hp
  have e1 : crs a t p = - cx (sb a t) (sb p t) := by
    rw [crs_next]; unfold cx sb; dsimp only
    rw [show p.2 - t.2 = -(t.2 - p.2) by omega, show p.1 - t.1 = -(t.1 - p.1) by omega, Int.mul_neg, Int.mul_neg]; omega
  have e2 : crs t b p = cx (sb b t) (sb p t) := by
    rw [crs_cx]; unfold cx sb; dsimp only
    rw [show p.2 - t.2 = -(t.2 - p.2) by omega, show p.1 - t.1 = -(t.1 - p.1) by omega, show b.1 - t.1 = -(t.1 - b.1) by omega, show b.2 - t.2 = -(t.2 - b.2) by omega, Int.neg_mul_neg, Int.neg_mul_neg]
  have e0 : cx (sb a t) (sb b t) = 0 := by
    have : crs a t b = - cx (sb a t) (sb b t) := by
      rw [crs_next]; unfold cx sb; dsimp only
      rw [show b.2 - t.2 = -(t.2 - b.2) by omega, show b.1 - t.1 = -(t.1 - b.1) by omega, Int.mul_neg, Int.mul_neg]; omega
    omega
  have k1 := h1 p hp
  have k2 := h2 p hp
  have a1 := cx_trans (fw_sb (bef_le ha)) (fwp_sb hb) (fw_sb (hD p hp)) (by omega) (by omega : 0 ≤ cx (sb b t) (sb p t))
  have z1 : cx (sb a t) (sb p t) = 0 := by omega
  have z2 : cx (sb b t) (sb a t) = 0 := by rw [cx_anti, e0]; rfl
  have id := cx_id (sb b t) (sb a t) (sb p t)
  rw [z2, z1, Int.zero_mul, Int.zero_mul] at id
  refine ⟨by omega, ?_⟩
  rw [e2]
  rcases fwp_sb ha with c | ⟨c, c2⟩
  · rcases Int.mul_eq_zero.1 (show cx (sb b t) (sb p t) * (sb a t).1 = 0 by omega) with d | d
    · exact d
    · omega
  · have f1 : (sb p t).1 = 0 := by
      have : cx (sb a t) (sb p t) = -((sb a t).2 * (sb p t).1) := by unfold cx; rw [c]; omega
      rcases Int.mul_eq_zero.1 (show (sb a t).2 * (sb p t).1 = 0 by omega) with d | d
      · omega
      · exact d
    have f2 : (sb b t).1 = 0 := by
      have : cx (sb a t) (sb b t) = -((sb a t).2 * (sb b t).1) := by unfold cx; rw [c]; omega
      rcases Int.mul_eq_zero.1 (show (sb a t).2 * (sb b t).1 = 0 by omega) with d | d
      · omega
      · exact d
    unfold cx; rw [f1, f2]; simp
theorem mem_g {l : List P} {i : Nat} (h : i < l.length) : g l i ∈ l := by rw [g_at h]; exact List.getElem_mem h
/-- the corner at the last point turns to the left -/
theorem Two.top {D lo up : List P} (T : Two D lo up) (h3 : 5 ≤ lo.length + up.length) : 0 < crs (g lo (lo.length - 2)) (g D (D.length - 1)) (g up 1) := by
  have n2 := T.n2
  have m2 := T.m2
  have E1 := T.el (lo.length - 2) (by omega)
  have E2 := T.eu 0 (by omega)
  rw [show lo.length - 2 + 1 = lo.length - 1 by omega, T.lo1] at E1
  rw [T.up0] at E2
  obtain ⟨a, ha⟩ : ∃ a, g lo (lo.length - 2) = a := ⟨_, rfl⟩
  obtain ⟨t, ht⟩ : ∃ a, g D (D.length - 1) = a := ⟨_, rfl⟩
  obtain ⟨b, hb⟩ : ∃ a, g up 1 = a := ⟨_, rfl⟩
  have hbD : b ∈ D := by rw [← hb]; exact T.mu _ (mem_g (by omega))
  rw [ha, ht] at E1
  rw [show (0 : Nat) + 1 = 1 from rfl, ht, hb] at E2
  rw [ha, ht, hb]
  have h0 := E1.2 b hbD
  rcases Int.lt_or_le 0 (crs a t b) with c | c
  · exact c
  · exfalso
    have hmax : ∀ p, p ∈ D → le p t := fun p hp => by
      have hne : D ≠ [] := by intro e; rw [e] at hp; cases hp
      obtain ⟨m, z, hz⟩ : ∃ m z, D = m ++ [z] := ⟨_, _, (List.dropLast_concat_getLast hne).symm⟩
      have e2 : t = z := by
        have := last_g hne
        rw [ht, hz, List.getLast?_append] at this
        exact (Option.some.inj this).symm
      have hs := T.so
      rw [hz] at hp hs
      rw [e2]
      rcases List.mem_append.1 hp with e | e
      · exact bef_le ((List.pairwise_append.1 hs).2.2 p e z (by simp))
      · rw [List.mem_singleton.1 e]; unfold le; exact (bef_no _ _).2 (by omega)
    have L := line_of E1.1 E2.1 hmax E1.2 E2.2 (by omega)
    by_cases hl : 3 ≤ lo.length
    · have k := T.tl (lo.length - 3) (by omega)
      rw [show lo.length - 3 + 1 = lo.length - 2 by omega, show lo.length - 3 + 2 = lo.length - 1 by omega, ha, T.lo1, ht] at k
      have := (L (g lo (lo.length - 3)) (T.ml _ (mem_g (by omega)))).1
      rw [crs_round] at k
      omega
    · have k := T.tu 0 (by omega)
      rw [T.up0, ht, show (0 : Nat) + 1 = 1 from rfl, hb] at k
      have := (L (g up (0 + 2)) (T.mu _ (mem_g (by omega)))).2
      omega
theorem g_map {f : P → P} {l : List P} {i : Nat} (h : i < l.length) : g (l.map f) i = f (g l i) := by
  rw [g_at (by rw [List.length_map]; exact h), List.getElem_map, g_at h]
theorem g_revD {D : List P} {i : Nat} (h : i < D.length) : g D.reverse i = g D (D.length - 1 - i) := by
  rw [g_at (by rw [List.length_reverse]; exact h), g_at (by omega), List.getElem_reverse]
/-- turned by a half, the ways change their places -/
theorem Two.half {D lo up : List P} (T : Two D lo up) : Two (D.reverse.map ng) (up.map ng) (lo.map ng) := by
  have n2 := T.n2
  have m2 := T.m2
  have hD : 0 < D.length := by
    have : g lo 0 ∈ D := T.ml _ (mem_g (by omega))
    exact List.length_pos_iff.2 (fun e => by rw [e] at this; cases this)
  have hl : (D.reverse.map ng).length = D.length := by simp
  have d0 : g (D.reverse.map ng) 0 = ng (g D (D.length - 1)) := by
    rw [g_map (by rw [List.length_reverse]; exact hD), g_revD hD]; rfl
  have d1 : g (D.reverse.map ng) (D.length - 1) = ng (g D 0) := by
    rw [g_map (by rw [List.length_reverse]; omega), g_revD (by omega), show D.length - 1 - (D.length - 1) = 0 by omega]
  have mm : ∀ p, p ∈ D.reverse.map ng → ng p ∈ D := fun p hp => by
    obtain ⟨x, hx, rfl⟩ := List.mem_map.1 hp
    rw [ng_ng]; exact List.mem_reverse.1 hx
  have mk : ∀ p, p ∈ D → ng p ∈ D.reverse.map ng := fun p hp => List.mem_map.2 ⟨p, List.mem_reverse.2 hp, rfl⟩
  refine ⟨by rw [List.length_map]; exact m2, by rw [List.length_map]; exact n2, ?_, ?_, ?_, ?_, ?_, ?_, ?_, ?_, ?_, ?_, ?_⟩
  · rw [d0, g_map (by omega), T.up0]
  · rw [hl, d1, List.length_map, g_map (by omega), T.up1]
  · rw [hl, d1, g_map (by omega), T.lo0]
  · rw [d0, List.length_map, g_map (by omega), T.lo1]
  · intro i hi
    rw [List.length_map] at hi
    rw [g_map (by omega), g_map (by omega), bef_ng]
    have k := T.eu i hi
    refine ⟨k.1, fun p hp => ?_⟩
    rw [← ng_ng p, crs_ng]; exact k.2 _ (mm p hp)
  · intro i hi
    rw [List.length_map] at hi
    rw [g_map (by omega), g_map (by omega), bef_ng]
    have k := T.el i hi
    refine ⟨k.1, fun p hp => ?_⟩
    rw [← ng_ng p, crs_ng]; exact k.2 _ (mm p hp)
  · intro i hi
    rw [List.length_map] at hi
    rw [g_map (by omega), g_map (by omega), g_map (by omega), crs_ng]; exact T.tu i hi
  · intro i hi
    rw [List.length_map] at hi
    rw [g_map (by omega), g_map (by omega), g_map (by omega), crs_ng]; exact T.tl i hi
  · intro x hx
    obtain ⟨y, hy, rfl⟩ := List.mem_map.1 hx
    exact mk y (T.mu y hy)
  · intro x hx
    obtain ⟨y, hy, rfl⟩ := List.mem_map.1 hx
    exact mk y (T.ml y hy)
  · rw [List.pairwise_map]
    refine (List.pairwise_reverse.2 T.so).imp fun {a b} hab => ?_
    rw [bef_ng]; exact hab
theorem Two.low {D lo up : List P} (T : Two D lo up) (h3 : 5 ≤ lo.length + up.length) : 0 < crs (g up (up.length - 2)) (g D 0) (g lo 1) := by
  have n2 := T.n2
  have m2 := T.m2
  have hD : 0 < D.length := by
    have : g lo 0 ∈ D := T.ml _ (mem_g (by omega))
    exact List.length_pos_iff.2 (fun e => by rw [e] at this; cases this)
  have k := T.half.top (by rw [List.length_map, List.length_map]; omega)
  rw [List.length_map, List.length_map, List.length_reverse, g_map (by omega), g_map (by rw [List.length_reverse]; omega), g_map (by omega), g_revD (by omega), show D.length - 1 - (D.length - 1) = 0 by omega, crs_ng] at k
  exact k
/-- the round: the first way without its last point, then the second one without its last point -/
def rnd (lo up : List P) : List P := lo.dropLast ++ up.dropLast
theorem rnd_len {lo up : List P} : (rnd lo up).length = (lo.length - 1) + (up.length - 1) := by unfold rnd; rw [List.length_append, List.length_dropLast, List.length_dropLast]
theorem rnd_lo {D lo up : List P} (T : Two D lo up) {i : Nat} (h : i ≤ lo.length - 1) : g (rnd lo up) i = g lo i := by
  have n2 := T.n2
  have m2 := T.m2
  by_cases e : i < lo.length - 1
  · unfold rnd g
    rw [List.getD_eq_getElem?_getD, List.getD_eq_getElem?_getD, List.getElem?_append_left (by rw [List.length_dropLast]; exact e), List.getElem?_dropLast, if_pos e]
  · obtain rfl : i = lo.length - 1 := by omega
    rw [T.lo1, ← T.up0]
    unfold rnd g
    rw [List.getD_eq_getElem?_getD, List.getD_eq_getElem?_getD, List.getElem?_append_right (by rw [List.length_dropLast]; exact Nat.le_refl _), List.length_dropLast, Nat.sub_self, List.getElem?_dropLast, if_pos (by omega)]
theorem rnd_up {D lo up : List P} (T : Two D lo up) {i : Nat} (h : i < up.length - 1) : g (rnd lo up) (lo.length - 1 + i) = g up i := by
  unfold rnd g
  rw [List.getD_eq_getElem?_getD, List.getD_eq_getElem?_getD, List.getElem?_append_right (by rw [List.length_dropLast]; omega), List.length_dropLast, Nat.add_sub_cancel_left, List.getElem?_dropLast, if_pos h]
/-- the two points behind a point of the round -/
theorem rnd_nx {D lo up : List P} (T : Two D lo up) {i : Nat} (h : i < up.length) : g (rnd lo up) ((lo.length - 1 + i) % (rnd lo up).length) = g up i := by
  have n2 := T.n2
  have m2 := T.m2
  have hl := rnd_len (lo := lo) (up := up)
  by_cases e : i < up.length - 1
  · rw [Nat.mod_eq_of_lt (by omega)]; exact rnd_up T e
  · obtain rfl : i = up.length - 1 := by omega
    rw [hl, Nat.mod_self, rnd_lo T (by omega), T.lo0, T.up1]
structure Pgon (H D : List P) : Prop where
  ed : ∀ i, i < H.length → ∀ p, p ∈ D → 0 ≤ crs (g H i) (g H (nx H i)) p
  tr : ∀ i, i < H.length → 0 < crs (g H i) (g H (nx H i)) (g H (nx H (nx H i)))
  me : ∀ x, x ∈ H → x ∈ D
theorem pgon_of {D lo up : List P} (T : Two D lo up) (h3 : 5 ≤ lo.length + up.length) : Pgon (rnd lo up) D := by
  have n2 := T.n2
  have m2 := T.m2
  have hl := rnd_len (lo := lo) (up := up)
  have next : ∀ i, i < lo.length - 1 → nx (rnd lo up) i = i + 1 := fun i hi => Nat.mod_eq_of_lt (by omega)
  refine ⟨fun i hi p hp => ?_, fun i hi => ?_, fun x hx => ?_⟩
  · by_cases e : i < lo.length - 1
    · rw [next i e, rnd_lo T (by omega), rnd_lo T (by omega)]
      exact (T.el i (by omega)).2 p hp
    · obtain ⟨j, rfl⟩ : ∃ j, i = lo.length - 1 + j := ⟨i - (lo.length - 1), by omega⟩
      have e2 : nx (rnd lo up) (lo.length - 1 + j) = (lo.length - 1 + (j + 1)) % (rnd lo up).length := rfl
      rw [e2, rnd_nx T (by omega), rnd_up T (by omega)]
      exact (T.eu j (by omega)).2 p hp
  · by_cases e : i < lo.length - 1
    · rw [next i e]
      by_cases e2 : i + 1 < lo.length - 1
      · rw [next (i + 1) e2, rnd_lo T (by omega), rnd_lo T (by omega), rnd_lo T (by omega)]
        exact T.tl i (by omega)
      · have e3 : i = lo.length - 2 := by omega
        have e4 : nx (rnd lo up) (i + 1) = (lo.length - 1 + 1) % (rnd lo up).length := by unfold nx; rw [show i + 1 = lo.length - 1 by omega]
        rw [e4, rnd_nx T (by omega), rnd_lo T (by omega), rnd_lo T (by omega), show i + 1 = lo.length - 1 by omega, T.lo1, e3]
        exact T.top h3
    · obtain ⟨j, rfl⟩ : ∃ j, i = lo.length - 1 + j := ⟨i - (lo.length - 1), by omega⟩
      have e2 : nx (rnd lo up) (lo.length - 1 + j) = (lo.length - 1 + (j + 1)) % (rnd lo up).length := rfl
      rw [e2, rnd_nx T (by omega), rnd_up T (by omega)]
      by_cases e3 : j + 2 < up.length
      · have e4 : nx (rnd lo up) ((lo.length - 1 + (j + 1)) % (rnd lo up).length) = (lo.length - 1 + (j + 2)) % (rnd lo up).length := by
          rw [Nat.mod_eq_of_lt (by omega)]; rfl
        rw [e4, rnd_nx T (by omega)]
        exact T.tu j e3
      · have e4 : j = up.length - 2 := by omega
        have e5 : (lo.length - 1 + (j + 1)) % (rnd lo up).length = 0 := by rw [hl, show lo.length - 1 + (j + 1) = lo.length - 1 + (up.length - 1) by omega, Nat.mod_self]
        rw [e5, next 0 (by omega), rnd_lo T (by omega), show j + 1 = up.length - 1 by omega, T.up1, e4]
        exact T.low h3
  · unfold rnd at hx
    rcases List.mem_append.1 hx with e | e
    · exact T.ml x (List.dropLast_subset _ e)
    · exact T.mu x (List.dropLast_subset _ e)
/-- the hull, if there is one, is such a round -/
theorem hull_pgon {l : List P} (h : hull l ≠ []) : Pgon (hull l) l ∧ 3 ≤ (hull l).length := by
  rw [hull_same] at h ⊢
  unfold hullD at h ⊢
  split at h
  · exact absurd rfl h
  · rename_i h32
    rw [if_neg h32]
    split at h
    · rename_i hr
      rw [if_pos hr]
      split at h
      · exact absurd rfl h
      · rename_i h5
        rw [if_neg h5]
        obtain ⟨so, sm⟩ := srtD_spec l
        have hD : 2 ≤ (srtD l).length := by
          have L1 := chR_len (srtD l)
          have L2 := chR_len (srtD l).reverse
          rw [List.length_reverse] at L2
          rw [chn_length, chn_length] at h5; omega
        have T := two_of so hD
        have G := pgon_of T (by omega)
        refine ⟨⟨fun i hi p hp => G.ed i hi p ((sm p).2 hp), G.tr, fun x hx => (sm x).1 (G.me x hx)⟩, ?_⟩
        have := rnd_len (lo := chn (srtD l)) (up := chn (srtD l).reverse)
        show 3 ≤ (rnd _ _).length
        have := T.n2
        have := T.m2
        omega
    · exact absurd rfl h
end Pm
end Go.Proofs.Ytkkghejbdakmpaa
