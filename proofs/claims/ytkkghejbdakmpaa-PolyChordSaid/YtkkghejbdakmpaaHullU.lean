/- The hull of the hull is the hull. -/
import Derived.Test.YtkkghejbdakmpaaHullC
set_option linter.unusedVariables false
set_option linter.unusedSimpArgs false
namespace Go.Proofs.Ytkkghejbdakmpaa
namespace Pm

theorem so_lo {D lo up : List P} (T : Two D lo up) {i j : Nat} (h : i < j) (k : j < lo.length) : bef (g lo i) (g lo j) = true := way_sorted (fun i hi => (T.el i hi).1) h k
theorem bef_irr (x : P) : ¬ bef x x = true := fun h => by rw [bef_iff] at h; omega
/-- the nearer one of two points on a line from o can't be followed by a turn to the left that the farther one is left of -/
theorem no_near {o a b c : P} (h1 : bef o a = true) (h2 : bef a b = true) (h3 : bef a c = true) (h0 : crs o a b = 0) (ht : 0 < crs o a c) (hl : 0 ≤ crs a c b) : False := by
  rw [crs_next] at h0 ht
  rw [crs_cx] at hl
  have := cx_trans2 (fwp_sb h1) (fwp_sb h3) (fwp_sb h2) ht hl
  omega
theorem way_step {D D' lo up lo' up' : List P} (T : Two D lo up) (T' : Two D' lo' up') (h1 : ∀ x, x ∈ D' → x ∈ D) (h2 : ∀ x, x ∈ lo → x ∈ D') (ht : g D (D.length - 1) = g D' (D'.length - 1)) {i : Nat} (hi : i + 1 < lo.length) (hi' : i + 1 < lo'.length) (e : g lo i = g lo' i) : g lo (i + 1) = g lo' (i + 1) := by
  have n2 := T.n2
  have k2 := T'.n2
  obtain ⟨E1, E2⟩ := T.el i hi
  obtain ⟨F1, F2⟩ := T'.el i hi'
  have ma : g lo (i + 1) ∈ D' := h2 _ (mem_g hi)
  have mb : g lo' (i + 1) ∈ D := h1 _ (T'.ml _ (mem_g hi'))
  have c1 := E2 _ mb
  have c2 := F2 _ ma
  rw [← e] at c2 F1
  have c0 : crs (g lo i) (g lo (i + 1)) (g lo' (i + 1)) = 0 := by rw [crs_swap] at c2; omega
  by_cases hab : g lo (i + 1) = g lo' (i + 1)
  · exact hab
  · exfalso
    rcases le_total (g lo (i + 1)) (g lo' (i + 1)) with k | k
    · have lt := le_lt k hab
      have hn : i + 2 < lo.length := by
        rcases Nat.lt_or_ge (i + 2) lo.length with d | d
        · exact d
        · exfalso
          have e1 : i + 1 = lo.length - 1 := by omega
          rw [e1, T.lo1, ht, ← T'.lo1] at lt
          by_cases q : lo.length - 1 = lo'.length - 1
          · rw [q] at lt; exact bef_irr _ lt
          · have := so_lo T' (i := lo.length - 1) (j := lo'.length - 1) (by omega) (by omega)
            exact bef_asym lt this
      exact no_near E1 lt (T.el (i + 1) hn).1 c0 (T.tl i hn) ((T.el (i + 1) hn).2 _ mb)
    · have lt := le_lt k (fun q => hab q.symm)
      have c0' : crs (g lo' i) (g lo' (i + 1)) (g lo (i + 1)) = 0 := by rw [← e, crs_swap]; omega
      have hn : i + 2 < lo'.length := by
        rcases Nat.lt_or_ge (i + 2) lo'.length with d | d
        · exact d
        · exfalso
          have e1 : i + 1 = lo'.length - 1 := by omega
          rw [e1, T'.lo1, ← ht, ← T.lo1] at lt
          by_cases q : i + 1 = lo.length - 1
          · rw [← e1, q] at lt; exact bef_irr _ lt
          · have := so_lo T (i := i + 1) (j := lo.length - 1) (by omega) (by omega)
            rw [← e1] at lt
            exact bef_asym lt this
      exact no_near (by rw [← e]; exact F1) lt (T'.el (i + 1) hn).1 c0' (T'.tl i hn) ((T'.el (i + 1) hn).2 _ ma)
theorem way_uniq {D D' lo up lo' up' : List P} (T : Two D lo up) (T' : Two D' lo' up') (h1 : ∀ x, x ∈ D' → x ∈ D) (h2 : ∀ x, x ∈ lo → x ∈ D') (hf : g D 0 = g D' 0) (ht : g D (D.length - 1) = g D' (D'.length - 1)) : lo = lo' := by
  have n2 := T.n2
  have k2 := T'.n2
  have all : ∀ i, i < lo.length → i < lo'.length → g lo i = g lo' i := by
    intro i
    induction i with
    | zero => intro _ _; rw [T.lo0, T'.lo0, hf]
    | succ i ih => intro a b; exact way_step T T' h1 h2 ht a b (ih (by omega) (by omega))
  have hlen : lo.length = lo'.length := by
    rcases Nat.lt_trichotomy lo.length lo'.length with k | k | k
    · exfalso
      have e := all (lo.length - 1) (by omega) (by omega)
      rw [T.lo1, ht, ← T'.lo1] at e
      have := so_lo T' (i := lo.length - 1) (j := lo'.length - 1) (by omega) (by omega)
      rw [← e] at this; exact bef_irr _ this
    · exact k
    · exfalso
      have e := all (lo'.length - 1) (by omega) (by omega)
      rw [T'.lo1, ← ht, ← T.lo1] at e
      have := so_lo T (i := lo'.length - 1) (j := lo.length - 1) (by omega) (by omega)
      rw [e] at this; exact bef_irr _ this
  exact List.ext_getElem? fun i => by
    by_cases hi : i < lo.length
    · rw [g_some hi, g_some (l := lo') (by omega), all i hi (by omega)]
    · rw [List.getElem?_eq_none (by omega), List.getElem?_eq_none (by omega)]
theorem first_of {D D' : List P} (so : D.Pairwise (fun a b => bef a b = true)) (so' : D'.Pairwise (fun a b => bef a b = true)) (h1 : ∀ x, x ∈ D' → x ∈ D) (h0 : D ≠ []) (hm : g D 0 ∈ D') : g D 0 = g D' 0 := by
  cases D with
  | nil => exact absurd rfl h0
  | cons d D =>
    cases D' with
    | nil => cases hm
    | cons d' D' =>
      show d = d'
      have hm : d ∈ d' :: D' := hm
      rcases List.mem_cons.1 hm with e | e
      · exact e
      · have a := (List.pairwise_cons.1 so').1 d e
        rcases List.mem_cons.1 (h1 d' (by simp)) with k | k
        · exact k.symm
        · exact absurd a (bef_asym ((List.pairwise_cons.1 so).1 d' k))
theorem Two.mem_lo {D lo up : List P} (T : Two D lo up) {x : P} (h : x ∈ lo) : x ∈ rnd lo up := by
  have n2 := T.n2
  have m2 := T.m2
  have hl := rnd_len (lo := lo) (up := up)
  obtain ⟨i, hi, e⟩ := List.getElem_of_mem h
  rw [← e, ← g_at hi, ← rnd_lo T (by omega)]
  exact mem_g (by omega)
theorem Two.mem_up {D lo up : List P} (T : Two D lo up) {x : P} (h : x ∈ up) : x ∈ rnd lo up := by
  have n2 := T.n2
  have m2 := T.m2
  have hl := rnd_len (lo := lo) (up := up)
  obtain ⟨i, hi, e⟩ := List.getElem_of_mem h
  rw [← e, ← g_at hi, ← rnd_nx T hi]
  exact mem_g (Nat.mod_lt _ (by omega))
theorem map_ng_inj {a b : List P} (h : a.map ng = b.map ng) : a = b := by
  have : (a.map ng).map ng = (b.map ng).map ng := by rw [h]
  rw [List.map_map, List.map_map, show ng ∘ ng = id from funext ng_ng, List.map_id, List.map_id] at this
  exact this
/-- P9.9: the hull of the hull is the hull -/
theorem hull_hull {l : List P} (h : hull l ≠ []) : hull (hull l) = hull l := by
  have hr := rng_of (hull_rng l)
  have n32 := hull_few32 (l := l)
  have n3 := (hull_rnd h).n3
  have e : hull l = rnd (chn (srtD l)) (chn (srtD l).reverse) := by
    have h' := h
    rw [hull_same] at h' ⊢
    unfold hullD at h' ⊢
    split at h'
    · exact absurd rfl h'
    · rename_i h32
      rw [if_neg h32]
      split at h'
      · rename_i hr
        rw [if_pos hr]
        split at h'
        · exact absurd rfl h'
        · rename_i h5
          rw [if_neg h5]; rfl
      · exact absurd rfl h'
  have hl := rnd_len (lo := chn (srtD l)) (up := chn (srtD l).reverse)
  have n3' := n3
  rw [e] at n3'
  have hD : 2 ≤ (srtD l).length := by
    have L1 := chR_len (srtD l)
    have L2 := chR_len (srtD l).reverse
    rw [List.length_reverse] at L2
    rw [chn_length, chn_length] at hl; omega
  have so := (srtD_spec l).1
  have T := two_of so hD
  obtain ⟨D', hD'⟩ : ∃ D', srtD (hull l) = D' := ⟨_, rfl⟩
  obtain ⟨so', sm'⟩ := srtD_spec (hull l)
  rw [hD'] at so' sm'
  have nd : D'.length = (hull l).length ∨ 3 ≤ D'.length := by
    right
    exact Nat.le_trans n3 (nodup_len (hull_rnd h).nodup (fun x hx => (sm' x).2 hx))
  have hD2 : 2 ≤ D'.length := by omega
  have T' := two_of so' hD2
  have sub : ∀ x, x ∈ D' → x ∈ srtD l := fun x hx => ((srtD_spec l).2 x).2 (hull_mem l x ((sm' x).1 hx))
  have inlo : ∀ x, x ∈ chn (srtD l) → x ∈ D' := fun x hx => (sm' x).2 (by rw [e]; exact T.mem_lo hx)
  have inup : ∀ x, x ∈ chn (srtD l).reverse → x ∈ D' := fun x hx => (sm' x).2 (by rw [e]; exact T.mem_up hx)
  have n2 := T.n2
  have m2 := T.m2
  have hf : g (srtD l) 0 = g D' 0 := first_of so so' sub (by intro q; rw [q] at hD; simp at hD) (by rw [← T.lo0]; exact inlo _ (mem_g (by omega)))
  have ht : g (srtD l) ((srtD l).length - 1) = g D' (D'.length - 1) := by
    have p1 : ((srtD l).reverse.map ng).Pairwise (fun a b => bef a b = true) := T.half.so
    have p2 : (D'.reverse.map ng).Pairwise (fun a b => bef a b = true) := T'.half.so
    have k := first_of p1 p2 (fun x hx => by
      obtain ⟨z, hz, rfl⟩ := List.mem_map.1 hx
      exact List.mem_map.2 ⟨z, List.mem_reverse.2 (sub z (List.mem_reverse.1 hz)), rfl⟩) (by intro q; have := congrArg List.length q; simp at this; rw [this] at hD; simp at hD) (by
      rw [g_map (by rw [List.length_reverse]; omega), g_revD (by omega)]
      exact List.mem_map.2 ⟨_, List.mem_reverse.2 (by rw [show (srtD l).length - 1 - 0 = (srtD l).length - 1 by omega, ← T.up0]; exact inup _ (mem_g (by omega))), rfl⟩)
    rw [g_map (by rw [List.length_reverse]; omega), g_revD (by omega), g_map (by rw [List.length_reverse]; omega), g_revD (by omega)] at k
    have k2 := congrArg ng k
    rw [ng_ng, ng_ng] at k2
    exact k2
  have eA := way_uniq T T' sub inlo hf ht
  have eB : chn (srtD l).reverse = chn D'.reverse := map_ng_inj (way_uniq T.half T'.half (fun x hx => by
      obtain ⟨z, hz, rfl⟩ := List.mem_map.1 hx
      exact List.mem_map.2 ⟨z, List.mem_reverse.2 (sub z (List.mem_reverse.1 hz)), rfl⟩) (fun x hx => by
      obtain ⟨z, hz, rfl⟩ := List.mem_map.1 hx
      exact List.mem_map.2 ⟨z, List.mem_reverse.2 (inup z hz), rfl⟩) (by
      rw [g_map (by rw [List.length_reverse]; omega), g_revD (by omega), g_map (by rw [List.length_reverse]; omega), g_revD (by omega)]
      show ng (g (srtD l) ((srtD l).length - 1)) = ng (g D' (D'.length - 1))
      rw [ht]) (by
      rw [List.length_map, List.length_reverse, List.length_map, List.length_reverse, g_map (by rw [List.length_reverse]; omega), g_revD (by omega), g_map (by rw [List.length_reverse]; omega), g_revD (by omega), show (srtD l).length - 1 - ((srtD l).length - 1) = 0 by omega, show D'.length - 1 - (D'.length - 1) = 0 by omega, hf]))
  rw [hull_same (hull l)]
  unfold hullD hulD
  rw [hD', ← eA, ← eB, if_neg (show ¬ 32 < (hull l).length by omega), if_pos hr, if_neg (by rw [hl] at n3'; omega)]
  exact e.symm
/-- where there is no hull, all points are on one line -/
theorem hull_none {a : List P} (ha : a.length ≤ 32) (hr : rng a = true) (h0 : hull a = []) {u v w : P} (hu : u ∈ a) (hv : v ∈ a) (hw : w ∈ a) : crs u v w = 0 := by
  obtain ⟨so, sm⟩ := srtD_spec a
  rw [hull_same] at h0
  unfold hullD at h0
  rw [if_neg (by omega), if_pos hr] at h0
  by_cases hD : 2 ≤ (srtD a).length
  · have T := two_of so hD
    have n2 := T.n2
    have k2 := T.m2
    split at h0
    · rename_i h5
      have e1 : (chn (srtD a)).length = 2 := by omega
      have e2 : (chn (srtD a).reverse).length = 2 := by omega
      have E1 := T.el 0 (by omega)
      have E2 := T.eu 0 (by omega)
      have x1 := T.lo1
      have x2 := T.up1
      rw [e1] at x1
      rw [e2] at x2
      rw [T.lo0, show (0 : Nat) + 1 = 2 - 1 from rfl, x1] at E1
      rw [T.up0, show (0 : Nat) + 1 = 2 - 1 from rfl, x2] at E2
      have z : ∀ x, x ∈ a → crs (g (srtD a) 0) (g (srtD a) ((srtD a).length - 1)) x = 0 := fun x hx => by
        have a1 := E1.2 x ((sm x).2 hx)
        have a2 := E2.2 x ((sm x).2 hx)
        rw [crs_rev] at a2; omega
      exact line_crs E1.1 (z _ hu) (z _ hv) (z _ hw)
    · have := rnd_len (lo := chn (srtD a)) (up := chn (srtD a).reverse)
      have e : rnd (chn (srtD a)) (chn (srtD a).reverse) = [] := h0
      rw [e] at this
      simp at this; omega
  · have one : ∀ x y, x ∈ a → y ∈ a → x = y := fun x y hx hy => by
      have hx := (sm x).2 hx
      have hy := (sm y).2 hy
      match hs2 : srtD a, hD with
      | [], _ => rw [hs2] at hx; cases hx
      | [z], _ => rw [hs2] at hx hy; rw [List.mem_singleton.1 hx, List.mem_singleton.1 hy]
      | z :: y :: r, hD => simp at hD
    rw [one _ _ hv hu, crs_two]
end Pm
end Go.Proofs.Ytkkghejbdakmpaa
