/- The hull is a polygon that Check accepts; Has of it is inside of it; its hull is itself; the order of the points does not matter. -/
import Derived.Test.YtkkghejbdakmpaaHasM
import Derived.Test.YtkkghejbdakmpaaWithinM
set_option linter.unusedVariables false
set_option linter.unusedSimpArgs false
namespace Go.Proofs.Ytkkghejbdakmpaa
namespace Pm

theorem hull_rnd {l : List P} (h : hull l ≠ []) : Rnd (hull l) := by
  obtain ⟨G0, n3⟩ := hull_pgon h
  have G : Pgon (hull l) (hull l) := ⟨fun i hi p hp => G0.ed i hi p (G0.me p hp), G0.tr, fun x hx => hx⟩
  refine ⟨G, ?_, n3⟩
  have e : hull l = rnd (chn (srtD l)) (chn (srtD l).reverse) := by
    rw [hull_same] at h ⊢
    unfold hullD at h ⊢
    split at h
    · exact absurd rfl h
    · rename_i h32
      rw [if_neg h32]
      split at h
      · rename_i hr
        rw [if_pos hr]
        split at h
        · exact absurd rfl h
        · rename_i h5
          rw [if_neg h5]; rfl
      · exact absurd rfl h
  have n3' := n3
  rw [e] at n3'
  have hl := rnd_len (lo := chn (srtD l)) (up := chn (srtD l).reverse)
  have hD : 2 ≤ (srtD l).length := by
    have L1 := chR_len (srtD l)
    have L2 := chR_len (srtD l).reverse
    rw [List.length_reverse] at L2
    rw [chn_length, chn_length] at hl; omega
  have T := two_of (srtD_spec l).1 hD
  intro i j hij hj
  rw [e] at hj ⊢
  exact rnd_inj T hij hj
theorem nodup_len : ∀ {a b : List P}, a.Nodup → (∀ x, x ∈ a → x ∈ b) → a.length ≤ b.length
  | [], b, _, _ => Nat.zero_le _
  | x :: a, b, h, hs => by
    obtain ⟨h1, h2⟩ := List.nodup_cons.1 h
    have hx := hs x (by simp)
    have ih := nodup_len (b := b.erase x) h2 fun y hy => (List.mem_erase_of_ne (fun e => h1 (by rw [← e]; exact hy))).2 (hs y (List.mem_cons_of_mem _ hy))
    rw [List.length_erase_of_mem hx] at ih
    have := List.length_pos_iff.2 (List.ne_nil_of_mem hx)
    rw [List.length_cons]; omega
theorem Rnd.nodup {H : List P} (R : Rnd H) : H.Nodup := by
  unfold List.Nodup
  rw [List.pairwise_iff_getElem]
  intro i j hi hj hij e
  exact R.inj hij hj (by rw [g_at hi, g_at hj]; exact e)
theorem hull_few32 {l : List P} : (hull l).length ≤ 32 := by
  by_cases h : hull l = []
  · rw [h]; decide
  · have h32 : l.length ≤ 32 := by
      rcases Nat.lt_or_ge 32 l.length with c | c
      · exact absurd (by rw [hull_same]; unfold hullD; rw [if_pos c]) h
      · exact c
    exact Nat.le_trans (nodup_len (hull_rnd h).nodup (hull_mem l)) h32
theorem tele (o a b : P) : arT a b = crs o a b + (arT o b - arT o a) := by unfold arT crs; grind
theorem sum_tele (H : List P) (o : P) : ∀ k, k < H.length → ar H k = sumN (fun i => crs o (g H i) (g H (nx H i))) k + (arT o (g H k) - arT o (g H 0))
  | 0, _ => by show (0 : Int) = 0 + (arT o (g H 0) - arT o (g H 0)); omega
  | k + 1, hk => by
    have ih := sum_tele H o k (by omega)
    have e : nx H k = k + 1 := Nat.mod_eq_of_lt hk
    show ar H k + arT (g H k) (g H (nx H k)) = sumN (fun i => crs o (g H i) (g H (nx H i))) k + crs o (g H k) (g H (nx H k)) + _
    rw [ih, tele o (g H k) (g H (nx H k)), e]; omega
theorem area_is {H : List P} (o : P) (h : 0 < H.length) : ar H H.length = sumN (fun i => crs o (g H i) (g H (nx H i))) H.length := by
  obtain ⟨n, hn⟩ : ∃ n, H.length = n + 1 := ⟨H.length - 1, by omega⟩
  have t := sum_tele H o n (by omega)
  rw [hn]
  have e : nx H n = 0 := by unfold nx; rw [hn, Nat.mod_self]
  show ar H n + arT (g H n) (g H (nx H n)) = sumN (fun i => crs o (g H i) (g H (nx H i))) n + crs o (g H n) (g H (nx H n))
  rw [t, tele o (g H n) (g H (nx H n)), e]; omega
theorem sum_pos {f : Nat → Int} : ∀ {n k : Nat}, (∀ i, i < n → 0 ≤ f i) → k < n → 0 < f k → 0 < sumN f n
  | 0, k, _, h, _ => by omega
  | n + 1, k, h, hk, hp => by
    have nn : ∀ m, m ≤ n → 0 ≤ sumN f m := by
      intro m
      induction m with
      | zero => intro _; exact Int.le_refl 0
      | succ m ih => intro hm; have := ih (by omega); have := h m (by omega); show 0 ≤ sumN f m + f m; omega
    show 0 < sumN f n + f n
    by_cases e : k = n
    · subst e; have := nn k (Nat.le_refl _); omega
    · have := sum_pos (n := n) (fun i hi => h i (by omega)) (by omega : k < n) hp
      have := h n (by omega); omega
theorem Rnd.area {H : List P} (R : Rnd H) : 0 < ar H H.length := by
  have n3 := R.n3
  rw [area_is (g H 0) (by omega)]
  refine sum_pos (k := 1) (fun i hi => ?_) (by omega) ?_
  · rw [crs_round]; exact R.G.ed i hi _ (mem_g (by omega))
  · have t := R.G.tr 0 (by omega)
    rw [show nx H 0 = 1 from Nat.mod_eq_of_lt (by omega)] at t
    exact t
theorem hull_chk {l : List P} (h : hull l ≠ []) : chk (hull l) = 0 := by
  have R := hull_rnd h
  have a := R.area
  have n3 := R.n3
  have n32 := hull_few32 (l := l)
  have hr := rng_of (hull_rng l)
  have e : ar2 (hull l) = ar (hull l) (hull l).length := by unfold ar2; rw [if_neg (by omega), if_pos hr]
  unfold chk
  rw [if_neg (by omega), if_neg (by omega), if_pos hr, e, if_neg (by omega)]
/-- P9.5 with P9.6: the region of the hull -/
theorem hull_has {l : List P} (h : hull l ≠ []) {X y : Int} (hq : inP (X, y) = true) : has (hull l) (X, y) = true ↔ Ins (hull l) y X := (hull_rnd h).has_iff (hull_chk h) hq
/-- P9.9: every point is in the region of the hull -/
theorem hull_all {l : List P} (h : hull l ≠ []) (hl : RL l) {p : P} (hp : p ∈ l) : has (hull l) p = true :=
  (hull_has h (hl p hp)).2 fun i hi => (hull_pgon h).1.ed i hi p hp
/-- the hull depends on the set of the points alone -/
theorem srtD_set {a b : List P} (h : ∀ x, x ∈ a ↔ x ∈ b) : srtD a = srtD b :=
  ss_eq (R := fun a b => bef a b = true) (fun a b h => bef_asym h) _ _ (srtD_spec a).1 (srtD_spec b).1 fun x => by rw [(srtD_spec a).2, (srtD_spec b).2, h]
theorem rng_set {a b : List P} (h : ∀ x, x ∈ a ↔ x ∈ b) : rng a = rng b := by
  cases ha : rng a with
  | true => exact (rng_of fun x hx => rng_mem ha x ((h x).2 hx)).symm
  | false =>
    cases hb : rng b with
    | false => rfl
    | true => rw [rng_of fun x hx => rng_mem hb x ((h x).1 hx)] at ha; cases ha
theorem hull_set {a b : List P} (h : ∀ x, x ∈ a ↔ x ∈ b) (ha : a.length ≤ 32) (hb : b.length ≤ 32) : hull a = hull b := by
  rw [hull_same, hull_same]
  unfold hullD hulD
  rw [if_neg (show ¬ 32 < a.length by omega), if_neg (show ¬ 32 < b.length by omega), rng_set h, srtD_set h]
theorem hull_rev {l : List P} : hull l.reverse = hull l := by
  by_cases c : 32 < l.length
  · rw [hull_same, hull_same]; unfold hullD; rw [List.length_reverse, if_pos c, if_pos c]
  · exact hull_set (fun x => List.mem_reverse) (by rw [List.length_reverse]; omega) (by omega)
/-- no corner comes before the first one -/
theorem hull_first {l : List P} (h : hull l ≠ []) {p : P} (hp : p ∈ l) : bef p (g (hull l) 0) = false := by
  have e : hull l = rnd (chn (srtD l)) (chn (srtD l).reverse) := by
    rw [hull_same] at h ⊢
    unfold hullD at h ⊢
    split at h
    · exact absurd rfl h
    · rename_i h32
      rw [if_neg h32]
      split at h
      · rename_i hr
        rw [if_pos hr]
        split at h
        · exact absurd rfl h
        · rename_i h5
          rw [if_neg h5]; rfl
      · exact absurd rfl h
  have n3 := (hull_rnd h).n3
  rw [e] at n3 ⊢
  have hl := rnd_len (lo := chn (srtD l)) (up := chn (srtD l).reverse)
  have hD : 2 ≤ (srtD l).length := by
    have L1 := chR_len (srtD l)
    have L2 := chR_len (srtD l).reverse
    rw [List.length_reverse] at L2
    rw [chn_length, chn_length] at hl; omega
  have so := (srtD_spec l).1
  have T := two_of so hD
  rw [rnd_lo T (by omega), T.lo0]
  have hm := ((srtD_spec l).2 p).2 hp
  cases hs : srtD l with
  | nil => rw [hs] at hm; cases hm
  | cons d D' =>
    rw [hs] at hm so
    show bef p d = false
    rcases List.mem_cons.1 hm with k | k
    · rw [k, bef_no]; omega
    · exact bef_le ((List.pairwise_cons.1 so).1 p k)
end Pm
end Go.Proofs.Ytkkghejbdakmpaa
