/- Chords within chords: between the heights, and among more points. -/
import Derived.Test.YtkkghejbdakmpaaChordM
set_option linter.unusedVariables false
set_option linter.unusedSimpArgs false
namespace Go.Proofs.Ytkkghejbdakmpaa
namespace Pm

theorem crs_mid (a b : P) (X y0 y1 y3 : Int) : (y3 - y0) * crs a b (X, y1) = (y3 - y1) * crs a b (X, y0) + (y1 - y0) * crs a b (X, y3) := by unfold crs; dsimp only; grind
/-- what is inside at two heights is inside between them -/
theorem ins_mid {H : List P} {X y0 y1 y3 : Int} (h0 : Ins H y0 X) (h3 : Ins H y3 X) (h1 : y0 ≤ y1) (h2 : y1 ≤ y3) : Ins H y1 X := fun i hi => by
  have id := crs_mid (g H i) (g H (nx H i)) X y0 y1 y3
  have p1 := Int.mul_nonneg (show 0 ≤ y3 - y1 by omega) (h0 i hi)
  have p2 := Int.mul_nonneg (show 0 ≤ y1 - y0 by omega) (h3 i hi)
  by_cases e : y0 = y3
  · have : y1 = y0 := by omega
    rw [this]; exact h0 i hi
  · rcases Int.lt_or_le (crs (g H i) (g H (nx H i)) (X, y1)) 0 with c | c
    · exfalso
      have := Int.mul_neg_of_pos_of_neg (show 0 < y3 - y0 by omega) c
      omega
    · exact c
/-- what is inside lies to the left of each way that the corners lie to the left of -/
theorem ins_left {H D : List P} (G : Pgon H D) (h3 : 3 ≤ H.length) {X y : Int} (h : Ins H y X) {u v : P} (V : ∀ x, x ∈ H → 0 ≤ crs u v x) : 0 ≤ crs u v (X, y) := by
  obtain ⟨⟨i, hi, L⟩, ⟨j, hj, R⟩⟩ := ins_edges G h3 h
  have W : ∀ k, k < H.length → 0 ≤ crs u v (g H k) := fun k hk => V _ (mem_g hk)
  have ni := nx_lt (l := H) i (by omega)
  have nj := nx_lt (l := H) j (by omega)
  rcases Int.le_total 0 (v.2 - u.2) with c | c
  · rcases R with ⟨r1, r2, r3, r4⟩ | ⟨r1, r2, r3, r4⟩
    · exact beside r1 r2 r3 (W j hj) (W _ nj) (mul_nn (.inl ⟨c, r4⟩))
    · exact beside r1 r2 r3 (W _ nj) (W j hj) (mul_nn (.inl ⟨c, by rw [crs_rev]; omega⟩))
  · rcases L with ⟨r1, r2, r3, r4⟩ | ⟨r1, r2, r3, r4⟩
    · exact beside r1 r2 r3 (W i hi) (W _ ni) (mul_nn (.inr ⟨c, r4⟩))
    · exact beside r1 r2 r3 (W _ ni) (W i hi) (mul_nn (.inr ⟨c, by rw [crs_rev]; omega⟩))
/-- three points of one line -/
theorem line_crs {f t u v w : P} (hft : bef f t = true) (hu : crs f t u = 0) (hv : crs f t v = 0) (hw : crs f t w = 0) : crs u v w = 0 := by
  have i1 : crs u v w * (t.1 - f.1) = (crs f t w - crs f t u) * (v.1 - u.1) - (crs f t v - crs f t u) * (w.1 - u.1) := by clear hu hv hw hft; unfold crs; grind
  have i2 : crs u v w * (t.2 - f.2) = (crs f t w - crs f t u) * (v.2 - u.2) - (crs f t v - crs f t u) * (w.2 - u.2) := by clear hu hv hw hft i1; unfold crs; grind
  rw [hu, hv, hw, Int.sub_self, Int.zero_mul, Int.zero_mul] at i1 i2
  rw [bef_iff] at hft
  rcases hft with h | ⟨_, h⟩
  · rcases Int.mul_eq_zero.1 (show crs u v w * (t.1 - f.1) = 0 by omega) with c | c
    · exact c
    · omega
  · rcases Int.mul_eq_zero.1 (show crs u v w * (t.2 - f.2) = 0 by omega) with c | c
    · exact c
    · omega
/-- more points of a list that has a hull have one -/
theorem hull_more {p a : List P} (hs : ∀ x, x ∈ p → x ∈ a) (ha : a.length ≤ 32) (hr : rng a = true) (hp : hull p ≠ []) : hull a ≠ [] := by
  intro h0
  obtain ⟨G, h3⟩ := hull_pgon hp
  have t := G.tr 0 (by omega)
  have m0 : g (hull p) 0 ∈ a := hs _ (G.me _ (mem_g (by omega)))
  have m1 : g (hull p) (nx (hull p) 0) ∈ a := hs _ (G.me _ (mem_g (nx_lt _ (by omega))))
  have m2 : g (hull p) (nx (hull p) (nx (hull p) 0)) ∈ a := hs _ (G.me _ (mem_g (nx_lt _ (by omega))))
  obtain ⟨so, sm⟩ := srtD_spec a
  rw [hull_same] at h0
  unfold hullD at h0
  rw [if_neg (by omega), if_pos hr] at h0
  by_cases hD : 2 ≤ (srtD a).length
  · have T := two_of so hD
    have n2 := T.n2
    have k2 := T.m2
    split at h0
    · rename_i h5
      have e1 : (chn (srtD a)).length = 2 := by omega
      have e2 : (chn (srtD a).reverse).length = 2 := by omega
      have E1 := T.el 0 (by omega)
      have E2 := T.eu 0 (by omega)
      have x1 := T.lo1
      have x2 := T.up1
      rw [e1] at x1
      rw [e2] at x2
      rw [T.lo0, show (0 : Nat) + 1 = 2 - 1 from rfl, x1] at E1
      rw [T.up0, show (0 : Nat) + 1 = 2 - 1 from rfl, x2] at E2
      have z : ∀ x, x ∈ a → crs (g (srtD a) 0) (g (srtD a) ((srtD a).length - 1)) x = 0 := fun x hx => by
        have a1 := E1.2 x ((sm x).2 hx)
        have a2 := E2.2 x ((sm x).2 hx)
        rw [crs_rev] at a2; omega
      have := line_crs E1.1 (z _ m0) (z _ m1) (z _ m2)
      omega
    · have := rnd_len (lo := chn (srtD a)) (up := chn (srtD a).reverse)
      have e : rnd (chn (srtD a)) (chn (srtD a).reverse) = [] := h0
      rw [e] at this
      simp at this; omega
  · have one : ∀ x y, x ∈ a → y ∈ a → x = y := fun x y hx hy => by
      have hx := (sm x).2 hx
      have hy := (sm y).2 hy
      match hs2 : srtD a, hD with
      | [], _ => rw [hs2] at hx; cases hx
      | [z], _ => rw [hs2] at hx hy; rw [List.mem_singleton.1 hx, List.mem_singleton.1 hy]
      | z :: y :: r, hD => simp at hD
    rw [one _ _ m1 m0, one _ _ m2 m0] at t
    rw [crs_two] at t
    omega
theorem chord_fac (l : List P) (lo hi : Int) : (chord l lo hi = (0, 0)) ∨ (hull l ≠ [] ∧ lo < hi ∧ -600 ≤ lo ∧ hi ≤ 600 ∧ (chord l lo hi).1 < (chord l lo hi).2) := by
  rw [chord_same]
  unfold chordR
  split
  · exact .inl rfl
  · rename_i h
    unfold cmbR
    split
    · exact .inl rfl
    · rename_i h2
      refine .inr ⟨fun e => h (.inl e), by omega, by omega, by omega, ?_⟩
      show max _ _ < min _ _
      omega
/-- which X a chord has -/
theorem chord_sq {l : List P} {lo hi : Int} (hn : hull l ≠ []) (h : lo < hi) (h1 : -600 ≤ lo) (h2 : hi ≤ 600) {A B : Int} (hAB : A < B) : ((chord l lo hi).1 ≤ A ∧ B ≤ (chord l lo hi).2) ∨ (chord l lo hi = (0, 0) ∧ ¬ (Ins (hull l) lo A ∧ Ins (hull l) lo B ∧ Ins (hull l) hi A ∧ Ins (hull l) hi B)) ∨ ¬ (Ins (hull l) lo A ∧ Ins (hull l) lo B ∧ Ins (hull l) hi A ∧ Ins (hull l) hi B) := by
  by_cases c : Ins (hull l) lo A ∧ Ins (hull l) lo B ∧ Ins (hull l) hi A ∧ Ins (hull l) hi B
  · obtain ⟨c1, c2, c3, c4⟩ := c
    obtain ⟨G0, h3⟩ := hull_pgon hn
    have G : Pgon (hull l) (hull l) := ⟨fun i hi p hp => G0.ed i hi p (G0.me p hp), G0.tr, fun x hx => hx⟩
    have hR := hull_rng l
    have bd : ∀ y X, Ins (hull l) y X → -600 ≤ X ∧ X ≤ 600 := fun y X hI => by
      obtain ⟨⟨i, hi, L⟩, ⟨j, hj, R⟩⟩ := ins_edges G h3 hI
      exact ⟨lef_bd (hR _ (mem_g hi)) (hR _ (mem_g (nx_lt _ (by omega)))) L, rig_bd (hR _ (mem_g hj)) (hR _ (mem_g (nx_lt _ (by omega)))) R⟩
    have s1 := (acr_sq (hull l) lo A).2 ⟨bd lo A c1, c1⟩
    have s2 := (acr_sq (hull l) lo B).2 ⟨bd lo B c2, c2⟩
    have s3 := (acr_sq (hull l) hi A).2 ⟨bd hi A c3, c3⟩
    have s4 := (acr_sq (hull l) hi B).2 ⟨bd hi B c4, c4⟩
    left
    rw [chord_same]
    unfold chordR
    rw [if_neg (by rintro (k | k | k | k) <;> first | exact hn k | omega)]
    unfold Sq at s1 s2 s3 s4
    unfold cmbR
    rw [if_neg (by omega)]
    constructor
    · show max _ _ ≤ A; omega
    · show B ≤ min _ _; omega
  · exact .inr (.inr c)
/-- the ends of a chord are inside at both heights -/
theorem chord_ends {l : List P} {lo hi : Int} (h : (chord l lo hi).1 < (chord l lo hi).2) : ∀ X, X = (chord l lo hi).1 ∨ X = (chord l lo hi).2 → Ins (hull l) lo X ∧ Ins (hull l) hi X := by
  intro X hX
  rcases chord_fac l lo hi with e | ⟨hn, h1, h2, h3, h4⟩
  · rw [e] at h; exact absurd h (by decide)
  · have e : chord l lo hi = cmbR (acr (hull l) lo) (acr (hull l) hi) := by
      rw [chord_same]; unfold chordR; rw [if_neg (by rintro (k | k | k | k) <;> first | exact hn k | omega)]
    rw [e] at h hX
    unfold cmbR at h hX
    split at h
    · exact absurd h (by decide)
    · rename_i h5
      rw [if_neg h5] at hX
      dsimp only at h hX
      exact ⟨((acr_sq (hull l) lo X).1 ⟨by omega, by omega⟩).2, ((acr_sq (hull l) hi X).1 ⟨by omega, by omega⟩).2⟩
/-- P9.10: a chord lies within each chord between two heights that are between its own, and within the chord of more points -/
theorem chord_within {p a : List P} {y0 y1 y2 y3 : Int} (hs : ∀ x, x ∈ p → x ∈ a) (ha : a.length ≤ 32) (hr : rng a = true) (h01 : y0 ≤ y1) (h12 : y1 < y2) (h23 : y2 ≤ y3) (h : (chord p y0 y3).1 < (chord p y0 y3).2) :
    ((chord p y1 y2).1 ≤ (chord p y0 y3).1 ∧ (chord p y0 y3).2 ≤ (chord p y1 y2).2) ∧ (chord a y0 y3).1 ≤ (chord p y0 y3).1 ∧ (chord p y0 y3).2 ≤ (chord a y0 y3).2 := by
  have E := chord_ends h
  obtain ⟨a0, a3⟩ := E _ (.inl rfl)
  obtain ⟨b0, b3⟩ := E _ (.inr rfl)
  rcases chord_fac p y0 y3 with e | ⟨hn, h1, h2, h3, h4⟩
  · rw [e] at h; exact absurd h (by decide)
  · obtain ⟨G, g3⟩ := hull_pgon hn
    refine ⟨?_, ?_⟩
    · rcases chord_sq (l := p) (lo := y1) (hi := y2) hn h12 (by omega) (by omega) h with k | ⟨_, k⟩ | k
      · exact k
      · exact absurd ⟨ins_mid a0 a3 h01 (by omega), ins_mid b0 b3 h01 (by omega), ins_mid a0 a3 (by omega) h23, ins_mid b0 b3 (by omega) h23⟩ k
      · exact absurd ⟨ins_mid a0 a3 h01 (by omega), ins_mid b0 b3 h01 (by omega), ins_mid a0 a3 (by omega) h23, ins_mid b0 b3 (by omega) h23⟩ k
    · have hna := hull_more hs ha hr hn
      obtain ⟨Ga, ga3⟩ := hull_pgon hna
      have up : ∀ y X, Ins (hull p) y X → Ins (hull a) y X := fun y X hI i hi => ins_left G g3 hI (fun x hx => Ga.ed i hi x (hs x (G.me x hx)))
      rcases chord_sq (l := a) (lo := y0) (hi := y3) hna h1 h2 h3 h with k | ⟨_, k⟩ | k
      · exact k
      · exact absurd ⟨up _ _ a0, up _ _ b0, up _ _ a3, up _ _ b3⟩ k
      · exact absurd ⟨up _ _ a0, up _ _ b0, up _ _ a3, up _ _ b3⟩ k
end Pm
end Go.Proofs.Ytkkghejbdakmpaa
