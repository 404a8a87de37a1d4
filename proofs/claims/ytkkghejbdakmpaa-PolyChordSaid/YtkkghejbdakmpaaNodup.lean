/- The corners of the hull are different points. -/
import Derived.Test.YtkkghejbdakmpaaChordM
set_option linter.unusedVariables false
set_option linter.unusedSimpArgs false
namespace Go.Proofs.Ytkkghejbdakmpaa
namespace Pm

/-- strictly, if one of both steps is strict -/
theorem cx_trans1 {u v w : P} (hu : fwp u) (hv : fwp v) (hw : fwp w) (h1 : 0 ≤ cx u v) (h2 : 0 < cx v w) : 0 < cx u w := by
  have hu1 : 0 ≤ u.1 := by unfold fwp at hu; omega
  have hw1 : 0 ≤ w.1 := by unfold fwp at hw; omega
  have id := cx_id u v w
  rcases hv with hv | ⟨hv, hv2⟩
  · have hup : 0 < u.1 := by
      rcases hu with c | ⟨c, c2⟩
      · exact c
      · have e2 : cx u v = -(u.2 * v.1) := by unfold cx; rw [c]; omega
        have := Int.mul_pos c2 hv; omega
    have a := Int.mul_nonneg h1 hw1
    have b := Int.mul_pos h2 hup
    rcases Int.lt_or_le 0 (cx u w) with c | c
    · exact c
    · have := Int.mul_nonneg (show 0 ≤ -(cx u w) by omega) (Int.le_of_lt hv)
      rw [Int.neg_mul] at this; omega
  · have e : cx v w = -(v.2 * w.1) := by unfold cx; rw [hv]; omega
    have := Int.mul_nonneg (Int.le_of_lt hv2) hw1
    omega
theorem cx_trans2 {u v w : P} (hu : fwp u) (hv : fwp v) (hw : fwp w) (h1 : 0 < cx u v) (h2 : 0 ≤ cx v w) : 0 < cx u w := by
  have hu1 : 0 ≤ u.1 := by unfold fwp at hu; omega
  have hw1 : 0 ≤ w.1 := by unfold fwp at hw; omega
  have id := cx_id u v w
  rcases hv with hv | ⟨hv, hv2⟩
  · rcases hw with c | ⟨c, c2⟩
    · have a := Int.mul_pos h1 c
      have b := Int.mul_nonneg h2 hu1
      rcases Int.lt_or_le 0 (cx u w) with d | d
      · exact d
      · have := Int.mul_nonneg (show 0 ≤ -(cx u w) by omega) (Int.le_of_lt hv)
        rw [Int.neg_mul] at this; omega
    · have hup : 0 < u.1 := by
        rcases hu with d | ⟨d, d2⟩
        · exact d
        · have e2 : cx u v = -(u.2 * v.1) := by unfold cx; rw [d]; omega
          have := Int.mul_pos d2 hv; omega
      have e : cx u w = u.1 * w.2 := by unfold cx; rw [c]; omega
      rw [e]; exact Int.mul_pos hup c2
  · have e : cx v w = -(v.2 * w.1) := by unfold cx; rw [hv]; omega
    have e0 : w.1 = 0 := by
      rcases Int.lt_or_le 0 w.1 with c | c
      · have := Int.mul_pos hv2 c; omega
      · omega
    have hw2 : 0 < w.2 := by unfold fwp at hw; omega
    have e3 : cx u v = u.1 * v.2 := by unfold cx; rw [hv]; omega
    have hup : 0 < u.1 := by
      rcases Int.lt_or_le 0 u.1 with c | c
      · exact c
      · have : u.1 = 0 := by omega
        rw [this, Int.zero_mul] at e3; omega
    have e2 : cx u w = u.1 * w.2 := by unfold cx; rw [e0]; omega
    rw [e2]; exact Int.mul_pos hup hw2
theorem way_sorted {lo : List P} (h : ∀ i, i + 1 < lo.length → bef (g lo i) (g lo (i + 1)) = true) : ∀ {i j : Nat}, i < j → j < lo.length → bef (g lo i) (g lo j) = true := by
  intro i j hij hj
  induction j with
  | zero => omega
  | succ j ih =>
    have a := h j hj
    by_cases e : i = j
    · rw [e]; exact a
    · have b := ih (by omega) (by omega)
      rw [bef_iff] at *; omega
/-- an inner corner of the first way lies strictly below the line from its first point to its last one -/
theorem Two.below {D lo up : List P} (T : Two D lo up) {i : Nat} (h0 : 0 < i) (h1 : i + 1 < lo.length) : 0 < crs (g D 0) (g lo i) (g D (D.length - 1)) := by
  have so : ∀ {i j : Nat}, i < j → j < lo.length → bef (g lo i) (g lo j) = true := fun h k => way_sorted (fun i hi => (T.el i hi).1) h k
  have inD : ∀ k, k < lo.length → g lo k ∈ D := fun k hk => T.ml _ (mem_g hk)
  have f0 := T.lo0
  have t0 := T.lo1
  have b1 : bef (g lo (i - 1)) (g lo i) = true := so (by omega) (by omega)
  have b2 : bef (g lo i) (g lo (i + 1)) = true := so (by omega) h1
  have c1 := (T.el (i - 1) (by omega)).2 (g lo 0) (inD 0 (by omega))
  rw [show i - 1 + 1 = i by omega] at c1
  have c2 := (T.el i h1).2 (g lo (lo.length - 1)) (inD _ (by omega))
  have c3 := T.tl (i - 1) (by omega)
  rw [show i - 1 + 1 = i by omega, show i - 1 + 2 = i + 1 by omega] at c3
  rw [← f0, ← t0]
  have bf : bef (g lo 0) (g lo i) = true := so h0 (by omega)
  have bt : bef (g lo i) (g lo (lo.length - 1)) = true := so (by omega) (by omega)
  have x1 : 0 ≤ cx (sb (g lo 0) (g lo i)) (sb (g lo (i - 1)) (g lo i)) := by
    rw [crs_round, crs_cx] at c1
    have : cx (sb (g lo i) (g lo 0)) (sb (g lo i) (g lo (i - 1))) = cx (sb (g lo 0) (g lo i)) (sb (g lo (i - 1)) (g lo i)) := by unfold cx sb; grind
    omega
  have x2 : 0 < cx (sb (g lo (i - 1)) (g lo i)) (sb (g lo i) (g lo (i + 1))) := by rw [crs_next] at c3; exact c3
  have x3 : 0 ≤ cx (sb (g lo i) (g lo (i + 1))) (sb (g lo i) (g lo (lo.length - 1))) := by rw [crs_cx] at c2; exact c2
  rw [crs_next]
  exact cx_trans2 (fwp_sb bf) (fwp_sb b2) (fwp_sb bt) (cx_trans1 (fwp_sb bf) (fwp_sb b1) (fwp_sb b2) x1 x2) x3
theorem Two.above {D lo up : List P} (T : Two D lo up) {i : Nat} (h0 : 0 < i) (h1 : i + 1 < up.length) : 0 < crs (g D (D.length - 1)) (g up i) (g D 0) := by
  have hD : 0 < D.length := by
    have : g lo 0 ∈ D := T.ml _ (mem_g (by have := T.n2; omega))
    exact List.length_pos_iff.2 (fun e => by rw [e] at this; cases this)
  have k := T.half.below h0 (by rw [List.length_map]; exact h1)
  rw [List.length_map, List.length_reverse, g_map (by rw [List.length_reverse]; omega), g_map (by omega), g_map (by rw [List.length_reverse]; omega), g_revD (by omega), g_revD (by omega), crs_ng, show D.length - 1 - (D.length - 1) = 0 by omega] at k
  exact k
/-- the corners are different points -/
theorem rnd_inj {D lo up : List P} (T : Two D lo up) : ∀ {i j : Nat}, i < j → j < (rnd lo up).length → g (rnd lo up) i ≠ g (rnd lo up) j := by
  intro i j hij hj e
  have n2 := T.n2
  have m2 := T.m2
  have hl := rnd_len (lo := lo) (up := up)
  have so : ∀ {i j : Nat}, i < j → j < lo.length → bef (g lo i) (g lo j) = true := fun h k => way_sorted (fun i hi => (T.el i hi).1) h k
  have su : ∀ {i j : Nat}, i < j → j < up.length → bef (g up j) (g up i) = true := by
    intro i j hij hj
    have := way_sorted (lo := up.map ng) (fun i hi => (T.half.el i hi).1) hij (by rw [List.length_map]; exact hj)
    rw [g_map (by omega), g_map (by omega), bef_ng] at this; exact this
  have irr : ∀ x : P, ¬ bef x x = true := fun x h => by rw [bef_iff] at h; omega
  by_cases c1 : j ≤ lo.length - 1
  · rw [rnd_lo T (by omega), rnd_lo T c1] at e
    have := so hij (by omega)
    rw [e] at this; exact irr _ this
  · obtain ⟨b, rfl⟩ : ∃ b, j = lo.length - 1 + b := ⟨j - (lo.length - 1), by omega⟩
    rw [rnd_up T (by omega)] at e
    by_cases c2 : i < lo.length - 1
    · rw [rnd_lo T (by omega)] at e
      by_cases c3 : i = 0
      · subst c3
        have := su (i := b) (j := up.length - 1) (by omega) (by omega)
        rw [T.up1, ← T.lo0, e] at this; exact irr _ this
      · have k1 := T.below (i := i) (by omega) (by omega)
        have k2 := T.above (i := b) (by omega) (by omega)
        rw [← e] at k2
        have : crs (g D 0) (g lo i) (g D (D.length - 1)) = - crs (g D (D.length - 1)) (g lo i) (g D 0) := by unfold crs; grind
        omega
    · obtain ⟨a, rfl⟩ : ∃ a, i = lo.length - 1 + a := ⟨i - (lo.length - 1), by omega⟩
      rw [rnd_up T (by omega)] at e
      have := su (i := a) (j := b) (by omega) (by omega)
      rw [e] at this; exact irr _ this
end Pm
end Go.Proofs.Ytkkghejbdakmpaa
