/- The contract of the reference's Chord. -/
import Derived.Test.YtjeocmcllhjceaaRAcross
import Derived.Test.YtjeocmcllhjceaaRHull
import Derived.Test.YtjeocmcllhjceaaPart
set_option linter.unusedVariables false
set_option linter.unusedSimpArgs false
namespace Go.Proofs.Ytjeocmcllhjceaa
open Go.ChangeShapes Go.WideShapes Go.ChangeAt Go.RowKit Go.Shelf Pm

theorem chordR_zero {l : List P} {lo hi : Int} (h : hull l = [] ∨ hi ≤ lo ∨ lo < -600 ∨ 600 < hi) : chordR l lo hi = (0, 0) := by unfold chordR; rw [if_pos h]
theorem chordR_in {l : List P} {lo hi : Int} (h : ¬ (hull l = [] ∨ hi ≤ lo ∨ lo < -600 ∨ 600 < hi)) : chordR l lo hi = cmbR (acr (hull l) lo) (acr (hull l) hi) := by unfold chordR; rw [if_neg h]
theorem cmbR_zero {s t : P} (h : s.2 < s.1 ∨ t.2 < t.1 ∨ min s.2 t.2 ≤ max s.1 t.1) : cmbR s t = (0, 0) := by unfold cmbR; rw [if_pos h]
theorem cmbR_in {s t : P} (h : ¬ (s.2 < s.1 ∨ t.2 < t.1 ∨ min s.2 t.2 ≤ max s.1 t.1)) : cmbR s t = (max s.1 t.1, min s.2 t.2) := by unfold cmbR; rw [if_neg h]
set_option maxRecDepth 100000 in
set_option maxHeartbeats 3200000 in
theorem rChord_c (v : Value) (l : List P) (lo hi : Int) (r : P) (h : Hid (chord l lo hi = r)) (hlo : Fit lo) (hhi : Fit hi) (w : World) (hr : RdP w v l) (hl : l.length ≤ maxLen) : Calls Try.prog 30 #[v, .int .i64 lo, .int .i64 hi] w fun e w' => e = .returned (.agg #[.int .i64 r.1, .int .i64 r.2]) ∧ Q w w' := by
  have h : Hid (chordR l lo hi = r) := Lib.hid (by rw [← chord_same]; exact h.out)
  have HR := Lib.hid hr
  have HL := Lib.hid hl
  obtain ⟨A, c, rfl, hc, _⟩ := hr
  obtain ⟨W0, hW0⟩ : ∃ W, w.alloc (.cells #[.int .i64 0, .int .i64 0] 29) = W := ⟨_, rfl⟩
  have HQ0 := Lib.hid (show Q w W0 by rw [← hW0]; exact (Q.refl w).alloc _)
  have HB0 := Lib.hid (show BoxS W0 w.heap.size (0, 0) by rw [← hW0]; exact BoxS.new w (0, 0))
  obtain ⟨H, hH⟩ : ∃ H, hull l = H := ⟨_, rfl⟩
  have HH := Lib.hid hH
  have HRL := Lib.hid (show RL H by rw [← hH]; exact hull_rng l)
  have h64 : H.length ≤ 64 := by rw [← hH]; exact hull_len l
  obtain ⟨m, hm⟩ : ∃ m, H.length = m := ⟨_, rfl⟩
  have HM := Lib.hid hm
  rw [hm] at h64
  clear hc hl hH hm
  go_enter Try.func30, Try.ntmps30
  go_wp2_with fail
  refine (rHull_c _ l _ (RdG.q HR.out HQ0.out) HL.out).mono ?_; rintro E w1 ⟨v1, rfl, hr1, hq1⟩
  rw [HH.out] at hr1
  have HR1 := Lib.hid hr1
  have HQ1 := Lib.hid (HQ0.out.trans hq1)
  have HB1 := Lib.hid (HB0.out.q hq1)
  obtain ⟨A1, c1, rfl, hc1, _⟩ := hr1
  rw [HM.out] at HR1 ⊢
  clear hW0 hq1 hc1
  have b0 := HB1.out.c0
  have b1 := HB1.out.c1
  have f0 := HB1.out.f0
  have f1 := HB1.out.f1
  have y0 := (HB1.out.set0 0).c0
  have y1 := ((HB1.out.set0 0).set1 0).c1
  have y2 := ((HB1.out.set0 0).set1 0).c0
  have g1 := (HB1.out.set0 0).f1
  dsimp only at b0 b1 f0 f1 y0 y1 y2 g1
  by_cases hz : m = 0
  · have HE := Lib.hid (show (0, 0) = r by rw [← h.out]; exact (chordR_zero (.inl (by rw [HH.out]; exact List.eq_nil_of_length_eq_zero (by rw [HM.out]; exact hz)))).symm)
    have t1 : ((m : Int) == 0) = true := by simp [hz]
    clear hz
    as_aux_lemma =>
      go_wp2_with fail
      refine bodyPost_ret (v := .agg #[.int .i64 0, .int .i64 0]) (by simp [results, Try.results30, go_sem, y1, y2]) rfl ⟨by rw [← HE.out], (HQ1.out.setA (Nat.le_refl _) _).setA (Nat.le_refl _) _⟩
  · have t1 : ((m : Int) == 0) = false := by simp; omega
    by_cases c1 : hi ≤ lo
    · have HE := Lib.hid (show (0, 0) = r by rw [← h.out]; exact (chordR_zero (.inr (.inl c1))).symm)
      have t2 : decide (hi ≤ lo) = true := decide_eq_true c1
      clear hz c1
      as_aux_lemma =>
        go_wp2_with fail
        refine bodyPost_ret (v := .agg #[.int .i64 0, .int .i64 0]) (by simp [results, Try.results30, go_sem, y1, y2]) rfl ⟨by rw [← HE.out], (HQ1.out.setA (Nat.le_refl _) _).setA (Nat.le_refl _) _⟩
    · have t2 : decide (hi ≤ lo) = false := decide_eq_false c1
      by_cases c2 : lo < -600
      · have HE := Lib.hid (show (0, 0) = r by rw [← h.out]; exact (chordR_zero (.inr (.inr (.inl c2)))).symm)
        have t3 : decide (lo < -600) = true := decide_eq_true c2
        clear hz c1 c2
        as_aux_lemma =>
          go_wp2_with fail
          refine bodyPost_ret (v := .agg #[.int .i64 0, .int .i64 0]) (by simp [results, Try.results30, go_sem, y1, y2]) rfl ⟨by rw [← HE.out], (HQ1.out.setA (Nat.le_refl _) _).setA (Nat.le_refl _) _⟩
      · have t3 : decide (lo < -600) = false := decide_eq_false c2
        by_cases c3 : 600 < hi
        · have HE := Lib.hid (show (0, 0) = r by rw [← h.out]; exact (chordR_zero (.inr (.inr (.inr c3)))).symm)
          have t4 : decide (600 < hi) = true := decide_eq_true c3
          clear hz c1 c2 c3
          as_aux_lemma =>
            go_wp2_with fail
            refine bodyPost_ret (v := .agg #[.int .i64 0, .int .i64 0]) (by simp [results, Try.results30, go_sem, y1, y2]) rfl ⟨by rw [← HE.out], (HQ1.out.setA (Nat.le_refl _) _).setA (Nat.le_refl _) _⟩
        · have t4 : decide (600 < hi) = false := decide_eq_false c3
          have hne : ¬ hull l = [] := by rw [HH.out]; intro e; have := HM.out; rw [e] at this; exact hz this.symm
          have HE0 := Lib.hid (show cmbR (acr H lo) (acr H hi) = r by rw [← h.out, chordR_in (by rintro (k | k | k | k) <;> first | exact hne k | omega), HH.out])
          obtain ⟨⟨s1, s2⟩, hs⟩ : ∃ s, acr H lo = s := ⟨_, rfl⟩
          obtain ⟨⟨u1, u2⟩, hu⟩ : ∃ s, acr H hi = s := ⟨_, rfl⟩
          have HE := Lib.hid (show cmbR (s1, s2) (u1, u2) = r by rw [← hs, ← hu]; exact HE0.out)
          have HS := Lib.hid hs
          have HU := Lib.hid hu
          have l1 : -600 ≤ lo := by omega
          have l2 : lo ≤ 600 := by omega
          have l3 : -600 ≤ hi := by omega
          have l4 : hi ≤ 600 := by omega
          have H64 := Lib.hid (show H.length ≤ 64 by rw [HM.out]; exact h64)
          obtain ⟨x1, hx1⟩ : ∃ z, max s1 u1 = z := ⟨_, rfl⟩
          obtain ⟨x2, hx2⟩ : ∃ z, min s2 u2 = z := ⟨_, rfl⟩
          have r1 : ∀ ts ty W, (Builtin.max_ ts ty #[.int .i64 s1, .int .i64 u1]).run Try.prog W = .ok (.int .i64 x1) W := fun ts ty W => max_run ts ty _ _ x1 W hx1
          have r2 : ∀ ts ty W, (Builtin.min_ ts ty #[.int .i64 s2, .int .i64 u2]).run Try.prog W = .ok (.int .i64 x2) W := fun ts ty W => min_run ts ty _ _ x2 W hx2
          clear hz c1 c2 c3 hne hs hu HE0 b0 b1 f0 f1 y0 y1 y2 g1
          go_wp2_with fail
          refine (racross_c _ H lo (s1, s2) HS HRL.out H64.out l1 l2 _ (by have := HR1.out; rw [← HM.out] at this ⊢; exact this)).mono ?_; rintro E w2 ⟨rfl, hq2⟩
          have HR2 := Lib.hid (RdG.q HR1.out hq2)
          have HQ2 := Lib.hid (HQ1.out.trans hq2)
          have HB2 := Lib.hid (HB1.out.q hq2)
          clear hq2
          go_wp2_with fail
          refine (racross_c _ H hi (u1, u2) HU HRL.out H64.out l3 l4 _ (by have := HR2.out; rw [← HM.out] at this ⊢; exact this)).mono ?_; rintro E w3 ⟨rfl, hq3⟩
          have HQ3 := Lib.hid (HQ2.out.trans hq3)
          have HB3 := Lib.hid (HB2.out.q hq3)
          have HSZ := Lib.hid (show w.heap.size < w3.heap.size from HB3.out.lt)
          clear hq3
          obtain ⟨W4, hW4⟩ : ∃ W, w3.alloc (.cells #[.int .i64 x1, .int .i64 x2] 29) = W := ⟨_, rfl⟩
          have hb4 : BoxS W4 w.heap.size (0, 0) := by rw [← hW4]; exact HB3.out.alloc _
          have hn4 : BoxS W4 w3.heap.size (x1, x2) := by rw [← hW4]; exact BoxS.new w3 (x1, x2)
          have HQ4 := Lib.hid (show Q w W4 by rw [← hW4]; exact HQ3.out.alloc _)
          have n0 := hn4.c0
          have n1 := hn4.c1
          have f0 := hb4.f0
          have f1 := hb4.f1
          have z0 := hb4.c0
          have z1 := hb4.c1
          have g1 := (hb4.set0 x1).f1
          have y1 := ((hb4.set0 x1).set1 x2).c1
          have y2 := ((hb4.set0 x1).set1 x2).c0
          have o1 := ((hb4.set0 0).set1 0).c1
          have o2 := ((hb4.set0 0).set1 0).c0
          have og := (hb4.set0 0).f1
          dsimp only at n0 n1 f0 f1 z0 z1 g1 y1 y2 o1 o2 og
          by_cases k1 : s2 < s1
          · have HZ := Lib.hid (show (0, 0) = r by rw [← HE.out]; exact (cmbR_zero (.inl k1)).symm)
            have q1 : decide (s2 < s1) = true := decide_eq_true k1
            clear k1 hx1 hx2 hb4 hn4
            as_aux_lemma =>
              go_wp2_with fail
              refine bodyPost_ret (v := .agg #[.int .i64 0, .int .i64 0]) (by simp [results, Try.results30, go_sem, o1, o2]) rfl ⟨by rw [← HZ.out], (HQ4.out.setA (Nat.le_refl _) _).setA (Nat.le_refl _) _⟩
          · have q1 : decide (s2 < s1) = false := decide_eq_false k1
            by_cases k2 : u2 < u1
            · have HZ := Lib.hid (show (0, 0) = r by rw [← HE.out]; exact (cmbR_zero (.inr (.inl k2))).symm)
              have q2 : decide (u2 < u1) = true := decide_eq_true k2
              clear k1 k2 hx1 hx2 hb4 hn4
              as_aux_lemma =>
                go_wp2_with fail
                refine bodyPost_ret (v := .agg #[.int .i64 0, .int .i64 0]) (by simp [results, Try.results30, go_sem, o1, o2]) rfl ⟨by rw [← HZ.out], (HQ4.out.setA (Nat.le_refl _) _).setA (Nat.le_refl _) _⟩
            · have q2 : decide (u2 < u1) = false := decide_eq_false k2
              by_cases k3 : x2 ≤ x1
              · have HZ := Lib.hid (show (0, 0) = r by rw [← HE.out]; exact (cmbR_zero (.inr (.inr (by rw [hx1, hx2]; exact k3)))).symm)
                have q3 : decide (x2 ≤ x1) = true := decide_eq_true k3
                clear k1 k2 k3 hx1 hx2 hb4 hn4
                as_aux_lemma =>
                  go_wp2_with fail
                  refine bodyPost_ret (v := .agg #[.int .i64 0, .int .i64 0]) (by simp [results, Try.results30, go_sem, o1, o2]) rfl ⟨by rw [← HZ.out], (HQ4.out.setA (Nat.le_refl _) _).setA (Nat.le_refl _) _⟩
              · have q3 : decide (x2 ≤ x1) = false := decide_eq_false k3
                have HZ := Lib.hid (show (x1, x2) = r by rw [← HE.out, cmbR_in (by rintro (k | k | k) <;> first | exact k1 k | exact k2 k | (rw [hx1, hx2] at k; exact k3 k)), hx1, hx2])
                clear k1 k2 k3 hx1 hx2 hb4 hn4
                as_aux_lemma =>
                  go_wp2_with fail
                  refine bodyPost_ret (v := .agg #[.int .i64 x1, .int .i64 x2]) (by simp [results, Try.results30, go_sem, y1, y2]) rfl ⟨by rw [← HZ.out], (HQ4.out.setA (Nat.le_refl _) _).setA (Nat.le_refl _) _⟩
end Go.Proofs.Ytjeocmcllhjceaa
