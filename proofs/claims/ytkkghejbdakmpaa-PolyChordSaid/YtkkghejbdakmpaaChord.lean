/- The contract of Chord. -/
import Derived.Test.YtkkghejbdakmpaaPart
set_option linter.unusedVariables false
set_option linter.unusedSimpArgs false
namespace Go.Proofs.Ytkkghejbdakmpaa
open Go.ChangeShapes Go.WideShapes Go.ChangeAt Go.RowKit Go.Shelf Pm

set_option maxRecDepth 100000 in
set_option maxHeartbeats 3200000 in
theorem Chord_c (v : Value) (l : List P) (lo hi : Int) (r : P) (h : Hid (Pm.chord l lo hi = r)) (hlo : Fit lo) (hhi : Fit hi) (w : World) (hr : RdP w v l) (hl : l.length ≤ maxLen) : Calls Try.prog 29 #[v, .int .i64 lo, .int .i64 hi] w fun e w' => e = .returned (.agg #[.int .i64 r.1, .int .i64 r.2]) ∧ Q w w' := by
  by_cases c0 : hi ≤ lo
  · have HE := Lib.hid (show ((0, 0) : P) = r by rw [← h.out]; unfold Pm.chord; rw [if_pos c0])
    clear h
    obtain ⟨r1, r2⟩ := r
    obtain ⟨rfl, rfl⟩ : 0 = r1 ∧ 0 = r2 := by have := HE.out; injection this with e1 e2; exact ⟨e1, e2⟩
    obtain ⟨A, c, rfl, hc, _⟩ := hr
    clear hc hl HE
    go_enter Try.func29, Try.ntmps29
    go_wp2_with fail
    refine bodyPost_ret (v := .agg #[.int .i64 0, .int .i64 0]) (by simp [results, Try.results29, go_sem]) rfl ⟨rfl, ?_⟩
    repeat (first | exact Q.refl _ | refine Q.alloc ?_ _ | refine Q.setA ?_ (by simp; try omega) _)
  · have c0' : decide (hi ≤ lo) = false := decide_eq_false c0
    obtain ⟨b, hb⟩ : ∃ b, Pm.part (hull l) lo = b := ⟨_, rfl⟩
    obtain ⟨t, ht⟩ : ∃ b, Pm.part (hull l) hi = b := ⟨_, rfl⟩
    have HB := Lib.hid hb
    have HT := Lib.hid ht
    have HR := Lib.hid hr
    have HL := Lib.hid hl
    have HLO := Lib.hid hlo
    have HHI := Lib.hid hhi
    have hE := h.out
    unfold Pm.chord at hE
    rw [if_neg c0, hb, ht] at hE
    obtain ⟨b1, b2⟩ := b
    obtain ⟨t1, t2⟩ := t
    obtain ⟨m1, h1⟩ : ∃ z, max b1 t1 = z := ⟨_, rfl⟩
    obtain ⟨m2, h2⟩ : ∃ z, min b2 t2 = z := ⟨_, rfl⟩
    have HE := Lib.hid (show (if m2 ≤ m1 then ((0, 0) : P) else (m1, m2)) = r by rw [← hE]; unfold cmb; dsimp only; rw [h1, h2])
    clear h hb ht hE hlo hhi hl
    obtain ⟨A, c, rfl, hc, _⟩ := hr
    clear hc
    by_cases c1 : m2 ≤ m1
    · skip
      have HE2 := Lib.hid (show ((0, 0) : P) = r by rw [← HE.out, if_pos c1])
      obtain ⟨r1, r2⟩ := r
      obtain ⟨rfl, rfl⟩ : 0 = r1 ∧ 0 = r2 := by have := HE2.out; injection this with e1 e2; exact ⟨e1, e2⟩
      clear HE HE2
      go_enter Try.func29, Try.ntmps29
      go_wp2_with fail
      obtain ⟨W0, hW0⟩ : ∃ W0, w.alloc (.cells #[.int .i64 0, .int .i64 0] 29) = W0 := ⟨_, rfl⟩
      have q0 : Q w W0 := by rw [← hW0]; exact (Q.refl w).alloc _
      have bR : BoxS W0 w.heap.size (0, 0) := by rw [← hW0]; exact BoxS.new w (0, 0)
      have HQ0 := Lib.hid q0
      have HBR := Lib.hid bR
      rw [hW0]
      clear hW0 q0 bR
      refine (Hull_c _ l _ (RdG.q HR.out HQ0.out) HL.out).mono ?_
      rintro e w1 ⟨v1, rfl, hr1, hq1⟩
      have HQ1 := Lib.hid (HQ0.out.trans hq1)
      have HBR1 := Lib.hid (HBR.out.q hq1)
      have HR1 := Lib.hid (show RdP (w1.alloc (.cells #[v1] 22)) v1 (hull l) from RdG.q hr1 ((Q.refl w1).alloc _))
      have HBX := Lib.hid (Boxed.new w1 22 v1)
      have HQ2 := Lib.hid (HQ1.out.alloc (.cells #[v1] 22))
      have HBR2 := Lib.hid (HBR1.out.alloc (.cells #[v1] 22))
      obtain ⟨A1, c1', rfl, _⟩ := hr1
      clear hq1
      go_wp2_with fail
      refine (part_c lo w1.heap.size _ (hull l) (b1, b2) HB HLO.out (Lib.hid (hull_rng l)) (hull_len l) _ HR1.out HBX.out).mono ?_
      rintro e w3 ⟨rfl, hq3⟩
      have HQ3 := Lib.hid (HQ2.out.trans hq3)
      have HBR3 := Lib.hid (HBR2.out.q hq3)
      have HR3 := Lib.hid (RdG.q HR1.out hq3)
      have HBX3 := Lib.hid (Boxed.q HBX.out hq3)
      clear hq3
      go_wp2_with fail
      refine (part_c hi w1.heap.size _ (hull l) (t1, t2) HT HHI.out (Lib.hid (hull_rng l)) (hull_len l) _ HR3.out HBX3.out).mono ?_
      rintro e w4 ⟨rfl, hq4⟩
      have HQ4 := Lib.hid (HQ3.out.trans hq4)
      have HBR4 := Lib.hid (HBR3.out.q hq4)
      obtain ⟨W5, hW5⟩ : ∃ W5, ((w4.alloc (.cells #[.int .i64 b1, .int .i64 b2] 29)).alloc (.cells #[.int .i64 t1, .int .i64 t2] 29)).alloc (.cells #[.int .i64 m1, .int .i64 m2] 29) = W5 := ⟨_, rfl⟩
      have HQ5 := Lib.hid (show Q w W5 by rw [← hW5]; exact ((HQ4.out.alloc _).alloc _).alloc _)
      have HBR5 := Lib.hid (show BoxS W5 w.heap.size (0, 0) by rw [← hW5]; exact ((HBR4.out.alloc _).alloc _).alloc _)
      have HBC := Lib.hid (show BoxS W5 (w4.heap.size + 1 + 1) (m1, m2) by
        rw [← hW5]
        have := BoxS.new ((w4.alloc (.cells #[.int .i64 b1, .int .i64 b2] 29)).alloc (.cells #[.int .i64 t1, .int .i64 t2] 29)) (m1, m2)
        simp only [World.size_alloc] at this
        exact this)
      have k0 := HBR5.out.c0
      have k1 := HBR5.out.c1
      have k2 := HBR5.out.f0
      have k3 := HBR5.out.f1
      have n0 := HBC.out.c0
      have n1 := HBC.out.c1
      have k4 := (HBR5.out.set0 0).c1
      have k5 := ((HBR5.out.set0 0).set1 0).c0
      have k6 := ((HBR5.out.set0 0).set1 0).c1
      dsimp only at k0 k1 n0 n1 k4 k5 k6
      clear hq4
      go_wp2_with fail
      refine bodyPost_ret (v := .agg #[.int .i64 0, .int .i64 0]) (by simp [results, Try.results29, go_sem, k5, k6]) rfl ⟨rfl, (HQ5.out.setA (Nat.le_refl _) _).setA (Nat.le_refl _) _⟩
    · skip
      have HE2 := Lib.hid (show ((m1, m2) : P) = r by rw [← HE.out, if_neg c1])
      obtain ⟨r1, r2⟩ := r
      have c1' : decide (m2 ≤ m1) = false := decide_eq_false c1
      obtain ⟨rfl, rfl⟩ : m1 = r1 ∧ m2 = r2 := by have := HE2.out; injection this with e1 e2; exact ⟨e1, e2⟩
      clear HE HE2
      go_enter Try.func29, Try.ntmps29
      go_wp2_with fail
      obtain ⟨W0, hW0⟩ : ∃ W0, w.alloc (.cells #[.int .i64 0, .int .i64 0] 29) = W0 := ⟨_, rfl⟩
      have q0 : Q w W0 := by rw [← hW0]; exact (Q.refl w).alloc _
      have bR : BoxS W0 w.heap.size (0, 0) := by rw [← hW0]; exact BoxS.new w (0, 0)
      have HQ0 := Lib.hid q0
      have HBR := Lib.hid bR
      rw [hW0]
      clear hW0 q0 bR
      refine (Hull_c _ l _ (RdG.q HR.out HQ0.out) HL.out).mono ?_
      rintro e w1 ⟨v1, rfl, hr1, hq1⟩
      have HQ1 := Lib.hid (HQ0.out.trans hq1)
      have HBR1 := Lib.hid (HBR.out.q hq1)
      have HR1 := Lib.hid (show RdP (w1.alloc (.cells #[v1] 22)) v1 (hull l) from RdG.q hr1 ((Q.refl w1).alloc _))
      have HBX := Lib.hid (Boxed.new w1 22 v1)
      have HQ2 := Lib.hid (HQ1.out.alloc (.cells #[v1] 22))
      have HBR2 := Lib.hid (HBR1.out.alloc (.cells #[v1] 22))
      obtain ⟨A1, c1', rfl, _⟩ := hr1
      clear hq1
      go_wp2_with fail
      refine (part_c lo w1.heap.size _ (hull l) (b1, b2) HB HLO.out (Lib.hid (hull_rng l)) (hull_len l) _ HR1.out HBX.out).mono ?_
      rintro e w3 ⟨rfl, hq3⟩
      have HQ3 := Lib.hid (HQ2.out.trans hq3)
      have HBR3 := Lib.hid (HBR2.out.q hq3)
      have HR3 := Lib.hid (RdG.q HR1.out hq3)
      have HBX3 := Lib.hid (Boxed.q HBX.out hq3)
      clear hq3
      go_wp2_with fail
      refine (part_c hi w1.heap.size _ (hull l) (t1, t2) HT HHI.out (Lib.hid (hull_rng l)) (hull_len l) _ HR3.out HBX3.out).mono ?_
      rintro e w4 ⟨rfl, hq4⟩
      have HQ4 := Lib.hid (HQ3.out.trans hq4)
      have HBR4 := Lib.hid (HBR3.out.q hq4)
      obtain ⟨W5, hW5⟩ : ∃ W5, ((w4.alloc (.cells #[.int .i64 b1, .int .i64 b2] 29)).alloc (.cells #[.int .i64 t1, .int .i64 t2] 29)).alloc (.cells #[.int .i64 m1, .int .i64 m2] 29) = W5 := ⟨_, rfl⟩
      have HQ5 := Lib.hid (show Q w W5 by rw [← hW5]; exact ((HQ4.out.alloc _).alloc _).alloc _)
      have HBR5 := Lib.hid (show BoxS W5 w.heap.size (0, 0) by rw [← hW5]; exact ((HBR4.out.alloc _).alloc _).alloc _)
      have HBC := Lib.hid (show BoxS W5 (w4.heap.size + 1 + 1) (m1, m2) by
        rw [← hW5]
        have := BoxS.new ((w4.alloc (.cells #[.int .i64 b1, .int .i64 b2] 29)).alloc (.cells #[.int .i64 t1, .int .i64 t2] 29)) (m1, m2)
        simp only [World.size_alloc] at this
        exact this)
      have k0 := HBR5.out.c0
      have k1 := HBR5.out.c1
      have k2 := HBR5.out.f0
      have k3 := HBR5.out.f1
      have n0 := HBC.out.c0
      have n1 := HBC.out.c1
      have k4 := (HBR5.out.set0 m1).c1
      have k5 := ((HBR5.out.set0 m1).set1 m2).c0
      have k6 := ((HBR5.out.set0 m1).set1 m2).c1
      dsimp only at k0 k1 n0 n1 k4 k5 k6
      clear hq4
      go_wp2_with fail
      refine bodyPost_ret (v := .agg #[.int .i64 m1, .int .i64 m2]) (by simp [results, Try.results29, go_sem, k5, k6]) rfl ⟨rfl, (HQ5.out.setA (Nat.le_refl _) _).setA (Nat.le_refl _) _⟩
end Go.Proofs.Ytkkghejbdakmpaa
