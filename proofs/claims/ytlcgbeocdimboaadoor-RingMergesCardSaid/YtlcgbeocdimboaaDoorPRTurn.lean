/- The reference's negative, Quarters, Turned, Turn and Mirror. -/
import Derived.Test.YtlcgbeocdimboaaDoorPTurnB
import Derived.Test.YtlcgbeocdimboaaDoorPPart
set_option linter.unusedVariables false
set_option linter.unusedSimpArgs false
namespace Go.Proofs.YtlcgbeocdimboaaDoor
open Go.ChangeShapes Go.WideShapes Go.ChangeAt Go.RowKit Go.Shelf Pm

theorem quarters_eq (q : Int) : (q.tmod 4 + 4).tmod 4 = (qt q : Nat) := by
  unfold qt
  have h1 := Int.mul_tdiv_add_tmod q 4
  have h2 : -4 < q.tmod 4 ∧ q.tmod 4 < 4 := by
    have a := Int.tmod_lt_of_pos q (show (0 : Int) < 4 by omega)
    have b := Int.tmod_lt_of_pos (-q) (show (0 : Int) < 4 by omega)
    rw [Int.neg_tmod] at b
    omega
  rw [Int.tmod_eq_emod_of_nonneg (by omega)]
  omega
set_option maxHeartbeats 800000 in
theorem rQuarters_c (q : Int) (k : Nat) (h : Hid (qt q = k)) (hq : Fit q) (w : World) : Calls Tryd.prog 36 #[.int .i64 q] w fun e w' => e = .returned (.int .i64 k) ∧ w = w' := by
  obtain ⟨q1, q2⟩ := hq
  have e := quarters_eq q
  rw [h.out] at e
  have h2 : -4 < q.tmod 4 ∧ q.tmod 4 < 4 := by
    have a := Int.tmod_lt_of_pos q (show (0 : Int) < 4 by omega)
    have b := Int.tmod_lt_of_pos (-q) (show (0 : Int) < 4 by omega)
    rw [Int.neg_tmod] at b
    omega
  obtain ⟨t1, t2⟩ := h2
  obtain ⟨m, hm⟩ : ∃ m, q.tmod 4 = m := ⟨_, rfl⟩
  rw [hm] at e t1 t2
  obtain ⟨s, hs⟩ : ∃ s, m + 4 = s := ⟨_, rfl⟩
  rw [hs] at e
  have hs0 : 0 ≤ s := by omega
  have hs8 : s ≤ 8 := by omega
  have e' : s % 4 = (k : Int) := by rw [← e, Int.tmod_eq_emod_of_nonneg hs0]
  go_enter Tryd.func36, Tryd.ntmps36
  go_wp2_with fail
  go_ret
  exact ⟨ret_int rfl, rfl⟩
/-- what the loop of Turned leaves: the point's box, the result's -/
structure TdI (q : P) (w : World) (k : Nat) (W : World) : Prop where
  b : BoxP W w.heap.size (rot q k)
  z : BoxP W (w.heap.size + 1) (0, 0)
  q : Q w W
theorem rot_fit {q : P} (h : Fit q.1 ∧ Fit q.2) (hn : ¬ q.1 = -9223372036854775808 ∧ ¬ q.2 = -9223372036854775808) : ∀ k, (-9223372036854775807 ≤ (rot q k).1 ∧ (rot q k).1 ≤ 9223372036854775807) ∧ -9223372036854775807 ≤ (rot q k).2 ∧ (rot q k).2 ≤ 9223372036854775807
  | 0 => by
    obtain ⟨⟨a, b⟩, c, d⟩ := h
    show (_ ≤ q.1 ∧ q.1 ≤ _) ∧ _ ≤ q.2 ∧ q.2 ≤ _
    omega
  | k + 1 => by
    have ih := rot_fit h hn k
    show (_ ≤ -(rot q k).2 ∧ -(rot q k).2 ≤ _) ∧ _ ≤ (rot q k).1 ∧ (rot q k).1 ≤ _
    omega
set_option maxRecDepth 100000 in
set_option maxHeartbeats 1600000 in
theorem rTurned_c (q : P) (n : Nat) (r : P) (h : Hid (rot q n = r)) (hn4 : n ≤ 3) (hf : Fit q.1 ∧ Fit q.2) (hn : ¬ q.1 = -9223372036854775808 ∧ ¬ q.2 = -9223372036854775808) (w : World) : Calls Tryd.prog 35 #[pv q, .int .i64 n] w fun e w' => e = .returned (pv r) ∧ Q w w' := by
  have HRF := Lib.hid (rot_fit hf hn)
  have hq0 := Lib.hid (show rot q 0 = q from rfl)
  obtain ⟨x, y⟩ := q
  unfold pv
  dsimp only
  clear hf hn
  go_enter Tryd.func35, Tryd.ntmps35
  go_wp2_with fail
  obtain ⟨V0, hV0⟩ : ∃ V, (w.alloc (.cells #[.int .i64 x, .int .i64 y] 38)).alloc (.cells #[.int .i64 0, .int .i64 0] 38) = V := ⟨_, rfl⟩
  have HI0 := Lib.hid (show TdI (x, y) w 0 V0 from ⟨by rw [hq0.out, ← hV0]; exact (BoxP.new w (x, y)).alloc _, by
    rw [← hV0]
    have := BoxP.new (w.alloc (.cells #[.int .i64 x, .int .i64 y] 38)) (0, 0)
    rw [World.size_alloc] at this
    exact this, by rw [← hV0]; exact ((Q.refl w).alloc _).alloc _⟩)
  rw [hV0]
  clear hV0
  go_loopw [5] (fun u wr => ∃ k : Nat, k ≤ n ∧ u = .int .i64 k ∧ Hid (TdI (x, y) w k wr)) (fun u _ => n - (intOf u).toNat)
  case atStart => exact ⟨0, Nat.zero_le _, rfl, HI0⟩
  case round =>
    obtain ⟨k, hk, rfl, HI⟩ := hrel
    by_cases hlt : k < n
    · have hb := HI.out.b
      have hst : rot (x, y) (k + 1) = (-(rot (x, y) k).2, (rot (x, y) k).1) := rfl
      have hrf := HRF.out k
      obtain ⟨⟨a, b⟩, hr⟩ : ∃ z, rot (x, y) k = z := ⟨_, rfl⟩
      rw [hr] at hb hst hrf
      dsimp only at hst hrf
      have HI1 := Lib.hid (show TdI (x, y) w (k + 1) ((wr.setCell ⟨w.heap.size, 0, none⟩ (.int .i64 (-b))).setCell ⟨w.heap.size, 1, none⟩ (.int .i64 a)) from
        ⟨by rw [hst]; exact (BoxP.set1 (hb.set0 (-b)) a : BoxP _ _ _), far_blk _ (far_blk _ HI.out.z (by omega)) (by omega), (HI.out.q.setA (Nat.le_refl _) _).setA (Nat.le_refl _) _⟩)
      have c0 := hb.c0
      have c1 := hb.c1
      have f0 := hb.f0
      have f1 := hb.f1
      have k1 := cell_far (u := .int .i64 (-b)) (show 0 ≠ 1 by omega) c1
      dsimp only at c0 c1 k1
      obtain ⟨⟨r1, r2⟩, r3, r4⟩ := hrf
      have nb : IntKind.i64.wrap (-b) = -b := IntWalk.i64_in _ (by omega)
      clear hb hst hr
      go_wp2_with fail
      go_roundw
      case rel => exact ⟨k + 1, by omega, by go_num, HI1⟩
      case measure => simp [intOf] <;> omega
    · obtain rfl : k = n := by omega
      have hb := HI.out.b
      have hz := HI.out.z
      have HQ := Lib.hid HI.out.q
      rw [h.out] at hb
      obtain ⟨r1, r2⟩ := r
      have c0 := hb.c0
      have c1 := hb.c1
      have z0 := hz.c0
      have z1 := hz.c1
      have f0 := hz.f0
      have f1 := hz.f1
      have k1 := cell_far (u := .int .i64 r1) (show 0 ≠ 1 by omega) z1
      have y0 := (BoxP.set1 (hz.set0 r1) r2 : BoxP _ _ _).c0
      have y1 := (BoxP.set1 (hz.set0 r1) r2 : BoxP _ _ _).c1
      dsimp only at c0 c1 y0 y1
      clear hb hz
      go_wp2_with fail
      refine bodyPost_ret (v := .agg #[.int .i64 r1, .int .i64 r2]) (by simp [results, Tryd.results35, go_sem, y0, y1]) rfl ⟨rfl, (HQ.out.setA (by omega) _).setA (by omega) _⟩
end Go.Proofs.YtlcgbeocdimboaaDoor
