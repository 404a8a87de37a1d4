/- The contract of between. -/
import Derived.Test.YtlcgbeocdimboaaDoorRepM
set_option linter.unusedVariables false
set_option linter.unusedSimpArgs false
namespace Go.Proofs.YtlcgbeocdimboaaDoor
open Go.ChangeShapes Go.WideShapes Go.ChangeAt Go.RowKit Go.Shelf Pm

theorem still_tailD {P : Program} {id : Nat} {Q : Exit → Act → World → Prop} {a : Act} {w : World} {l : List Oper} (n : Nat) (hm : P.follows .mixedOrders = true) (hB : Region.lexTailB .any l.toArray n = true)
    (h : wpStill P l.toArray w.drew (fun a' => wpList P l.toArray Q (l.drop n) a' w.drew) (l.take n) a) : (Code.region id l.toArray true).wp P Q a w := wp_region_still_tail n hm hB h
theorem far_cell {w : World} {b b' i j : Nat} {u v : Value} (h : b ≠ b') (hc : w.cell? ⟨b', j, none⟩ = some v) : (w.setCell ⟨b, i, none⟩ u).cell? ⟨b', j, none⟩ = some v := by
  rw [World.cell?_setCell_other]
  · exact hc
  · intro k; injection k with k; exact h k
theorem mulB_bd {u s : Int} (h1 : -60000 ≤ u) (h2 : u ≤ 60000) (h3 : 1 ≤ s) (h4 : s ≤ 32) : -10000000 ≤ u * s ∧ u * s ≤ 10000000 := by
  have a := Int.mul_le_mul_of_nonneg_right h2 (show 0 ≤ s by omega)
  have b := Int.mul_le_mul_of_nonneg_right h1 (show 0 ≤ s by omega)
  constructor <;> omega
theorem wrap_small {x : Int} (h1 : -10000000 ≤ x) (h2 : x ≤ 10000000) : IntKind.i64.wrap x = x := IntWalk.i64_in _ (by omega)
set_option maxRecDepth 100000 in
set_option maxHeartbeats 1600000 in
theorem between_c (a1 a2 a3 c1 c2 c3 : Int) (w : World) (h1 : -30000 ≤ a1 ∧ a1 ≤ 30000) (h2 : -30000 ≤ a2 ∧ a2 ≤ 30000) (h3 : 1 ≤ a3 ∧ a3 ≤ 32) (h4 : -30000 ≤ c1 ∧ c1 ≤ 30000) (h5 : -30000 ≤ c2 ∧ c2 ≤ 30000) (h6 : 1 ≤ c3 ∧ c3 ≤ 32) : Calls Tryd.prog 37 #[nbW (a1, a2, a3) (c1, c2, c3)] w fun e w' => e = .returned (.agg #[.int .i64 (btw (a1, a2, a3) (c1, c2, c3)).1, .int .i64 (btw (a1, a2, a3) (c1, c2, c3)).2]) ∧ Q w w' := by
  have B1 := mulB_bd (u := c1 - a1) (s := a3) (by omega) (by omega) h3.1 h3.2
  have B2 := mulB_bd (u := c2 - a2) (s := a3) (by omega) (by omega) h3.1 h3.2
  have P1 := wrap_small B1.1 B1.2
  have P2 := wrap_small B2.1 B2.2
  obtain ⟨x, hx⟩ : ∃ x, (c1 - a1) * a3 / (a3 + c3) = x := ⟨_, rfl⟩
  obtain ⟨y, hy⟩ : ∃ y, (c2 - a2) * a3 / (a3 + c3) = y := ⟨_, rfl⟩
  have F1 := Lib.hid (fun W => rgFloor_c ((c1 - a1) * a3) (a3 + c3) x (Lib.hid hx) (by omega) (by omega) B1.1 B1.2 W)
  have F2 := Lib.hid (fun W => rgFloor_c ((c2 - a2) * a3) (a3 + c3) y (Lib.hid hy) (by omega) (by omega) B2.1 B2.2 W)
  have X1 : -10000000 ≤ x ∧ x ≤ 10000000 := by
    rw [← hx]
    refine ⟨?_, ?_⟩
    · exact (Int.le_ediv_iff_mul_le (by omega)).2 (by omega)
    · exact Int.le_trans (Int.ediv_le_ediv (by omega) B1.2) (Int.ediv_le_self _ (by omega))
  have X2 : -10000000 ≤ y ∧ y ≤ 10000000 := by
    rw [← hy]
    refine ⟨?_, ?_⟩
    · exact (Int.le_ediv_iff_mul_le (by omega)).2 (by omega)
    · exact Int.le_trans (Int.ediv_le_ediv (by omega) B2.2) (Int.ediv_le_self _ (by omega))
  have G1 : IntKind.i64.wrap (c1 - a1) = c1 - a1 := IntWalk.i64_in _ (by omega)
  have G2 : IntKind.i64.wrap (c2 - a2) = c2 - a2 := IntWalk.i64_in _ (by omega)
  have e1 : IntKind.i64.wrap (IntKind.i64.wrap (c1 - a1) * a3) = (c1 - a1) * a3 := by rw [G1, P1]
  have e2 : IntKind.i64.wrap (IntKind.i64.wrap (c2 - a2) * a3) = (c2 - a2) * a3 := by rw [G2, P2]
  obtain ⟨m1, hm1⟩ : ∃ m, IntKind.i64.wrap (IntKind.i64.wrap (c1 - a1) * a3) = m := ⟨_, rfl⟩
  obtain ⟨m2, hm2⟩ : ∃ m, IntKind.i64.wrap (IntKind.i64.wrap (c2 - a2) * a3) = m := ⟨_, rfl⟩
  obtain ⟨fl, hfl⟩ : ∃ f : Int → Int, (fun n => n / (a3 + c3)) = f := ⟨_, rfl⟩
  have FB : ∀ n, n = m1 ∨ n = m2 → -10000000 ≤ n ∧ n ≤ 10000000 := by
    intro n hn
    rcases hn with e | e
    · rw [e, ← hm1, e1]; exact B1
    · rw [e, ← hm2, e2]; exact B2
  have FC := Lib.hid (show ∀ n W, n = m1 ∨ n = m2 → Calls Tryd.prog 45 #[.int .i64 n, .int .i64 (a3 + c3)] W fun e w' => e = .returned (.int .i64 (fl n)) ∧ W = w' from fun n W hn => rgFloor_c n (a3 + c3) (fl n) (Lib.hid (by rw [← hfl])) (by omega) (by omega) (FB n hn).1 (FB n hn).2 W)
  have FS := Lib.hid (show ∀ n W, n = m1 ∨ n = m2 → Calls Tryd.prog 45 #[.int .i64 n, .int .i64 (a3 + c3)] W fun e w' => e = .returned (.int .i64 (fl n)) ∧ w' = W from fun n W hn => (FC.out n W hn).mono fun e w' h => ⟨h.1, h.2.symm⟩)
  have L1 : fl m1 = x := by rw [← hfl, ← hm1, e1]; exact hx
  have L2 : fl m2 = y := by rw [← hfl, ← hm2, e2]; exact hy
  have J1 : IntKind.i64.wrap (a1 + x) = a1 + x := IntWalk.i64_in _ (by omega)
  have J2 : IntKind.i64.wrap (a2 + y) = a2 + y := IntWalk.i64_in _ (by omega)
  clear F1 F2 FB e1 e2 G1 G2 P1 P2 hfl
  unfold btw
  dsimp only
  rw [hx, hy]
  have Q0 := Lib.hid (Q.refl w)
  unfold nbW nbC
  clear hx hy B1 B2 X1 X2
  have n0 := nidx0 a1 a2 a3 c1 c2 c3
  have n1 := nidx1 a1 a2 a3 c1 c2 c3
  obtain ⟨W0, hW0⟩ : ∃ W, w.alloc (.cells #[.int .i64 a1, .int .i64 a2, .int .i64 a3, .int .i64 c1, .int .i64 c2, .int .i64 c3] 61) = W := ⟨_, rfl⟩
  have hs : w.heap.size < W0.heap.size := by rw [← hW0]; simp
  have y0 : W0.cell? ⟨w.heap.size, 0, none⟩ = some (.int .i64 a1) := by rw [← hW0]; exact World.cell?_alloc_at _ _ _ _ rfl
  have y1 : W0.cell? ⟨w.heap.size, 1, none⟩ = some (.int .i64 a2) := by rw [← hW0]; exact World.cell?_alloc_at _ _ _ _ rfl
  have y2 : W0.cell? ⟨w.heap.size, 2, none⟩ = some (.int .i64 a3) := by rw [← hW0]; exact World.cell?_alloc_at _ _ _ _ rfl
  have y3 : W0.cell? ⟨w.heap.size, 3, none⟩ = some (.int .i64 c1) := by rw [← hW0]; exact World.cell?_alloc_at _ _ _ _ rfl
  have y4 : W0.cell? ⟨w.heap.size, 4, none⟩ = some (.int .i64 c2) := by rw [← hW0]; exact World.cell?_alloc_at _ _ _ _ rfl
  have y5 : W0.cell? ⟨w.heap.size, 5, none⟩ = some (.int .i64 c3) := by rw [← hW0]; exact World.cell?_alloc_at _ _ _ _ rfl
  have HK := Lib.hid (show ∀ W, Q W0 W → Hid (Q W0 W) ∧ W.cell? ⟨w.heap.size, 0, none⟩ = some (.int .i64 a1) ∧ W.cell? ⟨w.heap.size, 1, none⟩ = some (.int .i64 a2) ∧ W.cell? ⟨w.heap.size, 2, none⟩ = some (.int .i64 a3) ∧ W.cell? ⟨w.heap.size, 3, none⟩ = some (.int .i64 c1) ∧ W.cell? ⟨w.heap.size, 4, none⟩ = some (.int .i64 c2) ∧ W.cell? ⟨w.heap.size, 5, none⟩ = some (.int .i64 c3) from fun W h => ⟨Lib.hid h, (h.cell (p := ⟨w.heap.size, 0, none⟩) hs).trans y0, (h.cell (p := ⟨w.heap.size, 1, none⟩) hs).trans y1, (h.cell (p := ⟨w.heap.size, 2, none⟩) hs).trans y2, (h.cell (p := ⟨w.heap.size, 3, none⟩) hs).trans y3, (h.cell (p := ⟨w.heap.size, 4, none⟩) hs).trans y4, (h.cell (p := ⟨w.heap.size, 5, none⟩) hs).trans y5⟩)
  obtain ⟨W1, hW1⟩ : ∃ W, W0.alloc (.cells #[.int .i64 0, .int .i64 0] 38) = W := ⟨_, rfl⟩
  have hs1 : W0.heap.size < W1.heap.size := by rw [← hW1]; simp
  have HB := Lib.hid (show W1.heap[W0.heap.size]? = some (.cells #[.int .i64 0, .int .i64 0] 38 (0, 0)) by rw [← hW1]; exact World.alloc_heap_new W0 _)
  have HBX := Lib.hid (show ∀ W, Q W1 W → W.cell? ⟨W0.heap.size, 0, none⟩ = some (.int .i64 0) ∧ W.cell? ⟨W0.heap.size, 1, none⟩ = some (.int .i64 0) ∧ W.frozen? ⟨W0.heap.size, 0, none⟩ = false ∧ W.frozen? ⟨W0.heap.size, 1, none⟩ = false from fun W h => box_at ((h.block _ hs1).trans HB.out))
  have QA := Lib.hid (show Q w W0 by rw [← hW0]; exact (Q.refl w).alloc _)
  have Q01 := Lib.hid (show Q W0 W1 by rw [← hW1]; exact (Q.refl W0).alloc _)
  go_enter Tryd.func37, Tryd.ntmps37
  go_wp2_with fail
  go_region_held3 (fun W => Hid (Q W0 W) ∧ W.cell? ⟨w.heap.size, 0, none⟩ = some (.int .i64 a1) ∧ W.cell? ⟨w.heap.size, 1, none⟩ = some (.int .i64 a2) ∧ W.cell? ⟨w.heap.size, 2, none⟩ = some (.int .i64 a3) ∧ W.cell? ⟨w.heap.size, 3, none⟩ = some (.int .i64 c1) ∧ W.cell? ⟨w.heap.size, 4, none⟩ = some (.int .i64 c2) ∧ W.cell? ⟨w.heap.size, 5, none⟩ = some (.int .i64 c3)) (first | exact HK.out _ Q01.out.drew | exact HK.out _ (Q01.out.drew.alloc _) | exact HK.out _ ((Q01.out.drew.alloc _).alloc _)) (fail)
  · obtain ⟨V1, hV1⟩ : ∃ W, W1.alloc (Obj.cells #[.int .i64 a1, .int .i64 a2, .int .i64 a3] 60) = W := ⟨_, rfl⟩
    obtain ⟨V2, hV2⟩ : ∃ W, V1.alloc (Obj.cells #[.int .i64 c1, .int .i64 c2, .int .i64 c3] 60) = W := ⟨_, rfl⟩
    rw [hV1, hV2]
    have z1 : V1.heap.size = W1.heap.size + 1 := by rw [← hV1]; simp
    have z2 : V2.heap.size = W1.heap.size + 2 := by rw [← hV2]; simp [z1]
    have Q12 : Q V1 V2 := by rw [← hV2]; exact (Q.refl V1).alloc _
    have QW2 := Lib.hid (show Q W1 V2 by rw [← hV2, ← hV1]; exact ((Q.refl W1).alloc _).alloc _)
    have u0 : V2.cell? ⟨W1.heap.size, 0, none⟩ = some (.int .i64 a1) := (Q12.cell (p := ⟨W1.heap.size, 0, none⟩) (by show W1.heap.size < V1.heap.size; omega)).trans (by rw [← hV1]; exact World.cell?_alloc_at _ _ _ _ rfl)
    have v0 : V2.cell? ⟨W1.heap.size + 1, 0, none⟩ = some (.int .i64 c1) := by rw [← z1, ← hV2]; exact World.cell?_alloc_at _ _ _ _ rfl
    have u1 : V2.cell? ⟨W1.heap.size, 1, none⟩ = some (.int .i64 a2) := (Q12.cell (p := ⟨W1.heap.size, 1, none⟩) (by show W1.heap.size < V1.heap.size; omega)).trans (by rw [← hV1]; exact World.cell?_alloc_at _ _ _ _ rfl)
    have v1 : V2.cell? ⟨W1.heap.size + 1, 1, none⟩ = some (.int .i64 c2) := by rw [← z1, ← hV2]; exact World.cell?_alloc_at _ _ _ _ rfl
    have u2 : V2.cell? ⟨W1.heap.size, 2, none⟩ = some (.int .i64 a3) := (Q12.cell (p := ⟨W1.heap.size, 2, none⟩) (by show W1.heap.size < V1.heap.size; omega)).trans (by rw [← hV1]; exact World.cell?_alloc_at _ _ _ _ rfl)
    have v2 : V2.cell? ⟨W1.heap.size + 1, 2, none⟩ = some (.int .i64 c3) := by rw [← z1, ← hV2]; exact World.cell?_alloc_at _ _ _ _ rfl
    have K0 := Lib.hid (show ∀ W, Q V2 W → W.cell? ⟨W1.heap.size, 0, none⟩ = some (.int .i64 a1) ∧ W.cell? ⟨W1.heap.size, 1, none⟩ = some (.int .i64 a2) ∧ W.cell? ⟨W1.heap.size, 2, none⟩ = some (.int .i64 a3) ∧ W.cell? ⟨W1.heap.size + 1, 0, none⟩ = some (.int .i64 c1) ∧ W.cell? ⟨W1.heap.size + 1, 1, none⟩ = some (.int .i64 c2) ∧ W.cell? ⟨W1.heap.size + 1, 2, none⟩ = some (.int .i64 c3) from fun W h => ⟨(h.cell (p := ⟨W1.heap.size, 0, none⟩) (show W1.heap.size < V2.heap.size by omega)).trans u0, (h.cell (p := ⟨W1.heap.size, 1, none⟩) (show W1.heap.size < V2.heap.size by omega)).trans u1, (h.cell (p := ⟨W1.heap.size, 2, none⟩) (show W1.heap.size < V2.heap.size by omega)).trans u2, (h.cell (p := ⟨W1.heap.size + 1, 0, none⟩) (show W1.heap.size + 1 < V2.heap.size by omega)).trans v0, (h.cell (p := ⟨W1.heap.size + 1, 1, none⟩) (show W1.heap.size + 1 < V2.heap.size by omega)).trans v1, (h.cell (p := ⟨W1.heap.size + 1, 2, none⟩) (show W1.heap.size + 1 < V2.heap.size by omega)).trans v2⟩)
    have K1 := Lib.hid (show ∀ (W : World) (u v : Value), (W.cell? ⟨W1.heap.size, 0, none⟩ = some (.int .i64 a1) ∧ W.cell? ⟨W1.heap.size, 1, none⟩ = some (.int .i64 a2) ∧ W.cell? ⟨W1.heap.size, 2, none⟩ = some (.int .i64 a3) ∧ W.cell? ⟨W1.heap.size + 1, 0, none⟩ = some (.int .i64 c1) ∧ W.cell? ⟨W1.heap.size + 1, 1, none⟩ = some (.int .i64 c2) ∧ W.cell? ⟨W1.heap.size + 1, 2, none⟩ = some (.int .i64 c3)) → (fun W : World => W.cell? ⟨W1.heap.size, 0, none⟩ = some (.int .i64 a1) ∧ W.cell? ⟨W1.heap.size, 1, none⟩ = some (.int .i64 a2) ∧ W.cell? ⟨W1.heap.size, 2, none⟩ = some (.int .i64 a3) ∧ W.cell? ⟨W1.heap.size + 1, 0, none⟩ = some (.int .i64 c1) ∧ W.cell? ⟨W1.heap.size + 1, 1, none⟩ = some (.int .i64 c2) ∧ W.cell? ⟨W1.heap.size + 1, 2, none⟩ = some (.int .i64 c3)) ((W.setCell ⟨W0.heap.size, 0, none⟩ u).setCell ⟨W0.heap.size, 1, none⟩ v) from fun W u v ⟨q0, q1, q2, q3, q4, q5⟩ => ⟨far_cell (by omega) (far_cell (by omega) q0), far_cell (by omega) (far_cell (by omega) q1), far_cell (by omega) (far_cell (by omega) q2), far_cell (by omega) (far_cell (by omega) q3), far_cell (by omega) (far_cell (by omega) q4), far_cell (by omega) (far_cell (by omega) q5)⟩)
    clear u0 u1 u2 v0 v1 v2 Q12
    obtain ⟨k0, k1, k2, k3, k4, k5⟩ := K0.out V2.drew ((Q.refl V2).drew)
    go_wp2_with fail
    have HBV := Lib.hid ((QW2.out.block _ hs1).trans HB.out)
    obtain ⟨x0', x1', f0', f1'⟩ := HBX.out V2 QW2.out
    refine still_tailD 33 (by kernel_rfl) (by kernel_rfl) ?_
    simp only [List.take_succ_cons, List.take_zero, List.drop_succ_cons, List.drop_zero]
    repeat still_step
    still_call (FS.out _ _ (.inl rfl))
    repeat still_step
    still_call (FS.out _ _ (.inr rfl))
    repeat still_step
    refine wpStill_nil ?_
    go_wp2_with fail
    obtain ⟨g0, g1⟩ := sep_at HBV.out (.int .i64 (a1 + x)) (.int .i64 (a2 + y))
    exact bodyPost_ret (v := .agg #[.int .i64 (a1 + x), .int .i64 (a2 + y)]) (by simp [results, Tryd.results37, go_sem, g0, g1]) rfl ⟨rfl, ((((QA.out.trans Q01.out).trans QW2.out).setA (Nat.le_of_lt hs) _).setA (Nat.le_of_lt hs) _).drew.drew⟩
  · obtain ⟨V1, hV1⟩ : ∃ W, W1.alloc (Obj.cells #[.int .i64 c1, .int .i64 c2, .int .i64 c3] 60) = W := ⟨_, rfl⟩
    obtain ⟨V2, hV2⟩ : ∃ W, V1.alloc (Obj.cells #[.int .i64 a1, .int .i64 a2, .int .i64 a3] 60) = W := ⟨_, rfl⟩
    rw [hV1, hV2]
    have z1 : V1.heap.size = W1.heap.size + 1 := by rw [← hV1]; simp
    have z2 : V2.heap.size = W1.heap.size + 2 := by rw [← hV2]; simp [z1]
    have Q12 : Q V1 V2 := by rw [← hV2]; exact (Q.refl V1).alloc _
    have QW2 := Lib.hid (show Q W1 V2 by rw [← hV2, ← hV1]; exact ((Q.refl W1).alloc _).alloc _)
    have u0 : V2.cell? ⟨W1.heap.size, 0, none⟩ = some (.int .i64 c1) := (Q12.cell (p := ⟨W1.heap.size, 0, none⟩) (by show W1.heap.size < V1.heap.size; omega)).trans (by rw [← hV1]; exact World.cell?_alloc_at _ _ _ _ rfl)
    have v0 : V2.cell? ⟨W1.heap.size + 1, 0, none⟩ = some (.int .i64 a1) := by rw [← z1, ← hV2]; exact World.cell?_alloc_at _ _ _ _ rfl
    have u1 : V2.cell? ⟨W1.heap.size, 1, none⟩ = some (.int .i64 c2) := (Q12.cell (p := ⟨W1.heap.size, 1, none⟩) (by show W1.heap.size < V1.heap.size; omega)).trans (by rw [← hV1]; exact World.cell?_alloc_at _ _ _ _ rfl)
    have v1 : V2.cell? ⟨W1.heap.size + 1, 1, none⟩ = some (.int .i64 a2) := by rw [← z1, ← hV2]; exact World.cell?_alloc_at _ _ _ _ rfl
    have u2 : V2.cell? ⟨W1.heap.size, 2, none⟩ = some (.int .i64 c3) := (Q12.cell (p := ⟨W1.heap.size, 2, none⟩) (by show W1.heap.size < V1.heap.size; omega)).trans (by rw [← hV1]; exact World.cell?_alloc_at _ _ _ _ rfl)
    have v2 : V2.cell? ⟨W1.heap.size + 1, 2, none⟩ = some (.int .i64 a3) := by rw [← z1, ← hV2]; exact World.cell?_alloc_at _ _ _ _ rfl
    have K0 := Lib.hid (show ∀ W, Q V2 W → W.cell? ⟨W1.heap.size + 1, 0, none⟩ = some (.int .i64 a1) ∧ W.cell? ⟨W1.heap.size + 1, 1, none⟩ = some (.int .i64 a2) ∧ W.cell? ⟨W1.heap.size + 1, 2, none⟩ = some (.int .i64 a3) ∧ W.cell? ⟨W1.heap.size, 0, none⟩ = some (.int .i64 c1) ∧ W.cell? ⟨W1.heap.size, 1, none⟩ = some (.int .i64 c2) ∧ W.cell? ⟨W1.heap.size, 2, none⟩ = some (.int .i64 c3) from fun W h => ⟨(h.cell (p := ⟨W1.heap.size + 1, 0, none⟩) (show W1.heap.size + 1 < V2.heap.size by omega)).trans v0, (h.cell (p := ⟨W1.heap.size + 1, 1, none⟩) (show W1.heap.size + 1 < V2.heap.size by omega)).trans v1, (h.cell (p := ⟨W1.heap.size + 1, 2, none⟩) (show W1.heap.size + 1 < V2.heap.size by omega)).trans v2, (h.cell (p := ⟨W1.heap.size, 0, none⟩) (show W1.heap.size < V2.heap.size by omega)).trans u0, (h.cell (p := ⟨W1.heap.size, 1, none⟩) (show W1.heap.size < V2.heap.size by omega)).trans u1, (h.cell (p := ⟨W1.heap.size, 2, none⟩) (show W1.heap.size < V2.heap.size by omega)).trans u2⟩)
    have K1 := Lib.hid (show ∀ (W : World) (u v : Value), (W.cell? ⟨W1.heap.size + 1, 0, none⟩ = some (.int .i64 a1) ∧ W.cell? ⟨W1.heap.size + 1, 1, none⟩ = some (.int .i64 a2) ∧ W.cell? ⟨W1.heap.size + 1, 2, none⟩ = some (.int .i64 a3) ∧ W.cell? ⟨W1.heap.size, 0, none⟩ = some (.int .i64 c1) ∧ W.cell? ⟨W1.heap.size, 1, none⟩ = some (.int .i64 c2) ∧ W.cell? ⟨W1.heap.size, 2, none⟩ = some (.int .i64 c3)) → (fun W : World => W.cell? ⟨W1.heap.size + 1, 0, none⟩ = some (.int .i64 a1) ∧ W.cell? ⟨W1.heap.size + 1, 1, none⟩ = some (.int .i64 a2) ∧ W.cell? ⟨W1.heap.size + 1, 2, none⟩ = some (.int .i64 a3) ∧ W.cell? ⟨W1.heap.size, 0, none⟩ = some (.int .i64 c1) ∧ W.cell? ⟨W1.heap.size, 1, none⟩ = some (.int .i64 c2) ∧ W.cell? ⟨W1.heap.size, 2, none⟩ = some (.int .i64 c3)) ((W.setCell ⟨W0.heap.size, 0, none⟩ u).setCell ⟨W0.heap.size, 1, none⟩ v) from fun W u v ⟨q0, q1, q2, q3, q4, q5⟩ => ⟨far_cell (by omega) (far_cell (by omega) q0), far_cell (by omega) (far_cell (by omega) q1), far_cell (by omega) (far_cell (by omega) q2), far_cell (by omega) (far_cell (by omega) q3), far_cell (by omega) (far_cell (by omega) q4), far_cell (by omega) (far_cell (by omega) q5)⟩)
    clear u0 u1 u2 v0 v1 v2 Q12
    obtain ⟨k0, k1, k2, k3, k4, k5⟩ := K0.out V2.drew ((Q.refl V2).drew)
    go_wp2_with fail
    have HBV := Lib.hid ((QW2.out.block _ hs1).trans HB.out)
    obtain ⟨x0', x1', f0', f1'⟩ := HBX.out V2 QW2.out
    refine still_tailD 33 (by kernel_rfl) (by kernel_rfl) ?_
    simp only [List.take_succ_cons, List.take_zero, List.drop_succ_cons, List.drop_zero]
    repeat still_step
    still_call (FS.out _ _ (.inl rfl))
    repeat still_step
    still_call (FS.out _ _ (.inr rfl))
    repeat still_step
    refine wpStill_nil ?_
    go_wp2_with fail
    obtain ⟨g0, g1⟩ := sep_at HBV.out (.int .i64 (a1 + x)) (.int .i64 (a2 + y))
    exact bodyPost_ret (v := .agg #[.int .i64 (a1 + x), .int .i64 (a2 + y)]) (by simp [results, Tryd.results37, go_sem, g0, g1]) rfl ⟨rfl, ((((QA.out.trans Q01.out).trans QW2.out).setA (Nat.le_of_lt hs) _).setA (Nat.le_of_lt hs) _).drew.drew⟩
end Go.Proofs.YtlcgbeocdimboaaDoor
