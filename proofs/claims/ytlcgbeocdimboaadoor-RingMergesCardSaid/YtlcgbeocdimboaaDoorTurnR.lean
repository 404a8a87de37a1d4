/- The contract of Turn. -/
import Derived.Test.YtlcgbeocdimboaaDoorPoints
import Derived.Test.YtlcgbeocdimboaaDoorTurnF
import Derived.Test.YtlcgbeocdimboaaDoorCleanC
set_option linter.unusedVariables false
set_option linter.unusedSimpArgs false
namespace Go.Proofs.YtlcgbeocdimboaaDoor
open Go.ChangeShapes Go.WideShapes Go.ChangeAt Go.RowKit Go.Shelf Pm

def rotR (d : RD) (q : Nat) : RD := ⟨(rot (ptR d) q).1, (rot (ptR d) q).2, d.o⟩
def tuU (l : List RD) (q k : Nat) : List RD := (List.range l.length).map fun i => if i < k then rotR (gr l i) q else gr l i
/-- what Turn answers -/
def tuL (z : Int) (l : List RD) (q : Int) : List RD := if chkR z l = 0 then tuU l (qt q) l.length else l
theorem tuU_len (l : List RD) (q k : Nat) : (tuU l q k).length = l.length := by unfold tuU; simp
theorem tuU_at (l : List RD) (q k : Nat) {i : Nat} (h : i < l.length) : gr (tuU l q k) i = if i < k then rotR (gr l i) q else gr l i := by
  rw [gr_at (by rw [tuU_len]; exact h)]; unfold tuU; simp
theorem tuU_zero (l : List RD) (q : Nat) : tuU l q 0 = l := gr_ext (tuU_len _ _ _) fun i hi => by rw [tuU_len] at hi; rw [tuU_at _ _ _ hi, if_neg (by omega)]
theorem tuU_set {l : List RD} {q k : Nat} (hk : k < l.length) : tuU l q (k + 1) = (tuU l q k).set k (rotR (gr l k) q) := gr_ext (by rw [List.length_set, tuU_len, tuU_len]) fun i hi => by
  rw [tuU_len] at hi
  rw [tuU_at _ _ _ hi, gr_set (by rw [tuU_len]; exact hi), tuU_at _ _ _ hi]
  by_cases e : k = i
  · subst e; rw [if_pos (by omega), if_pos rfl]
  · rw [if_neg e]
    by_cases g : i < k
    · rw [if_pos (by omega), if_pos g]
    · rw [if_neg (by omega), if_neg g]
theorem pts_g {l : List RD} {i : Nat} (h : i < l.length) : g (ptsL l) i = ptR (gr l i) := by
  unfold ptsL
  rw [g_at (by rw [List.length_map]; exact h), List.getElem_map, gr_at h]
theorem negL_of {l : List P} (h : RL l) : negL l = true := allN_yes fun i hi => by
  obtain ⟨⟨a1, a2⟩, a3, a4⟩ := inP_yes (h (g l i) (by rw [g_at hi]; exact List.getElem_mem hi))
  unfold negP least; simp; omega
theorem ptsL_rl {l : List RD} (h : RdL l) : RL (ptsL l) := fun p hp => by
  obtain ⟨d, hd, rfl⟩ := List.mem_map.1 hp
  exact h d hd
theorem turn_pts {l : List RD} (h : RdL l) (q : Int) : turn (ptsL l) q = (ptsL l).map fun p => rot p (qt q) := by unfold turn; rw [if_pos (negL_of (ptsL_rl h))]
theorem turn_g {l : List RD} (h : RdL l) (q : Int) {i : Nat} (hi : i < l.length) : g (turn (ptsL l) q) i = rot (ptR (gr l i)) (qt q) := by
  rw [turn_pts h, g_at (by rw [List.length_map]; unfold ptsL; rw [List.length_map]; exact hi), List.getElem_map, ← g_at (by unfold ptsL; rw [List.length_map]; exact hi), pts_g hi]
theorem WrR.set2 {w : World} {b : Nat} {l : List RD} (h : WrR w b l) {i : Nat} (hi : i < l.length) (x y : Int) : WrR ((w.setCell ⟨b, i * 3, none⟩ (.int .i64 x)).setCell ⟨b, i * 3 + 1, none⟩ (.int .i64 y)) b (l.set i ⟨x, y, (gr l i).o⟩) := by
  have h1 := (WrC.set h (i * 3) (.int .i64 x)).set (i * 3 + 1) (.int .i64 y)
  unfold WrR; rw [cellsR_set l i _ hi]
  have e : (((cellsR l).set (i * 3) (.int .i64 x)).set (i * 3 + 1) (.int .i64 y))[i * 3 + 2]? = some (.bool (gr l i).o) := by
    rw [List.getElem?_set, if_neg (by omega), List.getElem?_set, if_neg (by omega), gr_at hi]; exact cellsR_at l i l[i] (List.getElem?_eq_getElem hi) 2 _ rfl
  obtain ⟨hlt, e2⟩ := List.getElem?_eq_some_iff.1 e
  dsimp only
  rw [← e2, List.set_getElem_self hlt]
  exact h1
set_option maxRecDepth 100000 in
set_option maxHeartbeats 3200000 in
theorem TurnR_c (z : Int) (v : Value) (l : List RD) (q : Int) (w : World) (hr : RdR w v l) (hl : l.length ≤ 1000000) (hq : Fit q) : Calls Tryd.prog 19 #[.agg #[.int .i64 z, v], .int .i64 q] w (SepPost z (tuL z l q) w) := by
  have HR := Lib.hid hr
  have HL := Lib.hid hl
  have HQ := Lib.hid hq
  have HSP := Lib.hid (fun W (h : Q w W) => separate_c z v l W (RdG.q hr h) hl)
  have HPT := Lib.hid (fun W (h : Q w W) => points_c v l W (RdG.q hr h) hl)
  obtain ⟨A, c, rfl, hc, _⟩ := hr
  obtain ⟨n, hn⟩ : ∃ n, l.length = n := ⟨_, rfl⟩
  have HN := Lib.hid hn
  rw [hn] at HR hc HSP HPT
  rw [hn]
  obtain ⟨W0, hW0⟩ : ∃ W, w.alloc (.cells #[.int .i64 z, .slice A n c] 24) = W := ⟨_, rfl⟩
  obtain ⟨W1, hW1⟩ : ∃ W, W0.alloc (.cells #[.int .i64 0, .slice none 0 0] 24) = W := ⟨_, rfl⟩
  have hs : w.heap.size < W0.heap.size := by rw [← hW0]; simp
  have hs1 : W0.heap.size < W1.heap.size := by rw [← hW1]; simp
  have Q00 := Lib.hid (show Q w W0 by rw [← hW0]; exact (Q.refl w).alloc _)
  have Q01 := Lib.hid (show Q W0 W1 by rw [← hW1]; exact (Q.refl W0).alloc _)
  have Q0 := Lib.hid (Q00.out.trans Q01.out)
  have HB := Lib.hid (show W1.heap[W0.heap.size]? = some (.cells #[.int .i64 0, .slice none 0 0] 24 (0, 0)) by rw [← hW1]; exact World.alloc_heap_new W0 _)
  have HY := Lib.hid (show ∀ W, Q W0 W → W.cell? ⟨w.heap.size, 0, none⟩ = some (.int .i64 z) ∧ W.cell? ⟨w.heap.size, 1, none⟩ = some (.slice A n c) from fun W h => ⟨(h.cell (p := ⟨w.heap.size, 0, none⟩) hs).trans (by rw [← hW0]; exact World.cell?_alloc_at _ _ _ _ rfl), (h.cell (p := ⟨w.heap.size, 1, none⟩) hs).trans (by rw [← hW0]; exact World.cell?_alloc_at _ _ _ _ rfl)⟩)
  obtain ⟨y0, y1⟩ := HY.out W1 Q01.out
  clear hn hl hc hq
  go_enter Tryd.func19, Tryd.ntmps19
  go_wp2_with fail
  refine (HSP.out _ Q0.out).mono ?_; rintro E w2 ⟨A2, c2, rfl, hc2⟩
  rw [HN.out] at hc2 ⊢
  have C2 := Lib.hid hc2
  obtain ⟨W3, hW3⟩ : ∃ W, w2.alloc (.cells #[.int .i64 z, .slice A2 n c2] 24) = W := ⟨_, rfl⟩
  have Q23 := Lib.hid (show Q w2 W3 by rw [← hW3]; exact (Q.refl w2).alloc _)
  have HBR := Lib.hid (show ∀ W, Q W1 W → W.cell? ⟨W0.heap.size, 0, none⟩ = some (.int .i64 0) ∧ W.cell? ⟨W0.heap.size, 1, none⟩ = some (.slice none 0 0) ∧ W.frozen? ⟨W0.heap.size, 0, none⟩ = false ∧ W.frozen? ⟨W0.heap.size, 1, none⟩ = false from fun W h => box_at ((h.block _ hs1).trans HB.out))
  have hs3 : w2.heap.size < W3.heap.size := by rw [← hW3]; simp
  have HBC := Lib.hid (show W3.heap[w2.heap.size]? = some (.cells #[.int .i64 z, .slice A2 n c2] 24 (0, 0)) by rw [← hW3]; exact World.alloc_heap_new w2 _)
  have HCC := Lib.hid (show ∀ W, Q W3 W → W.cell? ⟨w2.heap.size, 0, none⟩ = some (.int .i64 z) ∧ W.cell? ⟨w2.heap.size, 1, none⟩ = some (.slice A2 n c2) from fun W h => ⟨(box_at ((h.block _ hs3).trans HBC.out)).1, (box_at ((h.block _ hs3).trans HBC.out)).2.1⟩)
  have Q2 := Lib.hid (Q0.out.trans hc2.2.1)
  have Q3 := Lib.hid (Q2.out.trans Q23.out)
  have Q03 := Lib.hid ((Q01.out.trans hc2.2.1).trans Q23.out)
  have Q13 := Lib.hid (hc2.2.1.trans Q23.out)
  obtain ⟨y0b, y1b⟩ := HY.out W3 Q03.out
  clear hc2 y0 y1
  have hn6 : n ≤ 1000000 := by rw [← HN.out]; exact HL.out
  obtain ⟨e, he⟩ : ∃ e, chkR z l = e := ⟨_, rfl⟩
  have HCK := Lib.hid (Check_c z (.slice A n c) l e (Lib.hid he) W3 (RdG.q HR.out Q3.out) (by rw [HN.out]; unfold maxLen; omega))
  by_cases h3 : e = 0
  · subst h3
    have hok := chkR_ok.1 he
    have RDL := Lib.hid (show RdL l from fun d hd => ok_pt (hok.rd d hd))
    have HE := Lib.hid (show tuL z l q = tuU l (qt q) n by unfold tuL; rw [if_pos he, HN.out])
    obtain ⟨g, rfl, hgc, hg1, hg2, hgw⟩ := cl_form HN.out C2.out (by have := hok.n8; omega)
    go_wp2_with fail
    refine HCK.out.mono ?_; rintro E w5 ⟨rfl, hq5⟩
    have Q5 := Lib.hid hq5
    obtain ⟨y0d, y1d⟩ := HY.out w5 (Q03.out.trans hq5)
    clear hq5 y0b y1b
    go_wp2_with fail
    refine (HPT.out _ (Q3.out.trans Q5.out)).mono ?_; rintro E w6 ⟨A6, c6, rfl, hp6⟩

    have Q6 := Lib.hid (Q5.out.trans hp6.2.1)
    have hlp : (ptsL l).length = n := by unfold ptsL; rw [List.length_map, HN.out]
    have HT := Lib.hid (TurnF_c (.slice A6 n c6) (ptsL l) q w6 (by have := hp6.1; exact this) (by rw [hlp]; exact hn6) HQ.out (fun x hx => by obtain ⟨⟨a1, a2⟩, a3, a4⟩ := inP_yes (ptsL_rl RDL.out x hx); exact ⟨⟨by omega, by omega⟩, by omega, by omega⟩) (negL_of (ptsL_rl RDL.out)) (fun e => by rw [e] at hlp; have := hok.n8; rw [HN.out] at this; simp at hlp; omega))
    clear hp6 y0d y1d hlp
    go_wp2_with fail
    refine HT.out.mono ?_; rintro E w7 ⟨g7, m, c7, rfl, hr7, hq7, hg7⟩
    have R7 := Lib.hid hr7
    have HL7 := Lib.hid (show (turn (ptsL l) q).length = n by rw [turn_pts RDL.out, List.length_map]; unfold ptsL; rw [List.length_map, HN.out])
    obtain ⟨A', c', ev, hc7, _⟩ := hr7
    obtain ⟨rfl, rfl⟩ : m = n ∧ c7 = c' := by injection ev with e1 e2 e3; exact ⟨e2.trans HL7.out, e3⟩
    rw [HL7.out] at hc7
    clear ev
    have Q7 := Lib.hid (Q6.out.trans hq7)
    have WR7 := Lib.hid (hgw.q (Q23.out.trans Q7.out))
    have QW7 := Lib.hid (Q3.out.trans Q7.out)
    have hne : g7 ≠ g := by have := hgw.1; have := (Q23.out.trans Q6.out).size; omega
    have hz2 : W0.heap.size < w7.heap.size := Nat.lt_of_lt_of_le (by omega) (Q13.out.trans Q7.out).size
    have hz3 : w2.heap.size < w7.heap.size := Nat.lt_of_lt_of_le hs3 Q7.out.size
    have HF := Lib.hid (show ∀ W, w7.grownBy W (some g) → ((W.cell? ⟨w2.heap.size, 0, none⟩ = some (.int .i64 z) ∧ W.cell? ⟨w2.heap.size, 1, none⟩ = some (.slice (some ⟨g, 0, none⟩) m c2)) ∧ W.heap[W0.heap.size]? = some (.cells #[.int .i64 0, .slice none 0 0] 24 (0, 0))) ∧ Q w W from fun W hW => by
      have e2 := hW.block w2.heap.size hz3 (by intro e; injection e with e; omega)
      have e3 := hW.block W0.heap.size hz2 (by intro e; injection e with e; omega)
      have c3 := HCC.out w7 Q7.out
      exact ⟨⟨⟨(World.cell?_of_block (a := ⟨w2.heap.size, 0, none⟩) e2).trans c3.1, (World.cell?_of_block (a := ⟨w2.heap.size, 1, none⟩) e2).trans c3.2⟩, e3.trans (((Q13.out.trans Q7.out).block _ hs1).trans HB.out)⟩, Below.grown QW7.out hW (by omega) (fun j hj => by injection hj with hj; omega)⟩)
    have HP7 := Lib.hid (show ∀ W k, w7.grownBy W (some g) → k < m → W.cell? ⟨g7, k * 2, none⟩ = some (.int .i64 (rotR (gr l k) (qt q)).x) ∧ W.cell? ⟨g7, k * 2 + 1, none⟩ = some (.int .i64 (rotR (gr l k) (qt q)).y) from fun W k hW hk => by
      obtain ⟨b, off, eA, hb, _, c0, c1⟩ := RdP.at R7.out (Q.refl w7) (i := k) (by rw [HL7.out]; exact hk)
      obtain ⟨rfl, rfl⟩ : g7 = b ∧ 0 = off := by injection eA with eA; injection eA with e1 e2; exact ⟨e1, e2⟩
      have e := hW.block g7 hb (by intro e; injection e with e; omega)
      rw [turn_g RDL.out q (by rw [HN.out]; exact hk)] at c0 c1
      rw [Nat.zero_add] at c0 c1
      exact ⟨(World.cell?_of_block (a := ⟨g7, k * 2, none⟩) e).trans c0, (World.cell?_of_block (a := ⟨g7, k * 2 + 1, none⟩) e).trans c1⟩)
    have hb7 : g7 < w7.heap.size := by
      obtain ⟨b, off, eA, hb, _⟩ := RdP.at R7.out (Q.refl w7) (i := 0) (by rw [HL7.out]; have := hok.n8; rw [HN.out] at this; omega)
      injection eA with eA; injection eA with e1 e2; omega
    clear hq7 hg7 hok he hgw
    go_wp2_with fail
    go_loopw [20] (fun v20 wr => ∃ k : Nat, k ≤ m ∧ v20 = .int .i64 k ∧ Hid (w7.grownBy wr (some g) ∧ WrR wr g (tuU l (qt q) k))) (fun v20 _ => m - (intOf v20).toNat)
    case atStart => exact ⟨0, by omega, rfl, World.grownBy.refl _ _, by rw [tuU_zero]; exact WR7.out⟩
    case round =>
      obtain ⟨k, hk, rfl, HI⟩ := hrel
      obtain ⟨⟨⟨s2, s3⟩, s4⟩, s5⟩ := HF.out wr HI.out.1
      by_cases hlt : k < m
      · obtain ⟨c0, c1⟩ := HP7.out wr k HI.out.1 hlt
        have i5 : (k : Int) < (m : Int) := by omega
        have i6 : (0 : Int) ≤ (k : Int) := by omega
        obtain ⟨x, hx⟩ : ∃ x, (rotR (gr l k) (qt q)).x = x := ⟨_, rfl⟩
        obtain ⟨y, hy⟩ : ∃ y, (rotR (gr l k) (qt q)).y = y := ⟨_, rfl⟩
        rw [hx] at c0
        rw [hy] at c1
        have HXY := Lib.hid (And.intro hx hy)
        obtain ⟨o, ho⟩ : ∃ o, Obj.cells #[.int .i64 x, .int .i64 y] 38 (0, 0) = o := ⟨_, rfl⟩
        have HKL := Lib.hid (show k < l.length by rw [HN.out]; exact hlt)
        obtain ⟨⟨m0, m1, m2⟩, f0, f1, f2⟩ := HI.out.2.at (i := k) (by rw [tuU_len]; exact HKL.out)
        obtain ⟨u0, hu0⟩ : ∃ u, (gr (tuU l (qt q) k) k).x = u := ⟨_, rfl⟩
        obtain ⟨u1, hu1⟩ : ∃ u, (gr (tuU l (qt q) k) k).y = u := ⟨_, rfl⟩
        rw [hu0] at m0
        rw [hu1] at m1
        have hz3r : w2.heap.size < wr.heap.size := Nat.lt_of_lt_of_le hz3 HI.out.1.size
        have hgr : g < wr.heap.size := HI.out.2.1
        have a3 := old_row (.cells #[.int .i64 x, .int .i64 y] 38) hz3r s3
        have a0 := old_row (.cells #[.int .i64 x, .int .i64 y] 38) hgr m0
        have a1 := old_row (.cells #[.int .i64 x, .int .i64 y] 38) hgr m1
        have b0 := old_free (.cells #[.int .i64 x, .int .i64 y] 38) hgr f0
        have b1 := old_free (.cells #[.int .i64 x, .int .i64 y] 38) hgr f1
        have WS := Lib.hid ((HI.out.2.set2 (i := k) (by rw [tuU_len]; exact HKL.out) x y).q ((Q.refl _).alloc (.cells #[.int .i64 x, .int .i64 y] 38)))
        have HU := Lib.hid (show tuU l (qt q) (k + 1) = (tuU l (qt q) k).set k ⟨x, y, (gr (tuU l (qt q) k) k).o⟩ by
          rw [tuU_set HKL.out, tuU_at _ _ _ HKL.out, if_neg (Nat.lt_irrefl k), ← HXY.out.1, ← HXY.out.2]; rfl)
        clear hx hy ho hu0 hu1 s2 s4 m2 f2
        go_wp2_with fail
        exact ⟨⟨k + 1, by omega, by go_num, grown_trans (grown_trans (grown_trans HI.out.1 (grown_set _ _ _ _)) (grown_set _ _ _ _)) (grown_q ((Q.refl _).alloc _) _), by rw [HU.out]; exact WS.out⟩, by simp [intOf] <;> omega⟩
      · obtain rfl : k = m := by omega
        obtain ⟨r0, r1, f0, f1⟩ := box_at s4
        obtain ⟨g0, g1⟩ := sep_at s4 (.int .i64 z) (.slice (some ⟨g, 0, none⟩) k c2)
        have HLU := Lib.hid (show (tuU l (qt q) k).length = k by rw [tuU_len, HN.out])
        have WF := Lib.hid HI.out.2
        go_wp2_with fail
        refine bodyPost_ret (v := .agg #[.int .i64 z, .slice (some ⟨g, 0, none⟩) k c2]) (by simp [results, Tryd.results19, go_sem, g0, g1]) rfl ?_
        rw [HE.out]
        exact ⟨_, _, by rw [HLU.out], by rw [HLU.out]; exact sep_post2 HLU.out (WrR.rd WF.out HLU.out hgc) (fun _ => ⟨g, rfl, hgc, hg1, WF.out⟩) s5 (by omega) hs1⟩
  · have t3 : ((e : Int) == 0) = false := by simp; omega
    have t4 : ((e : Int) != 0) = true := by simp; omega
    have HE := Lib.hid (show tuL z l q = l by unfold tuL; rw [if_neg (by rw [he]; exact h3)])
    clear he
    go_wp2_with fail
    refine HCK.out.mono ?_; rintro E w5 ⟨rfl, hq5⟩
    have Q5 := Lib.hid hq5
    obtain ⟨r0, r1, f0, f1⟩ := HBR.out w5 (Q13.out.trans Q5.out)
    obtain ⟨k0, k1⟩ := HCC.out w5 Q5.out
    clear hq5
    have hf4 := Lib.hid (show 0 < l.length → ∃ g, A2 = some ⟨g, 0, none⟩ ∧ n ≤ c2 ∧ W1.heap.size ≤ g ∧ WrR w5 g l from fun h0 => by
      obtain ⟨g, e, p1, p2, p3, p4⟩ := cl_form HN.out C2.out h0
      exact ⟨g, e, p1, p2, p4.q (Q23.out.trans Q5.out)⟩)
    have hbx := Lib.hid (((Q13.out.trans Q5.out).block _ hs1).trans HB.out)
    obtain ⟨g0, g1⟩ := sep_at hbx.out (.int .i64 z) (.slice A2 n c2)
    go_wp2_with fail
    refine bodyPost_ret (v := .agg #[.int .i64 z, .slice A2 n c2]) (by simp [results, Tryd.results19, go_sem, g0, g1]) rfl ?_
    rw [HE.out]
    exact ⟨A2, c2, by rw [HN.out], by rw [HN.out]; exact sep_post2 HN.out (RdG.q C2.out.1 (Q23.out.trans Q5.out)) hf4.out (Q3.out.trans Q5.out) (by omega) hs1⟩
end Go.Proofs.YtlcgbeocdimboaaDoor
