/- The contract of Clean. -/
import Derived.Test.YtlcgbeocdimboaaDoorClean
set_option linter.unusedVariables false
set_option linter.unusedSimpArgs false
namespace Go.Proofs.YtlcgbeocdimboaaDoor
open Go.ChangeShapes Go.WideShapes Go.ChangeAt Go.RowKit Go.Shelf Pm

theorem grown_q {w w' : World} (h : Q w w') (r : Option Nat) : w.grownBy w' r := ⟨h.os, h.tape, h.output, h.size, fun k hk _ => h.block k hk⟩
theorem sep_post2 {l2 : List RD} {n c2 : Nat} {A2 : Option Addr} {w W0 W1 w4 : World} {x y : Value} (hn : l2.length = n) (hr : RdR w4 (.slice A2 n c2) l2) (hg : 0 < l2.length → ∃ g, A2 = some ⟨g, 0, none⟩ ∧ n ≤ c2 ∧ W1.heap.size ≤ g ∧ WrR w4 g l2) (q4 : Q w w4) (hs : w.heap.size ≤ W0.heap.size) (hs1 : W0.heap.size < W1.heap.size) : ClP l2 w (.slice A2 n c2) ((w4.setCell ⟨W0.heap.size, 0, none⟩ x).setCell ⟨W0.heap.size, 1, none⟩ y) := by
  have hq : Q w ((w4.setCell ⟨W0.heap.size, 0, none⟩ x).setCell ⟨W0.heap.size, 1, none⟩ y) := (q4.setA hs _).setA hs _
  subst hn
  by_cases h0 : 0 < l2.length
  · obtain ⟨g, rfl, h1, h3, h4⟩ := hg h0
    have hne : W0.heap.size ≠ g := by omega
    have hw := WrC.far (i := 1) y (WrC.far (i := 0) x h4 hne) hne
    exact ⟨WrR.rd hw rfl h1, hq, fun _ => ⟨g, c2, rfl, h1, by omega, hw⟩⟩
  · have hl : l2 = [] := List.eq_nil_of_length_eq_zero (by omega)
    subst hl
    exact ⟨⟨A2, c2, rfl, Nat.zero_le _, fun h => absurd h (by simp)⟩, hq, fun h => absurd h (by simp)⟩
theorem cl_form {l : List RD} {n c2 : Nat} {A2 : Option Addr} {w w2 : World} (hn : l.length = n) (h : ClP l w (.slice A2 n c2) w2) : 0 < l.length → ∃ g, A2 = some ⟨g, 0, none⟩ ∧ n ≤ c2 ∧ w.heap.size ≤ g ∧ g < w2.heap.size ∧ WrR w2 g l := fun h0 => by
  obtain ⟨g, cap, e, h1, h3, h4⟩ := h.2.2 h0
  injection e with e1 e2 e3
  subst e1 e3
  exact ⟨g, rfl, by omega, h3, h4.1, h4⟩
set_option maxRecDepth 100000 in
set_option maxHeartbeats 3200000 in
theorem Clean_c (z : Int) (v : Value) (l : List RD) (lim : Int) (w : World) (hr : RdR w v l) (hl : l.length ≤ 1000000) (hD : Dir w) : Calls Tryd.prog 17 #[.agg #[.int .i64 z, v], .int .i64 lim] w (SepPost z (clnL z l lim) w) := by
  have HR := Lib.hid hr
  have HL := Lib.hid hl
  have HSP := Lib.hid (fun W (h : Q w W) => separate_c z v l W (RdG.q hr h) hl)
  have HGP := Lib.hid (fun W (h : Q w W) => Gaps_c z v l _ _ (Lib.hid rfl) (Lib.hid rfl) W (RdG.q hr h) hl)
  obtain ⟨A, c, rfl, hc, _⟩ := hr
  obtain ⟨n, hn⟩ : ∃ n, l.length = n := ⟨_, rfl⟩
  have HN := Lib.hid hn
  rw [hn] at HR hc HSP HGP
  rw [hn]
  obtain ⟨W0, hW0⟩ : ∃ W, w.alloc (.cells #[.int .i64 z, .slice A n c] 24) = W := ⟨_, rfl⟩
  obtain ⟨W1, hW1⟩ : ∃ W, W0.alloc (.cells #[.int .i64 0, .slice none 0 0] 24) = W := ⟨_, rfl⟩
  have hs : w.heap.size < W0.heap.size := by rw [← hW0]; simp
  have hs1 : W0.heap.size < W1.heap.size := by rw [← hW1]; simp
  have Q00 := Lib.hid (show Q w W0 by rw [← hW0]; exact (Q.refl w).alloc _)
  have Q01 := Lib.hid (show Q W0 W1 by rw [← hW1]; exact (Q.refl W0).alloc _)
  have Q0 := Lib.hid (Q00.out.trans Q01.out)
  have HB := Lib.hid (show W1.heap[W0.heap.size]? = some (.cells #[.int .i64 0, .slice none 0 0] 24 (0, 0)) by rw [← hW1]; exact World.alloc_heap_new W0 _)
  have HY := Lib.hid (show ∀ W, Q W0 W → W.cell? ⟨w.heap.size, 0, none⟩ = some (.int .i64 z) ∧ W.cell? ⟨w.heap.size, 1, none⟩ = some (.slice A n c) from fun W h => ⟨(h.cell (p := ⟨w.heap.size, 0, none⟩) hs).trans (by rw [← hW0]; exact World.cell?_alloc_at _ _ _ _ rfl), (h.cell (p := ⟨w.heap.size, 1, none⟩) hs).trans (by rw [← hW0]; exact World.cell?_alloc_at _ _ _ _ rfl)⟩)
  obtain ⟨y0, y1⟩ := HY.out W1 Q01.out
  clear hn hl hc
  go_enter Tryd.func17, Tryd.ntmps17
  go_wp2_with fail
  refine (HSP.out _ Q0.out).mono ?_; rintro E w2 ⟨A2, c2, rfl, hc2⟩
  rw [HN.out] at hc2 ⊢
  have C2 := Lib.hid hc2
  obtain ⟨W3, hW3⟩ : ∃ W, w2.alloc (.cells #[.int .i64 z, .slice A2 n c2] 24) = W := ⟨_, rfl⟩
  have Q23 := Lib.hid (show Q w2 W3 by rw [← hW3]; exact (Q.refl w2).alloc _)
  have HBR := Lib.hid (show ∀ W, Q W1 W → W.cell? ⟨W0.heap.size, 0, none⟩ = some (.int .i64 0) ∧ W.cell? ⟨W0.heap.size, 1, none⟩ = some (.slice none 0 0) ∧ W.frozen? ⟨W0.heap.size, 0, none⟩ = false ∧ W.frozen? ⟨W0.heap.size, 1, none⟩ = false from fun W h => box_at ((h.block _ hs1).trans HB.out))
  have hs3 : w2.heap.size < W3.heap.size := by rw [← hW3]; simp
  have HBC := Lib.hid (show W3.heap[w2.heap.size]? = some (.cells #[.int .i64 z, .slice A2 n c2] 24 (0, 0)) by rw [← hW3]; exact World.alloc_heap_new w2 _)
  have HCC := Lib.hid (show ∀ W, Q W3 W → W.cell? ⟨w2.heap.size, 0, none⟩ = some (.int .i64 z) ∧ W.cell? ⟨w2.heap.size, 1, none⟩ = some (.slice A2 n c2) from fun W h => ⟨(box_at ((h.block _ hs3).trans HBC.out)).1, (box_at ((h.block _ hs3).trans HBC.out)).2.1⟩)
  have Q2 := Lib.hid (Q0.out.trans hc2.2.1)
  have Q3 := Lib.hid (Q2.out.trans Q23.out)
  have Q03 := Lib.hid ((Q01.out.trans hc2.2.1).trans Q23.out)
  have Q13 := Lib.hid (hc2.2.1.trans Q23.out)
  obtain ⟨y0b, y1b⟩ := HY.out W3 Q03.out
  clear hc2 y0 y1
  go_wp2_with fail
  refine (HGP.out _ Q3.out).mono ?_; rintro E w4 ⟨rfl, hq4⟩
  have Q4 := Lib.hid hq4
  obtain ⟨y0c, y1c⟩ := HY.out w4 (Q03.out.trans hq4)
  obtain ⟨r0, r1, f0, f1⟩ := HBR.out w4 (Q13.out.trans hq4)
  obtain ⟨k0, k1⟩ := HCC.out w4 hq4
  clear hq4 y0b y1b
  obtain ⟨G, hG⟩ : ∃ G, gN l = G := ⟨_, rfl⟩
  obtain ⟨M, hM⟩ : ∃ M, gL l = M := ⟨_, rfl⟩
  have HG := Lib.hid hG
  have hGn : G ≤ n := by rw [← hG, ← HN.out]; exact gN_le l
  have hn6 : n ≤ 1000000 := by rw [← HN.out]; exact HL.out
  rw [hG, hM]
  clear hG hM
  by_cases h1 : lim < 0
  · have t1 : decide (lim < 0) = true := decide_eq_true h1
    have HE := Lib.hid (show clnL z l lim = l by unfold clnL; rw [if_pos (.inl h1)])
    have hf4 := Lib.hid (show 0 < l.length → ∃ g, A2 = some ⟨g, 0, none⟩ ∧ n ≤ c2 ∧ W1.heap.size ≤ g ∧ WrR w4 g l from fun h0 => by
      obtain ⟨g, e, p1, p2, p3, p4⟩ := cl_form HN.out C2.out h0
      exact ⟨g, e, p1, p2, p4.q (Q23.out.trans Q4.out)⟩)
    have hbx := Lib.hid (((Q13.out.trans Q4.out).block _ hs1).trans HB.out)
    obtain ⟨g0, g1⟩ := sep_at hbx.out (.int .i64 z) (.slice A2 n c2)
    go_wp2_with fail
    refine bodyPost_ret (v := .agg #[.int .i64 z, .slice A2 n c2]) (by simp [results, Tryd.results17, go_sem, g0, g1]) rfl ?_
    rw [HE.out]
    exact ⟨A2, c2, by rw [HN.out], by rw [HN.out]; exact sep_post2 HN.out (RdG.q C2.out.1 (Q23.out.trans Q4.out)) hf4.out (Q3.out.trans Q4.out) (by omega) hs1⟩
  · have t1 : decide (lim < 0) = false := decide_eq_false h1
    by_cases h2 : n - G < 2
    · have t2 : decide ((n : Int) - (G : Int) < 2) = true := decide_eq_true (by omega)
      have HE := Lib.hid (show clnL z l lim = l by unfold clnL; rw [if_pos (.inr (.inl (by rw [HN.out, HG.out]; exact h2)))])
      have hf4 := Lib.hid (show 0 < l.length → ∃ g, A2 = some ⟨g, 0, none⟩ ∧ n ≤ c2 ∧ W1.heap.size ≤ g ∧ WrR w4 g l from fun h0 => by
        obtain ⟨g, e, p1, p2, p3, p4⟩ := cl_form HN.out C2.out h0
        exact ⟨g, e, p1, p2, p4.q (Q23.out.trans Q4.out)⟩)
      have hbx := Lib.hid (((Q13.out.trans Q4.out).block _ hs1).trans HB.out)
      obtain ⟨g0, g1⟩ := sep_at hbx.out (.int .i64 z) (.slice A2 n c2)
      go_wp2_with fail
      refine bodyPost_ret (v := .agg #[.int .i64 z, .slice A2 n c2]) (by simp [results, Tryd.results17, go_sem, g0, g1]) rfl ?_
      rw [HE.out]
      exact ⟨A2, c2, by rw [HN.out], by rw [HN.out]; exact sep_post2 HN.out (RdG.q C2.out.1 (Q23.out.trans Q4.out)) hf4.out (Q3.out.trans Q4.out) (by omega) hs1⟩
    · have t2 : decide ((n : Int) - (G : Int) < 2) = false := decide_eq_false (by omega)
      obtain ⟨e, he⟩ : ∃ e, chkR z l = e := ⟨_, rfl⟩
      have HCK := Lib.hid (Check_c z (.slice A n c) l e (Lib.hid he) w4 (RdG.q HR.out (Q3.out.trans Q4.out)) (by rw [HN.out]; unfold maxLen; omega))
      by_cases h3 : e = 0
      · subst h3
        have hok := chkR_ok.1 he
        have RDL := Lib.hid (show RdL l from fun d hd => ok_pt (hok.rd d hd))
        have HE := Lib.hid (show clnL z l lim = clU l lim n by unfold clnL; rw [if_neg (by rintro (k | k | k) <;> first | exact h1 k | (rw [HN.out, HG.out] at k; exact h2 k) | exact k he), HN.out])
        obtain ⟨g, rfl, hgc, hg1, hg2, hgw⟩ := cl_form HN.out C2.out (by have := hok.n8; omega)
        go_wp2_with fail
        refine HCK.out.mono ?_; rintro E w5 ⟨rfl, hq5⟩
        have Q5 := Lib.hid (Q4.out.trans hq5)
        have WR5 := Lib.hid (hgw.q (Q23.out.trans Q5.out))
        obtain ⟨y0d, y1d⟩ := HY.out w5 (Q03.out.trans Q5.out)
        have QW5 := Lib.hid (Q3.out.trans Q5.out)
        have hz1 : w.heap.size < w5.heap.size := Nat.lt_of_lt_of_le (by omega) (Q03.out.trans Q5.out).size
        have hz2 : W0.heap.size < w5.heap.size := Nat.lt_of_lt_of_le (by omega) (Q13.out.trans Q5.out).size
        have hz3 : w2.heap.size < w5.heap.size := Nat.lt_of_lt_of_le hs3 Q5.out.size
        have HF := Lib.hid (show ∀ W, w5.grownBy W (some g) → (W.cell? ⟨w.heap.size, 1, none⟩ = some (.slice A n c) ∧ (W.cell? ⟨w2.heap.size, 0, none⟩ = some (.int .i64 z) ∧ W.cell? ⟨w2.heap.size, 1, none⟩ = some (.slice (some ⟨g, 0, none⟩) n c2)) ∧ W.heap[W0.heap.size]? = some (.cells #[.int .i64 0, .slice none 0 0] 24 (0, 0))) ∧ Q w W from fun W hW => by
          have e1 := hW.block w.heap.size hz1 (by intro e; injection e with e; omega)
          have e2 := hW.block w2.heap.size hz3 (by intro e; injection e with e; omega)
          have e3 := hW.block W0.heap.size hz2 (by intro e; injection e with e; omega)
          have c3 := HCC.out w5 Q5.out
          exact ⟨⟨(World.cell?_of_block (a := ⟨w.heap.size, 1, none⟩) e1).trans y1d, ⟨(World.cell?_of_block (a := ⟨w2.heap.size, 0, none⟩) e2).trans c3.1, (World.cell?_of_block (a := ⟨w2.heap.size, 1, none⟩) e2).trans c3.2⟩, e3.trans (((Q13.out.trans Q5.out).block _ hs1).trans HB.out)⟩, Below.grown QW5.out hW (by omega) (fun j hj => by injection hj with hj; omega)⟩)
        clear hq5 he hok y0c y1c r0 r1 f0 f1 k0 k1 y0d hgw
        go_wp2_with fail
        go_loopw [36] (fun v36 wr => ∃ k : Nat, k ≤ n ∧ v36 = .int .i64 k ∧ Hid (w5.grownBy wr (some g) ∧ WrR wr g (clU l lim k))) (fun v36 _ => n - (intOf v36).toNat)
        case atStart => exact ⟨0, by omega, rfl, World.grownBy.refl _ _, by rw [clU_zero]; exact WR5.out⟩
        case round =>
          obtain ⟨k, hk, rfl, HI⟩ := hrel
          obtain ⟨⟨s1, ⟨s2, s3⟩, s4⟩, s5⟩ := HF.out wr HI.out.1
          by_cases hlt : k < n
          · have hkl : k < l.length := by rw [HN.out]; exact hlt
            obtain ⟨bb, off, rfl, hbb, _, c0, c1', c2'⟩ := HR.out.at s5 hkl
            obtain ⟨d, hd⟩ : ∃ d, gr l k = d := ⟨_, rfl⟩
            have HD := Lib.hid hd
            rw [hd] at c0 c1' c2'
            obtain ⟨x, y, o⟩ := d
            dsimp only at c0 c1' c2'
            have i5 : (k : Int) < (n : Int) := by omega
            have i6 : (0 : Int) ≤ (k : Int) := by omega
            clear hd
            cases o with
            | false =>
              have HU := Lib.hid (show clU l lim (k + 1) = clU l lim k from clU_keep hkl (by rw [HD.out]; rfl))
              clear hkl
              go_wp2_with fail
              exact ⟨⟨k + 1, by omega, by go_num, grown_trans HI.out.1 (World.grownBy_alloc wr _ _), by rw [HU.out]; exact HI.out.2.q ((Q.refl wr).alloc _)⟩, by simp [intOf] <;> omega⟩
            | true =>
              obtain ⟨Wx, hWx⟩ : ∃ W, wr.alloc (.cells #[.int .i64 x, .int .i64 y, .bool true] 44) = W := ⟨_, rfl⟩
              have Qx := Lib.hid (show Q wr Wx by rw [← hWx]; exact (Q.refl wr).alloc _)
              have x2 : Wx.cell? ⟨wr.heap.size, 2, none⟩ = some (.bool true) := by rw [← hWx]; exact World.cell?_alloc_at _ _ _ _ rfl
              have hzr : w.heap.size < wr.heap.size := Nat.lt_of_lt_of_le hz1 HI.out.1.size
              have s1x := (Qx.out.cell (p := ⟨w.heap.size, 1, none⟩) hzr).trans s1
              obtain ⟨b, hb⟩ : ∃ b, outB l k lim = b := ⟨_, rfl⟩
              have HBB := Lib.hid hb
              have HO := Lib.hid (fun W (h : Q w W) => isOut_c (.slice (some ⟨bb, off, none⟩) n c) l k lim b (Lib.hid hb) W (RdG.q HR.out h) HL.out hkl RDL.out (hD.q h))
              have HKL := Lib.hid hkl
              clear hb hkl
              cases b with
              | false =>
                have HU := Lib.hid (show clU l lim (k + 1) = clU l lim k from clU_keep HKL.out (by rw [HBB.out]; simp))
                go_wp2_with fail
                refine (HO.out _ (s5.trans Qx.out)).mono ?_; rintro E w6 ⟨rfl, hq6⟩
                have Q6 := Lib.hid (Qx.out.trans hq6)
                clear hq6
                go_wp2_with fail
                exact ⟨⟨k + 1, by omega, by go_num, grown_trans HI.out.1 (grown_q Q6.out _), by rw [HU.out]; exact HI.out.2.q Q6.out⟩, by simp [intOf] <;> omega⟩
              | true =>
                have HU := Lib.hid (show clU l lim (k + 1) = (clU l lim k).set k ⟨0, 0, false⟩ from clU_set HKL.out (by rw [HBB.out, HD.out]; rfl))
                go_wp2_with fail
                refine (HO.out _ (s5.trans Qx.out)).mono ?_; rintro E w6 ⟨rfl, hq6⟩
                have Q6 := Lib.hid (Qx.out.trans hq6)
                have WR6 := Lib.hid (HI.out.2.q Q6.out)
                obtain ⟨⟨m0, m1, m2⟩, f0, f1, f2⟩ := WR6.out.at (i := k) (by rw [clU_len]; exact HKL.out)
                obtain ⟨u0, hu0⟩ : ∃ u, (gr (clU l lim k) k).x = u := ⟨_, rfl⟩
                obtain ⟨u1, hu1⟩ : ∃ u, (gr (clU l lim k) k).y = u := ⟨_, rfl⟩
                obtain ⟨u2, hu2⟩ : ∃ u, (gr (clU l lim k) k).o = u := ⟨_, rfl⟩
                rw [hu0] at m0
                rw [hu1] at m1
                rw [hu2] at m2
                have hz3r : w2.heap.size < wr.heap.size := Nat.lt_of_lt_of_le hz3 HI.out.1.size
                have s3x := (Q6.out.cell (p := ⟨w2.heap.size, 1, none⟩) hz3r).trans s3
                have GW := Lib.hid (grown_trans HI.out.1 (grown_q Q6.out (some g)))
                have WS := Lib.hid (WR6.out.set (i := k) (by rw [clU_len]; exact HKL.out) ⟨0, 0, false⟩)
                clear hq6 hu0 hu1 hu2 s1 s2 s3 s4 s1x x2 hWx
                go_wp2_with fail
                exact ⟨⟨k + 1, by omega, by go_num, grown_trans (grown_trans (grown_trans GW.out (grown_set _ _ _ _)) (grown_set _ _ _ _)) (grown_set _ _ _ _), by rw [HU.out]; exact WS.out⟩, by simp [intOf] <;> omega⟩
          · obtain rfl : k = n := by omega
            obtain ⟨r0, r1, f0, f1⟩ := box_at s4
            obtain ⟨g0, g1⟩ := sep_at s4 (.int .i64 z) (.slice (some ⟨g, 0, none⟩) k c2)
            have HLU := Lib.hid (show (clU l lim k).length = k by rw [clU_len, HN.out])
            have WF := Lib.hid HI.out.2
            clear s1
            go_wp2_with fail
            refine bodyPost_ret (v := .agg #[.int .i64 z, .slice (some ⟨g, 0, none⟩) k c2]) (by simp [results, Tryd.results17, go_sem, g0, g1]) rfl ?_
            rw [HE.out]
            exact ⟨_, _, by rw [HLU.out], by rw [HLU.out]; exact sep_post2 HLU.out (WrR.rd WF.out HLU.out hgc) (fun _ => ⟨g, rfl, hgc, hg1, WF.out⟩) s5 (by omega) hs1⟩
      · have t3 : ((e : Int) == 0) = false := by simp; omega
        have t4 : ((e : Int) != 0) = true := by simp; omega
        have HE := Lib.hid (show clnL z l lim = l by unfold clnL; rw [if_pos (.inr (.inr (by rw [he]; exact h3)))])
        clear he
        go_wp2_with fail
        refine HCK.out.mono ?_; rintro E w5 ⟨rfl, hq5⟩
        have Q5 := Lib.hid (Q4.out.trans hq5)
        obtain ⟨r0, r1, f0, f1⟩ := HBR.out w5 (Q13.out.trans Q5.out)
        obtain ⟨k0, k1⟩ := HCC.out w5 Q5.out
        clear hq5
        have hf4 := Lib.hid (show 0 < l.length → ∃ g, A2 = some ⟨g, 0, none⟩ ∧ n ≤ c2 ∧ W1.heap.size ≤ g ∧ WrR w5 g l from fun h0 => by
          obtain ⟨g, e, p1, p2, p3, p4⟩ := cl_form HN.out C2.out h0
          exact ⟨g, e, p1, p2, p4.q (Q23.out.trans Q5.out)⟩)
        have hbx := Lib.hid (((Q13.out.trans Q5.out).block _ hs1).trans HB.out)
        obtain ⟨g0, g1⟩ := sep_at hbx.out (.int .i64 z) (.slice A2 n c2)
        go_wp2_with fail
        refine bodyPost_ret (v := .agg #[.int .i64 z, .slice A2 n c2]) (by simp [results, Tryd.results17, go_sem, g0, g1]) rfl ?_
        rw [HE.out]
        exact ⟨A2, c2, by rw [HN.out], by rw [HN.out]; exact sep_post2 HN.out (RdG.q C2.out.1 (Q23.out.trans Q5.out)) hf4.out (Q3.out.trans Q5.out) (by omega) hs1⟩
end Go.Proofs.YtlcgbeocdimboaaDoor
