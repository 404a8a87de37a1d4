/- The contract of the reference's Merge. -/
import Derived.Test.YtlcgbeocdimboaaDoorCopied
import Derived.Test.YtlcgbeocdimboaaDoorMerge
set_option linter.unusedVariables false
set_option linter.unusedSimpArgs false
namespace Go.Proofs.YtlcgbeocdimboaaDoor
open Go.ChangeShapes Go.WideShapes Go.ChangeAt Go.RowKit Go.Shelf Pm

set_option maxRecDepth 100000 in
set_option maxHeartbeats 3200000 in
theorem rMerge_c (z z1 : Int) (v v1 : Value) (l m : List RD) (w : World) (hr : RdR w v l) (hr1 : RdR w v1 m) (hnn : Nn v) (hl : l.length ≤ 1000000) (hm : m.length ≤ 1000000) : Calls Tryd.prog 24 #[.agg #[.int .i64 z, v], .agg #[.int .i64 z1, v1]] w (MgPost (mgZ z l z1 m) (mgL z l z1 m) (mgE z l z1 m) w) := by
  have HR := Lib.hid hr
  have HR1 := Lib.hid hr1
  have HL := Lib.hid hl
  obtain ⟨e, he⟩ : ∃ e, chkR z l = e := ⟨_, rfl⟩
  obtain ⟨e1, he1⟩ : ∃ e, chkR z1 m = e := ⟨_, rfl⟩
  have HE := Lib.hid he
  have HE1 := Lib.hid he1
  have HC := Lib.hid (fun W (h : Q w W) => rCheck_r z v l e (Lib.hid he) W (RdG.q hr h) (by unfold maxLen; omega))
  have HC1 := Lib.hid (fun W (h : Q w W) => rCheck_r z1 v1 m e1 (Lib.hid he1) W (RdG.q hr1 h) (by unfold maxLen; omega))
  have HSP := Lib.hid (fun W (h : Q w W) => copied_c z v l W (RdG.q hr h) hnn hl)
  obtain ⟨A, c, rfl, hc, _⟩ := hr
  obtain ⟨B, c1, rfl, hc1, _⟩ := hr1
  obtain ⟨n, hn⟩ : ∃ n, l.length = n := ⟨_, rfl⟩
  obtain ⟨n1, hn1⟩ : ∃ n, m.length = n := ⟨_, rfl⟩
  have HN := Lib.hid hn
  have HN1 := Lib.hid hn1
  rw [hn] at HR hc HC HSP
  rw [hn1] at HR1 hc1 HC1
  rw [hn, hn1]
  obtain ⟨W0, hW0⟩ : ∃ W, w.alloc (.cells #[.int .i64 z, .slice A n c] 24) = W := ⟨_, rfl⟩
  obtain ⟨W1, hW1⟩ : ∃ W, W0.alloc (.cells #[.int .i64 z1, .slice B n1 c1] 24) = W := ⟨_, rfl⟩
  obtain ⟨W2, hW2⟩ : ∃ W, W1.alloc (.cells #[.int .i64 0, .slice none 0 0] 24) = W := ⟨_, rfl⟩
  have hs : w.heap.size < W0.heap.size := by rw [← hW0]; simp
  have hs1 : W0.heap.size < W1.heap.size := by rw [← hW1]; simp
  have hs2 : W1.heap.size < W2.heap.size := by rw [← hW2]; simp
  have Q0 := Lib.hid (show Q w W0 by rw [← hW0]; exact (Q.refl w).alloc _)
  have Q01 := Lib.hid (show Q W0 W1 by rw [← hW1]; exact (Q.refl W0).alloc _)
  have Q12 := Lib.hid (show Q W1 W2 by rw [← hW2]; exact (Q.refl W1).alloc _)
  have QW := Lib.hid ((Q0.out.trans Q01.out).trans Q12.out)
  have HB := Lib.hid (show W2.heap[W1.heap.size]? = some (.cells #[.int .i64 0, .slice none 0 0] 24 (0, 0)) by rw [← hW2]; exact World.alloc_heap_new W1 _)
  have HBR := Lib.hid (show ∀ W, Q W2 W → W.heap[W1.heap.size]? = some (.cells #[.int .i64 0, .slice none 0 0] 24 (0, 0)) from fun W h => (h.block _ hs2).trans HB.out)
  have HY := Lib.hid (show ∀ W, Q W2 W → (W.cell? ⟨w.heap.size, 0, none⟩ = some (.int .i64 z) ∧ W.cell? ⟨w.heap.size, 1, none⟩ = some (.slice A n c)) ∧ W.cell? ⟨W0.heap.size, 0, none⟩ = some (.int .i64 z1) ∧ W.cell? ⟨W0.heap.size, 1, none⟩ = some (.slice B n1 c1) from fun W h => ⟨⟨((Q01.out.trans (Q12.out.trans h)).cell (p := ⟨w.heap.size, 0, none⟩) hs).trans (by rw [← hW0]; exact World.cell?_alloc_at _ _ _ _ rfl), ((Q01.out.trans (Q12.out.trans h)).cell (p := ⟨w.heap.size, 1, none⟩) hs).trans (by rw [← hW0]; exact World.cell?_alloc_at _ _ _ _ rfl)⟩, ((Q12.out.trans h).cell (p := ⟨W0.heap.size, 0, none⟩) hs1).trans (by rw [← hW1]; exact World.cell?_alloc_at _ _ _ _ rfl), ((Q12.out.trans h).cell (p := ⟨W0.heap.size, 1, none⟩) hs1).trans (by rw [← hW1]; exact World.cell?_alloc_at _ _ _ _ rfl)⟩)
  obtain ⟨⟨y0, y1⟩, y2, y3⟩ := HY.out W2 (Q.refl _)
  have hn6 : n ≤ 1000000 := by omega
  have hn16 : n1 ≤ 1000000 := by omega
  clear hn hn1 hl hm hc hc1 he he1 hnn
  by_cases h3 : e = 0
  · subst h3
    by_cases h3 : e1 = 0
    · subst h3
      have hok := chkR_ok.1 HE.out
      by_cases h4 : z = z1 ∧ n = n1
      · obtain ⟨rfl, rfl⟩ := h4
        have t5 : (z != z) = false := by simp
        have t6 : ((n : Int) != (n : Int)) = false := by simp
        have HX := Lib.hid (show mgE z l z m = 0 by unfold mgE; rw [if_pos HE.out, if_pos HE1.out, if_neg (by rintro (k | k); exact k rfl; exact k (by rw [HN.out, HN1.out]))])
        have HX2 := Lib.hid (show mgL z l z m = mgU l m n by unfold mgL; rw [if_pos HX.out, HN.out])
        have HX3 := Lib.hid (show mgZ z l z m = z by unfold mgZ; rw [HX.out]; rfl)
        have hn8 : 8 ≤ n := by rw [← HN.out]; exact hok.n8
        clear hok
        go_enter Tryd.func24, Tryd.ntmps24
        go_wp2_with fail
        ((with_reducible refine (HC.out _ QW.out).mono ?_); rintro E wa ⟨rfl, hqa⟩)
        have Qa := Lib.hid hqa
        obtain ⟨⟨y0a, y1a⟩, y2a, y3a⟩ := HY.out wa hqa
        clear hqa y0 y1 y2 y3
        go_wp2_with fail
        ((with_reducible refine (HC1.out _ (QW.out.trans Qa.out)).mono ?_); rintro E wr ⟨rfl, hqb⟩)
        have HI := Lib.hid (show Q W2 wr from Qa.out.trans hqb)
        obtain ⟨⟨y0b, y1b⟩, y2b, y3b⟩ := HY.out wr HI.out
        clear hqb y0a y1a y2a y3a
        go_wp2_with fail
        refine (HSP.out _ (QW.out.trans HI.out)).mono ?_; rintro E w2 ⟨A2, c2, rfl, hc2⟩
        rw [HN.out] at hc2 ⊢
        have C2 := Lib.hid hc2
        obtain ⟨g, rfl, hgc, hg1, hg2, hgw⟩ := cl_form HN.out C2.out (by rw [HN.out]; omega)
        obtain ⟨W3, hW3⟩ : ∃ W, w2.alloc (.cells #[.int .i64 z, .slice (some ⟨g, 0, none⟩) n c2] 24) = W := ⟨_, rfl⟩
        have Q23 := Lib.hid (show Q w2 W3 by rw [← hW3]; exact (Q.refl w2).alloc _)
        have hs3' : w2.heap.size < W3.heap.size := by rw [← hW3]; simp
        have z0 : W3.cell? ⟨w2.heap.size, 0, none⟩ = some (.int .i64 z) := by rw [← hW3]; exact World.cell?_alloc_at _ _ _ _ rfl
        have z1' : W3.cell? ⟨w2.heap.size, 1, none⟩ = some (.slice (some ⟨g, 0, none⟩) n c2) := by rw [← hW3]; exact World.cell?_alloc_at _ _ _ _ rfl
        have Q2 := Lib.hid (HI.out.trans (hc2.2.1.trans Q23.out))
        have QW3 := Lib.hid (QW.out.trans Q2.out)
        have WR3 := Lib.hid (hgw.q Q23.out)
        obtain ⟨⟨y0a, y1a⟩, y2a, y3a⟩ := HY.out W3 Q2.out
        have hsr := HI.out.size
        have hz1 : W0.heap.size < W3.heap.size := by have := Q2.out.size; omega
        have hz2 : W1.heap.size < W3.heap.size := by have := Q2.out.size; omega
        have HF := Lib.hid (show ∀ W, W3.grownBy W (some g) → (W.cell? ⟨W0.heap.size, 1, none⟩ = some (.slice B n c1) ∧ (W.cell? ⟨w2.heap.size, 0, none⟩ = some (.int .i64 z) ∧ W.cell? ⟨w2.heap.size, 1, none⟩ = some (.slice (some ⟨g, 0, none⟩) n c2)) ∧ W.heap[W1.heap.size]? = some (.cells #[.int .i64 0, .slice none 0 0] 24 (0, 0))) ∧ Q w W from fun W hW => by
          have e1 := hW.block W0.heap.size hz1 (by intro e; injection e with e; omega)
          have e2 := hW.block w2.heap.size hs3' (by intro e; injection e with e; omega)
          have e3 := hW.block W1.heap.size hz2 (by intro e; injection e with e; omega)
          exact ⟨⟨(World.cell?_of_block (a := ⟨W0.heap.size, 1, none⟩) e1).trans y3a, ⟨(World.cell?_of_block (a := ⟨w2.heap.size, 0, none⟩) e2).trans z0, (World.cell?_of_block (a := ⟨w2.heap.size, 1, none⟩) e2).trans z1'⟩, e3.trans (HBR.out _ Q2.out)⟩, Below.grown QW3.out hW (by have := QW.out.size; omega) (fun j hj => by injection hj with hj; have := QW.out.size; omega)⟩)
        clear hc2 hgw y0b y1b y2b y3b y0a y1a y2a y3a
        go_wp2_with fail
        clear z0 z1'
        go_loopw [9] (fun v9 wr => ∃ k : Nat, k ≤ n ∧ v9 = .int .i64 k ∧ Hid (W3.grownBy wr (some g) ∧ WrR wr g (mgU l m k))) (fun v9 _ => n - (intOf v9).toNat)
        case atStart => exact ⟨0, by omega, rfl, World.grownBy.refl _ _, by rw [mgU_zero]; exact WR3.out⟩
        case round =>
          rename_i wr
          obtain ⟨k, hk, rfl, HJ⟩ := hrel
          obtain ⟨⟨s1, ⟨s2, s3⟩, s4⟩, s5⟩ := HF.out wr HJ.out.1
          by_cases hlt : k < n
          · have hkl : k < l.length := by rw [HN.out]; exact hlt
            have HKL := Lib.hid hkl
            obtain ⟨⟨m0, m1, m2⟩, f0, f1, f2⟩ := HJ.out.2.at (i := k) (by rw [mgU_len]; exact hkl)
            have hcur : gr (mgU l m k) k = gr l k := by rw [mgU_at _ _ _ hkl, if_neg (by omega)]
            rw [hcur] at m0 m1 m2
            obtain ⟨d, hd⟩ : ∃ d, gr l k = d := ⟨_, rfl⟩
            have HD := Lib.hid hd
            rw [hd] at m0 m1 m2
            obtain ⟨x, y, o⟩ := d
            dsimp only at m0 m1 m2
            have i5 : (k : Int) < (n : Int) := by omega
            have i6 : (0 : Int) ≤ (k : Int) := by omega
            clear hd hkl hcur
            cases o with
            | true =>
              have HU := Lib.hid (show mgU l m (k + 1) = mgU l m k from mgU_keep HKL.out (by rw [HD.out]))
              clear m0 m1 f0 f1 f2 s1 s2 s4
              go_wp2_with fail
              exact ⟨⟨k + 1, by omega, by go_num, HJ.out.1, by rw [HU.out]; exact HJ.out.2⟩, by simp [intOf] <;> omega⟩
            | false =>
              obtain ⟨bb, off, rfl, hbb, _, d0, d1, d2⟩ := HR1.out.at s5 (show k < m.length by rw [HN1.out]; exact hlt)
              obtain ⟨dd, hdd⟩ : ∃ d, gr m k = d := ⟨_, rfl⟩
              have HDD := Lib.hid hdd
              rw [hdd] at d0 d1 d2
              obtain ⟨px, py, po⟩ := dd
              dsimp only at d0 d1 d2
              have HU := Lib.hid (show mgU l m (k + 1) = (mgU l m k).set k ⟨px, py, po⟩ by rw [mgU_set HKL.out (by rw [HD.out]), HDD.out])
              have WS := Lib.hid ((HJ.out.2.set (i := k) (by rw [mgU_len]; exact HKL.out) ⟨px, py, po⟩).q ((Q.refl _).drew))
              have GW := Lib.hid (grown_drew (grown_trans (grown_trans (grown_trans HJ.out.1 (grown_set wr g (k * 3) (.int .i64 px))) (grown_set _ g (k * 3 + 1) (.int .i64 py))) (grown_set _ g (k * 3 + 2) (.bool po))))
              clear hdd s2 s4
              go_wp2_with fail
              refine still_tailD 9 (by kernel_rfl) (by kernel_rfl) ?_
              simp only [List.take_succ_cons, List.take_zero, List.drop_succ_cons, List.drop_zero]
              repeat still_step
              refine wpStill_nil ?_
              go_wp2_with fail
              exact ⟨⟨k + 1, by omega, by go_num, GW.out, by rw [HU.out]; exact WS.out⟩, by simp [intOf] <;> omega⟩
          · obtain rfl : k = n := by omega
            obtain ⟨r0, r1, f0, f1⟩ := box_at s4
            obtain ⟨g0, g1⟩ := sep_at s4 (.int .i64 z) (.slice (some ⟨g, 0, none⟩) k c2)
            have HLU := Lib.hid (show (mgU l m k).length = k by rw [mgU_len, HN.out])
            have WF := Lib.hid HJ.out.2
            clear s1
            go_wp2_with fail
            refine bodyPost_ret (v := .tuple #[.agg #[.int .i64 z, .slice (some ⟨g, 0, none⟩) k c2], .int .i64 0]) (by simp [results, Tryd.results24, go_sem, g0, g1]) rfl ?_
            rw [HX.out, HX2.out, HX3.out]
            exact ⟨_, _, by rw [HLU.out]; rfl, by rw [HLU.out]; exact sep_post2 HLU.out (WrR.rd WF.out HLU.out hgc) (fun _ => ⟨g, rfl, hgc, hg1, WF.out⟩) s5 (by have := Q0.out.size; have := Q01.out.size; omega) (by omega)⟩
      · have HX := Lib.hid (show mgE z l z1 m = 19 by unfold mgE; rw [if_pos HE.out, if_pos HE1.out, if_pos (by rw [HN.out, HN1.out]; omega)])
        have HX2 := Lib.hid (show mgL z l z1 m = [] by unfold mgL; rw [HX.out]; rfl)
        have HX3 := Lib.hid (show mgZ z l z1 m = 0 by unfold mgZ; rw [HX.out]; rfl)
        rw [HX.out, HX2.out, HX3.out]
        have T5 := Lib.hid (show (z != z1) = true ∨ ((z != z1) = false ∧ ((n : Int) != (n1 : Int)) = true) by
          by_cases h5 : z = z1
          · exact .inr ⟨by simp [h5], by rw [bne_iff_ne]; omega⟩
          · exact .inl (by simp [h5]))
        clear h4 hok
        go_enter Tryd.func24, Tryd.ntmps24
        go_wp2_with fail
        ((with_reducible refine (HC.out _ QW.out).mono ?_); rintro E wa ⟨rfl, hqa⟩)
        have Qa := Lib.hid hqa
        obtain ⟨⟨y0a, y1a⟩, y2a, y3a⟩ := HY.out wa hqa
        clear hqa y0 y1 y2 y3
        go_wp2_with fail
        ((with_reducible refine (HC1.out _ (QW.out.trans Qa.out)).mono ?_); rintro E wr ⟨rfl, hqb⟩)
        have HI := Lib.hid (show Q W2 wr from Qa.out.trans hqb)
        obtain ⟨⟨y0b, y1b⟩, y2b, y3b⟩ := HY.out wr HI.out
        clear hqb y0a y1a y2a y3a
        obtain ⟨r0, r1, f0, f1⟩ := box_at (HBR.out wr HI.out)
        obtain ⟨g0, g1⟩ := sep_at (HBR.out wr HI.out) (.int .i64 0) (.slice none 0 0)
        have HQ := Lib.hid (show ClP [] w (.slice none 0 0) ((wr.setCell ⟨W1.heap.size, 0, none⟩ (.int .i64 0)).setCell ⟨W1.heap.size, 1, none⟩ (.slice none 0 0)) from clp_nil (((QW.out.trans HI.out).setA (by have := Q0.out.size; omega) _).setA (by have := Q0.out.size; omega) _))
        rcases T5.out with t5 | ⟨t5, t6⟩
        all_goals
          go_wp2_with fail
          refine bodyPost_ret (v := .tuple #[.agg #[.int .i64 0, .slice none 0 0], .int .i64 19]) (by simp [results, Tryd.results24, go_sem, g0, g1]) rfl ?_
          exact ⟨none, 0, rfl, HQ.out⟩
    · have t3 : ((e1 : Int) == 0) = false := by simp; omega
      have t4 : ((e1 : Int) != 0) = true := by simp; omega
      have HX := Lib.hid (show mgE z l z1 m = e1 by unfold mgE; rw [if_pos HE.out, HE1.out, if_neg h3])
      have HX2 := Lib.hid (show mgL z l z1 m = [] by unfold mgL; rw [HX.out, if_neg h3])
      have HX3 := Lib.hid (show mgZ z l z1 m = 0 by unfold mgZ; rw [HX.out, if_neg h3])
      rw [HX.out, HX2.out, HX3.out]
      clear h3
      go_enter Tryd.func24, Tryd.ntmps24
      go_wp2_with fail
      ((with_reducible refine (HC.out _ QW.out).mono ?_); rintro E wa ⟨rfl, hqa⟩)
      have Qa := Lib.hid hqa
      obtain ⟨⟨y0a, y1a⟩, y2a, y3a⟩ := HY.out wa hqa
      clear hqa y0 y1 y2 y3
      go_wp2_with fail
      ((with_reducible refine (HC1.out _ (QW.out.trans Qa.out)).mono ?_); rintro E w2 ⟨rfl, hqb⟩)
      have Q2 := Lib.hid (show Q W2 w2 from Qa.out.trans hqb)
      obtain ⟨r0, r1, f0, f1⟩ := box_at (HBR.out w2 Q2.out)
      obtain ⟨g0, g1⟩ := sep_at (HBR.out w2 Q2.out) (.int .i64 0) (.slice none 0 0)
      clear hqb y0a y1a y2a y3a
      go_wp2_with fail
      refine bodyPost_ret (v := .tuple #[.agg #[.int .i64 0, .slice none 0 0], .int .i64 e1]) (by simp [results, Tryd.results24, go_sem, g0, g1]) rfl ?_
      exact ⟨none, 0, rfl, clp_nil (((QW.out.trans Q2.out).setA (by have := Q0.out.size; omega) _).setA (by have := Q0.out.size; omega) _)⟩
  · have t3 : ((e : Int) == 0) = false := by simp; omega
    have t4 : ((e : Int) != 0) = true := by simp; omega
    have HX := Lib.hid (show mgE z l z1 m = e by unfold mgE; rw [HE.out, if_neg h3])
    have HX2 := Lib.hid (show mgL z l z1 m = [] by unfold mgL; rw [HX.out, if_neg h3])
    have HX3 := Lib.hid (show mgZ z l z1 m = 0 by unfold mgZ; rw [HX.out, if_neg h3])
    rw [HX.out, HX2.out, HX3.out]
    clear h3
    go_enter Tryd.func24, Tryd.ntmps24
    go_wp2_with fail
    ((with_reducible refine (HC.out _ QW.out).mono ?_); rintro E w2 ⟨rfl, hq2⟩)
    have Q2 := Lib.hid hq2
    obtain ⟨r0, r1, f0, f1⟩ := box_at (HBR.out w2 Q2.out)
    obtain ⟨g0, g1⟩ := sep_at (HBR.out w2 Q2.out) (.int .i64 0) (.slice none 0 0)
    clear hq2 y0 y1 y2 y3
    go_wp2_with fail
    refine bodyPost_ret (v := .tuple #[.agg #[.int .i64 0, .slice none 0 0], .int .i64 e]) (by simp [results, Tryd.results24, go_sem, g0, g1]) rfl ?_
    exact ⟨none, 0, rfl, clp_nil (((QW.out.trans Q2.out).setA (by have := Q0.out.size; omega) _).setA (by have := Q0.out.size; omega) _)⟩
end Go.Proofs.YtlcgbeocdimboaaDoor
