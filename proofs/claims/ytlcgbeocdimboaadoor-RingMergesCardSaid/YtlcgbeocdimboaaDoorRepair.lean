/- The contract of Repair. -/
import Derived.Test.YtlcgbeocdimboaaDoorBetween
set_option linter.unusedVariables false
set_option linter.unusedSimpArgs false
namespace Go.Proofs.YtlcgbeocdimboaaDoor
open Go.ChangeShapes Go.WideShapes Go.ChangeAt Go.RowKit Go.Shelf Pm

/-- the points of a repaired ring, new, and the error -/
def RepPost (l : List P) (e : Nat) (w : World) (E : Ending) (w' : World) : Prop := ∃ A c, E = .returned (.tuple #[.slice A l.length c, .int .i64 e]) ∧ PtP l w (.slice A l.length c) w'
theorem ptp_nil {w w' : World} (hq : Q w w') : PtP [] w (.slice none 0 0) w' := ⟨RdG.nil _ _ _, hq, fun h => absurd h (by simp)⟩
theorem ptp_form {l : List P} {n c2 : Nat} {A2 : Option Addr} {w w2 : World} (hn : l.length = n) (h : PtP l w (.slice A2 n c2) w2) (h0 : 0 < l.length) : ∃ g, A2 = some ⟨g, 0, none⟩ ∧ n ≤ c2 ∧ w.heap.size ≤ g ∧ g < w2.heap.size ∧ Wr w2 g l := by
  obtain ⟨g, cap, e, h1, h3, h4⟩ := h.2.2 h0
  injection e with e1 e2 e3
  subst e1 e3
  exact ⟨g, rfl, by omega, h3, h4.1, h4⟩
set_option maxRecDepth 100000 in
set_option maxHeartbeats 3200000 in
theorem Repair_c (z : Int) (v : Value) (l : List RD) (most : Int) (w : World) (hr : RdR w v l) (hl : l.length ≤ 1000000) (hD : Dir w) : Calls Tryd.prog 21 #[.agg #[.int .i64 z, v], .int .i64 most] w (RepPost (rpL z l most) (rpE z l most) w) := by
  have HR := Lib.hid hr
  have HL := Lib.hid hl
  have HGP := Lib.hid (fun W (h : Q w W) => Gaps_c z v l _ _ (Lib.hid rfl) (Lib.hid rfl) W (RdG.q hr h) hl)
  have HPT := Lib.hid (fun W (h : Q w W) => points_c v l W (RdG.q hr h) hl)
  obtain ⟨A, c, rfl, hc, _⟩ := hr
  obtain ⟨n, hn⟩ : ∃ n, l.length = n := ⟨_, rfl⟩
  have HN := Lib.hid hn
  rw [hn] at HR hc HGP HPT
  rw [hn]
  obtain ⟨e, he⟩ : ∃ e, chkR z l = e := ⟨_, rfl⟩
  have HE := Lib.hid he
  have HCK := Lib.hid (fun W (h : Q w W) => Check_c z (.slice A n c) l e (Lib.hid he) W (RdG.q HR.out h) (by rw [HN.out]; have := HL.out; rw [HN.out] at this; unfold maxLen; omega))
  obtain ⟨W0, hW0⟩ : ∃ W, w.alloc (.cells #[.int .i64 z, .slice A n c] 24) = W := ⟨_, rfl⟩
  have hs : w.heap.size < W0.heap.size := by rw [← hW0]; simp
  have Q0 := Lib.hid (show Q w W0 by rw [← hW0]; exact (Q.refl w).alloc _)
  have HY := Lib.hid (show ∀ W, Q W0 W → W.cell? ⟨w.heap.size, 0, none⟩ = some (.int .i64 z) ∧ W.cell? ⟨w.heap.size, 1, none⟩ = some (.slice A n c) from fun W h => ⟨(h.cell (p := ⟨w.heap.size, 0, none⟩) hs).trans (by rw [← hW0]; exact World.cell?_alloc_at _ _ _ _ rfl), (h.cell (p := ⟨w.heap.size, 1, none⟩) hs).trans (by rw [← hW0]; exact World.cell?_alloc_at _ _ _ _ rfl)⟩)
  obtain ⟨y0, y1⟩ := HY.out W0 (Q.refl _)
  clear hn hl hc
  by_cases h3 : e = 0
  · subst h3
    have hok := chkR_ok.1 he
    have hn8 : 8 ≤ n := by rw [← HN.out]; exact hok.n8
    have hn32 : n ≤ 32 := by rw [← HN.out]; exact hok.n32
    have RDL := Lib.hid (show RdL l from fun d hd => ok_pt (hok.rd d hd))
    clear he hok
    obtain ⟨G, hG⟩ : ∃ G, gN l = G := ⟨_, rfl⟩
    obtain ⟨M, hM⟩ : ∃ M, gL l = M := ⟨_, rfl⟩
    have HG := Lib.hid hG
    have HM := Lib.hid hM
    have hGn : G ≤ n := by rw [← hG, ← HN.out]; exact gN_le l
    rw [hG, hM] at HGP
    clear hG hM
    by_cases h2 : n < G + 3
    · have t2 : decide ((n : Int) - (G : Int) < 3) = true := decide_eq_true (by omega)
      have HX := Lib.hid (show rpE z l most = 30 by unfold rpE; rw [if_pos HE.out, if_pos (.inl (by rw [HN.out, HG.out]; exact h2))])
      have HX2 := Lib.hid (show rpL z l most = [] by unfold rpL; rw [HX.out]; rfl)
      rw [HX.out, HX2.out]
      clear h2
      go_enter Tryd.func21, Tryd.ntmps21
      go_wp2_with fail
      refine (HCK.out _ Q0.out).mono ?_; rintro E w2 ⟨rfl, hq2⟩
      have Q2 := Lib.hid hq2
      obtain ⟨y0a, y1a⟩ := HY.out w2 hq2
      clear hq2 y0 y1
      go_wp2_with fail
      refine (HGP.out _ (Q0.out.trans Q2.out)).mono ?_; rintro E w3 ⟨rfl, hq3⟩
      have Q3 := Lib.hid (Q2.out.trans hq3)
      obtain ⟨y0b, y1b⟩ := HY.out w3 Q3.out
      clear hq3 y0a y1a
      go_wp2_with fail
      go_ret2
      exact ⟨none, 0, rfl, ptp_nil (Q0.out.trans Q3.out)⟩
    · have t2 : decide ((n : Int) - (G : Int) < 3) = false := decide_eq_false (by omega)
      by_cases h5 : 0 < G ∧ most < (M : Int)
      · have t5 : decide ((0 : Int) < (G : Int)) = true := decide_eq_true (by omega)
        have t5' : (0 : Int) < (G : Int) := by omega
        have t6 : decide (most < (M : Int)) = true := decide_eq_true h5.2
        have HX := Lib.hid (show rpE z l most = 30 by unfold rpE; rw [if_pos HE.out, if_pos (.inr (by rw [HG.out, HM.out]; exact h5))])
        have HX2 := Lib.hid (show rpL z l most = [] by unfold rpL; rw [HX.out]; rfl)
        rw [HX.out, HX2.out]
        clear h2 h5
        go_enter Tryd.func21, Tryd.ntmps21
        go_wp2_with fail
        refine (HCK.out _ Q0.out).mono ?_; rintro E w2 ⟨rfl, hq2⟩
        have Q2 := Lib.hid hq2
        obtain ⟨y0a, y1a⟩ := HY.out w2 hq2
        clear hq2 y0 y1
        go_wp2_with fail
        refine (HGP.out _ (Q0.out.trans Q2.out)).mono ?_; rintro E w3 ⟨rfl, hq3⟩
        have Q3 := Lib.hid (Q2.out.trans hq3)
        obtain ⟨y0b, y1b⟩ := HY.out w3 Q3.out
        clear hq3 y0a y1a
        go_wp2_with fail
        go_ret2
        exact ⟨none, 0, rfl, ptp_nil (Q0.out.trans Q3.out)⟩
      · have HX := Lib.hid (show rpE z l most = 0 by unfold rpE; rw [if_pos HE.out, if_neg (by rintro (k | k) <;> first | exact h2 (by rw [HN.out, HG.out] at k; exact k) | exact h5 (by rw [HG.out, HM.out] at k; exact k))])
        have HX2 := Lib.hid (show rpL z l most = rpU l n by unfold rpL; rw [if_pos HX.out, HN.out])
        have HG2 := Lib.hid (show gN l + 2 ≤ l.length by rw [HN.out, HG.out]; omega)
        have HB3 := Lib.hid (show (G = 0 ∨ ¬ most < (M : Int)) by omega)
        rw [HX.out, HX2.out]
        have HPL := Lib.hid (show (rpU l n).length = n by rw [rpU_len, HN.out])
        clear h2 h5
        go_enter Tryd.func21, Tryd.ntmps21
        go_wp2_with fail
        refine (HCK.out _ Q0.out).mono ?_; rintro E w2 ⟨rfl, hq2⟩
        have Q2 := Lib.hid hq2
        obtain ⟨y0a, y1a⟩ := HY.out w2 hq2
        clear hq2 y0 y1
        go_wp2_with fail
        refine (HGP.out _ (Q0.out.trans Q2.out)).mono ?_; rintro E w3 ⟨rfl, hq3⟩
        have Q3 := Lib.hid (Q2.out.trans hq3)
        obtain ⟨y0b, y1b⟩ := HY.out w3 Q3.out
        clear hq3 y0a y1a
        have T5 : (decide ((0 : Int) < (G : Int)) = false ∧ decide (0 < G) = false) ∨ (decide ((0 : Int) < (G : Int)) = true ∧ decide (0 < G) = true ∧ decide (most < (M : Int)) = false) := by
          by_cases k0 : G = 0
          · exact .inl ⟨decide_eq_false (by omega), decide_eq_false (by omega)⟩
          · exact .inr ⟨decide_eq_true (by omega), decide_eq_true (by omega), decide_eq_false (by have := HB3.out; omega)⟩
        have T6 := Lib.hid T5
        clear T5
        rcases T6.out with ⟨t5, t5'⟩ | ⟨t5, t5', t6⟩
        all_goals
          go_wp2_with fail
          refine (HPT.out _ (Q0.out.trans Q3.out)).mono ?_; rintro E w6 ⟨A6, c6, rfl, hp6⟩
          have HPS := Lib.hid (show (ptsL l).length = n by unfold ptsL; rw [List.length_map, HN.out])
          obtain ⟨g, rfl, hgc, hg1, hg2, hgw⟩ := ptp_form HPS.out hp6 (by rw [HPS.out]; omega)
          have Q6 := Lib.hid (Q3.out.trans hp6.2.1)
          have QW6 := Lib.hid (Q0.out.trans Q6.out)
          have WR6 := Lib.hid hgw
          obtain ⟨y0d, y1d⟩ := HY.out w6 Q6.out
          have hz1 : w.heap.size < w6.heap.size := Nat.lt_of_lt_of_le hs Q6.out.size
          have hg0 : w.heap.size < g := by have := Q3.out.size; omega
          have HF := Lib.hid (show ∀ W, w6.grownBy W (some g) → W.cell? ⟨w.heap.size, 1, none⟩ = some (.slice A n c) ∧ Q w W from fun W hW => by
            have e1 := hW.block w.heap.size hz1 (by intro e; injection e with e; omega)
            exact ⟨(World.cell?_of_block (a := ⟨w.heap.size, 1, none⟩) e1).trans y1d, Below.grown QW6.out hW (by omega) (fun j hj => by injection hj with hj; omega)⟩)
          clear hp6 hgw y0b y1b y0d
          go_wp2_with fail
          go_loopw [43] (fun v43 wr => ∃ k : Nat, k ≤ n ∧ v43 = .int .i64 k ∧ Hid (w6.grownBy wr (some g) ∧ Wr wr g (rpU l k))) (fun v43 _ => n - (intOf v43).toNat)
          case atStart => exact ⟨0, by omega, rfl, World.grownBy.refl _ _, by rw [rpU_zero]; exact WR6.out⟩
          case round =>
            obtain ⟨k, hk, rfl, HI⟩ := hrel
            obtain ⟨s1, s5⟩ := HF.out wr HI.out.1
            by_cases hlt : k < n
            · have hkl : k < l.length := by rw [HN.out]; exact hlt
              obtain ⟨bb, off, rfl, hbb, _, c0, c1', c2'⟩ := HR.out.at s5 hkl
              obtain ⟨d, hd⟩ : ∃ d, gr l k = d := ⟨_, rfl⟩
              have HD := Lib.hid hd
              rw [hd] at c0 c1' c2'
              obtain ⟨x, y, o⟩ := d
              dsimp only at c0 c1' c2'
              have i5 : (k : Int) < (n : Int) := by omega
              have i6 : (0 : Int) ≤ (k : Int) := by omega
              clear hd y1d
              cases o with
              | true =>
                have HU := Lib.hid (show rpU l (k + 1) = rpU l k from rpU_keep hkl (by rw [HD.out]))
                clear hkl
                go_wp2_with fail
                exact ⟨⟨k + 1, by omega, by go_num, grown_trans HI.out.1 (World.grownBy_alloc wr _ _), by rw [HU.out]; exact HI.out.2.q ((Q.refl wr).alloc _)⟩, by simp [intOf] <;> omega⟩
              | false =>
                have hzr : w.heap.size < wr.heap.size := Nat.lt_of_lt_of_le hz1 HI.out.1.size
                have Qx := Lib.hid (show Q wr (wr.alloc (.cells #[.int .i64 x, .int .i64 y, .bool false] 44)) from (Q.refl wr).alloc _)
                have s1x := old_row (.cells #[.int .i64 x, .int .i64 y, .bool false] 44) hzr s1
                obtain ⟨na, hna⟩ : ∃ a, nbV l k false = a := ⟨_, rfl⟩
                obtain ⟨nb, hnb⟩ : ∃ a, nbV l k true = a := ⟨_, rfl⟩
                have B1 := nb_bd (i := k) (d := false) RDL.out (by omega) HG2.out (by rw [HN.out]; exact hn32)
                have B2 := nb_bd (i := k) (d := true) RDL.out (by omega) HG2.out (by rw [HN.out]; exact hn32)
                rw [hna] at B1
                rw [hnb] at B2
                have HNG := Lib.hid (fun W (h : Q w W) => neigh_c (.slice (some ⟨bb, off, none⟩) n c) l k W (RdG.q HR.out h) HL.out hkl (hD.q h))
                rw [hna, hnb] at HNG
                obtain ⟨a1, a2, a3⟩ := na
                obtain ⟨b1, b2, b3⟩ := nb
                have HBT := Lib.hid (fun W => between_c a1 a2 a3 b1 b2 b3 W (by have := B1.1; dsimp only at this; omega) (by have := B1.2.1; dsimp only at this; omega) (by have := B1.2.2; dsimp only at this; omega) (by have := B2.1; dsimp only at this; omega) (by have := B2.2.1; dsimp only at this; omega) (by have := B2.2.2; dsimp only at this; omega))
                obtain ⟨pp, hpp⟩ : ∃ p, btw (a1, a2, a3) (b1, b2, b3) = p := ⟨_, rfl⟩
                rw [hpp] at HBT
                have HU := Lib.hid (show rpU l (k + 1) = (rpU l k).set k pp by rw [rpU_set hkl]; unfold rpP; rw [if_neg (by rw [HD.out]; simp), hna, hnb, hpp])
                obtain ⟨px, py⟩ := pp
                dsimp only at HBT
                have HKL := Lib.hid hkl
                clear hkl hna hnb hpp B1 B2
                go_wp2_with fail
                refine (HNG.out _ (s5.trans Qx.out)).mono ?_; rintro E w7 ⟨rfl, hq7⟩
                have Q7 := Lib.hid (Qx.out.trans hq7)
                clear hq7
                go_wp2_with fail
                refine (HBT.out _).mono ?_; rintro E w8 ⟨rfl, hq8⟩
                have Q8 := Lib.hid (Q7.out.trans hq8)
                have WR8 := Lib.hid (HI.out.2.q Q8.out)
                obtain ⟨⟨m0, m1⟩, f0, f1⟩ := WR8.out.at (i := k) (by rw [rpU_len]; exact HKL.out)
                obtain ⟨u0, hu0⟩ : ∃ u, (Pm.g (rpU l k) k).1 = u := ⟨_, rfl⟩
                obtain ⟨u1, hu1⟩ : ∃ u, (Pm.g (rpU l k) k).2 = u := ⟨_, rfl⟩
                rw [hu0] at m0
                rw [hu1] at m1
                have GW := Lib.hid (grown_trans HI.out.1 (grown_q Q8.out (some g)))
                have WS := Lib.hid (WR8.out.set (i := k) (by rw [rpU_len]; exact HKL.out) (px, py))
                clear hq8 hu0 hu1 s1 s1x
                go_wp2_with fail
                exact ⟨⟨k + 1, by omega, by go_num, grown_trans (grown_trans GW.out (grown_set _ _ _ _)) (grown_set _ _ _ _), by rw [HU.out]; exact WS.out⟩, by simp [intOf] <;> omega⟩
            · obtain rfl : k = n := by omega
              have WF := Lib.hid HI.out.2
              clear s1
              go_wp2_with fail
              go_ret2
              exact ⟨_, _, by rw [HPL.out]; rfl, by rw [HPL.out]; exact ⟨Wr.rd WF.out HPL.out hgc, s5, fun _ => ⟨g, c6, by rw [HPL.out], by rw [HPL.out]; exact hgc, by omega, WF.out⟩⟩⟩
  · have t3 : ((e : Int) == 0) = false := by simp; omega
    have t4 : ((e : Int) != 0) = true := by simp; omega
    have HX := Lib.hid (show rpE z l most = e by unfold rpE; rw [if_neg (by rw [HE.out]; exact h3), HE.out])
    have HX2 := Lib.hid (show rpL z l most = [] by unfold rpL; rw [HX.out, if_neg h3])
    rw [HX.out, HX2.out]
    clear he h3
    go_enter Tryd.func21, Tryd.ntmps21
    go_wp2_with fail
    refine (HCK.out _ Q0.out).mono ?_; rintro E w2 ⟨rfl, hq2⟩
    have Q2 := Lib.hid hq2
    clear hq2
    go_wp2_with fail
    go_ret2
    exact ⟨none, 0, rfl, ptp_nil (Q0.out.trans Q2.out)⟩
end Go.Proofs.YtlcgbeocdimboaaDoor
