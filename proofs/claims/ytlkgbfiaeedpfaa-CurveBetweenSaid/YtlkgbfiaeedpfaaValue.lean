/- The contract of Value. -/
import Derived.Test.YtlkgbfiaeedpfaaGrid
import Derived.Test.YtlkgbfiaeedpfaaAt
set_option linter.unusedVariables false
set_option linter.unusedSimpArgs false
namespace Go.Proofs.Ytlkgbfiaeedpfaa
open Go.ChangeShapes Go.WideShapes Go.ChangeAt Go.RowKit Cm

theorem rdf_of {w : World} {A : Option Addr} {n c : Nat} {l : List Int} (h : RdI w (.slice A n c) l) (hn : l.length = n) (h0 : 0 < n) : RdF w (.slice A n c) n n (N l) := by
  obtain ⟨b, off, rfl, hb, hc, _⟩ := h.at (Q.refl w) (i := 0) (by omega)
  refine ⟨b, off, c, rfl, hc, Nat.le_refl _, hb, fun i hi => ?_⟩
  obtain ⟨b2, off2, hv2, _, _, c2⟩ := h.at (Q.refl w) (i := i) (by omega)
  obtain ⟨e1, e2⟩ : b = b2 ∧ off = off2 := by injection hv2 with e1; injection e1 with e1 e2; exact ⟨e1, e2⟩
  subst e1 e2
  exact c2
set_option maxRecDepth 100000 in
set_option maxHeartbeats 1600000 in
theorem Value_c (v1 v2 v3 : Value) (xs ys : List Int) (vs : List (List Int)) (x y r : Int) (h : Hid (vaS xs ys vs x y = r)) (w : World) (h1 : RdI w v1 xs) (h2 : RdI w v2 ys) (h3 : RdV w v3 vs) (hl : Hid (GrL xs ys vs)) : Calls Try.prog 24 #[.agg #[v1, v2, v3], .int .i64 x, .int .i64 y] w fun e w' => e = .returned (.int .i64 r) ∧ Q w w' := by
  have R1 := Lib.hid h1
  have R2 := Lib.hid h2
  have R3 := Lib.hid h3
  obtain ⟨A1, c1, rfl, hc1, _⟩ := h1
  obtain ⟨A2, c2, rfl, hc2, _⟩ := h2
  obtain ⟨A3, c3, rfl, hc3⟩ := h3.len
  obtain ⟨n, hn⟩ : ∃ n, xs.length = n := ⟨_, rfl⟩
  obtain ⟨m, hm⟩ : ∃ n, ys.length = n := ⟨_, rfl⟩
  obtain ⟨k, hk⟩ : ∃ n, vs.length = n := ⟨_, rfl⟩
  have HN := Lib.hid hn
  have HM := Lib.hid hm
  have HK := Lib.hid hk
  rw [hn] at R1 hc1
  rw [hm] at R2 hc2
  rw [hk] at R3 hc3
  rw [hn, hm, hk]
  clear h3
  have FIN := Lib.hid (show ∀ (w1 : World), Q (w.alloc (.cells #[.slice A1 n c1, .slice A2 m c2, .slice A3 k c3] 34)) w1 → Q w w1 from fun w1 h => Q.trans ((Q.refl w).alloc _) h)
  have B0 := Lib.hid (box3_new w (.slice A1 n c1) (.slice A2 m c2) (.slice A3 k c3) 34)
  obtain ⟨e, he⟩ : ∃ e, chkG xs ys vs = e := ⟨_, rfl⟩
  have HC := Lib.hid he
  by_cases h0 : e = 0
  · have HO := Lib.hid (chkG_zero (he.trans h0))
    have HU := Lib.hid (show alS (N xs) (rv ys vs y) n x = r by rw [← h.out]; unfold vaS; rw [he, if_pos h0, hn])
    have hb0 : (1 ≤ n ∧ n ≤ 16) ∧ (1 ≤ m ∧ m ≤ 16) ∧ k = n := by have g := HO.out; have g1 := g.x1; have g2 := g.x16; have g3 := g.y1; have g4 := g.y16; have g5 := g.len; omega
    obtain ⟨⟨hn1, hn16⟩, ⟨hm1, hm16⟩, hkn⟩ := hb0
    have h0' : ((e : Int) != 0) = false := by subst h0; rfl
    clear hc1 hc2 hn hm hk he h0
    have hkn' : n = k := hkn.symm
    clear hkn
    subst hkn'
    go_enter Try.func24, Try.ntmps24
    go_wp2_with fail
    refine (CheckGrid_c _ _ _ xs ys vs e HC _ (R1.out.q (FIN.out _ (Q.refl _))) (R2.out.q (FIN.out _ (Q.refl _))) (R3.out.q (FIN.out _ (Q.refl _))) hl).mono ?_; rintro E w1 ⟨rfl, hq1⟩
    obtain ⟨b0, b1, b2, b3⟩ := B0.out.q hq1
    have Q1 := Lib.hid hq1
    clear hq1
    have I0 := Lib.hid (ints_new w1 43 (rv ys vs y))
    clear b0 b1 b2 b3
    obtain ⟨b0, b1, b2, b3⟩ := B0.out.q Q1.out
    go_wp2_with fail
    clear b0 b1 b2 b3
    go_loopw [16] (fun u16 wr => ∃ j : Nat, j ≤ n ∧ u16 = .int .i64 j ∧ Hid (Ints wr w1.heap.size 16 (fil (rv ys vs y) j) ∧ Q w1 wr ∧ w1.heap.size < wr.heap.size)) (fun u16 _ => n - (intOf u16).toNat)
    case atStart => exact ⟨0, Nat.zero_le _, rfl, I0.out, (Q.refl _).alloc _, by rw [asz]; omega⟩
    case round =>
      obtain ⟨j, hj, rfl, HI⟩ := hrel
      obtain ⟨b0, b1, b2, b3⟩ := B0.out.q (Q1.out.trans HI.out.2.1)
      have QW := Lib.hid (FIN.out _ (Q1.out.trans HI.out.2.1))
      by_cases hlt : j < n
      · have hkl : j < vs.length := by rw [HK.out]; exact hlt
        obtain ⟨b, off, A', c', rfl, hb, hcc, cj, hlc, hri⟩ := R3.out.at QW.out hkl
        have hq : (R vs j).length = m := by rw [HO.out.row j hkl, HM.out]
        rw [hq] at cj hlc hri
        obtain ⟨z, hz⟩ : ∃ z, rv ys vs y j = z := ⟨_, rfl⟩
        have HZ := Lib.hid (show alS (N ys) (N (R vs j)) m y = z by rw [← hz]; unfold rv; rw [HM.out])
        have HAL := Lib.hid (fun (W : World) (hw : Q wr W) => along_c (.slice A2 m c2) (.slice A' m c') m m (N ys) (N (R vs j)) y z HZ W
          ((rdf_of R2.out HM.out hm1).q (QW.out.trans hw)) ((rdf_of hri hq hm1).q hw) hm1 hm16 (by omega) (by rw [← HM.out]; exact HO.out.upy) (fun i hi => HO.out.iny i (by rw [HM.out]; exact hi)) (fun i hi => HO.out.inv j hkl i (by rw [HM.out]; exact hi)))
        have hkn : (j : Int) < (n : Int) := by omega
        have hk16 : (j : Int) < 16 := by omega
        have hk16n : j < 16 := by omega
        obtain ⟨o, ho⟩ : ∃ o, fil (rv ys vs y) j j = o := ⟨_, rfl⟩
        have HST := Lib.hid (fun (W : World) (hw : Q wr W) => show W.cell? ⟨w1.heap.size, j, none⟩ = some (.int .i64 o) ∧ W.frozen? ⟨w1.heap.size, j, none⟩ = false from by rw [← ho]; exact ints_below HI.out.1 hw HI.out.2.2 j hk16n)
        have HG := Lib.hid (fun (W : World) (hw : Q wr W) => show Ints (W.setCell ⟨w1.heap.size, j, none⟩ (.int .i64 z)) w1.heap.size 16 (fil (rv ys vs y) (j + 1)) ∧ Q w1 (W.setCell ⟨w1.heap.size, j, none⟩ (.int .i64 z)) ∧ w1.heap.size < (W.setCell ⟨w1.heap.size, j, none⟩ (.int .i64 z)).heap.size from
          ⟨fil_next (by rw [hz]; exact ints_set (ints_below HI.out.1 hw HI.out.2.2) hk16n z), Q.setA (HI.out.2.1.trans hw) (Nat.le_refl _) _, by simp [World.setCell]; have := HI.out.2.2; have := hw.size; omega⟩)
        clear hkl hri hq hz ho HI
        go_wp2_with fail
        refine (HAL.out _ (Q.refl _)).mono ?_; rintro E w3 ⟨rfl, hq3⟩
        obtain ⟨s1, s2⟩ := HST.out _ hq3
        have HG3 := Lib.hid (HG.out _ hq3)
        clear hq3 HST HG HAL b0 b1 b2 b3
        go_wp2_with fail
        go_roundw
        case rel => exact ⟨j + 1, by omega, by go_num, HG3.out⟩
        case measure => simp [intOf] <;> omega
      · obtain rfl : j = n := by omega
        have HAL := Lib.hid (fun (W : World) (hw : Q wr W) => along_c (.slice A1 j c1) (.slice (some ⟨w1.heap.size, 0, none⟩) 16 16) 16 j (N xs) (rv ys vs y) x r HU W
          ((rdf_of R1.out HN.out hn1).q (QW.out.trans hw))
          (RdF.q ⟨w1.heap.size, 0, 16, rfl, Nat.le_refl _, hn16, HI.out.2.2, fun i hi => by
            have h1 := (HI.out.1 i (by omega)).1
            rw [Nat.zero_add]
            refine h1.trans ?_
            unfold fil; rw [if_pos hi]⟩ hw)
          (by omega) hn16 (by omega) (by rw [← HN.out]; exact HO.out.upx) (fun i hi => HO.out.inx i (by rw [HN.out]; exact hi)) (fun i hi => rv_bd HO.out y i (by rw [HN.out]; exact hi)))
        clear HI
        go_wp2_with fail
        go_region_with (go_at_call 28; refine (HAL.out _ (by repeat (first | exact Q.refl _ | refine Q.drewN ?_ _ | refine Q.drew ?_))).mono ?_; rintro E w3 ⟨rfl, hq3⟩)
        all_goals go_wp2_with fail
        all_goals go_ret
        all_goals exact ⟨rfl, Q.trans (by repeat (first | exact QW.out | refine Q.drewN ?_ _ | refine Q.drew ?_)) hq3⟩
  · have HE := Lib.hid (show 0 = r by rw [← h.out]; unfold vaS; rw [he, if_neg h0])
    have h0' : ((e : Int) != 0) = true := by simp; omega
    clear hc1 hc2 hn hm hk he h0
    go_enter Try.func24, Try.ntmps24
    go_wp2_with fail
    refine (CheckGrid_c _ _ _ xs ys vs e HC _ (R1.out.q (FIN.out _ (Q.refl _))) (R2.out.q (FIN.out _ (Q.refl _))) (R3.out.q (FIN.out _ (Q.refl _))) hl).mono ?_; rintro E w1 ⟨rfl, hq1⟩
    obtain ⟨b0, b1, b2, b3⟩ := B0.out.q hq1
    have Q1 := Lib.hid hq1
    clear hq1
    go_wp2_with fail
    go_ret
    exact ⟨ret_int HE.out, FIN.out _ Q1.out⟩
end Go.Proofs.Ytlkgbfiaeedpfaa
