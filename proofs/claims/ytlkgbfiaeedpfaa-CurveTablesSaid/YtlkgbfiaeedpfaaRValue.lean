/- The contract of the reference's Value, and of few. -/
import Derived.Test.YtlkgbfiaeedpfaaRow
set_option linter.unusedVariables false
set_option linter.unusedSimpArgs false
namespace Go.Proofs.Ytlkgbfiaeedpfaa
open Go.ChangeShapes Go.WideShapes Go.ChangeAt Go.RowKit Cm

theorem Own.q {B : Nat} {v : Value} {l : List P} {w w' : World} (hq : Q w w') (h : Own B v l w) : Own B v l w' := by
  obtain ⟨h1, h2⟩ := h
  refine ⟨h1, ?_⟩
  rcases h2 with h2 | ⟨g, cap, cur, h3, h4, h5, h6⟩
  · exact .inl h2
  · refine .inr ⟨g, cap, cur, h3, h4, ?_, h6⟩
    rw [hq.block g ?_]; · exact h5
    rcases Nat.lt_or_ge g w.heap.size with k | k
    · exact k
    · rw [Array.getElem?_eq_none k] at h5; cases h5
theorem rRow_is (v1 v2 v3 : Value) (xs ys : List Int) (vs : List (List Int)) (i : Nat) (w : World) (h1 : RdI w v1 xs) (h2 : RdI w v2 ys) (h3 : RdV w v3 vs) (hl : Hid (GrL xs ys vs)) (hi : i < vs.length) (hrow : (R vs i).length = ys.length) :
    Calls Try.prog 35 #[.agg #[v1, v2, v3], .int .i64 i] w fun e w' => ∃ A c, e = .returned (.slice A ys.length c) ∧ RdP w' (.slice A ys.length c) (zipC (N ys) (N (R vs i)) ys.length) ∧ Q w w' :=
  (rRow_c v1 v2 v3 xs ys vs i w h1 h2 h3 hl hi hrow).mono fun _ _ ⟨v', a, b, c⟩ => by
    have b2 := b
    obtain ⟨A, cc, rfl, _⟩ := b
    rw [zip_len] at a b2
    exact ⟨A, cc, a, b2, c⟩
set_option maxRecDepth 100000 in
set_option maxHeartbeats 3200000 in
theorem rValue_c (v1 v2 v3 : Value) (xs ys : List Int) (vs : List (List Int)) (x y r : Int) (h : Hid (vaS xs ys vs x y = r)) (w : World) (h1 : RdI w v1 xs) (h2 : RdI w v2 ys) (h3 : RdV w v3 vs) (hl : Hid (GrL xs ys vs)) : Calls Try.prog 25 #[.agg #[v1, v2, v3], .int .i64 x, .int .i64 y] w fun e w' => e = .returned (.int .i64 r) ∧ Q w w' := by
  obtain ⟨i0, hif, hz0, hz1, hz2⟩ := info_parts infoP
  have R1 := Lib.hid h1
  have R2 := Lib.hid h2
  have R3 := Lib.hid h3
  obtain ⟨A1, c1, rfl, hc1, _⟩ := h1
  obtain ⟨A2, c2, rfl, hc2, _⟩ := h2
  obtain ⟨A3, c3, rfl, hc3⟩ := h3.len
  obtain ⟨n, hn⟩ : ∃ n, xs.length = n := ⟨_, rfl⟩
  obtain ⟨m, hm⟩ : ∃ n, ys.length = n := ⟨_, rfl⟩
  obtain ⟨k, hk⟩ : ∃ n, vs.length = n := ⟨_, rfl⟩
  have HN := Lib.hid hn
  have HM := Lib.hid hm
  have HK := Lib.hid hk
  rw [hn] at R1 hc1
  rw [hm] at R2 hc2
  rw [hk] at R3 hc3
  rw [hn, hm, hk]
  clear h3
  obtain ⟨W0, hW0⟩ : ∃ W, w.alloc (.cells #[.slice A1 n c1, .slice A2 m c2, .slice A3 k c3] 34) = W := ⟨_, rfl⟩
  have HQ0 := Lib.hid (show Q w W0 by rw [← hW0]; exact (Q.refl w).alloc _)
  have B0 := Lib.hid (show box3 W0 w.heap.size (.slice A1 n c1) (.slice A2 m c2) (.slice A3 k c3) by rw [← hW0]; exact box3_new w (.slice A1 n c1) (.slice A2 m c2) (.slice A3 k c3) 34)
  obtain ⟨e, he⟩ : ∃ e, chkG xs ys vs = e := ⟨_, rfl⟩
  have HC := Lib.hid he
  by_cases h0 : e = 0
  · have HO := Lib.hid (chkG_zero (he.trans h0))
    have HU := Lib.hid (show alS (N xs) (rv ys vs y) n x = r by rw [← h.out]; unfold vaS; rw [he, if_pos h0, hn])
    have hb0 : (1 ≤ n ∧ n ≤ 16) ∧ (1 ≤ m ∧ m ≤ 16) ∧ k = n := by have g := HO.out; have g1 := g.x1; have g2 := g.x16; have g3 := g.y1; have g4 := g.y16; have g5 := g.len; omega
    obtain ⟨⟨hn1, hn16⟩, ⟨hm1, hm16⟩, hkn⟩ := hb0
    have h0' : ((e : Int) != 0) = false := by subst h0; rfl
    clear hc1 hc2 hn hm hk he h0
    have hkn' : n = k := hkn.symm
    clear hkn
    subst hkn'
    obtain ⟨t0, t1, t2, t3⟩ := B0.out
    go_enter Try.func25, Try.ntmps25
    go_wp2_with fail
    refine (rCheckGrid_c _ _ _ xs ys vs e HC _ (R1.out.q HQ0.out) (R2.out.q HQ0.out) (R3.out.q HQ0.out) hl).mono ?_; rintro E w1 ⟨rfl, hq1⟩
    obtain ⟨b0, b1, b2, b3⟩ := B0.out.q hq1
    have Q1 := Lib.hid hq1
    clear hq1 hW0 t0 t1 t2 t3
    go_wp2_with fail
    clear b0 b1 b2 b3
    go_loopw [7, 8] (fun u7 u8 wr => ∃ j : Nat, j ≤ n ∧ u8 = .int .i64 j ∧ Hid (Own w1.heap.size u7 (zipC (N xs) (rv ys vs y) j) wr ∧ Q w1 wr)) (fun _ u8 _ => n - (intOf u8).toNat)
    case atStart => exact ⟨0, Nat.zero_le _, rfl, own_nil _ _, Q.refl _⟩
    case round =>
      obtain ⟨j, hj, rfl, HI⟩ := hrel
      have HW1 := Lib.hid (Q1.out.trans HI.out.2)
      obtain ⟨d0, d1, d2, d3⟩ := B0.out.q HW1.out
      by_cases hlt : j < n
      · have QW := Lib.hid (HQ0.out.trans HW1.out)
        have hjx : j < xs.length := by rw [HN.out]; exact hlt
        have hjv : j < vs.length := by rw [HK.out]; exact hlt
        obtain ⟨xb, xo, rfl, hxb, hxc, cx⟩ := R1.out.at QW.out hjx
        obtain ⟨p, hp⟩ : ∃ z, N xs j = z := ⟨_, rfl⟩
        obtain ⟨z, hz⟩ : ∃ z, rv ys vs y j = z := ⟨_, rfl⟩
        rw [hp] at cx
        have hxw : xb < wr.heap.size := Nat.lt_of_lt_of_le hxb QW.out.size
        have HF := Lib.hid (fun (W : World) (hw : Q wr W) => show W.cell? ⟨w.heap.size, 0, none⟩ = some (.slice (some ⟨xb, xo, none⟩) n c1) ∧ W.cell? ⟨w.heap.size, 1, none⟩ = some (.slice A2 m c2) ∧ W.cell? ⟨w.heap.size, 2, none⟩ = some (.slice A3 n c3) ∧ W.cell? ⟨xb, xo + j, none⟩ = some (.int .i64 p) from
          ⟨(hw.cell (p := ⟨w.heap.size, 0, none⟩) d3).trans d0, (hw.cell (p := ⟨w.heap.size, 1, none⟩) d3).trans d1, (hw.cell (p := ⟨w.heap.size, 2, none⟩) d3).trans d2, (hw.cell (p := ⟨xb, xo + j, none⟩) hxw).trans cx⟩)
        have HZ := Lib.hid (show zipC (N xs) (rv ys vs y) (j + 1) = zipC (N xs) (rv ys vs y) j ++ [(p, z)] by rw [zip_next, hp, hz])
        obtain ⟨L, hL⟩ : ∃ L, zipC (N xs) (rv ys vs y) j = L := ⟨_, rfl⟩
        have hLl : L.length = j := by rw [← hL, zip_len]
        rw [hL] at HZ
        have HO1 := Lib.hid (show Own w1.heap.size u7 L wr by rw [← hL]; exact HI.out.1)
        have HIQ := Lib.hid HI.out.2
        have RM := Lib.hid (show Room L.length from room_of (by omega))
        have HROW := Lib.hid (fun (W : World) (hw : Q wr W) => rRow_is (.slice (some ⟨xb, xo, none⟩) n c1) (.slice A2 m c2) (.slice A3 n c3) xs ys vs j W (R1.out.q (QW.out.trans hw)) (R2.out.q (QW.out.trans hw)) (R3.out.q (QW.out.trans hw)) hl hjv (HO.out.row j hjv))
        have HAT := Lib.hid (show atS (zipC (N ys) (N (R vs j)) ys.length) y = z by
          rw [zip_at_of HO.out.y1 HO.out.y16 HO.out.upy HO.out.iny (fun i hi => HO.out.inv j hjv i hi), ← hz]; rfl)
        have HZL := Lib.hid (show (zipC (N ys) (N (R vs j)) ys.length).length ≤ maxLen by rw [zip_len, HM.out]; unfold maxLen; omega)
        have hjn : (j : Int) < (n : Int) := by omega
        rw [HM.out] at HROW HAT HZL
        clear hjx hjv hp hz hL HI hLl
        go_wp2_with fail
        go_region_law (first
          | (refine step_append_lies _ rfl (.tmp 19) (.tmp 31) 22 rfl w1.heap.size 40 i0 (.agg #[.int .i64 0, .int .i64 0]) 2 16 Try.underlying22 hif hz0 hz1 hz2 rfl (by decide) u7 L.length (cellsL L) (by simp [Act.eval, Act.put]) (World.ownsRow.alloc HO6.out _) ⟨w6.heap.size, 0, none⟩ 1 1 [.int .i64 p, .int .i64 z] (by simp [Act.eval, Act.put]) rfl (pair_at w6 _ _ _) (pair_cell _ _) (by decide) RM.out.1 RM.out.2 (alloc_le HB6.out.size _) (w6.heap.size + 1) (asz _ _) ?_; intro g cap w7 hown' hgrow hat hlt)
          | (go_simp; go_at_call 35; refine (HROW.out _ (by repeat (first | exact Q.refl _ | refine Q.drewN ?_ _ | refine Q.drew ?_))).mono ?_; rintro E w5 ⟨A5, c5, rfl, hrd, hq5⟩; have hQ5 : Q wr w5 := Q.trans (by repeat (first | exact Q.refl _ | refine Q.drewN ?_ _ | refine Q.drew ?_)) hq5; have HQ5 := Lib.hid hQ5; have HRD5 := Lib.hid hrd; obtain ⟨f0, f1, f2, f3⟩ := HF.out w5 hQ5; clear hrd hq5 hQ5)
          | (go_simp; go_at_call 18; refine (rAt_c _ _ y z HAT _ HRD5.out HZL.out).mono ?_; rintro E w6 ⟨rfl, hq6⟩; have hQ6 : Q wr w6 := HQ5.out.trans hq6; have HB6 := Lib.hid (show Below w1.heap.size w1 w6 from HIQ.out.trans hQ6); have HO6 := Lib.hid (Own.q hQ6 HO1.out); obtain ⟨g0, g1, g2, g3⟩ := HF.out w6 hQ6; clear hq6 hQ6))
        all_goals have N := Lib.hid (own_next (s := (p, z)) HO6.out HB6.out HB6.out.size hown' hgrow)
        all_goals clear hown' hgrow
        all_goals go_wp2_with fail
        all_goals exact ⟨⟨j + 1, by omega, by go_num, by rw [HZ.out]; exact N.out.1, N.out.2⟩, by simp [intOf] <;> omega⟩
      · obtain rfl : j = n := by omega
        have HQ8 := Lib.hid (HQ0.out.trans HW1.out)
        have HRD := Lib.hid HI.out.1.rd
        have HATX := Lib.hid (show atS (zipC (N xs) (rv ys vs y) j) x = r by
          have h3 := zip_at_of (q := rv ys vs y) (x := x) HO.out.x1 HO.out.x16 HO.out.upx HO.out.inx fun i hi => rv_bd HO.out y i hi
          rw [HN.out] at h3
          rw [h3]; exact HU.out)
        have HLX := Lib.hid (show (zipC (N xs) (rv ys vs y) j).length ≤ maxLen by rw [zip_len]; unfold maxLen; omega)
        go_wp2_with fail
        refine (rAt_c _ _ x r HATX _ HRD.out HLX.out).mono ?_; rintro E w3 ⟨rfl, hq3⟩
        have Q3 := Lib.hid (HQ8.out.trans hq3)
        clear hq3
        go_wp2_with fail
        go_ret
        exact ⟨rfl, Q3.out⟩
  · have HE := Lib.hid (show 0 = r by rw [← h.out]; unfold vaS; rw [he, if_neg h0])
    have h0' : ((e : Int) != 0) = true := by simp; omega
    clear hc1 hc2 hn hm hk he h0
    obtain ⟨t0, t1, t2, t3⟩ := B0.out
    go_enter Try.func25, Try.ntmps25
    go_wp2_with fail
    refine (rCheckGrid_c _ _ _ xs ys vs e HC _ (R1.out.q HQ0.out) (R2.out.q HQ0.out) (R3.out.q HQ0.out) hl).mono ?_; rintro E w1 ⟨rfl, hq1⟩
    obtain ⟨b0, b1, b2, b3⟩ := B0.out.q hq1
    have Q1 := Lib.hid hq1
    clear hq1 hW0 t0 t1 t2 t3
    go_wp2_with fail
    go_ret
    exact ⟨ret_int HE.out, HQ0.out.trans Q1.out⟩
end Go.Proofs.Ytlkgbfiaeedpfaa
