/- The contract of the reference's CheckGrid. -/
import Derived.Test.YtlkgbfiaeedpfaaGrid
set_option linter.unusedVariables false
set_option linter.unusedSimpArgs false
namespace Go.Proofs.Ytlkgbfiaeedpfaa
open Go.ChangeShapes Go.WideShapes Go.ChangeAt Go.RowKit Cm

set_option maxRecDepth 100000 in
set_option maxHeartbeats 3200000 in
theorem rCheckGrid_c (v1 v2 v3 : Value) (xs ys : List Int) (vs : List (List Int)) (e : Nat) (he : Hid (chkG xs ys vs = e)) (w : World) (h1 : RdI w v1 xs) (h2 : RdI w v2 ys) (h3 : RdV w v3 vs) (hl : Hid (GrL xs ys vs)) : Calls Try.prog 23 #[.agg #[v1, v2, v3]] w fun r w' => r = .returned (.int .i64 e) ∧ Q w w' := by
  have R1 := Lib.hid h1
  have R2 := Lib.hid h2
  have R3 := Lib.hid h3
  obtain ⟨A1, c1, rfl, hc1, _⟩ := h1
  obtain ⟨A2, c2, rfl, hc2, _⟩ := h2
  obtain ⟨A3, c3, rfl, hc3⟩ := h3.len
  obtain ⟨n, hn⟩ : ∃ n, xs.length = n := ⟨_, rfl⟩
  obtain ⟨m, hm⟩ : ∃ n, ys.length = n := ⟨_, rfl⟩
  obtain ⟨k, hk⟩ : ∃ n, vs.length = n := ⟨_, rfl⟩
  have HN := Lib.hid hn
  have HM := Lib.hid hm
  have HK := Lib.hid hk
  rw [hn] at R1 hc1
  rw [hm] at R2 hc2
  rw [hk] at R3 hc3
  rw [hn, hm, hk]
  have ln : n ≤ 1000000 := by rw [← hn]; exact hl.out.lx
  have lm : m ≤ 1000000 := by rw [← hm]; exact hl.out.ly
  have lk : k ≤ 1000000 := by rw [← hk]; exact hl.out.lv
  clear h3
  have fin : ∀ (w1 : World), Q (w.alloc (.cells #[.slice A1 n c1, .slice A2 m c2, .slice A3 k c3] 34)) w1 → Q w w1 := fun w1 h => Q.trans ((Q.refl w).alloc _) h
  have FIN := Lib.hid fin
  have B0 := Lib.hid (box3_new w (.slice A1 n c1) (.slice A2 m c2) (.slice A3 k c3) 34)
  have HSZ := Lib.hid (Nat.le_refl w.heap.size)
  clear fin
  by_cases g1 : n = 0 ∨ m = 0
  · have HE := Lib.hid (show ((3 : Nat) : Int) = (e : Int) by rw [← he.out]; unfold chkG; rw [if_pos (by omega)])
    clear hc1 hc2 hc3 hn hm hk
    rcases g1 with g1 | g1
    · have t1 : ((n : Int) == 0) = true := by simp; omega
      clear g1
      go_enter Try.func23, Try.ntmps23
      go_wp2_with fail
      go_ret
      exact ⟨ret_int HE.out, FIN.out _ (by repeat (first | exact Q.refl _ | assumption | refine Q.drewN ?_ _ | refine Q.drew ?_))⟩
    · have t1 : ((m : Int) == 0) = true := by simp; omega
      obtain ⟨z, hz⟩ : ∃ z, ((n : Int) == 0) = z := ⟨_, rfl⟩
      clear g1
      cases z
      · skip
        go_enter Try.func23, Try.ntmps23
        go_wp2_with fail
        go_ret
        exact ⟨ret_int HE.out, FIN.out _ (by repeat (first | exact Q.refl _ | assumption | refine Q.drewN ?_ _ | refine Q.drew ?_))⟩
      · skip
        go_enter Try.func23, Try.ntmps23
        go_wp2_with fail
        go_ret
        exact ⟨ret_int HE.out, FIN.out _ (by repeat (first | exact Q.refl _ | assumption | refine Q.drewN ?_ _ | refine Q.drew ?_))⟩
  have f1 : ((n : Int) == 0) = false := by simp; omega
  have f2 : ((m : Int) == 0) = false := by simp; omega
  by_cases g2 : 16 < n ∨ 16 < m
  · have HE := Lib.hid (show ((4 : Nat) : Int) = (e : Int) by rw [← he.out]; unfold chkG; rw [if_neg (by omega), if_pos (by omega)])
    clear hc1 hc2 hc3 hn hm hk g1
    by_cases g3 : 16 < n
    · have t1 : (16 : Int) < (n : Int) := by omega
      have t1d : decide ((16 : Int) < (n : Int)) = true := decide_eq_true t1
      clear g2 g3
      go_enter Try.func23, Try.ntmps23
      go_wp2_with fail
      go_ret
      exact ⟨ret_int HE.out, FIN.out _ (by repeat (first | exact Q.refl _ | assumption | refine Q.drewN ?_ _ | refine Q.drew ?_))⟩
    · have t1 : (16 : Int) < (m : Int) := by omega
      have t2 : ¬ (16 : Int) < (n : Int) := by omega
      have t1d : decide ((16 : Int) < (m : Int)) = true := decide_eq_true t1
      have t2d : decide ((16 : Int) < (n : Int)) = false := decide_eq_false t2
      clear g2 g3
      go_enter Try.func23, Try.ntmps23
      go_wp2_with fail
      go_ret
      exact ⟨ret_int HE.out, FIN.out _ (by repeat (first | exact Q.refl _ | assumption | refine Q.drewN ?_ _ | refine Q.drew ?_))⟩
  have f3 : ¬ (16 : Int) < (n : Int) := by omega
  have f4 : ¬ (16 : Int) < (m : Int) := by omega
  have f3d : decide ((16 : Int) < (n : Int)) = false := decide_eq_false f3
  have f4d : decide ((16 : Int) < (m : Int)) = false := decide_eq_false f4
  have HC := Lib.hid (show (if numE xs = 0 then (if numE ys = 0 then (if vs.length = xs.length then firstE (fun i => rowE (R vs i) ys.length) vs.length else 19) else numE ys) else numE xs) = e by rw [← he.out]; exact (chkG_mid (by omega) (by omega) (by omega) (by omega)).symm)
  obtain ⟨ex, hex⟩ : ∃ z, numE xs = z := ⟨_, rfl⟩
  obtain ⟨ey, hey⟩ : ∃ z, numE ys = z := ⟨_, rfl⟩
  rw [hex, hey] at HC
  have HX := Lib.hid hex
  have HY := Lib.hid hey
  have hn16 : n ≤ 16 := by omega
  have hm16 : m ≤ 16 := by omega
  have HLX := Lib.hid (show xs.length ≤ 1000000 by omega)
  have HLY := Lib.hid (show ys.length ≤ 1000000 by omega)
  have HRX := Lib.hid (fun W (h : Q (w.alloc (.cells #[.slice A1 n c1, .slice A2 m c2, .slice A3 k c3] 34)) W) => RdG.q R1.out (FIN.out W h))
  have HRY := Lib.hid (fun W (h : Q (w.alloc (.cells #[.slice A1 n c1, .slice A2 m c2, .slice A3 k c3] 34)) W) => RdG.q R2.out (FIN.out W h))
  clear hc1 hc2 hn hm g1 g2 hex hey
  by_cases g3 : ex = 0
  · have t3 : ((ex : Int) != 0) = false := by subst g3; rfl
    by_cases g4 : ey = 0
    · have t4 : ((ey : Int) != 0) = false := by subst g4; rfl
      by_cases g5 : k = n
      · have HF := Lib.hid (show firstE (fun i => rowE (R vs i) ys.length) vs.length = e by rw [← HC.out, if_pos g3, if_pos g4, if_pos (by rw [hk, HN.out]; exact g5)])
        have g5s : n = k := g5.symm
        clear g3 g4 hk g5
        subst g5s
        go_enter Try.func23, Try.ntmps23
        go_wp2_with fail
        refine (numbers_c _ xs ex HX _ (HRX.out _ (Q.refl _)) HLX.out).mono ?_; rintro E w1 ⟨rfl, hq1⟩
        obtain ⟨b0, b1, b2, b3⟩ := B0.out.q hq1
        have Q1 := Lib.hid hq1
        clear hq1
        go_wp2_with fail
        refine (numbers_c _ ys ey HY _ (HRY.out _ Q1.out) HLY.out).mono ?_; rintro E w2 ⟨rfl, hq2⟩
        obtain ⟨b4, b5, b6, b7⟩ := B0.out.q (Q1.out.trans hq2)
        have Q2 := Lib.hid (Q1.out.trans hq2)
        clear hq2 b0 b1 b2 b3
        go_wp2_with fail
        clear b4 b5 b6 b7
        go_loopw [5] (fun u5 wr => ∃ j : Nat, j ≤ n ∧ u5 = .int .i64 j ∧ Hid ((∀ i, i < j → rowE (R vs i) m = 0) ∧ Q (w.alloc (.cells #[.slice A1 n c1, .slice A2 m c2, .slice A3 n c3] 34)) wr)) (fun u5 _ => n - (intOf u5).toNat)
        case atStart => exact ⟨0, Nat.zero_le _, rfl, fun i hi => by omega, Q2.out⟩
        case round =>
          obtain ⟨j, hj, rfl, HI⟩ := hrel
          obtain ⟨d0, d1, d2, d3⟩ := B0.out.q HI.out.2
          by_cases hlt : j < n
          · have hkl : j < vs.length := by rw [HK.out]; exact hlt
            obtain ⟨b, off, A', c', rfl, hb, hcc, cj, hlc, hri⟩ := R3.out.at (FIN.out _ HI.out.2) hkl
            have hjn : (j : Int) < (n : Int) := by omega
            obtain ⟨q, hq⟩ : ∃ q, (R vs j).length = q := ⟨_, rfl⟩
            rw [hq] at cj hlc hri
            have HRI := Lib.hid hri
            have hq6 : q ≤ 1000000 := by rw [← hq]; exact hl.out.lr j
            have QI := Lib.hid HI.out.2
            have HZI := Lib.hid HI.out.1
            have HKL := Lib.hid hkl
            have HQL := Lib.hid hq
            have HBW := Lib.hid hb
            clear hkl hri HI hb
            by_cases hqm : q = m
            · have t7 : ((q : Int) != (m : Int)) = false := by subst hqm; simp
              have HQM := Lib.hid hqm
              clear hq hqm
              have HCJ := Lib.hid cj
              have HBR := Lib.hid (show b < wr.heap.size from Nat.lt_of_lt_of_le HBW.out (FIN.out _ QI.out).size)
              go_wp2_with fail
              go_quiet (fail)
              go_wp2_with fail
              clear d0 d1 d2 d3 cj
              go_loopw [6] (fun u6 wx => ∃ t : Nat, t ≤ q ∧ u6 = .int .i64 t ∧ Hid ((∀ i, i < t → errV (R vs j) i = 0) ∧ Q wr wx)) (fun u6 _ => q - (intOf u6).toNat)
              case atStart => exact ⟨0, Nat.zero_le _, rfl, fun i hi => by omega, (Q.refl _).drewN _⟩
              case round =>
                obtain ⟨t, ht, rfl, HT⟩ := hrel
                obtain ⟨d0, d1, d2, d3⟩ := B0.out.q (QI.out.trans HT.out.2)
                have cj := (HT.out.2.cell (p := ⟨b, off + j, none⟩) HBR.out).trans HCJ.out
                by_cases htq : t < q
                · have htl : t < (R vs j).length := by rw [HQL.out]; exact htq
                  obtain ⟨b3, off3, rfl, hb3, hc3', ct⟩ := HRI.out.at HT.out.2 htl
                  obtain ⟨x, hx⟩ : ∃ x, N (R vs j) t = x := ⟨_, rfl⟩
                  rw [hx] at ct
                  obtain ⟨bx, hbx⟩ : ∃ bx, inR x = bx := ⟨_, rfl⟩
                  have HX := Lib.hid hbx
                  have HXE := Lib.hid hx
                  have htn : (t : Int) < (q : Int) := by omega
                  have HTL := Lib.hid htl
                  clear hx hbx htl
                  cases bx with
                  | false =>
                    have HE := Lib.hid (show ((9 : Nat) : Int) = (e : Int) by
                      have h9 : errV (R vs j) t = 9 := by unfold errV; rw [HXE.out, HX.out]; rfl
                      have h9r : rowE (R vs j) m = 9 := by unfold rowE; rw [if_pos (by rw [HQL.out]; exact HQM.out), firstE_hit HT.out.1 HTL.out (by rw [h9]; decide), h9]
                      rw [← HF.out, firstE_hit (k := j) (by rw [HM.out]; exact HZI.out) HKL.out (by rw [HM.out, h9r]; decide), HM.out, h9r])
                    go_wp2_with fail
                    refine (rsmall_c x false HX _).mono ?_; rintro E w4 ⟨rfl, rfl⟩
                    go_wp2_with fail
                    go_ret
                    exact ⟨ret_int HE.out, FIN.out _ (QI.out.trans (by repeat (first | exact HT.out.2 | refine Q.drewN ?_ _ | refine Q.drew ?_)))⟩
                  | true =>
                    have HG := Lib.hid (zerosN HT.out.1 (show errV (R vs j) t = 0 by unfold errV; rw [HXE.out, HX.out]; rfl))
                    go_wp2_with fail
                    refine (rsmall_c x true HX _).mono ?_; rintro E w4 ⟨rfl, rfl⟩
                    go_wp2_with fail
                    go_roundw
                    case rel => exact ⟨t + 1, by omega, by go_num, HG.out, by repeat (first | exact HT.out.2 | refine Q.drewN ?_ _ | refine Q.drew ?_)⟩
                    case measure => simp [intOf] <;> omega
                · obtain rfl : t = q := by omega
                  have HG := Lib.hid (zerosN (f := fun i => rowE (R vs i) m) HZI.out (show rowE (R vs j) m = 0 by unfold rowE; rw [if_pos (by rw [HQL.out]; exact HQM.out)]; exact firstE_none (by rw [HQL.out]; exact HT.out.1)))
                  go_wp2_with fail
                  go_roundw
                  case rel => exact ⟨j + 1, by omega, by go_num, HG.out, QI.out.trans HT.out.2⟩
                  case measure => simp [intOf] <;> omega
            · have t7 : ((q : Int) != (m : Int)) = true := by simp; omega
              have HE := Lib.hid (show ((19 : Nat) : Int) = (e : Int) by
                have h19 : rowE (R vs j) m = 19 := by unfold rowE; rw [if_neg (by rw [hq]; exact hqm)]
                rw [← HF.out, firstE_hit (k := j) (by rw [HM.out]; exact HZI.out) HKL.out (by rw [HM.out, h19]; decide), HM.out, h19])
              clear hq hqm
              go_wp2_with fail
              go_quiet (fail)
              go_wp2_with fail
              go_ret
              exact ⟨ret_int HE.out, FIN.out _ (QI.out.drewN _)⟩
          · obtain rfl : j = n := by omega
            have HE := Lib.hid (show ((0 : Nat) : Int) = (e : Int) by rw [← HF.out, firstE_none (by rw [HM.out, HK.out]; exact HI.out.1)])
            go_wp2_with fail
            go_ret
            exact ⟨ret_int HE.out, FIN.out _ HI.out.2⟩
      · have HE := Lib.hid (show ((19 : Nat) : Int) = (e : Int) by rw [← HC.out, if_pos g3, if_pos g4, if_neg (by rw [hk, HN.out]; exact g5)])
        have t5 : ((k : Int) != (n : Int)) = true := by simp; omega
        clear g3 g4 hk g5
        go_enter Try.func23, Try.ntmps23
        go_wp2_with fail
        refine (numbers_c _ xs ex HX _ (HRX.out _ (Q.refl _)) HLX.out).mono ?_; rintro E w1 ⟨rfl, hq1⟩
        obtain ⟨b0, b1, b2, b3⟩ := B0.out.q hq1
        have Q1 := Lib.hid hq1
        clear hq1
        go_wp2_with fail
        refine (numbers_c _ ys ey HY _ (HRY.out _ Q1.out) HLY.out).mono ?_; rintro E w2 ⟨rfl, hq2⟩
        obtain ⟨b4, b5, b6, b7⟩ := B0.out.q (Q1.out.trans hq2)
        have Q2 := Lib.hid (Q1.out.trans hq2)
        clear hq2 b0 b1 b2 b3
        go_wp2_with fail
        go_ret
        exact ⟨ret_int HE.out, FIN.out _ Q2.out⟩
    · have HE := Lib.hid (show (ey : Int) = (e : Int) by rw [← HC.out, if_pos g3, if_neg g4])
      have t4 : ((ey : Int) != 0) = true := by simp; omega
      clear g3 g4 hk
      go_enter Try.func23, Try.ntmps23
      go_wp2_with fail
      refine (numbers_c _ xs ex HX _ (HRX.out _ (Q.refl _)) HLX.out).mono ?_; rintro E w1 ⟨rfl, hq1⟩
      obtain ⟨b0, b1, b2, b3⟩ := B0.out.q hq1
      have Q1 := Lib.hid hq1
      clear hq1
      go_wp2_with fail
      refine (numbers_c _ ys ey HY _ (HRY.out _ Q1.out) HLY.out).mono ?_; rintro E w2 ⟨rfl, hq2⟩
      obtain ⟨b4, b5, b6, b7⟩ := B0.out.q (Q1.out.trans hq2)
      have Q2 := Lib.hid (Q1.out.trans hq2)
      clear hq2 b0 b1 b2 b3
      go_wp2_with fail
      go_ret
      exact ⟨ret_int HE.out, FIN.out _ Q2.out⟩
  · have HE := Lib.hid (show (ex : Int) = (e : Int) by rw [← HC.out, if_neg g3])
    have t3 : ((ex : Int) != 0) = true := by simp; omega
    clear g3 hk
    go_enter Try.func23, Try.ntmps23
    go_wp2_with fail
    refine (numbers_c _ xs ex HX _ (HRX.out _ (Q.refl _)) HLX.out).mono ?_; rintro E w1 ⟨rfl, hq1⟩
    obtain ⟨b0, b1, b2, b3⟩ := B0.out.q hq1
    have Q1 := Lib.hid hq1
    clear hq1
    go_wp2_with fail
    go_ret
    exact ⟨ret_int HE.out, FIN.out _ Q1.out⟩
end Go.Proofs.Ytlkgbfiaeedpfaa
