/- The contracts of both CheckGrids. -/
import Derived.Test.YtlkgbfiaeedpfaaNums
set_option linter.unusedVariables false
set_option linter.unusedSimpArgs false
namespace Go.Proofs.Ytlkgbfiaeedpfaa
open Go.ChangeShapes Go.WideShapes Go.ChangeAt Go.RowKit Cm

/-- a slice that reads as a list of rows -/
def RdV (w : World) (v : Value) (vs : List (List Int)) : Prop := ∃ us : List Value, RdG 1 (fun u => [u]) w v us ∧ us.length = vs.length ∧ ∀ i u, us[i]? = some u → RdI w u (R vs i)
theorem RdV.q {w w' : World} {v : Value} {vs : List (List Int)} (h : RdV w v vs) (hq : Q w w') : RdV w' v vs := by
  obtain ⟨us, h1, h2, h3⟩ := h
  exact ⟨us, h1.q hq, h2, fun i u hu => (h3 i u hu).q hq⟩
theorem RdV.at {w w' : World} {A : Option Addr} {n c : Nat} {vs : List (List Int)} (h : RdV w (.slice A n c) vs) (hq : Q w w') {i : Nat} (hi : i < vs.length) : ∃ b off A' c', A = some ⟨b, off, none⟩ ∧ b < w.heap.size ∧ n ≤ c ∧
    w'.cell? ⟨b, off + i, none⟩ = some (.slice A' (R vs i).length c') ∧ (R vs i).length ≤ c' ∧ RdI w' (.slice A' (R vs i).length c') (R vs i) := by
  obtain ⟨us, ⟨A0, c0, h1, h2, h3⟩, hl, hr⟩ := h
  injection h1 with e1 e2 e3
  subst e1 e2 e3
  obtain ⟨b, off, e, hb, hc⟩ := h3 (by omega)
  have hu : us[i]? = some (us[i]'(by omega)) := List.getElem?_eq_getElem (by omega)
  have hri := hr i _ hu
  have h7 := hc i _ hu 0 _ rfl
  have h8 := hri
  obtain ⟨A', c', g1, g2, _⟩ := h8
  have h9 := (hq.cell (p := ⟨b, off + i * 1 + 0, none⟩) hb).trans h7
  rw [Nat.mul_one, Nat.add_zero, g1] at h9
  rw [g1] at hri
  exact ⟨b, off, A', c', e, hb, h2, h9, g2, hri.q hq⟩
theorem RdV.len {w : World} {v : Value} {vs : List (List Int)} (h : RdV w v vs) : ∃ A c, v = .slice A vs.length c ∧ vs.length ≤ c := by
  obtain ⟨us, ⟨A, c, h1, h2, _⟩, hl, _⟩ := h
  exact ⟨A, c, by rw [← hl]; exact h1, by rw [← hl]; exact h2⟩
def box3 (w : World) (g : Nat) (v1 v2 v3 : Value) : Prop := w.cell? ⟨g, 0, none⟩ = some v1 ∧ w.cell? ⟨g, 1, none⟩ = some v2 ∧ w.cell? ⟨g, 2, none⟩ = some v3 ∧ g < w.heap.size
theorem box3.q {w w' : World} {g : Nat} {v1 v2 v3 : Value} (h : box3 w g v1 v2 v3) (hq : Q w w') : box3 w' g v1 v2 v3 := by
  obtain ⟨h1, h2, h3, h4⟩ := h
  exact ⟨(hq.cell (p := ⟨g, 0, none⟩) h4).trans h1, (hq.cell (p := ⟨g, 1, none⟩) h4).trans h2, (hq.cell (p := ⟨g, 2, none⟩) h4).trans h3, Nat.lt_of_lt_of_le h4 hq.size⟩
theorem box3_new (w : World) (v1 v2 v3 : Value) (T : TypeId) : box3 (w.alloc (.cells #[v1, v2, v3] T)) w.heap.size v1 v2 v3 :=
  ⟨World.cell?_alloc_at _ _ _ _ rfl, World.cell?_alloc_at _ _ _ _ rfl, World.cell?_alloc_at _ _ _ _ rfl, by show w.heap.size < (w.heap.push _).size; simp⟩
structure GrL (xs ys : List Int) (vs : List (List Int)) : Prop where
  lx : xs.length ≤ 1000000
  ly : ys.length ≤ 1000000
  lv : vs.length ≤ 1000000
  lr : ∀ i, (R vs i).length ≤ 1000000
set_option maxRecDepth 100000 in
set_option maxHeartbeats 3200000 in
theorem CheckGrid_c (v1 v2 v3 : Value) (xs ys : List Int) (vs : List (List Int)) (e : Nat) (he : Hid (chkG xs ys vs = e)) (w : World) (h1 : RdI w v1 xs) (h2 : RdI w v2 ys) (h3 : RdV w v3 vs) (hl : Hid (GrL xs ys vs)) : Calls Try.prog 22 #[.agg #[v1, v2, v3]] w fun r w' => r = .returned (.int .i64 e) ∧ Q w w' := by
  have R1 := Lib.hid h1
  have R2 := Lib.hid h2
  have R3 := Lib.hid h3
  obtain ⟨A1, c1, rfl, hc1, _⟩ := h1
  obtain ⟨A2, c2, rfl, hc2, _⟩ := h2
  obtain ⟨A3, c3, rfl, hc3⟩ := h3.len
  obtain ⟨n, hn⟩ : ∃ n, xs.length = n := ⟨_, rfl⟩
  obtain ⟨m, hm⟩ : ∃ n, ys.length = n := ⟨_, rfl⟩
  obtain ⟨k, hk⟩ : ∃ n, vs.length = n := ⟨_, rfl⟩
  have HN := Lib.hid hn
  have HM := Lib.hid hm
  have HK := Lib.hid hk
  rw [hn] at R1 hc1
  rw [hm] at R2 hc2
  rw [hk] at R3 hc3
  rw [hn, hm, hk]
  have ln : n ≤ 1000000 := by rw [← hn]; exact hl.out.lx
  have lm : m ≤ 1000000 := by rw [← hm]; exact hl.out.ly
  have lk : k ≤ 1000000 := by rw [← hk]; exact hl.out.lv
  clear h3
  have fin : ∀ (w1 : World), Q (w.alloc (.cells #[.slice A1 n c1, .slice A2 m c2, .slice A3 k c3] 34)) w1 → Q w w1 := fun w1 h => Q.trans ((Q.refl w).alloc _) h
  have FIN := Lib.hid fin
  have B0 := Lib.hid (box3_new w (.slice A1 n c1) (.slice A2 m c2) (.slice A3 k c3) 34)
  have HSZ := Lib.hid (Nat.le_refl w.heap.size)
  clear fin
  by_cases g1 : n = 0 ∨ m = 0
  · have HE := Lib.hid (show ((3 : Nat) : Int) = (e : Int) by rw [← he.out]; unfold chkG; rw [if_pos (by omega)])
    clear hc1 hc2 hc3 hn hm hk
    rcases g1 with g1 | g1
    · have t1 : ((n : Int) == 0) = true := by simp; omega
      clear g1
      go_enter Try.func22, Try.ntmps22
      go_wp2_with fail
      go_ret
      exact ⟨ret_int HE.out, FIN.out _ (by repeat (first | exact Q.refl _ | assumption | refine Q.drewN ?_ _ | refine Q.drew ?_))⟩
    · have t1 : ((m : Int) == 0) = true := by simp; omega
      obtain ⟨z, hz⟩ : ∃ z, ((n : Int) == 0) = z := ⟨_, rfl⟩
      clear g1
      cases z
      · skip
        go_enter Try.func22, Try.ntmps22
        go_wp2_with fail
        go_ret
        exact ⟨ret_int HE.out, FIN.out _ (by repeat (first | exact Q.refl _ | assumption | refine Q.drewN ?_ _ | refine Q.drew ?_))⟩
      · skip
        go_enter Try.func22, Try.ntmps22
        go_wp2_with fail
        go_ret
        exact ⟨ret_int HE.out, FIN.out _ (by repeat (first | exact Q.refl _ | assumption | refine Q.drewN ?_ _ | refine Q.drew ?_))⟩
  have f1 : ((n : Int) == 0) = false := by simp; omega
  have f2 : ((m : Int) == 0) = false := by simp; omega
  by_cases g2 : 16 < n ∨ 16 < m
  · have HE := Lib.hid (show ((4 : Nat) : Int) = (e : Int) by rw [← he.out]; unfold chkG; rw [if_neg (by omega), if_pos (by omega)])
    clear hc1 hc2 hc3 hn hm hk g1
    by_cases g3 : 16 < n
    · have t1 : (16 : Int) < (n : Int) := by omega
      have t1d : decide ((16 : Int) < (n : Int)) = true := decide_eq_true t1
      clear g2 g3
      go_enter Try.func22, Try.ntmps22
      go_wp2_with fail
      go_ret
      exact ⟨ret_int HE.out, FIN.out _ (by repeat (first | exact Q.refl _ | assumption | refine Q.drewN ?_ _ | refine Q.drew ?_))⟩
    · have t1 : (16 : Int) < (m : Int) := by omega
      have t2 : ¬ (16 : Int) < (n : Int) := by omega
      have t1d : decide ((16 : Int) < (m : Int)) = true := decide_eq_true t1
      have t2d : decide ((16 : Int) < (n : Int)) = false := decide_eq_false t2
      clear g2 g3
      go_enter Try.func22, Try.ntmps22
      go_wp2_with fail
      go_ret
      exact ⟨ret_int HE.out, FIN.out _ (by repeat (first | exact Q.refl _ | assumption | refine Q.drewN ?_ _ | refine Q.drew ?_))⟩
  have f3 : ¬ (16 : Int) < (n : Int) := by omega
  have f4 : ¬ (16 : Int) < (m : Int) := by omega
  have f3d : decide ((16 : Int) < (n : Int)) = false := decide_eq_false f3
  have f4d : decide ((16 : Int) < (m : Int)) = false := decide_eq_false f4
  have HC := Lib.hid (show (if numE xs = 0 then (if numE ys = 0 then (if vs.length = xs.length then firstE (fun i => rowE (R vs i) ys.length) vs.length else 19) else numE ys) else numE xs) = e by rw [← he.out]; exact (chkG_mid (by omega) (by omega) (by omega) (by omega)).symm)
  obtain ⟨ex, hex⟩ : ∃ z, numE xs = z := ⟨_, rfl⟩
  obtain ⟨ey, hey⟩ : ∃ z, numE ys = z := ⟨_, rfl⟩
  rw [hex, hey] at HC
  have HX := Lib.hid hex
  have HY := Lib.hid hey
  have hn16 : n ≤ 16 := by omega
  have hm16 : m ≤ 16 := by omega
  have HLX := Lib.hid (show xs.length ≤ 1000000 by omega)
  have HLY := Lib.hid (show ys.length ≤ 1000000 by omega)
  have HRX := Lib.hid (fun W (h : Q (w.alloc (.cells #[.slice A1 n c1, .slice A2 m c2, .slice A3 k c3] 34)) W) => RdG.q R1.out (FIN.out W h))
  have HRY := Lib.hid (fun W (h : Q (w.alloc (.cells #[.slice A1 n c1, .slice A2 m c2, .slice A3 k c3] 34)) W) => RdG.q R2.out (FIN.out W h))
  clear hc1 hc2 hn hm g1 g2 hex hey
  by_cases g3 : ex = 0
  · have t3 : ((ex : Int) != 0) = false := by subst g3; rfl
    by_cases g4 : ey = 0
    · have t4 : ((ey : Int) != 0) = false := by subst g4; rfl
      by_cases g5 : k = n
      · have HF := Lib.hid (show firstE (fun i => rowE (R vs i) ys.length) vs.length = e by rw [← HC.out, if_pos g3, if_pos g4, if_pos (by rw [hk, HN.out]; exact g5)])
        have g5s : n = k := g5.symm
        clear g3 g4 hk g5
        subst g5s
        go_enter Try.func22, Try.ntmps22
        go_wp2_with fail
        refine (checkPlaces_c _ xs ex HX _ (HRX.out _ (Q.refl _)) HLX.out).mono ?_; rintro E w1 ⟨rfl, hq1⟩
        obtain ⟨b0, b1, b2, b3⟩ := B0.out.q hq1
        have Q1 := Lib.hid hq1
        clear hq1
        go_wp2_with fail
        refine (checkPlaces_c _ ys ey HY _ (HRY.out _ Q1.out) HLY.out).mono ?_; rintro E w2 ⟨rfl, hq2⟩
        obtain ⟨b4, b5, b6, b7⟩ := B0.out.q (Q1.out.trans hq2)
        have Q2 := Lib.hid (Q1.out.trans hq2)
        clear hq2 b0 b1 b2 b3
        go_wp2_with fail
        clear b4 b5 b6 b7
        go_loopw [50] (fun u50 wr => ∃ j : Nat, j ≤ n ∧ u50 = .int .i64 j ∧ Hid ((∀ i, i < j → rowE (R vs i) m = 0) ∧ Q (w.alloc (.cells #[.slice A1 n c1, .slice A2 m c2, .slice A3 n c3] 34)) wr)) (fun u50 _ => n - (intOf u50).toNat)
        case atStart => exact ⟨0, Nat.zero_le _, rfl, fun i hi => by omega, Q2.out⟩
        case round =>
          obtain ⟨j, hj, rfl, HI⟩ := hrel
          by_cases hlt : j < n
          · have hkl : j < vs.length := by rw [HK.out]; exact hlt
            obtain ⟨b, off, A', c', rfl, hb, hcc, cj, hlc, hri⟩ := R3.out.at (FIN.out _ HI.out.2) hkl
            obtain ⟨q, hq⟩ : ∃ q, (R vs j).length = q := ⟨_, rfl⟩
            rw [hq] at cj hlc hri
            obtain ⟨er, her⟩ : ∃ z, rowE (R vs j) m = z := ⟨_, rfl⟩
            have HER := Lib.hid her
            have HRI := Lib.hid hri
            have HLR := Lib.hid (hl.out.lr j)
            have QI := Lib.hid HI.out.2
            obtain ⟨d0, d1, d2, d3⟩ := B0.out.q HI.out.2
            by_cases g6 : er = 0
            · have t6 : ((er : Int) != 0) = false := by subst g6; rfl
              have HG := Lib.hid (zerosN (f := fun i => rowE (R vs i) m) HI.out.1 (show rowE (R vs j) m = 0 by rw [her, g6]))
              clear hkl her hri hq g6 HI
              go_wp2_with fail
              refine (checkRow_c _ (R vs j) m er HER _ HRI.out HLR.out).mono ?_; rintro E w3 ⟨rfl, hq3⟩
              have Q3 := Lib.hid (QI.out.trans hq3)
              clear hq3 d0 d1 d2 d3
              go_wp2_with fail
              go_roundw
              case rel => exact ⟨j + 1, by omega, by go_num, HG.out, Q3.out⟩
              case measure => simp [intOf] <;> omega
            · have t6 : ((er : Int) != 0) = true := by simp; omega
              have HE := Lib.hid (show (er : Int) = (e : Int) by rw [← HF.out, firstE_hit (k := j) (by rw [HM.out]; exact HI.out.1) hkl (by rw [HM.out, her]; exact g6), HM.out, her])
              clear hkl her hri hq g6 HI
              go_wp2_with fail
              refine (checkRow_c _ (R vs j) m er HER _ HRI.out HLR.out).mono ?_; rintro E w3 ⟨rfl, hq3⟩
              have Q3 := Lib.hid (QI.out.trans hq3)
              clear hq3 d0 d1 d2 d3
              go_wp2_with fail
              go_ret
              exact ⟨ret_int HE.out, FIN.out _ Q3.out⟩
          · obtain rfl : j = n := by omega
            have HE := Lib.hid (show ((0 : Nat) : Int) = (e : Int) by rw [← HF.out, firstE_none (by rw [HM.out, HK.out]; exact HI.out.1)])
            go_wp2_with fail
            go_ret
            exact ⟨ret_int HE.out, FIN.out _ HI.out.2⟩
      · have HE := Lib.hid (show ((19 : Nat) : Int) = (e : Int) by rw [← HC.out, if_pos g3, if_pos g4, if_neg (by rw [hk, HN.out]; exact g5)])
        have t5 : ((k : Int) != (n : Int)) = true := by simp; omega
        clear g3 g4 hk g5
        go_enter Try.func22, Try.ntmps22
        go_wp2_with fail
        refine (checkPlaces_c _ xs ex HX _ (HRX.out _ (Q.refl _)) HLX.out).mono ?_; rintro E w1 ⟨rfl, hq1⟩
        obtain ⟨b0, b1, b2, b3⟩ := B0.out.q hq1
        have Q1 := Lib.hid hq1
        clear hq1
        go_wp2_with fail
        refine (checkPlaces_c _ ys ey HY _ (HRY.out _ Q1.out) HLY.out).mono ?_; rintro E w2 ⟨rfl, hq2⟩
        obtain ⟨b4, b5, b6, b7⟩ := B0.out.q (Q1.out.trans hq2)
        have Q2 := Lib.hid (Q1.out.trans hq2)
        clear hq2 b0 b1 b2 b3
        go_wp2_with fail
        go_ret
        exact ⟨ret_int HE.out, FIN.out _ Q2.out⟩
    · have HE := Lib.hid (show (ey : Int) = (e : Int) by rw [← HC.out, if_pos g3, if_neg g4])
      have t4 : ((ey : Int) != 0) = true := by simp; omega
      clear g3 g4 hk
      go_enter Try.func22, Try.ntmps22
      go_wp2_with fail
      refine (checkPlaces_c _ xs ex HX _ (HRX.out _ (Q.refl _)) HLX.out).mono ?_; rintro E w1 ⟨rfl, hq1⟩
      obtain ⟨b0, b1, b2, b3⟩ := B0.out.q hq1
      have Q1 := Lib.hid hq1
      clear hq1
      go_wp2_with fail
      refine (checkPlaces_c _ ys ey HY _ (HRY.out _ Q1.out) HLY.out).mono ?_; rintro E w2 ⟨rfl, hq2⟩
      obtain ⟨b4, b5, b6, b7⟩ := B0.out.q (Q1.out.trans hq2)
      have Q2 := Lib.hid (Q1.out.trans hq2)
      clear hq2 b0 b1 b2 b3
      go_wp2_with fail
      go_ret
      exact ⟨ret_int HE.out, FIN.out _ Q2.out⟩
  · have HE := Lib.hid (show (ex : Int) = (e : Int) by rw [← HC.out, if_neg g3])
    have t3 : ((ex : Int) != 0) = true := by simp; omega
    clear g3 hk
    go_enter Try.func22, Try.ntmps22
    go_wp2_with fail
    refine (checkPlaces_c _ xs ex HX _ (HRX.out _ (Q.refl _)) HLX.out).mono ?_; rintro E w1 ⟨rfl, hq1⟩
    obtain ⟨b0, b1, b2, b3⟩ := B0.out.q hq1
    have Q1 := Lib.hid hq1
    clear hq1
    go_wp2_with fail
    go_ret
    exact ⟨ret_int HE.out, FIN.out _ Q1.out⟩
end Go.Proofs.Ytlkgbfiaeedpfaa
