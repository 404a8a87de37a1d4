/- The contracts of inRange, checkReading and Check, and of the reference's Check. -/
import Derived.Test.YtlcgbeocdimboaaDoorMath
import Derived.Test.YtlcgbeocdimboaaDoorPRA
set_option linter.unusedVariables false
set_option linter.unusedSimpArgs false
namespace Go.Proofs.YtlcgbeocdimboaaDoor
open Go.ChangeShapes Go.WideShapes Go.ChangeAt Go.RowKit Pm

theorem inR_c (n : Int) (b : Bool) (h : Hid (inR n = b)) (w : World) : Calls Tryd.prog 40 #[.int .i64 n] w fun e w' => e = .returned (.bool b) ∧ w' = w := by
  by_cases h1 : n < -600
  · have HE := Lib.hid (show false = b by rw [← h.out]; unfold inR; simp; omega)
    have t1 : decide (-600 ≤ n) = false := decide_eq_false (by omega)
    go_enter Tryd.func40, Tryd.ntmps40
    go_wp2_with fail
    go_ret
    exact ⟨ret_bool HE.out, rfl⟩
  · have t1 : decide (-600 ≤ n) = true := decide_eq_true (by omega)
    by_cases h2 : 600 < n
    · have HE := Lib.hid (show false = b by rw [← h.out]; unfold inR; simp; omega)
      have t2 : decide (n ≤ 600) = false := decide_eq_false (by omega)
      go_enter Tryd.func40, Tryd.ntmps40
      go_wp2_with fail
      go_ret
      exact ⟨ret_bool HE.out, rfl⟩
    · have HE := Lib.hid (show true = b by rw [← h.out]; unfold inR; simp; omega)
      have t2 : decide (n ≤ 600) = true := decide_eq_true (by omega)
      go_enter Tryd.func40, Tryd.ntmps40
      go_wp2_with fail
      go_ret
      exact ⟨ret_bool HE.out, rfl⟩
set_option maxRecDepth 100000 in
set_option maxHeartbeats 1600000 in
theorem ckR_c (x y : Int) (o : Bool) (e : Nat) (h : Hid (ckR ⟨x, y, o⟩ = e)) (w : World) : Calls Tryd.prog 26 #[.agg #[.int .i64 x, .int .i64 y, .bool o]] w fun r w' => r = .returned (.int .i64 e) ∧ Q w w' := by
  obtain ⟨b1, e1⟩ : ∃ b, inR x = b := ⟨_, rfl⟩
  obtain ⟨b2, e2⟩ : ∃ b, inR y = b := ⟨_, rfl⟩
  have H1 := Lib.hid e1
  have H2 := Lib.hid e2
  cases o with
  | true =>
    have HE := Lib.hid (show (if (b1 && b2) = true then 0 else 9) = e by rw [← h.out]; unfold ckR inP; simp only [if_true, e1, e2])
    clear h e1 e2
    cases b1 with
    | false =>
      go_enter Tryd.func26, Tryd.ntmps26
      go_wp2_with fail
      refine (inR_c x false H1 _).mono ?_; rintro E w1 ⟨rfl, rfl⟩
      go_wp2_with fail
      go_ret
      exact ⟨ret_int (by rw [← HE.out]; rfl), (Q.refl w).alloc _⟩
    | true =>
      cases b2 with
      | false =>
        go_enter Tryd.func26, Tryd.ntmps26
        go_wp2_with fail
        refine (inR_c x true H1 _).mono ?_; rintro E w1 ⟨rfl, rfl⟩
        go_wp2_with fail
        refine (inR_c y false H2 _).mono ?_; rintro E w1 ⟨rfl, rfl⟩
        go_wp2_with fail
        go_ret
        exact ⟨ret_int (by rw [← HE.out]; rfl), (Q.refl w).alloc _⟩
      | true =>
        go_enter Tryd.func26, Tryd.ntmps26
        go_wp2_with fail
        refine (inR_c x true H1 _).mono ?_; rintro E w1 ⟨rfl, rfl⟩
        go_wp2_with fail
        refine (inR_c y true H2 _).mono ?_; rintro E w1 ⟨rfl, rfl⟩
        go_wp2_with fail
        go_ret
        exact ⟨ret_int (by rw [← HE.out]; rfl), (Q.refl w).alloc _⟩
  | false =>
    have HE := Lib.hid (show (if x = 0 ∧ y = 0 then 0 else 19) = e by rw [← h.out]; rfl)
    clear e1 e2 h
    go_enter Tryd.func26, Tryd.ntmps26
    go_wp2_with fail
    all_goals go_ret
    all_goals refine ⟨ret_int ?_, (Q.refl w).alloc _⟩
    all_goals rw [← HE.out]
    all_goals simp_all
set_option maxRecDepth 100000 in
set_option maxHeartbeats 1600000 in
theorem Check_c (z : Int) (v : Value) (l : List RD) (e : Nat) (h : Hid (chkR z l = e)) (w : World) (hr : RdR w v l) (hl : l.length ≤ maxLen) : Calls Tryd.prog 14 #[.agg #[.int .i64 z, v]] w fun r w' => r = .returned (.int .i64 e) ∧ Q w w' := by
  have HR := Lib.hid hr
  unfold maxLen at hl
  obtain ⟨A, c, rfl, hc, _⟩ := hr
  obtain ⟨n, hn⟩ : ∃ n, l.length = n := ⟨_, rfl⟩
  have HN := Lib.hid hn
  rw [hn] at HR hl hc
  rw [hn]
  obtain ⟨W0, hW0⟩ : ∃ W, w.alloc (.cells #[.int .i64 z, .slice A n c] 24) = W := ⟨_, rfl⟩
  have Q0 := Lib.hid (show Q w W0 by rw [← hW0]; exact (Q.refl w).alloc _)
  have y0 : W0.cell? ⟨w.heap.size, 0, none⟩ = some (.int .i64 z) := by rw [← hW0]; exact World.cell?_alloc_at _ _ _ _ rfl
  have y1 : W0.cell? ⟨w.heap.size, 1, none⟩ = some (.slice A n c) := by rw [← hW0]; exact World.cell?_alloc_at _ _ _ _ rfl
  clear hn
  by_cases h1 : n < 8
  · have i1 : (n : Int) < 8 := by omega
    have HE := Lib.hid (show 3 = e by rw [← h.out]; unfold chkR; rw [HN.out, if_pos h1])
    go_enter Tryd.func14, Tryd.ntmps14
    go_wp2_with fail
    go_ret
    exact ⟨ret_int (by rw [← HE.out]; rfl), Q0.out⟩
  · have i1 : ¬ (n : Int) < 8 := by omega
    by_cases h2 : 32 < n
    · have i2 : 32 < (n : Int) := by omega
      have HE := Lib.hid (show 4 = e by rw [← h.out]; unfold chkR; rw [HN.out, if_neg h1, if_pos h2])
      go_enter Tryd.func14, Tryd.ntmps14
      go_wp2_with fail
      go_ret
      exact ⟨ret_int (by rw [← HE.out]; rfl), Q0.out⟩
    · have i2 : ¬ 32 < (n : Int) := by omega
      by_cases h3 : z < 0
      · have HE := Lib.hid (show 9 = e by rw [← h.out]; unfold chkR; rw [HN.out, if_neg h1, if_neg h2, if_pos (.inl h3)])
        go_enter Tryd.func14, Tryd.ntmps14
        go_wp2_with fail
        go_ret
        exact ⟨ret_int (by rw [← HE.out]; rfl), Q0.out⟩
      · by_cases h4 : 20000 < z
        · have HE := Lib.hid (show 9 = e by rw [← h.out]; unfold chkR; rw [HN.out, if_neg h1, if_neg h2, if_pos (.inr h4)])
          go_enter Tryd.func14, Tryd.ntmps14
          go_wp2_with fail
          go_ret
          exact ⟨ret_int (by rw [← HE.out]; rfl), Q0.out⟩
        · have HE := Lib.hid (show fstE l = e by rw [← h.out]; unfold chkR; rw [HN.out, if_neg h1, if_neg h2, if_neg (by omega)])
          clear h
          go_enter Tryd.func14, Tryd.ntmps14
          go_wp2_with fail
          go_loopw [28] (fun v28 wr => ∃ k : Nat, k ≤ n ∧ v28 = .int .i64 k ∧ Hid (Q w wr ∧ ∀ i, i < k → ckR (gr l i) = 0)) (fun v28 _ => n - (intOf v28).toNat)
          case atStart => exact ⟨0, by omega, rfl, Q0.out, fun i hi => absurd hi (Nat.not_lt_zero _)⟩
          case round =>
            obtain ⟨k, hk, rfl, HI⟩ := hrel
            by_cases hlt : k < n
            · have hkl : k < l.length := by rw [HN.out]; exact hlt
              obtain ⟨bb, off, rfl, hbb, _, c0, c1', c2⟩ := HR.out.at HI.out.1 hkl
              obtain ⟨d, hd⟩ : ∃ d, gr l k = d := ⟨_, rfl⟩
              obtain ⟨f, hf⟩ : ∃ f, ckR d = f := ⟨_, rfl⟩
              have HD := Lib.hid hd
              rw [hd] at c0 c1' c2
              obtain ⟨x, y, o⟩ := d
              dsimp only at c0 c1' c2
              have HF := Lib.hid hf
              have i5 : (k : Int) < (n : Int) := by omega
              have i6 : (0 : Int) ≤ (k : Int) := by omega
              have Q1 := Lib.hid (HI.out.1.alloc (.cells #[.int .i64 x, .int .i64 y, .bool o] 44))
              clear hd hf
              by_cases hf0 : f = 0
              · have HG := Lib.hid (show ∀ i, i < k + 1 → ckR (gr l i) = 0 from fun i hi => by
                  by_cases e : i = k
                  · subst e; rw [HD.out, HF.out]; exact hf0
                  · exact HI.out.2 i (by omega))
                subst hf0
                clear hkl
                go_wp2_with fail
                refine (ckR_c x y o 0 HF _).mono ?_; rintro E w1 ⟨rfl, hq1⟩
                have Q2 := Lib.hid (Q1.out.trans hq1)
                clear hq1
                go_wp2_with fail
                go_roundw
                case rel => exact ⟨k + 1, by omega, by go_num, Q2.out, HG.out⟩
                case measure => simp [intOf] <;> omega
              · have HG := Lib.hid (show f = e by rw [← HE.out, fstE_bad HI.out.2 hkl (by rw [HD.out, HF.out]; exact hf0), HD.out, HF.out])
                have t1 : ((f : Int) == 0) = false := by simp; omega
                have t2 : ((f : Int) != 0) = true := by simp; omega
                clear hkl hf0
                go_wp2_with fail
                refine (ckR_c x y o f HF _).mono ?_; rintro E w1 ⟨rfl, hq1⟩
                have Q2 := Lib.hid (Q1.out.trans hq1)
                clear hq1
                go_wp2_with fail
                go_ret
                exact ⟨ret_int (by rw [HG.out]), Q2.out⟩
            · obtain rfl : k = n := by omega
              have HG := Lib.hid (show 0 = e by rw [← HE.out]; exact (fstE_all (by rw [HN.out]; exact HI.out.2)).symm)
              go_wp2_with fail
              go_ret
              exact ⟨ret_int (by rw [← HG.out]; rfl), HI.out.1⟩
/-! the reference's -/
theorem one_new (w : World) (x y : Int) : RdP (w.alloc (.cells #[.int .i64 x, .int .i64 y] 38)) (.slice (some ⟨w.heap.size, 0, none⟩) 1 1) [(x, y)] := by
  refine ⟨_, _, rfl, Nat.le_refl _, fun _ => ⟨w.heap.size, 0, rfl, by simp, fun i s hs j u hu => ?_⟩⟩
  match i, hs with
  | 0, hs =>
    simp at hs; subst hs
    rw [World.cell?_alloc_at _ _ _ _ rfl]
    match j, hu with
    | 0, hu => simpa [pc] using hu
    | 1, hu => simpa [pc] using hu
theorem rng_one (x y : Int) : rng [(x, y)] = inP (x, y) := by
  cases h : inP (x, y) with
  | true => exact allN_yes (fun i hi => by obtain rfl : i = 0 := (by simpa using hi); exact h)
  | false => exact allN_no (i := 0) (by simp) h
set_option maxRecDepth 100000 in
set_option maxHeartbeats 600000 in
theorem rCheck_r (z : Int) (v : Value) (l : List RD) (e : Nat) (h : Hid (chkR z l = e)) (w : World) (hr : RdR w v l) (hl : l.length ≤ maxLen) : Calls Tryd.prog 15 #[.agg #[.int .i64 z, v]] w fun r w' => r = .returned (.int .i64 e) ∧ Q w w' := by
  have HR := Lib.hid hr
  unfold maxLen at hl
  obtain ⟨A, c, rfl, hc, _⟩ := hr
  obtain ⟨n, hn⟩ : ∃ n, l.length = n := ⟨_, rfl⟩
  have HN := Lib.hid hn
  rw [hn] at HR hl hc
  rw [hn]
  obtain ⟨W0, hW0⟩ : ∃ W, w.alloc (.cells #[.int .i64 z, .slice A n c] 24) = W := ⟨_, rfl⟩
  have Q0 := Lib.hid (show Q w W0 by rw [← hW0]; exact (Q.refl w).alloc _)
  have y0 : W0.cell? ⟨w.heap.size, 0, none⟩ = some (.int .i64 z) := by rw [← hW0]; exact World.cell?_alloc_at _ _ _ _ rfl
  have y1 : W0.cell? ⟨w.heap.size, 1, none⟩ = some (.slice A n c) := by rw [← hW0]; exact World.cell?_alloc_at _ _ _ _ rfl
  have HW := Lib.hid (show w.heap.size < W0.heap.size by rw [← hW0]; simp)
  clear hn
  by_cases h1 : n < 8
  · have i1 : (n : Int) < 8 := by omega
    have HE := Lib.hid (show 3 = e by rw [← h.out]; unfold chkR; rw [HN.out, if_pos h1])
    go_enter Tryd.func15, Tryd.ntmps15
    go_wp2_with fail
    go_ret
    exact ⟨ret_int (by rw [← HE.out]; rfl), Q0.out⟩
  · have i1 : ¬ (n : Int) < 8 := by omega
    by_cases h2 : 32 < n
    · have i2 : 32 < (n : Int) := by omega
      have HE := Lib.hid (show 4 = e by rw [← h.out]; unfold chkR; rw [HN.out, if_neg h1, if_pos h2])
      go_enter Tryd.func15, Tryd.ntmps15
      go_wp2_with fail
      go_ret
      exact ⟨ret_int (by rw [← HE.out]; rfl), Q0.out⟩
    · have i2 : ¬ 32 < (n : Int) := by omega
      by_cases h3 : z < 0
      · have HE := Lib.hid (show 9 = e by rw [← h.out]; unfold chkR; rw [HN.out, if_neg h1, if_neg h2, if_pos (.inl h3)])
        go_enter Tryd.func15, Tryd.ntmps15
        go_wp2_with fail
        go_ret
        exact ⟨ret_int (by rw [← HE.out]; rfl), Q0.out⟩
      · by_cases h4 : 20000 < z
        · have HE := Lib.hid (show 9 = e by rw [← h.out]; unfold chkR; rw [HN.out, if_neg h1, if_neg h2, if_pos (.inr h4)])
          go_enter Tryd.func15, Tryd.ntmps15
          go_wp2_with fail
          go_ret
          exact ⟨ret_int (by rw [← HE.out]; rfl), Q0.out⟩
        · have HE := Lib.hid (show fstE l = e by rw [← h.out]; unfold chkR; rw [HN.out, if_neg h1, if_neg h2, if_neg (by omega)])
          clear h
          go_enter Tryd.func15, Tryd.ntmps15
          go_wp2_with fail
          go_loopw [3] (fun v3 wr => ∃ k : Nat, k ≤ n ∧ v3 = .int .i64 k ∧ Hid (Q W0 wr ∧ ∀ i, i < k → ckR (gr l i) = 0)) (fun v3 _ => n - (intOf v3).toNat)
          case atStart => exact ⟨0, by omega, rfl, Q.refl _, fun i hi => absurd hi (Nat.not_lt_zero _)⟩
          case round =>
            obtain ⟨k, hk, rfl, HI⟩ := hrel
            have yr := (HI.out.1.cell (p := ⟨w.heap.size, 1, none⟩) HW.out).trans y1
            by_cases hlt : k < n
            · have hkl : k < l.length := by rw [HN.out]; exact hlt
              obtain ⟨bb, off, rfl, hbb, _, c0, c1', c2⟩ := HR.out.at (Q0.out.trans HI.out.1) hkl
              obtain ⟨d, hd⟩ : ∃ d, gr l k = d := ⟨_, rfl⟩
              obtain ⟨f, hf⟩ : ∃ f, ckR d = f := ⟨_, rfl⟩
              have HD := Lib.hid hd
              rw [hd] at c0 c1' c2
              obtain ⟨x, y, o⟩ := d
              dsimp only at c0 c1' c2
              have HF := Lib.hid hf
              have i5 : (k : Int) < (n : Int) := by omega
              have i6 : (0 : Int) ≤ (k : Int) := by omega
              have Q1 := Lib.hid ((Q0.out.trans HI.out.1).alloc (.cells #[.int .i64 x, .int .i64 y, .bool o] 44))
              have Q1' := Lib.hid (HI.out.1.alloc (.cells #[.int .i64 x, .int .i64 y, .bool o] 44))
              have HGO := Lib.hid (show f = 0 → ∀ i, i < k + 1 → ckR (gr l i) = 0 from fun hf0 i hi => by
                  by_cases e : i = k
                  · subst e; rw [HD.out, HF.out]; exact hf0
                  · exact HI.out.2 i (by omega))
              have HBAD := Lib.hid (show f ≠ 0 → f = e from fun hf0 => by rw [← HE.out, fstE_bad HI.out.2 hkl (by rw [HD.out, HF.out]; exact hf0), HD.out, HF.out])
              clear hd hf hkl
              cases o with
              | true =>
                obtain ⟨W1, hW1⟩ : ∃ W, wr.alloc (.cells #[.int .i64 x, .int .i64 y, .bool true] 44) = W := ⟨_, rfl⟩
                have z0 : W1.cell? ⟨wr.heap.size, 0, none⟩ = some (.int .i64 x) := by rw [← hW1]; exact World.cell?_alloc_at _ _ _ _ rfl
                have z1 : W1.cell? ⟨wr.heap.size, 1, none⟩ = some (.int .i64 y) := by rw [← hW1]; exact World.cell?_alloc_at _ _ _ _ rfl
                have z2 : W1.cell? ⟨wr.heap.size, 2, none⟩ = some (.bool true) := by rw [← hW1]; exact World.cell?_alloc_at _ _ _ _ rfl
                have zs : wr.heap.size < W1.heap.size := by rw [← hW1]; simp
                rw [hW1] at Q1 Q1'
                have HRG := Lib.hid (fun b h => rRanged_c (.slice (some ⟨W1.heap.size, 0, none⟩) 1 1) [(x, y)] b h (W1.alloc (.cells #[.int .i64 x, .int .i64 y] 38)) (one_new W1 x y) (by show 1 ≤ maxLen; unfold maxLen; omega))
                obtain ⟨b, hb⟩ : ∃ b, inP (x, y) = b := ⟨_, rfl⟩
                have HB := Lib.hid (show rng [(x, y)] = b by rw [rng_one]; exact hb)
                have HFB := Lib.hid (show f = if b = true then 0 else 9 by rw [← HF.out]; unfold ckR; simp only [if_true, hb])
                clear hb
                cases b with
                | true =>
                  have HG := Lib.hid (HGO.out (by rw [HFB.out]; rfl))
                  go_wp2_with fail
                  refine (HRG.out true HB).mono ?_; rintro E w1 ⟨rfl, rfl⟩
                  go_wp2_with fail
                  go_roundw
                  case rel => exact ⟨k + 1, by omega, by go_num, Q1'.out.alloc _, HG.out⟩
                  case measure => simp [intOf] <;> omega
                | false =>
                  have HX := Lib.hid (show 9 = e by rw [← HBAD.out (by rw [HFB.out]; decide), HFB.out]; rfl)
                  go_wp2_with fail
                  refine (HRG.out false HB).mono ?_; rintro E w1 ⟨rfl, rfl⟩
                  go_wp2_with fail
                  go_ret
                  exact ⟨ret_int (by rw [← HX.out]; rfl), Q1.out.alloc _⟩
              | false =>
                have HFB := Lib.hid (show f = if x = 0 ∧ y = 0 then 0 else 19 by rw [← HF.out]; rfl)
                by_cases hx : x = 0
                · subst hx
                  by_cases hy : y = 0
                  · subst hy
                    have HG := Lib.hid (HGO.out (by rw [HFB.out]; rfl))
                    go_wp2_with fail
                    go_roundw
                    case rel => exact ⟨k + 1, by omega, by go_num, Q1'.out, HG.out⟩
                    case measure => simp [intOf] <;> omega
                  · have HX := Lib.hid (show 19 = e by rw [← HBAD.out (by rw [HFB.out, if_neg (fun h => hy h.2)]; decide), HFB.out, if_neg (fun h => hy h.2)])
                    have t1 : (y == 0) = false := by simp [hy]
                    go_wp2_with fail
                    go_ret
                    exact ⟨ret_int (by rw [← HX.out]; rfl), Q1.out⟩
                · have HX := Lib.hid (show 19 = e by rw [← HBAD.out (by rw [HFB.out, if_neg (fun h => hx h.1)]; decide), HFB.out, if_neg (fun h => hx h.1)])
                  have t1 : (x == 0) = false := by simp [hx]
                  go_wp2_with fail
                  go_ret
                  exact ⟨ret_int (by rw [← HX.out]; rfl), Q1.out⟩
            · obtain rfl : k = n := by omega
              have HG := Lib.hid (show 0 = e by rw [← HE.out]; exact (fstE_all (by rw [HN.out]; exact HI.out.2)).symm)
              go_wp2_with fail
              go_ret
              exact ⟨ret_int (by rw [← HG.out]; rfl), Q0.out.trans HI.out.1⟩
end Go.Proofs.YtlcgbeocdimboaaDoor
