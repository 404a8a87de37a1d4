/- The contract of the reference's Minus. -/
import Derived.Test.YtnbpkbdkhegheaaRCom
set_option linter.unusedVariables false
set_option linter.unusedSimpArgs false
namespace Go.Proofs.Ytnbpkbdkhegheaa
open Go.ChangeShapes Go.WideShapes Go.ChangeAt Go.RowKit Sm

theorem min_take {X Y : List S} {k : Nat} {y : S} (h : Y[k]? = some y) : minL X (Y.take (k + 1)) = (minL X (Y.take k)).flatMap (cutL y) := by
  obtain ⟨hk, e⟩ := List.getElem?_eq_some_iff.1 h
  rw [List.take_succ_eq_append_getElem hk, min_snoc, e]
theorem flat_take {O : List S} {f : S → List S} {i : Nat} {s : S} (h : O[i]? = some s) : (O.take (i + 1)).flatMap f = (O.take i).flatMap f ++ f s := by
  obtain ⟨hk, e⟩ := List.getElem?_eq_some_iff.1 h
  rw [List.take_succ_eq_append_getElem hk, List.flatMap_append, e]; simp
theorem cut_len2 (y s : S) : (cutL y s).length ≤ 2 := by
  unfold cutL; rw [List.length_append]
  have := piece_len (s.1, min s.2 y.1); have := piece_len (max s.1 y.2, s.2); omega
theorem flat_len2 (y : S) : ∀ O : List S, (O.flatMap (cutL y)).length ≤ 2 * O.length
  | [] => by simp
  | s :: O => by rw [List.flatMap_cons, List.length_append, List.length_cons]; have := flat_len2 y O; have := cut_len2 y s; omega
def FarP (v u : Value) : Prop := ∀ g, v = .pointer (some ⟨g, 0, none⟩) → some g ≠ u.ownBlock
theorem far_own {B : Nat} {v : Value} {l : List S} {w : World} (h : Own B v l w) : FarP (.pointer (some ⟨w.heap.size, 0, none⟩)) v := fun g e k => by
  injection e with e; injection e with e; injection e with e
  have := (h.lt g k.symm).2; omega
theorem own_of {B B' : Nat} {v : Value} {l : List S} {w : World} (h : Own B v l w) (hB : B' ≤ B) : Own B' v l w := h.mono hB
set_option maxRecDepth 100000 in
set_option maxHeartbeats 3200000 in
theorem rMinus_c (v v1 : Value) (l l' : List S) (w : World) (ha : Rd w v l) (hb : Rd w v1 l') (hal : l.length ≤ 500) (hbl : l'.length ≤ 500) : Calls Try.prog 27 #[v, v1] w (SetPost (minS l l') w) := by
  have HA := Lib.hid ha
  have HB := Lib.hid hb
  have HAL := Lib.hid (show l.length ≤ 100000 by omega)
  have HBL := Lib.hid (show l'.length ≤ 100000 by omega)
  have HCL := Lib.hid (show (canonL l).length ≤ 500 from Nat.le_trans (canon_spec l).2.2 hal)
  have HDL := Lib.hid (show (canonL l').length ≤ 500 from Nat.le_trans (canon_spec l').2.2 hbl)
  clear ha hb hal hbl
  generalize hX : canonL l = X at HCL
  generalize hY : canonL l' = Y at HDL
  have HX := Lib.hid hX
  have HY := Lib.hid hY
  have HE := Lib.hid (show minS l l' = minL X Y by unfold minS; rw [hX, hY])
  clear hX hY
  go_enter Try.func27, Try.ntmps27
  go_wp2_with fail
  refine (rCanon_c v l _ HA.out HAL.out).mono ?_
  rintro e w1 ⟨x1, rfl, hx1, hq1⟩
  rw [HX.out] at hx1
  have HOX1 := Lib.hid hx1
  have HQ1 := Lib.hid hq1
  have HB1 := Lib.hid (HB.out.q hq1)
  clear hx1 hq1
  go_wp2_with fail
  refine (rCanon_c v1 l' _ HB1.out HBL.out).mono ?_
  rintro e w2 ⟨y1, rfl, hy1, hq2⟩
  rw [HY.out] at hy1
  have HOX := Lib.hid (HOX1.out.q hq2)
  have HRY := Lib.hid hy1.rd
  have HQ2 := Lib.hid (HQ1.out.trans hq2)
  clear hy1 hq2
  obtain ⟨A1, c1, rfl, _⟩ : ∃ A c, y1 = .slice A Y.length c ∧ True := by obtain ⟨A, c, h, _⟩ := HRY.out; exact ⟨A, c, h, trivial⟩
  obtain ⟨m, hm⟩ : ∃ n, Y.length = n := ⟨_, rfl⟩
  have HM := Lib.hid hm
  have hm6 : m ≤ 500 := by have := HDL.out; omega
  rw [hm]
  clear hm
  have HML := Lib.hid (fun k => (min_spec (by rw [← HX.out]; exact (canon_spec l).1 : can X) (Y.take k) (fun y hy => (by rw [← HY.out]; exact (canon_spec l').1 : can Y).1 y (List.mem_of_mem_take hy))).2.2)
  go_wp2_with fail
  go_loopw [5, 7] (fun u5 u7 wr => ∃ k : Nat, k ≤ m ∧ u7 = .int .i64 k ∧ Hid (Own w.heap.size u5 (minL X (Y.take k)) wr ∧ Q w2 wr)) (fun _ u7 _ => m - (intOf u7).toNat)
  case atStart => exact ⟨0, Nat.zero_le _, rfl, HOX.out, Q.refl _⟩
  case round =>
    obtain ⟨k, hk, rfl, HI⟩ := hrel
    by_cases hlt : k < m
    · have hkl : k < Y.length := by rw [HM.out]; exact hlt
      obtain ⟨b, off, c', hv', hc', hb', hx0, hx1⟩ := HRY.out.cons (i := k) hkl
      obtain ⟨y, hy⟩ : ∃ s, Y[k] = s := ⟨_, rfl⟩
      rw [hy] at hx0 hx1
      obtain ⟨e1, e2, e3⟩ : A1 = some ⟨b, off, none⟩ ∧ Y.length = Y.length ∧ c1 = c' := by injection hv' with e1 e2 e3; exact ⟨e1, e2, e3⟩
      subst e1 e3
      have HYC := Lib.hid (show b < wr.heap.size ∧ wr.cell? ⟨b, off + k * 2, none⟩ = some (.int .i64 y.1) ∧ wr.cell? ⟨b, off + k * 2 + 1, none⟩ = some (.int .i64 y.2) from
        ⟨Nat.lt_of_lt_of_le hb' HI.out.2.size, (HI.out.2.cell (p := ⟨b, off + k * 2, none⟩) hb').trans hx0, (HI.out.2.cell (p := ⟨b, off + k * 2 + 1, none⟩) hb').trans hx1⟩)
      have HNX := Lib.hid (min_take (X := X) (show Y[k]? = some y by rw [List.getElem?_eq_getElem hkl, hy]))
      have HOL := Lib.hid (show (minL X (Y.take k)).length ≤ 1000 from Nat.le_trans (HML.out k) (by have := HCL.out; rw [List.length_take]; omega))
      generalize minL X (Y.take k) = O at HI HNX HOL
      have HRO := Lib.hid HI.out.1.rd
      obtain ⟨A, c, rfl⟩ := HI.out.1.len
      obtain ⟨n, hn⟩ : ∃ n, O.length = n := ⟨_, rfl⟩
      have HN := Lib.hid hn
      have hn6 : n ≤ 1000 := by have := HOL.out; omega
      obtain ⟨W0, hW0⟩ : ∃ x, x = wr := ⟨_, rfl⟩
      subst hW0
      rw [hn]
      clear hx0 hx1 hv' hc' hy hkl hn
      go_wp2_with fail
      go_loopw [8, 9] (fun v8 v9 ws => ∃ j : Nat, j ≤ n ∧ v9 = .int .i64 j ∧ Hid (Own W0.heap.size v8 ((O.take j).flatMap (cutL y)) ws ∧ Q W0 ws)) (fun _ v9 _ => n - (intOf v9).toNat)
      case atStart => exact ⟨0, Nat.zero_le _, rfl, own_nil _ _, Q.refl _⟩
      case round =>
        obtain ⟨j, hj, rfl, HJ⟩ := hrel
        by_cases hjt : j < n
        · have hjl : j < O.length := by rw [HN.out]; exact hjt
          obtain ⟨b2, off2, c2, hv2, hc2, hb2, hy0, hy1⟩ := HRO.out.cons (i := j) hjl
          obtain ⟨s, hs⟩ : ∃ s, O[j] = s := ⟨_, rfl⟩
          rw [hs] at hy0 hy1
          obtain ⟨e1, e2, e3⟩ : A = some ⟨b2, off2, none⟩ ∧ O.length = O.length ∧ c = c2 := by injection hv2 with e1 e2 e3; exact ⟨e1, e2, e3⟩
          subst e1 e3
          have hqs := HJ.out.2
          have hp0 := (hqs.cell (p := ⟨b, off + k * 2, none⟩) HYC.out.1).trans HYC.out.2.1
          have hp1 := (hqs.cell (p := ⟨b, off + k * 2 + 1, none⟩) HYC.out.1).trans HYC.out.2.2
          have hp2 := (hqs.cell (p := ⟨b2, off2 + j * 2, none⟩) hb2).trans hy0
          have hp3 := (hqs.cell (p := ⟨b2, off2 + j * 2 + 1, none⟩) hb2).trans hy1
          have HC4 := Lib.hid (show ∀ W, Q wr W → (W.cell? ⟨b, off + k * 2, none⟩ = some (.int .i64 y.1) ∧ W.cell? ⟨b, off + k * 2 + 1, none⟩ = some (.int .i64 y.2)) ∧ W.cell? ⟨b2, off2 + j * 2, none⟩ = some (.int .i64 s.1) ∧ W.cell? ⟨b2, off2 + j * 2 + 1, none⟩ = some (.int .i64 s.2) from fun W hW =>
            ⟨⟨(hW.cell (p := ⟨b, off + k * 2, none⟩) (Nat.lt_of_lt_of_le HYC.out.1 hqs.size)).trans hp0, (hW.cell (p := ⟨b, off + k * 2 + 1, none⟩) (Nat.lt_of_lt_of_le HYC.out.1 hqs.size)).trans hp1⟩, (hW.cell (p := ⟨b2, off2 + j * 2, none⟩) (Nat.lt_of_lt_of_le hb2 hqs.size)).trans hp2, (hW.cell (p := ⟨b2, off2 + j * 2 + 1, none⟩) (Nat.lt_of_lt_of_le hb2 hqs.size)).trans hp3⟩)
          have hbr : b < wr.heap.size := Nat.lt_of_lt_of_le HYC.out.1 hqs.size
          have hb2r : b2 < wr.heap.size := Nat.lt_of_lt_of_le hb2 hqs.size
          have HFT := Lib.hid (flat_take (f := cutL y) (show O[j]? = some s by rw [List.getElem?_eq_getElem hjl, hs]))
          have HFL := Lib.hid (show ((O.take j).flatMap (cutL y)).length ≤ 2000 from Nat.le_trans (flat_len2 y _) (by rw [List.length_take]; have := HOL.out; omega))
          generalize (O.take j).flatMap (cutL y) = T at HJ HFT HFL
          have HBS := Lib.hid (show W0.heap.size ≤ wr.heap.size from HJ.out.2.size)
          clear hy0 hy1 hv2 hc2 hs hjl hqs
          obtain ⟨lb, hlb⟩ : ∃ x, min s.2 y.1 = x := ⟨_, rfl⟩
          obtain ⟨ra, hra⟩ : ∃ x, max s.1 y.2 = x := ⟨_, rfl⟩
          have HCU := Lib.hid (show cutL y s = piece (s.1, lb) ++ piece (ra, s.2) by unfold cutL; rw [hlb, hra])
          go_wp2_with fail
          go_cut [10] (fun v10 wx => CutM W0.heap.size T (s.1, lb) W0 u8 v10 wx ∧ Q wr wx)
          case first =>
            have q1 := ((Q.refl wr).alloc (.cells #[.int .i64 s.1, .int .i64 lb] 23)).drew
            have HQ1' := Lib.hid q1
            clear q1
            go_region
            all_goals go_wp2_with fail
            all_goals go_meet
            all_goals exact ⟨⟨wr.heap.size, rfl, (Bx.new wr (s.1, lb)).drew, HJ.out.1.q HQ1'.out, HJ.out.2.trans HQ1'.out, Nat.le_trans HBS.out HQ1'.out.size⟩, HQ1'.out⟩
          case rest =>
            obtain ⟨⟨g, rfl, ⟨z0, z1, z2, z3, z4⟩, hown, hqc, hbc⟩, hqw⟩ := hcut
            have HBX := Lib.hid (show Bx g (s.1, lb) wc from ⟨z0, z1, z2, z3, z4⟩)
            have HOW := Lib.hid hown
            have HQC := Lib.hid hqc
            have HBC := Lib.hid hbc
            have HQW := Lib.hid hqw
            obtain ⟨⟨m0, m1⟩, m2, m3⟩ := HC4.out wc hqw
            have hbc1 : b < wc.heap.size := Nat.lt_of_lt_of_le hbr hqw.size
            have hb2c1 : b2 < wc.heap.size := Nat.lt_of_lt_of_le hb2r hqw.size
            clear hown hqc hbc hqw hp0 hp1 hp2 hp3 hbr hb2r z0 z1 z2 z3 z4
            go_wp2_with fail
            go_cut [11] (fun v11 wx => (CutM W0.heap.size T (ra, s.2) W0 u8 v11 wx ∧ Q wc wx) ∧ FarP v11 u8)
            case first =>
              have HQ1' := Lib.hid (((Q.refl wc).alloc (.cells #[.int .i64 ra, .int .i64 s.2] 23)).drew)
              go_region
              all_goals go_wp2_with fail
              all_goals go_meet
              all_goals exact ⟨⟨⟨wc.heap.size, rfl, (Bx.new wc (ra, s.2)).drew, HOW.out.q HQ1'.out, HQC.out.trans HQ1'.out, Nat.le_trans HBC.out HQ1'.out.size⟩, HQ1'.out⟩, far_own HOW.out⟩
            case rest =>
              obtain ⟨⟨⟨g2, rfl, hbx2, hown, hqc, hbc⟩, hqw⟩, hfar⟩ := hcut
              have HX2 := Lib.hid hbx2
              have HX1 := Lib.hid (HBX.out.q hqw)
              have HO2 := Lib.hid hown
              have HC2 := Lib.hid hqc
              have HB2 := Lib.hid hbc
              have HFA := Lib.hid (hfar g2 rfl)
              clear hbx2 hown hqc hbc hqw hfar m0 m1 m2 m3 hbc1 hb2c1
              obtain ⟨z0, z1, _, _, _⟩ := HX1.out
              obtain ⟨y0, y1, _, _, _⟩ := HX2.out
              dsimp only at z0 z1 y0 y1
              by_cases h1 : s.1 < lb
              · have hl1 := Lib.hid (show T.length + [(s.1, lb)].length ≤ 1000000 by have := HFL.out; simp; omega)
                go_wp2_with (first
                  | (at_builtin; refine wp_app rfl _ _ rfl W0.heap.size u8 T rfl (HO2.out.alloc _) (.slice (some ⟨wc.heap.size, 0, none⟩) 1 1) [(s.1, lb)] rfl (rd_new wc [(s.1, lb)] 1 (Nat.le_refl _) _ rfl) nn_some2 hl1.out (alloc_le HB2.out _) ?_)
                  | go_in)
                intro v4 w4 ho4 hg4
                have HO4 := Lib.hid ho4
                have HQ4 := Lib.hid (show Q W0 w4 from (HC2.out.alloc _).grown hg4 (alloc_le HB2.out _) (fun i hi => (HO2.out.lt i hi).1))
                have x0 : w4.cell? ⟨g2, 0, none⟩ = some (.int .i64 ra) := hg4.cell ((HX2.out.q ((Q.refl _).alloc _)).1) HFA.out
                have x1' : w4.cell? ⟨g2, 1, none⟩ = some (.int .i64 s.2) := hg4.cell ((HX2.out.q ((Q.refl _).alloc _)).2.1) HFA.out
                clear ho4 hg4 z0 z1 y0 y1
                by_cases h2 : ra < s.2
                · have hl2 := Lib.hid (show (T ++ [(s.1, lb)]).length + [(ra, s.2)].length ≤ 1000000 by have := HFL.out; simp; omega)
                  have HR4 := Lib.hid (show (O.take (j + 1)).flatMap (cutL y) = T ++ [(s.1, lb)] ++ [(ra, s.2)] by rw [HFT.out, HCU.out]; unfold piece; rw [if_pos (by simpa using h1), if_pos (by simpa using h2), List.append_assoc])
                  go_wp2_with (first
                    | (at_builtin; refine wp_app rfl _ _ rfl W0.heap.size v4 (T ++ [(s.1, lb)]) rfl (HO4.out.alloc _) (.slice (some ⟨w4.heap.size, 0, none⟩) 1 1) [(ra, s.2)] rfl (rd_new w4 [(ra, s.2)] 1 (Nat.le_refl _) _ rfl) nn_some2 hl2.out (alloc_le HQ4.out.size _) ?_)
                    | go_in)
                  intro v5 w5 ho5 hg5
                  have HO5 := Lib.hid (show Own W0.heap.size v5 ((O.take (j + 1)).flatMap (cutL y)) w5 by rw [HR4.out]; first | exact ho5 | (rw [List.append_assoc]; exact ho5))
                  have HQ5 := Lib.hid (show Q W0 w5 from (HQ4.out.alloc _).grown hg5 (alloc_le HQ4.out.size _) (fun i hi => (HO4.out.lt i hi).1))
                  clear ho5 hg5
                  go_wp2_with fail
                  exact ⟨⟨j + 1, by omega, by go_num, HO5.out, HQ5.out⟩, by simp [intOf] <;> omega⟩
                · have h2' : decide (ra < s.2) = false := decide_eq_false h2
                  have HR4 := Lib.hid (show (O.take (j + 1)).flatMap (cutL y) = T ++ [(s.1, lb)] by rw [HFT.out, HCU.out]; unfold piece; rw [if_pos (by simpa using h1), if_neg (by simpa using h2), List.append_nil])
                  go_wp2_with fail
                  exact ⟨⟨j + 1, by omega, by go_num, by rw [HR4.out]; exact ⟨HO4.out, HQ4.out⟩⟩, by simp [intOf] <;> omega⟩
              · have h1' : decide (s.1 < lb) = false := decide_eq_false h1
                by_cases h2 : ra < s.2
                · have hl2 := Lib.hid (show T.length + [(ra, s.2)].length ≤ 1000000 by have := HFL.out; simp; omega)
                  have HR4 := Lib.hid (show (O.take (j + 1)).flatMap (cutL y) = T ++ [(ra, s.2)] by rw [HFT.out, HCU.out]; unfold piece; rw [if_neg (by simpa using h1), if_pos (by simpa using h2), List.nil_append])
                  go_wp2_with (first
                    | (at_builtin; refine wp_app rfl _ _ rfl W0.heap.size u8 T rfl (HO2.out.alloc _) (.slice (some ⟨wc.heap.size, 0, none⟩) 1 1) [(ra, s.2)] rfl (rd_new wc [(ra, s.2)] 1 (Nat.le_refl _) _ rfl) nn_some2 hl2.out (alloc_le HB2.out _) ?_)
                    | go_in)
                  intro v5 w5 ho5 hg5
                  have HO5 := Lib.hid (show Own W0.heap.size v5 ((O.take (j + 1)).flatMap (cutL y)) w5 by rw [HR4.out]; exact ho5)
                  have HQ5 := Lib.hid (show Q W0 w5 from (HC2.out.alloc _).grown hg5 (alloc_le HB2.out _) (fun i hi => (HO2.out.lt i hi).1))
                  clear ho5 hg5
                  go_wp2_with fail
                  exact ⟨⟨j + 1, by omega, by go_num, HO5.out, HQ5.out⟩, by simp [intOf] <;> omega⟩
                · have h2' : decide (ra < s.2) = false := decide_eq_false h2
                  have HR4 := Lib.hid (show (O.take (j + 1)).flatMap (cutL y) = T by rw [HFT.out, HCU.out]; unfold piece; rw [if_neg (by simpa using h1), if_neg (by simpa using h2), List.append_nil, List.append_nil])
                  go_wp2_with fail
                  go_roundw
                  case rel => exact ⟨j + 1, by omega, by go_num, by rw [HR4.out]; exact ⟨HO2.out, HC2.out⟩⟩
                  case measure => simp [intOf] <;> omega
        · obtain rfl : j = n := by omega
          have HRW := Lib.hid (show minL X (Y.take (k + 1)) = (O.take j).flatMap (cutL y) by rw [HNX.out, List.take_of_length_le (by rw [HN.out]; exact Nat.le_refl _)])
          go_wp2_with fail
          exact ⟨⟨k + 1, by omega, by go_num, by rw [HRW.out]; exact ⟨HJ.out.1.mono (Nat.le_trans HQ2.out.size HI.out.2.size), HI.out.2.trans HJ.out.2⟩⟩, by simp [intOf] <;> omega⟩
    · obtain rfl : k = m := by omega
      have HF := Lib.hid (show minL X (Y.take k) = minL X Y by rw [List.take_of_length_le (by rw [HM.out]; exact Nat.le_refl _)])
      go_wp2_with fail
      go_ret
      exact ⟨_, rfl, by rw [HE.out, ← HF.out]; exact HI.out.1, HQ2.out.trans HI.out.2⟩
end Go.Proofs.Ytnbpkbdkhegheaa
