/- The contracts of the reference's Common and Minus. -/
import Derived.Test.YtnbpkbdkhegheaaTotal
import Derived.Test.YtnbpkbdkhegheaaCommon
import Derived.Test.YtnbpkbdkhegheaaRCanon
import Derived.Test.YtnbpkbdkhegheaaLongest
import Derived.Test.YtnbpkbdkhegheaaAw
set_option linter.unusedVariables false
set_option linter.unusedSimpArgs false
namespace Go.Proofs.Ytnbpkbdkhegheaa
open Go.ChangeShapes Go.WideShapes Go.ChangeAt Go.RowKit Sm
theorem Bx.drew {g : Nat} {t : S} {w : World} (h : Bx g t w) : Bx g t w.drew := ⟨h.1, h.2.1, h.2.2.1, h.2.2.2.1, h.2.2.2.2⟩
theorem Meet_at (s t m : S) (w : World) (h : Hid (meetS s t = m)) : Calls Try.prog 14 #[sv s, sv t] w fun e w' => e = .returned (.agg #[.int .i64 m.1, .int .i64 m.2]) ∧ Q w w' :=
  (rMeet_c s t w).mono fun _ _ ⟨p, q⟩ => ⟨by rw [p, h.out]; rfl, q⟩
theorem piece_yes {s t m : S} (h : meetS s t = m) (hm : m.1 < m.2) : piece (meetP s t) = [m] := by
  unfold meetS at h
  split at h
  · subst h; simp at hm
  · subst h; unfold piece meetP; rw [if_pos (by simpa using hm)]
theorem piece_no {s t m : S} (h : meetS s t = m) (hm : ¬ m.1 < m.2) : piece (meetP s t) = [] := by
  unfold meetS at h
  split at h
  · unfold piece meetP; rw [if_neg (by simp only; omega)]
  · subst h; unfold piece meetP; rw [if_neg (by simpa using hm)]
theorem row_take {Y : List S} {x y : S} {j : Nat} (h : Y[j]? = some y) : rowC (Y.take (j + 1)) x = rowC (Y.take j) x ++ piece (meetP x y) := by
  obtain ⟨hj, e⟩ := List.getElem?_eq_some_iff.1 h
  unfold rowC; rw [List.take_succ_eq_append_getElem hj, List.flatMap_append, e]; simp
theorem row_len (Y : List S) (x : S) (j : Nat) : (rowC (Y.take j) x).length ≤ j := by
  have h := comL_len [x] (Y.take j)
  have e : comL [x] (Y.take j) = rowC (Y.take j) x := by unfold comL; simp
  rw [e, List.length_take] at h; simp at h; omega
def CutM (B : Nat) (R : List S) (s : S) (w2 : World) (u7 v10 : Value) (wx : World) : Prop := ∃ g, v10 = .pointer (some ⟨g, 0, none⟩) ∧ Bx g s wx ∧ Own B u7 R wx ∧ Q w2 wx ∧ B ≤ wx.heap.size
theorem nn_some2 {a : Addr} {n c : Nat} : Nn (.slice (some a) n c) := fun n' c' h => by injection h with h; cases h
set_option maxRecDepth 100000 in
set_option maxHeartbeats 3200000 in
theorem rCommon_c (v v1 : Value) (l l' : List S) (w : World) (ha : Rd w v l) (hb : Rd w v1 l') (hal : l.length ≤ 500) (hbl : l'.length ≤ 500) : Calls Try.prog 25 #[v, v1] w (SetPost (comS l l') w) := by
  have HA := Lib.hid ha
  have HB := Lib.hid hb
  have HAL := Lib.hid (show l.length ≤ 100000 by omega)
  have HBL := Lib.hid (show l'.length ≤ 100000 by omega)
  have HCL := Lib.hid (show (canonL l).length ≤ 500 from Nat.le_trans (canon_spec l).2.2 hal)
  have HDL := Lib.hid (show (canonL l').length ≤ 500 from Nat.le_trans (canon_spec l').2.2 hbl)
  clear ha hb hal hbl
  generalize hX : canonL l = X at HCL
  generalize hY : canonL l' = Y at HDL
  have HX := Lib.hid hX
  have HY := Lib.hid hY
  have HE := Lib.hid (show comS l l' = comL X Y by unfold comS; rw [hX, hY])
  clear hX hY
  go_enter Try.func25, Try.ntmps25
  go_wp2_with fail
  refine (rCanon_c v l _ HA.out HAL.out).mono ?_
  rintro e w1 ⟨x1, rfl, hx1, hq1⟩
  rw [HX.out] at hx1
  have HX1 := Lib.hid hx1.rd
  have HQ1 := Lib.hid hq1
  have HB1 := Lib.hid (HB.out.q hq1)
  clear hx1 hq1
  go_wp2_with fail
  refine (rCanon_c v1 l' _ HB1.out HBL.out).mono ?_
  rintro e w2 ⟨y1, rfl, hy1, hq2⟩
  rw [HY.out] at hy1
  have HRX := Lib.hid (HX1.out.q hq2)
  have HRY := Lib.hid hy1.rd
  have HQ2 := Lib.hid (HQ1.out.trans hq2)
  clear hy1 hq2
  obtain ⟨A, c, rfl, _⟩ : ∃ A c, x1 = .slice A X.length c ∧ True := by obtain ⟨A, c, h, _⟩ := HRX.out; exact ⟨A, c, h, trivial⟩
  obtain ⟨A1, c1, rfl, _⟩ : ∃ A c, y1 = .slice A Y.length c ∧ True := by obtain ⟨A, c, h, _⟩ := HRY.out; exact ⟨A, c, h, trivial⟩
  obtain ⟨n, hn⟩ : ∃ n, X.length = n := ⟨_, rfl⟩
  obtain ⟨m, hm⟩ : ∃ n, Y.length = n := ⟨_, rfl⟩
  have HN := Lib.hid hn
  have HM := Lib.hid hm
  have hn6 : n ≤ 500 := by have := HCL.out; omega
  have hm6 : m ≤ 500 := by have := HDL.out; omega
  rw [hn, hm]
  clear hn hm
  go_wp2_with fail
  go_loopw [7, 8] (fun u7 u8 wr => ∃ k : Nat, k ≤ n ∧ u8 = .int .i64 k ∧ Hid (Own w2.heap.size u7 (comL (X.take k) Y) wr ∧ Q w2 wr)) (fun _ u8 _ => n - (intOf u8).toNat)
  case atStart => exact ⟨0, Nat.zero_le _, rfl, own_nil _ _, Q.refl _⟩
  case round =>
    obtain ⟨k, hk, rfl, HI⟩ := hrel
    by_cases hlt : k < n
    · have hkl : k < X.length := by rw [HN.out]; exact hlt
      obtain ⟨b, off, c', hv', hc', hb', hx0, hx1⟩ := HRX.out.cons (i := k) hkl
      obtain ⟨x, hx⟩ : ∃ s, X[k] = s := ⟨_, rfl⟩
      rw [hx] at hx0 hx1
      obtain ⟨e1, e2, e3⟩ : A = some ⟨b, off, none⟩ ∧ X.length = X.length ∧ c = c' := by injection hv' with e1 e2 e3; exact ⟨e1, e2, e3⟩
      subst e1 e3
      have HXC := Lib.hid (show b < w2.heap.size ∧ w2.cell? ⟨b, off + k * 2, none⟩ = some (.int .i64 x.1) ∧ w2.cell? ⟨b, off + k * 2 + 1, none⟩ = some (.int .i64 x.2) from ⟨hb', hx0, hx1⟩)
      have HNX := Lib.hid (show comL (X.take (k + 1)) Y = comL (X.take k) Y ++ rowC Y x by
        unfold comL; rw [List.take_succ_eq_append_getElem hkl, List.flatMap_append, hx]; simp)
      have HLN := Lib.hid (show (comL (X.take k) Y).length ≤ 500 * 500 from Nat.le_trans (comL_len _ _) (Nat.mul_le_mul (by rw [List.length_take]; omega) HDL.out))
      generalize comL (X.take k) Y = R at HI HNX HLN
      clear hx0 hx1 hv' hc' hx hkl
      go_wp2_with fail
      go_loopw [7, 9] (fun v7 v9 ws => ∃ j : Nat, j ≤ m ∧ v9 = .int .i64 j ∧ Hid (Own w2.heap.size v7 (R ++ rowC (Y.take j) x) ws ∧ Q w2 ws)) (fun _ v9 _ => m - (intOf v9).toNat)
      case atStart => exact ⟨0, Nat.zero_le _, rfl, by show Own _ _ (R ++ []) _; rw [List.append_nil]; exact HI.out.1, HI.out.2⟩
      case round =>
        obtain ⟨j, hj, rfl, HJ⟩ := hrel
        by_cases hjt : j < m
        · have hjl : j < Y.length := by rw [HM.out]; exact hjt
          obtain ⟨b2, off2, c2, hv2, hc2, hb2, hy0, hy1⟩ := HRY.out.cons (i := j) hjl
          obtain ⟨y, hy⟩ : ∃ s, Y[j] = s := ⟨_, rfl⟩
          rw [hy] at hy0 hy1
          obtain ⟨e1, e2, e3⟩ : A1 = some ⟨b2, off2, none⟩ ∧ Y.length = Y.length ∧ c1 = c2 := by injection hv2 with e1 e2 e3; exact ⟨e1, e2, e3⟩
          subst e1 e3
          have hqs := HJ.out.2
          have hp0 := (hqs.cell (p := ⟨b, off + k * 2, none⟩) HXC.out.1).trans HXC.out.2.1
          have hp1 := (hqs.cell (p := ⟨b, off + k * 2 + 1, none⟩) HXC.out.1).trans HXC.out.2.2
          have hp2 := (hqs.cell (p := ⟨b2, off2 + j * 2, none⟩) hb2).trans hy0
          have hp3 := (hqs.cell (p := ⟨b2, off2 + j * 2 + 1, none⟩) hb2).trans hy1
          obtain ⟨mm, hmm⟩ : ∃ mm, meetS x y = mm := ⟨_, rfl⟩
          have HMM := Lib.hid hmm
          have HRT := Lib.hid (row_take (x := x) (show Y[j]? = some y by rw [List.getElem?_eq_getElem hjl, hy]))
          have HRL := Lib.hid (row_len Y x j)
          generalize rowC (Y.take j) x = T at HJ HRT HRL
          have HBS := Lib.hid (show w2.heap.size ≤ wr.heap.size from HJ.out.2.size)
          have hbr : b < wr.heap.size := Nat.lt_of_lt_of_le HXC.out.1 hqs.size
          have hb2r : b2 < wr.heap.size := Nat.lt_of_lt_of_le hb2 hqs.size
          clear hy0 hy1 hv2 hc2 hy hjl hqs hmm
          go_wp2_with fail
          go_cut [10] (fun v10 wx => CutM w2.heap.size (R ++ T) mm w2 u7 v10 wx)
          case first =>
            go_region_with (go_at_call 14; refine (Meet_at x y mm _ HMM).mono ?_; rintro e w3 ⟨rfl, hq3⟩; first | (have hzb : Bx wr.heap.size (0, 0) w3 := (Bx.new wr (0, 0)).drew.q hq3; obtain ⟨hz0, hz1, hz2, hz3, hz4⟩ := hzb) | skip)
            all_goals go_wp2_with fail
            all_goals go_meet
            all_goals (try exact ⟨w3.heap.size, rfl, Bx.new w3 mm, HJ.out.1.q (((Q.refl wr).drew.trans hq3).alloc _), HJ.out.2.trans (((Q.refl wr).drew.trans hq3).alloc _), Nat.le_trans HBS.out (((Q.refl wr).drew.trans hq3).alloc _).size⟩)
            all_goals exact ⟨wr.heap.size, rfl, Bx.set (t := (0, 0)) ⟨hz0, hz1, hz2, hz3, hz4⟩ mm, HJ.out.1.q ((((((Q.refl wr).alloc _).drew.trans hq3).setA (Nat.le_refl _) _).setA (Nat.le_refl _) _)), HJ.out.2.trans ((((((Q.refl wr).alloc _).drew.trans hq3).setA (Nat.le_refl _) _).setA (Nat.le_refl _) _)), by rw [World.size_setCell, World.size_setCell]; exact Nat.le_trans HBS.out ((((Q.refl wr).alloc _).drew.trans hq3).size)⟩
          case rest =>
            obtain ⟨g, rfl, ⟨z0, z1, z2, z3, z4⟩, hown, hqc, hbc⟩ := hcut
            have HOW := Lib.hid hown
            have HQC := Lib.hid hqc
            have HBC := Lib.hid hbc
            clear hown hqc hbc hp0 hp1 hp2 hp3
            by_cases hlt2 : mm.1 < mm.2
            · have HRT2 := Lib.hid (show rowC (Y.take (j + 1)) x = T ++ [mm] by rw [HRT.out, piece_yes HMM.out hlt2])
              have HLL := Lib.hid (show (R ++ T).length + [mm].length ≤ 1000000 by have := HLN.out; have := HRL.out; rw [List.length_append]; simp; omega)
              go_wp2_with (first
                | (at_builtin; refine wp_app rfl _ _ rfl w2.heap.size u7 (R ++ T) rfl (HOW.out.alloc _) (.slice (some ⟨wc.heap.size, 0, none⟩) 1 1) [mm] rfl (rd_new wc [mm] 1 (Nat.le_refl _) _ rfl) nn_some2 HLL.out (alloc_le HBC.out _) ?_)
                | go_in)
              intro v' w4 ho4 hg4
              have HO4 := Lib.hid (show Own w2.heap.size v' (R ++ rowC (Y.take (j + 1)) x) w4 by rw [HRT2.out]; first | exact ho4 | (rw [← List.append_assoc]; exact ho4))
              have HQ4 := Lib.hid (show Q w2 w4 from (HQC.out.alloc _).grown hg4 (alloc_le HBC.out _) (fun i hi => (HOW.out.lt i hi).1))
              clear ho4 hg4
              go_wp2_with fail
              exact ⟨⟨j + 1, by omega, by go_num, HO4.out, HQ4.out⟩, by simp [intOf] <;> omega⟩
            · have HRT2 := Lib.hid (show rowC (Y.take (j + 1)) x = T by rw [HRT.out, piece_no HMM.out hlt2, List.append_nil])
              have hlt3 : decide (mm.1 < mm.2) = false := decide_eq_false hlt2
              go_wp2_with fail
              go_roundw
              case rel => exact ⟨j + 1, by omega, by go_num, by rw [HRT2.out]; exact ⟨HOW.out, HQC.out⟩⟩
              case measure => simp [intOf] <;> omega
        · obtain rfl : j = m := by omega
          have HRW := Lib.hid (show comL (X.take (k + 1)) Y = R ++ rowC (Y.take j) x by rw [HNX.out, List.take_of_length_le (by rw [HM.out]; exact Nat.le_refl _)])
          go_wp2_with fail
          exact ⟨⟨k + 1, by omega, by go_num, by rw [HRW.out]; exact HJ.out⟩, by simp [intOf] <;> omega⟩
    · obtain rfl : k = n := by omega
      have HF := Lib.hid (show comL (X.take k) Y = comL X Y by rw [List.take_of_length_le (by rw [HN.out]; exact Nat.le_refl _)])
      go_wp2_with fail
      go_ret
      exact ⟨_, rfl, by rw [HE.out, ← HF.out]; exact HI.out.1.mono HQ2.out.size, HQ2.out.trans HI.out.2⟩
end Go.Proofs.Ytnbpkbdkhegheaa
