/- The contract of the reference's sorted. Printed by tools/gensorted.py from sorted.part: edit those. -/
import Derived.Test.YtkkghejbdakmpaaRSorted
set_option linter.unusedVariables false
set_option linter.unusedSimpArgs false
namespace Go.Proofs.Ytkkghejbdakmpaa
open Go.ChangeShapes Go.WideShapes Go.ChangeAt Go.RowKit Go.Shelf Pm

set_option maxRecDepth 100000 in
set_option maxHeartbeats 6400000 in
theorem rsorted_c (v : Value) (l : List P) (w : World) (hr : RdP w v l) (hl : l.length ≤ 1000) : Calls Try.prog 52 #[v] w (ChPost (srtD l) w) := by
  have eqp := eqP
  have eqg := eqGp
  obtain ⟨i0, hi, hz0, hz1, hz2⟩ := info_parts infoP
  have HR := Lib.hid hr
  obtain ⟨A, c, rfl, hc, _⟩ := hr
  obtain ⟨n, hn⟩ : ∃ n, l.length = n := ⟨_, rfl⟩
  have HN := Lib.hid hn
  rw [hn] at HR
  rw [hn]
  have hl' : n ≤ 1000 := by omega
  clear hc hn hl
  go_enter Try.func52, Try.ntmps52
  go_wp2_with fail
  go_loopw [3, 4] (fun u3 u4 wr => ∃ k : Nat, k ≤ n ∧ u4 = .int .i64 k ∧ Hid (Own w.heap.size u3 (srtD (l.take k)) wr ∧ Q w wr ∧ (srtD (l.take k) = [] → u3 = .slice none 0 0))) (fun _ u4 _ => n - (intOf u4).toNat)
  case atStart => exact ⟨0, Nat.zero_le _, rfl, own_nil _ _, Q.refl _, fun _ => rfl⟩
  case round =>
    obtain ⟨k, hk, rfl, HI⟩ := hrel
    by_cases hlt : k < n
    · have hkl : k < l.length := by rw [HN.out]; exact hlt
      obtain ⟨bb, off, rfl, hb, hc, d0, d1⟩ := HR.out.at (Q.refl w) hkl
      obtain ⟨⟨x, y⟩, hx⟩ : ∃ q, g l k = q := ⟨_, rfl⟩
      rw [hx] at d0 d1
      dsimp only at d0 d1
      have HBB := Lib.hid hb
      have HRW := Lib.hid (fun (W : World) (hw : Q w W) => show W.cell? ⟨bb, off + k * 2, none⟩ = some (.int .i64 x) ∧ W.cell? ⟨bb, off + k * 2 + 1, none⟩ = some (.int .i64 y) from ⟨(hw.cell (p := ⟨bb, off + k * 2, none⟩) HBB.out).trans d0, (hw.cell (p := ⟨bb, off + k * 2 + 1, none⟩) HBB.out).trans d1⟩)
      have HI2 := HI.out
      obtain ⟨D, hD⟩ : ∃ D, srtD (l.take k) = D := ⟨_, rfl⟩
      have HNX := Lib.hid (show srtD (l.take (k + 1)) = insD (x, y) D by rw [List.take_succ_eq_append_getElem hkl, srtD_snoc, hD, ← g_at hkl, hx])
      have hdk : D.length ≤ k := by rw [← hD]; have := srtD_len (l.take k); have := List.length_take_le k l; omega
      rw [hD] at HI2
      obtain ⟨ho, hq, hnil⟩ := HI2
      obtain ⟨d, hd⟩ : ∃ d, D.length = d := ⟨_, rfl⟩
      rw [hd] at hdk
      have HDL := Lib.hid hd
      have kn : (k : Int) < (n : Int) := by omega
      have k0 : (0 : Int) ≤ (k : Int) := by omega
      have HDD := Lib.hid hD
      clear HI hkl hx hD d0 d1 hb
      by_cases h0 : d = 0
      · have e0 : D = [] := List.eq_nil_of_length_eq_zero (by omega)
        obtain rfl : u3 = .slice none 0 0 := hnil e0
        have HNI := Lib.hid (show srtD (l.take (k + 1)) = [(x, y)] by rw [HNX.out, e0]; rfl)
        have HQ1 := Lib.hid hq
        clear ho hq hnil hd h0 e0 HNX HDD hdk HDL
        go_wp2_with fail
        refine wp_loop_rounds 1 ?_
        rw [rounds_succ]
        go_wp2_with fail
        go_quiet (fail)
        obtain ⟨Wa, hWa⟩ : ∃ W, wr.drewN nq = W := ⟨_, rfl⟩
        have HQa := Lib.hid (show Q w Wa by rw [← hWa]; exact HQ1.out.drewN nq)
        rw [hWa]
        clear hWa
        go_wp2_with fail
        go_quiet (fail)
        obtain ⟨W1, hW1⟩ : ∃ W, Wa.drewN nq = W := ⟨_, rfl⟩
        have HQW := Lib.hid (show Q w W1 by rw [← hW1]; exact HQa.out.drewN nq)
        rw [hW1]
        clear hW1
        obtain ⟨Wb, hWb⟩ : ∃ W, W1.alloc (.cells #[] 38) = W := ⟨_, rfl⟩
        have hlit : Wb.ownsRow W1.heap.size 38 2 (.slice (some ⟨W1.heap.size, 0, none⟩) 0 0) 0 [] := by rw [← hWb]; exact World.ownsRow_lit W1 #[] 0 (Nat.le_refl _) (by decide) rfl
        have HQb := Lib.hid (show Q W1 Wb by rw [← hWb]; exact (Q.refl W1).alloc _)
        have HSb := Lib.hid (show W1.heap.size ≤ Wb.heap.size from HQb.out.size)
        have hqq := HQW.out.trans HQb.out
        obtain ⟨p0, p1⟩ := HRW.out _ hqq
        have RM := Lib.hid (show Room 0 from room_of (by omega))
        clear hqq
        go_wp2_with (first
          | (at_builtin; refine wpList_append_own_none _ rfl _ _ 22 rfl W1.heap.size 38 i0 2 Try.underlying22 hi _ 0 [] rfl hlit rfl ?_)
          | (at_builtin; refine wpList_append_own _ rfl _ _ 22 rfl W1.heap.size 38 i0 (.agg #[.int .i64 0, .int .i64 0]) 2 16 Try.underlying22 hi hz0 hz1 hz2 rfl (by decide) _ 0 [] rfl (hlit.alloc _) ⟨Wb.heap.size, 0, none⟩ 1 1 [.int .i64 x, .int .i64 y] rfl rfl (pair_at _ _ _ _) (pair_cell _ _) RM.out.1 RM.out.2 (alloc_le HSb.out _) ?_)
          | go_in)
        intro v2 w2 hown2' hgrow2 _
        have N2 := Lib.hid (own_next (l := []) (s := (x, y)) (show Own W1.heap.size _ [] Wb from hlit) (show Below W1.heap.size W1 Wb from HQb.out) HSb.out hown2' hgrow2)
        clear hown2' hgrow2 hlit hWb
        obtain ⟨g5, c5, e5, hc5, _, _⟩ := N2.out.1.form (by simp)
        have e5 : v2 = .slice (some ⟨g5, 0, none⟩) 1 c5 := e5
        subst e5
        have hown2 : w2.ownsRow W1.heap.size 38 2 (.slice (some ⟨g5, 0, none⟩) 1 c5) 1 (cellsL [(x, y)]) := N2.out.1
        go_wp2_with (first
          | (at_builtin; refine wpList_append_own_none _ rfl _ _ 22 rfl W1.heap.size 38 i0 2 Try.underlying22 hi _ 1 _ rfl hown2 rfl ?_)
          | go_in)
        clear hown2
        go_wp2_with fail
        go_roundw
        case rel => exact ⟨k + 1, by omega, by go_num, by rw [HNI.out]; exact N2.out.1.le HQW.out.size, HQW.out.trans N2.out.2, fun e => by rw [HNI.out] at e; cases e⟩
        case measure => simp [intOf] <;> omega
      · obtain ⟨g2, c2, rfl, hcap, hg2B, hg2⟩ := ho.form (by omega)
        rw [hd] at ho hcap ⊢
        have HO := Lib.hid ho
        have HQ1 := Lib.hid hq
        clear ho hq hnil hd hg2B
        go_wp2_with fail
        go_loopw [5] (fun u5 wr2 => ∃ j : Nat, j ≤ d ∧ u5 = .int .i64 j ∧ Hid ((∀ i, i < j → bef (g D i) (x, y) = true) ∧ Q wr wr2)) (fun u5 _ => d - (intOf u5).toNat)
        case atStart => exact ⟨0, Nat.zero_le _, rfl, fun i hi => by omega, Q.refl _⟩
        case round =>
          obtain ⟨j, hjd, rfl, HJ⟩ := hrel
          have HQJ := Lib.hid (HQ1.out.trans HJ.out.2)
          have HOJ := Lib.hid (HO.out.q HJ.out.2)
          obtain ⟨q0, q1⟩ := HRW.out _ HQJ.out
          by_cases hlj : j < d
          · have hjl : j < D.length := by rw [HDL.out]; exact hlj
            obtain ⟨a0, a1⟩ := HOJ.out.cells (by rw [HDL.out]) hjl
            obtain ⟨⟨ax, ay⟩, ha⟩ : ∃ p, g D j = p := ⟨_, rfl⟩
            obtain ⟨z, hz⟩ : ∃ z, bef (ax, ay) (x, y) = z := ⟨_, rfl⟩
            have HZ := Lib.hid hz
            rw [ha] at a0 a1
            dsimp only at a0 a1
            have HA := Lib.hid ha
            have j1 : (j : Int) < (d : Int) := by omega
            have j0 : (0 : Int) ≤ (j : Int) := by omega
            have HSM := Lib.hid (show Hid (Q wr wr.drew) from Lib.hid ((Q.refl wr).drew))
            have hg2w : g2 < wr.heap.size := Nat.lt_of_lt_of_le hg2 HJ.out.2.size
            have hbbw : bb < wr.heap.size := Nat.lt_of_lt_of_le HBB.out HQJ.out.size
            clear hjl ha hz
            go_wp2_with fail
            go_region_held3 (fun W => Hid (Q wr W) ∧ W.cell? ⟨g2, j * 2, none⟩ = some (.int .i64 ax) ∧ W.cell? ⟨g2, j * 2 + 1, none⟩ = some (.int .i64 ay) ∧ W.cell? ⟨bb, off + k * 2, none⟩ = some (.int .i64 x) ∧ W.cell? ⟨bb, off + k * 2 + 1, none⟩ = some (.int .i64 y)) (first | exact ⟨HSM.out, a0, a1, q0, q1⟩ | exact two_cells hg2w hbbw ⟨HSM.out, a0, a1, q0, q1⟩ (by assumption)) (first | (go_at_call 34; refine (rBefore_c (ax, ay) (x, y) z HZ _).mono ?_; rintro e w2 ⟨rfl, hq2⟩))
            have HW2 := Lib.hid (show Q wr w2 from HSM.out.out.trans hq2)
            have b0 := (HW2.out.cell (p := ⟨g2, j * 2, none⟩) hg2w).trans a0
            have b1 := (HW2.out.cell (p := ⟨g2, j * 2 + 1, none⟩) hg2w).trans a1
            have r0 := (HW2.out.cell (p := ⟨bb, off + k * 2, none⟩) hbbw).trans q0
            have r1 := (HW2.out.cell (p := ⟨bb, off + k * 2 + 1, none⟩) hbbw).trans q1
            clear a0 a1 q0 q1 hq2
            cases z with
            | true =>
              have HBE := Lib.hid (show ∀ i, i < j + 1 → bef (g D i) (x, y) = true from fun i hi => by
                by_cases e : i = j
                · rw [e, HA.out]; exact HZ.out
                · exact HJ.out.1 i (by omega))
              go_wp2_with fail
              go_roundw
              case rel => exact ⟨j + 1, by omega, by go_num, HBE.out, HJ.out.2.trans HW2.out⟩
              case measure => simp [intOf] <;> omega
            | false =>
              by_cases he : ax = x ∧ ay = y
              · have HNI := Lib.hid (show srtD (l.take (k + 1)) = D by
                  rw [HNX.out]
                  exact insD_eq (by rw [HDL.out]; exact hlj) HJ.out.1 (by rw [HA.out]; exact HZ.out) (by rw [HA.out, he.1, he.2]))
                have e1 : (ax == x && ay == y) = true := by simp [he.1, he.2]
                have HO2 := Lib.hid (HOJ.out.q HW2.out)
                have HQ2 := Lib.hid (HQJ.out.trans HW2.out)
                clear he
                as_aux_lemma =>
                  go_wp2_with fail
                  go_quiet (fail)
                  go_wp2_with fail
                  go_roundw
                  case rel => exact ⟨k + 1, by omega, by go_num, by rw [HNI.out]; exact HO2.out.drewN _, HQ2.out.drewN _, fun e => by rw [HNI.out] at e; have := HDL.out; rw [e] at this; simp at this; omega⟩
                  case measure => simp [intOf] <;> omega
              · have HNI := Lib.hid (show srtD (l.take (k + 1)) = D.take j ++ [(x, y)] ++ D.drop j by
                  rw [HNX.out]
                  exact insD_at (by rw [HDL.out]; omega) HJ.out.1 (fun _ => by rw [HA.out]; exact ⟨HZ.out, fun e => he (by injection e with e1 e2; exact ⟨e1, e2⟩)⟩))
                have e1 : (ax == x && ay == y) = false := by
                  by_cases ex : ax = x
                  · have : ¬ ay = y := fun ey => he ⟨ex, ey⟩
                    simp [ex, this]
                  · simp [ex]
                have HO2 := Lib.hid (HOJ.out.q HW2.out)
                have HQ2 := Lib.hid (HQJ.out.trans HW2.out)
                have j2 : (j : Int) ≤ (d : Int) := by omega
                have j3 : j ≤ c2 := by omega
                have j4 : (j : Int) ≤ (c2 : Int) := by omega
                have j5 : (d : Int) ≤ (c2 : Int) := by omega
                clear he
                as_aux_lemma =>
                  go_wp2_with fail
                  go_quiet (fail)
                  obtain ⟨W1, hW1⟩ : ∃ W, w2.drewN nq = W := ⟨_, rfl⟩
                  have HQW := Lib.hid (show Q w W1 by rw [← hW1]; exact HQ2.out.drewN nq)
                  have HO1 := Lib.hid (show Own w.heap.size (.slice (some ⟨g2, 0, none⟩) d c2) D W1 by rw [← hW1]; exact HO2.out.drewN nq)
                  rw [hW1]
                  clear hW1 b0 b1 r0 r1
                  have HTK := Lib.hid (fun o => take_cells (HO1.out.q ((Q.refl W1).alloc o)) HDL.out j)
                  have HTKL := Lib.hid (show (cellsL (D.take j)).length = j * 2 by rw [cellsL_len, List.length_take, HDL.out, Nat.min_eq_left hjd])
                  have HJR := Lib.hid (show 0 + j ≤ maxLen ∧ (0 + j) * 16 ≤ 140737488355328 by unfold maxLen; omega)
                  go_wp2_with (first
                    | (at_builtin; refine wpList_append_own _ rfl _ _ 22 rfl W1.heap.size 38 i0 (.agg #[.int .i64 0, .int .i64 0]) 2 16 Try.underlying22 hi hz0 hz1 hz2 rfl (by decide) _ 0 [] rfl (World.ownsRow_lit W1 #[] 0 (Nat.le_refl _) (by decide) rfl) ⟨g2, 0, none⟩ j c2 (cellsL (D.take j)) rfl HTKL.out (HTK.out _) (cellsL_one _) HJR.out.1 HJR.out.2 (by simp) ?_)
                    | go_in)
                  intro v1 w1 hown1' hgrow1 _
                  obtain ⟨L1, hL1⟩ : ∃ L, D.take j = L := ⟨_, rfl⟩
                  have HL1 := Lib.hid (show L1.length = j by rw [← hL1, List.length_take, HDL.out, Nat.min_eq_left hjd])
                  have N1 := Lib.hid (show Own W1.heap.size v1 L1 w1 ∧ Below W1.heap.size W1 w1 from ⟨by
                    unfold Own; rw [HL1.out, ← hL1]; first | exact hown1' | (rw [Nat.zero_add] at hown1'; exact hown1'), ((Q.refl W1).alloc _).grown hgrow1 (by simp) (fun i e => by cases e; exact Nat.le_refl _)⟩)
                  have RM := Lib.hid (show Room L1.length from room_of (by have := HL1.out; omega))
                  rw [hL1] at HNI HTKL
                  clear hown1' hgrow1 hL1 HTK
                  have hrow1 := N1.out.1
                  have hqq := HQW.out.trans N1.out.2
                  obtain ⟨p0, p1⟩ := HRW.out _ hqq
                  have hown1 : w1.ownsRow W1.heap.size 38 2 v1 L1.length (cellsL L1) := hrow1
                  have HB1 := Lib.hid (show W1.heap.size ≤ w1.heap.size from N1.out.2.size)
                  clear hrow1 hqq
                  go_wp2_with (first
                    | (at_builtin; refine wpList_append_own _ rfl _ _ 22 rfl W1.heap.size 38 i0 (.agg #[.int .i64 0, .int .i64 0]) 2 16 Try.underlying22 hi hz0 hz1 hz2 rfl (by decide) _ _ _ rfl (hown1.alloc _) ⟨w1.heap.size, 0, none⟩ 1 1 [.int .i64 x, .int .i64 y] rfl rfl (pair_at _ _ _ _) (pair_cell _ _) RM.out.1 RM.out.2 (alloc_le HB1.out _) ?_)
                    | go_in)
                  intro v2 w2 hown2 hgrow2 _
                  have N2 := Lib.hid (own_next (s := (x, y)) N1.out.1 N1.out.2 HB1.out hown2 hgrow2)
                  clear hown2 hgrow2 hown1 p0 p1
                  have HDR := Lib.hid (drop_cells (HO1.out.q N2.out.2) HDL.out j)
                  have HDRL := Lib.hid (show (cellsL (D.drop j)).length = (d - j) * 2 by rw [cellsL_len, List.length_drop, HDL.out])
                  have hown2 : w2.ownsRow W1.heap.size 38 2 v2 (L1 ++ [(x, y)]).length (cellsL (L1 ++ [(x, y)])) := N2.out.1
                  have HB2 := Lib.hid (show W1.heap.size ≤ w2.heap.size from N2.out.2.size)
                  have HFI := Lib.hid (show (L1 ++ [(x, y)]).length + (d - j) ≤ maxLen ∧ ((L1 ++ [(x, y)]).length + (d - j)) * 16 ≤ 140737488355328 by rw [List.length_append, HL1.out]; unfold maxLen; simp; omega)
                  go_wp2_with (first
                    | (at_builtin; refine wpList_append_own _ rfl _ _ 22 rfl W1.heap.size 38 i0 (.agg #[.int .i64 0, .int .i64 0]) 2 16 Try.underlying22 hi hz0 hz1 hz2 rfl (by decide) _ _ _ rfl hown2 ⟨g2, j * 2, none⟩ (d - j) (c2 - j) (cellsL (D.drop j)) rfl HDRL.out HDR.out (cellsL_one _) HFI.out.1 HFI.out.2 HB2.out ?_)
                    | go_in)
                  intro v3 w3 hown3 hgrow3 _
                  have N3 := Lib.hid (show Own W1.heap.size v3 (L1 ++ [(x, y)] ++ D.drop j) w3 ∧ Below W1.heap.size W1 w3 from ⟨by
                    unfold Own; rw [cellsL_app, List.length_append, List.length_append, List.length_singleton, List.length_drop, HDL.out]; exact hown3, N2.out.2.grown hgrow3 HB2.out (fun i e => (N2.out.1.lt i e).1)⟩)
                  clear hown3 hgrow3 hown2
                  go_wp2_with fail
                  go_roundw
                  case rel => exact ⟨k + 1, by omega, by go_num, by rw [HNI.out]; exact N3.out.1.le HQW.out.size, HQW.out.trans (N3.out.2.mono (Nat.le_refl _)), fun e => by rw [HNI.out] at e; simp at e⟩
                  case measure => simp [intOf] <;> omega
          · obtain rfl : j = d := by omega
            have HNI := Lib.hid (show srtD (l.take (k + 1)) = D.take j ++ [(x, y)] ++ D.drop j by
              rw [HNX.out]
              exact insD_at (by rw [HDL.out]; exact Nat.le_refl _) HJ.out.1 (fun h => by rw [HDL.out] at h; omega))
            have j3 : j ≤ c2 := by omega
            have j4 : (j : Int) ≤ (c2 : Int) := by omega
            have j0 : (0 : Int) ≤ (j : Int) := by omega
            clear q0 q1
            by_cases hcj : j = c2
            · subst hcj
              as_aux_lemma =>
                go_wp2_with fail
                go_quiet (fail)
                obtain ⟨Wa, hWa⟩ : ∃ W, wr.drewN nq = W := ⟨_, rfl⟩
                have HQa := Lib.hid (show Q w Wa by rw [← hWa]; exact HQJ.out.drewN nq)
                have HOa := Lib.hid (show Own w.heap.size (.slice (some ⟨g2, 0, none⟩) j j) D Wa by rw [← hWa]; exact HOJ.out.drewN nq)
                rw [hWa]
                clear hWa
                go_wp2_with fail
                go_quiet (fail)
                obtain ⟨W1, hW1⟩ : ∃ W, Wa.drewN nq = W := ⟨_, rfl⟩
                have HQW := Lib.hid (show Q w W1 by rw [← hW1]; exact HQa.out.drewN nq)
                have HO1 := Lib.hid (show Own w.heap.size (.slice (some ⟨g2, 0, none⟩) j j) D W1 by rw [← hW1]; exact HOa.out.drewN nq)
                rw [hW1]
                clear hW1
                have HTK := Lib.hid (fun o => take_cells (HO1.out.q ((Q.refl W1).alloc o)) HDL.out j)
                have HTKL := Lib.hid (show (cellsL (D.take j)).length = j * 2 by rw [cellsL_len, List.length_take, HDL.out, Nat.min_eq_left hjd])
                have HJR := Lib.hid (show 0 + j ≤ maxLen ∧ (0 + j) * 16 ≤ 140737488355328 by unfold maxLen; omega)
                go_wp2_with (first
                  | (at_builtin; refine wpList_append_own _ rfl _ _ 22 rfl W1.heap.size 38 i0 (.agg #[.int .i64 0, .int .i64 0]) 2 16 Try.underlying22 hi hz0 hz1 hz2 rfl (by decide) _ 0 [] rfl (World.ownsRow_lit W1 #[] 0 (Nat.le_refl _) (by decide) rfl) ⟨g2, 0, none⟩ j j (cellsL (D.take j)) rfl HTKL.out (HTK.out _) (cellsL_one _) HJR.out.1 HJR.out.2 (by simp) ?_)
                  | go_in)
                intro v1 w1 hown1' hgrow1 _
                obtain ⟨L1, hL1⟩ : ∃ L, D.take j = L := ⟨_, rfl⟩
                have HL1 := Lib.hid (show L1.length = j by rw [← hL1, List.length_take, HDL.out, Nat.min_eq_left hjd])
                have N1 := Lib.hid (show Own W1.heap.size v1 L1 w1 ∧ Below W1.heap.size W1 w1 from ⟨by
                  unfold Own; rw [HL1.out, ← hL1]; first | exact hown1' | (rw [Nat.zero_add] at hown1'; exact hown1'), ((Q.refl W1).alloc _).grown hgrow1 (by simp) (fun i e => by cases e; exact Nat.le_refl _)⟩)
                have RM := Lib.hid (show Room L1.length from room_of (by have := HL1.out; omega))
                rw [hL1] at HNI HTKL
                clear hown1' hgrow1 hL1 HTK
                have hrow1 := N1.out.1
                have hqq := HQW.out.trans N1.out.2
                obtain ⟨p0, p1⟩ := HRW.out _ hqq
                have hown1 : w1.ownsRow W1.heap.size 38 2 v1 L1.length (cellsL L1) := hrow1
                have HB1 := Lib.hid (show W1.heap.size ≤ w1.heap.size from N1.out.2.size)
                clear hrow1 hqq
                go_wp2_with (first
                  | (at_builtin; refine wpList_append_own _ rfl _ _ 22 rfl W1.heap.size 38 i0 (.agg #[.int .i64 0, .int .i64 0]) 2 16 Try.underlying22 hi hz0 hz1 hz2 rfl (by decide) _ _ _ rfl (hown1.alloc _) ⟨w1.heap.size, 0, none⟩ 1 1 [.int .i64 x, .int .i64 y] rfl rfl (pair_at _ _ _ _) (pair_cell _ _) RM.out.1 RM.out.2 (alloc_le HB1.out _) ?_)
                  | go_in)
                intro v2 w2 hown2 hgrow2 _
                have N2 := Lib.hid (own_next (s := (x, y)) N1.out.1 N1.out.2 HB1.out hown2 hgrow2)
                clear hown2 hgrow2 hown1 p0 p1
                have hown2 : w2.ownsRow W1.heap.size 38 2 v2 (L1 ++ [(x, y)]).length (cellsL (L1 ++ [(x, y)])) := N2.out.1
                have HB2 := Lib.hid (show W1.heap.size ≤ w2.heap.size from N2.out.2.size)
                have HFI := Lib.hid (show (L1 ++ [(x, y)]).length + 0 ≤ maxLen ∧ ((L1 ++ [(x, y)]).length + 0) * 16 ≤ 140737488355328 by rw [List.length_append, HL1.out]; unfold maxLen; simp; omega)
                go_wp2_with (first
                  | (at_builtin; refine wpList_append_own _ rfl _ _ 22 rfl W1.heap.size 38 i0 (.agg #[.int .i64 0, .int .i64 0]) 2 16 Try.underlying22 hi hz0 hz1 hz2 rfl (by decide) _ _ _ rfl hown2 _ 0 _ [] rfl rfl (fun i u hu => by cases hu) (fun u hu => by cases hu) HFI.out.1 HFI.out.2 HB2.out ?_)
                  | go_in)
                intro v3 w3 hown3 hgrow3 _
                have N3 := Lib.hid (show Own W1.heap.size v3 (L1 ++ [(x, y)] ++ D.drop j) w3 ∧ Below W1.heap.size W1 w3 from ⟨by
                  rw [List.drop_of_length_le (by rw [HDL.out]; omega), List.append_nil]; unfold Own; first | exact hown3 | (rw [List.append_nil] at hown3; exact hown3) | (simpa using hown3), N2.out.2.grown hgrow3 HB2.out (fun i e => (N2.out.1.lt i e).1)⟩)
                clear hown3 hgrow3 hown2
                go_wp2_with fail
                go_roundw
                case rel => exact ⟨k + 1, by omega, by go_num, by rw [HNI.out]; exact N3.out.1.le HQW.out.size, HQW.out.trans (N3.out.2.mono (Nat.le_refl _)), fun e => by rw [HNI.out] at e; simp at e⟩
                case measure => simp [intOf] <;> omega
            · have hcj2 : j < c2 := by omega
              have hcj3 : (j : Int) < (c2 : Int) := by omega
              as_aux_lemma =>
                go_wp2_with fail
                go_quiet (fail)
                obtain ⟨Wa, hWa⟩ : ∃ W, wr.drewN nq = W := ⟨_, rfl⟩
                have HQa := Lib.hid (show Q w Wa by rw [← hWa]; exact HQJ.out.drewN nq)
                have HOa := Lib.hid (show Own w.heap.size (.slice (some ⟨g2, 0, none⟩) j c2) D Wa by rw [← hWa]; exact HOJ.out.drewN nq)
                rw [hWa]
                clear hWa
                go_wp2_with fail
                go_quiet (fail)
                obtain ⟨W1, hW1⟩ : ∃ W, Wa.drewN nq = W := ⟨_, rfl⟩
                have HQW := Lib.hid (show Q w W1 by rw [← hW1]; exact HQa.out.drewN nq)
                have HO1 := Lib.hid (show Own w.heap.size (.slice (some ⟨g2, 0, none⟩) j c2) D W1 by rw [← hW1]; exact HOa.out.drewN nq)
                rw [hW1]
                clear hW1
                have HTK := Lib.hid (fun o => take_cells (HO1.out.q ((Q.refl W1).alloc o)) HDL.out j)
                have HTKL := Lib.hid (show (cellsL (D.take j)).length = j * 2 by rw [cellsL_len, List.length_take, HDL.out, Nat.min_eq_left hjd])
                have HJR := Lib.hid (show 0 + j ≤ maxLen ∧ (0 + j) * 16 ≤ 140737488355328 by unfold maxLen; omega)
                go_wp2_with (first
                  | (at_builtin; refine wpList_append_own _ rfl _ _ 22 rfl W1.heap.size 38 i0 (.agg #[.int .i64 0, .int .i64 0]) 2 16 Try.underlying22 hi hz0 hz1 hz2 rfl (by decide) _ 0 [] rfl (World.ownsRow_lit W1 #[] 0 (Nat.le_refl _) (by decide) rfl) ⟨g2, 0, none⟩ j c2 (cellsL (D.take j)) rfl HTKL.out (HTK.out _) (cellsL_one _) HJR.out.1 HJR.out.2 (by simp) ?_)
                  | go_in)
                intro v1 w1 hown1' hgrow1 _
                obtain ⟨L1, hL1⟩ : ∃ L, D.take j = L := ⟨_, rfl⟩
                have HL1 := Lib.hid (show L1.length = j by rw [← hL1, List.length_take, HDL.out, Nat.min_eq_left hjd])
                have N1 := Lib.hid (show Own W1.heap.size v1 L1 w1 ∧ Below W1.heap.size W1 w1 from ⟨by
                  unfold Own; rw [HL1.out, ← hL1]; first | exact hown1' | (rw [Nat.zero_add] at hown1'; exact hown1'), ((Q.refl W1).alloc _).grown hgrow1 (by simp) (fun i e => by cases e; exact Nat.le_refl _)⟩)
                have RM := Lib.hid (show Room L1.length from room_of (by have := HL1.out; omega))
                rw [hL1] at HNI HTKL
                clear hown1' hgrow1 hL1 HTK
                have hrow1 := N1.out.1
                have hqq := HQW.out.trans N1.out.2
                obtain ⟨p0, p1⟩ := HRW.out _ hqq
                have hown1 : w1.ownsRow W1.heap.size 38 2 v1 L1.length (cellsL L1) := hrow1
                have HB1 := Lib.hid (show W1.heap.size ≤ w1.heap.size from N1.out.2.size)
                clear hrow1 hqq
                go_wp2_with (first
                  | (at_builtin; refine wpList_append_own _ rfl _ _ 22 rfl W1.heap.size 38 i0 (.agg #[.int .i64 0, .int .i64 0]) 2 16 Try.underlying22 hi hz0 hz1 hz2 rfl (by decide) _ _ _ rfl (hown1.alloc _) ⟨w1.heap.size, 0, none⟩ 1 1 [.int .i64 x, .int .i64 y] rfl rfl (pair_at _ _ _ _) (pair_cell _ _) RM.out.1 RM.out.2 (alloc_le HB1.out _) ?_)
                  | go_in)
                intro v2 w2 hown2 hgrow2 _
                have N2 := Lib.hid (own_next (s := (x, y)) N1.out.1 N1.out.2 HB1.out hown2 hgrow2)
                clear hown2 hgrow2 hown1 p0 p1
                have hown2 : w2.ownsRow W1.heap.size 38 2 v2 (L1 ++ [(x, y)]).length (cellsL (L1 ++ [(x, y)])) := N2.out.1
                have HB2 := Lib.hid (show W1.heap.size ≤ w2.heap.size from N2.out.2.size)
                have HFI := Lib.hid (show (L1 ++ [(x, y)]).length + 0 ≤ maxLen ∧ ((L1 ++ [(x, y)]).length + 0) * 16 ≤ 140737488355328 by rw [List.length_append, HL1.out]; unfold maxLen; simp; omega)
                go_wp2_with (first
                  | (at_builtin; refine wpList_append_own _ rfl _ _ 22 rfl W1.heap.size 38 i0 (.agg #[.int .i64 0, .int .i64 0]) 2 16 Try.underlying22 hi hz0 hz1 hz2 rfl (by decide) _ _ _ rfl hown2 _ 0 _ [] rfl rfl (fun i u hu => by cases hu) (fun u hu => by cases hu) HFI.out.1 HFI.out.2 HB2.out ?_)
                  | go_in)
                intro v3 w3 hown3 hgrow3 _
                have N3 := Lib.hid (show Own W1.heap.size v3 (L1 ++ [(x, y)] ++ D.drop j) w3 ∧ Below W1.heap.size W1 w3 from ⟨by
                  rw [List.drop_of_length_le (by rw [HDL.out]; omega), List.append_nil]; unfold Own; first | exact hown3 | (rw [List.append_nil] at hown3; exact hown3) | (simpa using hown3), N2.out.2.grown hgrow3 HB2.out (fun i e => (N2.out.1.lt i e).1)⟩)
                clear hown3 hgrow3 hown2
                go_wp2_with fail
                go_roundw
                case rel => exact ⟨k + 1, by omega, by go_num, by rw [HNI.out]; exact N3.out.1.le HQW.out.size, HQW.out.trans (N3.out.2.mono (Nat.le_refl _)), fun e => by rw [HNI.out] at e; simp at e⟩
                case measure => simp [intOf] <;> omega
    · obtain rfl : k = n := by omega
      have HE := Lib.hid (show l.take k = l by rw [List.take_of_length_le (by rw [HN.out]; exact Nat.le_refl _)])
      go_wp2_with fail
      go_ret
      exact ⟨_, rfl, by rw [← HE.out]; exact HI.out.1, HI.out.2.1⟩
end Go.Proofs.Ytkkghejbdakmpaa
