/- The contracts of Gaps and of the reference's Gaps. -/
import Derived.Test.YtlcgbeocdimboaaDoorGapM
import Derived.Test.YtlcgbeocdimboaaDoorSmall
set_option linter.unusedVariables false
set_option linter.unusedSimpArgs false
namespace Go.Proofs.YtlcgbeocdimboaaDoor
open Go.ChangeShapes Go.WideShapes Go.ChangeAt Go.RowKit Pm

theorem min_run (ts : Array TypeId) (t : TypeId) (a b m : Int) (w : World) (h : min a b = m) : (Builtin.min_ ts t #[.int .i64 a, .int .i64 b]).run Tryd.prog w = .ok (.int .i64 m) w := by
  subst h
  show ((Builtin.min2 (.int .i64 a) (.int .i64 b)) >>= fun x => pure x).run Tryd.prog w = _
  by_cases h : b < a
  · rw [Int.min_eq_right (by omega)]
    simp [Builtin.min2, h]
  · rw [Int.min_eq_left (by omega)]
    simp [Builtin.min2, h]
/-- the gaps met on the way, twice around -/
def gC (l : List RD) (i : Nat) : Nat := cw l 0 (min i l.length)
theorem gC_next {l : List RD} {i : Nat} : gC l (i + 1) = if i < l.length then gC l i + (gapA l i).toNat else gC l i := by
  unfold gC
  split
  · rename_i h
    rw [show min (i + 1) l.length = i + 1 by omega, show min i l.length = i by omega]
    show cw l 0 i + _ = _
    rw [Nat.zero_add]
  · rename_i h
    rw [show min (i + 1) l.length = l.length by omega, show min i l.length = l.length by omega]
theorem lon_bd (l : List RD) (m : Nat) : lonE l m ≤ m ∧ runE l m ≤ m := by
  obtain ⟨i, hi, e⟩ := lonE_ex l m
  have := (runE_all l i).1
  exact ⟨by omega, (runE_all l m).1⟩
set_option maxRecDepth 100000 in
set_option maxHeartbeats 1600000 in
theorem Gaps_c (z : Int) (v : Value) (l : List RD) (n1 n2 : Nat) (h1 : Hid (gN l = n1)) (h2 : Hid (gL l = n2)) (w : World) (hr : RdR w v l) (hl : l.length ≤ 1000000) : Calls Tryd.prog 12 #[.agg #[.int .i64 z, v]] w fun r w' => r = .returned (.tuple #[.int .i64 n1, .int .i64 n2]) ∧ Q w w' := by
  have HR := Lib.hid hr
  obtain ⟨A, c, rfl, hc, _⟩ := hr
  obtain ⟨n, hn⟩ : ∃ n, l.length = n := ⟨_, rfl⟩
  have HN := Lib.hid hn
  rw [hn] at HR hl hc
  rw [hn]
  obtain ⟨W0, hW0⟩ : ∃ W, w.alloc (.cells #[.int .i64 z, .slice A n c] 24) = W := ⟨_, rfl⟩
  have Q0 := Lib.hid (show Q w W0 by rw [← hW0]; exact (Q.refl w).alloc _)
  have y1 : W0.cell? ⟨w.heap.size, 1, none⟩ = some (.slice A n c) := by rw [← hW0]; exact World.cell?_alloc_at _ _ _ _ rfl
  have HW := Lib.hid (show w.heap.size < W0.heap.size by rw [← hW0]; simp)
  clear hn
  obtain ⟨M, hM⟩ : ∃ M, 2 * n = M := ⟨_, rfl⟩
  have HM := Lib.hid hM
  have e2 : (2 : Int) * (n : Int) = (M : Int) := by omega
  have e3 : (M : Int) ≤ 2000000 := by omega
  have e4 : IntKind.i64.wrap (M : Int) = (M : Int) := IntWalk.i64_in _ (by omega)
  clear hM
  go_enter Tryd.func12, Tryd.ntmps12
  go_wp2_with fail
  go_loopw [4, 5, 6, 12] (fun v4 v5 v6 v12 wr => ∃ k : Nat, k ≤ M ∧ v12 = .int .i64 k ∧ v4 = .int .i64 (gC l k) ∧ v5 = .int .i64 (runE l k) ∧ v6 = .int .i64 (lonE l k) ∧ Hid (Q W0 wr)) (fun _ _ _ v12 _ => M - (intOf v12).toNat)
  case atStart => exact ⟨0, by omega, rfl, by unfold gC; rw [Nat.zero_min]; rfl, rfl, rfl, Q.refl _⟩
  case round =>
    obtain ⟨k, hk, rfl, rfl, rfl, rfl, HI⟩ := hrel
    have yr := (HI.out.cell (p := ⟨w.heap.size, 1, none⟩) HW.out).trans y1
    by_cases hlt : k < M
    · have hn0 : 0 < n := by have := HM.out; omega
      obtain ⟨m, hm⟩ : ∃ m, k % n = m := ⟨_, rfl⟩
      have hmn : m < n := by rw [← hm]; exact Nat.mod_lt _ hn0
      have hml : m < l.length := by rw [HN.out]; exact hmn
      obtain ⟨bb, off, rfl, hbb, _, c0, c1', c2⟩ := HR.out.at (Q0.out.trans HI.out) hml
      obtain ⟨o, ho⟩ : ∃ o, (gr l m).o = o := ⟨_, rfl⟩
      rw [ho] at c2
      have HG := Lib.hid (show gapA l k = !o by unfold gapA; rw [HN.out, hm, ho])
      have m1 : (k : Int).tmod (n : Int) = (m : Int) := by rw [Int.tmod_eq_emod_of_nonneg (by omega), ← hm]; exact (Int.natCast_emod _ _).symm
      have m2 : (k : Int) % (n : Int) = (m : Int) := by rw [← hm]; exact (Int.natCast_emod _ _).symm
      have t1 : ((n : Int) == 0) = false := by simp; omega
      have t2 : ¬ n = 0 := by omega
      have i1 : (k : Int) < (M : Int) := by omega
      have i2 : (0 : Int) ≤ (m : Int) := by omega
      have i3 : (m : Int) < (n : Int) := by omega
      have i4 : IntKind.i64.wrap (m : Int) = (m : Int) := IntWalk.i64_in _ (by omega)
      obtain ⟨hb1, hb2⟩ := lon_bd l k
      have hb3 : gC l k ≤ n := by rw [← HN.out]; exact Nat.le_trans (cw_mono l 0 (Nat.min_le_right k l.length)) (gN_le l)
      have HC := Lib.hid (gC_next (l := l) (i := k))
      have HE5 := Lib.hid (show runE l (k + 1) = if gapA l k = true then runE l k + 1 else 0 from rfl)
      have HE6 := Lib.hid (show lonE l (k + 1) = if gapA l k = true then max (lonE l k) (runE l k + 1) else lonE l k from rfl)
      obtain ⟨G, hG⟩ : ∃ x, gC l k = x := ⟨_, rfl⟩
      obtain ⟨R, hR⟩ : ∃ x, runE l k = x := ⟨_, rfl⟩
      obtain ⟨L, hL⟩ : ∃ x, lonE l k = x := ⟨_, rfl⟩
      rw [hG] at HC hb3
      rw [hR] at HE5 HE6 hb2
      rw [hL] at HE6 hb1
      rw [hG, hR, hL]
      have k32 : k ≤ 2000000 := by omega
      clear hm ho hml hmn hG hR hL
      cases o with
      | true =>
        have HH := Lib.hid (show gC l (k + 1) = G ∧ runE l (k + 1) = 0 ∧ lonE l (k + 1) = L by
          rw [HC.out, HE5.out, HE6.out, HG.out]; simp)
        go_wp2_with fail
        go_quiet (fail)
        go_wp2_with fail
        go_roundw
        case rel => exact ⟨k + 1, by omega, by go_num, by rw [HH.out.1], by rw [HH.out.2.1]; rfl, by rw [HH.out.2.2], HI.out.drewN _⟩
        case measure => simp [intOf] <;> omega
      | false =>
        obtain ⟨X, hX⟩ : ∃ x, max L (R + 1) = x := ⟨_, rfl⟩
        have r1 := fun w => max_run #[3, 3] 3 (L : Int) ((R : Int) + 1) (X : Int) w (by omega)
        have HX := Lib.hid hX
        by_cases hkn : k < n
        · have HH := Lib.hid (show gC l (k + 1) = G + 1 ∧ runE l (k + 1) = R + 1 ∧ lonE l (k + 1) = X by
            rw [HC.out, HE5.out, HE6.out, HG.out, HN.out, if_pos hkn]; simp; exact HX.out)
          have i5 : (k : Int) < (n : Int) := by omega
          clear hX
          go_wp2_with fail
          go_quiet (fail)
          go_wp2_with fail
          go_roundw
          case rel => exact ⟨k + 1, by omega, by go_num, by rw [HH.out.1]; go_num, by rw [HH.out.2.1]; go_num, by rw [HH.out.2.2], HI.out.drewN _⟩
          case measure => simp [intOf] <;> omega
        · have HH := Lib.hid (show gC l (k + 1) = G ∧ runE l (k + 1) = R + 1 ∧ lonE l (k + 1) = X by
            rw [HC.out, HE5.out, HE6.out, HG.out, HN.out, if_neg hkn]; simp; exact HX.out)
          have i5 : ¬ (k : Int) < (n : Int) := by omega
          clear hX
          go_wp2_with fail
          go_quiet (fail)
          go_wp2_with fail
          go_roundw
          case rel => exact ⟨k + 1, by omega, by go_num, by rw [HH.out.1], by rw [HH.out.2.1]; go_num, by rw [HH.out.2.2], HI.out.drewN _⟩
          case measure => simp [intOf] <;> omega
    · obtain rfl : k = M := by omega
      have HA := Lib.hid (show gC l k = n1 by rw [← h1.out]; unfold gC gN; rw [show min k l.length = l.length by rw [HN.out]; have := HM.out; omega])
      have HB := Lib.hid (show min (lonE l k) n1 = n2 by rw [← h2.out]; unfold gL; rw [HN.out, HM.out, h1.out])
      obtain ⟨L, hL⟩ : ∃ x, lonE l k = x := ⟨_, rfl⟩
      rw [HA.out, hL]
      rw [hL] at HB
      have r1 := fun w => min_run #[3, 3] 3 (L : Int) (n1 : Int) (n2 : Int) w (by have := HB.out; omega)
      clear hL
      go_wp2_with fail
      refine bodyPost_ret (v := .tuple #[.int .i64 n1, .int .i64 n2]) (by simp [results, Tryd.results12, go_sem]) rfl ⟨rfl, Q0.out.trans HI.out⟩
/-! the reference's -/
theorem mr_le (l : List RD) (n : Nat) (h : l.length = n) (k : Nat) : mr l k ≤ n := by
  rcases mr_ex l k with e | ⟨i, _, e⟩
  · omega
  · have := runF_le l l.length i; omega
theorem run_end {l : List RD} {k r : Nat} (hr : r ≤ l.length) (hg : ∀ j, j < r → gapA l (k + j) = true) (he : r = l.length ∨ gapA l (k + r) = false) : runF l k l.length = r := by
  have h1 := runF_ge l l.length k r hr hg
  have h2 := runF_le l l.length k
  rcases he with he | he
  · omega
  · rcases Nat.lt_or_ge r (runF l k l.length) with h | h
    · have := runF_all l l.length k r h; rw [he] at this; cases this
    · omega
set_option maxRecDepth 100000 in
set_option maxHeartbeats 1600000 in
theorem rGaps_c (z : Int) (v : Value) (l : List RD) (n1 n2 : Nat) (h1 : Hid (gN l = n1)) (h2 : Hid (gL l = n2)) (w : World) (hr : RdR w v l) (hl : l.length ≤ 1000000) : Calls Tryd.prog 13 #[.agg #[.int .i64 z, v]] w fun r w' => r = .returned (.tuple #[.int .i64 n1, .int .i64 n2]) ∧ Q w w' := by
  have HR := Lib.hid hr
  obtain ⟨A, c, rfl, hc, _⟩ := hr
  obtain ⟨n, hn⟩ : ∃ n, l.length = n := ⟨_, rfl⟩
  have HN := Lib.hid hn
  rw [hn] at HR hl hc
  rw [hn]
  obtain ⟨W0, hW0⟩ : ∃ W, w.alloc (.cells #[.int .i64 z, .slice A n c] 24) = W := ⟨_, rfl⟩
  have Q0 := Lib.hid (show Q w W0 by rw [← hW0]; exact (Q.refl w).alloc _)
  have y1 : W0.cell? ⟨w.heap.size, 1, none⟩ = some (.slice A n c) := by rw [← hW0]; exact World.cell?_alloc_at _ _ _ _ rfl
  have HW := Lib.hid (show w.heap.size < W0.heap.size by rw [← hW0]; simp)
  clear hn
  go_enter Tryd.func13, Tryd.ntmps13
  go_wp2_with fail
  go_loopw [5, 6, 7] (fun v5 v6 v7 wr => ∃ k : Nat, k ≤ n ∧ v7 = .int .i64 k ∧ v5 = .int .i64 (cw l 0 k) ∧ v6 = .int .i64 (mr l k) ∧ Hid (Q W0 wr)) (fun _ _ v7 _ => n - (intOf v7).toNat)
  case atStart => exact ⟨0, by omega, rfl, rfl, rfl, Q.refl _⟩
  case round =>
    obtain ⟨k, hk, rfl, rfl, rfl, HI⟩ := hrel
    have yr := (HI.out.cell (p := ⟨w.heap.size, 1, none⟩) HW.out).trans y1
    by_cases hlt : k < n
    · have hml : k < l.length := by rw [HN.out]; exact hlt
      obtain ⟨bb, off, rfl, hbb, _, c0, c1', c2⟩ := HR.out.at (Q0.out.trans HI.out) hml
      obtain ⟨o, ho⟩ : ∃ o, (gr l k).o = o := ⟨_, rfl⟩
      rw [ho] at c2
      have HG := Lib.hid (show gapA l k = !o by unfold gapA; rw [HN.out, Nat.mod_eq_of_lt hlt, ho])
      have HC := Lib.hid (show cw l 0 (k + 1) = cw l 0 k + (gapA l (0 + k)).toNat from rfl)
      have HM := Lib.hid (show mr l (k + 1) = if gapA l k = true then max (mr l k) (runF l k l.length) else mr l k from rfl)
      have hb1 : cw l 0 k ≤ k := cw_le l 0 k
      have hb2 : mr l k ≤ n := mr_le l n HN.out k
      obtain ⟨C, hC⟩ : ∃ x, cw l 0 k = x := ⟨_, rfl⟩
      obtain ⟨M, hM⟩ : ∃ x, mr l k = x := ⟨_, rfl⟩
      rw [hC] at HC hb1
      rw [hM] at HM hb2
      rw [hC, hM]
      have i1 : (k : Int) < (n : Int) := by omega
      have i2 : (0 : Int) ≤ (k : Int) := by omega
      clear hml ho hC hM
      cases o with
      | true =>
        have HH := Lib.hid (show cw l 0 (k + 1) = C ∧ mr l (k + 1) = M by rw [HC.out, HM.out, Nat.zero_add, HG.out]; simp)
        go_wp2_with fail
        go_roundw
        case rel => exact ⟨k + 1, by omega, by go_num, by rw [HH.out.1], by rw [HH.out.2], HI⟩
        case measure => simp [intOf] <;> omega
      | false =>
        have t1 : ((n : Int) == 0) = false := by simp; omega
        have t2 : ¬ n = 0 := by omega
        go_wp2_with fail
        go_loopw [8] (fun v8 wr => ∃ r : Nat, r ≤ n ∧ v8 = .int .i64 r ∧ Hid ((∀ j, j < r → gapA l (k + j) = true) ∧ Q W0 wr)) (fun v8 _ => n - (intOf v8).toNat)
        case atStart => exact ⟨0, by omega, rfl, fun j hj => absurd hj (Nat.not_lt_zero _), HI.out⟩
        case round =>
          obtain ⟨r, hr, rfl, HJ⟩ := hrel
          have yr2 := (HJ.out.2.cell (p := ⟨w.heap.size, 1, none⟩) HW.out).trans y1
          by_cases hrn : r < n
          · obtain ⟨m, hm⟩ : ∃ m, (k + r) % n = m := ⟨_, rfl⟩
            have hmn : m < n := by rw [← hm]; exact Nat.mod_lt _ (by omega)
            have hml : m < l.length := by rw [HN.out]; exact hmn
            obtain ⟨b2, off2, e2, _, _, d0, d1, d2⟩ := HR.out.at (Q0.out.trans HJ.out.2) hml
            injection e2 with e2; injection e2 with e21 e22
            subst e21 e22
            obtain ⟨p, hp⟩ : ∃ o, (gr l m).o = o := ⟨_, rfl⟩
            rw [hp] at d2
            have HP := Lib.hid (show gapA l (k + r) = !p by unfold gapA; rw [HN.out, hm, hp])
            obtain ⟨s, hs⟩ : ∃ s, k + r = s := ⟨_, rfl⟩
            have s1 : (k : Int) + (r : Int) = (s : Int) := by omega
            rw [hs] at hm
            have m1 : (s : Int).tmod (n : Int) = (m : Int) := by rw [Int.tmod_eq_emod_of_nonneg (by omega), ← hm]; exact (Int.natCast_emod _ _).symm
            have m2 : (s : Int) % (n : Int) = (m : Int) := by rw [← hm]; exact (Int.natCast_emod _ _).symm
            have j1 : (r : Int) < (n : Int) := by omega
            have j2 : (0 : Int) ≤ (m : Int) := by omega
            have j3 : (m : Int) < (n : Int) := by omega
            have j4 : IntKind.i64.wrap (m : Int) = (m : Int) := IntWalk.i64_in _ (by omega)
            have j5 : IntKind.i64.wrap (s : Int) = (s : Int) := IntWalk.i64_in _ (by omega)
            have j6 : decide (r < n) = true := decide_eq_true hrn
            clear hm hp hml hs
            cases p with
            | false =>
              have HK := Lib.hid (show ∀ j, j < r + 1 → gapA l (k + j) = true from fun j hj => by
                by_cases e : j = r
                · subst e; rw [HP.out]; rfl
                · exact HJ.out.1 j (by omega))
              go_wp2_with fail
              go_quiet (fail)
              go_wp2_with fail
              go_roundw
              case rel => exact ⟨r + 1, by omega, by go_num, HK.out, HJ.out.2.drewN _⟩
              case measure => simp [intOf] <;> omega
            | true =>
              have HK := Lib.hid (run_end (l := l) (k := k) (r := r) (by rw [HN.out]; exact hr) HJ.out.1 (.inr (by rw [HP.out]; rfl)))
              obtain ⟨X, hX⟩ : ∃ x, max M r = x := ⟨_, rfl⟩
              have r1 := fun w => max_run #[3, 3] 3 (M : Int) (r : Int) (X : Int) w (by omega)
              have HH := Lib.hid (show cw l 0 (k + 1) = C + 1 ∧ mr l (k + 1) = X by rw [HC.out, HM.out, Nat.zero_add, HG.out, HK.out]; simp; exact hX)
              clear hX
              go_wp2_with fail
              go_quiet (fail)
              go_wp2_with fail
              go_roundw
              case rel => exact ⟨k + 1, by omega, by go_num, by rw [HH.out.1]; go_num, by rw [HH.out.2], HJ.out.2.drewN _⟩
              case measure => simp [intOf] <;> omega
          · obtain rfl : r = n := by omega
            have HK := Lib.hid (run_end (l := l) (k := k) (r := r) (by rw [HN.out]; exact hr) HJ.out.1 (.inl HN.out.symm))
            obtain ⟨X, hX⟩ : ∃ x, max M r = x := ⟨_, rfl⟩
            have r1 := fun w => max_run #[3, 3] 3 (M : Int) (r : Int) (X : Int) w (by omega)
            have HH := Lib.hid (show cw l 0 (k + 1) = C + 1 ∧ mr l (k + 1) = X by rw [HC.out, HM.out, Nat.zero_add, HG.out, HK.out]; simp; exact hX)
            have j6 : decide (r < r) = false := by simp
            clear hX
            go_wp2_with fail
            go_quiet (fail)
            go_wp2_with fail
            go_roundw
            case rel => exact ⟨k + 1, by omega, by go_num, by rw [HH.out.1]; go_num, by rw [HH.out.2], HJ.out.2.drewN _⟩
            case measure => simp [intOf] <;> omega
    · obtain rfl : k = n := by omega
      have HA := Lib.hid (show cw l 0 k = n1 by rw [← h1.out]; unfold gN; rw [HN.out])
      have HB := Lib.hid (show mr l k = n2 by rw [← h2.out, gaps_same, HN.out])
      rw [HA.out, HB.out]
      go_wp2_with fail
      refine bodyPost_ret (v := .tuple #[.int .i64 n1, .int .i64 n2]) (by simp [results, Tryd.results13, go_sem]) rfl ⟨rfl, Q0.out.trans HI.out⟩
end Go.Proofs.YtlcgbeocdimboaaDoor
