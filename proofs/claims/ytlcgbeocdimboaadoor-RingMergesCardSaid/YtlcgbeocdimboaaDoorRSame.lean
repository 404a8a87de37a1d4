/- The contract of the reference's Same. -/
import Derived.Test.YtlcgbeocdimboaaDoorRepM
import Derived.Laws.StructEq
set_option linter.unusedVariables false
set_option linter.unusedSimpArgs false
namespace Go.Proofs.YtlcgbeocdimboaaDoor
open Go.ChangeShapes Go.WideShapes Go.ChangeAt Go.RowKit Pm

set_option maxRecDepth 100000 in
set_option maxHeartbeats 3200000 in
theorem Same_c (z z1 : Int) (v v1 : Value) (X Y : List RD) (bb : Bool) (h : Hid (decide (z = z1 ∧ X = Y) = bb)) (w : World) (ha : RdR w v X) (hb : RdR w v1 Y) (hX : X.length ≤ maxLen) (hY : Y.length ≤ maxLen) : Calls Tryd.prog 16 #[.agg #[.int .i64 z, v], .agg #[.int .i64 z1, v1]] w fun e w' => e = .returned (.bool bb) ∧ Q w w' := by
  have HA := Lib.hid ha
  have HB := Lib.hid hb
  obtain ⟨A, c, rfl, hc, _⟩ := ha
  obtain ⟨A1, c1, rfl, hc1, _⟩ := hb
  obtain ⟨n, hn⟩ : ∃ n, X.length = n := ⟨_, rfl⟩
  obtain ⟨m, hm⟩ : ∃ n, Y.length = n := ⟨_, rfl⟩
  have HN := Lib.hid hn
  have HM := Lib.hid hm
  rw [hn] at HA
  rw [hm] at HB
  rw [hn, hm]
  unfold maxLen at hX hY
  obtain ⟨W0, hW0⟩ : ∃ W, w.alloc (.cells #[.int .i64 z, .slice A n c] 24) = W := ⟨_, rfl⟩
  obtain ⟨W1, hW1⟩ : ∃ W, W0.alloc (.cells #[.int .i64 z1, .slice A1 m c1] 24) = W := ⟨_, rfl⟩
  have hs : w.heap.size < W0.heap.size := by rw [← hW0]; simp
  have hs1 : W0.heap.size < W1.heap.size := by rw [← hW1]; simp
  have Q0 := Lib.hid (show Q w W0 by rw [← hW0]; exact (Q.refl w).alloc _)
  have Q01 := Lib.hid (show Q W0 W1 by rw [← hW1]; exact (Q.refl W0).alloc _)
  have QW := Lib.hid (Q0.out.trans Q01.out)
  have HY := Lib.hid (show ∀ W, Q W1 W → (W.cell? ⟨w.heap.size, 0, none⟩ = some (.int .i64 z) ∧ W.cell? ⟨w.heap.size, 1, none⟩ = some (.slice A n c)) ∧ W.cell? ⟨W0.heap.size, 0, none⟩ = some (.int .i64 z1) ∧ W.cell? ⟨W0.heap.size, 1, none⟩ = some (.slice A1 m c1) from fun W h => ⟨⟨((Q01.out.trans h).cell (p := ⟨w.heap.size, 0, none⟩) hs).trans (by rw [← hW0]; exact World.cell?_alloc_at _ _ _ _ rfl), ((Q01.out.trans h).cell (p := ⟨w.heap.size, 1, none⟩) hs).trans (by rw [← hW0]; exact World.cell?_alloc_at _ _ _ _ rfl)⟩, (h.cell (p := ⟨W0.heap.size, 0, none⟩) hs1).trans (by rw [← hW1]; exact World.cell?_alloc_at _ _ _ _ rfl), (h.cell (p := ⟨W0.heap.size, 1, none⟩) hs1).trans (by rw [← hW1]; exact World.cell?_alloc_at _ _ _ _ rfl)⟩)
  obtain ⟨⟨y0, y1⟩, y2, y3⟩ := HY.out W1 (Q.refl _)
  by_cases hz : z = z1
  · have t1 : (z != z1) = false := by simp [hz]
    by_cases hnm : n = m
    · subst hnm
      have hn6 : n ≤ 9223372036854775807 := by omega
      have t2 : ((n : Int) != (n : Int)) = false := by simp
      have HZ := Lib.hid hz
      clear hc hc1 hn hm hX hY hz
      go_enter Tryd.func16, Tryd.ntmps16
      go_wp2_with fail
      clear y0 y1 y2 y3
      go_loopw [5] (fun u5 wr => ∃ k : Nat, k ≤ n ∧ u5 = .int .i64 k ∧ Hid ((∀ i, i < k → gr X i = gr Y i) ∧ Q W1 wr)) (fun u5 _ => n - (intOf u5).toNat)
      case atStart => exact ⟨0, Nat.zero_le _, rfl, fun i hi => by omega, Q.refl _⟩
      case round =>
        obtain ⟨k, hk, rfl, HI⟩ := hrel
        obtain ⟨⟨y0, y1⟩, y2, y3⟩ := HY.out wr HI.out.2
        by_cases hlt : k < n
        · have hkx : k < X.length := by rw [HN.out]; exact hlt
          have hky : k < Y.length := by rw [HM.out]; exact hlt
          obtain ⟨b, off, rfl, hb', _, hp0, hp1, hp4⟩ := HA.out.at (QW.out.trans HI.out.2) hkx
          obtain ⟨b2, off2, rfl, hb2', _, hp2, hp3, hp5⟩ := HB.out.at (QW.out.trans HI.out.2) hky
          obtain ⟨⟨xa, xb, xo⟩, hx⟩ : ∃ x, gr X k = x := ⟨_, rfl⟩
          obtain ⟨⟨ya, yb, yo⟩, hy⟩ : ∃ y, gr Y k = y := ⟨_, rfl⟩
          rw [hx] at hp0 hp1 hp4
          rw [hy] at hp2 hp3 hp5
          have HXY := Lib.hid (show gr X k = ⟨xa, xb, xo⟩ ∧ gr Y k = ⟨ya, yb, yo⟩ from ⟨hx, hy⟩)
          dsimp only at hp0 hp1 hp2 hp3 hp4 hp5
          have hgd := eqGr
          have i1 : (k : Int) < (n : Int) := by omega
          have i0 : (0 : Int) ≤ (k : Int) := by omega
          by_cases hxy : xa = ya ∧ xb = yb ∧ xo = yo
          · have heq : ∀ w, (Op.equalIn 10000 44 (.agg #[.int .i64 xa, .int .i64 xb, .bool xo]) (.agg #[.int .i64 ya, .int .i64 yb, .bool yo])).run Tryd.prog w = .ok true w := fun w => by rw [eqRd, hxy.1, hxy.2.1, hxy.2.2]; simp
            have HNX := Lib.hid (show ∀ i, i < k + 1 → gr X i = gr Y i from fun i hi => by
              by_cases e : i = k
              · subst e; rw [HXY.out.1, HXY.out.2, hxy.1, hxy.2.1, hxy.2.2]
              · exact HI.out.1 i (by omega))
            clear hx hy hkx hky hxy
            go_wp2_with fail
            go_quiet (fail)
            go_wp2_with fail
            go_roundw
            case rel => exact ⟨k + 1, by omega, by go_num, HNX.out, HI.out.2.drewN _⟩
            case measure => simp [intOf] <;> omega
          · have heq : ∀ w, (Op.equalIn 10000 44 (.agg #[.int .i64 xa, .int .i64 xb, .bool xo]) (.agg #[.int .i64 ya, .int .i64 yb, .bool yo])).run Tryd.prog w = .ok false w := fun w => by
              rw [eqRd]
              have : (xa == ya && xb == yb && xo == yo) = false := by
                rw [Bool.eq_false_iff]; intro g; rw [Bool.and_eq_true, Bool.and_eq_true, beq_iff_eq, beq_iff_eq, beq_iff_eq] at g; exact hxy ⟨g.1.1, g.1.2, g.2⟩
              first | rw [this] | simp_all
            have HE := Lib.hid (show false = bb by rw [← h.out]; exact (decide_eq_false fun e => hxy (by
              have h1 := HXY.out.1; rw [e.2, HXY.out.2] at h1; injection h1 with h1 h2 h3; exact ⟨h1.symm, h2.symm, h3.symm⟩)).symm)
            clear hx hy hkx hky hxy
            go_wp2_with fail
            go_quiet (fail)
            go_wp2_with fail
            go_ret
            exact ⟨ret_bool HE.out, QW.out.trans (HI.out.2.drewN _)⟩
        · obtain rfl : k = n := by omega
          have HE := Lib.hid (show true = bb by rw [← h.out]; exact (decide_eq_true ⟨HZ.out, gr_ext (by rw [HN.out, HM.out]) fun i hi => HI.out.1 i (by rw [HN.out] at hi; exact hi)⟩).symm)
          go_wp2_with fail
          go_ret
          exact ⟨ret_bool HE.out, QW.out.trans HI.out.2⟩
    · have t2 : ((n : Int) != (m : Int)) = true := by rw [bne_iff_ne]; omega
      have HE := Lib.hid (show false = bb by rw [← h.out]; exact (decide_eq_false fun e => hnm (by rw [← hn, ← hm, e.2])).symm)
      clear hc hc1 hn hm hX hY hnm hz
      go_enter Tryd.func16, Tryd.ntmps16
      go_wp2_with fail
      go_ret
      exact ⟨ret_bool HE.out, QW.out⟩
  · have t1 : (z != z1) = true := by simp [hz]
    have HE := Lib.hid (show false = bb by rw [← h.out]; exact (decide_eq_false fun e => hz e.1).symm)
    clear hc hc1 hn hm hX hY hz
    go_enter Tryd.func16, Tryd.ntmps16
    go_wp2_with fail
    go_ret
    exact ⟨ret_bool HE.out, QW.out⟩
end Go.Proofs.YtlcgbeocdimboaaDoor
