/- The contract of add: a span behind a canonical list of the call's own. -/
import Derived.Test.YtnbpkbdkhegheaaMem
import Derived.RegionTactic
import Derived.BigRegion
set_option linter.unusedVariables false
set_option linter.unusedSimpArgs false
namespace Go.Proofs.Ytnbpkbdkhegheaa
open Go.ChangeShapes Go.WideShapes Go.ChangeAt Go.RowKit Sm

def AddPost (B : Nat) (v : Value) (X : List S) (s : S) (w : World) (e : Ending) (w' : World) : Prop := ∃ v', e = .returned v' ∧ Own B v' (addL X s) w' ∧ Below B w w' ∧ w.grownBy w' v.ownBlock
theorem grown_q {w w' : World} (h : Q w w') (r : Option Nat) : w.grownBy w' r := ⟨h.os, h.tape, h.output, h.size, fun k hk _ => h.block k hk⟩
theorem grown_trans {a b c : World} {r : Option Nat} (h : a.grownBy b r) (k : b.grownBy c r) : a.grownBy c r := ⟨k.os.trans h.os, k.tape.trans h.tape, k.output.trans h.output, Nat.le_trans h.size k.size, fun i hi hne => (k.block i (Nat.lt_of_lt_of_le hi h.size) hne).trans (h.block i hi hne)⟩
theorem grown_drew {a b : World} {r : Option Nat} (h : a.grownBy b r) : a.grownBy b.drew r := ⟨h.os, h.tape, h.output, h.size, h.block⟩
theorem pair_at (w : World) (a b : Value) (t : TypeId) : ∀ j u, ([a, b] : List Value)[j]? = some u → (w.alloc (.cells #[a, b] t)).cell? ((⟨w.heap.size, 0, none⟩ : Addr).add j) = some u := by
  intro j u hj
  match j, hj with
  | 0, hj => simp at hj; subst hj; simp [Addr.add]
  | 1, hj => simp at hj; subst hj; simp [Addr.add]
theorem pair_cell (a b : Int) : ∀ u ∈ ([.int .i64 a, .int .i64 b] : List Value), u.oneCell' = true := by
  intro u hu; simp at hu; rcases hu with rfl | rfl <;> rfl
theorem alloc_le {B : Nat} {w : World} (h : B ≤ w.heap.size) (o : Obj) : B ≤ (w.alloc o).heap.size := by simp; omega
def Room (n : Nat) : Prop := n + 1 ≤ maxLen ∧ (n + 1) * 16 ≤ 140737488355328
theorem room_of {n : Nat} (h : n ≤ 1000000) : Room n := by unfold Room maxLen; omega
theorem own_next {B : Nat} {w0 w w1 : World} {v v' : Value} {l : List S} {s : S} {o : Obj} (h : Own B v l w) (hb : Below B w0 w) (hB : B ≤ w.heap.size)
    (h' : w1.ownsRow B 23 2 v' (l.length + 1) (cellsL l ++ [.int .i64 s.1, .int .i64 s.2])) (hg : (w.alloc o).grownBy w1 v.ownBlock) : Own B v' (l ++ [s]) w1 ∧ Below B w0 w1 :=
  ⟨by unfold Own; rw [List.length_append, cellsL_app]; exact h', (hb.alloc hB o).grown hg (by simp; omega) (fun j hj => (h.lt j hj).1)⟩
theorem Own.alloc {B : Nat} {v : Value} {l : List S} {w : World} (h : Own B v l w) (o : Obj) : Own B v l (w.alloc o) := World.ownsRow.alloc h o
theorem Own.drew {B : Nat} {v : Value} {l : List S} {w : World} (h : Own B v l w) : Own B v l w.drew := h
theorem Own.drewN {B : Nat} {v : Value} {l : List S} {w : World} (h : Own B v l w) (n : Nat) : Own B v l (w.drewN n) := h

set_option maxRecDepth 100000 in
set_option maxHeartbeats 1600000 in
theorem add_c (B : Nat) (v : Value) (X : List S) (s : S) (w : World) (ho : Own B v X w) (hB : B ≤ w.heap.size) (hX : X.length ≤ 1000000) :
    Calls Try.prog 40 #[v, sv s] w (AddPost B v X s w) := by
  obtain ⟨i0, hi, hz0, hz1, hz2⟩ := info_parts infoS
  obtain ⟨a, b⟩ := s
  have HO := Lib.hid ho
  have HBB := Lib.hid hB
  have RM := Lib.hid (room_of hX)
  unfold sv
  by_cases he : b ≤ a
  · have HE := Lib.hid (decide_eq_true he)
    have HA := Lib.hid (show addL X (a, b) = X from add_empty he)
    clear he ho hB hX
    go_enter Try.func40, Try.ntmps40
    go_wp2_with fail
    refine (isEmpty_w a b true HE _).mono ?_; rintro e w1 ⟨rfl, rfl⟩
    go_wp2_with fail
    go_ret
    exact ⟨v, rfl, by rw [HA.out]; exact (HO.out.alloc _).alloc _, ((Below.refl _ _).alloc HBB.out _).alloc (alloc_le HBB.out _) _, grown_q (((Q.refl w).alloc _).alloc _) _⟩
  · have HE := Lib.hid (decide_eq_false he)
    rcases snoc_cases X with rfl | ⟨Y, t, hY⟩
    · have HA := Lib.hid (show addL [] (a, b) = [(a, b)] from add_nil he)
      have hv : ∃ A c, v = .slice A 0 c := by
        obtain ⟨A, c, h1, _⟩ := ho.rd
        exact ⟨A, c, h1⟩
      obtain ⟨A, c, rfl⟩ := hv
      have hown : w.ownsRow B 23 2 (.slice A 0 c) 0 [] := ho
      clear he ho hB hX
      go_enter Try.func40, Try.ntmps40
      go_wp2_with fail
      refine (isEmpty_w a b false HE _).mono ?_; rintro e w1 ⟨rfl, rfl⟩
      go_wp2_with fail
      go_quiet (fail)
      obtain ⟨W1, hW1⟩ : ∃ W1, (((w.alloc (.cells #[.int .i64 a, .int .i64 b] 23)).alloc (.cells #[.int .i64 a, .int .i64 b] 23)).drewN nq) = W1 := ⟨_, rfl⟩
      have hq1 : Q w W1 := by rw [← hW1]; exact (((Q.refl w).alloc _).alloc _).drewN _
      have hc0 : W1.cell? ⟨w.heap.size, 0, none⟩ = some (.int .i64 a) := by rw [← hW1]; simp [go_sem, World.cell?_alloc_past]
      have hc1 : W1.cell? ⟨w.heap.size, 1, none⟩ = some (.int .i64 b) := by rw [← hW1]; simp [go_sem, World.cell?_alloc_past]
      have hO1 : Own B (.slice A 0 c) [] W1 := by rw [← hW1]; exact ((HO.out.alloc _).alloc _).drewN _
      have HO1 := Lib.hid hO1
      have hown1 : W1.ownsRow B 23 2 (.slice A 0 c) 0 [] := hO1
      have HB1 := Lib.hid (Nat.le_trans HBB.out hq1.size)
      have HQ1 := Lib.hid (show Below B w W1 from hq1.mono HBB.out)
      have HGR := Lib.hid hq1
      rw [hW1]
      clear hW1 hq1 hown hO1
      go_wp2_with (first
        | (at_builtin; refine wpList_append_own _ rfl _ _ 28 rfl B 23 i0 (.agg #[.int .i64 0, .int .i64 0]) 2 16 Try.underlying28 hi hz0 hz1 hz2 rfl (by decide) _ _ _ rfl (hown1.alloc _) ⟨W1.heap.size, 0, none⟩ 1 1 [.int .i64 a, .int .i64 b] rfl rfl (pair_at _ _ _ _) (pair_cell _ _) RM.out.1 RM.out.2 (alloc_le HB1.out _) ?_)
        | go_in)
      intro v' w1 hown' hgrow _
      have N := Lib.hid (own_next (s := (a, b)) HO1.out HQ1.out HB1.out hown' hgrow)
      have NG := Lib.hid (grown_trans (grown_q (HGR.out.alloc _) _) hgrow)
      clear hown' hgrow hown1
      go_wp2_with fail
      go_ret
      exact ⟨v', rfl, by rw [HA.out]; exact N.out.1, N.out.2, NG.out⟩
    · obtain ⟨m, hm⟩ : ∃ m, Y.length = m := ⟨_, rfl⟩
      have hl : X.length = m + 1 := by rw [hY, List.length_append, hm]; rfl
      obtain ⟨g, cap, rfl, hcap, hg1, hg2⟩ := ho.form (by omega)
      have hcl := cellsL_at X m t (by rw [hY, ← hm]; simp)
      have hcb := (ho.cellAt (m * 2 + 1) (by omega)).trans hcl.2
      have hfb := ho.frozenAt (m * 2 + 1)
      have hmx : m + 1 ≤ 1000000 := by omega
      have hcap1 : m + 1 ≤ cap := by omega
      obtain ⟨c, d⟩ := t
      have HG := Lib.hid (show B ≤ g ∧ g < w.heap.size from ⟨hg1, hg2⟩)
      have HL := Lib.hid hl
      have e1 : ((m + 1 : Nat) : Int) - 1 = (m : Int) := by omega
      have e2 : IntKind.i64.wrap (((m + 1 : Nat) : Int) - 1) = (m : Int) := by rw [e1]; exact IntWalk.i64_in _ (by omega)
      have e3 : decide ((m : Int) < 0) = false := decide_eq_false (by omega)
      rw [hl] at RM hcap
      rw [hl]
      by_cases hfar : d < a
      · have HA := Lib.hid (show addL X (a, b) = X ++ [(a, b)] by rw [hY]; exact add_far he hfar)
        have hcb1 : w.cell? ⟨g, m * 2 + 1, none⟩ = some (.int .i64 d) := hcb
        have hgw : g < w.heap.size := hg2
        have hgb : (m : Int) < ((m + 1 : Nat) : Int) := by omega
        rw [hl] at HO
        clear he ho hB hX hm hl hcl hcb hg1 hg2 hY
        go_enter Try.func40, Try.ntmps40
        go_wp2_with fail
        refine (isEmpty_w a b false HE _).mono ?_; rintro e w1 ⟨rfl, rfl⟩
        go_wp2_with fail
        go_quiet (fail)
        obtain ⟨W1, hW1⟩ : ∃ W1, (((w.alloc (.cells #[.int .i64 a, .int .i64 b] 23)).alloc (.cells #[.int .i64 a, .int .i64 b] 23)).drewN nq) = W1 := ⟨_, rfl⟩
        have hq1 : Q w W1 := by rw [← hW1]; exact (((Q.refl w).alloc _).alloc _).drewN _
        have hc0 : W1.cell? ⟨w.heap.size, 0, none⟩ = some (.int .i64 a) := by rw [← hW1]; simp [go_sem, World.cell?_alloc_past]
        have hc1 : W1.cell? ⟨w.heap.size, 1, none⟩ = some (.int .i64 b) := by rw [← hW1]; simp [go_sem, World.cell?_alloc_past]
        have hO1 : Own B (.slice (some ⟨g, 0, none⟩) (m + 1) cap) X W1 := by rw [← hW1]; exact ((HO.out.alloc _).alloc _).drewN _
        have HO1 := Lib.hid hO1
        have hown1 : W1.ownsRow B 23 2 (.slice (some ⟨g, 0, none⟩) (m + 1) cap) (m + 1) (cellsL X) := by unfold Own at hO1; rw [HL.out] at hO1; exact hO1
        have HB1 := Lib.hid (Nat.le_trans HBB.out hq1.size)
        have HQ1 := Lib.hid (show Below B w W1 from hq1.mono HBB.out)
        have HGR := Lib.hid hq1
        rw [hW1]
        clear hW1 hq1 hO1 hcb1 hfb hcap1
        go_wp2_with (first
          | (at_builtin; refine wpList_append_own _ rfl _ _ 28 rfl B 23 i0 (.agg #[.int .i64 0, .int .i64 0]) 2 16 Try.underlying28 hi hz0 hz1 hz2 rfl (by decide) _ _ _ rfl (hown1.alloc _) ⟨W1.heap.size, 0, none⟩ 1 1 [.int .i64 a, .int .i64 b] rfl rfl (pair_at _ _ _ _) (pair_cell _ _) RM.out.1 RM.out.2 (alloc_le HB1.out _) ?_)
          | go_in)
        intro v' w1 hown' hgrow _
        have N := Lib.hid (own_next (s := (a, b)) HO1.out HQ1.out HB1.out (by rw [HL.out]; exact hown') hgrow)
        have NG := Lib.hid (grown_trans (grown_q (HGR.out.alloc _) _) hgrow)
        clear hown' hgrow hown1
        go_wp2_with fail
        go_ret
        exact ⟨v', rfl, by rw [HA.out]; exact N.out.1, N.out.2, NG.out⟩
      · have HA := Lib.hid (show addL X (a, b) = Y ++ [(c, max d b)] by rw [hY]; exact add_near he hfar)
        have hcb1 : w.cell? ⟨g, m * 2 + 1, none⟩ = some (.int .i64 d) := hcb
        have hgw : g < w.heap.size := hg2
        have hgb : (m : Int) < ((m + 1 : Nat) : Int) := by omega
        have hfar' : decide (d < a) = false := decide_eq_false hfar
        have HY := Lib.hid hY
        have HM := Lib.hid hm
        rw [hl] at HO
        clear he ho hB hX hm hl hcl hcb hg1 hg2 hY
        go_enter Try.func40, Try.ntmps40
        go_wp2_with fail
        refine (isEmpty_w a b false HE _).mono ?_; rintro e w1 ⟨rfl, rfl⟩
        go_wp2_with fail
        go_quiet (fail)
        obtain ⟨W1, hW1⟩ : ∃ W1, (((w.alloc (.cells #[.int .i64 a, .int .i64 b] 23)).alloc (.cells #[.int .i64 a, .int .i64 b] 23)).drewN nq) = W1 := ⟨_, rfl⟩
        have hq1 : Q w W1 := by rw [← hW1]; exact (((Q.refl w).alloc _).alloc _).drewN _
        have hc1 : W1.cell? ⟨w.heap.size, 1, none⟩ = some (.int .i64 b) := by rw [← hW1]; simp [go_sem, World.cell?_alloc_past]
        have hO1 : Own B (.slice (some ⟨g, 0, none⟩) (m + 1) cap) X W1 := by rw [← hW1]; exact ((HO.out.alloc _).alloc _).drewN _
        have hcd : W1.cell? ⟨g, m * 2 + 1, none⟩ = some (.int .i64 d) := (hq1.cell (p := ⟨g, m * 2 + 1, none⟩) hgw).trans hcb1
        have hfd : W1.frozen? ⟨g, m * 2 + 1, none⟩ = false := (hq1.frozen (p := ⟨g, m * 2 + 1, none⟩) hgw).trans hfb
        have hst : Own B (.slice (some ⟨g, 0, none⟩) (m + 1) cap) (Y ++ [(c, max d b)]) (W1.setCell ⟨g, m * 2 + 1, none⟩ (.int .i64 (max d b))) ∧ W1.grownBy (W1.setCell ⟨g, m * 2 + 1, none⟩ (.int .i64 (max d b))) (some g) := by
          unfold Own at hO1 ⊢
          rw [HL.out] at hO1
          have h1 := hO1.stored (m * 2 + 1) (.int .i64 (max d b))
          have h2 : (cellsL X).set (m * 2 + 1) (.int .i64 (max d b)) = cellsL (Y ++ [(c, max d b)]) := by
            rw [HY.out, cellsL_app, cellsL_app, List.set_append_right _ _ (by rw [cellsL_len, HM.out]; omega), cellsL_len, HM.out, Nat.add_sub_cancel_left]
            rfl
          rw [h2] at h1
          rw [List.length_append, HM.out]
          exact h1
        have HST := Lib.hid hst.1
        have NG := Lib.hid (grown_trans (grown_q hq1 _) hst.2)
        have HB1 := Lib.hid (Nat.le_trans HBB.out hq1.size)
        have HQ2 := Lib.hid (show Below B w (W1.setCell ⟨g, m * 2 + 1, none⟩ (.int .i64 (max d b))) from (hq1.mono HBB.out).setCell HG.out.1 _)
        have hgw1 : g < W1.heap.size := Nat.lt_of_lt_of_le hgw hq1.size
        rw [hW1]
        clear hW1 hq1 hO1 hcb1 hfb hcap1 hst hgw
        go_wp2_with fail
        go_region
        clear hcd hfd hc1
        go_wp2_with fail
        go_ret
        exact ⟨_, rfl, by rw [HA.out]; exact HST.out, HQ2.out.drew, grown_drew NG.out⟩
end Go.Proofs.Ytnbpkbdkhegheaa
