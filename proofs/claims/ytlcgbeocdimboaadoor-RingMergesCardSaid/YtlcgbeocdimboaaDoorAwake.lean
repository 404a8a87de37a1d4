/- The examples of the chapter hold. -/
import Derived.Test.YtlcgbeocdimboaaDoorRound
import Derived.Test.YtlcgbeocdimboaaDoorRepair
import Derived.Test.YtlcgbeocdimboaaDoorMerge
import Derived.Test.YtlcgbeocdimboaaDoorRSame
import Derived.Test.YtlcgbeocdimboaaDoorTurnR
import Derived.Test.YtlcgbeocdimboaaDoorCleanC
import Derived.Deep.DrawnRows
import Derived.Deep.DeepCutAuto
import Derived.BigRegion
import Derived.RegionTactic
set_option linter.unusedVariables false
set_option linter.unusedSimpArgs false
namespace Go.Proofs.YtlcgbeocdimboaaDoor
open Go.ChangeShapes Go.WideShapes Go.ChangeAt Go.RowKit Go.Shelf Pm

attribute [local go_sem ↓] Go.wp_at_zero Go.wp_at_succ
def raL : List RD := (rdR.set 1 ⟨0, 0, false⟩).set 2 ⟨0, 0, false⟩
def rbL : List RD := rdR.set 1 ⟨500, 70, true⟩
def rcL : List RD := rbL.set 1 ⟨0, 0, false⟩
def rpA : List P := [(100, 0), (43, 23), (-14, 46), (-70, 70), (-100, 0), (-70, -70), (0, -100), (70, -70)]
theorem a1 : rpE 0 raL 2 = 0 := by decide +kernel
theorem a2 : rpL 0 raL 2 = rpA := by decide +kernel
theorem a3 : rpE 0 raL 1 = 30 := by decide +kernel
theorem a4 : mgE 0 raL 0 rdR = 0 := by decide +kernel
theorem a5 : mgL 0 raL 0 rdR = rdR := by decide +kernel
theorem a6 : mgZ 0 raL 0 rdR = 0 := by decide +kernel
theorem a7 : gN raL = 2 := by decide +kernel
theorem a8 : gL raL = 2 := by decide +kernel
theorem a9 : clnL 0 rbL 150 = rcL := by decide +kernel
theorem a10 : clnL 0 rbL 400 = rbL := by decide +kernel
theorem a11 : (tuL 0 raL 1).length = 8 := by decide +kernel
theorem a12 : gr (tuL 0 raL 1) 0 = ⟨0, 100, true⟩ := by decide +kernel
theorem a13 : chkR 0 raL = 0 := by decide +kernel
theorem a14 : rpL 0 raL 1 = [] := by decide +kernel
/-- a ring of eight readings that a call answers -/
def Ring8 (l : List RD) (w : World) (E : Ending) (w' : World) : Prop := ∃ A c, E = .returned (.agg #[.int .i64 0, .slice A 8 c]) ∧ RdR w' (.slice A 8 c) l ∧ Q w w'
theorem ring8 {l l' : List RD} {w w' : World} {E : Ending} (h : SepPost 0 l w E w') (e : l = l') (h8 : l'.length = 8) : Ring8 l' w E w' := by
  subst e
  obtain ⟨A, c, rfl, h1⟩ := h
  rw [h8] at h1 ⊢
  exact ⟨A, c, rfl, h1.1, h1.2.1⟩
theorem cl150 (v : Value) (w : World) (hr : RdR w v rbL) (hD : Dir w) : Calls Tryd.prog 17 #[.agg #[.int .i64 0, v], .int .i64 150] w (Ring8 rcL w) := (Clean_c 0 v rbL 150 w hr (by decide) hD).mono fun E w' h => ring8 h a9 rfl
theorem cl400 (v : Value) (w : World) (hr : RdR w v rbL) (hD : Dir w) : Calls Tryd.prog 17 #[.agg #[.int .i64 0, v], .int .i64 400] w (Ring8 rbL w) := (Clean_c 0 v rbL 400 w hr (by decide) hD).mono fun E w' h => ring8 h a10 rfl
theorem tu1 (v : Value) (w : World) (hr : RdR w v raL) : Calls Tryd.prog 19 #[.agg #[.int .i64 0, v], .int .i64 1] w (Ring8 (tuL 0 raL 1) w) := (TurnR_c 0 v raL 1 w hr (by decide) ⟨by decide, by decide⟩).mono fun E w' h => ring8 h rfl a11
theorem rnd8 (w : World) : Calls Tryd.prog 25 #[] w (Ring8 rdR w) := (Round_c w).mono fun E w' h => ring8 h rfl rfl
def Rnd8 (w : World) (E : Ending) (w' : World) : Prop := ∃ g c, E = .returned (.agg #[.int .i64 0, .slice (some ⟨g, 0, none⟩) 8 c]) ∧ 8 ≤ c ∧ w.heap.size ≤ g ∧ WrR w' g rdR ∧ Q w w'
theorem rndW (w : World) : Calls Tryd.prog 25 #[] w (Rnd8 w) := (Round_c w).mono fun E w' h => by
  obtain ⟨A, c, rfl, h1⟩ := h
  obtain ⟨g, cap, e, h2, h3, h4⟩ := h1.2.2 (by decide)
  injection e with e1 e2 e3
  subst e1 e3
  exact ⟨g, c, rfl, h2, h3, h4, h1.2.1⟩
def Rep8 (w : World) (E : Ending) (w' : World) : Prop := ∃ A c, E = .returned (.tuple #[.slice A 8 c, .int .i64 0]) ∧ RdP w' (.slice A 8 c) rpA ∧ Q w w'
theorem rep2 (v : Value) (w : World) (hr : RdR w v raL) (hD : Dir w) : Calls Tryd.prog 21 #[.agg #[.int .i64 0, v], .int .i64 2] w (Rep8 w) := (Repair_c 0 v raL 2 w hr (by decide) hD).mono fun E w' h => by
  obtain ⟨A, c, rfl, h1⟩ := h
  rw [a2] at h1
  refine ⟨A, c, ?_, h1.1, h1.2.1⟩
  rw [a2, a1]; rfl
def Rep30 (w : World) (E : Ending) (w' : World) : Prop := ∃ A c, E = .returned (.tuple #[.slice A 0 c, .int .i64 30]) ∧ Q w w'
theorem rep1 (v : Value) (w : World) (hr : RdR w v raL) (hD : Dir w) : Calls Tryd.prog 21 #[.agg #[.int .i64 0, v], .int .i64 1] w (Rep30 w) := (Repair_c 0 v raL 1 w hr (by decide) hD).mono fun E w' h => by
  obtain ⟨A, c, rfl, h1⟩ := h
  refine ⟨A, c, ?_, h1.2.1⟩
  rw [a14, a3]; rfl
def Mg8 (w : World) (E : Ending) (w' : World) : Prop := ∃ g c, E = .returned (.tuple #[.agg #[.int .i64 0, .slice (some ⟨g, 0, none⟩) 8 c], .int .i64 0]) ∧ 8 ≤ c ∧ w.heap.size ≤ g ∧ WrR w' g rdR ∧ Q w w'
theorem mg8 (v v1 : Value) (w : World) (hr : RdR w v raL) (hr1 : RdR w v1 rdR) : Calls Tryd.prog 23 #[.agg #[.int .i64 0, v], .agg #[.int .i64 0, v1]] w (Mg8 w) := (Merge_c 0 0 v v1 raL rdR w hr hr1 (by decide) (by decide)).mono fun E w' h => by
  obtain ⟨A, c, rfl, h1⟩ := h
  rw [a5] at h1
  obtain ⟨g, cap, e, h2, h3, h4⟩ := h1.2.2 (by decide)
  injection e with e1 e2 e3
  subst e1 e3
  refine ⟨g, c, ?_, h2, h3, h4, h1.2.1⟩
  rw [a5, a4, a6]; rfl
theorem gp22 (v : Value) (w : World) (hr : RdR w v raL) : Calls Tryd.prog 12 #[.agg #[.int .i64 0, v]] w fun r w' => r = .returned (.tuple #[.int .i64 2, .int .i64 2]) ∧ Q w w' := Gaps_c 0 v raL 2 2 (Lib.hid a7) (Lib.hid a8) w hr (by decide)
theorem WrR.setx {w : World} {b : Nat} {l : List RD} (h : WrR w b l) {i : Nat} (hi : i < l.length) (x : Int) : WrR (w.setCell ⟨b, i * 3, none⟩ (.int .i64 x)) b (l.set i ⟨x, (gr l i).y, (gr l i).o⟩) := by
  have h1 := WrC.set h (i * 3) (.int .i64 x)
  unfold WrR; rw [cellsR_set l i _ hi]
  have e1 : ((cellsR l).set (i * 3) (.int .i64 x))[i * 3 + 1]? = some (.int .i64 (gr l i).y) := by
    rw [List.getElem?_set, if_neg (by omega), gr_at hi]; exact cellsR_at l i l[i] (List.getElem?_eq_getElem hi) 1 _ rfl
  have e2 : ((cellsR l).set (i * 3) (.int .i64 x))[i * 3 + 2]? = some (.bool (gr l i).o) := by
    rw [List.getElem?_set, if_neg (by omega), gr_at hi]; exact cellsR_at l i l[i] (List.getElem?_eq_getElem hi) 2 _ rfl
  obtain ⟨hlt, e3⟩ := List.getElem?_eq_some_iff.1 e1
  obtain ⟨hlt2, e4⟩ := List.getElem?_eq_some_iff.1 e2
  dsimp only
  rw [← e3, List.set_getElem_self hlt, ← e4, List.set_getElem_self hlt2]
  exact h1
theorem rdR8 : rdR.length = 8 := rfl
theorem rbL8 : rbL.length = 8 := rfl
theorem same8 (X : List RD) (h8 : X.length = 8) (v v1 : Value) (w : World) (ha : RdR w v X) (hb : RdR w v1 X) : Calls Tryd.prog 16 #[.agg #[.int .i64 0, v], .agg #[.int .i64 0, v1]] w fun e w' => e = .returned (.bool true) ∧ Q w w' := Same_c 0 0 v v1 X X true (Lib.hid (by simp)) w ha hb (by rw [h8]; decide) (by rw [h8]; decide)
theorem fld1 (A : Option Addr) (n c : Nat) (W : World) : (Instr.field 24 (.agg #[.int .i64 0, .slice A n c]) 1).run Tryd.prog W = .ok (.slice A n c) W := by
  have z := Tryd.sizeOf22
  have g := Tryd.isAgg22
  simp [Instr.field, run_underlying Tryd.underlying24, asAgg, go_sem, z, g]
theorem eqP (a b c d : Int) (w : World) : (Op.equalIn 10000 38 (.agg #[.int .i64 a, .int .i64 b]) (.agg #[.int .i64 c, .int .i64 d])).run Tryd.prog w = .ok (a == c && b == d) w := by
  have u3 := Tryd.underlying3
  have a3 := Tryd.isAgg3
  have z3 := Tryd.sizeOf3
  have hS : Tryd.prog.underlying 38 = some (.struct (Tryd.prog.fieldsOf 38)) := by kernel_rfl
  have hp : Tryd.prog.stoodInHeld 38 = false := by kernel_rfl
  rw [show (10000 : Nat) = 9999 + 1 from rfl, run_equalIn_agg w 9999 38 _ _ hS hp]
  simp only [Program.fieldsOf, Tryd.underlying38]
  go_simp
  by_cases h1 : a = c <;> by_cases h2 : b = d <;> simp [h1, h2]
theorem eqGp : Tryd.prog.eqGuardType Tryd.prog.depth 38 = false := by kernel_rfl
theorem WrR.setL {w : World} {b : Nat} {l : List RD} (h : WrR w b l) {i o0 o1 o2 : Nat} (hi : i < l.length) (e0 : o0 = i * 3) (e1 : o1 = i * 3 + 1) (e2 : o2 = i * 3 + 2) (x y : Int) (o : Bool) : WrR (((w.setCell ⟨b, o0, none⟩ (.int .i64 x)).setCell ⟨b, o1, none⟩ (.int .i64 y)).setCell ⟨b, o2, none⟩ (.bool o)) b (l.set i ⟨x, y, o⟩) := by
  subst e0 e1 e2
  exact h.set hi ⟨x, y, o⟩
theorem WrR.setxL {w : World} {b : Nat} {l : List RD} (h : WrR w b l) {i o0 : Nat} (hi : i < l.length) (e0 : o0 = i * 3) (x : Int) (L : List RD) (hL : l.set i ⟨x, (gr l i).y, (gr l i).o⟩ = L) : WrR (w.setCell ⟨b, o0, none⟩ (.int .i64 x)) b L := by
  subst e0 hL
  exact h.setx hi x
theorem WrR.far {w : World} {b b' i : Nat} {l : List RD} (v : Value) (h : WrR w b l) (hne : b' ≠ b) : WrR (w.setCell ⟨b', i, none⟩ v) b l := WrC.far v h hne
theorem WrR.drew {w : World} {b : Nat} {l : List RD} (h : WrR w b l) : WrR w.drew b l := h.q (Q.refl _).drew
/-- the merged ring's box -/
structure MB (w6 W : World) (p : Nat) (A : Option Addr) (c : Nat) : Prop where
  q : Q w6 W
  b : W.heap[p]? = some (.cells #[.int .i64 0, .slice A 8 c] 24 (0, 0))
  r : RdR W (.slice A 8 c) rdR
def CutM (w6 wx : World) (s7 s8 : Value) : Prop := s8 = .int .i64 0 ∧ ∃ p A c, s7 = .pointer (some ⟨p, 0, none⟩) ∧ MB w6 wx p A c
theorem mb_set {w6 w8 : World} {p g8 c8 : Nat} (hq : Q w6 w8) (hp : w6.heap.size ≤ p) (hb : w8.heap[p]? = some (.cells #[.int .i64 0, .slice none 0 0] 24 (0, 0))) (hc : 8 ≤ c8) (hw : WrR w8 g8 rdR) (hne : p ≠ g8) :
    MB w6 ((w8.setCell ⟨p, 0, none⟩ (.int .i64 0)).setCell ⟨p, 1, none⟩ (.slice (some ⟨g8, 0, none⟩) 8 c8)) p (some ⟨g8, 0, none⟩) c8 := by
  refine ⟨(hq.setA hp _).setA hp _, ?_, WrR.rd (WrR.far _ (WrR.far _ hw hne) hne) rfl hc⟩
  have := set_blk (i := 1) (.slice (some ⟨g8, 0, none⟩) 8 c8) (set_blk (i := 0) (.int .i64 0) hb)
  simpa using this
theorem drew_heap (w : World) : w.drew.heap = w.heap := rfl
theorem two_gaps {w Wb : World} {g1 g2 pa pb : Nat} {oa ob : Obj} (h1 : WrR Wb g1 rdR) (h2 : WrR Wb g2 rdR) (hq : Q w Wb) (hw : w.heap.size ≤ g1) (hne : g1 ≠ g2) (ha : Wb.heap[pa]? = some oa) (hb : Wb.heap[pb]? = some ob) (na : pa ≠ g1) (nb : pb ≠ g1) (W3 : World)
    (e : ((((((Wb.setCell ⟨g1, 3, none⟩ (.int .i64 0)).setCell ⟨g1, 4, none⟩ (.int .i64 0)).setCell ⟨g1, 5, none⟩ (.bool false)).setCell ⟨g1, 6, none⟩ (.int .i64 0)).setCell ⟨g1, 7, none⟩ (.int .i64 0)).setCell ⟨g1, 8, none⟩ (.bool false)).drew = W3) :
    WrR W3 g1 raL ∧ WrR W3 g2 rdR ∧ Q w W3 ∧ W3.heap[pa]? = some oa ∧ W3.heap[pb]? = some ob := by
  subst e
  have k1 := WrR.setL h1 (i := 1) (o0 := 3) (o1 := 4) (o2 := 5) (by decide) rfl rfl rfl 0 0 false
  have k2 := WrR.setL k1 (i := 2) (o0 := 6) (o1 := 7) (o2 := 8) (by decide) rfl rfl rfl 0 0 false
  clear h1 k1
  refine ⟨?_, ?_, ((((((hq.setA hw _).setA hw _).setA hw _).setA hw _).setA hw _).setA hw _).drew, ?_, ?_⟩
  · rw [show raL = (rdR.set 1 ⟨0, 0, false⟩).set 2 ⟨0, 0, false⟩ from rfl]
    exact WrR.q k2 (Q.refl _).drew
  · exact WrR.drew (WrR.far _ (WrR.far _ (WrR.far _ (WrR.far _ (WrR.far _ (WrR.far _ h2 hne) hne) hne) hne) hne) hne)
  · rw [drew_heap]; exact far_blk _ (far_blk _ (far_blk _ (far_blk _ (far_blk _ (far_blk _ ha na) na) na) na) na) na
  · rw [drew_heap]; exact far_blk _ (far_blk _ (far_blk _ (far_blk _ (far_blk _ (far_blk _ hb nb) nb) nb) nb) nb) nb
theorem one_far {w W3 : World} {g1 g2 pa pb : Nat} {oa ob : Obj} (h1 : WrR W3 g1 raL) (h2 : WrR W3 g2 rdR) (hq : Q w W3) (hw : w.heap.size ≤ g2) (hne : g1 ≠ g2) (ha : W3.heap[pa]? = some oa) (hb : W3.heap[pb]? = some ob) (na : pa ≠ g2) (nb : pb ≠ g2) (W4 : World)
    (e : W3.setCell ⟨g2, 3, none⟩ (.int .i64 500) = W4) :
    WrR W4 g1 raL ∧ WrR W4 g2 rbL ∧ Q w W4 ∧ W4.heap[pa]? = some oa ∧ W4.heap[pb]? = some ob := by
  subst e
  exact ⟨WrC.far _ h1 (fun e => hne e.symm), h2.setxL (i := 1) (by decide) rfl 500 rbL (by decide), hq.setA hw _, far_blk _ ha na, far_blk _ hb nb⟩
set_option maxRecDepth 100000 in
set_option maxHeartbeats 8000000 in
theorem awake_c (w : World) (hD : Dir w) : Calls Tryd.prog 11 #[] w fun e w' => e = .returned (.bool true) ∧ Q w w' := by
  have HD := Lib.hid hD
  have q1 := eqGp
  have q2 := fld1
  clear hD
  go_enter Tryd.func11, Tryd.ntmps11
  go_wp2_with fail
  refine (rndW _).mono ?_; rintro E w1 ⟨g1, c1, rfl, hc1, hg1, hw1, hq1⟩
  have K1 := Lib.hid (And.intro hg1 (And.intro hw1 hq1))
  clear hg1 hw1 hq1
  go_wp2_with fail
  refine (rndW _).mono ?_; rintro E w2 ⟨g2, c2, rfl, hc2, hg2, hw2, hq2⟩
  have hg2' : g2 < w2.heap.size := hw2.1
  have hg1' : g1 < w1.heap.size := K1.out.2.1.1
  have K2 := Lib.hid (And.intro hg2 (And.intro hw2 hq2))
  clear hg2 hw2 hq2
  go_wp2_with fail
  obtain ⟨Wa, hWa⟩ : ∃ W, w2.alloc (.cells #[.int .i64 0, .slice (some ⟨g1, 0, none⟩) 8 c1] 24) = W := ⟨_, rfl⟩
  obtain ⟨Wb, hWb⟩ : ∃ W, Wa.alloc (.cells #[.int .i64 0, .slice (some ⟨g2, 0, none⟩) 8 c2] 24) = W := ⟨_, rfl⟩
  rw [hWa, hWb]
  have QA := Lib.hid (show Q w2 Wa by rw [← hWa]; exact (Q.refl w2).alloc _)
  have QB := Lib.hid (show Q Wa Wb by rw [← hWb]; exact (Q.refl Wa).alloc _)
  have sa : w2.heap.size < Wa.heap.size := by rw [← hWa]; simp
  have sb : Wa.heap.size < Wb.heap.size := by rw [← hWb]; simp
  have BA := Lib.hid (show Wb.heap[w2.heap.size]? = some (.cells #[.int .i64 0, .slice (some ⟨g1, 0, none⟩) 8 c1] 24 (0, 0)) by
    have e : Wa.heap[w2.heap.size]? = some (.cells #[.int .i64 0, .slice (some ⟨g1, 0, none⟩) 8 c1] 24 (0, 0)) := by rw [← hWa]; exact World.alloc_heap_new w2 _
    exact (QB.out.block _ sa).trans e)
  have zs : Wa.heap.size = w2.heap.size + 1 := by rw [← hWa]; simp
  have BB := Lib.hid (show Wb.heap[w2.heap.size + 1]? = some (.cells #[.int .i64 0, .slice (some ⟨g2, 0, none⟩) 8 c2] 24 (0, 0)) by rw [← hWb, ← zs]; exact World.alloc_heap_new Wa _)
  have M1 := Lib.hid (show WrR Wb g1 rdR from K1.out.2.1.q (K2.out.2.2.trans (QA.out.trans QB.out)))
  have M2 := Lib.hid (show WrR Wb g2 rdR from K2.out.2.1.q (QA.out.trans QB.out))
  have QW := Lib.hid (show Q w Wb from K1.out.2.2.trans (K2.out.2.2.trans (QA.out.trans QB.out)))
  have hne : g1 ≠ g2 := by have := K2.out.1; omega
  have hg2w : w.heap.size ≤ g2 := by have := K2.out.1; have := K1.out.2.2.size; omega
  obtain ⟨x0, x1, _, _⟩ := box_at BA.out
  obtain ⟨x2, x3, _, _⟩ := box_at BB.out
  obtain ⟨⟨m0, m1, m2⟩, f0, f1, f2⟩ := M1.out.at (i := 1) (by decide)
  obtain ⟨⟨m3, m4, m5⟩, f3, f4, f5⟩ := M1.out.at (i := 2) (by decide)
  clear hWa hWb
  go_region
  obtain ⟨W3, hW3⟩ : ∃ W, ((((((Wb.setCell ⟨g1, 3, none⟩ (.int .i64 0)).setCell ⟨g1, 4, none⟩ (.int .i64 0)).setCell ⟨g1, 5, none⟩ (.bool false)).setCell ⟨g1, 6, none⟩ (.int .i64 0)).setCell ⟨g1, 7, none⟩ (.int .i64 0)).setCell ⟨g1, 8, none⟩ (.bool false)).drew = W := ⟨_, rfl⟩
  have T3 := Lib.hid (two_gaps M1.out M2.out QW.out (K1.out.1) hne BA.out BB.out (by have := K2.out.2.2.size; omega) (by have := K2.out.2.2.size; omega) W3 hW3)
  rw [hW3]
  clear hW3 x0 x1 x2 x3 m0 m1 m2 m3 m4 m5 f0 f1 f2 f3 f4 f5
  obtain ⟨W4, hW4⟩ : ∃ W, W3.setCell ⟨g2, 3, none⟩ (.int .i64 500) = W := ⟨_, rfl⟩
  have T4 := Lib.hid (one_far T3.out.1 T3.out.2.1 T3.out.2.2.1 hg2w hne T3.out.2.2.2.1 T3.out.2.2.2.2 (by omega) (by omega) W4 hW4)
  obtain ⟨⟨m0, m1, m2⟩, f0, f1, f2⟩ := T3.out.2.1.at (i := 1) (by decide)
  obtain ⟨x2, x3, _, _⟩ := box_at T3.out.2.2.2.2
  obtain ⟨x0, x1, _, _⟩ := box_at T4.out.2.2.2.1
  have la := (Array.getElem?_eq_some_iff.1 T4.out.2.2.2.1).1
  have lb := (Array.getElem?_eq_some_iff.1 T4.out.2.2.2.2).1
  have RA := Lib.hid (show ∀ W, Q W4 W → RdR W (.slice (some ⟨g1, 0, none⟩) 8 c1) raL from fun W h => RdG.q (WrR.rd T4.out.1 rfl hc1) h)
  have RB := Lib.hid (show ∀ W, Q W4 W → RdR W (.slice (some ⟨g2, 0, none⟩) 8 c2) rbL from fun W h => RdG.q (WrR.rd T4.out.2.1 rfl hc2) h)
  have DD := Lib.hid (show ∀ W, Q W4 W → Dir W from fun W h => HD.out.q (T4.out.2.2.1.trans h))
  have BX := Lib.hid (show ∀ W, Q W4 W → (W.cell? ⟨w2.heap.size, 0, none⟩ = some (.int .i64 0) ∧ W.cell? ⟨w2.heap.size, 1, none⟩ = some (.slice (some ⟨g1, 0, none⟩) 8 c1)) ∧ W.cell? ⟨w2.heap.size + 1, 0, none⟩ = some (.int .i64 0) ∧ W.cell? ⟨w2.heap.size + 1, 1, none⟩ = some (.slice (some ⟨g2, 0, none⟩) 8 c2) from fun W h => by
    obtain ⟨k0, k1, _, _⟩ := box_at ((h.block _ la).trans T4.out.2.2.2.1)
    obtain ⟨k2, k3, _, _⟩ := box_at ((h.block _ lb).trans T4.out.2.2.2.2)
    exact ⟨⟨k0, k1⟩, k2, k3⟩)
  go_wp2_with fail
  ((with_reducible refine (rep2 _ _ (RA.out W4 (Q.refl _)) (DD.out W4 (Q.refl _))).mono ?_); rintro E w5 ⟨A3, c3, rfl, hr3, hq5⟩)
  obtain ⟨bp, offp, rfl, _⟩ := RdP.at hr3 (Q.refl _) (i := 0) (by decide)
  have R3 := Lib.hid hr3
  have Q5 := Lib.hid hq5
  obtain ⟨⟨y0, y1⟩, y2, y3⟩ := BX.out w5 hq5
  clear x0 x1 x2 x3 m0 m1 m2 f0 f1 f2 hr3 hq5 hW4
  go_wp2_with fail
  ((with_reducible refine (rep1 _ _ (RA.out w5 Q5.out) (DD.out w5 Q5.out)).mono ?_); rintro E w6 ⟨A4, c4, rfl, hq6⟩)
  have Q6 := Lib.hid (Q5.out.trans hq6)
  have R36 := Lib.hid (RdG.q R3.out hq6)
  obtain ⟨⟨z0, z1⟩, z2, z3⟩ := BX.out w6 Q6.out
  clear y0 y1 y2 y3 hq6
  go_wp2_with fail
  have HK6 := Lib.hid (show ∀ W, Q w6 W → Hid (Q w6 W) ∧ W.cell? ⟨w2.heap.size, 0, none⟩ = some (.int .i64 0) ∧ W.cell? ⟨w2.heap.size, 1, none⟩ = some (.slice (some ⟨g1, 0, none⟩) 8 c1) from fun W h => ⟨Lib.hid h, (BX.out W (Q6.out.trans h)).1⟩)
  go_cut [7, 8] (fun s7 s8 wx => CutM w6 wx s7 s8)
  case first =>
    go_region_held3 (fun W => Hid (Q w6 W) ∧ W.cell? ⟨w2.heap.size, 0, none⟩ = some (.int .i64 0) ∧ W.cell? ⟨w2.heap.size, 1, none⟩ = some (.slice (some ⟨g1, 0, none⟩) 8 c1)) (first | exact HK6.out _ (Q.refl w6).drew | exact HK6.out _ ((Q.refl w6).alloc _).drew | exact HK6.out _ ((Q.refl w6).drew.trans hq7) | exact HK6.out _ (((Q.refl w6).drew.trans hq7).alloc _) | exact HK6.out _ (((Q.refl w6).alloc _).drew.trans hq7) | exact HK6.out _ (((Q.refl w6).drew.trans hq7).trans hq8) | exact HK6.out _ ((((Q.refl w6).drew.trans hq7).trans hq8).alloc _) | exact HK6.out _ ((((Q.refl w6).drew.trans hq7).alloc _).trans hq8) | exact HK6.out _ ((((Q.refl w6).alloc _).drew.trans hq7).trans hq8) | exact HK6.out _ ((((((Q.refl w6).drew.trans hq7).alloc _).trans hq8).setA (((Q.refl w6).drew.trans hq7).size) _).setA (((Q.refl w6).drew.trans hq7).size) _) | exact HK6.out _ ((((((Q.refl w6).alloc _).drew.trans hq7).trans hq8).setA (Nat.le_refl _) _).setA (Nat.le_refl _) _)) (first | (go_at_call 25; refine (rnd8 _).mono ?_; rintro e w7 ⟨A7, c7, rfl, hr7, hq7⟩) | (go_at_call 23; refine (mg8 _ _ _ (RA.out _ (Q6.out.trans (hq_of (by assumption)))) (by first | exact hr7 | exact RdG.q hr7 ((Q.refl _).alloc _))).mono ?_; rintro e w8 ⟨g8, c8, rfl, hc8, hg8, hw8, hq8⟩; (first | (have hbx := box_at ((hq8.block w7.heap.size (by simp)).trans (World.alloc_heap_new w7 (.cells #[.int .i64 0, .slice none 0 0] 24))); obtain ⟨b0, b1, b2, b3⟩ := hbx) | (have hbx := box_at (((hq7.trans hq8).block w6.heap.size (by simp)).trans (World.alloc_heap_new w6 (.cells #[.int .i64 0, .slice none 0 0] 24))); obtain ⟨b0, b1, b2, b3⟩ := hbx) | skip)))
    all_goals
      go_wp2_with fail
      go_meet
      first
        | exact ⟨rfl, w8.heap.size, _, c8, rfl, (((Q.refl w6).drew.trans hq7).trans hq8).alloc _, World.alloc_heap_new w8 _, WrR.rd (hw8.q ((Q.refl _).alloc _)) rfl hc8⟩
        | exact ⟨rfl, w7.heap.size, _, c8, rfl, mb_set ((((Q.refl w6).drew.trans hq7).alloc (.cells #[.int .i64 0, .slice none 0 0] 24)).trans hq8) (((Q.refl w6).drew.trans hq7).size) ((hq8.block w7.heap.size (by simp)).trans (World.alloc_heap_new w7 (.cells #[.int .i64 0, .slice none 0 0] 24))) hc8 hw8 (by have h9 : (w7.alloc (.cells #[.int .i64 0, .slice none 0 0] 24)).heap.size ≤ g8 := hg8; simp at h9; omega)⟩
        | exact ⟨rfl, w6.heap.size, _, c8, rfl, mb_set ((((Q.refl w6).alloc (.cells #[.int .i64 0, .slice none 0 0] 24)).drew.trans hq7).trans hq8) (Nat.le_refl _) (((hq7.trans hq8).block w6.heap.size (by simp)).trans (World.alloc_heap_new w6 (.cells #[.int .i64 0, .slice none 0 0] 24))) hc8 hw8 (by have h9 : w7.heap.size ≤ g8 := hg8; have h10 := hq7.size; simp at h10; omega)⟩
  case rest =>
    obtain ⟨rfl, p7, A8, c8, rfl, hm⟩ := hcut
    have HM := Lib.hid hm
    have Q9 := Lib.hid (Q6.out.trans hm.q)
    have R39 := Lib.hid (RdG.q R36.out hm.q)
    obtain ⟨⟨y0, y1⟩, y2, y3⟩ := BX.out wc Q9.out
    clear hm z0 z1 z2 z3 R36 R3
    go_wp2_with fail
    ((with_reducible refine (gp22 _ _ (RA.out wc Q9.out)).mono ?_); rintro E w10 ⟨rfl, hq10⟩)
    have Q10 := Lib.hid (Q9.out.trans hq10)
    have P10 := Lib.hid hq10
    obtain ⟨⟨z0, z1⟩, z2, z3⟩ := BX.out w10 Q10.out
    clear hq10 y0 y1 y2 y3
    go_wp2_with fail
    ((with_reducible refine (cl150 _ _ (RB.out w10 Q10.out) (DD.out w10 Q10.out)).mono ?_); rintro E w11 ⟨A11, c11, rfl, hr11, hq11⟩)
    have Q11 := Lib.hid (Q10.out.trans hq11)
    have P11 := Lib.hid (P10.out.trans hq11)
    obtain ⟨⟨y0, y1⟩, y2, y3⟩ := BX.out w11 Q11.out
    clear hq11 hr11 z0 z1 z2 z3
    go_wp2_with fail
    ((with_reducible refine (tu1 _ _ (RA.out w11 Q11.out)).mono ?_); rintro E w12 ⟨A12, c12, rfl, hr12, hq12⟩)
    have Q12 := Lib.hid (Q11.out.trans hq12)
    have P12 := Lib.hid (P11.out.trans hq12)
    obtain ⟨⟨z0, z1⟩, z2, z3⟩ := BX.out w12 Q12.out
    clear hq12 hr12 y0 y1 y2 y3
    have HMR := Lib.hid (show ∀ W, Q wc W → RdR W (.slice A8 8 c8) rdR from fun W h => RdG.q HM.out.r h)
    have MX := Lib.hid (show ∀ W, Q wc W → W.cell? ⟨p7, 0, none⟩ = some (.int .i64 0) ∧ W.cell? ⟨p7, 1, none⟩ = some (.slice A8 8 c8) ∧ W.cell? ⟨bp, offp + 2, none⟩ = some (.int .i64 43) ∧ W.cell? ⟨bp, offp + 2 + 1, none⟩ = some (.int .i64 23) ∧ W.cell? ⟨bp, offp + 4, none⟩ = some (.int .i64 (-14)) ∧ W.cell? ⟨bp, offp + 4 + 1, none⟩ = some (.int .i64 46) from fun W h => by
      obtain ⟨m0, m1, _, _⟩ := box_at ((h.block _ ((Array.getElem?_eq_some_iff.1 HM.out.b).1)).trans HM.out.b)
      obtain ⟨_, p0, p1⟩ := rdp_at R39.out h (i := 1) (by decide)
      obtain ⟨_, p2, p3⟩ := rdp_at R39.out h (i := 2) (by decide)
      exact ⟨m0, m1, p0, p1, p2, p3⟩)
    have e43 : ∀ w, (Op.equalIn 10000 38 (.agg #[.int .i64 43, .int .i64 23]) (.agg #[.int .i64 43, .int .i64 23])).run Tryd.prog w = .ok true w := fun w => by rw [eqP]; rfl
    have e14 : ∀ w, (Op.equalIn 10000 38 (.agg #[.int .i64 (-14), .int .i64 46]) (.agg #[.int .i64 (-14), .int .i64 46])).run Tryd.prog w = .ok true w := fun w => by rw [eqP]; rfl
    have e0 : ∀ w, (Op.equalIn 10000 38 (.agg #[.int .i64 0, .int .i64 100]) (.agg #[.int .i64 0, .int .i64 100])).run Tryd.prog w = .ok true w := fun w => by rw [eqP]; rfl
    obtain ⟨m0, m1, p0, p1, p2, p3⟩ := MX.out w12 P12.out
    go_wp2_with fail
    have HK12 := Lib.hid (show ∀ W, Q w12 W → Hid (Q w12 W) ∧ (W.cell? ⟨w2.heap.size, 0, none⟩ = some (.int .i64 0) ∧ W.cell? ⟨w2.heap.size, 1, none⟩ = some (.slice (some ⟨g1, 0, none⟩) 8 c1) ∧ W.cell? ⟨w2.heap.size + 1, 0, none⟩ = some (.int .i64 0) ∧ W.cell? ⟨w2.heap.size + 1, 1, none⟩ = some (.slice (some ⟨g2, 0, none⟩) 8 c2)) ∧ W.cell? ⟨p7, 0, none⟩ = some (.int .i64 0) ∧ W.cell? ⟨p7, 1, none⟩ = some (.slice A8 8 c8) ∧ W.cell? ⟨bp, offp + 2, none⟩ = some (.int .i64 43) ∧ W.cell? ⟨bp, offp + 2 + 1, none⟩ = some (.int .i64 23) ∧ W.cell? ⟨bp, offp + 4, none⟩ = some (.int .i64 (-14)) ∧ W.cell? ⟨bp, offp + 4 + 1, none⟩ = some (.int .i64 46) from fun W h => ⟨Lib.hid h, ⟨(BX.out W (Q12.out.trans h)).1.1, (BX.out W (Q12.out.trans h)).1.2, (BX.out W (Q12.out.trans h)).2.1, (BX.out W (Q12.out.trans h)).2.2⟩, MX.out W (P12.out.trans h)⟩)
    clear z0 z1 z2 z3 m0 m1 p0 p1 p2 p3
    simp only [List.append_eq, List.cons_append, List.nil_append]
    refine wp_region_held_drew (S := (fun W => Hid (Q w12 W) ∧ (W.cell? ⟨w2.heap.size, 0, none⟩ = some (.int .i64 0) ∧ W.cell? ⟨w2.heap.size, 1, none⟩ = some (.slice (some ⟨g1, 0, none⟩) 8 c1) ∧ W.cell? ⟨w2.heap.size + 1, 0, none⟩ = some (.int .i64 0) ∧ W.cell? ⟨w2.heap.size + 1, 1, none⟩ = some (.slice (some ⟨g2, 0, none⟩) 8 c2)) ∧ W.cell? ⟨p7, 0, none⟩ = some (.int .i64 0) ∧ W.cell? ⟨p7, 1, none⟩ = some (.slice A8 8 c8) ∧ W.cell? ⟨bp, offp + 2, none⟩ = some (.int .i64 43) ∧ W.cell? ⟨bp, offp + 2 + 1, none⟩ = some (.int .i64 23) ∧ W.cell? ⟨bp, offp + 4, none⟩ = some (.int .i64 (-14)) ∧ W.cell? ⟨bp, offp + 4 + 1, none⟩ = some (.int .i64 46))) (by kernel_rfl) (HK12.out _ (Q.refl w12).drew) (fun hH0 => ?_)
    (refine wpAnyH_take (i := 0) (v := ?_) rfl (by kernel_rfl) (by kernel_rfl) (by kernel_rfl) (fun _ _ _ h => h) (Or.inl ⟨by rfl, ?_⟩) (by assumption) ?_; rotate_left; (focus (intro w hSw; (try dsimp only at hSw); go_simp; try with_reducible rfl)))
    try simp only [List.getElem_toArray, List.getElem_cons_succ, List.getElem_cons_zero, Act.put, List.setIfInBounds_toArray, List.set_cons_zero, List.set_cons_succ]
    refine wpAnyH_ready (rs := [1]) (by kernel_rfl) (by simp) ?_
    refine AllReadyH.cons rfl (fun K hK => ?_) AllReadyH.nil
    go_simp
    ((with_reducible refine (Check_c 0 _ raL 0 (Lib.hid a13) _ (RA.out _ (Q12.out.trans (hq_of hH0))) (by decide)).mono ?_); rintro e w13 ⟨rfl, hq13⟩)
    try go_wp2_with fail
    refine hK.out _ _ (HK12.out _ (Q.trans (hq_of hH0) hq13)) (fun hH13 => ?_)
    clear hK K hH0
    try simp only [List.getElem_toArray, List.getElem_cons_succ, List.getElem_cons_zero, Act.put, List.setIfInBounds_toArray, List.set_cons_zero, List.set_cons_succ]
    (refine wpAnyH_take (i := 2) (v := ?_) rfl (by kernel_rfl) (by kernel_rfl) (by kernel_rfl) (fun _ _ _ h => h) (Or.inl ⟨by rfl, ?_⟩) (by assumption) ?_; rotate_left; (focus (intro w hSw; (try dsimp only at hSw); go_simp; try with_reducible rfl)))
    try simp only [List.getElem_toArray, List.getElem_cons_succ, List.getElem_cons_zero, Act.put, List.setIfInBounds_toArray, List.set_cons_zero, List.set_cons_succ]
    (refine wpAnyH_take (i := 3) (v := ?_) rfl (by kernel_rfl) (by kernel_rfl) (by kernel_rfl) (fun _ _ _ h => h) (Or.inl ⟨by rfl, ?_⟩) (by assumption) ?_; rotate_left; (focus (intro w hSw; (try dsimp only at hSw); go_simp; try with_reducible rfl)))
    try simp only [List.getElem_toArray, List.getElem_cons_succ, List.getElem_cons_zero, Act.put, List.setIfInBounds_toArray, List.set_cons_zero, List.set_cons_succ]
    (refine wpAnyH_take (i := 4) (v := ?_) rfl (by kernel_rfl) (by kernel_rfl) (by kernel_rfl) (fun _ _ _ h => h) (Or.inl ⟨by rfl, ?_⟩) (by assumption) ?_; rotate_left; (focus (intro w hSw; (try dsimp only at hSw); go_simp; try with_reducible rfl)))
    try simp only [List.getElem_toArray, List.getElem_cons_succ, List.getElem_cons_zero, Act.put, List.setIfInBounds_toArray, List.set_cons_zero, List.set_cons_succ]
    (refine wpAnyH_take (i := 5) (v := ?_) rfl (by kernel_rfl) (by kernel_rfl) (by kernel_rfl) (fun _ _ _ h => h) (Or.inl ⟨by rfl, ?_⟩) (by assumption) ?_; rotate_left; (focus (intro w hSw; (try dsimp only at hSw); go_simp; try with_reducible rfl)))
    try simp only [List.getElem_toArray, List.getElem_cons_succ, List.getElem_cons_zero, Act.put, List.setIfInBounds_toArray, List.set_cons_zero, List.set_cons_succ]
    (refine wpAnyH_take (i := 6) (v := ?_) rfl (by kernel_rfl) (by kernel_rfl) (by kernel_rfl) (fun _ _ _ h => h) (Or.inl ⟨by rfl, ?_⟩) (by assumption) ?_; rotate_left; (focus (intro w hSw; (try dsimp only at hSw); go_simp; try with_reducible rfl)))
    try simp only [List.getElem_toArray, List.getElem_cons_succ, List.getElem_cons_zero, Act.put, List.setIfInBounds_toArray, List.set_cons_zero, List.set_cons_succ]
    (refine wpAnyH_take (i := 7) (v := ?_) rfl (by kernel_rfl) (by kernel_rfl) (by kernel_rfl) (fun _ _ _ h => h) (Or.inl ⟨by rfl, ?_⟩) (by assumption) ?_; rotate_left; (focus (intro w hSw; (try dsimp only at hSw); go_simp; try with_reducible rfl)))
    try simp only [List.getElem_toArray, List.getElem_cons_succ, List.getElem_cons_zero, Act.put, List.setIfInBounds_toArray, List.set_cons_zero, List.set_cons_succ]
    (refine wpAnyH_take (i := 8) (v := ?_) rfl (by kernel_rfl) (by kernel_rfl) (by kernel_rfl) (fun _ _ _ h => h) (Or.inl ⟨by rfl, ?_⟩) (by assumption) ?_; rotate_left; (focus (intro w hSw; (try dsimp only at hSw); go_simp; try with_reducible rfl)))
    try simp only [List.getElem_toArray, List.getElem_cons_succ, List.getElem_cons_zero, Act.put, List.setIfInBounds_toArray, List.set_cons_zero, List.set_cons_succ]
    (refine wpAnyH_take (i := 9) (v := ?_) rfl (by kernel_rfl) (by kernel_rfl) (by kernel_rfl) (fun _ _ _ h => h) (Or.inl ⟨by rfl, ?_⟩) (by assumption) ?_; rotate_left; (focus (intro w hSw; (try dsimp only at hSw); go_simp; try with_reducible rfl)))
    try simp only [List.getElem_toArray, List.getElem_cons_succ, List.getElem_cons_zero, Act.put, List.setIfInBounds_toArray, List.set_cons_zero, List.set_cons_succ]
    (refine wpAnyH_take (i := 10) (v := ?_) rfl (by kernel_rfl) (by kernel_rfl) (by kernel_rfl) (fun _ _ _ h => h) (Or.inl ⟨by rfl, ?_⟩) (by assumption) ?_; rotate_left; (focus (intro w hSw; (try dsimp only at hSw); go_simp; try with_reducible rfl)))
    try simp only [List.getElem_toArray, List.getElem_cons_succ, List.getElem_cons_zero, Act.put, List.setIfInBounds_toArray, List.set_cons_zero, List.set_cons_succ]
    (refine wpAnyH_take (i := 11) (v := ?_) rfl (by kernel_rfl) (by kernel_rfl) (by kernel_rfl) (fun _ _ _ h => h) (Or.inl ⟨by rfl, ?_⟩) (by assumption) ?_; rotate_left; (focus (intro w hSw; (try dsimp only at hSw); go_simp; try with_reducible rfl)))
    try simp only [List.getElem_toArray, List.getElem_cons_succ, List.getElem_cons_zero, Act.put, List.setIfInBounds_toArray, List.set_cons_zero, List.set_cons_succ]
    (refine wpAnyH_take (i := 12) (v := ?_) rfl (by kernel_rfl) (by kernel_rfl) (by kernel_rfl) (fun _ _ _ h => h) (Or.inl ⟨by rfl, ?_⟩) (by assumption) ?_; rotate_left; (focus (intro w hSw; (try dsimp only at hSw); go_simp; try with_reducible rfl)))
    try simp only [List.getElem_toArray, List.getElem_cons_succ, List.getElem_cons_zero, Act.put, List.setIfInBounds_toArray, List.set_cons_zero, List.set_cons_succ]
    (refine wpAnyH_take (i := 13) (v := ?_) rfl (by kernel_rfl) (by kernel_rfl) (by kernel_rfl) (fun _ _ _ h => h) (Or.inl ⟨by rfl, ?_⟩) (by assumption) ?_; rotate_left; (focus (intro w hSw; (try dsimp only at hSw); go_simp; try with_reducible rfl)))
    try simp only [List.getElem_toArray, List.getElem_cons_succ, List.getElem_cons_zero, Act.put, List.setIfInBounds_toArray, List.set_cons_zero, List.set_cons_succ]
    (refine wpAnyH_take (i := 14) (v := ?_) rfl (by kernel_rfl) (by kernel_rfl) (by kernel_rfl) (fun _ _ _ h => h) (Or.inl ⟨by rfl, ?_⟩) (by assumption) ?_; rotate_left; (focus (intro w hSw; (try dsimp only at hSw); go_simp; try with_reducible rfl)))
    try simp only [List.getElem_toArray, List.getElem_cons_succ, List.getElem_cons_zero, Act.put, List.setIfInBounds_toArray, List.set_cons_zero, List.set_cons_succ]
    (refine wpAnyH_take (i := 15) (v := ?_) rfl (by kernel_rfl) (by kernel_rfl) (by kernel_rfl) (fun _ _ _ h => h) (Or.inl ⟨by rfl, ?_⟩) (by assumption) ?_; rotate_left; (focus (intro w hSw; (try dsimp only at hSw); go_simp; try with_reducible rfl)))
    try simp only [List.getElem_toArray, List.getElem_cons_succ, List.getElem_cons_zero, Act.put, List.setIfInBounds_toArray, List.set_cons_zero, List.set_cons_succ]
    (refine wpAnyH_take (i := 16) (v := ?_) rfl (by kernel_rfl) (by kernel_rfl) (by kernel_rfl) (fun _ _ _ h => h) (Or.inl ⟨by rfl, ?_⟩) (by assumption) ?_; rotate_left; (focus (intro w hSw; (try dsimp only at hSw); go_simp; try with_reducible rfl)))
    try simp only [List.getElem_toArray, List.getElem_cons_succ, List.getElem_cons_zero, Act.put, List.setIfInBounds_toArray, List.set_cons_zero, List.set_cons_succ]
    (refine wpAnyH_take (i := 17) (v := ?_) rfl (by kernel_rfl) (by kernel_rfl) (by kernel_rfl) (fun _ _ _ h => h) (Or.inl ⟨by rfl, ?_⟩) (by assumption) ?_; rotate_left; (focus (intro w hSw; (try dsimp only at hSw); go_simp; try with_reducible rfl)))
    try simp only [List.getElem_toArray, List.getElem_cons_succ, List.getElem_cons_zero, Act.put, List.setIfInBounds_toArray, List.set_cons_zero, List.set_cons_succ]
    (refine wpAnyH_take (i := 18) (v := ?_) rfl (by kernel_rfl) (by kernel_rfl) (by kernel_rfl) (fun _ _ _ h => h) (Or.inl ⟨by rfl, ?_⟩) (by assumption) ?_; rotate_left; (focus (intro w hSw; (try dsimp only at hSw); go_simp; try with_reducible rfl)))
    try simp only [List.getElem_toArray, List.getElem_cons_succ, List.getElem_cons_zero, Act.put, List.setIfInBounds_toArray, List.set_cons_zero, List.set_cons_succ]
    (refine wpAnyH_take (i := 19) (v := ?_) rfl (by kernel_rfl) (by kernel_rfl) (by kernel_rfl) (fun _ _ _ h => h) (Or.inl ⟨by rfl, ?_⟩) (by assumption) ?_; rotate_left; (focus (intro w hSw; (try dsimp only at hSw); go_simp; try with_reducible rfl)))
    try simp only [List.getElem_toArray, List.getElem_cons_succ, List.getElem_cons_zero, Act.put, List.setIfInBounds_toArray, List.set_cons_zero, List.set_cons_succ]
    (refine wpAnyH_take (i := 20) (v := ?_) rfl (by kernel_rfl) (by kernel_rfl) (by kernel_rfl) (fun _ _ _ h => h) (Or.inl ⟨by rfl, ?_⟩) (by assumption) ?_; rotate_left; (focus (intro w hSw; (try dsimp only at hSw); go_simp; try with_reducible rfl)))
    try simp only [List.getElem_toArray, List.getElem_cons_succ, List.getElem_cons_zero, Act.put, List.setIfInBounds_toArray, List.set_cons_zero, List.set_cons_succ]
    (refine wpAnyH_take (i := 21) (v := ?_) rfl (by kernel_rfl) (by kernel_rfl) (by kernel_rfl) (fun _ _ _ h => h) (Or.inl ⟨by rfl, ?_⟩) (by assumption) ?_; rotate_left; (focus (intro w hSw; (try dsimp only at hSw); go_simp; try with_reducible rfl)))
    try simp only [List.getElem_toArray, List.getElem_cons_succ, List.getElem_cons_zero, Act.put, List.setIfInBounds_toArray, List.set_cons_zero, List.set_cons_succ]
    (refine wpAnyH_take (i := 22) (v := ?_) rfl (by kernel_rfl) (by kernel_rfl) (by kernel_rfl) (fun _ _ _ h => h) (Or.inl ⟨by rfl, ?_⟩) (by assumption) ?_; rotate_left; (focus (intro w hSw; (try dsimp only at hSw); go_simp; try with_reducible rfl)))
    try simp only [List.getElem_toArray, List.getElem_cons_succ, List.getElem_cons_zero, Act.put, List.setIfInBounds_toArray, List.set_cons_zero, List.set_cons_succ]
    (refine wpAnyH_take (i := 23) (v := ?_) rfl (by kernel_rfl) (by kernel_rfl) (by kernel_rfl) (fun _ _ _ h => h) (Or.inl ⟨by rfl, ?_⟩) (by assumption) ?_; rotate_left; (focus (intro w hSw; (try dsimp only at hSw); go_simp; try with_reducible rfl)))
    try simp only [List.getElem_toArray, List.getElem_cons_succ, List.getElem_cons_zero, Act.put, List.setIfInBounds_toArray, List.set_cons_zero, List.set_cons_succ]
    (refine wpAnyH_take (i := 24) (v := ?_) rfl (by kernel_rfl) (by kernel_rfl) (by kernel_rfl) (fun _ _ _ h => h) (Or.inl ⟨by rfl, ?_⟩) (by assumption) ?_; rotate_left; (focus (intro w hSw; (try dsimp only at hSw); go_simp; try with_reducible rfl)))
    try simp only [List.getElem_toArray, List.getElem_cons_succ, List.getElem_cons_zero, Act.put, List.setIfInBounds_toArray, List.set_cons_zero, List.set_cons_succ]
    (refine wpAnyH_take (i := 25) (v := ?_) rfl (by kernel_rfl) (by kernel_rfl) (by kernel_rfl) (fun _ _ _ h => h) (Or.inl ⟨by rfl, ?_⟩) (by assumption) ?_; rotate_left; (focus (intro w hSw; (try dsimp only at hSw); go_simp; try with_reducible rfl)))
    try simp only [List.getElem_toArray, List.getElem_cons_succ, List.getElem_cons_zero, Act.put, List.setIfInBounds_toArray, List.set_cons_zero, List.set_cons_succ]
    (refine wpAnyH_take (i := 26) (v := ?_) rfl (by kernel_rfl) (by kernel_rfl) (by kernel_rfl) (fun _ _ _ h => h) (Or.inl ⟨by rfl, ?_⟩) (by assumption) ?_; rotate_left; (focus (intro w hSw; (try dsimp only at hSw); go_simp; try with_reducible rfl)))
    try simp only [List.getElem_toArray, List.getElem_cons_succ, List.getElem_cons_zero, Act.put, List.setIfInBounds_toArray, List.set_cons_zero, List.set_cons_succ]
    (refine wpAnyH_take (i := 27) (v := ?_) rfl (by kernel_rfl) (by kernel_rfl) (by kernel_rfl) (fun _ _ _ h => h) (Or.inl ⟨by rfl, ?_⟩) (by assumption) ?_; rotate_left; (focus (intro w hSw; (try dsimp only at hSw); go_simp; try with_reducible rfl)))
    try simp only [List.getElem_toArray, List.getElem_cons_succ, List.getElem_cons_zero, Act.put, List.setIfInBounds_toArray, List.set_cons_zero, List.set_cons_succ]
    (refine wpAnyH_take (i := 28) (v := ?_) rfl (by kernel_rfl) (by kernel_rfl) (by kernel_rfl) (fun _ _ _ h => h) (Or.inl ⟨by rfl, ?_⟩) (by assumption) ?_; rotate_left; (focus (intro w hSw; (try dsimp only at hSw); go_simp; try with_reducible rfl)))
    try simp only [List.getElem_toArray, List.getElem_cons_succ, List.getElem_cons_zero, Act.put, List.setIfInBounds_toArray, List.set_cons_zero, List.set_cons_succ]
    (refine wpAnyH_take (i := 29) (v := ?_) rfl (by kernel_rfl) (by kernel_rfl) (by kernel_rfl) (fun _ _ _ h => h) (Or.inl ⟨by rfl, ?_⟩) (by assumption) ?_; rotate_left; (focus (intro w hSw; (try dsimp only at hSw); go_simp; try with_reducible rfl)))
    try simp only [List.getElem_toArray, List.getElem_cons_succ, List.getElem_cons_zero, Act.put, List.setIfInBounds_toArray, List.set_cons_zero, List.set_cons_succ]
    (refine wpAnyH_take (i := 30) (v := ?_) rfl (by kernel_rfl) (by kernel_rfl) (by kernel_rfl) (fun _ _ _ h => h) (Or.inl ⟨by rfl, ?_⟩) (by assumption) ?_; rotate_left; (focus (intro w hSw; (try dsimp only at hSw); go_simp; try with_reducible rfl)))
    try simp only [List.getElem_toArray, List.getElem_cons_succ, List.getElem_cons_zero, Act.put, List.setIfInBounds_toArray, List.set_cons_zero, List.set_cons_succ]
    refine wpAnyH_ready (rs := [31]) (by kernel_rfl) (by simp) ?_
    refine AllReadyH.cons rfl (fun K hK => ?_) AllReadyH.nil
    go_simp
    ((with_reducible refine (rnd8 _).mono ?_); rintro e w14 ⟨A14, c14, rfl, hr14, hq14⟩)
    try go_wp2_with fail
    refine hK.out _ _ (HK12.out _ (Q.trans (hq_of hH13) hq14)) (fun hH14 => ?_)
    clear hK K hH13
    try simp only [List.getElem_toArray, List.getElem_cons_succ, List.getElem_cons_zero, Act.put, List.setIfInBounds_toArray, List.set_cons_zero, List.set_cons_succ]
    refine wpAnyH_ready (rs := [32]) (by kernel_rfl) (by simp) ?_
    refine AllReadyH.cons rfl (fun K hK => ?_) AllReadyH.nil
    go_simp
    ((with_reducible refine (same8 rdR rdR8 _ _ _ (HMR.out _ (P12.out.trans (hq_of hH14))) hr14).mono ?_); rintro e w15 ⟨rfl, hq15⟩)
    try go_wp2_with fail
    refine hK.out _ _ (HK12.out _ (Q.trans (hq_of hH14) hq15)) (fun hH15 => ?_)
    clear hK K hH14
    try simp only [List.getElem_toArray, List.getElem_cons_succ, List.getElem_cons_zero, Act.put, List.setIfInBounds_toArray, List.set_cons_zero, List.set_cons_succ]
    (refine wpAnyH_take (i := 33) (v := ?_) rfl (by kernel_rfl) (by kernel_rfl) (by kernel_rfl) (fun _ _ _ h => h) (Or.inl ⟨by rfl, ?_⟩) (by assumption) ?_; rotate_left; (focus (intro w hSw; (try dsimp only at hSw); go_simp; try with_reducible rfl)))
    try simp only [List.getElem_toArray, List.getElem_cons_succ, List.getElem_cons_zero, Act.put, List.setIfInBounds_toArray, List.set_cons_zero, List.set_cons_succ]
    (refine wpAnyH_take (i := 34) (v := ?_) rfl (by kernel_rfl) (by kernel_rfl) (by kernel_rfl) (fun _ _ _ h => h) (Or.inl ⟨by rfl, ?_⟩) (by assumption) ?_; rotate_left; (focus (intro w hSw; (try dsimp only at hSw); go_simp; try with_reducible rfl)))
    try simp only [List.getElem_toArray, List.getElem_cons_succ, List.getElem_cons_zero, Act.put, List.setIfInBounds_toArray, List.set_cons_zero, List.set_cons_succ]
    (refine wpAnyH_take (i := 35) (v := ?_) rfl (by kernel_rfl) (by kernel_rfl) (by kernel_rfl) (fun _ _ _ h => h) (Or.inl ⟨by rfl, ?_⟩) (by assumption) ?_; rotate_left; (focus (intro w hSw; (try dsimp only at hSw); go_simp; try with_reducible rfl)))
    try simp only [List.getElem_toArray, List.getElem_cons_succ, List.getElem_cons_zero, Act.put, List.setIfInBounds_toArray, List.set_cons_zero, List.set_cons_succ]
    (refine wpAnyH_take (i := 36) (v := ?_) rfl (by kernel_rfl) (by kernel_rfl) (by kernel_rfl) (fun _ _ _ h => h) (Or.inl ⟨by rfl, ?_⟩) (by assumption) ?_; rotate_left; (focus (intro w hSw; (try dsimp only at hSw); go_simp; try with_reducible rfl)))
    try simp only [List.getElem_toArray, List.getElem_cons_succ, List.getElem_cons_zero, Act.put, List.setIfInBounds_toArray, List.set_cons_zero, List.set_cons_succ]
    (refine wpAnyH_take (i := 37) (v := ?_) rfl (by kernel_rfl) (by kernel_rfl) (by kernel_rfl) (fun _ _ _ h => h) (Or.inl ⟨by rfl, ?_⟩) (by assumption) ?_; rotate_left; (focus (intro w hSw; (try dsimp only at hSw); go_simp; try with_reducible rfl)))
    try simp only [List.getElem_toArray, List.getElem_cons_succ, List.getElem_cons_zero, Act.put, List.setIfInBounds_toArray, List.set_cons_zero, List.set_cons_succ]
    (refine wpAnyH_take (i := 38) (v := ?_) rfl (by kernel_rfl) (by kernel_rfl) (by kernel_rfl) (fun _ _ _ h => h) (Or.inl ⟨by rfl, ?_⟩) (by assumption) ?_; rotate_left; (focus (intro w hSw; (try dsimp only at hSw); go_simp; try with_reducible rfl)))
    try simp only [List.getElem_toArray, List.getElem_cons_succ, List.getElem_cons_zero, Act.put, List.setIfInBounds_toArray, List.set_cons_zero, List.set_cons_succ]
    (refine wpAnyH_take (i := 39) (v := ?_) rfl (by kernel_rfl) (by kernel_rfl) (by kernel_rfl) (fun _ _ _ h => h) (Or.inl ⟨by rfl, ?_⟩) (by assumption) ?_; rotate_left; (focus (intro w hSw; (try dsimp only at hSw); go_simp; try with_reducible rfl)))
    try simp only [List.getElem_toArray, List.getElem_cons_succ, List.getElem_cons_zero, Act.put, List.setIfInBounds_toArray, List.set_cons_zero, List.set_cons_succ]
    (refine wpAnyH_take (i := 40) (v := ?_) rfl (by kernel_rfl) (by kernel_rfl) (by kernel_rfl) (fun _ _ _ h => h) (Or.inl ⟨by rfl, ?_⟩) (by assumption) ?_; rotate_left; (focus (intro w hSw; (try dsimp only at hSw); go_simp; try with_reducible rfl)))
    try simp only [List.getElem_toArray, List.getElem_cons_succ, List.getElem_cons_zero, Act.put, List.setIfInBounds_toArray, List.set_cons_zero, List.set_cons_succ]
    (refine wpAnyH_take (i := 41) (v := ?_) rfl (by kernel_rfl) (by kernel_rfl) (by kernel_rfl) (fun _ _ _ h => h) (Or.inl ⟨by rfl, ?_⟩) (by assumption) ?_; rotate_left; (focus (intro w hSw; (try dsimp only at hSw); go_simp; try with_reducible rfl)))
    try simp only [List.getElem_toArray, List.getElem_cons_succ, List.getElem_cons_zero, Act.put, List.setIfInBounds_toArray, List.set_cons_zero, List.set_cons_succ]
    (refine wpAnyH_take (i := 42) (v := ?_) rfl (by kernel_rfl) (by kernel_rfl) (by kernel_rfl) (fun _ _ _ h => h) (Or.inl ⟨by rfl, ?_⟩) (by assumption) ?_; rotate_left; (focus (intro w hSw; (try dsimp only at hSw); go_simp; try with_reducible rfl)))
    try simp only [List.getElem_toArray, List.getElem_cons_succ, List.getElem_cons_zero, Act.put, List.setIfInBounds_toArray, List.set_cons_zero, List.set_cons_succ]
    (refine wpAnyH_take (i := 43) (v := ?_) rfl (by kernel_rfl) (by kernel_rfl) (by kernel_rfl) (fun _ _ _ h => h) (Or.inl ⟨by rfl, ?_⟩) (by assumption) ?_; rotate_left; (focus (intro w hSw; (try dsimp only at hSw); go_simp; try with_reducible rfl)))
    try simp only [List.getElem_toArray, List.getElem_cons_succ, List.getElem_cons_zero, Act.put, List.setIfInBounds_toArray, List.set_cons_zero, List.set_cons_succ]
    refine wpAnyH_ready (rs := [44]) (by kernel_rfl) (by simp) ?_
    refine AllReadyH.cons rfl (fun K hK => ?_) AllReadyH.nil
    go_simp
    ((with_reducible refine (cl150 _ _ (RB.out _ (Q12.out.trans (hq_of hH15))) (DD.out _ (Q12.out.trans (hq_of hH15)))).mono ?_); rintro e w16 ⟨A16, c16, rfl, hr16, hq16⟩)
    obtain ⟨b16, o16, rfl, _, _, _, _, r16⟩ := RdR.at hr16 (Q.refl _) (i := 1) (by decide)
    rw [show (gr rcL 1).o = false from rfl] at r16
    try go_wp2_with fail
    refine hK.out _ _ (HK12.out _ (Q.trans (hq_of hH15) hq16)) (fun hH16 => ?_)
    clear hK K hH15
    try simp only [List.getElem_toArray, List.getElem_cons_succ, List.getElem_cons_zero, Act.put, List.setIfInBounds_toArray, List.set_cons_zero, List.set_cons_succ]
    (refine wpAnyH_take (i := 45) (v := ?_) rfl (by kernel_rfl) (by kernel_rfl) (by kernel_rfl) (fun _ _ _ h => h) (Or.inl ⟨by rfl, ?_⟩) (by assumption) ?_; rotate_left; (focus (intro w hSw; (try dsimp only at hSw); go_simp; try with_reducible rfl)))
    try simp only [List.getElem_toArray, List.getElem_cons_succ, List.getElem_cons_zero, Act.put, List.setIfInBounds_toArray, List.set_cons_zero, List.set_cons_succ]
    (refine wpAnyH_take (i := 46) (v := ?_) rfl (by kernel_rfl) (by kernel_rfl) (by kernel_rfl) (fun _ _ _ h => h) (Or.inl ⟨by rfl, ?_⟩) (by assumption) ?_; rotate_left; (focus (intro w hSw; (try dsimp only at hSw); go_simp; try with_reducible rfl)))
    try simp only [List.getElem_toArray, List.getElem_cons_succ, List.getElem_cons_zero, Act.put, List.setIfInBounds_toArray, List.set_cons_zero, List.set_cons_succ]
    (refine wpAnyH_take (i := 47) (v := ?_) rfl (by kernel_rfl) (by kernel_rfl) (by kernel_rfl) (fun _ _ _ h => h) (Or.inl ⟨by rfl, ?_⟩) (by assumption) ?_; rotate_left; (focus (intro w hSw; (try dsimp only at hSw); go_simp; try with_reducible rfl)))
    try simp only [List.getElem_toArray, List.getElem_cons_succ, List.getElem_cons_zero, Act.put, List.setIfInBounds_toArray, List.set_cons_zero, List.set_cons_succ]
    refine wpAnyH_ready (rs := [48]) (by kernel_rfl) (by simp) ?_
    refine AllReadyH.cons rfl (fun K hK => ?_) AllReadyH.nil
    go_simp
    refine hK.out _ _ hH16 (fun hH16' => ?_)
    clear hK K hH16'
    try simp only [List.getElem_toArray, List.getElem_cons_succ, List.getElem_cons_zero, Act.put, List.setIfInBounds_toArray, List.set_cons_zero, List.set_cons_succ]
    (refine wpAnyH_take (i := 49) (v := ?_) rfl (by kernel_rfl) (by kernel_rfl) (by kernel_rfl) (fun _ _ _ h => h) (Or.inl ⟨by rfl, ?_⟩) (by assumption) ?_; rotate_left; (focus (intro w hSw; (try dsimp only at hSw); go_simp; try with_reducible rfl)))
    try simp only [List.getElem_toArray, List.getElem_cons_succ, List.getElem_cons_zero, Act.put, List.setIfInBounds_toArray, List.set_cons_zero, List.set_cons_succ]
    (refine wpAnyH_take (i := 50) (v := ?_) rfl (by kernel_rfl) (by kernel_rfl) (by kernel_rfl) (fun _ _ _ h => h) (Or.inl ⟨by rfl, ?_⟩) (by assumption) ?_; rotate_left; (focus (intro w hSw; (try dsimp only at hSw); go_simp; try with_reducible rfl)))
    try simp only [List.getElem_toArray, List.getElem_cons_succ, List.getElem_cons_zero, Act.put, List.setIfInBounds_toArray, List.set_cons_zero, List.set_cons_succ]
    (refine wpAnyH_take (i := 51) (v := ?_) rfl (by kernel_rfl) (by kernel_rfl) (by kernel_rfl) (fun _ _ _ h => h) (Or.inl ⟨by rfl, ?_⟩) (by assumption) ?_; rotate_left; (focus (intro w hSw; (try dsimp only at hSw); go_simp; try with_reducible rfl)))
    try simp only [List.getElem_toArray, List.getElem_cons_succ, List.getElem_cons_zero, Act.put, List.setIfInBounds_toArray, List.set_cons_zero, List.set_cons_succ]
    (refine wpAnyH_take (i := 52) (v := ?_) rfl (by kernel_rfl) (by kernel_rfl) (by kernel_rfl) (fun _ _ _ h => h) (Or.inl ⟨by rfl, ?_⟩) (by assumption) ?_; rotate_left; (focus (intro w hSw; (try dsimp only at hSw); go_simp; try with_reducible rfl)))
    try simp only [List.getElem_toArray, List.getElem_cons_succ, List.getElem_cons_zero, Act.put, List.setIfInBounds_toArray, List.set_cons_zero, List.set_cons_succ]
    (refine wpAnyH_take (i := 54) (v := ?_) rfl (by kernel_rfl) (by kernel_rfl) (by kernel_rfl) (fun _ _ _ h => h) (Or.inl ⟨by rfl, ?_⟩) (by assumption) ?_; rotate_left; (focus (intro w hSw; (try dsimp only at hSw); go_simp; try with_reducible rfl)))
    try simp only [List.getElem_toArray, List.getElem_cons_succ, List.getElem_cons_zero, Act.put, List.setIfInBounds_toArray, List.set_cons_zero, List.set_cons_succ]
    refine wpAnyH_ready (rs := [53]) (by kernel_rfl) (by simp) ?_
    refine AllReadyH.cons rfl (fun K hK => ?_) AllReadyH.nil
    go_simp
    ((with_reducible refine (cl400 _ _ (RB.out _ (Q12.out.trans (hq_of hH16))) (DD.out _ (Q12.out.trans (hq_of hH16)))).mono ?_); rintro e w17 ⟨A17, c17, rfl, hr17, hq17⟩)
    try go_wp2_with fail
    refine hK.out _ _ (HK12.out _ (Q.trans (hq_of hH16) hq17)) (fun hH17 => ?_)
    clear hK K hH16
    try simp only [List.getElem_toArray, List.getElem_cons_succ, List.getElem_cons_zero, Act.put, List.setIfInBounds_toArray, List.set_cons_zero, List.set_cons_succ]
    refine wpAnyH_ready (rs := [55]) (by kernel_rfl) (by simp) ?_
    refine AllReadyH.cons rfl (fun K hK => ?_) AllReadyH.nil
    go_simp
    ((with_reducible refine (same8 rbL rbL8 _ _ _ hr17 (RB.out _ (Q12.out.trans (hq_of hH17)))).mono ?_); rintro e w18 ⟨rfl, hq18⟩)
    try go_wp2_with fail
    refine hK.out _ _ (HK12.out _ (Q.trans (hq_of hH17) hq18)) (fun hH18 => ?_)
    clear hK K hH17
    try simp only [List.getElem_toArray, List.getElem_cons_succ, List.getElem_cons_zero, Act.put, List.setIfInBounds_toArray, List.set_cons_zero, List.set_cons_succ]
    (refine wpAnyH_take (i := 56) (v := ?_) rfl (by kernel_rfl) (by kernel_rfl) (by kernel_rfl) (fun _ _ _ h => h) (Or.inl ⟨by rfl, ?_⟩) (by assumption) ?_; rotate_left; (focus (intro w hSw; (try dsimp only at hSw); go_simp; try with_reducible rfl)))
    try simp only [List.getElem_toArray, List.getElem_cons_succ, List.getElem_cons_zero, Act.put, List.setIfInBounds_toArray, List.set_cons_zero, List.set_cons_succ]
    (refine wpAnyH_take (i := 57) (v := ?_) rfl (by kernel_rfl) (by kernel_rfl) (by kernel_rfl) (fun _ _ _ h => h) (Or.inl ⟨by rfl, ?_⟩) (by assumption) ?_; rotate_left; (focus (intro w hSw; (try dsimp only at hSw); go_simp; try with_reducible rfl)))
    try simp only [List.getElem_toArray, List.getElem_cons_succ, List.getElem_cons_zero, Act.put, List.setIfInBounds_toArray, List.set_cons_zero, List.set_cons_succ]
    (refine wpAnyH_take (i := 58) (v := ?_) rfl (by kernel_rfl) (by kernel_rfl) (by kernel_rfl) (fun _ _ _ h => h) (Or.inl ⟨by rfl, ?_⟩) (by assumption) ?_; rotate_left; (focus (intro w hSw; (try dsimp only at hSw); go_simp; try with_reducible rfl)))
    try simp only [List.getElem_toArray, List.getElem_cons_succ, List.getElem_cons_zero, Act.put, List.setIfInBounds_toArray, List.set_cons_zero, List.set_cons_succ]
    (refine wpAnyH_take (i := 64) (v := ?_) rfl (by kernel_rfl) (by kernel_rfl) (by kernel_rfl) (fun _ _ _ h => h) (Or.inl ⟨by rfl, ?_⟩) (by assumption) ?_; rotate_left; (focus (intro w hSw; (try dsimp only at hSw); go_simp; try with_reducible rfl)))
    try simp only [List.getElem_toArray, List.getElem_cons_succ, List.getElem_cons_zero, Act.put, List.setIfInBounds_toArray, List.set_cons_zero, List.set_cons_succ]
    refine wpAnyH_ready (rs := [59]) (by kernel_rfl) (by simp) ?_
    refine AllReadyH.cons rfl (fun K hK => ?_) AllReadyH.nil
    go_simp
    ((with_reducible refine (tu1 _ _ (RA.out _ (Q12.out.trans (hq_of hH18)))).mono ?_); rintro e w19 ⟨A19, c19, rfl, hr19, hq19⟩)
    obtain ⟨b19, o19, rfl, _, _, t0, t1, _⟩ := RdR.at hr19 (Q.refl _) (i := 0) (by rw [a11]; decide)
    rw [a12] at t0 t1
    rw [Nat.zero_mul, Nat.add_zero] at t0 t1
    dsimp only at t0 t1
    try go_wp2_with fail
    refine hK.out _ _ (HK12.out _ (Q.trans (hq_of hH18) hq19)) (fun hH19 => ?_)
    clear hK K hH18
    try simp only [List.getElem_toArray, List.getElem_cons_succ, List.getElem_cons_zero, Act.put, List.setIfInBounds_toArray, List.set_cons_zero, List.set_cons_succ]
    (refine wpAnyH_take (i := 60) (v := ?_) rfl (by kernel_rfl) (by kernel_rfl) (by kernel_rfl) (fun _ _ _ h => h) (Or.inl ⟨by rfl, ?_⟩) (by assumption) ?_; rotate_left; (focus (intro w hSw; (try dsimp only at hSw); go_simp; try with_reducible rfl)))
    try simp only [List.getElem_toArray, List.getElem_cons_succ, List.getElem_cons_zero, Act.put, List.setIfInBounds_toArray, List.set_cons_zero, List.set_cons_succ]
    (refine wpAnyH_take (i := 61) (v := ?_) rfl (by kernel_rfl) (by kernel_rfl) (by kernel_rfl) (fun _ _ _ h => h) (Or.inl ⟨by rfl, ?_⟩) (by assumption) ?_; rotate_left; (focus (intro w hSw; (try dsimp only at hSw); go_simp; try with_reducible rfl)))
    try simp only [List.getElem_toArray, List.getElem_cons_succ, List.getElem_cons_zero, Act.put, List.setIfInBounds_toArray, List.set_cons_zero, List.set_cons_succ]
    (refine wpAnyH_take (i := 62) (v := ?_) rfl (by kernel_rfl) (by kernel_rfl) (by kernel_rfl) (fun _ _ _ h => h) (Or.inl ⟨by rfl, ?_⟩) (by assumption) ?_; rotate_left; (focus (intro w hSw; (try dsimp only at hSw); go_simp; try with_reducible rfl)))
    try simp only [List.getElem_toArray, List.getElem_cons_succ, List.getElem_cons_zero, Act.put, List.setIfInBounds_toArray, List.set_cons_zero, List.set_cons_succ]
    refine wpAnyH_ready (rs := [63]) (by kernel_rfl) (by simp) ?_
    refine AllReadyH.cons rfl (fun K hK => ?_) AllReadyH.nil
    go_simp
    refine hK.out _ _ hH19 (fun hH19' => ?_)
    clear hK K hH19'
    try simp only [List.getElem_toArray, List.getElem_cons_succ, List.getElem_cons_zero, Act.put, List.setIfInBounds_toArray, List.set_cons_zero, List.set_cons_succ]
    (refine wpAnyH_take (i := 65) (v := ?_) rfl (by kernel_rfl) (by kernel_rfl) (by kernel_rfl) (fun _ _ _ h => h) (Or.inl ⟨by rfl, ?_⟩) (by assumption) ?_; rotate_left; (focus (intro w hSw; (try dsimp only at hSw); go_simp; try with_reducible rfl)))
    try simp only [List.getElem_toArray, List.getElem_cons_succ, List.getElem_cons_zero, Act.put, List.setIfInBounds_toArray, List.set_cons_zero, List.set_cons_succ]
    (refine wpAnyH_take (i := 66) (v := ?_) rfl (by kernel_rfl) (by kernel_rfl) (by kernel_rfl) (fun _ _ _ h => h) (Or.inl ⟨by rfl, ?_⟩) (by assumption) ?_; rotate_left; (focus (intro w hSw; (try dsimp only at hSw); go_simp; try with_reducible rfl)))
    try simp only [List.getElem_toArray, List.getElem_cons_succ, List.getElem_cons_zero, Act.put, List.setIfInBounds_toArray, List.set_cons_zero, List.set_cons_succ]
    (refine wpAnyH_take (i := 67) (v := ?_) rfl (by kernel_rfl) (by kernel_rfl) (by kernel_rfl) (fun _ _ _ h => h) (Or.inl ⟨by rfl, ?_⟩) (by assumption) ?_; rotate_left; (focus (intro w hSw; (try dsimp only at hSw); go_simp; try with_reducible rfl)))
    try simp only [List.getElem_toArray, List.getElem_cons_succ, List.getElem_cons_zero, Act.put, List.setIfInBounds_toArray, List.set_cons_zero, List.set_cons_succ]
    refine wpAnyH_done (by kernel_rfl) ?_ _
    have QF := Lib.hid (T4.out.2.2.1.trans (Q12.out.trans (hq_of hH19)))
    go_wp2_with fail
    go_ret
    exact ⟨rfl, QF.out⟩
end Go.Proofs.YtlcgbeocdimboaaDoor
