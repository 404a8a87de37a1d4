/- The contract of the law's Round. -/
import Derived.Test.YtlcgbeocdimboaaDoorCopied
import Derived.Deep.DrawnRows
import Derived.Deep.RegionLaw
import Derived.Deep.AppendLies
set_option linter.unusedVariables false
set_option linter.unusedSimpArgs false
namespace Go.Proofs.YtlcgbeocdimboaaDoor
open Go.ChangeShapes Go.WideShapes Go.ChangeAt Go.RowKit Go.Shelf Pm

attribute [local go_sem ↓] Go.wp_at_zero Go.wp_at_succ
/-- the ring of the chapter's examples -/
def rdP : List P := [(100, 0), (70, 70), (0, 100), (-70, 70), (-100, 0), (-70, -70), (0, -100), (70, -70)]
def rdR : List RD := rdP.map fun p => ⟨p.1, p.2, true⟩
theorem rdR_next {k : Nat} (h : k < 8) : rdR.take (k + 1) = rdR.take k ++ [⟨(g rdP k).1, (g rdP k).2, true⟩] := by
  rcases (show k = 0 ∨ k = 1 ∨ k = 2 ∨ k = 3 ∨ k = 4 ∨ k = 5 ∨ k = 6 ∨ k = 7 by omega) with rfl | rfl | rfl | rfl | rfl | rfl | rfl | rfl <;> decide
theorem ownR_next {B : Nat} {w w1 : World} {v v' : Value} {l : List RD} {s : RD} {o : Obj} (h : OwnR B v l w) (hB : B ≤ w.heap.size)
    (h' : w1.ownsRow B 44 3 v' (l.length + 1) (cellsR l ++ [.int .i64 s.x, .int .i64 s.y, .bool s.o])) (hg : (w.alloc o).grownBy w1 v.ownBlock) : OwnR B v' (l ++ [s]) w1 ∧ Below B w w1 :=
  ⟨by unfold OwnR; rw [List.length_append, cellsR_app]; exact h', ((Below.refl B w).alloc hB o).grown hg (by simp; omega) (fun j hj => (h.lt j hj).1)⟩
theorem ownR_block {B : Nat} {v : Value} {l : List RD} {w w' : World} (h : OwnR B v l w) (hk : ∀ k, B ≤ k → k < w.heap.size → w'.heap[k]? = w.heap[k]?) : OwnR B v l w' := by
  obtain ⟨h1, ⟨h2, h3⟩ | ⟨g, cap, cur, h2, h3, h4, h5⟩⟩ := h
  · exact ⟨h1, .inl ⟨h2, h3⟩⟩
  · refine ⟨h1, .inr ⟨g, cap, cur, h2, h3, ?_, h5⟩⟩
    have hg : g < w.heap.size := by
      rcases Nat.lt_or_ge g w.heap.size with k | k
      · exact k
      · rw [Array.getElem?_eq_none k] at h4; cases h4
    exact (hk g h3 hg).trans h4
theorem ownR_far {B b i : Nat} {v u : Value} {l : List RD} {w : World} (h : OwnR B v l w) (hb : b < B) : OwnR B v l (w.setCell ⟨b, i, none⟩ u) :=
  ownR_block h fun k hk _ => Below.heap_setCell _ _ _ k (by show k ≠ b; omega)
theorem ownR_drew {B : Nat} {v : Value} {l : List RD} {w : World} (h : OwnR B v l w) : OwnR B v l w.drew := h
theorem undrew_grown {w w1 : World} {r : Option Nat} (h : w.drew.grownBy w1 r) : w.grownBy w1 r := ⟨h.os, h.tape, h.output, h.size, h.block⟩
theorem trip_at (w : World) (a b c : Value) (t : TypeId) : ∀ j u, ([a, b, c] : List Value)[j]? = some u → (w.alloc (.cells #[a, b, c] t)).cell? ((⟨w.heap.size, 0, none⟩ : Addr).add j) = some u := by
  intro j u hu
  match j, hu with
  | 0, hu => rw [← Option.some.inj hu]; exact World.cell?_alloc_at _ _ _ _ rfl
  | 1, hu => rw [← Option.some.inj hu]; exact World.cell?_alloc_at _ _ _ _ rfl
  | 2, hu => rw [← Option.some.inj hu]; exact World.cell?_alloc_at _ _ _ _ rfl
theorem trip_cell (a b : Int) (c : Bool) : ∀ u ∈ ([.int .i64 a, .int .i64 b, .bool c] : List Value), u.oneCell' = true := by
  intro u hu; simp at hu; rcases hu with rfl | rfl | rfl <;> rfl
theorem roomR {n : Nat} (h : n ≤ 1000) : n + 1 ≤ maxLen ∧ (n + 1) * 24 ≤ 140737488355328 := by unfold maxLen; omega
/-- the box of a ring in the making -/
structure Mk (W1 W2 wr : World) (v : Value) (l : List RD) : Prop where
  q : Q W1 wr
  b : wr.heap[W1.heap.size]? = some (.cells #[.int .i64 0, v] 24 (0, 0))
  o : OwnR W2.heap.size v l wr
  s : W2.heap.size ≤ wr.heap.size
theorem Mk.next {W1 W2 wr w6 : World} {v v' : Value} {l : List RD} {s : RD} {o : Obj} (h : Mk W1 W2 wr v l) (h2 : W1.heap.size < W2.heap.size)
    (h' : w6.ownsRow W2.heap.size 44 3 v' (l.length + 1) (cellsR l ++ [.int .i64 s.x, .int .i64 s.y, .bool s.o])) (hg : (wr.alloc o).grownBy w6 v.ownBlock) :
    Mk W1 W2 (w6.setCell ⟨W1.heap.size, 1, none⟩ v') v' (l ++ [s]) ∧ (w6.cell? ⟨W1.heap.size, 0, none⟩ = some (.int .i64 0) ∧ w6.cell? ⟨W1.heap.size, 1, none⟩ = some v) ∧ w6.frozen? ⟨W1.heap.size, 0, none⟩ = false ∧ w6.frozen? ⟨W1.heap.size, 1, none⟩ = false := by
  obtain ⟨n1, n2⟩ := ownR_next h.o h.s h' hg
  have hb6 : w6.heap[W1.heap.size]? = some (.cells #[.int .i64 0, v] 24 (0, 0)) := (n2.block W1.heap.size h2).trans h.b
  have hx := box_at hb6
  have hsz : (w6.setCell ⟨W1.heap.size, 1, none⟩ v').heap.size = w6.heap.size := by show (w6.heap.modify _ _).size = _; simp
  have hq6 : Q W1 w6 := Below.trans h.q (n2.mono (by omega))
  refine ⟨⟨Below.setCell hq6 (p := ⟨W1.heap.size, 1, none⟩) (Nat.le_refl _) v', ?_, ownR_far n1 h2, by rw [hsz]; exact Nat.le_trans h.s n2.size⟩, ⟨hx.1, hx.2.1⟩, hx.2.2⟩
  have := set_blk (i := 1) v' hb6
  simpa using this
theorem Mk.drew {W1 W2 wr : World} {v : Value} {l : List RD} (h : Mk W1 W2 wr v l) : Mk W1 W2 wr.drew v l := ⟨h.q.drew, h.b, h.o, h.s⟩
theorem rdP_rd {w : World} : RdP (w.alloc (.cells (cellsL rdP).toArray 38)) (.slice (some ⟨w.heap.size, 0, none⟩) 8 8) rdP :=
  ⟨_, _, rfl, Nat.le_refl _, fun _ => ⟨w.heap.size, 0, rfl, by simp, fun i s hs j u hu => by
    obtain ⟨c1, c2⟩ := cellsL_at rdP i s hs
    have hb : (w.alloc (.cells (cellsL rdP).toArray 38)).heap[w.heap.size]? = some (.cells (cellsL rdP).toArray 38 (0, 0)) := World.alloc_heap_new w _
    rw [Nat.zero_add, cell_of_row _ _ _ _ _ _ hb]
    match j, hu with
    | 0, hu => have e : Value.int .i64 s.1 = u := Option.some.inj hu; rw [← e]; simpa using c1
    | 1, hu => have e : Value.int .i64 s.2 = u := Option.some.inj hu; rw [← e]; simpa using c2⟩⟩
theorem rdp_at {w w' : World} {b off n c : Nat} {l : List P} (h : RdP w (.slice (some ⟨b, off, none⟩) n c) l) (hq : Q w w') {i : Nat} (hi : i < l.length) : b < w.heap.size ∧ w'.cell? ⟨b, off + i * 2, none⟩ = some (.int .i64 (g l i).1) ∧ w'.cell? ⟨b, off + i * 2 + 1, none⟩ = some (.int .i64 (g l i).2) := by
  obtain ⟨b', off', e, hb, _, h0, h1⟩ := RdP.at h hq hi
  injection e with e
  injection e with e1 e2
  subst e1 e2
  exact ⟨hb, h0, h1⟩
set_option maxRecDepth 100000 in
set_option maxHeartbeats 3200000 in
theorem Round_c (w : World) : Calls Tryd.prog 25 #[] w (SepPost 0 rdR w) := by
  obtain ⟨i0, hi, hz0, hz1, hz2⟩ := info_parts infoR
  obtain ⟨W0, hW0⟩ : ∃ W, w.alloc (.cells #[.int .i64 0, .slice none 0 0] 24) = W := ⟨_, rfl⟩
  obtain ⟨W1, hW1⟩ : ∃ W, W0.alloc (.cells #[.int .i64 100, .int .i64 0, .int .i64 70, .int .i64 70, .int .i64 0, .int .i64 100, .int .i64 (-70), .int .i64 70, .int .i64 (-100), .int .i64 0, .int .i64 (-70), .int .i64 (-70), .int .i64 0, .int .i64 (-100), .int .i64 70, .int .i64 (-70)] 38) = W := ⟨_, rfl⟩
  obtain ⟨W2, hW2⟩ : ∃ W, W1.alloc (.cells #[.int .i64 0, .slice none 0 0] 24) = W := ⟨_, rfl⟩
  have hs : w.heap.size < W0.heap.size := by rw [← hW0]; simp
  have hs1 : W0.heap.size < W1.heap.size := by rw [← hW1]; simp
  have hs2 : W1.heap.size < W2.heap.size := by rw [← hW2]; simp
  have Q0 := Lib.hid (show Q w W0 by rw [← hW0]; exact (Q.refl w).alloc _)
  have Q01 := Lib.hid (show Q W0 W1 by rw [← hW1]; exact (Q.refl W0).alloc _)
  have QW := Lib.hid (Q0.out.trans Q01.out)
  have HB := Lib.hid (show ∀ W, Q W1 W → W.heap[w.heap.size]? = some (.cells #[.int .i64 0, .slice none 0 0] 24 (0, 0)) from fun W h => by
    have e1 : W0.heap[w.heap.size]? = some (.cells #[.int .i64 0, .slice none 0 0] 24 (0, 0)) := by rw [← hW0]; exact World.alloc_heap_new w _
    exact ((Q01.out.trans h).block _ hs).trans e1)
  have HP := Lib.hid (show RdP W1 (.slice (some ⟨W0.heap.size, 0, none⟩) 8 8) rdP by rw [← hW1]; exact rdP_rd)
  have HM := Lib.hid (show Mk W1 W2 W2 (.slice none 0 0) [] from ⟨by rw [← hW2]; exact (Q.refl W1).alloc _, by rw [← hW2]; exact World.alloc_heap_new W1 _, ownR_nil _ _, Nat.le_refl _⟩)
  go_enter Tryd.func25, Tryd.ntmps25
  go_wp2_with fail
  go_loopw [3] (fun v3 wr => ∃ k : Nat, k ≤ 8 ∧ v3 = .int .i64 k ∧ Hid (∃ v, Mk W1 W2 wr v (rdR.take k))) (fun v3 _ => 8 - (intOf v3).toNat)
  case atStart => exact ⟨0, by omega, rfl, _, HM.out⟩
  case round =>
    obtain ⟨k, hk, rfl, HI⟩ := hrel
    obtain ⟨v, hI⟩ := HI.out
    have HJ := Lib.hid hI
    have hbx := box_at hI.b
    clear HI hI
    by_cases hlt : k < 8
    · have i1 : (k : Int) < 8 := by omega
      have i2 : (0 : Int) ≤ (k : Int) := by omega
      have HZ := Lib.hid (rdR_next hlt)
      have hxl : (rdR.take k).length = k := by rw [List.length_take]; show min k 8 = k; omega
      obtain ⟨X, hX⟩ : ∃ X, rdR.take k = X := ⟨_, rfl⟩
      rw [hX] at HZ HJ hxl
      have RM := Lib.hid (roomR (n := X.length) (by omega))
      have hp := rdp_at HP.out HJ.out.q (i := k) (by show k < 8; exact hlt)
      obtain ⟨px, hpx⟩ : ∃ x, (g rdP k).1 = x := ⟨_, rfl⟩
      obtain ⟨py, hpy⟩ : ∃ x, (g rdP k).2 = x := ⟨_, rfl⟩
      rw [hpx, hpy] at HZ hp
      rw [Nat.zero_add] at hp
      obtain ⟨_, hp0, hp1⟩ := hp
      obtain ⟨b0, b1, f0, f1⟩ := hbx
      have hz1r : W1.heap.size < wr.heap.size := Nat.lt_of_lt_of_le hs2 HJ.out.s
      have hb1o := fun o => old_row o hz1r b1
      have HOW := Lib.hid (show (wr.alloc (.cells #[.int .i64 px, .int .i64 py, .bool true] 44)).drew.ownsRow W2.heap.size 44 3 v X.length (cellsR X) from World.ownsRow.alloc HJ.out.o _)
      have HPW := Lib.hid (show ∀ j u, ([.int .i64 px, .int .i64 py, .bool true] : List Value)[j]? = some u → (wr.alloc (.cells #[.int .i64 px, .int .i64 py, .bool true] 44)).drew.cell? ((⟨wr.heap.size, 0, none⟩ : Addr).add j) = some u from fun j u hj => trip_at wr _ _ _ _ j u hj)
      have HBW := Lib.hid (show W2.heap.size ≤ (wr.alloc (.cells #[.int .i64 px, .int .i64 py, .bool true] 44)).drew.heap.size from alloc_le HJ.out.s _)
      have HSW := Lib.hid (show (wr.alloc (.cells #[.int .i64 px, .int .i64 py, .bool true] 44)).drew.heap.size = wr.heap.size + 1 by simp)
      clear hX hpx hpy hxl
      go_wp2_with fail
      go_region_law (refine step_append_lies _ rfl (.tmp 20) (.tmp 26) 22 rfl W2.heap.size 44 i0 (.agg #[.int .i64 0, .int .i64 0, .bool false]) 3 24 Tryd.underlying22 hi hz0 hz1 hz2 rfl (by decide) v X.length (cellsR X) (by simp [Act.eval, Act.put]) HOW.out ⟨wr.heap.size, 0, none⟩ 1 1 [.int .i64 px, .int .i64 py, .bool true] (by simp [Act.eval, Act.put]) rfl HPW.out (trip_cell _ _ _) (by decide) RM.out.1 RM.out.2 HBW.out (wr.heap.size + 1) HSW.out ?_; intro gg cap w7 hown hgrow hat hlt7; obtain ⟨n1, ⟨n2, n3⟩, n4, n5⟩ := HJ.out.next (s := ⟨px, py, true⟩) hs2 hown (undrew_grown hgrow); have N1 := Lib.hid n1; clear n1 hown hgrow)
      all_goals
        go_wp2_with fail
        exact ⟨⟨k + 1, by omega, by go_num, by rw [HZ.out]; exact ⟨_, N1.out⟩⟩, by simp [intOf] <;> omega⟩
    · obtain rfl : k = 8 := by omega
      have hown : OwnR W2.heap.size v rdR wr := HJ.out.o
      obtain ⟨gg, cap, rfl, h1, h2, h3⟩ := hown.form (by decide)
      have HO := Lib.hid hown
      obtain ⟨r0, r1, f0, f1⟩ := box_at (HB.out wr HJ.out.q)
      obtain ⟨b0, b1, _, _⟩ := hbx
      obtain ⟨g0, g1⟩ := sep_at (HB.out wr HJ.out.q) (.int .i64 0) (.slice (some ⟨gg, 0, none⟩) rdR.length cap)
      clear hown
      go_wp2_with fail
      refine bodyPost_ret (v := .agg #[.int .i64 0, .slice (some ⟨gg, 0, none⟩) rdR.length cap]) (by simp [results, Tryd.results25, go_sem, g0, g1]) rfl ?_
      exact ⟨_, _, rfl, sep_post2 (W0 := w) (W1 := W0) rfl HO.out.rd (fun _ => ⟨gg, rfl, h1, by omega, wr_ownR HO.out rfl h3⟩) (QW.out.trans HJ.out.q) (Nat.le_refl _) hs⟩
end Go.Proofs.YtlcgbeocdimboaaDoor
