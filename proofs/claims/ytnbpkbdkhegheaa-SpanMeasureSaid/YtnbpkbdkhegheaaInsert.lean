/- The contracts of the reference's insert and Canon. -/
import Derived.Test.YtnbpkbdkhegheaaMathI
import Derived.Test.YtnbpkbdkhegheaaCanon
import Derived.Maps.AppendAt
import Derived.Laws.AppendOwnNone
import Derived.RegionTactic
import Derived.BigRegion
set_option linter.unusedVariables false
set_option linter.unusedSimpArgs false
namespace Go.Proofs.Ytnbpkbdkhegheaa
open Go.ChangeShapes Go.WideShapes Go.ChangeAt Go.RowKit Sm

/-- two rows that never share a block -/
def Apart (u v : Value) : Prop := u.ownBlock = none ∨ v.ownBlock = none ∨ u.ownBlock ≠ v.ownBlock
/-- the state of insert's loop: the rows ahead and behind, the span -/
def InsInv (B : Nat) (w0 : World) (X : List S) (s : S) (k : Nat) (u5 u6 : Value) (wr : World) : Prop :=
  Own B u5 (insF (X.take k) s).1 wr ∧ Own B u6 (insF (X.take k) s).2.1 wr ∧ Apart u5 u6 ∧ ((insF (X.take k) s).2.1 = [] → u6 = .slice none 0 0) ∧
  wr.cell? ⟨w0.heap.size, 0, none⟩ = some (.int .i64 (insF (X.take k) s).2.2.1) ∧ wr.cell? ⟨w0.heap.size, 1, none⟩ = some (.int .i64 (insF (X.take k) s).2.2.2) ∧
  wr.frozen? ⟨w0.heap.size, 0, none⟩ = false ∧ wr.frozen? ⟨w0.heap.size, 1, none⟩ = false ∧ B ≤ wr.heap.size ∧ Q w0 wr
theorem insF_len {X : List S} {s : S} : (insF X s).1.length + (insF X s).2.1.length ≤ X.length := by
  refine snoc_ind (p := fun X => (insF X s).1.length + (insF X s).2.1.length ≤ X.length) (Nat.le_refl _) (fun X t ih => ?_) X
  rw [insF_snoc, List.length_append, List.length_singleton]
  unfold stepI
  split
  · simp only [List.length_append, List.length_singleton]; omega
  · split
    · simp only [List.length_append, List.length_singleton]; omega
    · dsimp only; omega
theorem insF_take {X : List S} {s t : S} {k : Nat} (h : X[k]? = some t) : insF (X.take (k + 1)) s = stepI (insF (X.take k) s) t := by
  rw [List.take_add_one, h]; exact insF_snoc _ _ _
/-- a row that another row's growth leaves alone -/
theorem Own.keep {B : Nat} {u v : Value} {l : List S} {w w1 : World} {o : Obj} (h : Own B v l w) (hg : (w.alloc o).grownBy w1 u.ownBlock) (ha : Apart u v) (hu : ∀ k, u.ownBlock = some k → k < w.heap.size) : Own B v l w1 := by
  have h1 : Own B v l (w.alloc o) := World.ownsRow.alloc h o
  refine World.ownsRow.kept h1 hg ?_
  rcases ha with g | g | g
  · by_cases e : v.ownBlock = none
    · exact .inl e
    · right; rw [g]; exact e
  · exact .inl g
  · exact .inr fun e => g e.symm
theorem Apart.next {u v u' : Value} {w : World} (ha : Apart u v) (hv : ∀ k, v.ownBlock = some k → k < w.heap.size) (h : u'.ownBlock = u.ownBlock ∨ u'.ownBlock = some (w.heap.size + 1)) : Apart u' v := by
  rcases h with h | h
  · unfold Apart; rw [h]; exact ha
  · by_cases e : v.ownBlock = none
    · exact .inr (.inl e)
    · refine .inr (.inr fun g => ?_)
      rw [h] at g
      have := hv _ g.symm
      omega
theorem Apart.symm {u v : Value} (h : Apart u v) : Apart v u := by
  rcases h with h | h | h
  · exact .inr (.inl h)
  · exact .inl h
  · exact .inr (.inr fun g => h g.symm)

theorem InsInv.drewN {B : Nat} {w0 wr : World} {X : List S} {s : S} {k : Nat} {u5 u6 : Value} (h : InsInv B w0 X s k u5 u6 wr) (n : Nat) : InsInv B w0 X s k u5 u6 (wr.drewN n) := by
  obtain ⟨a1, a2, a3, a4, a5, a6, a7, a8, a9, a10⟩ := h
  exact ⟨a1.drewN n, a2.drewN n, a3, a4, a5, a6, a7, a8, a9, a10.drewN n⟩
theorem InsInv.drew {B : Nat} {w0 wr : World} {X : List S} {s : S} {k : Nat} {u5 u6 : Value} (h : InsInv B w0 X s k u5 u6 wr) : InsInv B w0 X s k u5 u6 wr.drew := by
  obtain ⟨a1, a2, a3, a4, a5, a6, a7, a8, a9, a10⟩ := h
  exact ⟨a1.drew, a2.drew, a3, a4, a5, a6, a7, a8, a9, a10.drew⟩
theorem Own.lt' {B : Nat} {v : Value} {l : List S} {w : World} (h : Own B v l w) : ∀ k, v.ownBlock = some k → k < w.heap.size := fun k hk => (World.ownsRow.lt h k hk).2
/-- a span goes to the row ahead -/
theorem ins_before {B : Nat} {w0 wr w1 : World} {X : List S} {s t : S} {k : Nat} {u5 u6 u5' : Value} {o : Obj} (h : InsInv B w0 X s k u5 u6 wr) (hw : w0.heap.size < B)
    (hst : insF (X.take (k + 1)) s = ((insF (X.take k) s).1 ++ [t], (insF (X.take k) s).2.1, (insF (X.take k) s).2.2))
    (hown : w1.ownsRow B 23 2 u5' ((insF (X.take k) s).1.length + 1) (cellsL (insF (X.take k) s).1 ++ [.int .i64 t.1, .int .i64 t.2])) (hg : (wr.alloc o).grownBy w1 u5.ownBlock)
    (h5 : u5'.ownBlock = u5.ownBlock ∨ u5'.ownBlock = some (wr.heap.size + 1)) : InsInv B w0 X s (k + 1) u5' u6 w1 := by
  obtain ⟨a1, a2, a3, a4, a5, a6, a7, a8, a9, a10⟩ := h
  obtain ⟨n1, n2⟩ := own_next a1 (Below.refl B wr) a9 hown hg
  unfold InsInv
  rw [hst]
  exact ⟨n1, a2.keep hg a3 a1.lt', a3.next a2.lt' h5, a4, (n2.cell (p := ⟨w0.heap.size, 0, none⟩) hw).trans a5, (n2.cell (p := ⟨w0.heap.size, 1, none⟩) hw).trans a6,
    (n2.frozen (p := ⟨w0.heap.size, 0, none⟩) hw).trans a7, (n2.frozen (p := ⟨w0.heap.size, 1, none⟩) hw).trans a8, Nat.le_trans a9 n2.size, Below.trans a10 (Below.mono n2 (Nat.le_of_lt hw))⟩
/-- a span goes to the row behind -/
theorem ins_after {B : Nat} {w0 wr w1 : World} {X : List S} {s t : S} {k : Nat} {u5 u6 u6' : Value} {o : Obj} (h : InsInv B w0 X s k u5 u6 wr) (hw : w0.heap.size < B)
    (hst : insF (X.take (k + 1)) s = ((insF (X.take k) s).1, (insF (X.take k) s).2.1 ++ [t], (insF (X.take k) s).2.2))
    (hown : w1.ownsRow B 23 2 u6' ((insF (X.take k) s).2.1.length + 1) (cellsL (insF (X.take k) s).2.1 ++ [.int .i64 t.1, .int .i64 t.2])) (hg : (wr.alloc o).grownBy w1 u6.ownBlock)
    (h5 : u6'.ownBlock = u6.ownBlock ∨ u6'.ownBlock = some (wr.heap.size + 1)) : InsInv B w0 X s (k + 1) u5 u6' w1 := by
  obtain ⟨a1, a2, a3, a4, a5, a6, a7, a8, a9, a10⟩ := h
  obtain ⟨n1, n2⟩ := own_next a2 (Below.refl B wr) a9 hown hg
  unfold InsInv
  rw [hst]
  exact ⟨a1.keep hg a3.symm a2.lt', n1, (a3.symm.next a1.lt' h5).symm, fun e => by simp at e, (n2.cell (p := ⟨w0.heap.size, 0, none⟩) hw).trans a5, (n2.cell (p := ⟨w0.heap.size, 1, none⟩) hw).trans a6,
    (n2.frozen (p := ⟨w0.heap.size, 0, none⟩) hw).trans a7, (n2.frozen (p := ⟨w0.heap.size, 1, none⟩) hw).trans a8, Nat.le_trans a9 n2.size, Below.trans a10 (Below.mono n2 (Nat.le_of_lt hw))⟩
/-- a span is taken in -/
theorem ins_take {B : Nat} {w0 wr : World} {X : List S} {s : S} {k : Nat} {u5 u6 : Value} {x y : Int} (h : InsInv B w0 X s k u5 u6 wr) (hw : w0.heap.size < B)
    (hst : insF (X.take (k + 1)) s = ((insF (X.take k) s).1, (insF (X.take k) s).2.1, (x, y))) :
    InsInv B w0 X s (k + 1) u5 u6 ((wr.setCell ⟨w0.heap.size, 0, none⟩ (.int .i64 x)).setCell ⟨w0.heap.size, 1, none⟩ (.int .i64 y)) := by
  obtain ⟨a1, a2, a3, a4, a5, a6, a7, a8, a9, a10⟩ := h
  unfold InsInv
  rw [hst]
  have c1 : ∀ (W : World) (u : Value), W.cell? ⟨w0.heap.size, 0, none⟩ = some u → (W.setCell ⟨w0.heap.size, 1, none⟩ (.int .i64 y)).cell? ⟨w0.heap.size, 0, none⟩ = some u := fun W u hu =>
    (World.cell?_setCell_other W ⟨w0.heap.size, 1, none⟩ ⟨w0.heap.size, 0, none⟩ (.int .i64 y) (by intro g; injection g with g1 g2; cases g2)).trans hu
  have c2 : (wr.setCell ⟨w0.heap.size, 0, none⟩ (.int .i64 x)).cell? ⟨w0.heap.size, 1, none⟩ = some (.int .i64 (insF (X.take k) s).2.2.2) :=
    (World.cell?_setCell_other wr ⟨w0.heap.size, 0, none⟩ ⟨w0.heap.size, 1, none⟩ (.int .i64 x) (by intro g; injection g with g1 g2; cases g2)).trans a6
  refine ⟨ownsRow_setCell_below (ownsRow_setCell_below a1 hw _) hw _, ownsRow_setCell_below (ownsRow_setCell_below a2 hw _) hw _, a3, a4, c1 _ _ (World.cell?_setCell_same _ _ _ a5), World.cell?_setCell_same _ _ _ c2, ?_, ?_, ?_, ?_⟩
  · rw [World.frozen?_setCell, World.frozen?_setCell]; exact a7
  · rw [World.frozen?_setCell, World.frozen?_setCell]; exact a8
  · simpa using a9
  · exact (a10.setA (Nat.le_refl _) _).setA (Nat.le_refl _) _

set_option maxRecDepth 100000 in
set_option maxHeartbeats 3200000 in
theorem insert_c (v : Value) (X : List S) (s : S) (w : World) (hr : Rd w v X) (hX : X.length ≤ 1000000) : Calls Try.prog 41 #[v, sv s] w (SetPost (insL X s) w) := by
  obtain ⟨i0, hi, hz0, hz1, hz2⟩ := info_parts infoS
  have HR := Lib.hid hr
  obtain ⟨n, hn⟩ : ∃ n, X.length = n := ⟨_, rfl⟩
  obtain ⟨A, c, rfl, hc, h3⟩ := hr
  rw [hn]
  have HC := Lib.hid hc
  have HN := Lib.hid hn
  have hn6 : n ≤ 1000000 := by omega
  have HXL := Lib.hid (fun k => Nat.le_trans (insF_len (X := X.take k) (s := s)) (by rw [List.length_take]; omega : (X.take k).length ≤ 1000000))
  obtain ⟨W0, hW0⟩ : ∃ W0, w.alloc (.cells #[.int .i64 s.1, .int .i64 s.2] 23) = W0 := ⟨_, rfl⟩
  have hb0 : W0.cell? ⟨w.heap.size, 0, none⟩ = some (.int .i64 s.1) := by rw [← hW0]; exact World.cell?_alloc_at _ _ _ _ rfl
  have hb1 : W0.cell? ⟨w.heap.size, 1, none⟩ = some (.int .i64 s.2) := by rw [← hW0]; exact World.cell?_alloc_at _ _ _ _ rfl
  have hf0 : W0.frozen? ⟨w.heap.size, 0, none⟩ = false := by rw [← hW0]; exact World.frozen?_alloc_at _ _ _ _ rfl
  have hf1 : W0.frozen? ⟨w.heap.size, 1, none⟩ = false := by rw [← hW0]; exact World.frozen?_alloc_at _ _ _ _ rfl
  have hsz : W0.heap.size = w.heap.size + 1 := by rw [← hW0]; simp
  have HSZ := Lib.hid hsz
  have HI0 := Lib.hid (show InsInv W0.heap.size w X s 0 (.slice none 0 0) (.slice none 0 0) W0 from
    ⟨own_nil _ _, own_nil _ _, .inl rfl, fun _ => rfl, hb0, hb1, hf0, hf1, Nat.le_refl _, by rw [← hW0]; exact (Q.refl w).alloc _⟩)
  have HW0 := Lib.hid hW0
  clear hc hn hX hb0 hb1 hf0 hf1 hsz hW0 h3
  unfold sv
  go_enter Try.func41, Try.ntmps41
  go_wp2_with fail
  rw [HW0.out]
  go_loopw [5, 6, 7] (fun u5 u6 u7 wr => ∃ k : Nat, k ≤ n ∧ u7 = .int .i64 k ∧ Hid (InsInv W0.heap.size w X s k u5 u6 wr)) (fun _ _ u7 _ => n - (intOf u7).toNat)
  case atStart => exact ⟨0, Nat.zero_le _, rfl, HI0.out⟩
  case round =>
    obtain ⟨k, hk, rfl, HI⟩ := hrel
    by_cases hlt : k < n
    · have hkX : k < X.length := by rw [HN.out]; exact hlt
      obtain ⟨b, off, c', hv', hc', hb', hx0, hx1⟩ := HR.out.cons (i := k) hkX
      have hXk : X[k]? = some X[k] := List.getElem?_eq_getElem hkX
      obtain ⟨t, ht⟩ : ∃ t, X[k] = t := ⟨_, rfl⟩
      rw [ht] at hx0 hx1 hXk
      obtain ⟨e1, e2, e3⟩ : A = some ⟨b, off, none⟩ ∧ X.length = X.length ∧ c = c' := by injection hv' with e1 e2 e3; exact ⟨e1, e2, e3⟩
      subst e1 e3
      obtain ⟨o5, o6, hap, hnl, hc0, hc1, hg0, hg1, hB, hq⟩ := HI.out
      have HST := Lib.hid (insF_take (s := s) hXk)
      obtain ⟨r, hrr⟩ : ∃ r, (insF (X.take k) s).2.2 = r := ⟨_, rfl⟩
      rw [hrr] at hc0 hc1
      have hx0' : wr.cell? ⟨b, off + k * 2, none⟩ = some (.int .i64 t.1) := (hq.cell (p := ⟨b, off + k * 2, none⟩) hb').trans hx0
      have hx1' : wr.cell? ⟨b, off + k * 2 + 1, none⟩ = some (.int .i64 t.2) := (hq.cell (p := ⟨b, off + k * 2 + 1, none⟩) hb').trans hx1
      have HRR := Lib.hid hrr
      have hbw : w.heap.size < wr.heap.size := Nat.lt_of_lt_of_le (by have := HSZ.out; omega) hB
      clear hx0 hx1 o5 o6 hap hnl hB hq hc' hrr ht hXk hv' hkX
      by_cases h1 : t.2 < r.1
      · go_wp2_with fail
        go_quiet (fail)
        obtain ⟨W1, hW1⟩ : ∃ W1, wr.drewN nq = W1 := ⟨_, rfl⟩
        have hy0 : W1.cell? ⟨b, off + k * 2, none⟩ = some (.int .i64 t.1) := by rw [← hW1]; exact hx0'
        have hy1 : W1.cell? ⟨b, off + k * 2 + 1, none⟩ = some (.int .i64 t.2) := by rw [← hW1]; exact hx1'
        have hd0 : W1.cell? ⟨w.heap.size, 0, none⟩ = some (.int .i64 r.1) := by rw [← hW1]; exact hc0
        have hd1 : W1.cell? ⟨w.heap.size, 1, none⟩ = some (.int .i64 r.2) := by rw [← hW1]; exact hc1
        have hg10 : W1.frozen? ⟨w.heap.size, 0, none⟩ = false := by rw [← hW1]; exact hg0
        have hg11 : W1.frozen? ⟨w.heap.size, 1, none⟩ = false := by rw [← hW1]; exact hg1
        have HI1 := Lib.hid (show InsInv W0.heap.size w X s k u5 u6 W1 by rw [← hW1]; exact HI.out.drewN _)
        have hbW : b < W1.heap.size := by rw [← hW1]; exact Nat.lt_trans hb' hbw
        have hwW : w.heap.size < W1.heap.size := by rw [← hW1]; exact hbw
        rw [hW1]
        clear hW1 hx0' hx1' hc0 hc1 hg0 hg1
        have HB1 := Lib.hid HI1.out.2.2.2.2.2.2.2.2.1
        have hown1 : W1.ownsRow W0.heap.size 23 2 u5 (insF (X.take k) s).1.length (cellsL (insF (X.take k) s).1) := HI1.out.1
        obtain ⟨L, hL⟩ : ∃ L, (insF (X.take k) s).1 = L := ⟨_, rfl⟩
        have HLL := Lib.hid hL
        rw [hL] at hown1
        have RM := Lib.hid (room_of (n := L.length) (by have := HXL.out k; rw [← hL]; omega))
        clear hL
        go_wp2_with (first
                    | (at_builtin; refine wpList_append_own_at _ rfl _ _ 28 rfl W0.heap.size 23 i0 (.agg #[.int .i64 0, .int .i64 0]) 2 16 Try.underlying28 hi hz0 hz1 hz2 rfl (by decide) _ _ _ rfl (hown1.alloc _) ⟨W1.heap.size, 0, none⟩ 1 1 [.int .i64 t.1, .int .i64 t.2] rfl rfl (pair_at _ _ _ _) (pair_cell _ _) RM.out.1 RM.out.2 (alloc_le HB1.out _) ?_)
                    | go_in)
        intro v' w1 hown' hgrow _ hat
        have N := Lib.hid (ins_before HI1.out (by rw [HSZ.out]; omega) (t := t) (by rw [HST.out]; unfold stepI; rw [if_pos (by rw [HRR.out]; exact h1)]) (by rw [HLL.out]; exact hown') hgrow hat)
        clear hown' hgrow hat hown1
        go_wp2_with fail
        go_roundw
        case rel => exact ⟨k + 1, by omega, by go_num, N.out⟩
        case measure => simp [intOf] <;> omega
      · have h1' : decide (t.2 < r.1) = false := decide_eq_false h1
        by_cases h2 : r.2 < t.1
        · go_wp2_with fail
          go_quiet (fail)
          revert nq; intro n1
          go_wp2_with fail
          go_quiet (fail)
          obtain ⟨W1, hW1⟩ : ∃ W1, (wr.drewN n1).drewN nq = W1 := ⟨_, rfl⟩
          have hy0 : W1.cell? ⟨b, off + k * 2, none⟩ = some (.int .i64 t.1) := by rw [← hW1]; exact hx0'
          have hy1 : W1.cell? ⟨b, off + k * 2 + 1, none⟩ = some (.int .i64 t.2) := by rw [← hW1]; exact hx1'
          have hd0 : W1.cell? ⟨w.heap.size, 0, none⟩ = some (.int .i64 r.1) := by rw [← hW1]; exact hc0
          have hd1 : W1.cell? ⟨w.heap.size, 1, none⟩ = some (.int .i64 r.2) := by rw [← hW1]; exact hc1
          have hg10 : W1.frozen? ⟨w.heap.size, 0, none⟩ = false := by rw [← hW1]; exact hg0
          have hg11 : W1.frozen? ⟨w.heap.size, 1, none⟩ = false := by rw [← hW1]; exact hg1
          have HI1 := Lib.hid (show InsInv W0.heap.size w X s k u5 u6 W1 by rw [← hW1]; exact (HI.out.drewN _).drewN _)
          have hbW : b < W1.heap.size := by rw [← hW1]; exact Nat.lt_trans hb' hbw
          have hwW : w.heap.size < W1.heap.size := by rw [← hW1]; exact hbw
          rw [hW1]
          clear hW1 hx0' hx1' hc0 hc1 hg0 hg1
          have HB1 := Lib.hid HI1.out.2.2.2.2.2.2.2.2.1
          have hown1 : W1.ownsRow W0.heap.size 23 2 u6 (insF (X.take k) s).2.1.length (cellsL (insF (X.take k) s).2.1) := HI1.out.2.1
          obtain ⟨L, hL⟩ : ∃ L, (insF (X.take k) s).2.1 = L := ⟨_, rfl⟩
          have HLL := Lib.hid hL
          rw [hL] at hown1
          have RM := Lib.hid (room_of (n := L.length) (by have := HXL.out k; rw [← hL]; omega))
          clear hL
          go_wp2_with (first
                      | (at_builtin; refine wpList_append_own_at _ rfl _ _ 28 rfl W0.heap.size 23 i0 (.agg #[.int .i64 0, .int .i64 0]) 2 16 Try.underlying28 hi hz0 hz1 hz2 rfl (by decide) _ _ _ rfl (hown1.alloc _) ⟨W1.heap.size, 0, none⟩ 1 1 [.int .i64 t.1, .int .i64 t.2] rfl rfl (pair_at _ _ _ _) (pair_cell _ _) RM.out.1 RM.out.2 (alloc_le HB1.out _) ?_)
                      | go_in)
          intro v' w1 hown' hgrow _ hat
          have N := Lib.hid (ins_after HI1.out (by rw [HSZ.out]; omega) (t := t) (by rw [HST.out]; unfold stepI; rw [if_neg (by rw [HRR.out]; omega), if_pos (by rw [HRR.out]; omega)]) (by rw [HLL.out]; exact hown') hgrow hat)
          clear hown' hgrow hat hown1
          go_wp2_with fail
          go_roundw
          case rel => exact ⟨k + 1, by omega, by go_num, N.out⟩
          case measure => simp [intOf] <;> omega
        · have h2' : decide (r.2 < t.1) = false := decide_eq_false h2
          go_wp2_with fail
          go_quiet (fail)
          revert nq; intro n1
          go_wp2_with fail
          go_quiet (fail)
          obtain ⟨W1, hW1⟩ : ∃ W1, (wr.drewN n1).drewN nq = W1 := ⟨_, rfl⟩
          have hy0 : W1.cell? ⟨b, off + k * 2, none⟩ = some (.int .i64 t.1) := by rw [← hW1]; exact hx0'
          have hy1 : W1.cell? ⟨b, off + k * 2 + 1, none⟩ = some (.int .i64 t.2) := by rw [← hW1]; exact hx1'
          have hd0 : W1.cell? ⟨w.heap.size, 0, none⟩ = some (.int .i64 r.1) := by rw [← hW1]; exact hc0
          have hd1 : W1.cell? ⟨w.heap.size, 1, none⟩ = some (.int .i64 r.2) := by rw [← hW1]; exact hc1
          have hg10 : W1.frozen? ⟨w.heap.size, 0, none⟩ = false := by rw [← hW1]; exact hg0
          have hg11 : W1.frozen? ⟨w.heap.size, 1, none⟩ = false := by rw [← hW1]; exact hg1
          have HI1 := Lib.hid (show InsInv W0.heap.size w X s k u5 u6 W1 by rw [← hW1]; exact (HI.out.drewN _).drewN _)
          have hbW : b < W1.heap.size := by rw [← hW1]; exact Nat.lt_trans hb' hbw
          have hwW : w.heap.size < W1.heap.size := by rw [← hW1]; exact hbw
          rw [hW1]
          clear hW1 hx0' hx1' hc0 hc1 hg0 hg1
          obtain ⟨x, hx⟩ : ∃ x, min r.1 t.1 = x := ⟨_, rfl⟩
          obtain ⟨y, hy⟩ : ∃ y, max r.2 t.2 = y := ⟨_, rfl⟩
          have N := Lib.hid (ins_take HI1.out (by rw [HSZ.out]; omega) (x := x) (y := y) (by rw [HST.out]; unfold stepI; rw [if_neg (by rw [HRR.out]; omega), if_neg (by rw [HRR.out]; omega), HRR.out, hx, hy]))
          go_wp2_with fail
          go_region
          clear hy0 hy1 hd0 hd1 hg10 hg11
          go_wp2_with fail
          go_roundw
          case rel => exact ⟨k + 1, by omega, by go_num, N.out.drew⟩
          case measure => simp [intOf] <;> omega
    · obtain rfl : k = n := by omega
      have hXk : X.take k = X := List.take_of_length_le (by rw [HN.out]; exact Nat.le_refl _)
      have hI := HI.out
      unfold InsInv at hI
      rw [hXk] at hI
      obtain ⟨o5, o6, hap, hnl, hc0, hc1, hg0, hg1, hB, hq⟩ := hI
      have HLE := Lib.hid (show (insF X s).1.length + (insF X s).2.1.length ≤ 1000000 by have := HXL.out k; rw [hXk] at this; exact this)
      have HL := Lib.hid (show insL X s = (insF X s).1 ++ [(insF X s).2.2] ++ (insF X s).2.1 from rfl)
      generalize insF X s = z at o5 o6 hap hnl hc0 hc1 HLE HL
      obtain ⟨L1, L2, r⟩ := z
      dsimp only at o5 o6 hap hnl hc0 hc1
      have hown1 : wr.ownsRow W0.heap.size 23 2 u5 L1.length (cellsL L1) := o5
      have HO5 := Lib.hid o5
      have HO6 := Lib.hid o6
      have HAP := Lib.hid hap
      have HB1 := Lib.hid hB
      have HQ := Lib.hid hq
      have hbw : w.heap.size < wr.heap.size := Nat.lt_of_lt_of_le (by have := HSZ.out; omega) hB
      have RM := Lib.hid (room_of (n := L1.length) (by have := HLE.out; dsimp only at this; omega))
      clear hXk o5 o6 hap hB hq hg0 hg1
      by_cases h2 : L2 = []
      · subst h2
        obtain rfl := hnl rfl
        clear hnl
        go_wp2_with (first
        | (at_builtin; refine wpList_append_own_at _ rfl (.tmp 63) (.tmp 65) 28 rfl W0.heap.size 23 i0 (.agg #[.int .i64 0, .int .i64 0]) 2 16 Try.underlying28 hi hz0 hz1 hz2 rfl (by decide) _ _ _ rfl (hown1.alloc _) ⟨wr.heap.size, 0, none⟩ 1 1 [.int .i64 r.1, .int .i64 r.2] rfl rfl (pair_at _ _ _ _) (pair_cell _ _) RM.out.1 RM.out.2 (alloc_le HB1.out _) ?_)
        | go_in)
        intro v' w1 hown' hgrow _ hat
        have N := Lib.hid (own_next HO5.out (Below.refl W0.heap.size wr) HB1.out hown' hgrow)
        have hown2 : w1.ownsRow W0.heap.size 23 2 v' (L1.length + 1) (cellsL L1 ++ [.int .i64 r.1, .int .i64 r.2]) := hown'
        clear hown' hgrow hat hown1
        go_wp2_with (first
          | (at_builtin; refine wpList_append_own_none rfl (.tmp 66) (.tmp 67) 28 rfl W0.heap.size 23 i0 2 Try.underlying28 hi _ _ _ rfl hown2 rfl ?_)
          | go_in)
        go_wp2_with fail
        go_ret
        refine ⟨v', rfl, ?_, ?_⟩
        · rw [HL.out, List.append_nil]; exact N.out.1.mono (by rw [HSZ.out]; omega)
        · exact Below.trans HQ.out (Below.mono N.out.2 (by rw [HSZ.out]; omega))
      · have h2l : 0 < L2.length := List.length_pos_iff.2 h2
        obtain ⟨g', cap', rfl, hcp, hgB, hgw⟩ := HO6.out.form h2l
        clear hnl h2
        go_wp2_with (first
        | (at_builtin; refine wpList_append_own_at _ rfl (.tmp 63) (.tmp 65) 28 rfl W0.heap.size 23 i0 (.agg #[.int .i64 0, .int .i64 0]) 2 16 Try.underlying28 hi hz0 hz1 hz2 rfl (by decide) _ _ _ rfl (hown1.alloc _) ⟨wr.heap.size, 0, none⟩ 1 1 [.int .i64 r.1, .int .i64 r.2] rfl rfl (pair_at _ _ _ _) (pair_cell _ _) RM.out.1 RM.out.2 (alloc_le HB1.out _) ?_)
        | go_in)
        intro v' w1 hown' hgrow _ hat
        have N := Lib.hid (own_next HO5.out (Below.refl W0.heap.size wr) HB1.out hown' hgrow)
        have hown2 : w1.ownsRow W0.heap.size 23 2 v' (L1.length + 1) (cellsL L1 ++ [.int .i64 r.1, .int .i64 r.2]) := hown'
        have h6 := HO6.out.keep hgrow HAP.out HO5.out.lt'
        have HC6 := Lib.hid (show ∀ j u, (cellsL L2)[j]? = some u → w1.cell? ((⟨g', 0, none⟩ : Addr).add j) = some u from fun j u hj => h6.cells (g := g') rfl j u hj)
        have RM2 := Lib.hid (show L1.length + 1 + L2.length ≤ maxLen ∧ (L1.length + 1 + L2.length) * 16 ≤ 140737488355328 by have := HLE.out; unfold maxLen; omega)
        have HB2 := Lib.hid (Nat.le_trans HB1.out N.out.2.size)
        clear hown' hgrow hat hown1 h6
        go_wp2_with (first
          | (at_builtin; refine wpList_append_own _ rfl (.tmp 66) (.tmp 67) 28 rfl W0.heap.size 23 i0 (.agg #[.int .i64 0, .int .i64 0]) 2 16 Try.underlying28 hi hz0 hz1 hz2 rfl (by decide) _ _ _ rfl hown2 ⟨g', 0, none⟩ L2.length cap' (cellsL L2) rfl (cellsL_len L2) HC6.out (cellsL_one L2) RM2.out.1 RM2.out.2 HB2.out ?_)
          | go_in)
        intro v2 w2 hown3 hgrow2 _
        have N2 := Lib.hid (show Own W0.heap.size v2 (L1 ++ [r] ++ L2) w2 ∧ Below W0.heap.size w1 w2 from
          ⟨by unfold Own; rw [List.length_append, List.length_append, List.length_singleton, cellsL_app, cellsL_app, List.append_assoc]; exact hown3, (Below.refl _ _).grown hgrow2 HB2.out (fun j hj => (N.out.1.lt j hj).1)⟩)
        clear hown3 hgrow2 hown2
        go_wp2_with fail
        go_ret
        refine ⟨v2, rfl, ?_, ?_⟩
        · rw [HL.out]; exact N2.out.1.mono (by rw [HSZ.out]; omega)
        · exact Below.trans HQ.out (Below.mono (Below.trans N.out.2 N2.out.2) (by rw [HSZ.out]; omega))
end Go.Proofs.Ytnbpkbdkhegheaa
