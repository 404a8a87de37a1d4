/- A row that may be written in place: its cells; slices.Reverse, Turn and Mirror. -/
import Derived.Test.YtlcgbeocdimboaaDoorPSort
set_option linter.unusedVariables false
set_option linter.unusedSimpArgs false
namespace Go.Proofs.YtlcgbeocdimboaaDoor
open Go.ChangeShapes Go.WideShapes Go.ChangeAt Go.RowKit Go.Shelf Pm

theorem WrC.set {w : World} {b : Nat} {C : List Value} (h : WrC w b C) (i : Nat) (v : Value) : WrC (w.setCell ⟨b, i, none⟩ v) b (C.set i v) := by
  refine ⟨by show b < (w.heap.modify _ _).size; rw [Array.size_modify]; exact h.1, fun j u hj => ?_⟩
  by_cases e : i = j
  · subst e
    rw [List.getElem?_set] at hj
    by_cases hl : i < C.length
    · rw [if_pos rfl, if_pos hl] at hj
      injection hj with hj
      subst hj
      obtain ⟨h1, h2⟩ := h.2 i C[i] (List.getElem?_eq_getElem hl)
      exact ⟨World.cell?_setCell_same' _ _ _ (by rw [h1]; rfl), by rw [World.frozen?_setCell]; exact h2⟩
    · rw [if_pos rfl, if_neg hl] at hj; cases hj
  · rw [List.getElem?_set, if_neg e] at hj
    obtain ⟨h1, h2⟩ := h.2 j u hj
    refine ⟨?_, by rw [World.frozen?_setCell]; exact h2⟩
    rw [World.cell?_setCell_other]
    · exact h1
    · intro k; injection k with _ k; exact e k
theorem grown_set (w : World) (b i : Nat) (v : Value) : w.grownBy (w.setCell ⟨b, i, none⟩ v) (some b) :=
  ⟨rfl, rfl, rfl, by show w.heap.size ≤ (w.heap.modify _ _).size; rw [Array.size_modify]; exact Nat.le_refl _, fun k _ hk => Below.heap_setCell _ _ _ k (fun e => hk (by rw [e]))⟩
theorem grown_trans {w w1 w2 : World} {r : Option Nat} (h : w.grownBy w1 r) (k : w1.grownBy w2 r) : w.grownBy w2 r :=
  ⟨k.os.trans h.os, k.tape.trans h.tape, k.output.trans h.output, Nat.le_trans h.size k.size, fun j hj hn => (k.block j (Nat.lt_of_lt_of_le hj h.size) hn).trans (h.block j hj hn)⟩
theorem grown_drew {w w1 : World} {r : Option Nat} (h : w.grownBy w1 r) : w.grownBy w1.drew r := ⟨h.os, h.tape, h.output, h.size, h.block⟩
theorem cellsL_set : ∀ (l : List P) (i : Nat) (p : P), i < l.length → cellsL (l.set i p) = ((cellsL l).set (i * 2) (.int .i64 p.1)).set (i * 2 + 1) (.int .i64 p.2)
  | [], i, p, h => by simp at h
  | t :: l, 0, p, _ => rfl
  | t :: l, i + 1, p, h => by
    have ih := cellsL_set l i p (by simpa using h)
    show pc t ++ cellsL (l.set i p) = _
    rw [ih]
    show _ = ((pc t ++ cellsL l).set ((i + 1) * 2) _).set ((i + 1) * 2 + 1) _
    rw [List.set_append_right _ _ (by show 2 ≤ _; omega), List.set_append_right _ _ (by show 2 ≤ _; omega), show (i + 1) * 2 - (pc t).length = i * 2 by show (i + 1) * 2 - 2 = _; omega, show (i + 1) * 2 + 1 - (pc t).length = i * 2 + 1 by show (i + 1) * 2 + 1 - 2 = _; omega]
theorem Wr.set {w : World} {b : Nat} {l : List P} (h : Wr w b l) {i : Nat} (hi : i < l.length) (p : P) : Wr ((w.setCell ⟨b, i * 2, none⟩ (.int .i64 p.1)).setCell ⟨b, i * 2 + 1, none⟩ (.int .i64 p.2)) b (l.set i p) := by
  unfold Wr; rw [cellsL_set l i p hi]; exact (WrC.set h _ _).set _ _
theorem Wr.at {w : World} {b : Nat} {l : List P} (h : Wr w b l) {i : Nat} (hi : i < l.length) : (w.cell? ⟨b, i * 2, none⟩ = some (.int .i64 (g l i).1) ∧ w.cell? ⟨b, i * 2 + 1, none⟩ = some (.int .i64 (g l i).2)) ∧ w.frozen? ⟨b, i * 2, none⟩ = false ∧ w.frozen? ⟨b, i * 2 + 1, none⟩ = false := by
  obtain ⟨c1, c2⟩ := cellsL_at l i l[i] (List.getElem?_eq_getElem hi)
  have h1 := h.2 _ _ c1
  have h2 := h.2 _ _ c2
  rw [g_at hi]
  exact ⟨⟨h1.1, h2.1⟩, h1.2, h2.2⟩
theorem WrC.of {w w' : World} {b : Nat} {C : List Value} (h : WrC w b C) (hb : w'.heap[b]? = w.heap[b]?) : WrC w' b C := by
  refine ⟨?_, fun j u hj => ?_⟩
  · have h1 := h.1
    rcases Nat.lt_or_ge b w'.heap.size with k | k
    · exact k
    · rw [Array.getElem?_eq_none k, Array.getElem?_eq_getElem h1] at hb; cases hb
  · obtain ⟨h1, h2⟩ := h.2 j u hj
    exact ⟨(World.cell?_of_block (a := ⟨b, j, none⟩) hb).trans h1, (World.frozen?_of_block (a := ⟨b, j, none⟩) hb).trans h2⟩
theorem Wr.q {w w' : World} {b : Nat} {l : List P} (h : Wr w b l) (hq : Q w w') : Wr w' b l := WrC.of h (hq.block b h.1)
theorem Wr.rd {w : World} {b c n : Nat} {l : List P} (h : Wr w b l) (hn : l.length = n) (hc : n ≤ c) : RdP w (.slice (some ⟨b, 0, none⟩) n c) l := by
  subst hn
  refine ⟨_, c, rfl, hc, fun _ => ⟨b, 0, rfl, h.1, fun i s hs j u hu => ?_⟩⟩
  obtain ⟨c1, c2⟩ := cellsL_at l i s hs
  rw [Nat.zero_add]
  match j, hu with
  | 0, hu => have e : Value.int .i64 s.1 = u := Option.some.inj hu; rw [← e]; exact (h.2 _ _ c1).1
  | 1, hu => have e : Value.int .i64 s.2 = u := Option.some.inj hu; rw [← e]; exact (h.2 _ _ c2).1
theorem wr_own {B b cap n : Nat} {l : List P} {w : World} (h : Own B (.slice (some ⟨b, 0, none⟩) n cap) l w) (hn : n = l.length) (hb : b < w.heap.size) : Wr w b l := by
  subst hn
  refine ⟨hb, fun j u hj => ?_⟩
  have hjl : j < (cellsL l).length := by
    rcases Nat.lt_or_ge j (cellsL l).length with k | k
    · exact k
    · rw [List.getElem?_eq_none k] at hj; cases hj
  rw [cellsL_len] at hjl
  exact ⟨(h.cellAt j (by omega)).trans hj, h.frozenAt j⟩
/-- the list with the first k points turned by f -/
def up (f : P → P) (l : List P) (k : Nat) : List P := (l.take k).map f ++ l.drop k
theorem up_zero (f : P → P) (l : List P) : up f l 0 = l := by simp [up]
theorem up_all (f : P → P) (l : List P) : up f l l.length = l.map f := by simp [up]
theorem up_len (f : P → P) (l : List P) (k : Nat) : (up f l k).length = l.length := by simp [up]; omega
theorem up_set (f : P → P) (l : List P) {k : Nat} (h : k < l.length) : (up f l k).set k (f (g l k)) = up f l (k + 1) := by
  unfold up
  have e : ((l.take k).map f).length = k := by simp; omega
  rw [List.set_append_right _ _ (by omega), e, Nat.sub_self, List.drop_eq_getElem_cons h, List.set_cons_zero, List.take_succ_eq_append_getElem h, List.map_append, List.append_assoc, g_at h]
  rfl
theorem up_at (f : P → P) (l : List P) {k : Nat} (h : k < l.length) : g (up f l k) k = g l k := by
  unfold g up
  rw [List.getD_eq_getElem?_getD, List.getD_eq_getElem?_getD, List.getElem?_append_right (by simp; omega), List.getElem?_drop]
  simp [Nat.min_eq_left (Nat.le_of_lt h)]
end Go.Proofs.YtlcgbeocdimboaaDoor
