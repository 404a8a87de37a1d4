/- The contract of Chord's function literal: the part of the hull at a height. -/
import Derived.Test.YtlcgbeocdimboaaDoorPArea
import Derived.Test.YtlcgbeocdimboaaDoorPArea
set_option linter.unusedVariables false
set_option linter.unusedSimpArgs false
namespace Go.Proofs.YtlcgbeocdimboaaDoor
open Go.ChangeShapes Go.WideShapes Go.ChangeAt Go.RowKit Go.Shelf Pm

theorem set_blk {W : World} {B i : Nat} {cs : Array Value} {t : TypeId} (v : Value) (h : W.heap[B]? = some (.cells cs t (0, 0))) : (W.setCell ⟨B, i, none⟩ v).heap[B]? = some (.cells (cs.setIfInBounds i v) t (0, 0)) := by
  obtain ⟨hlt, hk⟩ := Array.getElem?_eq_some_iff.1 h
  show (W.heap.modify B _)[B]? = _
  rw [Array.getElem?_eq_getElem (by rw [Array.size_modify]; exact hlt), Array.getElem_modify_self, hk]
  rfl
theorem BoxP.set0 {W : World} {B : Nat} {q : P} (h : BoxP W B q) (x : Int) : BoxP (W.setCell ⟨B, 0, none⟩ (.int .i64 x)) B (x, q.2) := set_blk _ h
theorem BoxP.set1 {W : World} {B : Nat} {q : P} (h : BoxP W B q) (x : Int) : BoxP (W.setCell ⟨B, 1, none⟩ (.int .i64 x)) B (q.1, x) := set_blk _ h
theorem far_blk {W : World} {B B' i : Nat} {o : Obj} (v : Value) (h : W.heap[B]? = some o) (hne : B ≠ B') : (W.setCell ⟨B', i, none⟩ v).heap[B]? = some o := (Below.heap_setCell _ _ _ _ hne).trans h
end Go.Proofs.YtlcgbeocdimboaaDoor
