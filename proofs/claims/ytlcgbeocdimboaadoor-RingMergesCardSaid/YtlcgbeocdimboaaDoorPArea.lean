/- The contracts of areInRange and of Area2: a sum over the edges. -/
import Derived.Test.YtlcgbeocdimboaaDoorPEdge
set_option linter.unusedVariables false
set_option linter.unusedSimpArgs false
namespace Go.Proofs.YtlcgbeocdimboaaDoor
open Go.ChangeShapes Go.WideShapes Go.ChangeAt Go.RowKit Go.Shelf Pm

theorem rng_next {l : List P} {k : Nat} (h : ∀ i, i < k → inP (g l i) = true) (h1 : inP (g l k) = true) : ∀ i, i < k + 1 → inP (g l i) = true := fun i hi => by
  by_cases e : i = k
  · rw [e]; exact h1
  · exact h i (by omega)
/-- the box of a point -/
def BoxP (W : World) (B : Nat) (q : P) : Prop := W.heap[B]? = some (.cells #[.int .i64 q.1, .int .i64 q.2] 38 (0, 0))
theorem BoxP.lt {W : World} {B : Nat} {q : P} (h : BoxP W B q) : B < W.heap.size := (Array.getElem?_eq_some_iff.1 h).1
theorem BoxP.c0 {W : World} {B : Nat} {q : P} (h : BoxP W B q) : W.cell? ⟨B, 0, none⟩ = some (.int .i64 q.1) := by simp [World.cell?, show W.heap[B]? = _ from h]
theorem BoxP.c1 {W : World} {B : Nat} {q : P} (h : BoxP W B q) : W.cell? ⟨B, 1, none⟩ = some (.int .i64 q.2) := by simp [World.cell?, show W.heap[B]? = _ from h]
theorem BoxP.f0 {W : World} {B : Nat} {q : P} (h : BoxP W B q) : W.frozen? ⟨B, 0, none⟩ = false := by simp [World.frozen?, show W.heap[B]? = _ from h]
theorem BoxP.f1 {W : World} {B : Nat} {q : P} (h : BoxP W B q) : W.frozen? ⟨B, 1, none⟩ = false := by simp [World.frozen?, show W.heap[B]? = _ from h]
theorem BoxP.new (W : World) (q : P) : BoxP (W.alloc (.cells #[.int .i64 q.1, .int .i64 q.2] 38)) W.heap.size q := World.alloc_heap_new W _
theorem BoxP.kept {W W' : World} {row : Option Nat} {B : Nat} {q : P} (h : BoxP W B q) (hg : W.grownBy W' row) (hne : some B ≠ row) : BoxP W' B q := (hg.block B h.lt hne).trans h
theorem BoxP.alloc {W : World} {B : Nat} {q : P} (h : BoxP W B q) (o : Obj) : BoxP (W.alloc o) B q := h.kept (World.grownBy_alloc W o none) (by simp)
theorem BoxP.q {W W' : World} {B : Nat} {q : P} (h : BoxP W B q) (hq : Q W W') : BoxP W' B q := (hq.block B h.lt).trans h
end Go.Proofs.YtlcgbeocdimboaaDoor
