/- The contracts of the functions of one to three points, and of numbers. -/
import Derived.Test.YtlcgbeocdimboaaDoorPMem
set_option linter.unusedVariables false
set_option linter.unusedSimpArgs false
namespace Go.Proofs.YtlcgbeocdimboaaDoor
open Go.ChangeShapes Go.WideShapes Go.ChangeAt Go.RowKit Pm

theorem inR_lo {n : Int} (h : n < -600) : inR n = false := by unfold inR; simp; omega
theorem inR_hi {n : Int} (h : 600 < n) : inR n = false := by unfold inR; simp; omega
/-- the three boxes of a call of three points -/
theorem q3 (w : World) (a b c : Obj) : Q w (((w.alloc a).alloc b).alloc c) := (((Q.refl _).alloc _).alloc _).alloc _
end Go.Proofs.YtlcgbeocdimboaaDoor
