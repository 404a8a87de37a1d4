/- What a row's list of package-level variables gives the walks (Dir), and a start for the witnesses: the heap that the door's own run leaves. -/
import Derived.Test.YtlcgbeocdimboaaDoorCopied
import Derived.Test.YtlcgbeocdimboaaDoorCards
import Derived.Test.YtlcgbeocdimboaaDoorTie
import Derived.OpenShut
import Derived.ShutString
import Derived.Deep.DeepHandedRow
import Derived.Deep.DeepWitnessRowRef
import Derived.Lib.LaidTab
import Derived.LaidMore
import Derived.LaidHandle
import Derived.MakeChecks
import Derived.Stop.LaidErr
set_option linter.unusedVariables false
set_option linter.unusedSimpArgs false
namespace Go.Proofs.YtlcgbeocdimboaaDoor
open Go.ChangeShapes Go.WideShapes Go.ChangeAt Go.RowKit Pm

theorem own : ownKnob Tryd.prog.godebug = none := by kernel_rfl
/-- the list of every row of this seat -/
def five : List (String × DataW Unit) := Rows.ringChecksRow.laid
theorem gT : Tryd.prog.globalNamed "sawmill/ring.directions" = some 0 := by kernel_rfl
theorem gTty : (Tryd.prog.globals[0]?).map (·.type) = some 42 := by kernel_rfl
theorem cT : Tryd.prog.cellsOf 42 = 2 := by kernel_rfl
theorem cU : Tryd.prog.cellsOf 3 = 1 := by kernel_rfl
theorem five_laid {W : World} (h : laidMetH Tryd.prog five W) : Dir W := by
  have h0 : laidMet Tryd.prog five W := (MakeChecks.laidMetH_plain _ _ _ (by kernel_rfl)).mp h
  have ht : Lib.TabIs Tryd.prog W "sawmill/ring.directions" .i64 [-1, 1] := Lib.tabIs_of_head gT gTty Tryd.underlying42 Tryd.underlying3 cU cT h0
  have c0 := ht.cell gT 0 (by decide)
  have c1 := ht.cell gT 1 (by decide)
  refine ⟨c0, c1, ?_⟩
  rcases Nat.lt_or_ge 0 W.heap.size with k | k
  · exact k
  · exfalso
    have h8 : W.heap[0]? = none := Array.getElem?_eq_none k
    simp [World.cell?, h8] at c0
noncomputable def start (os : Os) : World := World.doorLaid Tryd.prog 8 os
theorem door_met (os : Os) (args : Array Value) : laidMetH Tryd.prog five ((start os).forCall (fun _ _ => 0) ⟨#[], args, []⟩).memory :=
  (MakeChecks.laidMetH_plain _ _ _ (by kernel_rfl)).mpr (laidMet_of_run' 8 (by kernel_rfl) (by kernel_rfl))
end Go.Proofs.YtlcgbeocdimboaaDoor
