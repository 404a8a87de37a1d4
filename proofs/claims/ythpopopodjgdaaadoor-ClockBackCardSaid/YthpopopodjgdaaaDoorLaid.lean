/- What a row's list of package-level variables gives the walks (Laid), and a start for the witnesses: the heap that the door's own run leaves. -/
import Derived.Test.YthpopopodjgdaaaDoorAwake
import Derived.Test.YthpopopodjgdaaaDoorCards
import Derived.Test.YthpopopodjgdaaaDoorTie
import Derived.OpenShut
import Derived.ShutString
import Derived.Deep.DeepHandedRow
import Derived.Deep.DeepWitnessRowRef
import Derived.Lib.LaidTab
import Derived.LaidMore
import Derived.LaidHandle
import Derived.MakeChecks
import Derived.Stop.LaidErr
set_option linter.unusedVariables false
set_option linter.unusedSimpArgs false
namespace Go.Proofs.YthpopopodjgdaaaDoor
open Go.ChangeShapes Go.WideShapes Go.ChangeAt Go.RowKit Km

theorem own : ownKnob Tryd.prog.godebug = none := by kernel_rfl
/-- the list of every row of this seat -/
def five : List (String × DataW Unit) := Rows.clockNewRow.laid
theorem gT : Tryd.prog.globalNamed "internal/strconv.uint64pow10" = some 1 := by kernel_rfl
theorem gTty : (Tryd.prog.globals[1]?).map (·.type) = some 86 := by kernel_rfl
theorem cT : Tryd.prog.cellsOf 86 = 20 := by kernel_rfl
theorem cU : Tryd.prog.cellsOf 69 = 1 := by kernel_rfl
/-- the library's table of powers of ten -/
def Laid (W : World) : Prop := Lib.TabIs Tryd.prog W "internal/strconv.uint64pow10" .u64 Lib.pow10Tab
theorem five_laid {W : World} (h : laidMetH Tryd.prog five W) : Laid W := by
  have h0 : laidMet Tryd.prog five W := (MakeChecks.laidMetH_plain _ _ _ (by kernel_rfl)).mp h
  exact Lib.tabIs_of_head gT gTty Tryd.underlying86 Tryd.underlying69 cU cT h0.tail.tail
theorem i64min : IntKind.min .i64 = -9223372036854775808 := by decide
theorem i64max : IntKind.max .i64 = 9223372036854775807 := by decide
theorem fit_of {n : Int} (h : (Lit.int .i64 n).wf = true) : Fit n := fit_i64 h
noncomputable def start (os : Os) : World := World.doorLaid Tryd.prog 65 os
theorem door_met (os : Os) (args : Array Value) : laidMetH Tryd.prog five ((start os).forCall (fun _ _ => 0) ⟨#[], args, []⟩).memory :=
  (MakeChecks.laidMetH_plain _ _ _ (by kernel_rfl)).mpr (laidMet_of_run' 8 (by kernel_rfl) (by kernel_rfl))
end Go.Proofs.YthpopopodjgdaaaDoor
