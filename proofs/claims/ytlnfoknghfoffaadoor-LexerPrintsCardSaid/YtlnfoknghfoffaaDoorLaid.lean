/- What a row's list of package-level variables gives the walks (Laid), and a start for the witnesses: the heap that the door's own run leaves. -/
import Derived.Test.YtlnfoknghfoffaaDoorAwake
import Derived.Test.YtlnfoknghfoffaaDoorCards
import Derived.Test.YtlnfoknghfoffaaDoorTie
import Derived.OpenShut
import Derived.ShutString
import Derived.Deep.DeepHandedRow
import Derived.Deep.DeepWitnessRowRef
import Derived.Lib.LaidTab
import Derived.LaidMore
import Derived.LaidHandle
import Derived.MakeChecks
import Derived.Stop.LaidErr
set_option linter.unusedVariables false
set_option linter.unusedSimpArgs false
namespace Go.Proofs.YtlnfoknghfoffaaDoor
open Go.ChangeShapes Go.WideShapes Go.ChangeAt Go.RowKit Lm

theorem own : ownKnob Tryd.prog.godebug = none := by kernel_rfl
/-- the list of every row of this seat -/
def five : List (String × DataW Unit) := Rows.lexerMarksRow.laid
theorem gT : Tryd.prog.globalNamed "internal/strconv.uint64pow10" = some 3 := by kernel_rfl
theorem gTty : (Tryd.prog.globals[3]?).map (·.type) = some 88 := by kernel_rfl
theorem cT : Tryd.prog.cellsOf 88 = 20 := by kernel_rfl
theorem cU : Tryd.prog.cellsOf 68 = 1 := by kernel_rfl
theorem gE : Tryd.prog.globalNamed "strconv.ErrRange" = some 2 := by kernel_rfl
theorem gEty : (Tryd.prog.globals[2]?).map (·.type) = some 53 := by kernel_rfl
theorem cES : Tryd.prog.cellsOf 79 = 1 := by kernel_rfl
theorem cS1 : Tryd.prog.cellsOf 9 = 1 := by kernel_rfl
theorem star : "*" ++ "errors.errorString" = "*errors.errorString" := by decide
theorem rowEs (u : TypeId) (h : Tryd.prog.typeName? 3 u = some "*errors.errorString") : u = 77 :=
  typeName_ptr_named (nm := "errors.errorString") (by rw [star]; kernel_rfl) (by kernel_rfl) (by decide) u (by rw [star]; exact h)
theorem five_laid {W : World} (h : laidMetH Tryd.prog five W) : Laid W := by
  have h0 : laidMet Tryd.prog five W := (MakeChecks.laidMetH_plain _ _ _ (by kernel_rfl)).mp h
  have h2 := h0.tail.tail
  obtain ⟨a, s, hv, -, -, -⟩ := laid_sentinel h2.tail gE gEty Tryd.underlying53 rowEs Tryd.underlying77 Tryd.underlying79 rfl rfl Tryd.underlying9 cES cS1
  exact ⟨_, _, hv⟩
theorem i64min : IntKind.min .i64 = -9223372036854775808 := by decide
theorem i64max : IntKind.max .i64 = 9223372036854775807 := by decide
theorem fit_of {n : Int} (h : (Lit.int .i64 n).wf = true) : Fit n := by
  have h2 : (decide (IntKind.min .i64 ≤ n) && decide (n ≤ IntKind.max .i64)) = true := h
  rw [Bool.and_eq_true, decide_eq_true_eq, decide_eq_true_eq, i64min, i64max] at h2
  exact h2
noncomputable def start (os : Os) : World := World.doorLaid Tryd.prog 62 os
theorem door_met (os : Os) (args : Array Value) : laidMetH Tryd.prog five ((start os).forCall (fun _ _ => 0) ⟨#[], args, []⟩).memory :=
  (MakeChecks.laidMetH_plain _ _ _ (by kernel_rfl)).mpr (laidMet_of_run' 8 (by kernel_rfl) (by kernel_rfl))
end Go.Proofs.YtlnfoknghfoffaaDoor
