/-
  NARROWER THAN 'FOR EVERY INPUT', by the rows' own cells (each row's printed sentence says how): RingChecks: laid · RingCleans: laid · RingRepairs: laid · RingMerges: laid · RingKeeps: laid · RingFills: laid · RingTwice: laid.
  DERIVED. THE GIVEN ROWS OF THIS SEAT. 7 by the template 'for every input the law returns true; each argument reads behind the call as it read before'; 0 by the template 'total and deterministic' (their statements: YtlcgbeocdimboaaDoorTotals.lean).
  GIVEN WITH THE SEED: the statements are not yours to turn. If you find one false, say at which input.
  Laid BY PROGRAM, IN A SANDBOX (cutbox-rows.mjs): the forced cells as the released guide's own fill.sh prints them over the translation ad3a40f1e88ae1ed… (all of the seat's roots in one cut). By AI agents, Wed Nov 11 2026. No macro, syntax, notation, axiom, sorry.
-/
import Derived.Test.YtlcgbeocdimboaaDoorChecked
import GoSem.Claim
import GoSem.ClaimJoined
import GoSem.ClaimMapViews
import Derived.JoinedTies
import Derived.KernelRfl
namespace Go.Proofs.YtlcgbeocdimboaaDoor
/- THE CELL 'sum', in the pinned program and in every row, IS THE sha256 OF THE DUMP (.gsa) THAT YtlcgbeocdimboaaDoorProg.lean LOADS. Nothing in Lean hashes anything: it is a label: what it is worth is what the hold of that sum in a sandbox is worth. -/
noncomputable def Tryd.pinned : Pinned := { name := "ytlcgbeocdimboaadoor", sum := "ad3a40f1e88ae1ede9e060716ddc023ae02b0ca892d48d98bd5219371de799e7", checked := Tryd.checked }
namespace Rows
def none {H : Type} : Left H := { results := [], args := [] }

/- WHAT THE LISTED PACKAGE-LEVEL VARIABLES READ AS WHEN THE CALL BEGINS. Each datum BY PROGRAM (the guide's laid-datum.mjs) off the statement by which the dump's own 'gosem.cut.vars' lays the variable. In a bare row this is a premise. The card (YtlcgbeocdimboaaDoorCards.lean) ties it to the program's text. -/
def laid_sawmill_ring_directions {H : Type} : DataW H := .agg [.lit (.int .i64 (-1)), .lit (.int .i64 1)]

/-- 'sawmilllaw12.RingChecks': WHATEVER THE INPUT: true; the input reads as it did. -/
def ringChecksSpec : ChangeSpec := { name := "ringChecks", fn := fun _ => fun
  | [d] => { results := [.lit (.bool true)], args := [d] }
  | _ => none }
def ringChecksRow : OpenClaim := { program := "ytlcgbeocdimboaadoor", sum := "ad3a40f1e88ae1ede9e060716ddc023ae02b0ca892d48d98bd5219371de799e7", func := "sawmill/sawmilllaw12.RingChecks", spec := "ringChecks", named := ["sawmill/ring.directions"], apart := false, laid := [("sawmill/ring.directions", laid_sawmill_ring_directions)] }
def RingChecksSaid : Prop := ringChecksRow.holds Tryd.pinned (OpenSpec.ofChange ringChecksSpec)

/-- ITS FALSE NEIGHBOUR: 'it returns false'. Refute it at one input. -/
def ringChecksWrong : ChangeSpec := { name := "ringChecks", fn := fun _ => fun
  | [d] => { results := [.lit (.bool false)], args := [d] }
  | _ => none }
def RingChecksWrongFalsely : Prop := ringChecksRow.holds Tryd.pinned (OpenSpec.ofChange ringChecksWrong)

/-- 'sawmilllaw12.RingCleans': WHATEVER THE INPUT: true; the input reads as it did. -/
def ringCleansSpec : ChangeSpec := { name := "ringCleans", fn := fun _ => fun
  | [d1, d2, d3] => { results := [.lit (.bool true)], args := [d1, d2, d3] }
  | _ => none }
def ringCleansRow : OpenClaim := { program := "ytlcgbeocdimboaadoor", sum := "ad3a40f1e88ae1ede9e060716ddc023ae02b0ca892d48d98bd5219371de799e7", func := "sawmill/sawmilllaw12.RingCleans", spec := "ringCleans", named := ["sawmill/ring.directions"], apart := false, laid := [("sawmill/ring.directions", laid_sawmill_ring_directions)] }
def RingCleansSaid : Prop := ringCleansRow.holds Tryd.pinned (OpenSpec.ofChange ringCleansSpec)

/-- ITS FALSE NEIGHBOUR: 'it returns false'. Refute it at one input. -/
def ringCleansWrong : ChangeSpec := { name := "ringCleans", fn := fun _ => fun
  | [d1, d2, d3] => { results := [.lit (.bool false)], args := [d1, d2, d3] }
  | _ => none }
def RingCleansWrongFalsely : Prop := ringCleansRow.holds Tryd.pinned (OpenSpec.ofChange ringCleansWrong)

/-- 'sawmilllaw12.RingRepairs': WHATEVER THE INPUT: true; the input reads as it did. -/
def ringRepairsSpec : ChangeSpec := { name := "ringRepairs", fn := fun _ => fun
  | [d1, d2] => { results := [.lit (.bool true)], args := [d1, d2] }
  | _ => none }
def ringRepairsRow : OpenClaim := { program := "ytlcgbeocdimboaadoor", sum := "ad3a40f1e88ae1ede9e060716ddc023ae02b0ca892d48d98bd5219371de799e7", func := "sawmill/sawmilllaw12.RingRepairs", spec := "ringRepairs", named := ["sawmill/ring.directions"], apart := false, laid := [("sawmill/ring.directions", laid_sawmill_ring_directions)] }
def RingRepairsSaid : Prop := ringRepairsRow.holds Tryd.pinned (OpenSpec.ofChange ringRepairsSpec)

/-- ITS FALSE NEIGHBOUR: 'it returns false'. Refute it at one input. -/
def ringRepairsWrong : ChangeSpec := { name := "ringRepairs", fn := fun _ => fun
  | [d1, d2] => { results := [.lit (.bool false)], args := [d1, d2] }
  | _ => none }
def RingRepairsWrongFalsely : Prop := ringRepairsRow.holds Tryd.pinned (OpenSpec.ofChange ringRepairsWrong)

/-- 'sawmilllaw12.RingMerges': WHATEVER THE INPUT: true; the input reads as it did. -/
def ringMergesSpec : ChangeSpec := { name := "ringMerges", fn := fun _ => fun
  | [d1, d2] => { results := [.lit (.bool true)], args := [d1, d2] }
  | _ => none }
def ringMergesRow : OpenClaim := { program := "ytlcgbeocdimboaadoor", sum := "ad3a40f1e88ae1ede9e060716ddc023ae02b0ca892d48d98bd5219371de799e7", func := "sawmill/sawmilllaw12.RingMerges", spec := "ringMerges", named := ["sawmill/ring.directions"], apart := false, laid := [("sawmill/ring.directions", laid_sawmill_ring_directions)] }
def RingMergesSaid : Prop := ringMergesRow.holds Tryd.pinned (OpenSpec.ofChange ringMergesSpec)

/-- ITS FALSE NEIGHBOUR: 'it returns false'. Refute it at one input. -/
def ringMergesWrong : ChangeSpec := { name := "ringMerges", fn := fun _ => fun
  | [d1, d2] => { results := [.lit (.bool false)], args := [d1, d2] }
  | _ => none }
def RingMergesWrongFalsely : Prop := ringMergesRow.holds Tryd.pinned (OpenSpec.ofChange ringMergesWrong)

/-- 'sawmilllaw12.RingKeeps': WHATEVER THE INPUT: true; the input reads as it did. -/
def ringKeepsSpec : ChangeSpec := { name := "ringKeeps", fn := fun _ => fun
  | [d1, d2, d3] => { results := [.lit (.bool true)], args := [d1, d2, d3] }
  | _ => none }
def ringKeepsRow : OpenClaim := { program := "ytlcgbeocdimboaadoor", sum := "ad3a40f1e88ae1ede9e060716ddc023ae02b0ca892d48d98bd5219371de799e7", func := "sawmill/sawmilllaw12.RingKeeps", spec := "ringKeeps", named := ["sawmill/ring.directions"], apart := false, laid := [("sawmill/ring.directions", laid_sawmill_ring_directions)] }
def RingKeepsSaid : Prop := ringKeepsRow.holds Tryd.pinned (OpenSpec.ofChange ringKeepsSpec)

/-- ITS FALSE NEIGHBOUR: 'it returns false'. Refute it at one input. -/
def ringKeepsWrong : ChangeSpec := { name := "ringKeeps", fn := fun _ => fun
  | [d1, d2, d3] => { results := [.lit (.bool false)], args := [d1, d2, d3] }
  | _ => none }
def RingKeepsWrongFalsely : Prop := ringKeepsRow.holds Tryd.pinned (OpenSpec.ofChange ringKeepsWrong)

/-- 'sawmilllaw12.RingFills': WHATEVER THE INPUT: true; the input reads as it did. -/
def ringFillsSpec : ChangeSpec := { name := "ringFills", fn := fun _ => fun
  | [d1, d2] => { results := [.lit (.bool true)], args := [d1, d2] }
  | _ => none }
def ringFillsRow : OpenClaim := { program := "ytlcgbeocdimboaadoor", sum := "ad3a40f1e88ae1ede9e060716ddc023ae02b0ca892d48d98bd5219371de799e7", func := "sawmill/sawmilllaw12.RingFills", spec := "ringFills", named := ["sawmill/ring.directions"], apart := false, laid := [("sawmill/ring.directions", laid_sawmill_ring_directions)] }
def RingFillsSaid : Prop := ringFillsRow.holds Tryd.pinned (OpenSpec.ofChange ringFillsSpec)

/-- ITS FALSE NEIGHBOUR: 'it returns false'. Refute it at one input. -/
def ringFillsWrong : ChangeSpec := { name := "ringFills", fn := fun _ => fun
  | [d1, d2] => { results := [.lit (.bool false)], args := [d1, d2] }
  | _ => none }
def RingFillsWrongFalsely : Prop := ringFillsRow.holds Tryd.pinned (OpenSpec.ofChange ringFillsWrong)

/-- 'sawmilllaw12.RingTwice': WHATEVER THE INPUT: true; the input reads as it did. -/
def ringTwiceSpec : ChangeSpec := { name := "ringTwice", fn := fun _ => fun
  | [d1, d2, d3] => { results := [.lit (.bool true)], args := [d1, d2, d3] }
  | _ => none }
def ringTwiceRow : OpenClaim := { program := "ytlcgbeocdimboaadoor", sum := "ad3a40f1e88ae1ede9e060716ddc023ae02b0ca892d48d98bd5219371de799e7", func := "sawmill/sawmilllaw12.RingTwice", spec := "ringTwice", named := ["sawmill/ring.directions"], apart := false, laid := [("sawmill/ring.directions", laid_sawmill_ring_directions)] }
def RingTwiceSaid : Prop := ringTwiceRow.holds Tryd.pinned (OpenSpec.ofChange ringTwiceSpec)

/-- ITS FALSE NEIGHBOUR: 'it returns false'. Refute it at one input. -/
def ringTwiceWrong : ChangeSpec := { name := "ringTwice", fn := fun _ => fun
  | [d1, d2, d3] => { results := [.lit (.bool false)], args := [d1, d2, d3] }
  | _ => none }
def RingTwiceWrongFalsely : Prop := ringTwiceRow.holds Tryd.pinned (OpenSpec.ofChange ringTwiceWrong)

/- THE SECOND FORM. 'bulk': how many values and letters a reading holds, each counted each time it is reached (what is shared counts as often as it is met; a slice's spare places count too). A statement '..UptoSaid' is the law's where the arguments, and the package variables that the reading takes, are together of bulk at most 1048576: NARROWER than '..Said'. Prove '..Said' where nothing that the law and all that it calls make is longer than what came in: it says more and counts as full. Else prove '..UptoSaid'. A law counts once. -/
mutual
def uptoBulk {H : Type} : DataW H → Nat
  | .lit (.string bytes) => bytes.length + 1
  | .lit _ => 1
  | .nil => 1
  | .ptr d => uptoBulk d + 1
  | .slice elems spare => uptoBulkAll elems + uptoBulkAll spare + 1
  | .agg parts => uptoBulkAll parts + 1
  | .iface _ d => uptoBulk d + 1
  | .map entries => uptoBulkEntries entries + 1
  | .held _ => 1
def uptoBulkAll {H : Type} : List (DataW H) → Nat
  | [] => 0
  | d :: r => uptoBulk d + uptoBulkAll r
def uptoBulkEntries {H : Type} : List (Lit × DataW H) → Nat
  | [] => 0
  | x :: r => uptoBulkEntry x + uptoBulkEntries r
def uptoBulkEntry {H : Type} : Lit × DataW H → Nat
  | (.string bytes, d) => bytes.length + uptoBulk d + 1
  | (_, d) => uptoBulk d + 1
 end
def uptoSmall : (H : Type) → List (DataW H) → Bool := fun _ ds => decide (uptoBulkAll ds ≤ 1048576)
def OpenSpec.upto (s : _root_.Go.ChangeSpec) : _root_.Go.OpenSpec := { _root_.Go.OpenSpec.ofChange s with cond := some uptoSmall }

/-- 'sawmilllaw12.RingChecks', WHERE WHAT IT READS IS OF BULK AT MOST 1048576: true; the input reads as it did. -/
def ringChecksUptoRow : OpenClaim := { program := "ytlcgbeocdimboaadoor", sum := "ad3a40f1e88ae1ede9e060716ddc023ae02b0ca892d48d98bd5219371de799e7", func := "sawmill/sawmilllaw12.RingChecks", spec := "ringChecks", named := ["sawmill/ring.directions"], apart := false, laid := [("sawmill/ring.directions", laid_sawmill_ring_directions)], narrowed := true }
def RingChecksUptoSaid : Prop := ringChecksUptoRow.holds Tryd.pinned (OpenSpec.upto ringChecksSpec)

/-- 'sawmilllaw12.RingCleans', WHERE WHAT IT READS IS OF BULK AT MOST 1048576: true; the input reads as it did. -/
def ringCleansUptoRow : OpenClaim := { program := "ytlcgbeocdimboaadoor", sum := "ad3a40f1e88ae1ede9e060716ddc023ae02b0ca892d48d98bd5219371de799e7", func := "sawmill/sawmilllaw12.RingCleans", spec := "ringCleans", named := ["sawmill/ring.directions"], apart := false, laid := [("sawmill/ring.directions", laid_sawmill_ring_directions)], narrowed := true }
def RingCleansUptoSaid : Prop := ringCleansUptoRow.holds Tryd.pinned (OpenSpec.upto ringCleansSpec)

/-- 'sawmilllaw12.RingRepairs', WHERE WHAT IT READS IS OF BULK AT MOST 1048576: true; the input reads as it did. -/
def ringRepairsUptoRow : OpenClaim := { program := "ytlcgbeocdimboaadoor", sum := "ad3a40f1e88ae1ede9e060716ddc023ae02b0ca892d48d98bd5219371de799e7", func := "sawmill/sawmilllaw12.RingRepairs", spec := "ringRepairs", named := ["sawmill/ring.directions"], apart := false, laid := [("sawmill/ring.directions", laid_sawmill_ring_directions)], narrowed := true }
def RingRepairsUptoSaid : Prop := ringRepairsUptoRow.holds Tryd.pinned (OpenSpec.upto ringRepairsSpec)

/-- 'sawmilllaw12.RingMerges', WHERE WHAT IT READS IS OF BULK AT MOST 1048576: true; the input reads as it did. -/
def ringMergesUptoRow : OpenClaim := { program := "ytlcgbeocdimboaadoor", sum := "ad3a40f1e88ae1ede9e060716ddc023ae02b0ca892d48d98bd5219371de799e7", func := "sawmill/sawmilllaw12.RingMerges", spec := "ringMerges", named := ["sawmill/ring.directions"], apart := false, laid := [("sawmill/ring.directions", laid_sawmill_ring_directions)], narrowed := true }
def RingMergesUptoSaid : Prop := ringMergesUptoRow.holds Tryd.pinned (OpenSpec.upto ringMergesSpec)

/-- 'sawmilllaw12.RingKeeps', WHERE WHAT IT READS IS OF BULK AT MOST 1048576: true; the input reads as it did. -/
def ringKeepsUptoRow : OpenClaim := { program := "ytlcgbeocdimboaadoor", sum := "ad3a40f1e88ae1ede9e060716ddc023ae02b0ca892d48d98bd5219371de799e7", func := "sawmill/sawmilllaw12.RingKeeps", spec := "ringKeeps", named := ["sawmill/ring.directions"], apart := false, laid := [("sawmill/ring.directions", laid_sawmill_ring_directions)], narrowed := true }
def RingKeepsUptoSaid : Prop := ringKeepsUptoRow.holds Tryd.pinned (OpenSpec.upto ringKeepsSpec)

/-- 'sawmilllaw12.RingFills', WHERE WHAT IT READS IS OF BULK AT MOST 1048576: true; the input reads as it did. -/
def ringFillsUptoRow : OpenClaim := { program := "ytlcgbeocdimboaadoor", sum := "ad3a40f1e88ae1ede9e060716ddc023ae02b0ca892d48d98bd5219371de799e7", func := "sawmill/sawmilllaw12.RingFills", spec := "ringFills", named := ["sawmill/ring.directions"], apart := false, laid := [("sawmill/ring.directions", laid_sawmill_ring_directions)], narrowed := true }
def RingFillsUptoSaid : Prop := ringFillsUptoRow.holds Tryd.pinned (OpenSpec.upto ringFillsSpec)

/-- 'sawmilllaw12.RingTwice', WHERE WHAT IT READS IS OF BULK AT MOST 1048576: true; the input reads as it did. -/
def ringTwiceUptoRow : OpenClaim := { program := "ytlcgbeocdimboaadoor", sum := "ad3a40f1e88ae1ede9e060716ddc023ae02b0ca892d48d98bd5219371de799e7", func := "sawmill/sawmilllaw12.RingTwice", spec := "ringTwice", named := ["sawmill/ring.directions"], apart := false, laid := [("sawmill/ring.directions", laid_sawmill_ring_directions)], narrowed := true }
def RingTwiceUptoSaid : Prop := ringTwiceUptoRow.holds Tryd.pinned (OpenSpec.upto ringTwiceSpec)

end Rows
end Go.Proofs.YtlcgbeocdimboaaDoor
