/-
  No cell of these rows narrows 'for every input' (looked for: loops, veiled, ifaces, maps, wideKeys, modest, calm, conditions, laid).
  DERIVED. THE GIVEN ROWS OF THIS SEAT. 8 by the template 'for every input the law returns true; each argument reads behind the call as it read before'; 0 by the template 'total and deterministic' (their statements: YtlkgbfiaeedpfaaTotals.lean).
  GIVEN WITH THE SEED: the statements are not yours to turn. If you find one false, say at which input.
  Laid BY PROGRAM, IN A SANDBOX (cutbox-rows.mjs): the forced cells as the released guide's own fill.sh prints them over the translation 52bebda1c0bb35a9… (all of the seat's roots in one cut). By AI agents, Wed Nov 11 2026. No macro, syntax, notation, axiom, sorry.
-/
import Derived.Test.YtlkgbfiaeedpfaaChecked
import GoSem.Claim
import GoSem.ClaimJoined
import GoSem.ClaimMapViews
import Derived.JoinedTies
import Derived.KernelRfl
namespace Go.Proofs.Ytlkgbfiaeedpfaa
/- THE CELL 'sum', in the pinned program and in every row, IS THE sha256 OF THE DUMP (.gsa) THAT YtlkgbfiaeedpfaaProg.lean LOADS. Nothing in Lean hashes anything: it is a label: what it is worth is what the hold of that sum in a sandbox is worth. -/
noncomputable def Try.pinned : Pinned := { name := "ytlkgbfiaeedpfaa", sum := "52bebda1c0bb35a940aba33fdb81787a4d53780c11f312bf3a13e02626a6569e", checked := Try.checked }
namespace Rows
def none {H : Type} : Left H := { results := [], args := [] }

/-- 'sawmilllaw08.CurveChecks': WHATEVER THE INPUT: true; the input reads as it did. -/
def curveChecksSpec : ChangeSpec := { name := "curveChecks", fn := fun _ => fun
  | [d] => { results := [.lit (.bool true)], args := [d] }
  | _ => none }
def curveChecksRow : OpenClaim := { program := "ytlkgbfiaeedpfaa", sum := "52bebda1c0bb35a940aba33fdb81787a4d53780c11f312bf3a13e02626a6569e", func := "sawmill/sawmilllaw08.CurveChecks", spec := "curveChecks", apart := false }
def CurveChecksSaid : Prop := curveChecksRow.holds Try.pinned (OpenSpec.ofChange curveChecksSpec)

/-- ITS FALSE NEIGHBOUR: 'it returns false'. Refute it at one input. -/
def curveChecksWrong : ChangeSpec := { name := "curveChecks", fn := fun _ => fun
  | [d] => { results := [.lit (.bool false)], args := [d] }
  | _ => none }
def CurveChecksWrongFalsely : Prop := curveChecksRow.holds Try.pinned (OpenSpec.ofChange curveChecksWrong)

/-- 'sawmilllaw08.CurveValues': WHATEVER THE INPUT: true; the input reads as it did. -/
def curveValuesSpec : ChangeSpec := { name := "curveValues", fn := fun _ => fun
  | [d1, d2] => { results := [.lit (.bool true)], args := [d1, d2] }
  | _ => none }
def curveValuesRow : OpenClaim := { program := "ytlkgbfiaeedpfaa", sum := "52bebda1c0bb35a940aba33fdb81787a4d53780c11f312bf3a13e02626a6569e", func := "sawmill/sawmilllaw08.CurveValues", spec := "curveValues", apart := false }
def CurveValuesSaid : Prop := curveValuesRow.holds Try.pinned (OpenSpec.ofChange curveValuesSpec)

/-- ITS FALSE NEIGHBOUR: 'it returns false'. Refute it at one input. -/
def curveValuesWrong : ChangeSpec := { name := "curveValues", fn := fun _ => fun
  | [d1, d2] => { results := [.lit (.bool false)], args := [d1, d2] }
  | _ => none }
def CurveValuesWrongFalsely : Prop := curveValuesRow.holds Try.pinned (OpenSpec.ofChange curveValuesWrong)

/-- 'sawmilllaw08.CurveReaches': WHATEVER THE INPUT: true; the input reads as it did. -/
def curveReachesSpec : ChangeSpec := { name := "curveReaches", fn := fun _ => fun
  | [d1, d2] => { results := [.lit (.bool true)], args := [d1, d2] }
  | _ => none }
def curveReachesRow : OpenClaim := { program := "ytlkgbfiaeedpfaa", sum := "52bebda1c0bb35a940aba33fdb81787a4d53780c11f312bf3a13e02626a6569e", func := "sawmill/sawmilllaw08.CurveReaches", spec := "curveReaches", apart := false }
def CurveReachesSaid : Prop := curveReachesRow.holds Try.pinned (OpenSpec.ofChange curveReachesSpec)

/-- ITS FALSE NEIGHBOUR: 'it returns false'. Refute it at one input. -/
def curveReachesWrong : ChangeSpec := { name := "curveReaches", fn := fun _ => fun
  | [d1, d2] => { results := [.lit (.bool false)], args := [d1, d2] }
  | _ => none }
def CurveReachesWrongFalsely : Prop := curveReachesRow.holds Try.pinned (OpenSpec.ofChange curveReachesWrong)

/-- 'sawmilllaw08.CurveGrids': WHATEVER THE INPUT: true; the input reads as it did. -/
def curveGridsSpec : ChangeSpec := { name := "curveGrids", fn := fun _ => fun
  | [d1, d2, d3] => { results := [.lit (.bool true)], args := [d1, d2, d3] }
  | _ => none }
def curveGridsRow : OpenClaim := { program := "ytlkgbfiaeedpfaa", sum := "52bebda1c0bb35a940aba33fdb81787a4d53780c11f312bf3a13e02626a6569e", func := "sawmill/sawmilllaw08.CurveGrids", spec := "curveGrids", apart := false }
def CurveGridsSaid : Prop := curveGridsRow.holds Try.pinned (OpenSpec.ofChange curveGridsSpec)

/-- ITS FALSE NEIGHBOUR: 'it returns false'. Refute it at one input. -/
def curveGridsWrong : ChangeSpec := { name := "curveGrids", fn := fun _ => fun
  | [d1, d2, d3] => { results := [.lit (.bool false)], args := [d1, d2, d3] }
  | _ => none }
def CurveGridsWrongFalsely : Prop := curveGridsRow.holds Try.pinned (OpenSpec.ofChange curveGridsWrong)

/-- 'sawmilllaw08.CurveBetween': WHATEVER THE INPUT: true; the input reads as it did. -/
def curveBetweenSpec : ChangeSpec := { name := "curveBetween", fn := fun _ => fun
  | [d1, d2, d3] => { results := [.lit (.bool true)], args := [d1, d2, d3] }
  | _ => none }
def curveBetweenRow : OpenClaim := { program := "ytlkgbfiaeedpfaa", sum := "52bebda1c0bb35a940aba33fdb81787a4d53780c11f312bf3a13e02626a6569e", func := "sawmill/sawmilllaw08.CurveBetween", spec := "curveBetween", apart := false }
def CurveBetweenSaid : Prop := curveBetweenRow.holds Try.pinned (OpenSpec.ofChange curveBetweenSpec)

/-- ITS FALSE NEIGHBOUR: 'it returns false'. Refute it at one input. -/
def curveBetweenWrong : ChangeSpec := { name := "curveBetween", fn := fun _ => fun
  | [d1, d2, d3] => { results := [.lit (.bool false)], args := [d1, d2, d3] }
  | _ => none }
def CurveBetweenWrongFalsely : Prop := curveBetweenRow.holds Try.pinned (OpenSpec.ofChange curveBetweenWrong)

/-- 'sawmilllaw08.CurveFirst': WHATEVER THE INPUT: true; the input reads as it did. -/
def curveFirstSpec : ChangeSpec := { name := "curveFirst", fn := fun _ => fun
  | [d1, d2, d3] => { results := [.lit (.bool true)], args := [d1, d2, d3] }
  | _ => none }
def curveFirstRow : OpenClaim := { program := "ytlkgbfiaeedpfaa", sum := "52bebda1c0bb35a940aba33fdb81787a4d53780c11f312bf3a13e02626a6569e", func := "sawmill/sawmilllaw08.CurveFirst", spec := "curveFirst", apart := false }
def CurveFirstSaid : Prop := curveFirstRow.holds Try.pinned (OpenSpec.ofChange curveFirstSpec)

/-- ITS FALSE NEIGHBOUR: 'it returns false'. Refute it at one input. -/
def curveFirstWrong : ChangeSpec := { name := "curveFirst", fn := fun _ => fun
  | [d1, d2, d3] => { results := [.lit (.bool false)], args := [d1, d2, d3] }
  | _ => none }
def CurveFirstWrongFalsely : Prop := curveFirstRow.holds Try.pinned (OpenSpec.ofChange curveFirstWrong)

/-- 'sawmilllaw08.CurveTables': WHATEVER THE INPUT: true; the input reads as it did. -/
def curveTablesSpec : ChangeSpec := { name := "curveTables", fn := fun _ => fun
  | [d1, d2, d3] => { results := [.lit (.bool true)], args := [d1, d2, d3] }
  | _ => none }
def curveTablesRow : OpenClaim := { program := "ytlkgbfiaeedpfaa", sum := "52bebda1c0bb35a940aba33fdb81787a4d53780c11f312bf3a13e02626a6569e", func := "sawmill/sawmilllaw08.CurveTables", spec := "curveTables", apart := false }
def CurveTablesSaid : Prop := curveTablesRow.holds Try.pinned (OpenSpec.ofChange curveTablesSpec)

/-- ITS FALSE NEIGHBOUR: 'it returns false'. Refute it at one input. -/
def curveTablesWrong : ChangeSpec := { name := "curveTables", fn := fun _ => fun
  | [d1, d2, d3] => { results := [.lit (.bool false)], args := [d1, d2, d3] }
  | _ => none }
def CurveTablesWrongFalsely : Prop := curveTablesRow.holds Try.pinned (OpenSpec.ofChange curveTablesWrong)

/-- 'sawmilllaw08.CurveRow': WHATEVER THE INPUT: true; the input reads as it did. -/
def curveRowSpec : ChangeSpec := { name := "curveRow", fn := fun _ => fun
  | [d1, d2, d3] => { results := [.lit (.bool true)], args := [d1, d2, d3] }
  | _ => none }
def curveRowRow : OpenClaim := { program := "ytlkgbfiaeedpfaa", sum := "52bebda1c0bb35a940aba33fdb81787a4d53780c11f312bf3a13e02626a6569e", func := "sawmill/sawmilllaw08.CurveRow", spec := "curveRow", apart := false }
def CurveRowSaid : Prop := curveRowRow.holds Try.pinned (OpenSpec.ofChange curveRowSpec)

/-- ITS FALSE NEIGHBOUR: 'it returns false'. Refute it at one input. -/
def curveRowWrong : ChangeSpec := { name := "curveRow", fn := fun _ => fun
  | [d1, d2, d3] => { results := [.lit (.bool false)], args := [d1, d2, d3] }
  | _ => none }
def CurveRowWrongFalsely : Prop := curveRowRow.holds Try.pinned (OpenSpec.ofChange curveRowWrong)

/- THE SECOND FORM. 'bulk': how many values and letters a reading holds, each counted each time it is reached (what is shared counts as often as it is met; a slice's spare places count too). A statement '..UptoSaid' is the law's where the arguments, and the package variables that the reading takes, are together of bulk at most 1048576: NARROWER than '..Said'. Prove '..Said' where nothing that the law and all that it calls make is longer than what came in: it says more and counts as full. Else prove '..UptoSaid'. A law counts once. -/
mutual
def uptoBulk {H : Type} : DataW H → Nat
  | .lit (.string bytes) => bytes.length + 1
  | .lit _ => 1
  | .nil => 1
  | .ptr d => uptoBulk d + 1
  | .slice elems spare => uptoBulkAll elems + uptoBulkAll spare + 1
  | .agg parts => uptoBulkAll parts + 1
  | .iface _ d => uptoBulk d + 1
  | .map entries => uptoBulkEntries entries + 1
  | .held _ => 1
def uptoBulkAll {H : Type} : List (DataW H) → Nat
  | [] => 0
  | d :: r => uptoBulk d + uptoBulkAll r
def uptoBulkEntries {H : Type} : List (Lit × DataW H) → Nat
  | [] => 0
  | x :: r => uptoBulkEntry x + uptoBulkEntries r
def uptoBulkEntry {H : Type} : Lit × DataW H → Nat
  | (.string bytes, d) => bytes.length + uptoBulk d + 1
  | (_, d) => uptoBulk d + 1
 end
def uptoSmall : (H : Type) → List (DataW H) → Bool := fun _ ds => decide (uptoBulkAll ds ≤ 1048576)
def OpenSpec.upto (s : _root_.Go.ChangeSpec) : _root_.Go.OpenSpec := { _root_.Go.OpenSpec.ofChange s with cond := some uptoSmall }

/-- 'sawmilllaw08.CurveChecks', WHERE WHAT IT READS IS OF BULK AT MOST 1048576: true; the input reads as it did. -/
def curveChecksUptoRow : OpenClaim := { program := "ytlkgbfiaeedpfaa", sum := "52bebda1c0bb35a940aba33fdb81787a4d53780c11f312bf3a13e02626a6569e", func := "sawmill/sawmilllaw08.CurveChecks", spec := "curveChecks", apart := false, narrowed := true }
def CurveChecksUptoSaid : Prop := curveChecksUptoRow.holds Try.pinned (OpenSpec.upto curveChecksSpec)

/-- 'sawmilllaw08.CurveValues', WHERE WHAT IT READS IS OF BULK AT MOST 1048576: true; the input reads as it did. -/
def curveValuesUptoRow : OpenClaim := { program := "ytlkgbfiaeedpfaa", sum := "52bebda1c0bb35a940aba33fdb81787a4d53780c11f312bf3a13e02626a6569e", func := "sawmill/sawmilllaw08.CurveValues", spec := "curveValues", apart := false, narrowed := true }
def CurveValuesUptoSaid : Prop := curveValuesUptoRow.holds Try.pinned (OpenSpec.upto curveValuesSpec)

/-- 'sawmilllaw08.CurveReaches', WHERE WHAT IT READS IS OF BULK AT MOST 1048576: true; the input reads as it did. -/
def curveReachesUptoRow : OpenClaim := { program := "ytlkgbfiaeedpfaa", sum := "52bebda1c0bb35a940aba33fdb81787a4d53780c11f312bf3a13e02626a6569e", func := "sawmill/sawmilllaw08.CurveReaches", spec := "curveReaches", apart := false, narrowed := true }
def CurveReachesUptoSaid : Prop := curveReachesUptoRow.holds Try.pinned (OpenSpec.upto curveReachesSpec)

/-- 'sawmilllaw08.CurveGrids', WHERE WHAT IT READS IS OF BULK AT MOST 1048576: true; the input reads as it did. -/
def curveGridsUptoRow : OpenClaim := { program := "ytlkgbfiaeedpfaa", sum := "52bebda1c0bb35a940aba33fdb81787a4d53780c11f312bf3a13e02626a6569e", func := "sawmill/sawmilllaw08.CurveGrids", spec := "curveGrids", apart := false, narrowed := true }
def CurveGridsUptoSaid : Prop := curveGridsUptoRow.holds Try.pinned (OpenSpec.upto curveGridsSpec)

/-- 'sawmilllaw08.CurveBetween', WHERE WHAT IT READS IS OF BULK AT MOST 1048576: true; the input reads as it did. -/
def curveBetweenUptoRow : OpenClaim := { program := "ytlkgbfiaeedpfaa", sum := "52bebda1c0bb35a940aba33fdb81787a4d53780c11f312bf3a13e02626a6569e", func := "sawmill/sawmilllaw08.CurveBetween", spec := "curveBetween", apart := false, narrowed := true }
def CurveBetweenUptoSaid : Prop := curveBetweenUptoRow.holds Try.pinned (OpenSpec.upto curveBetweenSpec)

/-- 'sawmilllaw08.CurveFirst', WHERE WHAT IT READS IS OF BULK AT MOST 1048576: true; the input reads as it did. -/
def curveFirstUptoRow : OpenClaim := { program := "ytlkgbfiaeedpfaa", sum := "52bebda1c0bb35a940aba33fdb81787a4d53780c11f312bf3a13e02626a6569e", func := "sawmill/sawmilllaw08.CurveFirst", spec := "curveFirst", apart := false, narrowed := true }
def CurveFirstUptoSaid : Prop := curveFirstUptoRow.holds Try.pinned (OpenSpec.upto curveFirstSpec)

/-- 'sawmilllaw08.CurveTables', WHERE WHAT IT READS IS OF BULK AT MOST 1048576: true; the input reads as it did. -/
def curveTablesUptoRow : OpenClaim := { program := "ytlkgbfiaeedpfaa", sum := "52bebda1c0bb35a940aba33fdb81787a4d53780c11f312bf3a13e02626a6569e", func := "sawmill/sawmilllaw08.CurveTables", spec := "curveTables", apart := false, narrowed := true }
def CurveTablesUptoSaid : Prop := curveTablesUptoRow.holds Try.pinned (OpenSpec.upto curveTablesSpec)

/-- 'sawmilllaw08.CurveRow', WHERE WHAT IT READS IS OF BULK AT MOST 1048576: true; the input reads as it did. -/
def curveRowUptoRow : OpenClaim := { program := "ytlkgbfiaeedpfaa", sum := "52bebda1c0bb35a940aba33fdb81787a4d53780c11f312bf3a13e02626a6569e", func := "sawmill/sawmilllaw08.CurveRow", spec := "curveRow", apart := false, narrowed := true }
def CurveRowUptoSaid : Prop := curveRowUptoRow.holds Try.pinned (OpenSpec.upto curveRowSpec)

end Rows
end Go.Proofs.Ytlkgbfiaeedpfaa
