/-
  No cell of these rows narrows 'for every input' (looked for: loops, veiled, ifaces, maps, wideKeys, modest, calm, conditions, laid).
  DERIVED. THE GIVEN ROWS OF THIS SEAT. 8 by the template 'for every input the law returns true; each argument reads behind the call as it read before'; 0 by the template 'total and deterministic' (their statements: YtiffnnjegfghoaaTotals.lean).
  GIVEN WITH THE SEED: the statements are not yours to turn. If you find one false, say at which input.
  Laid BY PROGRAM, IN A SANDBOX (cutbox-rows.mjs): the forced cells as the released guide's own fill.sh prints them over the translation 406f8d44ff805960… (all of the seat's roots in one cut). By AI agents, Wed Nov 11 2026. No macro, syntax, notation, axiom, sorry.
-/
import Derived.Test.YtiffnnjegfghoaaChecked
import GoSem.Claim
import GoSem.ClaimJoined
import GoSem.ClaimMapViews
import Derived.JoinedTies
import Derived.KernelRfl
namespace Go.Proofs.Ytiffnnjegfghoaa
/- THE CELL 'sum', in the pinned program and in every row, IS THE sha256 OF THE DUMP (.gsa) THAT YtiffnnjegfghoaaProg.lean LOADS. Nothing in Lean hashes anything: it is a label: what it is worth is what the hold of that sum in a sandbox is worth. -/
noncomputable def Try.pinned : Pinned := { name := "ytiffnnjegfghoaa", sum := "406f8d44ff805960c66cc432bd5d4639ad8c70c3ca13ffe6f91b59281c923f9f", checked := Try.checked }
namespace Rows
def none {H : Type} : Left H := { results := [], args := [] }

/-- 'sawmilllaw04.SumsCrcs': WHATEVER THE INPUT: true; the input reads as it did. -/
def sumsCrcsSpec : ChangeSpec := { name := "sumsCrcs", fn := fun _ => fun
  | [d] => { results := [.lit (.bool true)], args := [d] }
  | _ => none }
def sumsCrcsRow : OpenClaim := { program := "ytiffnnjegfghoaa", sum := "406f8d44ff805960c66cc432bd5d4639ad8c70c3ca13ffe6f91b59281c923f9f", func := "sawmill/sawmilllaw04.SumsCrcs", spec := "sumsCrcs", inPlace := ["internal/bytealg.IndexByteString", "internal/bytealg.IndexString"], named := ["internal/bytealg.MaxLen"], apart := false }
def SumsCrcsSaid : Prop := sumsCrcsRow.holds Try.pinned (OpenSpec.ofChange sumsCrcsSpec)

/-- ITS FALSE NEIGHBOUR: 'it returns false'. Refute it at one input. -/
def sumsCrcsWrong : ChangeSpec := { name := "sumsCrcs", fn := fun _ => fun
  | [d] => { results := [.lit (.bool false)], args := [d] }
  | _ => none }
def SumsCrcsWrongFalsely : Prop := sumsCrcsRow.holds Try.pinned (OpenSpec.ofChange sumsCrcsWrong)

/-- 'sawmilllaw04.SumsHashes': WHATEVER THE INPUT: true; the input reads as it did. -/
def sumsHashesSpec : ChangeSpec := { name := "sumsHashes", fn := fun _ => fun
  | [d1, d2] => { results := [.lit (.bool true)], args := [d1, d2] }
  | _ => none }
def sumsHashesRow : OpenClaim := { program := "ytiffnnjegfghoaa", sum := "406f8d44ff805960c66cc432bd5d4639ad8c70c3ca13ffe6f91b59281c923f9f", func := "sawmill/sawmilllaw04.SumsHashes", spec := "sumsHashes", inPlace := ["internal/bytealg.IndexByteString", "internal/bytealg.IndexString"], named := ["internal/bytealg.MaxLen"], apart := false }
def SumsHashesSaid : Prop := sumsHashesRow.holds Try.pinned (OpenSpec.ofChange sumsHashesSpec)

/-- ITS FALSE NEIGHBOUR: 'it returns false'. Refute it at one input. -/
def sumsHashesWrong : ChangeSpec := { name := "sumsHashes", fn := fun _ => fun
  | [d1, d2] => { results := [.lit (.bool false)], args := [d1, d2] }
  | _ => none }
def SumsHashesWrongFalsely : Prop := sumsHashesRow.holds Try.pinned (OpenSpec.ofChange sumsHashesWrong)

/-- 'sawmilllaw04.SumsDigits': WHATEVER THE INPUT: true; the input reads as it did. -/
def sumsDigitsSpec : ChangeSpec := { name := "sumsDigits", fn := fun _ => fun
  | [d1, d2] => { results := [.lit (.bool true)], args := [d1, d2] }
  | _ => none }
def sumsDigitsRow : OpenClaim := { program := "ytiffnnjegfghoaa", sum := "406f8d44ff805960c66cc432bd5d4639ad8c70c3ca13ffe6f91b59281c923f9f", func := "sawmill/sawmilllaw04.SumsDigits", spec := "sumsDigits", inPlace := ["internal/bytealg.IndexByteString", "internal/bytealg.IndexString"], named := ["internal/bytealg.MaxLen"], apart := false }
def SumsDigitsSaid : Prop := sumsDigitsRow.holds Try.pinned (OpenSpec.ofChange sumsDigitsSpec)

/-- ITS FALSE NEIGHBOUR: 'it returns false'. Refute it at one input. -/
def sumsDigitsWrong : ChangeSpec := { name := "sumsDigits", fn := fun _ => fun
  | [d1, d2] => { results := [.lit (.bool false)], args := [d1, d2] }
  | _ => none }
def SumsDigitsWrongFalsely : Prop := sumsDigitsRow.holds Try.pinned (OpenSpec.ofChange sumsDigitsWrong)

/-- 'sawmilllaw04.SumsSeals': WHATEVER THE INPUT: true; the input reads as it did. -/
def sumsSealsSpec : ChangeSpec := { name := "sumsSeals", fn := fun _ => fun
  | [d] => { results := [.lit (.bool true)], args := [d] }
  | _ => none }
def sumsSealsRow : OpenClaim := { program := "ytiffnnjegfghoaa", sum := "406f8d44ff805960c66cc432bd5d4639ad8c70c3ca13ffe6f91b59281c923f9f", func := "sawmill/sawmilllaw04.SumsSeals", spec := "sumsSeals", inPlace := ["internal/bytealg.IndexByteString", "internal/bytealg.IndexString"], named := ["internal/bytealg.MaxLen"], apart := false }
def SumsSealsSaid : Prop := sumsSealsRow.holds Try.pinned (OpenSpec.ofChange sumsSealsSpec)

/-- ITS FALSE NEIGHBOUR: 'it returns false'. Refute it at one input. -/
def sumsSealsWrong : ChangeSpec := { name := "sumsSeals", fn := fun _ => fun
  | [d] => { results := [.lit (.bool false)], args := [d] }
  | _ => none }
def SumsSealsWrongFalsely : Prop := sumsSealsRow.holds Try.pinned (OpenSpec.ofChange sumsSealsWrong)

/-- 'sawmilllaw04.SumsBack': WHATEVER THE INPUT: true; the input reads as it did. -/
def sumsBackSpec : ChangeSpec := { name := "sumsBack", fn := fun _ => fun
  | [d1, d2] => { results := [.lit (.bool true)], args := [d1, d2] }
  | _ => none }
def sumsBackRow : OpenClaim := { program := "ytiffnnjegfghoaa", sum := "406f8d44ff805960c66cc432bd5d4639ad8c70c3ca13ffe6f91b59281c923f9f", func := "sawmill/sawmilllaw04.SumsBack", spec := "sumsBack", inPlace := ["internal/bytealg.IndexByteString", "internal/bytealg.IndexString"], named := ["internal/bytealg.MaxLen"], apart := false }
def SumsBackSaid : Prop := sumsBackRow.holds Try.pinned (OpenSpec.ofChange sumsBackSpec)

/-- ITS FALSE NEIGHBOUR: 'it returns false'. Refute it at one input. -/
def sumsBackWrong : ChangeSpec := { name := "sumsBack", fn := fun _ => fun
  | [d1, d2] => { results := [.lit (.bool false)], args := [d1, d2] }
  | _ => none }
def SumsBackWrongFalsely : Prop := sumsBackRow.holds Try.pinned (OpenSpec.ofChange sumsBackWrong)

/-- 'sawmilllaw04.SumsChains': WHATEVER THE INPUT: true; the input reads as it did. -/
def sumsChainsSpec : ChangeSpec := { name := "sumsChains", fn := fun _ => fun
  | [d1, d2, d3] => { results := [.lit (.bool true)], args := [d1, d2, d3] }
  | _ => none }
def sumsChainsRow : OpenClaim := { program := "ytiffnnjegfghoaa", sum := "406f8d44ff805960c66cc432bd5d4639ad8c70c3ca13ffe6f91b59281c923f9f", func := "sawmill/sawmilllaw04.SumsChains", spec := "sumsChains", inPlace := ["internal/bytealg.IndexByteString", "internal/bytealg.IndexString"], named := ["internal/bytealg.MaxLen"], apart := false }
def SumsChainsSaid : Prop := sumsChainsRow.holds Try.pinned (OpenSpec.ofChange sumsChainsSpec)

/-- ITS FALSE NEIGHBOUR: 'it returns false'. Refute it at one input. -/
def sumsChainsWrong : ChangeSpec := { name := "sumsChains", fn := fun _ => fun
  | [d1, d2, d3] => { results := [.lit (.bool false)], args := [d1, d2, d3] }
  | _ => none }
def SumsChainsWrongFalsely : Prop := sumsChainsRow.holds Try.pinned (OpenSpec.ofChange sumsChainsWrong)

/-- 'sawmilllaw04.SumsDetects': WHATEVER THE INPUT: true; the input reads as it did. -/
def sumsDetectsSpec : ChangeSpec := { name := "sumsDetects", fn := fun _ => fun
  | [d1, d2, d3] => { results := [.lit (.bool true)], args := [d1, d2, d3] }
  | _ => none }
def sumsDetectsRow : OpenClaim := { program := "ytiffnnjegfghoaa", sum := "406f8d44ff805960c66cc432bd5d4639ad8c70c3ca13ffe6f91b59281c923f9f", func := "sawmill/sawmilllaw04.SumsDetects", spec := "sumsDetects", inPlace := ["internal/bytealg.IndexByteString", "internal/bytealg.IndexString"], named := ["internal/bytealg.MaxLen"], apart := false }
def SumsDetectsSaid : Prop := sumsDetectsRow.holds Try.pinned (OpenSpec.ofChange sumsDetectsSpec)

/-- ITS FALSE NEIGHBOUR: 'it returns false'. Refute it at one input. -/
def sumsDetectsWrong : ChangeSpec := { name := "sumsDetects", fn := fun _ => fun
  | [d1, d2, d3] => { results := [.lit (.bool false)], args := [d1, d2, d3] }
  | _ => none }
def SumsDetectsWrongFalsely : Prop := sumsDetectsRow.holds Try.pinned (OpenSpec.ofChange sumsDetectsWrong)

/-- 'sawmilllaw04.SumsXors': WHATEVER THE INPUT: true; the input reads as it did. -/
def sumsXorsSpec : ChangeSpec := { name := "sumsXors", fn := fun _ => fun
  | [d1, d2, d3] => { results := [.lit (.bool true)], args := [d1, d2, d3] }
  | _ => none }
def sumsXorsRow : OpenClaim := { program := "ytiffnnjegfghoaa", sum := "406f8d44ff805960c66cc432bd5d4639ad8c70c3ca13ffe6f91b59281c923f9f", func := "sawmill/sawmilllaw04.SumsXors", spec := "sumsXors", inPlace := ["internal/bytealg.IndexByteString", "internal/bytealg.IndexString"], named := ["internal/bytealg.MaxLen"], apart := false }
def SumsXorsSaid : Prop := sumsXorsRow.holds Try.pinned (OpenSpec.ofChange sumsXorsSpec)

/-- ITS FALSE NEIGHBOUR: 'it returns false'. Refute it at one input. -/
def sumsXorsWrong : ChangeSpec := { name := "sumsXors", fn := fun _ => fun
  | [d1, d2, d3] => { results := [.lit (.bool false)], args := [d1, d2, d3] }
  | _ => none }
def SumsXorsWrongFalsely : Prop := sumsXorsRow.holds Try.pinned (OpenSpec.ofChange sumsXorsWrong)

/- THE SECOND FORM. 'bulk': how many values and letters a reading holds, each counted each time it is reached (what is shared counts as often as it is met; a slice's spare places count too). A statement '..UptoSaid' is the law's where the arguments, and the package variables that the reading takes, are together of bulk at most 1048576: NARROWER than '..Said'. Prove '..Said' where nothing that the law and all that it calls make is longer than what came in: it says more and counts as full. Else prove '..UptoSaid'. A law counts once. -/
mutual
def uptoBulk {H : Type} : DataW H → Nat
  | .lit (.string bytes) => bytes.length + 1
  | .lit _ => 1
  | .nil => 1
  | .ptr d => uptoBulk d + 1
  | .slice elems spare => uptoBulkAll elems + uptoBulkAll spare + 1
  | .agg parts => uptoBulkAll parts + 1
  | .iface _ d => uptoBulk d + 1
  | .map entries => uptoBulkEntries entries + 1
  | .held _ => 1
def uptoBulkAll {H : Type} : List (DataW H) → Nat
  | [] => 0
  | d :: r => uptoBulk d + uptoBulkAll r
def uptoBulkEntries {H : Type} : List (Lit × DataW H) → Nat
  | [] => 0
  | x :: r => uptoBulkEntry x + uptoBulkEntries r
def uptoBulkEntry {H : Type} : Lit × DataW H → Nat
  | (.string bytes, d) => bytes.length + uptoBulk d + 1
  | (_, d) => uptoBulk d + 1
 end
def uptoSmall : (H : Type) → List (DataW H) → Bool := fun _ ds => decide (uptoBulkAll ds ≤ 1048576)
def OpenSpec.upto (s : _root_.Go.ChangeSpec) : _root_.Go.OpenSpec := { _root_.Go.OpenSpec.ofChange s with cond := some uptoSmall }

/-- 'sawmilllaw04.SumsCrcs', WHERE WHAT IT READS IS OF BULK AT MOST 1048576: true; the input reads as it did. -/
def sumsCrcsUptoRow : OpenClaim := { program := "ytiffnnjegfghoaa", sum := "406f8d44ff805960c66cc432bd5d4639ad8c70c3ca13ffe6f91b59281c923f9f", func := "sawmill/sawmilllaw04.SumsCrcs", spec := "sumsCrcs", inPlace := ["internal/bytealg.IndexByteString", "internal/bytealg.IndexString"], named := ["internal/bytealg.MaxLen"], apart := false, narrowed := true }
def SumsCrcsUptoSaid : Prop := sumsCrcsUptoRow.holds Try.pinned (OpenSpec.upto sumsCrcsSpec)

/-- 'sawmilllaw04.SumsHashes', WHERE WHAT IT READS IS OF BULK AT MOST 1048576: true; the input reads as it did. -/
def sumsHashesUptoRow : OpenClaim := { program := "ytiffnnjegfghoaa", sum := "406f8d44ff805960c66cc432bd5d4639ad8c70c3ca13ffe6f91b59281c923f9f", func := "sawmill/sawmilllaw04.SumsHashes", spec := "sumsHashes", inPlace := ["internal/bytealg.IndexByteString", "internal/bytealg.IndexString"], named := ["internal/bytealg.MaxLen"], apart := false, narrowed := true }
def SumsHashesUptoSaid : Prop := sumsHashesUptoRow.holds Try.pinned (OpenSpec.upto sumsHashesSpec)

/-- 'sawmilllaw04.SumsDigits', WHERE WHAT IT READS IS OF BULK AT MOST 1048576: true; the input reads as it did. -/
def sumsDigitsUptoRow : OpenClaim := { program := "ytiffnnjegfghoaa", sum := "406f8d44ff805960c66cc432bd5d4639ad8c70c3ca13ffe6f91b59281c923f9f", func := "sawmill/sawmilllaw04.SumsDigits", spec := "sumsDigits", inPlace := ["internal/bytealg.IndexByteString", "internal/bytealg.IndexString"], named := ["internal/bytealg.MaxLen"], apart := false, narrowed := true }
def SumsDigitsUptoSaid : Prop := sumsDigitsUptoRow.holds Try.pinned (OpenSpec.upto sumsDigitsSpec)

/-- 'sawmilllaw04.SumsSeals', WHERE WHAT IT READS IS OF BULK AT MOST 1048576: true; the input reads as it did. -/
def sumsSealsUptoRow : OpenClaim := { program := "ytiffnnjegfghoaa", sum := "406f8d44ff805960c66cc432bd5d4639ad8c70c3ca13ffe6f91b59281c923f9f", func := "sawmill/sawmilllaw04.SumsSeals", spec := "sumsSeals", inPlace := ["internal/bytealg.IndexByteString", "internal/bytealg.IndexString"], named := ["internal/bytealg.MaxLen"], apart := false, narrowed := true }
def SumsSealsUptoSaid : Prop := sumsSealsUptoRow.holds Try.pinned (OpenSpec.upto sumsSealsSpec)

/-- 'sawmilllaw04.SumsBack', WHERE WHAT IT READS IS OF BULK AT MOST 1048576: true; the input reads as it did. -/
def sumsBackUptoRow : OpenClaim := { program := "ytiffnnjegfghoaa", sum := "406f8d44ff805960c66cc432bd5d4639ad8c70c3ca13ffe6f91b59281c923f9f", func := "sawmill/sawmilllaw04.SumsBack", spec := "sumsBack", inPlace := ["internal/bytealg.IndexByteString", "internal/bytealg.IndexString"], named := ["internal/bytealg.MaxLen"], apart := false, narrowed := true }
def SumsBackUptoSaid : Prop := sumsBackUptoRow.holds Try.pinned (OpenSpec.upto sumsBackSpec)

/-- 'sawmilllaw04.SumsChains', WHERE WHAT IT READS IS OF BULK AT MOST 1048576: true; the input reads as it did. -/
def sumsChainsUptoRow : OpenClaim := { program := "ytiffnnjegfghoaa", sum := "406f8d44ff805960c66cc432bd5d4639ad8c70c3ca13ffe6f91b59281c923f9f", func := "sawmill/sawmilllaw04.SumsChains", spec := "sumsChains", inPlace := ["internal/bytealg.IndexByteString", "internal/bytealg.IndexString"], named := ["internal/bytealg.MaxLen"], apart := false, narrowed := true }
def SumsChainsUptoSaid : Prop := sumsChainsUptoRow.holds Try.pinned (OpenSpec.upto sumsChainsSpec)

/-- 'sawmilllaw04.SumsDetects', WHERE WHAT IT READS IS OF BULK AT MOST 1048576: true; the input reads as it did. -/
def sumsDetectsUptoRow : OpenClaim := { program := "ytiffnnjegfghoaa", sum := "406f8d44ff805960c66cc432bd5d4639ad8c70c3ca13ffe6f91b59281c923f9f", func := "sawmill/sawmilllaw04.SumsDetects", spec := "sumsDetects", inPlace := ["internal/bytealg.IndexByteString", "internal/bytealg.IndexString"], named := ["internal/bytealg.MaxLen"], apart := false, narrowed := true }
def SumsDetectsUptoSaid : Prop := sumsDetectsUptoRow.holds Try.pinned (OpenSpec.upto sumsDetectsSpec)

/-- 'sawmilllaw04.SumsXors', WHERE WHAT IT READS IS OF BULK AT MOST 1048576: true; the input reads as it did. -/
def sumsXorsUptoRow : OpenClaim := { program := "ytiffnnjegfghoaa", sum := "406f8d44ff805960c66cc432bd5d4639ad8c70c3ca13ffe6f91b59281c923f9f", func := "sawmill/sawmilllaw04.SumsXors", spec := "sumsXors", inPlace := ["internal/bytealg.IndexByteString", "internal/bytealg.IndexString"], named := ["internal/bytealg.MaxLen"], apart := false, narrowed := true }
def SumsXorsUptoSaid : Prop := sumsXorsUptoRow.holds Try.pinned (OpenSpec.upto sumsXorsSpec)

end Rows
end Go.Proofs.Ytiffnnjegfghoaa
