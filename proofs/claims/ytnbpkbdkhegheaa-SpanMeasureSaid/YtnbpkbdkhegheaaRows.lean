/-
  No cell of these rows narrows 'for every input' (looked for: loops, veiled, ifaces, maps, wideKeys, modest, calm, conditions, laid).
  DERIVED. THE GIVEN ROWS OF THIS SEAT. 8 by the template 'for every input the law returns true; each argument reads behind the call as it read before'; 0 by the template 'total and deterministic' (their statements: YtnbpkbdkhegheaaTotals.lean).
  GIVEN WITH THE SEED: the statements are not yours to turn. If you find one false, say at which input.
  Laid BY PROGRAM, IN A SANDBOX (cutbox-rows.mjs): the forced cells as the released guide's own fill.sh prints them over the translation 159e62646dac89c7… (all of the seat's roots in one cut). By AI agents, Wed Nov 11 2026. No macro, syntax, notation, axiom, sorry.
-/
import Derived.Test.YtnbpkbdkhegheaaChecked
import GoSem.Claim
import GoSem.ClaimJoined
import GoSem.ClaimMapViews
import Derived.JoinedTies
import Derived.KernelRfl
namespace Go.Proofs.Ytnbpkbdkhegheaa
/- THE CELL 'sum', in the pinned program and in every row, IS THE sha256 OF THE DUMP (.gsa) THAT YtnbpkbdkhegheaaProg.lean LOADS. Nothing in Lean hashes anything: it is a label: what it is worth is what the hold of that sum in a sandbox is worth. -/
noncomputable def Try.pinned : Pinned := { name := "ytnbpkbdkhegheaa", sum := "159e62646dac89c769f1f9542bca401fe2534c47ea90b8856b6588996894488a", checked := Try.checked }
namespace Rows
def none {H : Type} : Left H := { results := [], args := [] }

/-- 'sawmilllaw03.SpanLens': WHATEVER THE INPUT: true; the input reads as it did. -/
def spanLensSpec : ChangeSpec := { name := "spanLens", fn := fun _ => fun
  | [d1, d2] => { results := [.lit (.bool true)], args := [d1, d2] }
  | _ => none }
def spanLensRow : OpenClaim := { program := "ytnbpkbdkhegheaa", sum := "159e62646dac89c769f1f9542bca401fe2534c47ea90b8856b6588996894488a", func := "sawmill/sawmilllaw03.SpanLens", spec := "spanLens", unfollowed := true, recurses := true, apart := false }
def SpanLensSaid : Prop := spanLensRow.holds Try.pinned (OpenSpec.ofChange spanLensSpec)

/-- ITS FALSE NEIGHBOUR: 'it returns false'. Refute it at one input. -/
def spanLensWrong : ChangeSpec := { name := "spanLens", fn := fun _ => fun
  | [d1, d2] => { results := [.lit (.bool false)], args := [d1, d2] }
  | _ => none }
def SpanLensWrongFalsely : Prop := spanLensRow.holds Try.pinned (OpenSpec.ofChange spanLensWrong)

/-- 'sawmilllaw03.SpanCanons': WHATEVER THE INPUT: true; the input reads as it did. -/
def spanCanonsSpec : ChangeSpec := { name := "spanCanons", fn := fun _ => fun
  | [d] => { results := [.lit (.bool true)], args := [d] }
  | _ => none }
def spanCanonsRow : OpenClaim := { program := "ytnbpkbdkhegheaa", sum := "159e62646dac89c769f1f9542bca401fe2534c47ea90b8856b6588996894488a", func := "sawmill/sawmilllaw03.SpanCanons", spec := "spanCanons", unfollowed := true, recurses := true, apart := false }
def SpanCanonsSaid : Prop := spanCanonsRow.holds Try.pinned (OpenSpec.ofChange spanCanonsSpec)

/-- ITS FALSE NEIGHBOUR: 'it returns false'. Refute it at one input. -/
def spanCanonsWrong : ChangeSpec := { name := "spanCanons", fn := fun _ => fun
  | [d] => { results := [.lit (.bool false)], args := [d] }
  | _ => none }
def SpanCanonsWrongFalsely : Prop := spanCanonsRow.holds Try.pinned (OpenSpec.ofChange spanCanonsWrong)

/-- 'sawmilllaw03.SpanSets': WHATEVER THE INPUT: true; the input reads as it did. -/
def spanSetsSpec : ChangeSpec := { name := "spanSets", fn := fun _ => fun
  | [d1, d2] => { results := [.lit (.bool true)], args := [d1, d2] }
  | _ => none }
def spanSetsRow : OpenClaim := { program := "ytnbpkbdkhegheaa", sum := "159e62646dac89c769f1f9542bca401fe2534c47ea90b8856b6588996894488a", func := "sawmill/sawmilllaw03.SpanSets", spec := "spanSets", unfollowed := true, recurses := true, apart := false }
def SpanSetsSaid : Prop := spanSetsRow.holds Try.pinned (OpenSpec.ofChange spanSetsSpec)

/-- ITS FALSE NEIGHBOUR: 'it returns false'. Refute it at one input. -/
def spanSetsWrong : ChangeSpec := { name := "spanSets", fn := fun _ => fun
  | [d1, d2] => { results := [.lit (.bool false)], args := [d1, d2] }
  | _ => none }
def SpanSetsWrongFalsely : Prop := spanSetsRow.holds Try.pinned (OpenSpec.ofChange spanSetsWrong)

/-- 'sawmilllaw03.SpanTotals': WHATEVER THE INPUT: true; the input reads as it did. -/
def spanTotalsSpec : ChangeSpec := { name := "spanTotals", fn := fun _ => fun
  | [d1, d2] => { results := [.lit (.bool true)], args := [d1, d2] }
  | _ => none }
def spanTotalsRow : OpenClaim := { program := "ytnbpkbdkhegheaa", sum := "159e62646dac89c769f1f9542bca401fe2534c47ea90b8856b6588996894488a", func := "sawmill/sawmilllaw03.SpanTotals", spec := "spanTotals", unfollowed := true, recurses := true, apart := false }
def SpanTotalsSaid : Prop := spanTotalsRow.holds Try.pinned (OpenSpec.ofChange spanTotalsSpec)

/-- ITS FALSE NEIGHBOUR: 'it returns false'. Refute it at one input. -/
def spanTotalsWrong : ChangeSpec := { name := "spanTotals", fn := fun _ => fun
  | [d1, d2] => { results := [.lit (.bool false)], args := [d1, d2] }
  | _ => none }
def SpanTotalsWrongFalsely : Prop := spanTotalsRow.holds Try.pinned (OpenSpec.ofChange spanTotalsWrong)

/-- 'sawmilllaw03.SpanMembers': WHATEVER THE INPUT: true; the input reads as it did. -/
def spanMembersSpec : ChangeSpec := { name := "spanMembers", fn := fun _ => fun
  | [d1, d2, d3] => { results := [.lit (.bool true)], args := [d1, d2, d3] }
  | _ => none }
def spanMembersRow : OpenClaim := { program := "ytnbpkbdkhegheaa", sum := "159e62646dac89c769f1f9542bca401fe2534c47ea90b8856b6588996894488a", func := "sawmill/sawmilllaw03.SpanMembers", spec := "spanMembers", unfollowed := true, recurses := true, apart := false }
def SpanMembersSaid : Prop := spanMembersRow.holds Try.pinned (OpenSpec.ofChange spanMembersSpec)

/-- ITS FALSE NEIGHBOUR: 'it returns false'. Refute it at one input. -/
def spanMembersWrong : ChangeSpec := { name := "spanMembers", fn := fun _ => fun
  | [d1, d2, d3] => { results := [.lit (.bool false)], args := [d1, d2, d3] }
  | _ => none }
def SpanMembersWrongFalsely : Prop := spanMembersRow.holds Try.pinned (OpenSpec.ofChange spanMembersWrong)

/-- 'sawmilllaw03.SpanMinus': WHATEVER THE INPUT: true; the input reads as it did. -/
def spanMinusSpec : ChangeSpec := { name := "spanMinus", fn := fun _ => fun
  | [d1, d2, d3] => { results := [.lit (.bool true)], args := [d1, d2, d3] }
  | _ => none }
def spanMinusRow : OpenClaim := { program := "ytnbpkbdkhegheaa", sum := "159e62646dac89c769f1f9542bca401fe2534c47ea90b8856b6588996894488a", func := "sawmill/sawmilllaw03.SpanMinus", spec := "spanMinus", unfollowed := true, recurses := true, apart := false }
def SpanMinusSaid : Prop := spanMinusRow.holds Try.pinned (OpenSpec.ofChange spanMinusSpec)

/-- ITS FALSE NEIGHBOUR: 'it returns false'. Refute it at one input. -/
def spanMinusWrong : ChangeSpec := { name := "spanMinus", fn := fun _ => fun
  | [d1, d2, d3] => { results := [.lit (.bool false)], args := [d1, d2, d3] }
  | _ => none }
def SpanMinusWrongFalsely : Prop := spanMinusRow.holds Try.pinned (OpenSpec.ofChange spanMinusWrong)

/-- 'sawmilllaw03.SpanMeasure': WHATEVER THE INPUT: true; the input reads as it did. -/
def spanMeasureSpec : ChangeSpec := { name := "spanMeasure", fn := fun _ => fun
  | [d1, d2] => { results := [.lit (.bool true)], args := [d1, d2] }
  | _ => none }
def spanMeasureRow : OpenClaim := { program := "ytnbpkbdkhegheaa", sum := "159e62646dac89c769f1f9542bca401fe2534c47ea90b8856b6588996894488a", func := "sawmill/sawmilllaw03.SpanMeasure", spec := "spanMeasure", unfollowed := true, recurses := true, apart := false }
def SpanMeasureSaid : Prop := spanMeasureRow.holds Try.pinned (OpenSpec.ofChange spanMeasureSpec)

/-- ITS FALSE NEIGHBOUR: 'it returns false'. Refute it at one input. -/
def spanMeasureWrong : ChangeSpec := { name := "spanMeasure", fn := fun _ => fun
  | [d1, d2] => { results := [.lit (.bool false)], args := [d1, d2] }
  | _ => none }
def SpanMeasureWrongFalsely : Prop := spanMeasureRow.holds Try.pinned (OpenSpec.ofChange spanMeasureWrong)

/-- 'sawmilllaw03.SpanLongest': WHATEVER THE INPUT: true; the input reads as it did. -/
def spanLongestSpec : ChangeSpec := { name := "spanLongest", fn := fun _ => fun
  | [d] => { results := [.lit (.bool true)], args := [d] }
  | _ => none }
def spanLongestRow : OpenClaim := { program := "ytnbpkbdkhegheaa", sum := "159e62646dac89c769f1f9542bca401fe2534c47ea90b8856b6588996894488a", func := "sawmill/sawmilllaw03.SpanLongest", spec := "spanLongest", unfollowed := true, recurses := true, apart := false }
def SpanLongestSaid : Prop := spanLongestRow.holds Try.pinned (OpenSpec.ofChange spanLongestSpec)

/-- ITS FALSE NEIGHBOUR: 'it returns false'. Refute it at one input. -/
def spanLongestWrong : ChangeSpec := { name := "spanLongest", fn := fun _ => fun
  | [d] => { results := [.lit (.bool false)], args := [d] }
  | _ => none }
def SpanLongestWrongFalsely : Prop := spanLongestRow.holds Try.pinned (OpenSpec.ofChange spanLongestWrong)

/- THE SECOND FORM. 'bulk': how many values and letters a reading holds, each counted each time it is reached (what is shared counts as often as it is met; a slice's spare places count too). A statement '..UptoSaid' is the law's where the arguments, and the package variables that the reading takes, are together of bulk at most 1048576: NARROWER than '..Said'. Prove '..Said' where nothing that the law and all that it calls make is longer than what came in: it says more and counts as full. Else prove '..UptoSaid'. A law counts once. -/
mutual
def uptoBulk {H : Type} : DataW H → Nat
  | .lit (.string bytes) => bytes.length + 1
  | .lit _ => 1
  | .nil => 1
  | .ptr d => uptoBulk d + 1
  | .slice elems spare => uptoBulkAll elems + uptoBulkAll spare + 1
  | .agg parts => uptoBulkAll parts + 1
  | .iface _ d => uptoBulk d + 1
  | .map entries => uptoBulkEntries entries + 1
  | .held _ => 1
def uptoBulkAll {H : Type} : List (DataW H) → Nat
  | [] => 0
  | d :: r => uptoBulk d + uptoBulkAll r
def uptoBulkEntries {H : Type} : List (Lit × DataW H) → Nat
  | [] => 0
  | x :: r => uptoBulkEntry x + uptoBulkEntries r
def uptoBulkEntry {H : Type} : Lit × DataW H → Nat
  | (.string bytes, d) => bytes.length + uptoBulk d + 1
  | (_, d) => uptoBulk d + 1
 end
def uptoSmall : (H : Type) → List (DataW H) → Bool := fun _ ds => decide (uptoBulkAll ds ≤ 1048576)
def OpenSpec.upto (s : _root_.Go.ChangeSpec) : _root_.Go.OpenSpec := { _root_.Go.OpenSpec.ofChange s with cond := some uptoSmall }

/-- 'sawmilllaw03.SpanLens', WHERE WHAT IT READS IS OF BULK AT MOST 1048576: true; the input reads as it did. -/
def spanLensUptoRow : OpenClaim := { program := "ytnbpkbdkhegheaa", sum := "159e62646dac89c769f1f9542bca401fe2534c47ea90b8856b6588996894488a", func := "sawmill/sawmilllaw03.SpanLens", spec := "spanLens", unfollowed := true, recurses := true, apart := false, narrowed := true }
def SpanLensUptoSaid : Prop := spanLensUptoRow.holds Try.pinned (OpenSpec.upto spanLensSpec)

/-- 'sawmilllaw03.SpanCanons', WHERE WHAT IT READS IS OF BULK AT MOST 1048576: true; the input reads as it did. -/
def spanCanonsUptoRow : OpenClaim := { program := "ytnbpkbdkhegheaa", sum := "159e62646dac89c769f1f9542bca401fe2534c47ea90b8856b6588996894488a", func := "sawmill/sawmilllaw03.SpanCanons", spec := "spanCanons", unfollowed := true, recurses := true, apart := false, narrowed := true }
def SpanCanonsUptoSaid : Prop := spanCanonsUptoRow.holds Try.pinned (OpenSpec.upto spanCanonsSpec)

/-- 'sawmilllaw03.SpanSets', WHERE WHAT IT READS IS OF BULK AT MOST 1048576: true; the input reads as it did. -/
def spanSetsUptoRow : OpenClaim := { program := "ytnbpkbdkhegheaa", sum := "159e62646dac89c769f1f9542bca401fe2534c47ea90b8856b6588996894488a", func := "sawmill/sawmilllaw03.SpanSets", spec := "spanSets", unfollowed := true, recurses := true, apart := false, narrowed := true }
def SpanSetsUptoSaid : Prop := spanSetsUptoRow.holds Try.pinned (OpenSpec.upto spanSetsSpec)

/-- 'sawmilllaw03.SpanTotals', WHERE WHAT IT READS IS OF BULK AT MOST 1048576: true; the input reads as it did. -/
def spanTotalsUptoRow : OpenClaim := { program := "ytnbpkbdkhegheaa", sum := "159e62646dac89c769f1f9542bca401fe2534c47ea90b8856b6588996894488a", func := "sawmill/sawmilllaw03.SpanTotals", spec := "spanTotals", unfollowed := true, recurses := true, apart := false, narrowed := true }
def SpanTotalsUptoSaid : Prop := spanTotalsUptoRow.holds Try.pinned (OpenSpec.upto spanTotalsSpec)

/-- 'sawmilllaw03.SpanMembers', WHERE WHAT IT READS IS OF BULK AT MOST 1048576: true; the input reads as it did. -/
def spanMembersUptoRow : OpenClaim := { program := "ytnbpkbdkhegheaa", sum := "159e62646dac89c769f1f9542bca401fe2534c47ea90b8856b6588996894488a", func := "sawmill/sawmilllaw03.SpanMembers", spec := "spanMembers", unfollowed := true, recurses := true, apart := false, narrowed := true }
def SpanMembersUptoSaid : Prop := spanMembersUptoRow.holds Try.pinned (OpenSpec.upto spanMembersSpec)

/-- 'sawmilllaw03.SpanMinus', WHERE WHAT IT READS IS OF BULK AT MOST 1048576: true; the input reads as it did. -/
def spanMinusUptoRow : OpenClaim := { program := "ytnbpkbdkhegheaa", sum := "159e62646dac89c769f1f9542bca401fe2534c47ea90b8856b6588996894488a", func := "sawmill/sawmilllaw03.SpanMinus", spec := "spanMinus", unfollowed := true, recurses := true, apart := false, narrowed := true }
def SpanMinusUptoSaid : Prop := spanMinusUptoRow.holds Try.pinned (OpenSpec.upto spanMinusSpec)

/-- 'sawmilllaw03.SpanMeasure', WHERE WHAT IT READS IS OF BULK AT MOST 1048576: true; the input reads as it did. -/
def spanMeasureUptoRow : OpenClaim := { program := "ytnbpkbdkhegheaa", sum := "159e62646dac89c769f1f9542bca401fe2534c47ea90b8856b6588996894488a", func := "sawmill/sawmilllaw03.SpanMeasure", spec := "spanMeasure", unfollowed := true, recurses := true, apart := false, narrowed := true }
def SpanMeasureUptoSaid : Prop := spanMeasureUptoRow.holds Try.pinned (OpenSpec.upto spanMeasureSpec)

/-- 'sawmilllaw03.SpanLongest', WHERE WHAT IT READS IS OF BULK AT MOST 1048576: true; the input reads as it did. -/
def spanLongestUptoRow : OpenClaim := { program := "ytnbpkbdkhegheaa", sum := "159e62646dac89c769f1f9542bca401fe2534c47ea90b8856b6588996894488a", func := "sawmill/sawmilllaw03.SpanLongest", spec := "spanLongest", unfollowed := true, recurses := true, apart := false, narrowed := true }
def SpanLongestUptoSaid : Prop := spanLongestUptoRow.holds Try.pinned (OpenSpec.upto spanLongestSpec)

end Rows
end Go.Proofs.Ytnbpkbdkhegheaa
