/-
  No cell of these rows narrows 'for every input' (looked for: loops, veiled, ifaces, maps, wideKeys, modest, calm, conditions, laid).
  DERIVED. THE GIVEN ROWS OF THIS SEAT. 8 by the template 'for every input the law returns true; each argument reads behind the call as it read before'; 0 by the template 'total and deterministic' (their statements: YtdebkicmoocnmaaTotals.lean).
  GIVEN WITH THE SEED: the statements are not yours to turn. If you find one false, say at which input.
  Laid BY PROGRAM, IN A SANDBOX (cutbox-rows.mjs): the forced cells as the released guide's own fill.sh prints them over the translation a3cfb344729500a9… (all of the seat's roots in one cut). By AI agents, Wed Nov 11 2026. No macro, syntax, notation, axiom, sorry.
-/
import Derived.Test.YtdebkicmoocnmaaChecked
import GoSem.Claim
import GoSem.ClaimJoined
import GoSem.ClaimMapViews
import Derived.JoinedTies
import Derived.KernelRfl
namespace Go.Proofs.Ytdebkicmoocnmaa
/- THE CELL 'sum', in the pinned program and in every row, IS THE sha256 OF THE DUMP (.gsa) THAT YtdebkicmoocnmaaProg.lean LOADS. Nothing in Lean hashes anything: it is a label: what it is worth is what the hold of that sum in a sandbox is worth. -/
noncomputable def Try.pinned : Pinned := { name := "ytdebkicmoocnmaa", sum := "a3cfb344729500a90469ed2dce7a7722fb53bb04154537cf16f5916499d39e77", checked := Try.checked }
namespace Rows
def none {H : Type} : Left H := { results := [], args := [] }

/-- 'sawmilllaw02.IdentNames': WHATEVER THE INPUT: true; the input reads as it did. -/
def identNamesSpec : ChangeSpec := { name := "identNames", fn := fun _ => fun
  | [d] => { results := [.lit (.bool true)], args := [d] }
  | _ => none }
def identNamesRow : OpenClaim := { program := "ytdebkicmoocnmaa", sum := "a3cfb344729500a90469ed2dce7a7722fb53bb04154537cf16f5916499d39e77", func := "sawmill/sawmilllaw02.IdentNames", spec := "identNames", unfollowed := true, recurses := true, apart := false }
def IdentNamesSaid : Prop := identNamesRow.holds Try.pinned (OpenSpec.ofChange identNamesSpec)

/-- ITS FALSE NEIGHBOUR: 'it returns false'. Refute it at one input. -/
def identNamesWrong : ChangeSpec := { name := "identNames", fn := fun _ => fun
  | [d] => { results := [.lit (.bool false)], args := [d] }
  | _ => none }
def IdentNamesWrongFalsely : Prop := identNamesRow.holds Try.pinned (OpenSpec.ofChange identNamesWrong)

/-- 'sawmilllaw02.IdentLetters': WHATEVER THE INPUT: true; the input reads as it did. -/
def identLettersSpec : ChangeSpec := { name := "identLetters", fn := fun _ => fun
  | [d] => { results := [.lit (.bool true)], args := [d] }
  | _ => none }
def identLettersRow : OpenClaim := { program := "ytdebkicmoocnmaa", sum := "a3cfb344729500a90469ed2dce7a7722fb53bb04154537cf16f5916499d39e77", func := "sawmill/sawmilllaw02.IdentLetters", spec := "identLetters", unfollowed := true, recurses := true, apart := false }
def IdentLettersSaid : Prop := identLettersRow.holds Try.pinned (OpenSpec.ofChange identLettersSpec)

/-- ITS FALSE NEIGHBOUR: 'it returns false'. Refute it at one input. -/
def identLettersWrong : ChangeSpec := { name := "identLetters", fn := fun _ => fun
  | [d] => { results := [.lit (.bool false)], args := [d] }
  | _ => none }
def IdentLettersWrongFalsely : Prop := identLettersRow.holds Try.pinned (OpenSpec.ofChange identLettersWrong)

/-- 'sawmilllaw02.IdentCodes': WHATEVER THE INPUT: true; the input reads as it did. -/
def identCodesSpec : ChangeSpec := { name := "identCodes", fn := fun _ => fun
  | [d1, d2] => { results := [.lit (.bool true)], args := [d1, d2] }
  | _ => none }
def identCodesRow : OpenClaim := { program := "ytdebkicmoocnmaa", sum := "a3cfb344729500a90469ed2dce7a7722fb53bb04154537cf16f5916499d39e77", func := "sawmill/sawmilllaw02.IdentCodes", spec := "identCodes", unfollowed := true, recurses := true, apart := false }
def IdentCodesSaid : Prop := identCodesRow.holds Try.pinned (OpenSpec.ofChange identCodesSpec)

/-- ITS FALSE NEIGHBOUR: 'it returns false'. Refute it at one input. -/
def identCodesWrong : ChangeSpec := { name := "identCodes", fn := fun _ => fun
  | [d1, d2] => { results := [.lit (.bool false)], args := [d1, d2] }
  | _ => none }
def IdentCodesWrongFalsely : Prop := identCodesRow.holds Try.pinned (OpenSpec.ofChange identCodesWrong)

/-- 'sawmilllaw02.IdentSplits': WHATEVER THE INPUT: true; the input reads as it did. -/
def identSplitsSpec : ChangeSpec := { name := "identSplits", fn := fun _ => fun
  | [d1, d2] => { results := [.lit (.bool true)], args := [d1, d2] }
  | _ => none }
def identSplitsRow : OpenClaim := { program := "ytdebkicmoocnmaa", sum := "a3cfb344729500a90469ed2dce7a7722fb53bb04154537cf16f5916499d39e77", func := "sawmill/sawmilllaw02.IdentSplits", spec := "identSplits", unfollowed := true, recurses := true, apart := false }
def IdentSplitsSaid : Prop := identSplitsRow.holds Try.pinned (OpenSpec.ofChange identSplitsSpec)

/-- ITS FALSE NEIGHBOUR: 'it returns false'. Refute it at one input. -/
def identSplitsWrong : ChangeSpec := { name := "identSplits", fn := fun _ => fun
  | [d1, d2] => { results := [.lit (.bool false)], args := [d1, d2] }
  | _ => none }
def IdentSplitsWrongFalsely : Prop := identSplitsRow.holds Try.pinned (OpenSpec.ofChange identSplitsWrong)

/-- 'sawmilllaw02.IdentNexts': WHATEVER THE INPUT: true; the input reads as it did. -/
def identNextsSpec : ChangeSpec := { name := "identNexts", fn := fun _ => fun
  | [d] => { results := [.lit (.bool true)], args := [d] }
  | _ => none }
def identNextsRow : OpenClaim := { program := "ytdebkicmoocnmaa", sum := "a3cfb344729500a90469ed2dce7a7722fb53bb04154537cf16f5916499d39e77", func := "sawmill/sawmilllaw02.IdentNexts", spec := "identNexts", unfollowed := true, recurses := true, apart := false }
def IdentNextsSaid : Prop := identNextsRow.holds Try.pinned (OpenSpec.ofChange identNextsSpec)

/-- ITS FALSE NEIGHBOUR: 'it returns false'. Refute it at one input. -/
def identNextsWrong : ChangeSpec := { name := "identNexts", fn := fun _ => fun
  | [d] => { results := [.lit (.bool false)], args := [d] }
  | _ => none }
def IdentNextsWrongFalsely : Prop := identNextsRow.holds Try.pinned (OpenSpec.ofChange identNextsWrong)

/-- 'sawmilllaw02.IdentBack': WHATEVER THE INPUT: true; the input reads as it did. -/
def identBackSpec : ChangeSpec := { name := "identBack", fn := fun _ => fun
  | [d1, d2, d3] => { results := [.lit (.bool true)], args := [d1, d2, d3] }
  | _ => none }
def identBackRow : OpenClaim := { program := "ytdebkicmoocnmaa", sum := "a3cfb344729500a90469ed2dce7a7722fb53bb04154537cf16f5916499d39e77", func := "sawmill/sawmilllaw02.IdentBack", spec := "identBack", unfollowed := true, recurses := true, apart := false }
def IdentBackSaid : Prop := identBackRow.holds Try.pinned (OpenSpec.ofChange identBackSpec)

/-- ITS FALSE NEIGHBOUR: 'it returns false'. Refute it at one input. -/
def identBackWrong : ChangeSpec := { name := "identBack", fn := fun _ => fun
  | [d1, d2, d3] => { results := [.lit (.bool false)], args := [d1, d2, d3] }
  | _ => none }
def IdentBackWrongFalsely : Prop := identBackRow.holds Try.pinned (OpenSpec.ofChange identBackWrong)

/-- 'sawmilllaw02.IdentDetects': WHATEVER THE INPUT: true; the input reads as it did. -/
def identDetectsSpec : ChangeSpec := { name := "identDetects", fn := fun _ => fun
  | [d1, d2, d3] => { results := [.lit (.bool true)], args := [d1, d2, d3] }
  | _ => none }
def identDetectsRow : OpenClaim := { program := "ytdebkicmoocnmaa", sum := "a3cfb344729500a90469ed2dce7a7722fb53bb04154537cf16f5916499d39e77", func := "sawmill/sawmilllaw02.IdentDetects", spec := "identDetects", unfollowed := true, recurses := true, apart := false }
def IdentDetectsSaid : Prop := identDetectsRow.holds Try.pinned (OpenSpec.ofChange identDetectsSpec)

/-- ITS FALSE NEIGHBOUR: 'it returns false'. Refute it at one input. -/
def identDetectsWrong : ChangeSpec := { name := "identDetects", fn := fun _ => fun
  | [d1, d2, d3] => { results := [.lit (.bool false)], args := [d1, d2, d3] }
  | _ => none }
def IdentDetectsWrongFalsely : Prop := identDetectsRow.holds Try.pinned (OpenSpec.ofChange identDetectsWrong)

/-- 'sawmilllaw02.IdentOrder': WHATEVER THE INPUT: true; the input reads as it did. -/
def identOrderSpec : ChangeSpec := { name := "identOrder", fn := fun _ => fun
  | [d1, d2, d3] => { results := [.lit (.bool true)], args := [d1, d2, d3] }
  | _ => none }
def identOrderRow : OpenClaim := { program := "ytdebkicmoocnmaa", sum := "a3cfb344729500a90469ed2dce7a7722fb53bb04154537cf16f5916499d39e77", func := "sawmill/sawmilllaw02.IdentOrder", spec := "identOrder", unfollowed := true, recurses := true, apart := false }
def IdentOrderSaid : Prop := identOrderRow.holds Try.pinned (OpenSpec.ofChange identOrderSpec)

/-- ITS FALSE NEIGHBOUR: 'it returns false'. Refute it at one input. -/
def identOrderWrong : ChangeSpec := { name := "identOrder", fn := fun _ => fun
  | [d1, d2, d3] => { results := [.lit (.bool false)], args := [d1, d2, d3] }
  | _ => none }
def IdentOrderWrongFalsely : Prop := identOrderRow.holds Try.pinned (OpenSpec.ofChange identOrderWrong)

/- THE SECOND FORM. 'bulk': how many values and letters a reading holds, each counted each time it is reached (what is shared counts as often as it is met; a slice's spare places count too). A statement '..UptoSaid' is the law's where the arguments, and the package variables that the reading takes, are together of bulk at most 1048576: NARROWER than '..Said'. Prove '..Said' where nothing that the law and all that it calls make is longer than what came in: it says more and counts as full. Else prove '..UptoSaid'. A law counts once. -/
mutual
def uptoBulk {H : Type} : DataW H → Nat
  | .lit (.string bytes) => bytes.length + 1
  | .lit _ => 1
  | .nil => 1
  | .ptr d => uptoBulk d + 1
  | .slice elems spare => uptoBulkAll elems + uptoBulkAll spare + 1
  | .agg parts => uptoBulkAll parts + 1
  | .iface _ d => uptoBulk d + 1
  | .map entries => uptoBulkEntries entries + 1
  | .held _ => 1
def uptoBulkAll {H : Type} : List (DataW H) → Nat
  | [] => 0
  | d :: r => uptoBulk d + uptoBulkAll r
def uptoBulkEntries {H : Type} : List (Lit × DataW H) → Nat
  | [] => 0
  | x :: r => uptoBulkEntry x + uptoBulkEntries r
def uptoBulkEntry {H : Type} : Lit × DataW H → Nat
  | (.string bytes, d) => bytes.length + uptoBulk d + 1
  | (_, d) => uptoBulk d + 1
 end
def uptoSmall : (H : Type) → List (DataW H) → Bool := fun _ ds => decide (uptoBulkAll ds ≤ 1048576)
def OpenSpec.upto (s : _root_.Go.ChangeSpec) : _root_.Go.OpenSpec := { _root_.Go.OpenSpec.ofChange s with cond := some uptoSmall }

/-- 'sawmilllaw02.IdentNames', WHERE WHAT IT READS IS OF BULK AT MOST 1048576: true; the input reads as it did. -/
def identNamesUptoRow : OpenClaim := { program := "ytdebkicmoocnmaa", sum := "a3cfb344729500a90469ed2dce7a7722fb53bb04154537cf16f5916499d39e77", func := "sawmill/sawmilllaw02.IdentNames", spec := "identNames", unfollowed := true, recurses := true, apart := false, narrowed := true }
def IdentNamesUptoSaid : Prop := identNamesUptoRow.holds Try.pinned (OpenSpec.upto identNamesSpec)

/-- 'sawmilllaw02.IdentLetters', WHERE WHAT IT READS IS OF BULK AT MOST 1048576: true; the input reads as it did. -/
def identLettersUptoRow : OpenClaim := { program := "ytdebkicmoocnmaa", sum := "a3cfb344729500a90469ed2dce7a7722fb53bb04154537cf16f5916499d39e77", func := "sawmill/sawmilllaw02.IdentLetters", spec := "identLetters", unfollowed := true, recurses := true, apart := false, narrowed := true }
def IdentLettersUptoSaid : Prop := identLettersUptoRow.holds Try.pinned (OpenSpec.upto identLettersSpec)

/-- 'sawmilllaw02.IdentCodes', WHERE WHAT IT READS IS OF BULK AT MOST 1048576: true; the input reads as it did. -/
def identCodesUptoRow : OpenClaim := { program := "ytdebkicmoocnmaa", sum := "a3cfb344729500a90469ed2dce7a7722fb53bb04154537cf16f5916499d39e77", func := "sawmill/sawmilllaw02.IdentCodes", spec := "identCodes", unfollowed := true, recurses := true, apart := false, narrowed := true }
def IdentCodesUptoSaid : Prop := identCodesUptoRow.holds Try.pinned (OpenSpec.upto identCodesSpec)

/-- 'sawmilllaw02.IdentSplits', WHERE WHAT IT READS IS OF BULK AT MOST 1048576: true; the input reads as it did. -/
def identSplitsUptoRow : OpenClaim := { program := "ytdebkicmoocnmaa", sum := "a3cfb344729500a90469ed2dce7a7722fb53bb04154537cf16f5916499d39e77", func := "sawmill/sawmilllaw02.IdentSplits", spec := "identSplits", unfollowed := true, recurses := true, apart := false, narrowed := true }
def IdentSplitsUptoSaid : Prop := identSplitsUptoRow.holds Try.pinned (OpenSpec.upto identSplitsSpec)

/-- 'sawmilllaw02.IdentNexts', WHERE WHAT IT READS IS OF BULK AT MOST 1048576: true; the input reads as it did. -/
def identNextsUptoRow : OpenClaim := { program := "ytdebkicmoocnmaa", sum := "a3cfb344729500a90469ed2dce7a7722fb53bb04154537cf16f5916499d39e77", func := "sawmill/sawmilllaw02.IdentNexts", spec := "identNexts", unfollowed := true, recurses := true, apart := false, narrowed := true }
def IdentNextsUptoSaid : Prop := identNextsUptoRow.holds Try.pinned (OpenSpec.upto identNextsSpec)

/-- 'sawmilllaw02.IdentBack', WHERE WHAT IT READS IS OF BULK AT MOST 1048576: true; the input reads as it did. -/
def identBackUptoRow : OpenClaim := { program := "ytdebkicmoocnmaa", sum := "a3cfb344729500a90469ed2dce7a7722fb53bb04154537cf16f5916499d39e77", func := "sawmill/sawmilllaw02.IdentBack", spec := "identBack", unfollowed := true, recurses := true, apart := false, narrowed := true }
def IdentBackUptoSaid : Prop := identBackUptoRow.holds Try.pinned (OpenSpec.upto identBackSpec)

/-- 'sawmilllaw02.IdentDetects', WHERE WHAT IT READS IS OF BULK AT MOST 1048576: true; the input reads as it did. -/
def identDetectsUptoRow : OpenClaim := { program := "ytdebkicmoocnmaa", sum := "a3cfb344729500a90469ed2dce7a7722fb53bb04154537cf16f5916499d39e77", func := "sawmill/sawmilllaw02.IdentDetects", spec := "identDetects", unfollowed := true, recurses := true, apart := false, narrowed := true }
def IdentDetectsUptoSaid : Prop := identDetectsUptoRow.holds Try.pinned (OpenSpec.upto identDetectsSpec)

/-- 'sawmilllaw02.IdentOrder', WHERE WHAT IT READS IS OF BULK AT MOST 1048576: true; the input reads as it did. -/
def identOrderUptoRow : OpenClaim := { program := "ytdebkicmoocnmaa", sum := "a3cfb344729500a90469ed2dce7a7722fb53bb04154537cf16f5916499d39e77", func := "sawmill/sawmilllaw02.IdentOrder", spec := "identOrder", unfollowed := true, recurses := true, apart := false, narrowed := true }
def IdentOrderUptoSaid : Prop := identOrderUptoRow.holds Try.pinned (OpenSpec.upto identOrderSpec)

end Rows
end Go.Proofs.Ytdebkicmoocnmaa
