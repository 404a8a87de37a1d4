/-
  No cell of these rows narrows 'for every input' (looked for: loops, veiled, ifaces, maps, wideKeys, modest, calm, conditions, laid).
  DERIVED. THE GIVEN ROWS OF THIS SEAT. 9 by the template 'for every input the law returns true; each argument reads behind the call as it read before'; 0 by the template 'total and deterministic' (their statements: YtkkghejbdakmpaaTotals.lean).
  GIVEN WITH THE SEED: the statements are not yours to turn. If you find one false, say at which input.
  Laid BY PROGRAM, IN A SANDBOX (cutbox-rows.mjs): the forced cells as the released guide's own fill.sh prints them over the translation 415bfab2d819358b… (all of the seat's roots in one cut). By AI agents, Wed Nov 11 2026. No macro, syntax, notation, axiom, sorry.
-/
import Derived.Test.YtkkghejbdakmpaaChecked
import GoSem.Claim
import GoSem.ClaimJoined
import GoSem.ClaimMapViews
import Derived.JoinedTies
import Derived.KernelRfl
namespace Go.Proofs.Ytkkghejbdakmpaa
/- THE CELL 'sum', in the pinned program and in every row, IS THE sha256 OF THE DUMP (.gsa) THAT YtkkghejbdakmpaaProg.lean LOADS. Nothing in Lean hashes anything: it is a label: what it is worth is what the hold of that sum in a sandbox is worth. -/
noncomputable def Try.pinned : Pinned := { name := "ytkkghejbdakmpaa", sum := "415bfab2d819358b89c7c890b3d13ae8029e83f5c57084c9143470b24293d3da", checked := Try.checked }
namespace Rows
def none {H : Type} : Left H := { results := [], args := [] }

/-- 'sawmilllaw09.PolyChecks': WHATEVER THE INPUT: true; the input reads as it did. -/
def polyChecksSpec : ChangeSpec := { name := "polyChecks", fn := fun _ => fun
  | [d] => { results := [.lit (.bool true)], args := [d] }
  | _ => none }
def polyChecksRow : OpenClaim := { program := "ytkkghejbdakmpaa", sum := "415bfab2d819358b89c7c890b3d13ae8029e83f5c57084c9143470b24293d3da", func := "sawmill/sawmilllaw09.PolyChecks", spec := "polyChecks", unfollowed := true, recurses := true, apart := false }
def PolyChecksSaid : Prop := polyChecksRow.holds Try.pinned (OpenSpec.ofChange polyChecksSpec)

/-- ITS FALSE NEIGHBOUR: 'it returns false'. Refute it at one input. -/
def polyChecksWrong : ChangeSpec := { name := "polyChecks", fn := fun _ => fun
  | [d] => { results := [.lit (.bool false)], args := [d] }
  | _ => none }
def PolyChecksWrongFalsely : Prop := polyChecksRow.holds Try.pinned (OpenSpec.ofChange polyChecksWrong)

/-- 'sawmilllaw09.PolyTurns': WHATEVER THE INPUT: true; the input reads as it did. -/
def polyTurnsSpec : ChangeSpec := { name := "polyTurns", fn := fun _ => fun
  | [d1, d2] => { results := [.lit (.bool true)], args := [d1, d2] }
  | _ => none }
def polyTurnsRow : OpenClaim := { program := "ytkkghejbdakmpaa", sum := "415bfab2d819358b89c7c890b3d13ae8029e83f5c57084c9143470b24293d3da", func := "sawmill/sawmilllaw09.PolyTurns", spec := "polyTurns", unfollowed := true, recurses := true, apart := false }
def PolyTurnsSaid : Prop := polyTurnsRow.holds Try.pinned (OpenSpec.ofChange polyTurnsSpec)

/-- ITS FALSE NEIGHBOUR: 'it returns false'. Refute it at one input. -/
def polyTurnsWrong : ChangeSpec := { name := "polyTurns", fn := fun _ => fun
  | [d1, d2] => { results := [.lit (.bool false)], args := [d1, d2] }
  | _ => none }
def PolyTurnsWrongFalsely : Prop := polyTurnsRow.holds Try.pinned (OpenSpec.ofChange polyTurnsWrong)

/-- 'sawmilllaw09.PolyHas': WHATEVER THE INPUT: true; the input reads as it did. -/
def polyHasSpec : ChangeSpec := { name := "polyHas", fn := fun _ => fun
  | [d1, d2] => { results := [.lit (.bool true)], args := [d1, d2] }
  | _ => none }
def polyHasRow : OpenClaim := { program := "ytkkghejbdakmpaa", sum := "415bfab2d819358b89c7c890b3d13ae8029e83f5c57084c9143470b24293d3da", func := "sawmill/sawmilllaw09.PolyHas", spec := "polyHas", unfollowed := true, recurses := true, apart := false }
def PolyHasSaid : Prop := polyHasRow.holds Try.pinned (OpenSpec.ofChange polyHasSpec)

/-- ITS FALSE NEIGHBOUR: 'it returns false'. Refute it at one input. -/
def polyHasWrong : ChangeSpec := { name := "polyHas", fn := fun _ => fun
  | [d1, d2] => { results := [.lit (.bool false)], args := [d1, d2] }
  | _ => none }
def PolyHasWrongFalsely : Prop := polyHasRow.holds Try.pinned (OpenSpec.ofChange polyHasWrong)

/-- 'sawmilllaw09.PolyHulls': WHATEVER THE INPUT: true; the input reads as it did. -/
def polyHullsSpec : ChangeSpec := { name := "polyHulls", fn := fun _ => fun
  | [d] => { results := [.lit (.bool true)], args := [d] }
  | _ => none }
def polyHullsRow : OpenClaim := { program := "ytkkghejbdakmpaa", sum := "415bfab2d819358b89c7c890b3d13ae8029e83f5c57084c9143470b24293d3da", func := "sawmill/sawmilllaw09.PolyHulls", spec := "polyHulls", unfollowed := true, recurses := true, apart := false }
def PolyHullsSaid : Prop := polyHullsRow.holds Try.pinned (OpenSpec.ofChange polyHullsSpec)

/-- ITS FALSE NEIGHBOUR: 'it returns false'. Refute it at one input. -/
def polyHullsWrong : ChangeSpec := { name := "polyHulls", fn := fun _ => fun
  | [d] => { results := [.lit (.bool false)], args := [d] }
  | _ => none }
def PolyHullsWrongFalsely : Prop := polyHullsRow.holds Try.pinned (OpenSpec.ofChange polyHullsWrong)

/-- 'sawmilllaw09.PolyChords': WHATEVER THE INPUT: true; the input reads as it did. -/
def polyChordsSpec : ChangeSpec := { name := "polyChords", fn := fun _ => fun
  | [d1, d2, d3] => { results := [.lit (.bool true)], args := [d1, d2, d3] }
  | _ => none }
def polyChordsRow : OpenClaim := { program := "ytkkghejbdakmpaa", sum := "415bfab2d819358b89c7c890b3d13ae8029e83f5c57084c9143470b24293d3da", func := "sawmill/sawmilllaw09.PolyChords", spec := "polyChords", unfollowed := true, recurses := true, apart := false }
def PolyChordsSaid : Prop := polyChordsRow.holds Try.pinned (OpenSpec.ofChange polyChordsSpec)

/-- ITS FALSE NEIGHBOUR: 'it returns false'. Refute it at one input. -/
def polyChordsWrong : ChangeSpec := { name := "polyChords", fn := fun _ => fun
  | [d1, d2, d3] => { results := [.lit (.bool false)], args := [d1, d2, d3] }
  | _ => none }
def PolyChordsWrongFalsely : Prop := polyChordsRow.holds Try.pinned (OpenSpec.ofChange polyChordsWrong)

/-- 'sawmilllaw09.PolyBack': WHATEVER THE INPUT: true; the input reads as it did. -/
def polyBackSpec : ChangeSpec := { name := "polyBack", fn := fun _ => fun
  | [d1, d2, d3] => { results := [.lit (.bool true)], args := [d1, d2, d3] }
  | _ => none }
def polyBackRow : OpenClaim := { program := "ytkkghejbdakmpaa", sum := "415bfab2d819358b89c7c890b3d13ae8029e83f5c57084c9143470b24293d3da", func := "sawmill/sawmilllaw09.PolyBack", spec := "polyBack", unfollowed := true, recurses := true, apart := false }
def PolyBackSaid : Prop := polyBackRow.holds Try.pinned (OpenSpec.ofChange polyBackSpec)

/-- ITS FALSE NEIGHBOUR: 'it returns false'. Refute it at one input. -/
def polyBackWrong : ChangeSpec := { name := "polyBack", fn := fun _ => fun
  | [d1, d2, d3] => { results := [.lit (.bool false)], args := [d1, d2, d3] }
  | _ => none }
def PolyBackWrongFalsely : Prop := polyBackRow.holds Try.pinned (OpenSpec.ofChange polyBackWrong)

/-- 'sawmilllaw09.PolyConvex': WHATEVER THE INPUT: true; the input reads as it did. -/
def polyConvexSpec : ChangeSpec := { name := "polyConvex", fn := fun _ => fun
  | [d] => { results := [.lit (.bool true)], args := [d] }
  | _ => none }
def polyConvexRow : OpenClaim := { program := "ytkkghejbdakmpaa", sum := "415bfab2d819358b89c7c890b3d13ae8029e83f5c57084c9143470b24293d3da", func := "sawmill/sawmilllaw09.PolyConvex", spec := "polyConvex", unfollowed := true, recurses := true, apart := false }
def PolyConvexSaid : Prop := polyConvexRow.holds Try.pinned (OpenSpec.ofChange polyConvexSpec)

/-- ITS FALSE NEIGHBOUR: 'it returns false'. Refute it at one input. -/
def polyConvexWrong : ChangeSpec := { name := "polyConvex", fn := fun _ => fun
  | [d] => { results := [.lit (.bool false)], args := [d] }
  | _ => none }
def PolyConvexWrongFalsely : Prop := polyConvexRow.holds Try.pinned (OpenSpec.ofChange polyConvexWrong)

/-- 'sawmilllaw09.PolyChord': WHATEVER THE INPUT: true; the input reads as it did. -/
def polyChordSpec : ChangeSpec := { name := "polyChord", fn := fun _ => fun
  | [d1, d2, d3] => { results := [.lit (.bool true)], args := [d1, d2, d3] }
  | _ => none }
def polyChordRow : OpenClaim := { program := "ytkkghejbdakmpaa", sum := "415bfab2d819358b89c7c890b3d13ae8029e83f5c57084c9143470b24293d3da", func := "sawmill/sawmilllaw09.PolyChord", spec := "polyChord", unfollowed := true, recurses := true, apart := false }
def PolyChordSaid : Prop := polyChordRow.holds Try.pinned (OpenSpec.ofChange polyChordSpec)

/-- ITS FALSE NEIGHBOUR: 'it returns false'. Refute it at one input. -/
def polyChordWrong : ChangeSpec := { name := "polyChord", fn := fun _ => fun
  | [d1, d2, d3] => { results := [.lit (.bool false)], args := [d1, d2, d3] }
  | _ => none }
def PolyChordWrongFalsely : Prop := polyChordRow.holds Try.pinned (OpenSpec.ofChange polyChordWrong)

/-- 'sawmilllaw09.PolyWithin': WHATEVER THE INPUT: true; the input reads as it did. -/
def polyWithinSpec : ChangeSpec := { name := "polyWithin", fn := fun _ => fun
  | [d1, d2, d3] => { results := [.lit (.bool true)], args := [d1, d2, d3] }
  | _ => none }
def polyWithinRow : OpenClaim := { program := "ytkkghejbdakmpaa", sum := "415bfab2d819358b89c7c890b3d13ae8029e83f5c57084c9143470b24293d3da", func := "sawmill/sawmilllaw09.PolyWithin", spec := "polyWithin", unfollowed := true, recurses := true, apart := false }
def PolyWithinSaid : Prop := polyWithinRow.holds Try.pinned (OpenSpec.ofChange polyWithinSpec)

/-- ITS FALSE NEIGHBOUR: 'it returns false'. Refute it at one input. -/
def polyWithinWrong : ChangeSpec := { name := "polyWithin", fn := fun _ => fun
  | [d1, d2, d3] => { results := [.lit (.bool false)], args := [d1, d2, d3] }
  | _ => none }
def PolyWithinWrongFalsely : Prop := polyWithinRow.holds Try.pinned (OpenSpec.ofChange polyWithinWrong)

/- THE SECOND FORM. 'bulk': how many values and letters a reading holds, each counted each time it is reached (what is shared counts as often as it is met; a slice's spare places count too). A statement '..UptoSaid' is the law's where the arguments, and the package variables that the reading takes, are together of bulk at most 1048576: NARROWER than '..Said'. Prove '..Said' where nothing that the law and all that it calls make is longer than what came in: it says more and counts as full. Else prove '..UptoSaid'. A law counts once. -/
mutual
def uptoBulk {H : Type} : DataW H → Nat
  | .lit (.string bytes) => bytes.length + 1
  | .lit _ => 1
  | .nil => 1
  | .ptr d => uptoBulk d + 1
  | .slice elems spare => uptoBulkAll elems + uptoBulkAll spare + 1
  | .agg parts => uptoBulkAll parts + 1
  | .iface _ d => uptoBulk d + 1
  | .map entries => uptoBulkEntries entries + 1
  | .held _ => 1
def uptoBulkAll {H : Type} : List (DataW H) → Nat
  | [] => 0
  | d :: r => uptoBulk d + uptoBulkAll r
def uptoBulkEntries {H : Type} : List (Lit × DataW H) → Nat
  | [] => 0
  | x :: r => uptoBulkEntry x + uptoBulkEntries r
def uptoBulkEntry {H : Type} : Lit × DataW H → Nat
  | (.string bytes, d) => bytes.length + uptoBulk d + 1
  | (_, d) => uptoBulk d + 1
 end
def uptoSmall : (H : Type) → List (DataW H) → Bool := fun _ ds => decide (uptoBulkAll ds ≤ 1048576)
def OpenSpec.upto (s : _root_.Go.ChangeSpec) : _root_.Go.OpenSpec := { _root_.Go.OpenSpec.ofChange s with cond := some uptoSmall }

/-- 'sawmilllaw09.PolyChecks', WHERE WHAT IT READS IS OF BULK AT MOST 1048576: true; the input reads as it did. -/
def polyChecksUptoRow : OpenClaim := { program := "ytkkghejbdakmpaa", sum := "415bfab2d819358b89c7c890b3d13ae8029e83f5c57084c9143470b24293d3da", func := "sawmill/sawmilllaw09.PolyChecks", spec := "polyChecks", unfollowed := true, recurses := true, apart := false, narrowed := true }
def PolyChecksUptoSaid : Prop := polyChecksUptoRow.holds Try.pinned (OpenSpec.upto polyChecksSpec)

/-- 'sawmilllaw09.PolyTurns', WHERE WHAT IT READS IS OF BULK AT MOST 1048576: true; the input reads as it did. -/
def polyTurnsUptoRow : OpenClaim := { program := "ytkkghejbdakmpaa", sum := "415bfab2d819358b89c7c890b3d13ae8029e83f5c57084c9143470b24293d3da", func := "sawmill/sawmilllaw09.PolyTurns", spec := "polyTurns", unfollowed := true, recurses := true, apart := false, narrowed := true }
def PolyTurnsUptoSaid : Prop := polyTurnsUptoRow.holds Try.pinned (OpenSpec.upto polyTurnsSpec)

/-- 'sawmilllaw09.PolyHas', WHERE WHAT IT READS IS OF BULK AT MOST 1048576: true; the input reads as it did. -/
def polyHasUptoRow : OpenClaim := { program := "ytkkghejbdakmpaa", sum := "415bfab2d819358b89c7c890b3d13ae8029e83f5c57084c9143470b24293d3da", func := "sawmill/sawmilllaw09.PolyHas", spec := "polyHas", unfollowed := true, recurses := true, apart := false, narrowed := true }
def PolyHasUptoSaid : Prop := polyHasUptoRow.holds Try.pinned (OpenSpec.upto polyHasSpec)

/-- 'sawmilllaw09.PolyHulls', WHERE WHAT IT READS IS OF BULK AT MOST 1048576: true; the input reads as it did. -/
def polyHullsUptoRow : OpenClaim := { program := "ytkkghejbdakmpaa", sum := "415bfab2d819358b89c7c890b3d13ae8029e83f5c57084c9143470b24293d3da", func := "sawmill/sawmilllaw09.PolyHulls", spec := "polyHulls", unfollowed := true, recurses := true, apart := false, narrowed := true }
def PolyHullsUptoSaid : Prop := polyHullsUptoRow.holds Try.pinned (OpenSpec.upto polyHullsSpec)

/-- 'sawmilllaw09.PolyChords', WHERE WHAT IT READS IS OF BULK AT MOST 1048576: true; the input reads as it did. -/
def polyChordsUptoRow : OpenClaim := { program := "ytkkghejbdakmpaa", sum := "415bfab2d819358b89c7c890b3d13ae8029e83f5c57084c9143470b24293d3da", func := "sawmill/sawmilllaw09.PolyChords", spec := "polyChords", unfollowed := true, recurses := true, apart := false, narrowed := true }
def PolyChordsUptoSaid : Prop := polyChordsUptoRow.holds Try.pinned (OpenSpec.upto polyChordsSpec)

/-- 'sawmilllaw09.PolyBack', WHERE WHAT IT READS IS OF BULK AT MOST 1048576: true; the input reads as it did. -/
def polyBackUptoRow : OpenClaim := { program := "ytkkghejbdakmpaa", sum := "415bfab2d819358b89c7c890b3d13ae8029e83f5c57084c9143470b24293d3da", func := "sawmill/sawmilllaw09.PolyBack", spec := "polyBack", unfollowed := true, recurses := true, apart := false, narrowed := true }
def PolyBackUptoSaid : Prop := polyBackUptoRow.holds Try.pinned (OpenSpec.upto polyBackSpec)

/-- 'sawmilllaw09.PolyConvex', WHERE WHAT IT READS IS OF BULK AT MOST 1048576: true; the input reads as it did. -/
def polyConvexUptoRow : OpenClaim := { program := "ytkkghejbdakmpaa", sum := "415bfab2d819358b89c7c890b3d13ae8029e83f5c57084c9143470b24293d3da", func := "sawmill/sawmilllaw09.PolyConvex", spec := "polyConvex", unfollowed := true, recurses := true, apart := false, narrowed := true }
def PolyConvexUptoSaid : Prop := polyConvexUptoRow.holds Try.pinned (OpenSpec.upto polyConvexSpec)

/-- 'sawmilllaw09.PolyChord', WHERE WHAT IT READS IS OF BULK AT MOST 1048576: true; the input reads as it did. -/
def polyChordUptoRow : OpenClaim := { program := "ytkkghejbdakmpaa", sum := "415bfab2d819358b89c7c890b3d13ae8029e83f5c57084c9143470b24293d3da", func := "sawmill/sawmilllaw09.PolyChord", spec := "polyChord", unfollowed := true, recurses := true, apart := false, narrowed := true }
def PolyChordUptoSaid : Prop := polyChordUptoRow.holds Try.pinned (OpenSpec.upto polyChordSpec)

/-- 'sawmilllaw09.PolyWithin', WHERE WHAT IT READS IS OF BULK AT MOST 1048576: true; the input reads as it did. -/
def polyWithinUptoRow : OpenClaim := { program := "ytkkghejbdakmpaa", sum := "415bfab2d819358b89c7c890b3d13ae8029e83f5c57084c9143470b24293d3da", func := "sawmill/sawmilllaw09.PolyWithin", spec := "polyWithin", unfollowed := true, recurses := true, apart := false, narrowed := true }
def PolyWithinUptoSaid : Prop := polyWithinUptoRow.holds Try.pinned (OpenSpec.upto polyWithinSpec)

end Rows
end Go.Proofs.Ytkkghejbdakmpaa
