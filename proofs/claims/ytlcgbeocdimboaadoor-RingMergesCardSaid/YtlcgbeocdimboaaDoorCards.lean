/-
  DERIVED. GIVEN WITH THE SEED: THE CARDS: each row of YtlcgbeocdimboaaDoorRows.lean that lists a variable, with what it lists TIED to the program's text (the seventh form; the later family's looks); each row that meets fmt, with fmt's text TOLD by the authors' own Lean function (tested against real Go, not proved from fmt's source: count such statements apart). THE CARD IS WHAT COUNTS. Prove the row's statement (the work); the ties are given (YtlcgbeocdimboaaDoorTie.lean); close each card by the builder's one call (the guide's Derived/Test/ToyasCard.lean, 'card_holds'). Laid BY PROGRAM, IN A SANDBOX (cutbox-door.mjs). By AI agents, Wed Nov 11 2026. No macro, syntax, notation, axiom, sorry.
-/
import Derived.Test.YtlcgbeocdimboaaDoorRows
import GoSem.ClaimSeven
namespace Go.Proofs.YtlcgbeocdimboaaDoor
namespace Rows

/-- THE TIED CARD OF 'sawmilllaw12.RingChecks'. -/
def ringChecksCard : Claim7 := { stood := { row := ringChecksRow, standIns := [], harness := (true, "44bf3506a3cd75778c0235901a5e504554a5a2966072b992b4412c8f2309699d"), looks := false }, kinds := [], alts := [], laidByText := true, laidKinds := [.data], laidTests := true, laidLooks := .later }
def RingChecksCardSaid : Prop := Claim7.holds Tryd.pinned (.plain (OpenSpec.ofChange ringChecksSpec)) ringChecksCard

/-- THE TIED CARD OF 'sawmilllaw12.RingCleans'. -/
def ringCleansCard : Claim7 := { stood := { row := ringCleansRow, standIns := [], harness := (true, "44bf3506a3cd75778c0235901a5e504554a5a2966072b992b4412c8f2309699d"), looks := false }, kinds := [], alts := [], laidByText := true, laidKinds := [.data], laidTests := true, laidLooks := .later }
def RingCleansCardSaid : Prop := Claim7.holds Tryd.pinned (.plain (OpenSpec.ofChange ringCleansSpec)) ringCleansCard

/-- THE TIED CARD OF 'sawmilllaw12.RingRepairs'. -/
def ringRepairsCard : Claim7 := { stood := { row := ringRepairsRow, standIns := [], harness := (true, "44bf3506a3cd75778c0235901a5e504554a5a2966072b992b4412c8f2309699d"), looks := false }, kinds := [], alts := [], laidByText := true, laidKinds := [.data], laidTests := true, laidLooks := .later }
def RingRepairsCardSaid : Prop := Claim7.holds Tryd.pinned (.plain (OpenSpec.ofChange ringRepairsSpec)) ringRepairsCard

/-- THE TIED CARD OF 'sawmilllaw12.RingMerges'. -/
def ringMergesCard : Claim7 := { stood := { row := ringMergesRow, standIns := [], harness := (true, "44bf3506a3cd75778c0235901a5e504554a5a2966072b992b4412c8f2309699d"), looks := false }, kinds := [], alts := [], laidByText := true, laidKinds := [.data], laidTests := true, laidLooks := .later }
def RingMergesCardSaid : Prop := Claim7.holds Tryd.pinned (.plain (OpenSpec.ofChange ringMergesSpec)) ringMergesCard

/-- THE TIED CARD OF 'sawmilllaw12.RingKeeps'. -/
def ringKeepsCard : Claim7 := { stood := { row := ringKeepsRow, standIns := [], harness := (true, "44bf3506a3cd75778c0235901a5e504554a5a2966072b992b4412c8f2309699d"), looks := false }, kinds := [], alts := [], laidByText := true, laidKinds := [.data], laidTests := true, laidLooks := .later }
def RingKeepsCardSaid : Prop := Claim7.holds Tryd.pinned (.plain (OpenSpec.ofChange ringKeepsSpec)) ringKeepsCard

/-- THE TIED CARD OF 'sawmilllaw12.RingFills'. -/
def ringFillsCard : Claim7 := { stood := { row := ringFillsRow, standIns := [], harness := (true, "44bf3506a3cd75778c0235901a5e504554a5a2966072b992b4412c8f2309699d"), looks := false }, kinds := [], alts := [], laidByText := true, laidKinds := [.data], laidTests := true, laidLooks := .later }
def RingFillsCardSaid : Prop := Claim7.holds Tryd.pinned (.plain (OpenSpec.ofChange ringFillsSpec)) ringFillsCard

/-- THE TIED CARD OF 'sawmilllaw12.RingTwice'. -/
def ringTwiceCard : Claim7 := { stood := { row := ringTwiceRow, standIns := [], harness := (true, "44bf3506a3cd75778c0235901a5e504554a5a2966072b992b4412c8f2309699d"), looks := false }, kinds := [], alts := [], laidByText := true, laidKinds := [.data], laidTests := true, laidLooks := .later }
def RingTwiceCardSaid : Prop := Claim7.holds Tryd.pinned (.plain (OpenSpec.ofChange ringTwiceSpec)) ringTwiceCard

/-- THE SECOND FORM's CARD OF 'sawmilllaw12.RingChecks'. -/
def ringChecksUptoCard : Claim7 := { stood := { row := ringChecksUptoRow, standIns := [], harness := (true, "44bf3506a3cd75778c0235901a5e504554a5a2966072b992b4412c8f2309699d"), looks := false }, kinds := [], alts := [], laidByText := true, laidKinds := [.data], laidTests := true, laidLooks := .later }
def RingChecksUptoCardSaid : Prop := Claim7.holds Tryd.pinned (.plain (OpenSpec.upto ringChecksSpec)) ringChecksUptoCard

/-- THE SECOND FORM's CARD OF 'sawmilllaw12.RingCleans'. -/
def ringCleansUptoCard : Claim7 := { stood := { row := ringCleansUptoRow, standIns := [], harness := (true, "44bf3506a3cd75778c0235901a5e504554a5a2966072b992b4412c8f2309699d"), looks := false }, kinds := [], alts := [], laidByText := true, laidKinds := [.data], laidTests := true, laidLooks := .later }
def RingCleansUptoCardSaid : Prop := Claim7.holds Tryd.pinned (.plain (OpenSpec.upto ringCleansSpec)) ringCleansUptoCard

/-- THE SECOND FORM's CARD OF 'sawmilllaw12.RingRepairs'. -/
def ringRepairsUptoCard : Claim7 := { stood := { row := ringRepairsUptoRow, standIns := [], harness := (true, "44bf3506a3cd75778c0235901a5e504554a5a2966072b992b4412c8f2309699d"), looks := false }, kinds := [], alts := [], laidByText := true, laidKinds := [.data], laidTests := true, laidLooks := .later }
def RingRepairsUptoCardSaid : Prop := Claim7.holds Tryd.pinned (.plain (OpenSpec.upto ringRepairsSpec)) ringRepairsUptoCard

/-- THE SECOND FORM's CARD OF 'sawmilllaw12.RingMerges'. -/
def ringMergesUptoCard : Claim7 := { stood := { row := ringMergesUptoRow, standIns := [], harness := (true, "44bf3506a3cd75778c0235901a5e504554a5a2966072b992b4412c8f2309699d"), looks := false }, kinds := [], alts := [], laidByText := true, laidKinds := [.data], laidTests := true, laidLooks := .later }
def RingMergesUptoCardSaid : Prop := Claim7.holds Tryd.pinned (.plain (OpenSpec.upto ringMergesSpec)) ringMergesUptoCard

/-- THE SECOND FORM's CARD OF 'sawmilllaw12.RingKeeps'. -/
def ringKeepsUptoCard : Claim7 := { stood := { row := ringKeepsUptoRow, standIns := [], harness := (true, "44bf3506a3cd75778c0235901a5e504554a5a2966072b992b4412c8f2309699d"), looks := false }, kinds := [], alts := [], laidByText := true, laidKinds := [.data], laidTests := true, laidLooks := .later }
def RingKeepsUptoCardSaid : Prop := Claim7.holds Tryd.pinned (.plain (OpenSpec.upto ringKeepsSpec)) ringKeepsUptoCard

/-- THE SECOND FORM's CARD OF 'sawmilllaw12.RingFills'. -/
def ringFillsUptoCard : Claim7 := { stood := { row := ringFillsUptoRow, standIns := [], harness := (true, "44bf3506a3cd75778c0235901a5e504554a5a2966072b992b4412c8f2309699d"), looks := false }, kinds := [], alts := [], laidByText := true, laidKinds := [.data], laidTests := true, laidLooks := .later }
def RingFillsUptoCardSaid : Prop := Claim7.holds Tryd.pinned (.plain (OpenSpec.upto ringFillsSpec)) ringFillsUptoCard

/-- THE SECOND FORM's CARD OF 'sawmilllaw12.RingTwice'. -/
def ringTwiceUptoCard : Claim7 := { stood := { row := ringTwiceUptoRow, standIns := [], harness := (true, "44bf3506a3cd75778c0235901a5e504554a5a2966072b992b4412c8f2309699d"), looks := false }, kinds := [], alts := [], laidByText := true, laidKinds := [.data], laidTests := true, laidLooks := .later }
def RingTwiceUptoCardSaid : Prop := Claim7.holds Tryd.pinned (.plain (OpenSpec.upto ringTwiceSpec)) ringTwiceUptoCard
end Rows
end Go.Proofs.YtlcgbeocdimboaaDoor
