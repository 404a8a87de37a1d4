/-
  DERIVED. GIVEN WITH THE SEED: THE CARDS: each row of YthpopopodjgdaaaDoorRows.lean that lists a variable, with what it lists TIED to the program's text (the seventh form; the later family's looks); each row that meets fmt, with fmt's text TOLD by the authors' own Lean function (tested against real Go, not proved from fmt's source: count such statements apart). THE CARD IS WHAT COUNTS. Prove the row's statement (the work); the ties are given (YthpopopodjgdaaaDoorTie.lean); close each card by the builder's one call (the guide's Derived/Test/ToyasCard.lean, 'card_holds'). Laid BY PROGRAM, IN A SANDBOX (cutbox-door.mjs). By AI agents, Wed Nov 11 2026. No macro, syntax, notation, axiom, sorry.
-/
import Derived.Test.YthpopopodjgdaaaDoorRows
import GoSem.ClaimSeven
namespace Go.Proofs.YthpopopodjgdaaaDoor
namespace Rows

/-- THE TIED CARD OF 'sawmilllaw07.ClockNew'. -/
def clockNewCard : Claim7 := { stood := { row := clockNewRow, standIns := [], harness := (true, "c54d1ab67bb2aaa406bbc6162ca26449b4c842b7dd937951737b5b71662bfe8a"), looks := false }, kinds := [], alts := [], laidByText := true, laidKinds := [.data, .data, .data], laidTests := true, laidLooks := .later }
def ClockNewCardSaid : Prop := Claim7.holds Tryd.pinned (.plain (OpenSpec.ofChange clockNewSpec)) clockNewCard

/-- THE TIED CARD OF 'sawmilllaw07.ClockOpens'. -/
def clockOpensCard : Claim7 := { stood := { row := clockOpensRow, standIns := [], harness := (true, "c54d1ab67bb2aaa406bbc6162ca26449b4c842b7dd937951737b5b71662bfe8a"), looks := false }, kinds := [], alts := [], laidByText := true, laidKinds := [.data, .data, .data], laidTests := true, laidLooks := .later }
def ClockOpensCardSaid : Prop := Claim7.holds Tryd.pinned (.plain (OpenSpec.ofChange clockOpensSpec)) clockOpensCard

/-- THE TIED CARD OF 'sawmilllaw07.ClockWorks'. -/
def clockWorksCard : Claim7 := { stood := { row := clockWorksRow, standIns := [], harness := (true, "c54d1ab67bb2aaa406bbc6162ca26449b4c842b7dd937951737b5b71662bfe8a"), looks := false }, kinds := [], alts := [], laidByText := true, laidKinds := [.data, .data, .data], laidTests := true, laidLooks := .later }
def ClockWorksCardSaid : Prop := Claim7.holds Tryd.pinned (.plain (OpenSpec.ofChange clockWorksSpec)) clockWorksCard

/-- THE TIED CARD OF 'sawmilllaw07.ClockAdds'. -/
def clockAddsCard : Claim7 := { stood := { row := clockAddsRow, standIns := [], harness := (true, "c54d1ab67bb2aaa406bbc6162ca26449b4c842b7dd937951737b5b71662bfe8a"), looks := false }, kinds := [], alts := [], laidByText := true, laidKinds := [.data, .data, .data], laidTests := true, laidLooks := .later }
def ClockAddsCardSaid : Prop := Claim7.holds Tryd.pinned (.plain (OpenSpec.ofChange clockAddsSpec)) clockAddsCard

/-- THE TIED CARD OF 'sawmilllaw07.ClockTexts'. -/
def clockTextsCard : Claim7 := { stood := { row := clockTextsRow, standIns := [], harness := (true, "c54d1ab67bb2aaa406bbc6162ca26449b4c842b7dd937951737b5b71662bfe8a"), looks := false }, kinds := [], alts := [], laidByText := true, laidKinds := [.data, .data, .data], laidTests := true, laidLooks := .later }
def ClockTextsCardSaid : Prop := Claim7.holds Tryd.pinned (.plain (OpenSpec.ofChange clockTextsSpec)) clockTextsCard

/-- THE TIED CARD OF 'sawmilllaw07.ClockJoins'. -/
def clockJoinsCard : Claim7 := { stood := { row := clockJoinsRow, standIns := [], harness := (true, "c54d1ab67bb2aaa406bbc6162ca26449b4c842b7dd937951737b5b71662bfe8a"), looks := false }, kinds := [], alts := [], laidByText := true, laidKinds := [.data, .data, .data], laidTests := true, laidLooks := .later }
def ClockJoinsCardSaid : Prop := Claim7.holds Tryd.pinned (.plain (OpenSpec.ofChange clockJoinsSpec)) clockJoinsCard

/-- THE TIED CARD OF 'sawmilllaw07.ClockInverts'. -/
def clockInvertsCard : Claim7 := { stood := { row := clockInvertsRow, standIns := [], harness := (true, "c54d1ab67bb2aaa406bbc6162ca26449b4c842b7dd937951737b5b71662bfe8a"), looks := false }, kinds := [], alts := [], laidByText := true, laidKinds := [.data, .data, .data], laidTests := true, laidLooks := .later }
def ClockInvertsCardSaid : Prop := Claim7.holds Tryd.pinned (.plain (OpenSpec.ofChange clockInvertsSpec)) clockInvertsCard

/-- THE TIED CARD OF 'sawmilllaw07.ClockNexts'. -/
def clockNextsCard : Claim7 := { stood := { row := clockNextsRow, standIns := [], harness := (true, "c54d1ab67bb2aaa406bbc6162ca26449b4c842b7dd937951737b5b71662bfe8a"), looks := false }, kinds := [], alts := [], laidByText := true, laidKinds := [.data, .data, .data], laidTests := true, laidLooks := .later }
def ClockNextsCardSaid : Prop := Claim7.holds Tryd.pinned (.plain (OpenSpec.ofChange clockNextsSpec)) clockNextsCard

/-- THE TIED CARD OF 'sawmilllaw07.ClockBack'. -/
def clockBackCard : Claim7 := { stood := { row := clockBackRow, standIns := [], harness := (true, "c54d1ab67bb2aaa406bbc6162ca26449b4c842b7dd937951737b5b71662bfe8a"), looks := false }, kinds := [], alts := [], laidByText := true, laidKinds := [.data, .data, .data], laidTests := true, laidLooks := .later }
def ClockBackCardSaid : Prop := Claim7.holds Tryd.pinned (.plain (OpenSpec.ofChange clockBackSpec)) clockBackCard

/-- THE TIED CARD OF 'sawmilllaw07.ClockNil'. -/
def clockNilCard : Claim7 := { stood := { row := clockNilRow, standIns := [], harness := (true, "c54d1ab67bb2aaa406bbc6162ca26449b4c842b7dd937951737b5b71662bfe8a"), looks := false }, kinds := [], alts := [], laidByText := true, laidKinds := [.data, .data, .data], laidTests := true, laidLooks := .later }
def ClockNilCardSaid : Prop := Claim7.holds Tryd.pinned (.plain (OpenSpec.ofChange clockNilSpec)) clockNilCard

/-- THE SECOND FORM's CARD OF 'sawmilllaw07.ClockNew'. -/
def clockNewUptoCard : Claim7 := { stood := { row := clockNewUptoRow, standIns := [], harness := (true, "c54d1ab67bb2aaa406bbc6162ca26449b4c842b7dd937951737b5b71662bfe8a"), looks := false }, kinds := [], alts := [], laidByText := true, laidKinds := [.data, .data, .data], laidTests := true, laidLooks := .later }
def ClockNewUptoCardSaid : Prop := Claim7.holds Tryd.pinned (.plain (OpenSpec.upto clockNewSpec)) clockNewUptoCard

/-- THE SECOND FORM's CARD OF 'sawmilllaw07.ClockOpens'. -/
def clockOpensUptoCard : Claim7 := { stood := { row := clockOpensUptoRow, standIns := [], harness := (true, "c54d1ab67bb2aaa406bbc6162ca26449b4c842b7dd937951737b5b71662bfe8a"), looks := false }, kinds := [], alts := [], laidByText := true, laidKinds := [.data, .data, .data], laidTests := true, laidLooks := .later }
def ClockOpensUptoCardSaid : Prop := Claim7.holds Tryd.pinned (.plain (OpenSpec.upto clockOpensSpec)) clockOpensUptoCard

/-- THE SECOND FORM's CARD OF 'sawmilllaw07.ClockWorks'. -/
def clockWorksUptoCard : Claim7 := { stood := { row := clockWorksUptoRow, standIns := [], harness := (true, "c54d1ab67bb2aaa406bbc6162ca26449b4c842b7dd937951737b5b71662bfe8a"), looks := false }, kinds := [], alts := [], laidByText := true, laidKinds := [.data, .data, .data], laidTests := true, laidLooks := .later }
def ClockWorksUptoCardSaid : Prop := Claim7.holds Tryd.pinned (.plain (OpenSpec.upto clockWorksSpec)) clockWorksUptoCard

/-- THE SECOND FORM's CARD OF 'sawmilllaw07.ClockAdds'. -/
def clockAddsUptoCard : Claim7 := { stood := { row := clockAddsUptoRow, standIns := [], harness := (true, "c54d1ab67bb2aaa406bbc6162ca26449b4c842b7dd937951737b5b71662bfe8a"), looks := false }, kinds := [], alts := [], laidByText := true, laidKinds := [.data, .data, .data], laidTests := true, laidLooks := .later }
def ClockAddsUptoCardSaid : Prop := Claim7.holds Tryd.pinned (.plain (OpenSpec.upto clockAddsSpec)) clockAddsUptoCard

/-- THE SECOND FORM's CARD OF 'sawmilllaw07.ClockTexts'. -/
def clockTextsUptoCard : Claim7 := { stood := { row := clockTextsUptoRow, standIns := [], harness := (true, "c54d1ab67bb2aaa406bbc6162ca26449b4c842b7dd937951737b5b71662bfe8a"), looks := false }, kinds := [], alts := [], laidByText := true, laidKinds := [.data, .data, .data], laidTests := true, laidLooks := .later }
def ClockTextsUptoCardSaid : Prop := Claim7.holds Tryd.pinned (.plain (OpenSpec.upto clockTextsSpec)) clockTextsUptoCard

/-- THE SECOND FORM's CARD OF 'sawmilllaw07.ClockJoins'. -/
def clockJoinsUptoCard : Claim7 := { stood := { row := clockJoinsUptoRow, standIns := [], harness := (true, "c54d1ab67bb2aaa406bbc6162ca26449b4c842b7dd937951737b5b71662bfe8a"), looks := false }, kinds := [], alts := [], laidByText := true, laidKinds := [.data, .data, .data], laidTests := true, laidLooks := .later }
def ClockJoinsUptoCardSaid : Prop := Claim7.holds Tryd.pinned (.plain (OpenSpec.upto clockJoinsSpec)) clockJoinsUptoCard

/-- THE SECOND FORM's CARD OF 'sawmilllaw07.ClockInverts'. -/
def clockInvertsUptoCard : Claim7 := { stood := { row := clockInvertsUptoRow, standIns := [], harness := (true, "c54d1ab67bb2aaa406bbc6162ca26449b4c842b7dd937951737b5b71662bfe8a"), looks := false }, kinds := [], alts := [], laidByText := true, laidKinds := [.data, .data, .data], laidTests := true, laidLooks := .later }
def ClockInvertsUptoCardSaid : Prop := Claim7.holds Tryd.pinned (.plain (OpenSpec.upto clockInvertsSpec)) clockInvertsUptoCard

/-- THE SECOND FORM's CARD OF 'sawmilllaw07.ClockNexts'. -/
def clockNextsUptoCard : Claim7 := { stood := { row := clockNextsUptoRow, standIns := [], harness := (true, "c54d1ab67bb2aaa406bbc6162ca26449b4c842b7dd937951737b5b71662bfe8a"), looks := false }, kinds := [], alts := [], laidByText := true, laidKinds := [.data, .data, .data], laidTests := true, laidLooks := .later }
def ClockNextsUptoCardSaid : Prop := Claim7.holds Tryd.pinned (.plain (OpenSpec.upto clockNextsSpec)) clockNextsUptoCard

/-- THE SECOND FORM's CARD OF 'sawmilllaw07.ClockBack'. -/
def clockBackUptoCard : Claim7 := { stood := { row := clockBackUptoRow, standIns := [], harness := (true, "c54d1ab67bb2aaa406bbc6162ca26449b4c842b7dd937951737b5b71662bfe8a"), looks := false }, kinds := [], alts := [], laidByText := true, laidKinds := [.data, .data, .data], laidTests := true, laidLooks := .later }
def ClockBackUptoCardSaid : Prop := Claim7.holds Tryd.pinned (.plain (OpenSpec.upto clockBackSpec)) clockBackUptoCard

/-- THE SECOND FORM's CARD OF 'sawmilllaw07.ClockNil'. -/
def clockNilUptoCard : Claim7 := { stood := { row := clockNilUptoRow, standIns := [], harness := (true, "c54d1ab67bb2aaa406bbc6162ca26449b4c842b7dd937951737b5b71662bfe8a"), looks := false }, kinds := [], alts := [], laidByText := true, laidKinds := [.data, .data, .data], laidTests := true, laidLooks := .later }
def ClockNilUptoCardSaid : Prop := Claim7.holds Tryd.pinned (.plain (OpenSpec.upto clockNilSpec)) clockNilUptoCard
end Rows
end Go.Proofs.YthpopopodjgdaaaDoor
