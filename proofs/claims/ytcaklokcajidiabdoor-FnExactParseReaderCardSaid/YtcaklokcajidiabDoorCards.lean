/-
  DERIVED. GIVEN WITH THE SEED: THE CARDS: each row of YtcaklokcajidiabDoorRows.lean that lists a variable, with what it lists TIED to the program's text (the seventh form; the later family's looks); each row that meets fmt, with fmt's text TOLD by the authors' own Lean function (tested against real Go, not proved from fmt's source: count such statements apart). THE CARD IS WHAT COUNTS. Prove the row's statement (the work); the ties are given (YtcaklokcajidiabDoorTie.lean); close each card by the builder's one call (the guide's Derived/Test/ToyasCard.lean, 'card_holds'). Laid BY PROGRAM, IN A SANDBOX (cutbox-door.mjs). By AI agents, Wed Nov 11 2026. No macro, syntax, notation, axiom, sorry.
-/
import Derived.Test.YtcaklokcajidiabDoorRows
import GoSem.ClaimSeven
namespace Go.Proofs.YtcaklokcajidiabDoor
namespace Rows

/-- THE TIED CARD OF 'laws.FnExactReaderText'. -/
def fnExactReaderTextCard : Claim7 := { stood := { row := fnExactReaderTextRow, standIns := [], harness := (true, "082e7740b7667e786c7eda47615c6beb0cea229486d6bd07d558bf67ca631c3a"), looks := true }, kinds := [], alts := [], laidByText := true, laidKinds := [.data, .data, .data], laidTests := true, laidLooks := .later }
def FnExactReaderTextCardSaid : Prop := Claim7.holds Tryd.pinned (.plain (OpenSpec.ofChange fnExactReaderTextSpec)) fnExactReaderTextCard

/-- THE TIED CARD OF 'laws.FnExactParseReader'. -/
def fnExactParseReaderCard : Claim7 := { stood := { row := fnExactParseReaderRow, standIns := [], harness := (true, "082e7740b7667e786c7eda47615c6beb0cea229486d6bd07d558bf67ca631c3a"), looks := true }, kinds := [], alts := [], laidByText := true, laidKinds := [.data, .data, .data, .sentinel, .sentinel], laidTests := true, laidLooks := .later }
def FnExactParseReaderCardSaid : Prop := Claim7.holds Tryd.pinned (.plain (OpenSpec.ofChange fnExactParseReaderSpec)) fnExactParseReaderCard

/-- THE SECOND FORM's CARD OF 'laws.FnExactReaderText'. -/
def fnExactReaderTextUptoCard : Claim7 := { stood := { row := fnExactReaderTextUptoRow, standIns := [], harness := (true, "082e7740b7667e786c7eda47615c6beb0cea229486d6bd07d558bf67ca631c3a"), looks := true }, kinds := [], alts := [], laidByText := true, laidKinds := [.data, .data, .data], laidTests := true, laidLooks := .later }
def FnExactReaderTextUptoCardSaid : Prop := Claim7.holds Tryd.pinned (.plain (OpenSpec.upto fnExactReaderTextSpec)) fnExactReaderTextUptoCard

/-- THE SECOND FORM's CARD OF 'laws.FnExactParseReader'. -/
def fnExactParseReaderUptoCard : Claim7 := { stood := { row := fnExactParseReaderUptoRow, standIns := [], harness := (true, "082e7740b7667e786c7eda47615c6beb0cea229486d6bd07d558bf67ca631c3a"), looks := true }, kinds := [], alts := [], laidByText := true, laidKinds := [.data, .data, .data, .sentinel, .sentinel], laidTests := true, laidLooks := .later }
def FnExactParseReaderUptoCardSaid : Prop := Claim7.holds Tryd.pinned (.plain (OpenSpec.upto fnExactParseReaderSpec)) fnExactParseReaderUptoCard
end Rows
end Go.Proofs.YtcaklokcajidiabDoor
