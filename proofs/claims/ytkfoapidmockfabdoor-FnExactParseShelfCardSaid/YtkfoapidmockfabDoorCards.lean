/-
  DERIVED. GIVEN WITH THE SEED: THE CARDS: each row of YtkfoapidmockfabDoorRows.lean that lists a variable, with what it lists TIED to the program's text (the seventh form; the later family's looks); each row that meets fmt, with fmt's text TOLD by the authors' own Lean function (tested against real Go, not proved from fmt's source: count such statements apart). THE CARD IS WHAT COUNTS. Prove the row's statement (the work); the ties are given (YtkfoapidmockfabDoorTie.lean); close each card by the builder's one call (the guide's Derived/Test/ToyasCard.lean, 'card_holds'). Laid BY PROGRAM, IN A SANDBOX (cutbox-door.mjs). By AI agents, Wed Nov 11 2026. No macro, syntax, notation, axiom, sorry.
-/
import Derived.Test.YtkfoapidmockfabDoorRows
import GoSem.ClaimSeven
namespace Go.Proofs.YtkfoapidmockfabDoor
namespace Rows

/-- THE TIED CARD OF 'laws.FnExactContentsLine'. -/
def fnExactContentsLineCard : Claim7 := { stood := { row := fnExactContentsLineRow, standIns := [], harness := (true, "7d991f4727c71f8fecb498a796e251b4a9f0d79e343b1e709a8c6bcdd3edf84d"), looks := true }, kinds := [], alts := [], laidByText := true, laidKinds := [.data, .data, .data], laidTests := true, laidLooks := .later }
def FnExactContentsLineCardSaid : Prop := Claim7.holds Tryd.pinned (.plain (OpenSpec.ofChange fnExactContentsLineSpec)) fnExactContentsLineCard

/-- THE TIED CARD OF 'laws.FnExactContentsOf'. -/
def fnExactContentsOfCard : Claim7 := { stood := { row := fnExactContentsOfRow, standIns := [], harness := (true, "7d991f4727c71f8fecb498a796e251b4a9f0d79e343b1e709a8c6bcdd3edf84d"), looks := true }, kinds := [], alts := [], goes := true, laidByText := true, laidKinds := [.data, .data, .data], laidTests := true, laidLooks := .later }
def FnExactContentsOfCardSaid : Prop := Claim7.holds Tryd.pinned (.plain (OpenSpec.ofChange fnExactContentsOfSpec)) fnExactContentsOfCard

/-- THE TIED CARD OF 'laws.FnExactChaptersText'. -/
def fnExactChaptersTextCard : Claim7 := { stood := { row := fnExactChaptersTextRow, standIns := [], harness := (true, "7d991f4727c71f8fecb498a796e251b4a9f0d79e343b1e709a8c6bcdd3edf84d"), looks := true }, kinds := [], alts := [], laidByText := true, laidKinds := [.data, .data, .data], laidTests := true, laidLooks := .later }
def FnExactChaptersTextCardSaid : Prop := Claim7.holds Tryd.pinned (.plain (OpenSpec.ofChange fnExactChaptersTextSpec)) fnExactChaptersTextCard

/-- THE TIED CARD OF 'laws.FnExactParseChapters'. -/
def fnExactParseChaptersCard : Claim7 := { stood := { row := fnExactParseChaptersRow, standIns := [], harness := (true, "7d991f4727c71f8fecb498a796e251b4a9f0d79e343b1e709a8c6bcdd3edf84d"), looks := true }, kinds := [], alts := [], laidByText := true, laidKinds := [.data, .data, .data, .data, .sentinel, .sentinel, .pinned], laidTests := true, laidLooks := .later }
def FnExactParseChaptersCardSaid : Prop := Claim7.holds Tryd.pinned (.plain (OpenSpec.ofChange fnExactParseChaptersSpec)) fnExactParseChaptersCard

/-- THE TIED CARD OF 'laws.FnExactShelfText'. -/
def fnExactShelfTextCard : Claim7 := { stood := { row := fnExactShelfTextRow, standIns := [], harness := (true, "7d991f4727c71f8fecb498a796e251b4a9f0d79e343b1e709a8c6bcdd3edf84d"), looks := true }, kinds := [], alts := [], laidByText := true, laidKinds := [.data, .data, .data], laidTests := true, laidLooks := .later }
def FnExactShelfTextCardSaid : Prop := Claim7.holds Tryd.pinned (.plain (OpenSpec.ofChange fnExactShelfTextSpec)) fnExactShelfTextCard

/-- THE TIED CARD OF 'laws.FnExactParseShelf'. -/
def fnExactParseShelfCard : Claim7 := { stood := { row := fnExactParseShelfRow, standIns := [], harness := (true, "7d991f4727c71f8fecb498a796e251b4a9f0d79e343b1e709a8c6bcdd3edf84d"), looks := true }, kinds := [], alts := [], laidByText := true, laidKinds := [.data, .data, .data, .data, .sentinel, .sentinel, .pinned], laidTests := true, laidLooks := .later }
def FnExactParseShelfCardSaid : Prop := Claim7.holds Tryd.pinned (.plain (OpenSpec.ofChange fnExactParseShelfSpec)) fnExactParseShelfCard

/-- THE SECOND FORM's CARD OF 'laws.FnExactContentsLine'. -/
def fnExactContentsLineUptoCard : Claim7 := { stood := { row := fnExactContentsLineUptoRow, standIns := [], harness := (true, "7d991f4727c71f8fecb498a796e251b4a9f0d79e343b1e709a8c6bcdd3edf84d"), looks := true }, kinds := [], alts := [], laidByText := true, laidKinds := [.data, .data, .data], laidTests := true, laidLooks := .later }
def FnExactContentsLineUptoCardSaid : Prop := Claim7.holds Tryd.pinned (.plain (OpenSpec.upto fnExactContentsLineSpec)) fnExactContentsLineUptoCard

/-- THE SECOND FORM's CARD OF 'laws.FnExactContentsOf'. -/
def fnExactContentsOfUptoCard : Claim7 := { stood := { row := fnExactContentsOfUptoRow, standIns := [], harness := (true, "7d991f4727c71f8fecb498a796e251b4a9f0d79e343b1e709a8c6bcdd3edf84d"), looks := true }, kinds := [], alts := [], goes := true, laidByText := true, laidKinds := [.data, .data, .data], laidTests := true, laidLooks := .later }
def FnExactContentsOfUptoCardSaid : Prop := Claim7.holds Tryd.pinned (.plain (OpenSpec.upto fnExactContentsOfSpec)) fnExactContentsOfUptoCard

/-- THE SECOND FORM's CARD OF 'laws.FnExactChaptersText'. -/
def fnExactChaptersTextUptoCard : Claim7 := { stood := { row := fnExactChaptersTextUptoRow, standIns := [], harness := (true, "7d991f4727c71f8fecb498a796e251b4a9f0d79e343b1e709a8c6bcdd3edf84d"), looks := true }, kinds := [], alts := [], laidByText := true, laidKinds := [.data, .data, .data], laidTests := true, laidLooks := .later }
def FnExactChaptersTextUptoCardSaid : Prop := Claim7.holds Tryd.pinned (.plain (OpenSpec.upto fnExactChaptersTextSpec)) fnExactChaptersTextUptoCard

/-- THE SECOND FORM's CARD OF 'laws.FnExactParseChapters'. -/
def fnExactParseChaptersUptoCard : Claim7 := { stood := { row := fnExactParseChaptersUptoRow, standIns := [], harness := (true, "7d991f4727c71f8fecb498a796e251b4a9f0d79e343b1e709a8c6bcdd3edf84d"), looks := true }, kinds := [], alts := [], laidByText := true, laidKinds := [.data, .data, .data, .data, .sentinel, .sentinel, .pinned], laidTests := true, laidLooks := .later }
def FnExactParseChaptersUptoCardSaid : Prop := Claim7.holds Tryd.pinned (.plain (OpenSpec.upto fnExactParseChaptersSpec)) fnExactParseChaptersUptoCard

/-- THE SECOND FORM's CARD OF 'laws.FnExactShelfText'. -/
def fnExactShelfTextUptoCard : Claim7 := { stood := { row := fnExactShelfTextUptoRow, standIns := [], harness := (true, "7d991f4727c71f8fecb498a796e251b4a9f0d79e343b1e709a8c6bcdd3edf84d"), looks := true }, kinds := [], alts := [], laidByText := true, laidKinds := [.data, .data, .data], laidTests := true, laidLooks := .later }
def FnExactShelfTextUptoCardSaid : Prop := Claim7.holds Tryd.pinned (.plain (OpenSpec.upto fnExactShelfTextSpec)) fnExactShelfTextUptoCard

/-- THE SECOND FORM's CARD OF 'laws.FnExactParseShelf'. -/
def fnExactParseShelfUptoCard : Claim7 := { stood := { row := fnExactParseShelfUptoRow, standIns := [], harness := (true, "7d991f4727c71f8fecb498a796e251b4a9f0d79e343b1e709a8c6bcdd3edf84d"), looks := true }, kinds := [], alts := [], laidByText := true, laidKinds := [.data, .data, .data, .data, .sentinel, .sentinel, .pinned], laidTests := true, laidLooks := .later }
def FnExactParseShelfUptoCardSaid : Prop := Claim7.holds Tryd.pinned (.plain (OpenSpec.upto fnExactParseShelfSpec)) fnExactParseShelfUptoCard
end Rows
end Go.Proofs.YtkfoapidmockfabDoor
