/-
  DERIVED. GIVEN WITH THE SEED: THE CARDS: each row of YtnaikhfhimijdaaDoorRows.lean that lists a variable, with what it lists TIED to the program's text (the seventh form; the later family's looks); each row that meets fmt, with fmt's text TOLD by the authors' own Lean function (tested against real Go, not proved from fmt's source: count such statements apart). THE CARD IS WHAT COUNTS. Prove the row's statement (the work); the ties are given (YtnaikhfhimijdaaDoorTie.lean); close each card by the builder's one call (the guide's Derived/Test/ToyasCard.lean, 'card_holds'). Laid BY PROGRAM, IN A SANDBOX (cutbox-door.mjs). By AI agents, Wed Nov 11 2026. No macro, syntax, notation, axiom, sorry.
-/
import Derived.Test.YtnaikhfhimijdaaDoorRows
import GoSem.ClaimSeven
namespace Go.Proofs.YtnaikhfhimijdaaDoor
namespace Rows

/-- THE TIED CARD OF 'laws.FnExactPagesForDigits'. -/
def fnExactPagesForDigitsCard : Claim7 := { stood := { row := fnExactPagesForDigitsRow, standIns := [], harness := (true, "b2326a4a3013027e644330b6fe2fff672e6ac6e47cfd1f3704f48586f054f0ac"), looks := false }, kinds := [], alts := [], laidByText := true, laidKinds := [.data, .data, .data], laidTests := true, laidLooks := .later }
def FnExactPagesForDigitsCardSaid : Prop := Claim7.holds Tryd.pinned (.plain (OpenSpec.ofChange fnExactPagesForDigitsSpec)) fnExactPagesForDigitsCard

/-- THE TIED CARD OF 'laws.FnExactDigitAtPlace'. -/
def fnExactDigitAtPlaceCard : Claim7 := { stood := { row := fnExactDigitAtPlaceRow, standIns := [], harness := (true, "b2326a4a3013027e644330b6fe2fff672e6ac6e47cfd1f3704f48586f054f0ac"), looks := false }, kinds := [], alts := [], laidByText := true, laidKinds := [.data, .data, .data], laidTests := true, laidLooks := .later }
def FnExactDigitAtPlaceCardSaid : Prop := Claim7.holds Tryd.pinned (.plain (OpenSpec.ofChange fnExactDigitAtPlaceSpec)) fnExactDigitAtPlaceCard

/-- THE SECOND FORM's CARD OF 'laws.FnExactPagesForDigits'. -/
def fnExactPagesForDigitsUptoCard : Claim7 := { stood := { row := fnExactPagesForDigitsUptoRow, standIns := [], harness := (true, "b2326a4a3013027e644330b6fe2fff672e6ac6e47cfd1f3704f48586f054f0ac"), looks := false }, kinds := [], alts := [], laidByText := true, laidKinds := [.data, .data, .data], laidTests := true, laidLooks := .later }
def FnExactPagesForDigitsUptoCardSaid : Prop := Claim7.holds Tryd.pinned (.plain (OpenSpec.upto fnExactPagesForDigitsSpec)) fnExactPagesForDigitsUptoCard

/-- THE SECOND FORM's CARD OF 'laws.FnExactDigitAtPlace'. -/
def fnExactDigitAtPlaceUptoCard : Claim7 := { stood := { row := fnExactDigitAtPlaceUptoRow, standIns := [], harness := (true, "b2326a4a3013027e644330b6fe2fff672e6ac6e47cfd1f3704f48586f054f0ac"), looks := false }, kinds := [], alts := [], laidByText := true, laidKinds := [.data, .data, .data], laidTests := true, laidLooks := .later }
def FnExactDigitAtPlaceUptoCardSaid : Prop := Claim7.holds Tryd.pinned (.plain (OpenSpec.upto fnExactDigitAtPlaceSpec)) fnExactDigitAtPlaceUptoCard
end Rows
end Go.Proofs.YtnaikhfhimijdaaDoor
