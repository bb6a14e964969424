/-
  DERIVED. GIVEN WITH THE SEED: THE CARDS: each row of YtocmgggggdcebaaDoorRows.lean that lists a variable, with what it lists TIED to the program's text (the seventh form; the later family's looks); each row that meets fmt, with fmt's text TOLD by the authors' own Lean function (tested against real Go, not proved from fmt's source: count such statements apart). THE CARD IS WHAT COUNTS. Prove the row's statement (the work); the ties are given (YtocmgggggdcebaaDoorTie.lean); close each card by the builder's one call (the guide's Derived/Test/ToyasCard.lean, 'card_holds'). Laid BY PROGRAM, IN A SANDBOX (cutbox-door.mjs). By AI agents, Wed Nov 11 2026. No macro, syntax, notation, axiom, sorry.
-/
import Derived.Test.YtocmgggggdcebaaDoorRows
import GoSem.ClaimSeven
namespace Go.Proofs.YtocmgggggdcebaaDoor
namespace Rows

/-- THE TIED CARD OF 'laws.FnExactPagesText'. -/
def fnExactPagesTextCard : Claim7 := { stood := { row := fnExactPagesTextRow, standIns := [], harness := (true, "41f86fe5528484afc0c7602393304118e816ce712806604a4386adf4a99dde8d"), looks := true }, kinds := [], alts := [], laidByText := true, laidKinds := [.data, .data, .data], laidTests := true, laidLooks := .later }
def FnExactPagesTextCardSaid : Prop := Claim7.holds Tryd.pinned (.plain (OpenSpec.ofChange fnExactPagesTextSpec)) fnExactPagesTextCard

/-- THE TIED CARD OF 'laws.FnExactParsePages'. -/
def fnExactParsePagesCard : Claim7 := { stood := { row := fnExactParsePagesRow, standIns := [], harness := (true, "41f86fe5528484afc0c7602393304118e816ce712806604a4386adf4a99dde8d"), looks := true }, kinds := [], alts := [], laidByText := true, laidKinds := [.data, .data, .data, .data, .sentinel, .sentinel, .pinned], laidTests := true, laidLooks := .later }
def FnExactParsePagesCardSaid : Prop := Claim7.holds Tryd.pinned (.plain (OpenSpec.ofChange fnExactParsePagesSpec)) fnExactParsePagesCard

/-- THE SECOND FORM's CARD OF 'laws.FnExactPagesText'. -/
def fnExactPagesTextUptoCard : Claim7 := { stood := { row := fnExactPagesTextUptoRow, standIns := [], harness := (true, "41f86fe5528484afc0c7602393304118e816ce712806604a4386adf4a99dde8d"), looks := true }, kinds := [], alts := [], laidByText := true, laidKinds := [.data, .data, .data], laidTests := true, laidLooks := .later }
def FnExactPagesTextUptoCardSaid : Prop := Claim7.holds Tryd.pinned (.plain (OpenSpec.upto fnExactPagesTextSpec)) fnExactPagesTextUptoCard

/-- THE SECOND FORM's CARD OF 'laws.FnExactParsePages'. -/
def fnExactParsePagesUptoCard : Claim7 := { stood := { row := fnExactParsePagesUptoRow, standIns := [], harness := (true, "41f86fe5528484afc0c7602393304118e816ce712806604a4386adf4a99dde8d"), looks := true }, kinds := [], alts := [], laidByText := true, laidKinds := [.data, .data, .data, .data, .sentinel, .sentinel, .pinned], laidTests := true, laidLooks := .later }
def FnExactParsePagesUptoCardSaid : Prop := Claim7.holds Tryd.pinned (.plain (OpenSpec.upto fnExactParsePagesSpec)) fnExactParsePagesUptoCard
end Rows
end Go.Proofs.YtocmgggggdcebaaDoor
