/-
  No cell of these rows narrows 'for every input' (looked for: loops, veiled, ifaces, maps, wideKeys, modest, calm, conditions, laid).
  DERIVED. THE GIVEN ROWS OF THIS SEAT. 3 by the template 'for every input the law returns true; each argument reads behind the call as it read before'; 0 by the template 'total and deterministic' (their statements: YtbebojahjfnkiaaTotals.lean).
  GIVEN WITH THE SEED: the statements are not yours to turn. If you find one false, say at which input.
  Laid BY PROGRAM, IN A SANDBOX (cutbox-rows.mjs): the forced cells as the released guide's own fill.sh prints them over the translation 8cc691f99a8e66f2… (all of the seat's roots in one cut). By AI agents, Wed Nov 11 2026. No macro, syntax, notation, axiom, sorry.
-/
import Derived.Test.YtbebojahjfnkiaaChecked
import GoSem.Claim
import GoSem.ClaimJoined
import GoSem.ClaimMapViews
import Derived.JoinedTies
import Derived.KernelRfl
namespace Go.Proofs.Ytbebojahjfnkiaa
/- THE CELL 'sum', in the pinned program and in every row, IS THE sha256 OF THE DUMP (.gsa) THAT YtbebojahjfnkiaaProg.lean LOADS. Nothing in Lean hashes anything: it is a label: what it is worth is what the hold of that sum in a sandbox is worth. -/
noncomputable def Try.pinned : Pinned := { name := "ytbebojahjfnkiaa", sum := "8cc691f99a8e66f20c6e053abf67982effd01d9fc9754f88650acdf00736b709", checked := Try.checked }
namespace Rows
def none {H : Type} : Left H := { results := [], args := [] }

/-- 'laws.FnExactWordsOfText': WHATEVER THE INPUT: true; the input reads as it did. -/
def fnExactWordsOfTextSpec : ChangeSpec := { name := "fnExactWordsOfText", fn := fun _ => fun
  | [d] => { results := [.lit (.bool true)], args := [d] }
  | _ => none }
def fnExactWordsOfTextRow : OpenClaim := { program := "ytbebojahjfnkiaa", sum := "8cc691f99a8e66f20c6e053abf67982effd01d9fc9754f88650acdf00736b709", func := "loop.example/g01394/laws.FnExactWordsOfText", spec := "fnExactWordsOfText", apart := false }
def FnExactWordsOfTextSaid : Prop := fnExactWordsOfTextRow.holds Try.pinned (OpenSpec.ofChange fnExactWordsOfTextSpec)

/-- ITS FALSE NEIGHBOUR: 'it returns false'. Refute it at one input. -/
def fnExactWordsOfTextWrong : ChangeSpec := { name := "fnExactWordsOfText", fn := fun _ => fun
  | [d] => { results := [.lit (.bool false)], args := [d] }
  | _ => none }
def FnExactWordsOfTextWrongFalsely : Prop := fnExactWordsOfTextRow.holds Try.pinned (OpenSpec.ofChange fnExactWordsOfTextWrong)

/-- 'laws.FnExactStretchText': WHATEVER THE INPUT: true; the input reads as it did. -/
def fnExactStretchTextSpec : ChangeSpec := { name := "fnExactStretchText", fn := fun _ => fun
  | [d1, d2] => { results := [.lit (.bool true)], args := [d1, d2] }
  | _ => none }
def fnExactStretchTextRow : OpenClaim := { program := "ytbebojahjfnkiaa", sum := "8cc691f99a8e66f20c6e053abf67982effd01d9fc9754f88650acdf00736b709", func := "loop.example/g01394/laws.FnExactStretchText", spec := "fnExactStretchText", inPlace := ["internal/abi.NoEscape", "internal/bytealg.MakeNoZero"], unfollowed := true, recurses := true, apart := false }
def FnExactStretchTextSaid : Prop := fnExactStretchTextRow.holds Try.pinned (OpenSpec.ofChange fnExactStretchTextSpec)

/-- ITS FALSE NEIGHBOUR: 'it returns false'. Refute it at one input. -/
def fnExactStretchTextWrong : ChangeSpec := { name := "fnExactStretchText", fn := fun _ => fun
  | [d1, d2] => { results := [.lit (.bool false)], args := [d1, d2] }
  | _ => none }
def FnExactStretchTextWrongFalsely : Prop := fnExactStretchTextRow.holds Try.pinned (OpenSpec.ofChange fnExactStretchTextWrong)

/-- 'laws.FnExactCentreText': WHATEVER THE INPUT: true; the input reads as it did. -/
def fnExactCentreTextSpec : ChangeSpec := { name := "fnExactCentreText", fn := fun _ => fun
  | [d1, d2] => { results := [.lit (.bool true)], args := [d1, d2] }
  | _ => none }
def fnExactCentreTextRow : OpenClaim := { program := "ytbebojahjfnkiaa", sum := "8cc691f99a8e66f20c6e053abf67982effd01d9fc9754f88650acdf00736b709", func := "loop.example/g01394/laws.FnExactCentreText", spec := "fnExactCentreText", inPlace := ["internal/abi.NoEscape", "internal/bytealg.MakeNoZero"], apart := false }
def FnExactCentreTextSaid : Prop := fnExactCentreTextRow.holds Try.pinned (OpenSpec.ofChange fnExactCentreTextSpec)

/-- ITS FALSE NEIGHBOUR: 'it returns false'. Refute it at one input. -/
def fnExactCentreTextWrong : ChangeSpec := { name := "fnExactCentreText", fn := fun _ => fun
  | [d1, d2] => { results := [.lit (.bool false)], args := [d1, d2] }
  | _ => none }
def FnExactCentreTextWrongFalsely : Prop := fnExactCentreTextRow.holds Try.pinned (OpenSpec.ofChange fnExactCentreTextWrong)

/- THE SECOND FORM. 'bulk': how many values and letters a reading holds, each counted each time it is reached (what is shared counts as often as it is met; a slice's spare places count too). A statement '..UptoSaid' is the law's where the arguments, and the package variables that the reading takes, are together of bulk at most 1048576: NARROWER than '..Said'. Prove '..Said' where nothing that the law and all that it calls make is longer than what came in: it says more and counts as full. Else prove '..UptoSaid'. A law counts once. -/
mutual
def uptoBulk {H : Type} : DataW H → Nat
  | .lit (.string bytes) => bytes.length + 1
  | .lit _ => 1
  | .nil => 1
  | .ptr d => uptoBulk d + 1
  | .slice elems spare => uptoBulkAll elems + uptoBulkAll spare + 1
  | .agg parts => uptoBulkAll parts + 1
  | .iface _ d => uptoBulk d + 1
  | .map entries => uptoBulkEntries entries + 1
  | .held _ => 1
def uptoBulkAll {H : Type} : List (DataW H) → Nat
  | [] => 0
  | d :: r => uptoBulk d + uptoBulkAll r
def uptoBulkEntries {H : Type} : List (Lit × DataW H) → Nat
  | [] => 0
  | x :: r => uptoBulkEntry x + uptoBulkEntries r
def uptoBulkEntry {H : Type} : Lit × DataW H → Nat
  | (.string bytes, d) => bytes.length + uptoBulk d + 1
  | (_, d) => uptoBulk d + 1
 end
def uptoSmall : (H : Type) → List (DataW H) → Bool := fun _ ds => decide (uptoBulkAll ds ≤ 1048576)
def OpenSpec.upto (s : _root_.Go.ChangeSpec) : _root_.Go.OpenSpec := { _root_.Go.OpenSpec.ofChange s with cond := some uptoSmall }

/-- 'laws.FnExactWordsOfText', WHERE WHAT IT READS IS OF BULK AT MOST 1048576: true; the input reads as it did. -/
def fnExactWordsOfTextUptoRow : OpenClaim := { program := "ytbebojahjfnkiaa", sum := "8cc691f99a8e66f20c6e053abf67982effd01d9fc9754f88650acdf00736b709", func := "loop.example/g01394/laws.FnExactWordsOfText", spec := "fnExactWordsOfText", apart := false, narrowed := true }
def FnExactWordsOfTextUptoSaid : Prop := fnExactWordsOfTextUptoRow.holds Try.pinned (OpenSpec.upto fnExactWordsOfTextSpec)

/-- 'laws.FnExactStretchText', WHERE WHAT IT READS IS OF BULK AT MOST 1048576: true; the input reads as it did. -/
def fnExactStretchTextUptoRow : OpenClaim := { program := "ytbebojahjfnkiaa", sum := "8cc691f99a8e66f20c6e053abf67982effd01d9fc9754f88650acdf00736b709", func := "loop.example/g01394/laws.FnExactStretchText", spec := "fnExactStretchText", inPlace := ["internal/abi.NoEscape", "internal/bytealg.MakeNoZero"], unfollowed := true, recurses := true, apart := false, narrowed := true }
def FnExactStretchTextUptoSaid : Prop := fnExactStretchTextUptoRow.holds Try.pinned (OpenSpec.upto fnExactStretchTextSpec)

/-- 'laws.FnExactCentreText', WHERE WHAT IT READS IS OF BULK AT MOST 1048576: true; the input reads as it did. -/
def fnExactCentreTextUptoRow : OpenClaim := { program := "ytbebojahjfnkiaa", sum := "8cc691f99a8e66f20c6e053abf67982effd01d9fc9754f88650acdf00736b709", func := "loop.example/g01394/laws.FnExactCentreText", spec := "fnExactCentreText", inPlace := ["internal/abi.NoEscape", "internal/bytealg.MakeNoZero"], apart := false, narrowed := true }
def FnExactCentreTextUptoSaid : Prop := fnExactCentreTextUptoRow.holds Try.pinned (OpenSpec.upto fnExactCentreTextSpec)

end Rows
end Go.Proofs.Ytbebojahjfnkiaa
