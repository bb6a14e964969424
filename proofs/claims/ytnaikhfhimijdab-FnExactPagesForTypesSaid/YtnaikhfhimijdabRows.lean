/-
  No cell of these rows narrows 'for every input' (looked for: loops, veiled, ifaces, maps, wideKeys, modest, calm, conditions, laid).
  DERIVED. THE GIVEN ROWS OF THIS SEAT. 8 by the template 'for every input the law returns true; each argument reads behind the call as it read before'; 0 by the template 'total and deterministic' (their statements: YtnaikhfhimijdabTotals.lean).
  GIVEN WITH THE SEED: the statements are not yours to turn. If you find one false, say at which input.
  Laid BY PROGRAM, IN A SANDBOX (cutbox-rows.mjs): the forced cells as the released guide's own fill.sh prints them over the translation 7bb501a50588b032… (all of the seat's roots in one cut). By AI agents, Wed Nov 11 2026. No macro, syntax, notation, axiom, sorry.
-/
import Derived.Test.YtnaikhfhimijdabChecked
import GoSem.Claim
import GoSem.ClaimJoined
import GoSem.ClaimMapViews
import Derived.JoinedTies
import Derived.KernelRfl
namespace Go.Proofs.Ytnaikhfhimijdab
/- THE CELL 'sum', in the pinned program and in every row, IS THE sha256 OF THE DUMP (.gsa) THAT YtnaikhfhimijdabProg.lean LOADS. Nothing in Lean hashes anything: it is a label: what it is worth is what the hold of that sum in a sandbox is worth. -/
noncomputable def Try.pinned : Pinned := { name := "ytnaikhfhimijdab", sum := "7bb501a50588b03293f2e770f994479c115ea72b22f01fd8e194d066797135b1", checked := Try.checked }
namespace Rows
def none {H : Type} : Left H := { results := [], args := [] }

/-- 'laws.FnExactPagesForTypes': WHATEVER THE INPUT: true; the input reads as it did. -/
def fnExactPagesForTypesSpec : ChangeSpec := { name := "fnExactPagesForTypes", fn := fun _ => fun
  | [d1, d2] => { results := [.lit (.bool true)], args := [d1, d2] }
  | _ => none }
def fnExactPagesForTypesRow : OpenClaim := { program := "ytnaikhfhimijdab", sum := "7bb501a50588b03293f2e770f994479c115ea72b22f01fd8e194d066797135b1", func := "loop.example/g01394/laws.FnExactPagesForTypes", spec := "fnExactPagesForTypes", apart := false }
def FnExactPagesForTypesSaid : Prop := fnExactPagesForTypesRow.holds Try.pinned (OpenSpec.ofChange fnExactPagesForTypesSpec)

/-- ITS FALSE NEIGHBOUR: 'it returns false'. Refute it at one input. -/
def fnExactPagesForTypesWrong : ChangeSpec := { name := "fnExactPagesForTypes", fn := fun _ => fun
  | [d1, d2] => { results := [.lit (.bool false)], args := [d1, d2] }
  | _ => none }
def FnExactPagesForTypesWrongFalsely : Prop := fnExactPagesForTypesRow.holds Try.pinned (OpenSpec.ofChange fnExactPagesForTypesWrong)

/-- 'laws.FnExactSumOfPages': WHATEVER THE INPUT: true; the input reads as it did. -/
def fnExactSumOfPagesSpec : ChangeSpec := { name := "fnExactSumOfPages", fn := fun _ => fun
  | [d] => { results := [.lit (.bool true)], args := [d] }
  | _ => none }
def fnExactSumOfPagesRow : OpenClaim := { program := "ytnaikhfhimijdab", sum := "7bb501a50588b03293f2e770f994479c115ea72b22f01fd8e194d066797135b1", func := "loop.example/g01394/laws.FnExactSumOfPages", spec := "fnExactSumOfPages", apart := false }
def FnExactSumOfPagesSaid : Prop := fnExactSumOfPagesRow.holds Try.pinned (OpenSpec.ofChange fnExactSumOfPagesSpec)

/-- ITS FALSE NEIGHBOUR: 'it returns false'. Refute it at one input. -/
def fnExactSumOfPagesWrong : ChangeSpec := { name := "fnExactSumOfPages", fn := fun _ => fun
  | [d] => { results := [.lit (.bool false)], args := [d] }
  | _ => none }
def FnExactSumOfPagesWrongFalsely : Prop := fnExactSumOfPagesRow.holds Try.pinned (OpenSpec.ofChange fnExactSumOfPagesWrong)

/-- 'laws.FnExactSumOfLeaf': WHATEVER THE INPUT: true; the input reads as it did. -/
def fnExactSumOfLeafSpec : ChangeSpec := { name := "fnExactSumOfLeaf", fn := fun _ => fun
  | [d] => { results := [.lit (.bool true)], args := [d] }
  | _ => none }
def fnExactSumOfLeafRow : OpenClaim := { program := "ytnaikhfhimijdab", sum := "7bb501a50588b03293f2e770f994479c115ea72b22f01fd8e194d066797135b1", func := "loop.example/g01394/laws.FnExactSumOfLeaf", spec := "fnExactSumOfLeaf", apart := false }
def FnExactSumOfLeafSaid : Prop := fnExactSumOfLeafRow.holds Try.pinned (OpenSpec.ofChange fnExactSumOfLeafSpec)

/-- ITS FALSE NEIGHBOUR: 'it returns false'. Refute it at one input. -/
def fnExactSumOfLeafWrong : ChangeSpec := { name := "fnExactSumOfLeaf", fn := fun _ => fun
  | [d] => { results := [.lit (.bool false)], args := [d] }
  | _ => none }
def FnExactSumOfLeafWrongFalsely : Prop := fnExactSumOfLeafRow.holds Try.pinned (OpenSpec.ofChange fnExactSumOfLeafWrong)

/-- 'laws.FnExactTornLeaf': WHATEVER THE INPUT: true; the input reads as it did. -/
def fnExactTornLeafSpec : ChangeSpec := { name := "fnExactTornLeaf", fn := fun _ => fun
  | [d1, d2] => { results := [.lit (.bool true)], args := [d1, d2] }
  | _ => none }
def fnExactTornLeafRow : OpenClaim := { program := "ytnaikhfhimijdab", sum := "7bb501a50588b03293f2e770f994479c115ea72b22f01fd8e194d066797135b1", func := "loop.example/g01394/laws.FnExactTornLeaf", spec := "fnExactTornLeaf", apart := false }
def FnExactTornLeafSaid : Prop := fnExactTornLeafRow.holds Try.pinned (OpenSpec.ofChange fnExactTornLeafSpec)

/-- ITS FALSE NEIGHBOUR: 'it returns false'. Refute it at one input. -/
def fnExactTornLeafWrong : ChangeSpec := { name := "fnExactTornLeaf", fn := fun _ => fun
  | [d1, d2] => { results := [.lit (.bool false)], args := [d1, d2] }
  | _ => none }
def FnExactTornLeafWrongFalsely : Prop := fnExactTornLeafRow.holds Try.pinned (OpenSpec.ofChange fnExactTornLeafWrong)

/-- 'laws.FnExactTornFromSum': WHATEVER THE INPUT: true; the input reads as it did. -/
def fnExactTornFromSumSpec : ChangeSpec := { name := "fnExactTornFromSum", fn := fun _ => fun
  | [d] => { results := [.lit (.bool true)], args := [d] }
  | _ => none }
def fnExactTornFromSumRow : OpenClaim := { program := "ytnaikhfhimijdab", sum := "7bb501a50588b03293f2e770f994479c115ea72b22f01fd8e194d066797135b1", func := "loop.example/g01394/laws.FnExactTornFromSum", spec := "fnExactTornFromSum", apart := false }
def FnExactTornFromSumSaid : Prop := fnExactTornFromSumRow.holds Try.pinned (OpenSpec.ofChange fnExactTornFromSumSpec)

/-- ITS FALSE NEIGHBOUR: 'it returns false'. Refute it at one input. -/
def fnExactTornFromSumWrong : ChangeSpec := { name := "fnExactTornFromSum", fn := fun _ => fun
  | [d] => { results := [.lit (.bool false)], args := [d] }
  | _ => none }
def FnExactTornFromSumWrongFalsely : Prop := fnExactTornFromSumRow.holds Try.pinned (OpenSpec.ofChange fnExactTornFromSumWrong)

/-- 'laws.FnExactCountTornTwo': WHATEVER THE INPUT: true; the input reads as it did. -/
def fnExactCountTornTwoSpec : ChangeSpec := { name := "fnExactCountTornTwo", fn := fun _ => fun
  | [d1, d2] => { results := [.lit (.bool true)], args := [d1, d2] }
  | _ => none }
def fnExactCountTornTwoRow : OpenClaim := { program := "ytnaikhfhimijdab", sum := "7bb501a50588b03293f2e770f994479c115ea72b22f01fd8e194d066797135b1", func := "loop.example/g01394/laws.FnExactCountTornTwo", spec := "fnExactCountTornTwo", apart := false }
def FnExactCountTornTwoSaid : Prop := fnExactCountTornTwoRow.holds Try.pinned (OpenSpec.ofChange fnExactCountTornTwoSpec)

/-- ITS FALSE NEIGHBOUR: 'it returns false'. Refute it at one input. -/
def fnExactCountTornTwoWrong : ChangeSpec := { name := "fnExactCountTornTwo", fn := fun _ => fun
  | [d1, d2] => { results := [.lit (.bool false)], args := [d1, d2] }
  | _ => none }
def FnExactCountTornTwoWrongFalsely : Prop := fnExactCountTornTwoRow.holds Try.pinned (OpenSpec.ofChange fnExactCountTornTwoWrong)

/-- 'laws.FnExactFirstTornTwo': WHATEVER THE INPUT: true; the input reads as it did. -/
def fnExactFirstTornTwoSpec : ChangeSpec := { name := "fnExactFirstTornTwo", fn := fun _ => fun
  | [d1, d2] => { results := [.lit (.bool true)], args := [d1, d2] }
  | _ => none }
def fnExactFirstTornTwoRow : OpenClaim := { program := "ytnaikhfhimijdab", sum := "7bb501a50588b03293f2e770f994479c115ea72b22f01fd8e194d066797135b1", func := "loop.example/g01394/laws.FnExactFirstTornTwo", spec := "fnExactFirstTornTwo", apart := false }
def FnExactFirstTornTwoSaid : Prop := fnExactFirstTornTwoRow.holds Try.pinned (OpenSpec.ofChange fnExactFirstTornTwoSpec)

/-- ITS FALSE NEIGHBOUR: 'it returns false'. Refute it at one input. -/
def fnExactFirstTornTwoWrong : ChangeSpec := { name := "fnExactFirstTornTwo", fn := fun _ => fun
  | [d1, d2] => { results := [.lit (.bool false)], args := [d1, d2] }
  | _ => none }
def FnExactFirstTornTwoWrongFalsely : Prop := fnExactFirstTornTwoRow.holds Try.pinned (OpenSpec.ofChange fnExactFirstTornTwoWrong)

/-- 'laws.FnExactCanBeTorn': WHATEVER THE INPUT: true; the input reads as it did. -/
def fnExactCanBeTornSpec : ChangeSpec := { name := "fnExactCanBeTorn", fn := fun _ => fun
  | [d1, d2] => { results := [.lit (.bool true)], args := [d1, d2] }
  | _ => none }
def fnExactCanBeTornRow : OpenClaim := { program := "ytnaikhfhimijdab", sum := "7bb501a50588b03293f2e770f994479c115ea72b22f01fd8e194d066797135b1", func := "loop.example/g01394/laws.FnExactCanBeTorn", spec := "fnExactCanBeTorn", apart := false }
def FnExactCanBeTornSaid : Prop := fnExactCanBeTornRow.holds Try.pinned (OpenSpec.ofChange fnExactCanBeTornSpec)

/-- ITS FALSE NEIGHBOUR: 'it returns false'. Refute it at one input. -/
def fnExactCanBeTornWrong : ChangeSpec := { name := "fnExactCanBeTorn", fn := fun _ => fun
  | [d1, d2] => { results := [.lit (.bool false)], args := [d1, d2] }
  | _ => none }
def FnExactCanBeTornWrongFalsely : Prop := fnExactCanBeTornRow.holds Try.pinned (OpenSpec.ofChange fnExactCanBeTornWrong)

/- THE SECOND FORM. 'bulk': how many values and letters a reading holds, each counted each time it is reached (what is shared counts as often as it is met; a slice's spare places count too). A statement '..UptoSaid' is the law's where the arguments, and the package variables that the reading takes, are together of bulk at most 1048576: NARROWER than '..Said'. Prove '..Said' where nothing that the law and all that it calls make is longer than what came in: it says more and counts as full. Else prove '..UptoSaid'. A law counts once. -/
mutual
def uptoBulk {H : Type} : DataW H → Nat
  | .lit (.string bytes) => bytes.length + 1
  | .lit _ => 1
  | .nil => 1
  | .ptr d => uptoBulk d + 1
  | .slice elems spare => uptoBulkAll elems + uptoBulkAll spare + 1
  | .agg parts => uptoBulkAll parts + 1
  | .iface _ d => uptoBulk d + 1
  | .map entries => uptoBulkEntries entries + 1
  | .held _ => 1
def uptoBulkAll {H : Type} : List (DataW H) → Nat
  | [] => 0
  | d :: r => uptoBulk d + uptoBulkAll r
def uptoBulkEntries {H : Type} : List (Lit × DataW H) → Nat
  | [] => 0
  | x :: r => uptoBulkEntry x + uptoBulkEntries r
def uptoBulkEntry {H : Type} : Lit × DataW H → Nat
  | (.string bytes, d) => bytes.length + uptoBulk d + 1
  | (_, d) => uptoBulk d + 1
 end
def uptoSmall : (H : Type) → List (DataW H) → Bool := fun _ ds => decide (uptoBulkAll ds ≤ 1048576)
def OpenSpec.upto (s : _root_.Go.ChangeSpec) : _root_.Go.OpenSpec := { _root_.Go.OpenSpec.ofChange s with cond := some uptoSmall }

/-- 'laws.FnExactPagesForTypes', WHERE WHAT IT READS IS OF BULK AT MOST 1048576: true; the input reads as it did. -/
def fnExactPagesForTypesUptoRow : OpenClaim := { program := "ytnaikhfhimijdab", sum := "7bb501a50588b03293f2e770f994479c115ea72b22f01fd8e194d066797135b1", func := "loop.example/g01394/laws.FnExactPagesForTypes", spec := "fnExactPagesForTypes", apart := false, narrowed := true }
def FnExactPagesForTypesUptoSaid : Prop := fnExactPagesForTypesUptoRow.holds Try.pinned (OpenSpec.upto fnExactPagesForTypesSpec)

/-- 'laws.FnExactSumOfPages', WHERE WHAT IT READS IS OF BULK AT MOST 1048576: true; the input reads as it did. -/
def fnExactSumOfPagesUptoRow : OpenClaim := { program := "ytnaikhfhimijdab", sum := "7bb501a50588b03293f2e770f994479c115ea72b22f01fd8e194d066797135b1", func := "loop.example/g01394/laws.FnExactSumOfPages", spec := "fnExactSumOfPages", apart := false, narrowed := true }
def FnExactSumOfPagesUptoSaid : Prop := fnExactSumOfPagesUptoRow.holds Try.pinned (OpenSpec.upto fnExactSumOfPagesSpec)

/-- 'laws.FnExactSumOfLeaf', WHERE WHAT IT READS IS OF BULK AT MOST 1048576: true; the input reads as it did. -/
def fnExactSumOfLeafUptoRow : OpenClaim := { program := "ytnaikhfhimijdab", sum := "7bb501a50588b03293f2e770f994479c115ea72b22f01fd8e194d066797135b1", func := "loop.example/g01394/laws.FnExactSumOfLeaf", spec := "fnExactSumOfLeaf", apart := false, narrowed := true }
def FnExactSumOfLeafUptoSaid : Prop := fnExactSumOfLeafUptoRow.holds Try.pinned (OpenSpec.upto fnExactSumOfLeafSpec)

/-- 'laws.FnExactTornLeaf', WHERE WHAT IT READS IS OF BULK AT MOST 1048576: true; the input reads as it did. -/
def fnExactTornLeafUptoRow : OpenClaim := { program := "ytnaikhfhimijdab", sum := "7bb501a50588b03293f2e770f994479c115ea72b22f01fd8e194d066797135b1", func := "loop.example/g01394/laws.FnExactTornLeaf", spec := "fnExactTornLeaf", apart := false, narrowed := true }
def FnExactTornLeafUptoSaid : Prop := fnExactTornLeafUptoRow.holds Try.pinned (OpenSpec.upto fnExactTornLeafSpec)

/-- 'laws.FnExactTornFromSum', WHERE WHAT IT READS IS OF BULK AT MOST 1048576: true; the input reads as it did. -/
def fnExactTornFromSumUptoRow : OpenClaim := { program := "ytnaikhfhimijdab", sum := "7bb501a50588b03293f2e770f994479c115ea72b22f01fd8e194d066797135b1", func := "loop.example/g01394/laws.FnExactTornFromSum", spec := "fnExactTornFromSum", apart := false, narrowed := true }
def FnExactTornFromSumUptoSaid : Prop := fnExactTornFromSumUptoRow.holds Try.pinned (OpenSpec.upto fnExactTornFromSumSpec)

/-- 'laws.FnExactCountTornTwo', WHERE WHAT IT READS IS OF BULK AT MOST 1048576: true; the input reads as it did. -/
def fnExactCountTornTwoUptoRow : OpenClaim := { program := "ytnaikhfhimijdab", sum := "7bb501a50588b03293f2e770f994479c115ea72b22f01fd8e194d066797135b1", func := "loop.example/g01394/laws.FnExactCountTornTwo", spec := "fnExactCountTornTwo", apart := false, narrowed := true }
def FnExactCountTornTwoUptoSaid : Prop := fnExactCountTornTwoUptoRow.holds Try.pinned (OpenSpec.upto fnExactCountTornTwoSpec)

/-- 'laws.FnExactFirstTornTwo', WHERE WHAT IT READS IS OF BULK AT MOST 1048576: true; the input reads as it did. -/
def fnExactFirstTornTwoUptoRow : OpenClaim := { program := "ytnaikhfhimijdab", sum := "7bb501a50588b03293f2e770f994479c115ea72b22f01fd8e194d066797135b1", func := "loop.example/g01394/laws.FnExactFirstTornTwo", spec := "fnExactFirstTornTwo", apart := false, narrowed := true }
def FnExactFirstTornTwoUptoSaid : Prop := fnExactFirstTornTwoUptoRow.holds Try.pinned (OpenSpec.upto fnExactFirstTornTwoSpec)

/-- 'laws.FnExactCanBeTorn', WHERE WHAT IT READS IS OF BULK AT MOST 1048576: true; the input reads as it did. -/
def fnExactCanBeTornUptoRow : OpenClaim := { program := "ytnaikhfhimijdab", sum := "7bb501a50588b03293f2e770f994479c115ea72b22f01fd8e194d066797135b1", func := "loop.example/g01394/laws.FnExactCanBeTorn", spec := "fnExactCanBeTorn", apart := false, narrowed := true }
def FnExactCanBeTornUptoSaid : Prop := fnExactCanBeTornUptoRow.holds Try.pinned (OpenSpec.upto fnExactCanBeTornSpec)

end Rows
end Go.Proofs.Ytnaikhfhimijdab
