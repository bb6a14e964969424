/-
  No cell of these rows narrows 'for every input' (looked for: loops, veiled, ifaces, maps, wideKeys, modest, calm, conditions, laid).
  DERIVED. THE GIVEN ROWS OF THIS SEAT. 10 by the template 'for every input the law returns true; each argument reads behind the call as it read before'; 0 by the template 'total and deterministic' (their statements: YtnaikhfhimijdaaTotals.lean).
  GIVEN WITH THE SEED: the statements are not yours to turn. If you find one false, say at which input.
  Laid BY PROGRAM, IN A SANDBOX (cutbox-rows.mjs): the forced cells as the released guide's own fill.sh prints them over the translation 42095771006be789… (all of the seat's roots in one cut). By AI agents, Wed Nov 11 2026. No macro, syntax, notation, axiom, sorry.
-/
import Derived.Test.YtnaikhfhimijdaaChecked
import GoSem.Claim
import GoSem.ClaimJoined
import GoSem.ClaimMapViews
import Derived.JoinedTies
import Derived.KernelRfl
namespace Go.Proofs.Ytnaikhfhimijdaa
/- THE CELL 'sum', in the pinned program and in every row, IS THE sha256 OF THE DUMP (.gsa) THAT YtnaikhfhimijdaaProg.lean LOADS. Nothing in Lean hashes anything: it is a label: what it is worth is what the hold of that sum in a sandbox is worth. -/
noncomputable def Try.pinned : Pinned := { name := "ytnaikhfhimijdaa", sum := "42095771006be789368610626e99fc5d4dad4b611f2cca7cbae543e578903f3a", checked := Try.checked }
namespace Rows
def none {H : Type} : Left H := { results := [], args := [] }

/-- 'laws.FnExactIsPage': WHATEVER THE INPUT: true; the input reads as it did. -/
def fnExactIsPageSpec : ChangeSpec := { name := "fnExactIsPage", fn := fun _ => fun
  | [d1, d2] => { results := [.lit (.bool true)], args := [d1, d2] }
  | _ => none }
def fnExactIsPageRow : OpenClaim := { program := "ytnaikhfhimijdaa", sum := "42095771006be789368610626e99fc5d4dad4b611f2cca7cbae543e578903f3a", func := "loop.example/g01394/laws.FnExactIsPage", spec := "fnExactIsPage", apart := false }
def FnExactIsPageSaid : Prop := fnExactIsPageRow.holds Try.pinned (OpenSpec.ofChange fnExactIsPageSpec)

/-- ITS FALSE NEIGHBOUR: 'it returns false'. Refute it at one input. -/
def fnExactIsPageWrong : ChangeSpec := { name := "fnExactIsPage", fn := fun _ => fun
  | [d1, d2] => { results := [.lit (.bool false)], args := [d1, d2] }
  | _ => none }
def FnExactIsPageWrongFalsely : Prop := fnExactIsPageRow.holds Try.pinned (OpenSpec.ofChange fnExactIsPageWrong)

/-- 'laws.FnExactIsRightPage': WHATEVER THE INPUT: true; the input reads as it did. -/
def fnExactIsRightPageSpec : ChangeSpec := { name := "fnExactIsRightPage", fn := fun _ => fun
  | [d] => { results := [.lit (.bool true)], args := [d] }
  | _ => none }
def fnExactIsRightPageRow : OpenClaim := { program := "ytnaikhfhimijdaa", sum := "42095771006be789368610626e99fc5d4dad4b611f2cca7cbae543e578903f3a", func := "loop.example/g01394/laws.FnExactIsRightPage", spec := "fnExactIsRightPage", apart := false }
def FnExactIsRightPageSaid : Prop := fnExactIsRightPageRow.holds Try.pinned (OpenSpec.ofChange fnExactIsRightPageSpec)

/-- ITS FALSE NEIGHBOUR: 'it returns false'. Refute it at one input. -/
def fnExactIsRightPageWrong : ChangeSpec := { name := "fnExactIsRightPage", fn := fun _ => fun
  | [d] => { results := [.lit (.bool false)], args := [d] }
  | _ => none }
def FnExactIsRightPageWrongFalsely : Prop := fnExactIsRightPageRow.holds Try.pinned (OpenSpec.ofChange fnExactIsRightPageWrong)

/-- 'laws.FnExactLeafOfPage': WHATEVER THE INPUT: true; the input reads as it did. -/
def fnExactLeafOfPageSpec : ChangeSpec := { name := "fnExactLeafOfPage", fn := fun _ => fun
  | [d] => { results := [.lit (.bool true)], args := [d] }
  | _ => none }
def fnExactLeafOfPageRow : OpenClaim := { program := "ytnaikhfhimijdaa", sum := "42095771006be789368610626e99fc5d4dad4b611f2cca7cbae543e578903f3a", func := "loop.example/g01394/laws.FnExactLeafOfPage", spec := "fnExactLeafOfPage", apart := false }
def FnExactLeafOfPageSaid : Prop := fnExactLeafOfPageRow.holds Try.pinned (OpenSpec.ofChange fnExactLeafOfPageSpec)

/-- ITS FALSE NEIGHBOUR: 'it returns false'. Refute it at one input. -/
def fnExactLeafOfPageWrong : ChangeSpec := { name := "fnExactLeafOfPage", fn := fun _ => fun
  | [d] => { results := [.lit (.bool false)], args := [d] }
  | _ => none }
def FnExactLeafOfPageWrongFalsely : Prop := fnExactLeafOfPageRow.holds Try.pinned (OpenSpec.ofChange fnExactLeafOfPageWrong)

/-- 'laws.FnExactPagesOfLeaf': WHATEVER THE INPUT: true; the input reads as it did. -/
def fnExactPagesOfLeafSpec : ChangeSpec := { name := "fnExactPagesOfLeaf", fn := fun _ => fun
  | [d] => { results := [.lit (.bool true)], args := [d] }
  | _ => none }
def fnExactPagesOfLeafRow : OpenClaim := { program := "ytnaikhfhimijdaa", sum := "42095771006be789368610626e99fc5d4dad4b611f2cca7cbae543e578903f3a", func := "loop.example/g01394/laws.FnExactPagesOfLeaf", spec := "fnExactPagesOfLeaf", apart := false }
def FnExactPagesOfLeafSaid : Prop := fnExactPagesOfLeafRow.holds Try.pinned (OpenSpec.ofChange fnExactPagesOfLeafSpec)

/-- ITS FALSE NEIGHBOUR: 'it returns false'. Refute it at one input. -/
def fnExactPagesOfLeafWrong : ChangeSpec := { name := "fnExactPagesOfLeaf", fn := fun _ => fun
  | [d] => { results := [.lit (.bool false)], args := [d] }
  | _ => none }
def FnExactPagesOfLeafWrongFalsely : Prop := fnExactPagesOfLeafRow.holds Try.pinned (OpenSpec.ofChange fnExactPagesOfLeafWrong)

/-- 'laws.FnExactBackOfPage': WHATEVER THE INPUT: true; the input reads as it did. -/
def fnExactBackOfPageSpec : ChangeSpec := { name := "fnExactBackOfPage", fn := fun _ => fun
  | [d] => { results := [.lit (.bool true)], args := [d] }
  | _ => none }
def fnExactBackOfPageRow : OpenClaim := { program := "ytnaikhfhimijdaa", sum := "42095771006be789368610626e99fc5d4dad4b611f2cca7cbae543e578903f3a", func := "loop.example/g01394/laws.FnExactBackOfPage", spec := "fnExactBackOfPage", apart := false }
def FnExactBackOfPageSaid : Prop := fnExactBackOfPageRow.holds Try.pinned (OpenSpec.ofChange fnExactBackOfPageSpec)

/-- ITS FALSE NEIGHBOUR: 'it returns false'. Refute it at one input. -/
def fnExactBackOfPageWrong : ChangeSpec := { name := "fnExactBackOfPage", fn := fun _ => fun
  | [d] => { results := [.lit (.bool false)], args := [d] }
  | _ => none }
def FnExactBackOfPageWrongFalsely : Prop := fnExactBackOfPageRow.holds Try.pinned (OpenSpec.ofChange fnExactBackOfPageWrong)

/-- 'laws.FnExactFacingPage': WHATEVER THE INPUT: true; the input reads as it did. -/
def fnExactFacingPageSpec : ChangeSpec := { name := "fnExactFacingPage", fn := fun _ => fun
  | [d1, d2] => { results := [.lit (.bool true)], args := [d1, d2] }
  | _ => none }
def fnExactFacingPageRow : OpenClaim := { program := "ytnaikhfhimijdaa", sum := "42095771006be789368610626e99fc5d4dad4b611f2cca7cbae543e578903f3a", func := "loop.example/g01394/laws.FnExactFacingPage", spec := "fnExactFacingPage", apart := false }
def FnExactFacingPageSaid : Prop := fnExactFacingPageRow.holds Try.pinned (OpenSpec.ofChange fnExactFacingPageSpec)

/-- ITS FALSE NEIGHBOUR: 'it returns false'. Refute it at one input. -/
def fnExactFacingPageWrong : ChangeSpec := { name := "fnExactFacingPage", fn := fun _ => fun
  | [d1, d2] => { results := [.lit (.bool false)], args := [d1, d2] }
  | _ => none }
def FnExactFacingPageWrongFalsely : Prop := fnExactFacingPageRow.holds Try.pinned (OpenSpec.ofChange fnExactFacingPageWrong)

/-- 'laws.FnExactLeavesOfBook': WHATEVER THE INPUT: true; the input reads as it did. -/
def fnExactLeavesOfBookSpec : ChangeSpec := { name := "fnExactLeavesOfBook", fn := fun _ => fun
  | [d] => { results := [.lit (.bool true)], args := [d] }
  | _ => none }
def fnExactLeavesOfBookRow : OpenClaim := { program := "ytnaikhfhimijdaa", sum := "42095771006be789368610626e99fc5d4dad4b611f2cca7cbae543e578903f3a", func := "loop.example/g01394/laws.FnExactLeavesOfBook", spec := "fnExactLeavesOfBook", apart := false }
def FnExactLeavesOfBookSaid : Prop := fnExactLeavesOfBookRow.holds Try.pinned (OpenSpec.ofChange fnExactLeavesOfBookSpec)

/-- ITS FALSE NEIGHBOUR: 'it returns false'. Refute it at one input. -/
def fnExactLeavesOfBookWrong : ChangeSpec := { name := "fnExactLeavesOfBook", fn := fun _ => fun
  | [d] => { results := [.lit (.bool false)], args := [d] }
  | _ => none }
def FnExactLeavesOfBookWrongFalsely : Prop := fnExactLeavesOfBookRow.holds Try.pinned (OpenSpec.ofChange fnExactLeavesOfBookWrong)

/-- 'laws.FnExactDigitsOfBook': WHATEVER THE INPUT: true; the input reads as it did. -/
def fnExactDigitsOfBookSpec : ChangeSpec := { name := "fnExactDigitsOfBook", fn := fun _ => fun
  | [d] => { results := [.lit (.bool true)], args := [d] }
  | _ => none }
def fnExactDigitsOfBookRow : OpenClaim := { program := "ytnaikhfhimijdaa", sum := "42095771006be789368610626e99fc5d4dad4b611f2cca7cbae543e578903f3a", func := "loop.example/g01394/laws.FnExactDigitsOfBook", spec := "fnExactDigitsOfBook", recurses := true, apart := false }
def FnExactDigitsOfBookSaid : Prop := fnExactDigitsOfBookRow.holds Try.pinned (OpenSpec.ofChange fnExactDigitsOfBookSpec)

/-- ITS FALSE NEIGHBOUR: 'it returns false'. Refute it at one input. -/
def fnExactDigitsOfBookWrong : ChangeSpec := { name := "fnExactDigitsOfBook", fn := fun _ => fun
  | [d] => { results := [.lit (.bool false)], args := [d] }
  | _ => none }
def FnExactDigitsOfBookWrongFalsely : Prop := fnExactDigitsOfBookRow.holds Try.pinned (OpenSpec.ofChange fnExactDigitsOfBookWrong)

/-- 'laws.FnExactCountDigit': WHATEVER THE INPUT: true; the input reads as it did. -/
def fnExactCountDigitSpec : ChangeSpec := { name := "fnExactCountDigit", fn := fun _ => fun
  | [d1, d2] => { results := [.lit (.bool true)], args := [d1, d2] }
  | _ => none }
def fnExactCountDigitRow : OpenClaim := { program := "ytnaikhfhimijdaa", sum := "42095771006be789368610626e99fc5d4dad4b611f2cca7cbae543e578903f3a", func := "loop.example/g01394/laws.FnExactCountDigit", spec := "fnExactCountDigit", apart := false }
def FnExactCountDigitSaid : Prop := fnExactCountDigitRow.holds Try.pinned (OpenSpec.ofChange fnExactCountDigitSpec)

/-- ITS FALSE NEIGHBOUR: 'it returns false'. Refute it at one input. -/
def fnExactCountDigitWrong : ChangeSpec := { name := "fnExactCountDigit", fn := fun _ => fun
  | [d1, d2] => { results := [.lit (.bool false)], args := [d1, d2] }
  | _ => none }
def FnExactCountDigitWrongFalsely : Prop := fnExactCountDigitRow.holds Try.pinned (OpenSpec.ofChange fnExactCountDigitWrong)

/-- 'laws.FnExactPagesWithDigit': WHATEVER THE INPUT: true; the input reads as it did. -/
def fnExactPagesWithDigitSpec : ChangeSpec := { name := "fnExactPagesWithDigit", fn := fun _ => fun
  | [d1, d2] => { results := [.lit (.bool true)], args := [d1, d2] }
  | _ => none }
def fnExactPagesWithDigitRow : OpenClaim := { program := "ytnaikhfhimijdaa", sum := "42095771006be789368610626e99fc5d4dad4b611f2cca7cbae543e578903f3a", func := "loop.example/g01394/laws.FnExactPagesWithDigit", spec := "fnExactPagesWithDigit", apart := false }
def FnExactPagesWithDigitSaid : Prop := fnExactPagesWithDigitRow.holds Try.pinned (OpenSpec.ofChange fnExactPagesWithDigitSpec)

/-- ITS FALSE NEIGHBOUR: 'it returns false'. Refute it at one input. -/
def fnExactPagesWithDigitWrong : ChangeSpec := { name := "fnExactPagesWithDigit", fn := fun _ => fun
  | [d1, d2] => { results := [.lit (.bool false)], args := [d1, d2] }
  | _ => none }
def FnExactPagesWithDigitWrongFalsely : Prop := fnExactPagesWithDigitRow.holds Try.pinned (OpenSpec.ofChange fnExactPagesWithDigitWrong)

/- THE SECOND FORM. 'bulk': how many values and letters a reading holds, each counted each time it is reached (what is shared counts as often as it is met; a slice's spare places count too). A statement '..UptoSaid' is the law's where the arguments, and the package variables that the reading takes, are together of bulk at most 1048576: NARROWER than '..Said'. Prove '..Said' where nothing that the law and all that it calls make is longer than what came in: it says more and counts as full. Else prove '..UptoSaid'. A law counts once. -/
mutual
def uptoBulk {H : Type} : DataW H → Nat
  | .lit (.string bytes) => bytes.length + 1
  | .lit _ => 1
  | .nil => 1
  | .ptr d => uptoBulk d + 1
  | .slice elems spare => uptoBulkAll elems + uptoBulkAll spare + 1
  | .agg parts => uptoBulkAll parts + 1
  | .iface _ d => uptoBulk d + 1
  | .map entries => uptoBulkEntries entries + 1
  | .held _ => 1
def uptoBulkAll {H : Type} : List (DataW H) → Nat
  | [] => 0
  | d :: r => uptoBulk d + uptoBulkAll r
def uptoBulkEntries {H : Type} : List (Lit × DataW H) → Nat
  | [] => 0
  | x :: r => uptoBulkEntry x + uptoBulkEntries r
def uptoBulkEntry {H : Type} : Lit × DataW H → Nat
  | (.string bytes, d) => bytes.length + uptoBulk d + 1
  | (_, d) => uptoBulk d + 1
 end
def uptoSmall : (H : Type) → List (DataW H) → Bool := fun _ ds => decide (uptoBulkAll ds ≤ 1048576)
def OpenSpec.upto (s : _root_.Go.ChangeSpec) : _root_.Go.OpenSpec := { _root_.Go.OpenSpec.ofChange s with cond := some uptoSmall }

/-- 'laws.FnExactIsPage', WHERE WHAT IT READS IS OF BULK AT MOST 1048576: true; the input reads as it did. -/
def fnExactIsPageUptoRow : OpenClaim := { program := "ytnaikhfhimijdaa", sum := "42095771006be789368610626e99fc5d4dad4b611f2cca7cbae543e578903f3a", func := "loop.example/g01394/laws.FnExactIsPage", spec := "fnExactIsPage", apart := false, narrowed := true }
def FnExactIsPageUptoSaid : Prop := fnExactIsPageUptoRow.holds Try.pinned (OpenSpec.upto fnExactIsPageSpec)

/-- 'laws.FnExactIsRightPage', WHERE WHAT IT READS IS OF BULK AT MOST 1048576: true; the input reads as it did. -/
def fnExactIsRightPageUptoRow : OpenClaim := { program := "ytnaikhfhimijdaa", sum := "42095771006be789368610626e99fc5d4dad4b611f2cca7cbae543e578903f3a", func := "loop.example/g01394/laws.FnExactIsRightPage", spec := "fnExactIsRightPage", apart := false, narrowed := true }
def FnExactIsRightPageUptoSaid : Prop := fnExactIsRightPageUptoRow.holds Try.pinned (OpenSpec.upto fnExactIsRightPageSpec)

/-- 'laws.FnExactLeafOfPage', WHERE WHAT IT READS IS OF BULK AT MOST 1048576: true; the input reads as it did. -/
def fnExactLeafOfPageUptoRow : OpenClaim := { program := "ytnaikhfhimijdaa", sum := "42095771006be789368610626e99fc5d4dad4b611f2cca7cbae543e578903f3a", func := "loop.example/g01394/laws.FnExactLeafOfPage", spec := "fnExactLeafOfPage", apart := false, narrowed := true }
def FnExactLeafOfPageUptoSaid : Prop := fnExactLeafOfPageUptoRow.holds Try.pinned (OpenSpec.upto fnExactLeafOfPageSpec)

/-- 'laws.FnExactPagesOfLeaf', WHERE WHAT IT READS IS OF BULK AT MOST 1048576: true; the input reads as it did. -/
def fnExactPagesOfLeafUptoRow : OpenClaim := { program := "ytnaikhfhimijdaa", sum := "42095771006be789368610626e99fc5d4dad4b611f2cca7cbae543e578903f3a", func := "loop.example/g01394/laws.FnExactPagesOfLeaf", spec := "fnExactPagesOfLeaf", apart := false, narrowed := true }
def FnExactPagesOfLeafUptoSaid : Prop := fnExactPagesOfLeafUptoRow.holds Try.pinned (OpenSpec.upto fnExactPagesOfLeafSpec)

/-- 'laws.FnExactBackOfPage', WHERE WHAT IT READS IS OF BULK AT MOST 1048576: true; the input reads as it did. -/
def fnExactBackOfPageUptoRow : OpenClaim := { program := "ytnaikhfhimijdaa", sum := "42095771006be789368610626e99fc5d4dad4b611f2cca7cbae543e578903f3a", func := "loop.example/g01394/laws.FnExactBackOfPage", spec := "fnExactBackOfPage", apart := false, narrowed := true }
def FnExactBackOfPageUptoSaid : Prop := fnExactBackOfPageUptoRow.holds Try.pinned (OpenSpec.upto fnExactBackOfPageSpec)

/-- 'laws.FnExactFacingPage', WHERE WHAT IT READS IS OF BULK AT MOST 1048576: true; the input reads as it did. -/
def fnExactFacingPageUptoRow : OpenClaim := { program := "ytnaikhfhimijdaa", sum := "42095771006be789368610626e99fc5d4dad4b611f2cca7cbae543e578903f3a", func := "loop.example/g01394/laws.FnExactFacingPage", spec := "fnExactFacingPage", apart := false, narrowed := true }
def FnExactFacingPageUptoSaid : Prop := fnExactFacingPageUptoRow.holds Try.pinned (OpenSpec.upto fnExactFacingPageSpec)

/-- 'laws.FnExactLeavesOfBook', WHERE WHAT IT READS IS OF BULK AT MOST 1048576: true; the input reads as it did. -/
def fnExactLeavesOfBookUptoRow : OpenClaim := { program := "ytnaikhfhimijdaa", sum := "42095771006be789368610626e99fc5d4dad4b611f2cca7cbae543e578903f3a", func := "loop.example/g01394/laws.FnExactLeavesOfBook", spec := "fnExactLeavesOfBook", apart := false, narrowed := true }
def FnExactLeavesOfBookUptoSaid : Prop := fnExactLeavesOfBookUptoRow.holds Try.pinned (OpenSpec.upto fnExactLeavesOfBookSpec)

/-- 'laws.FnExactDigitsOfBook', WHERE WHAT IT READS IS OF BULK AT MOST 1048576: true; the input reads as it did. -/
def fnExactDigitsOfBookUptoRow : OpenClaim := { program := "ytnaikhfhimijdaa", sum := "42095771006be789368610626e99fc5d4dad4b611f2cca7cbae543e578903f3a", func := "loop.example/g01394/laws.FnExactDigitsOfBook", spec := "fnExactDigitsOfBook", recurses := true, apart := false, narrowed := true }
def FnExactDigitsOfBookUptoSaid : Prop := fnExactDigitsOfBookUptoRow.holds Try.pinned (OpenSpec.upto fnExactDigitsOfBookSpec)

/-- 'laws.FnExactCountDigit', WHERE WHAT IT READS IS OF BULK AT MOST 1048576: true; the input reads as it did. -/
def fnExactCountDigitUptoRow : OpenClaim := { program := "ytnaikhfhimijdaa", sum := "42095771006be789368610626e99fc5d4dad4b611f2cca7cbae543e578903f3a", func := "loop.example/g01394/laws.FnExactCountDigit", spec := "fnExactCountDigit", apart := false, narrowed := true }
def FnExactCountDigitUptoSaid : Prop := fnExactCountDigitUptoRow.holds Try.pinned (OpenSpec.upto fnExactCountDigitSpec)

/-- 'laws.FnExactPagesWithDigit', WHERE WHAT IT READS IS OF BULK AT MOST 1048576: true; the input reads as it did. -/
def fnExactPagesWithDigitUptoRow : OpenClaim := { program := "ytnaikhfhimijdaa", sum := "42095771006be789368610626e99fc5d4dad4b611f2cca7cbae543e578903f3a", func := "loop.example/g01394/laws.FnExactPagesWithDigit", spec := "fnExactPagesWithDigit", apart := false, narrowed := true }
def FnExactPagesWithDigitUptoSaid : Prop := fnExactPagesWithDigitUptoRow.holds Try.pinned (OpenSpec.upto fnExactPagesWithDigitSpec)

end Rows
end Go.Proofs.Ytnaikhfhimijdaa
