/-
  No cell of these rows narrows 'for every input' (looked for: loops, veiled, ifaces, maps, wideKeys, modest, calm, conditions, laid).
  DERIVED. THE GIVEN ROWS OF THIS SEAT. 11 by the template 'for every input the law returns true; each argument reads behind the call as it read before'; 0 by the template 'total and deterministic' (their statements: YtjkpmjcfbdpnhaaTotals.lean).
  GIVEN WITH THE SEED: the statements are not yours to turn. If you find one false, say at which input.
  Laid BY PROGRAM, IN A SANDBOX (cutbox-rows.mjs): the forced cells as the released guide's own fill.sh prints them over the translation 31ce17869844b831… (all of the seat's roots in one cut). By AI agents, Wed Nov 11 2026. No macro, syntax, notation, axiom, sorry.
-/
import Derived.Test.YtjkpmjcfbdpnhaaChecked
import GoSem.Claim
import GoSem.ClaimJoined
import GoSem.ClaimMapViews
import Derived.JoinedTies
import Derived.KernelRfl
namespace Go.Proofs.Ytjkpmjcfbdpnhaa
/- THE CELL 'sum', in the pinned program and in every row, IS THE sha256 OF THE DUMP (.gsa) THAT YtjkpmjcfbdpnhaaProg.lean LOADS. Nothing in Lean hashes anything: it is a label: what it is worth is what the hold of that sum in a sandbox is worth. -/
noncomputable def Try.pinned : Pinned := { name := "ytjkpmjcfbdpnhaa", sum := "31ce17869844b8319857acd2c1e826d3e44214e5a2ad1054b3721e3ccc5c30c0", checked := Try.checked }
namespace Rows
def none {H : Type} : Left H := { results := [], args := [] }

/-- 'laws.FnExactSheetsFor': WHATEVER THE INPUT: true; the input reads as it did. -/
def fnExactSheetsForSpec : ChangeSpec := { name := "fnExactSheetsFor", fn := fun _ => fun
  | [d] => { results := [.lit (.bool true)], args := [d] }
  | _ => none }
def fnExactSheetsForRow : OpenClaim := { program := "ytjkpmjcfbdpnhaa", sum := "31ce17869844b8319857acd2c1e826d3e44214e5a2ad1054b3721e3ccc5c30c0", func := "loop.example/g01394/laws.FnExactSheetsFor", spec := "fnExactSheetsFor", apart := false }
def FnExactSheetsForSaid : Prop := fnExactSheetsForRow.holds Try.pinned (OpenSpec.ofChange fnExactSheetsForSpec)

/-- ITS FALSE NEIGHBOUR: 'it returns false'. Refute it at one input. -/
def fnExactSheetsForWrong : ChangeSpec := { name := "fnExactSheetsFor", fn := fun _ => fun
  | [d] => { results := [.lit (.bool false)], args := [d] }
  | _ => none }
def FnExactSheetsForWrongFalsely : Prop := fnExactSheetsForRow.holds Try.pinned (OpenSpec.ofChange fnExactSheetsForWrong)

/-- 'laws.FnExactBlankPages': WHATEVER THE INPUT: true; the input reads as it did. -/
def fnExactBlankPagesSpec : ChangeSpec := { name := "fnExactBlankPages", fn := fun _ => fun
  | [d] => { results := [.lit (.bool true)], args := [d] }
  | _ => none }
def fnExactBlankPagesRow : OpenClaim := { program := "ytjkpmjcfbdpnhaa", sum := "31ce17869844b8319857acd2c1e826d3e44214e5a2ad1054b3721e3ccc5c30c0", func := "loop.example/g01394/laws.FnExactBlankPages", spec := "fnExactBlankPages", apart := false }
def FnExactBlankPagesSaid : Prop := fnExactBlankPagesRow.holds Try.pinned (OpenSpec.ofChange fnExactBlankPagesSpec)

/-- ITS FALSE NEIGHBOUR: 'it returns false'. Refute it at one input. -/
def fnExactBlankPagesWrong : ChangeSpec := { name := "fnExactBlankPages", fn := fun _ => fun
  | [d] => { results := [.lit (.bool false)], args := [d] }
  | _ => none }
def FnExactBlankPagesWrongFalsely : Prop := fnExactBlankPagesRow.holds Try.pinned (OpenSpec.ofChange fnExactBlankPagesWrong)

/-- 'laws.FnExactSideOfSheet': WHATEVER THE INPUT: true; the input reads as it did. -/
def fnExactSideOfSheetSpec : ChangeSpec := { name := "fnExactSideOfSheet", fn := fun _ => fun
  | [d1, d2, d3] => { results := [.lit (.bool true)], args := [d1, d2, d3] }
  | _ => none }
def fnExactSideOfSheetRow : OpenClaim := { program := "ytjkpmjcfbdpnhaa", sum := "31ce17869844b8319857acd2c1e826d3e44214e5a2ad1054b3721e3ccc5c30c0", func := "loop.example/g01394/laws.FnExactSideOfSheet", spec := "fnExactSideOfSheet", apart := false }
def FnExactSideOfSheetSaid : Prop := fnExactSideOfSheetRow.holds Try.pinned (OpenSpec.ofChange fnExactSideOfSheetSpec)

/-- ITS FALSE NEIGHBOUR: 'it returns false'. Refute it at one input. -/
def fnExactSideOfSheetWrong : ChangeSpec := { name := "fnExactSideOfSheet", fn := fun _ => fun
  | [d1, d2, d3] => { results := [.lit (.bool false)], args := [d1, d2, d3] }
  | _ => none }
def FnExactSideOfSheetWrongFalsely : Prop := fnExactSideOfSheetRow.holds Try.pinned (OpenSpec.ofChange fnExactSideOfSheetWrong)

/-- 'laws.FnExactPartnerPage': WHATEVER THE INPUT: true; the input reads as it did. -/
def fnExactPartnerPageSpec : ChangeSpec := { name := "fnExactPartnerPage", fn := fun _ => fun
  | [d1, d2] => { results := [.lit (.bool true)], args := [d1, d2] }
  | _ => none }
def fnExactPartnerPageRow : OpenClaim := { program := "ytjkpmjcfbdpnhaa", sum := "31ce17869844b8319857acd2c1e826d3e44214e5a2ad1054b3721e3ccc5c30c0", func := "loop.example/g01394/laws.FnExactPartnerPage", spec := "fnExactPartnerPage", apart := false }
def FnExactPartnerPageSaid : Prop := fnExactPartnerPageRow.holds Try.pinned (OpenSpec.ofChange fnExactPartnerPageSpec)

/-- ITS FALSE NEIGHBOUR: 'it returns false'. Refute it at one input. -/
def fnExactPartnerPageWrong : ChangeSpec := { name := "fnExactPartnerPage", fn := fun _ => fun
  | [d1, d2] => { results := [.lit (.bool false)], args := [d1, d2] }
  | _ => none }
def FnExactPartnerPageWrongFalsely : Prop := fnExactPartnerPageRow.holds Try.pinned (OpenSpec.ofChange fnExactPartnerPageWrong)

/-- 'laws.FnExactMiddlePages': WHATEVER THE INPUT: true; the input reads as it did. -/
def fnExactMiddlePagesSpec : ChangeSpec := { name := "fnExactMiddlePages", fn := fun _ => fun
  | [d] => { results := [.lit (.bool true)], args := [d] }
  | _ => none }
def fnExactMiddlePagesRow : OpenClaim := { program := "ytjkpmjcfbdpnhaa", sum := "31ce17869844b8319857acd2c1e826d3e44214e5a2ad1054b3721e3ccc5c30c0", func := "loop.example/g01394/laws.FnExactMiddlePages", spec := "fnExactMiddlePages", apart := false }
def FnExactMiddlePagesSaid : Prop := fnExactMiddlePagesRow.holds Try.pinned (OpenSpec.ofChange fnExactMiddlePagesSpec)

/-- ITS FALSE NEIGHBOUR: 'it returns false'. Refute it at one input. -/
def fnExactMiddlePagesWrong : ChangeSpec := { name := "fnExactMiddlePages", fn := fun _ => fun
  | [d] => { results := [.lit (.bool false)], args := [d] }
  | _ => none }
def FnExactMiddlePagesWrongFalsely : Prop := fnExactMiddlePagesRow.holds Try.pinned (OpenSpec.ofChange fnExactMiddlePagesWrong)

/-- 'laws.FnExactSignaturesFor': WHATEVER THE INPUT: true; the input reads as it did. -/
def fnExactSignaturesForSpec : ChangeSpec := { name := "fnExactSignaturesFor", fn := fun _ => fun
  | [d1, d2] => { results := [.lit (.bool true)], args := [d1, d2] }
  | _ => none }
def fnExactSignaturesForRow : OpenClaim := { program := "ytjkpmjcfbdpnhaa", sum := "31ce17869844b8319857acd2c1e826d3e44214e5a2ad1054b3721e3ccc5c30c0", func := "loop.example/g01394/laws.FnExactSignaturesFor", spec := "fnExactSignaturesFor", apart := false }
def FnExactSignaturesForSaid : Prop := fnExactSignaturesForRow.holds Try.pinned (OpenSpec.ofChange fnExactSignaturesForSpec)

/-- ITS FALSE NEIGHBOUR: 'it returns false'. Refute it at one input. -/
def fnExactSignaturesForWrong : ChangeSpec := { name := "fnExactSignaturesFor", fn := fun _ => fun
  | [d1, d2] => { results := [.lit (.bool false)], args := [d1, d2] }
  | _ => none }
def FnExactSignaturesForWrongFalsely : Prop := fnExactSignaturesForRow.holds Try.pinned (OpenSpec.ofChange fnExactSignaturesForWrong)

/-- 'laws.FnExactSignatureOfPage': WHATEVER THE INPUT: true; the input reads as it did. -/
def fnExactSignatureOfPageSpec : ChangeSpec := { name := "fnExactSignatureOfPage", fn := fun _ => fun
  | [d1, d2, d3] => { results := [.lit (.bool true)], args := [d1, d2, d3] }
  | _ => none }
def fnExactSignatureOfPageRow : OpenClaim := { program := "ytjkpmjcfbdpnhaa", sum := "31ce17869844b8319857acd2c1e826d3e44214e5a2ad1054b3721e3ccc5c30c0", func := "loop.example/g01394/laws.FnExactSignatureOfPage", spec := "fnExactSignatureOfPage", apart := false }
def FnExactSignatureOfPageSaid : Prop := fnExactSignatureOfPageRow.holds Try.pinned (OpenSpec.ofChange fnExactSignatureOfPageSpec)

/-- ITS FALSE NEIGHBOUR: 'it returns false'. Refute it at one input. -/
def fnExactSignatureOfPageWrong : ChangeSpec := { name := "fnExactSignatureOfPage", fn := fun _ => fun
  | [d1, d2, d3] => { results := [.lit (.bool false)], args := [d1, d2, d3] }
  | _ => none }
def FnExactSignatureOfPageWrongFalsely : Prop := fnExactSignatureOfPageRow.holds Try.pinned (OpenSpec.ofChange fnExactSignatureOfPageWrong)

/-- 'laws.FnExactPageInBook': WHATEVER THE INPUT: true; the input reads as it did. -/
def fnExactPageInBookSpec : ChangeSpec := { name := "fnExactPageInBook", fn := fun _ => fun
  | [d1, d2, d3, d4] => { results := [.lit (.bool true)], args := [d1, d2, d3, d4] }
  | _ => none }
def fnExactPageInBookRow : OpenClaim := { program := "ytjkpmjcfbdpnhaa", sum := "31ce17869844b8319857acd2c1e826d3e44214e5a2ad1054b3721e3ccc5c30c0", func := "loop.example/g01394/laws.FnExactPageInBook", spec := "fnExactPageInBook", apart := false }
def FnExactPageInBookSaid : Prop := fnExactPageInBookRow.holds Try.pinned (OpenSpec.ofChange fnExactPageInBookSpec)

/-- ITS FALSE NEIGHBOUR: 'it returns false'. Refute it at one input. -/
def fnExactPageInBookWrong : ChangeSpec := { name := "fnExactPageInBook", fn := fun _ => fun
  | [d1, d2, d3, d4] => { results := [.lit (.bool false)], args := [d1, d2, d3, d4] }
  | _ => none }
def FnExactPageInBookWrongFalsely : Prop := fnExactPageInBookRow.holds Try.pinned (OpenSpec.ofChange fnExactPageInBookWrong)

/-- 'laws.FnExactBestPer': WHATEVER THE INPUT: true; the input reads as it did. -/
def fnExactBestPerSpec : ChangeSpec := { name := "fnExactBestPer", fn := fun _ => fun
  | [d1, d2] => { results := [.lit (.bool true)], args := [d1, d2] }
  | _ => none }
def fnExactBestPerRow : OpenClaim := { program := "ytjkpmjcfbdpnhaa", sum := "31ce17869844b8319857acd2c1e826d3e44214e5a2ad1054b3721e3ccc5c30c0", func := "loop.example/g01394/laws.FnExactBestPer", spec := "fnExactBestPer", apart := false }
def FnExactBestPerSaid : Prop := fnExactBestPerRow.holds Try.pinned (OpenSpec.ofChange fnExactBestPerSpec)

/-- ITS FALSE NEIGHBOUR: 'it returns false'. Refute it at one input. -/
def fnExactBestPerWrong : ChangeSpec := { name := "fnExactBestPer", fn := fun _ => fun
  | [d1, d2] => { results := [.lit (.bool false)], args := [d1, d2] }
  | _ => none }
def FnExactBestPerWrongFalsely : Prop := fnExactBestPerRow.holds Try.pinned (OpenSpec.ofChange fnExactBestPerWrong)

/-- 'laws.FnExactPagesWithout': WHATEVER THE INPUT: true; the input reads as it did. -/
def fnExactPagesWithoutSpec : ChangeSpec := { name := "fnExactPagesWithout", fn := fun _ => fun
  | [d1, d2] => { results := [.lit (.bool true)], args := [d1, d2] }
  | _ => none }
def fnExactPagesWithoutRow : OpenClaim := { program := "ytjkpmjcfbdpnhaa", sum := "31ce17869844b8319857acd2c1e826d3e44214e5a2ad1054b3721e3ccc5c30c0", func := "loop.example/g01394/laws.FnExactPagesWithout", spec := "fnExactPagesWithout", apart := false }
def FnExactPagesWithoutSaid : Prop := fnExactPagesWithoutRow.holds Try.pinned (OpenSpec.ofChange fnExactPagesWithoutSpec)

/-- ITS FALSE NEIGHBOUR: 'it returns false'. Refute it at one input. -/
def fnExactPagesWithoutWrong : ChangeSpec := { name := "fnExactPagesWithout", fn := fun _ => fun
  | [d1, d2] => { results := [.lit (.bool false)], args := [d1, d2] }
  | _ => none }
def FnExactPagesWithoutWrongFalsely : Prop := fnExactPagesWithoutRow.holds Try.pinned (OpenSpec.ofChange fnExactPagesWithoutWrong)

/-- 'laws.FnExactSewnOpenings': WHATEVER THE INPUT: true; the input reads as it did. -/
def fnExactSewnOpeningsSpec : ChangeSpec := { name := "fnExactSewnOpenings", fn := fun _ => fun
  | [d1, d2] => { results := [.lit (.bool true)], args := [d1, d2] }
  | _ => none }
def fnExactSewnOpeningsRow : OpenClaim := { program := "ytjkpmjcfbdpnhaa", sum := "31ce17869844b8319857acd2c1e826d3e44214e5a2ad1054b3721e3ccc5c30c0", func := "loop.example/g01394/laws.FnExactSewnOpenings", spec := "fnExactSewnOpenings", apart := false }
def FnExactSewnOpeningsSaid : Prop := fnExactSewnOpeningsRow.holds Try.pinned (OpenSpec.ofChange fnExactSewnOpeningsSpec)

/-- ITS FALSE NEIGHBOUR: 'it returns false'. Refute it at one input. -/
def fnExactSewnOpeningsWrong : ChangeSpec := { name := "fnExactSewnOpenings", fn := fun _ => fun
  | [d1, d2] => { results := [.lit (.bool false)], args := [d1, d2] }
  | _ => none }
def FnExactSewnOpeningsWrongFalsely : Prop := fnExactSewnOpeningsRow.holds Try.pinned (OpenSpec.ofChange fnExactSewnOpeningsWrong)

/- THE SECOND FORM. 'bulk': how many values and letters a reading holds, each counted each time it is reached (what is shared counts as often as it is met; a slice's spare places count too). A statement '..UptoSaid' is the law's where the arguments, and the package variables that the reading takes, are together of bulk at most 1048576: NARROWER than '..Said'. Prove '..Said' where nothing that the law and all that it calls make is longer than what came in: it says more and counts as full. Else prove '..UptoSaid'. A law counts once. -/
mutual
def uptoBulk {H : Type} : DataW H → Nat
  | .lit (.string bytes) => bytes.length + 1
  | .lit _ => 1
  | .nil => 1
  | .ptr d => uptoBulk d + 1
  | .slice elems spare => uptoBulkAll elems + uptoBulkAll spare + 1
  | .agg parts => uptoBulkAll parts + 1
  | .iface _ d => uptoBulk d + 1
  | .map entries => uptoBulkEntries entries + 1
  | .held _ => 1
def uptoBulkAll {H : Type} : List (DataW H) → Nat
  | [] => 0
  | d :: r => uptoBulk d + uptoBulkAll r
def uptoBulkEntries {H : Type} : List (Lit × DataW H) → Nat
  | [] => 0
  | x :: r => uptoBulkEntry x + uptoBulkEntries r
def uptoBulkEntry {H : Type} : Lit × DataW H → Nat
  | (.string bytes, d) => bytes.length + uptoBulk d + 1
  | (_, d) => uptoBulk d + 1
 end
def uptoSmall : (H : Type) → List (DataW H) → Bool := fun _ ds => decide (uptoBulkAll ds ≤ 1048576)
def OpenSpec.upto (s : _root_.Go.ChangeSpec) : _root_.Go.OpenSpec := { _root_.Go.OpenSpec.ofChange s with cond := some uptoSmall }

/-- 'laws.FnExactSheetsFor', WHERE WHAT IT READS IS OF BULK AT MOST 1048576: true; the input reads as it did. -/
def fnExactSheetsForUptoRow : OpenClaim := { program := "ytjkpmjcfbdpnhaa", sum := "31ce17869844b8319857acd2c1e826d3e44214e5a2ad1054b3721e3ccc5c30c0", func := "loop.example/g01394/laws.FnExactSheetsFor", spec := "fnExactSheetsFor", apart := false, narrowed := true }
def FnExactSheetsForUptoSaid : Prop := fnExactSheetsForUptoRow.holds Try.pinned (OpenSpec.upto fnExactSheetsForSpec)

/-- 'laws.FnExactBlankPages', WHERE WHAT IT READS IS OF BULK AT MOST 1048576: true; the input reads as it did. -/
def fnExactBlankPagesUptoRow : OpenClaim := { program := "ytjkpmjcfbdpnhaa", sum := "31ce17869844b8319857acd2c1e826d3e44214e5a2ad1054b3721e3ccc5c30c0", func := "loop.example/g01394/laws.FnExactBlankPages", spec := "fnExactBlankPages", apart := false, narrowed := true }
def FnExactBlankPagesUptoSaid : Prop := fnExactBlankPagesUptoRow.holds Try.pinned (OpenSpec.upto fnExactBlankPagesSpec)

/-- 'laws.FnExactSideOfSheet', WHERE WHAT IT READS IS OF BULK AT MOST 1048576: true; the input reads as it did. -/
def fnExactSideOfSheetUptoRow : OpenClaim := { program := "ytjkpmjcfbdpnhaa", sum := "31ce17869844b8319857acd2c1e826d3e44214e5a2ad1054b3721e3ccc5c30c0", func := "loop.example/g01394/laws.FnExactSideOfSheet", spec := "fnExactSideOfSheet", apart := false, narrowed := true }
def FnExactSideOfSheetUptoSaid : Prop := fnExactSideOfSheetUptoRow.holds Try.pinned (OpenSpec.upto fnExactSideOfSheetSpec)

/-- 'laws.FnExactPartnerPage', WHERE WHAT IT READS IS OF BULK AT MOST 1048576: true; the input reads as it did. -/
def fnExactPartnerPageUptoRow : OpenClaim := { program := "ytjkpmjcfbdpnhaa", sum := "31ce17869844b8319857acd2c1e826d3e44214e5a2ad1054b3721e3ccc5c30c0", func := "loop.example/g01394/laws.FnExactPartnerPage", spec := "fnExactPartnerPage", apart := false, narrowed := true }
def FnExactPartnerPageUptoSaid : Prop := fnExactPartnerPageUptoRow.holds Try.pinned (OpenSpec.upto fnExactPartnerPageSpec)

/-- 'laws.FnExactMiddlePages', WHERE WHAT IT READS IS OF BULK AT MOST 1048576: true; the input reads as it did. -/
def fnExactMiddlePagesUptoRow : OpenClaim := { program := "ytjkpmjcfbdpnhaa", sum := "31ce17869844b8319857acd2c1e826d3e44214e5a2ad1054b3721e3ccc5c30c0", func := "loop.example/g01394/laws.FnExactMiddlePages", spec := "fnExactMiddlePages", apart := false, narrowed := true }
def FnExactMiddlePagesUptoSaid : Prop := fnExactMiddlePagesUptoRow.holds Try.pinned (OpenSpec.upto fnExactMiddlePagesSpec)

/-- 'laws.FnExactSignaturesFor', WHERE WHAT IT READS IS OF BULK AT MOST 1048576: true; the input reads as it did. -/
def fnExactSignaturesForUptoRow : OpenClaim := { program := "ytjkpmjcfbdpnhaa", sum := "31ce17869844b8319857acd2c1e826d3e44214e5a2ad1054b3721e3ccc5c30c0", func := "loop.example/g01394/laws.FnExactSignaturesFor", spec := "fnExactSignaturesFor", apart := false, narrowed := true }
def FnExactSignaturesForUptoSaid : Prop := fnExactSignaturesForUptoRow.holds Try.pinned (OpenSpec.upto fnExactSignaturesForSpec)

/-- 'laws.FnExactSignatureOfPage', WHERE WHAT IT READS IS OF BULK AT MOST 1048576: true; the input reads as it did. -/
def fnExactSignatureOfPageUptoRow : OpenClaim := { program := "ytjkpmjcfbdpnhaa", sum := "31ce17869844b8319857acd2c1e826d3e44214e5a2ad1054b3721e3ccc5c30c0", func := "loop.example/g01394/laws.FnExactSignatureOfPage", spec := "fnExactSignatureOfPage", apart := false, narrowed := true }
def FnExactSignatureOfPageUptoSaid : Prop := fnExactSignatureOfPageUptoRow.holds Try.pinned (OpenSpec.upto fnExactSignatureOfPageSpec)

/-- 'laws.FnExactPageInBook', WHERE WHAT IT READS IS OF BULK AT MOST 1048576: true; the input reads as it did. -/
def fnExactPageInBookUptoRow : OpenClaim := { program := "ytjkpmjcfbdpnhaa", sum := "31ce17869844b8319857acd2c1e826d3e44214e5a2ad1054b3721e3ccc5c30c0", func := "loop.example/g01394/laws.FnExactPageInBook", spec := "fnExactPageInBook", apart := false, narrowed := true }
def FnExactPageInBookUptoSaid : Prop := fnExactPageInBookUptoRow.holds Try.pinned (OpenSpec.upto fnExactPageInBookSpec)

/-- 'laws.FnExactBestPer', WHERE WHAT IT READS IS OF BULK AT MOST 1048576: true; the input reads as it did. -/
def fnExactBestPerUptoRow : OpenClaim := { program := "ytjkpmjcfbdpnhaa", sum := "31ce17869844b8319857acd2c1e826d3e44214e5a2ad1054b3721e3ccc5c30c0", func := "loop.example/g01394/laws.FnExactBestPer", spec := "fnExactBestPer", apart := false, narrowed := true }
def FnExactBestPerUptoSaid : Prop := fnExactBestPerUptoRow.holds Try.pinned (OpenSpec.upto fnExactBestPerSpec)

/-- 'laws.FnExactPagesWithout', WHERE WHAT IT READS IS OF BULK AT MOST 1048576: true; the input reads as it did. -/
def fnExactPagesWithoutUptoRow : OpenClaim := { program := "ytjkpmjcfbdpnhaa", sum := "31ce17869844b8319857acd2c1e826d3e44214e5a2ad1054b3721e3ccc5c30c0", func := "loop.example/g01394/laws.FnExactPagesWithout", spec := "fnExactPagesWithout", apart := false, narrowed := true }
def FnExactPagesWithoutUptoSaid : Prop := fnExactPagesWithoutUptoRow.holds Try.pinned (OpenSpec.upto fnExactPagesWithoutSpec)

/-- 'laws.FnExactSewnOpenings', WHERE WHAT IT READS IS OF BULK AT MOST 1048576: true; the input reads as it did. -/
def fnExactSewnOpeningsUptoRow : OpenClaim := { program := "ytjkpmjcfbdpnhaa", sum := "31ce17869844b8319857acd2c1e826d3e44214e5a2ad1054b3721e3ccc5c30c0", func := "loop.example/g01394/laws.FnExactSewnOpenings", spec := "fnExactSewnOpenings", apart := false, narrowed := true }
def FnExactSewnOpeningsUptoSaid : Prop := fnExactSewnOpeningsUptoRow.holds Try.pinned (OpenSpec.upto fnExactSewnOpeningsSpec)

end Rows
end Go.Proofs.Ytjkpmjcfbdpnhaa
