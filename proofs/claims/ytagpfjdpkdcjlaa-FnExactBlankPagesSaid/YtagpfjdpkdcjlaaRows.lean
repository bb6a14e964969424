/-
  No cell of these rows narrows 'for every input' (looked for: loops, veiled, ifaces, maps, wideKeys, modest, calm, conditions, laid).
  DERIVED. THE GIVEN ROWS OF THIS SEAT. 5 by the template 'for every input the law returns true; each argument reads behind the call as it read before'; 0 by the template 'total and deterministic' (their statements: YtagpfjdpkdcjlaaTotals.lean).
  GIVEN WITH THE SEED: the statements are not yours to turn. If you find one false, say at which input.
  Laid BY PROGRAM, IN A SANDBOX (cutbox-rows.mjs): the forced cells as the released guide's own fill.sh prints them over the translation faeee93d369afc42… (all of the seat's roots in one cut). By AI agents, Wed Nov 11 2026. No macro, syntax, notation, axiom, sorry.
-/
import Derived.Test.YtagpfjdpkdcjlaaChecked
import GoSem.Claim
import GoSem.ClaimJoined
import GoSem.ClaimMapViews
import Derived.JoinedTies
import Derived.KernelRfl
namespace Go.Proofs.Ytagpfjdpkdcjlaa
/- THE CELL 'sum', in the pinned program and in every row, IS THE sha256 OF THE DUMP (.gsa) THAT YtagpfjdpkdcjlaaProg.lean LOADS. Nothing in Lean hashes anything: it is a label: what it is worth is what the hold of that sum in a sandbox is worth. -/
noncomputable def Try.pinned : Pinned := { name := "ytagpfjdpkdcjlaa", sum := "faeee93d369afc429a9b6ff67c2fccab2c34dccb30f92136c8da083f8dfe548d", checked := Try.checked }
namespace Rows
def none {H : Type} : Left H := { results := [], args := [] }

/-- 'laws.FnExactSheetsFor': WHATEVER THE INPUT: true; the input reads as it did. -/
def fnExactSheetsForSpec : ChangeSpec := { name := "fnExactSheetsFor", fn := fun _ => fun
  | [d] => { results := [.lit (.bool true)], args := [d] }
  | _ => none }
def fnExactSheetsForRow : OpenClaim := { program := "ytagpfjdpkdcjlaa", sum := "faeee93d369afc429a9b6ff67c2fccab2c34dccb30f92136c8da083f8dfe548d", func := "loop.example/g01394/laws.FnExactSheetsFor", spec := "fnExactSheetsFor", apart := false }
def FnExactSheetsForSaid : Prop := fnExactSheetsForRow.holds Try.pinned (OpenSpec.ofChange fnExactSheetsForSpec)

/-- ITS FALSE NEIGHBOUR: 'it returns false'. Refute it at one input. -/
def fnExactSheetsForWrong : ChangeSpec := { name := "fnExactSheetsFor", fn := fun _ => fun
  | [d] => { results := [.lit (.bool false)], args := [d] }
  | _ => none }
def FnExactSheetsForWrongFalsely : Prop := fnExactSheetsForRow.holds Try.pinned (OpenSpec.ofChange fnExactSheetsForWrong)

/-- 'laws.FnExactBlankPages': WHATEVER THE INPUT: true; the input reads as it did. -/
def fnExactBlankPagesSpec : ChangeSpec := { name := "fnExactBlankPages", fn := fun _ => fun
  | [d] => { results := [.lit (.bool true)], args := [d] }
  | _ => none }
def fnExactBlankPagesRow : OpenClaim := { program := "ytagpfjdpkdcjlaa", sum := "faeee93d369afc429a9b6ff67c2fccab2c34dccb30f92136c8da083f8dfe548d", func := "loop.example/g01394/laws.FnExactBlankPages", spec := "fnExactBlankPages", apart := false }
def FnExactBlankPagesSaid : Prop := fnExactBlankPagesRow.holds Try.pinned (OpenSpec.ofChange fnExactBlankPagesSpec)

/-- ITS FALSE NEIGHBOUR: 'it returns false'. Refute it at one input. -/
def fnExactBlankPagesWrong : ChangeSpec := { name := "fnExactBlankPages", fn := fun _ => fun
  | [d] => { results := [.lit (.bool false)], args := [d] }
  | _ => none }
def FnExactBlankPagesWrongFalsely : Prop := fnExactBlankPagesRow.holds Try.pinned (OpenSpec.ofChange fnExactBlankPagesWrong)

/-- 'laws.FnExactPlaceOfPage': WHATEVER THE INPUT: true; the input reads as it did. -/
def fnExactPlaceOfPageSpec : ChangeSpec := { name := "fnExactPlaceOfPage", fn := fun _ => fun
  | [d1, d2] => { results := [.lit (.bool true)], args := [d1, d2] }
  | _ => none }
def fnExactPlaceOfPageRow : OpenClaim := { program := "ytagpfjdpkdcjlaa", sum := "faeee93d369afc429a9b6ff67c2fccab2c34dccb30f92136c8da083f8dfe548d", func := "loop.example/g01394/laws.FnExactPlaceOfPage", spec := "fnExactPlaceOfPage", inPlace := ["(*sync.WaitGroup).Go", "(*sync.WaitGroup).Add", "internal/race.ReleaseMerge", "internal/race.Disable", "internal/race.Enable", "internal/synctest.IsInBubble", "internal/synctest.Associate[sync.WaitGroup]", "sync.fatal", "sync/atomic.OrUint64", "sync/atomic.AddUint64", "internal/race.Read", "sync/atomic.LoadUint64", "sync/atomic.StoreUint64", "internal/synctest.Disassociate[sync.WaitGroup]", "sync.runtime_Semrelease", "(*sync.WaitGroup).Go$1", "(*sync.WaitGroup).Go$1$1", "(*sync.WaitGroup).Done", "(*sync.WaitGroup).Wait", "internal/race.Acquire", "internal/synctest.IsAssociated[sync.WaitGroup]", "sync/atomic.CompareAndSwapUint64", "internal/race.Write", "sync.runtime_SemacquireWaitGroup"], unfollowed := true, recurses := true, leaving := true, apart := false }
def FnExactPlaceOfPageSaid : Prop := fnExactPlaceOfPageRow.holds Try.pinned (OpenSpec.ofChange fnExactPlaceOfPageSpec)

/-- ITS FALSE NEIGHBOUR: 'it returns false'. Refute it at one input. -/
def fnExactPlaceOfPageWrong : ChangeSpec := { name := "fnExactPlaceOfPage", fn := fun _ => fun
  | [d1, d2] => { results := [.lit (.bool false)], args := [d1, d2] }
  | _ => none }
def FnExactPlaceOfPageWrongFalsely : Prop := fnExactPlaceOfPageRow.holds Try.pinned (OpenSpec.ofChange fnExactPlaceOfPageWrong)

/-- 'laws.FnExactPrintOrder': WHATEVER THE INPUT: true; the input reads as it did. -/
def fnExactPrintOrderSpec : ChangeSpec := { name := "fnExactPrintOrder", fn := fun _ => fun
  | [d] => { results := [.lit (.bool true)], args := [d] }
  | _ => none }
def fnExactPrintOrderRow : OpenClaim := { program := "ytagpfjdpkdcjlaa", sum := "faeee93d369afc429a9b6ff67c2fccab2c34dccb30f92136c8da083f8dfe548d", func := "loop.example/g01394/laws.FnExactPrintOrder", spec := "fnExactPrintOrder", inPlace := ["(*sync.WaitGroup).Go", "(*sync.WaitGroup).Add", "internal/race.ReleaseMerge", "internal/race.Disable", "internal/race.Enable", "internal/synctest.IsInBubble", "internal/synctest.Associate[sync.WaitGroup]", "sync.fatal", "sync/atomic.OrUint64", "sync/atomic.AddUint64", "internal/race.Read", "sync/atomic.LoadUint64", "sync/atomic.StoreUint64", "internal/synctest.Disassociate[sync.WaitGroup]", "sync.runtime_Semrelease", "(*sync.WaitGroup).Go$1", "(*sync.WaitGroup).Go$1$1", "(*sync.WaitGroup).Done", "(*sync.WaitGroup).Wait", "internal/race.Acquire", "internal/synctest.IsAssociated[sync.WaitGroup]", "sync/atomic.CompareAndSwapUint64", "internal/race.Write", "sync.runtime_SemacquireWaitGroup"], unfollowed := true, recurses := true, leaving := true, apart := false }
def FnExactPrintOrderSaid : Prop := fnExactPrintOrderRow.holds Try.pinned (OpenSpec.ofChange fnExactPrintOrderSpec)

/-- ITS FALSE NEIGHBOUR: 'it returns false'. Refute it at one input. -/
def fnExactPrintOrderWrong : ChangeSpec := { name := "fnExactPrintOrder", fn := fun _ => fun
  | [d] => { results := [.lit (.bool false)], args := [d] }
  | _ => none }
def FnExactPrintOrderWrongFalsely : Prop := fnExactPrintOrderRow.holds Try.pinned (OpenSpec.ofChange fnExactPrintOrderWrong)

/-- 'laws.FnExactSheetOfPartners': WHATEVER THE INPUT: true; the input reads as it did. -/
def fnExactSheetOfPartnersSpec : ChangeSpec := { name := "fnExactSheetOfPartners", fn := fun _ => fun
  | [d1, d2, d3] => { results := [.lit (.bool true)], args := [d1, d2, d3] }
  | _ => none }
def fnExactSheetOfPartnersRow : OpenClaim := { program := "ytagpfjdpkdcjlaa", sum := "faeee93d369afc429a9b6ff67c2fccab2c34dccb30f92136c8da083f8dfe548d", func := "loop.example/g01394/laws.FnExactSheetOfPartners", spec := "fnExactSheetOfPartners", inPlace := ["(*sync.WaitGroup).Go", "(*sync.WaitGroup).Add", "internal/race.ReleaseMerge", "internal/race.Disable", "internal/race.Enable", "internal/synctest.IsInBubble", "internal/synctest.Associate[sync.WaitGroup]", "sync.fatal", "sync/atomic.OrUint64", "sync/atomic.AddUint64", "internal/race.Read", "sync/atomic.LoadUint64", "sync/atomic.StoreUint64", "internal/synctest.Disassociate[sync.WaitGroup]", "sync.runtime_Semrelease", "(*sync.WaitGroup).Go$1", "(*sync.WaitGroup).Go$1$1", "(*sync.WaitGroup).Done", "(*sync.WaitGroup).Wait", "internal/race.Acquire", "internal/synctest.IsAssociated[sync.WaitGroup]", "sync/atomic.CompareAndSwapUint64", "internal/race.Write", "sync.runtime_SemacquireWaitGroup"], unfollowed := true, recurses := true, leaving := true, apart := false }
def FnExactSheetOfPartnersSaid : Prop := fnExactSheetOfPartnersRow.holds Try.pinned (OpenSpec.ofChange fnExactSheetOfPartnersSpec)

/-- ITS FALSE NEIGHBOUR: 'it returns false'. Refute it at one input. -/
def fnExactSheetOfPartnersWrong : ChangeSpec := { name := "fnExactSheetOfPartners", fn := fun _ => fun
  | [d1, d2, d3] => { results := [.lit (.bool false)], args := [d1, d2, d3] }
  | _ => none }
def FnExactSheetOfPartnersWrongFalsely : Prop := fnExactSheetOfPartnersRow.holds Try.pinned (OpenSpec.ofChange fnExactSheetOfPartnersWrong)

/- THE SECOND FORM. 'bulk': how many values and letters a reading holds, each counted each time it is reached (what is shared counts as often as it is met; a slice's spare places count too). A statement '..UptoSaid' is the law's where the arguments, and the package variables that the reading takes, are together of bulk at most 1048576: NARROWER than '..Said'. Prove '..Said' where nothing that the law and all that it calls make is longer than what came in: it says more and counts as full. Else prove '..UptoSaid'. A law counts once. -/
mutual
def uptoBulk {H : Type} : DataW H → Nat
  | .lit (.string bytes) => bytes.length + 1
  | .lit _ => 1
  | .nil => 1
  | .ptr d => uptoBulk d + 1
  | .slice elems spare => uptoBulkAll elems + uptoBulkAll spare + 1
  | .agg parts => uptoBulkAll parts + 1
  | .iface _ d => uptoBulk d + 1
  | .map entries => uptoBulkEntries entries + 1
  | .held _ => 1
def uptoBulkAll {H : Type} : List (DataW H) → Nat
  | [] => 0
  | d :: r => uptoBulk d + uptoBulkAll r
def uptoBulkEntries {H : Type} : List (Lit × DataW H) → Nat
  | [] => 0
  | x :: r => uptoBulkEntry x + uptoBulkEntries r
def uptoBulkEntry {H : Type} : Lit × DataW H → Nat
  | (.string bytes, d) => bytes.length + uptoBulk d + 1
  | (_, d) => uptoBulk d + 1
 end
def uptoSmall : (H : Type) → List (DataW H) → Bool := fun _ ds => decide (uptoBulkAll ds ≤ 1048576)
def OpenSpec.upto (s : _root_.Go.ChangeSpec) : _root_.Go.OpenSpec := { _root_.Go.OpenSpec.ofChange s with cond := some uptoSmall }

/-- 'laws.FnExactSheetsFor', WHERE WHAT IT READS IS OF BULK AT MOST 1048576: true; the input reads as it did. -/
def fnExactSheetsForUptoRow : OpenClaim := { program := "ytagpfjdpkdcjlaa", sum := "faeee93d369afc429a9b6ff67c2fccab2c34dccb30f92136c8da083f8dfe548d", func := "loop.example/g01394/laws.FnExactSheetsFor", spec := "fnExactSheetsFor", apart := false, narrowed := true }
def FnExactSheetsForUptoSaid : Prop := fnExactSheetsForUptoRow.holds Try.pinned (OpenSpec.upto fnExactSheetsForSpec)

/-- 'laws.FnExactBlankPages', WHERE WHAT IT READS IS OF BULK AT MOST 1048576: true; the input reads as it did. -/
def fnExactBlankPagesUptoRow : OpenClaim := { program := "ytagpfjdpkdcjlaa", sum := "faeee93d369afc429a9b6ff67c2fccab2c34dccb30f92136c8da083f8dfe548d", func := "loop.example/g01394/laws.FnExactBlankPages", spec := "fnExactBlankPages", apart := false, narrowed := true }
def FnExactBlankPagesUptoSaid : Prop := fnExactBlankPagesUptoRow.holds Try.pinned (OpenSpec.upto fnExactBlankPagesSpec)

/-- 'laws.FnExactPlaceOfPage', WHERE WHAT IT READS IS OF BULK AT MOST 1048576: true; the input reads as it did. -/
def fnExactPlaceOfPageUptoRow : OpenClaim := { program := "ytagpfjdpkdcjlaa", sum := "faeee93d369afc429a9b6ff67c2fccab2c34dccb30f92136c8da083f8dfe548d", func := "loop.example/g01394/laws.FnExactPlaceOfPage", spec := "fnExactPlaceOfPage", inPlace := ["(*sync.WaitGroup).Go", "(*sync.WaitGroup).Add", "internal/race.ReleaseMerge", "internal/race.Disable", "internal/race.Enable", "internal/synctest.IsInBubble", "internal/synctest.Associate[sync.WaitGroup]", "sync.fatal", "sync/atomic.OrUint64", "sync/atomic.AddUint64", "internal/race.Read", "sync/atomic.LoadUint64", "sync/atomic.StoreUint64", "internal/synctest.Disassociate[sync.WaitGroup]", "sync.runtime_Semrelease", "(*sync.WaitGroup).Go$1", "(*sync.WaitGroup).Go$1$1", "(*sync.WaitGroup).Done", "(*sync.WaitGroup).Wait", "internal/race.Acquire", "internal/synctest.IsAssociated[sync.WaitGroup]", "sync/atomic.CompareAndSwapUint64", "internal/race.Write", "sync.runtime_SemacquireWaitGroup"], unfollowed := true, recurses := true, leaving := true, apart := false, narrowed := true }
def FnExactPlaceOfPageUptoSaid : Prop := fnExactPlaceOfPageUptoRow.holds Try.pinned (OpenSpec.upto fnExactPlaceOfPageSpec)

/-- 'laws.FnExactPrintOrder', WHERE WHAT IT READS IS OF BULK AT MOST 1048576: true; the input reads as it did. -/
def fnExactPrintOrderUptoRow : OpenClaim := { program := "ytagpfjdpkdcjlaa", sum := "faeee93d369afc429a9b6ff67c2fccab2c34dccb30f92136c8da083f8dfe548d", func := "loop.example/g01394/laws.FnExactPrintOrder", spec := "fnExactPrintOrder", inPlace := ["(*sync.WaitGroup).Go", "(*sync.WaitGroup).Add", "internal/race.ReleaseMerge", "internal/race.Disable", "internal/race.Enable", "internal/synctest.IsInBubble", "internal/synctest.Associate[sync.WaitGroup]", "sync.fatal", "sync/atomic.OrUint64", "sync/atomic.AddUint64", "internal/race.Read", "sync/atomic.LoadUint64", "sync/atomic.StoreUint64", "internal/synctest.Disassociate[sync.WaitGroup]", "sync.runtime_Semrelease", "(*sync.WaitGroup).Go$1", "(*sync.WaitGroup).Go$1$1", "(*sync.WaitGroup).Done", "(*sync.WaitGroup).Wait", "internal/race.Acquire", "internal/synctest.IsAssociated[sync.WaitGroup]", "sync/atomic.CompareAndSwapUint64", "internal/race.Write", "sync.runtime_SemacquireWaitGroup"], unfollowed := true, recurses := true, leaving := true, apart := false, narrowed := true }
def FnExactPrintOrderUptoSaid : Prop := fnExactPrintOrderUptoRow.holds Try.pinned (OpenSpec.upto fnExactPrintOrderSpec)

/-- 'laws.FnExactSheetOfPartners', WHERE WHAT IT READS IS OF BULK AT MOST 1048576: true; the input reads as it did. -/
def fnExactSheetOfPartnersUptoRow : OpenClaim := { program := "ytagpfjdpkdcjlaa", sum := "faeee93d369afc429a9b6ff67c2fccab2c34dccb30f92136c8da083f8dfe548d", func := "loop.example/g01394/laws.FnExactSheetOfPartners", spec := "fnExactSheetOfPartners", inPlace := ["(*sync.WaitGroup).Go", "(*sync.WaitGroup).Add", "internal/race.ReleaseMerge", "internal/race.Disable", "internal/race.Enable", "internal/synctest.IsInBubble", "internal/synctest.Associate[sync.WaitGroup]", "sync.fatal", "sync/atomic.OrUint64", "sync/atomic.AddUint64", "internal/race.Read", "sync/atomic.LoadUint64", "sync/atomic.StoreUint64", "internal/synctest.Disassociate[sync.WaitGroup]", "sync.runtime_Semrelease", "(*sync.WaitGroup).Go$1", "(*sync.WaitGroup).Go$1$1", "(*sync.WaitGroup).Done", "(*sync.WaitGroup).Wait", "internal/race.Acquire", "internal/synctest.IsAssociated[sync.WaitGroup]", "sync/atomic.CompareAndSwapUint64", "internal/race.Write", "sync.runtime_SemacquireWaitGroup"], unfollowed := true, recurses := true, leaving := true, apart := false, narrowed := true }
def FnExactSheetOfPartnersUptoSaid : Prop := fnExactSheetOfPartnersUptoRow.holds Try.pinned (OpenSpec.upto fnExactSheetOfPartnersSpec)

end Rows
end Go.Proofs.Ytagpfjdpkdcjlaa
