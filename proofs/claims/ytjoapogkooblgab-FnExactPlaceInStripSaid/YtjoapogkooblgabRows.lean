/-
  No cell of these rows narrows 'for every input' (looked for: loops, veiled, ifaces, maps, wideKeys, modest, calm, conditions, laid).
  DERIVED. THE GIVEN ROWS OF THIS SEAT. 8 by the template 'for every input the law returns true; each argument reads behind the call as it read before'; 0 by the template 'total and deterministic' (their statements: YtjoapogkooblgabTotals.lean).
  GIVEN WITH THE SEED: the statements are not yours to turn. If you find one false, say at which input.
  Laid BY PROGRAM, IN A SANDBOX (cutbox-rows.mjs): the forced cells as the released guide's own fill.sh prints them over the translation f30b4ab7fd3b9de1… (all of the seat's roots in one cut). By AI agents, Wed Nov 11 2026. No macro, syntax, notation, axiom, sorry.
-/
import Derived.Test.YtjoapogkooblgabChecked
import GoSem.Claim
import GoSem.ClaimJoined
import GoSem.ClaimMapViews
import Derived.JoinedTies
import Derived.KernelRfl
namespace Go.Proofs.Ytjoapogkooblgab
/- THE CELL 'sum', in the pinned program and in every row, IS THE sha256 OF THE DUMP (.gsa) THAT YtjoapogkooblgabProg.lean LOADS. Nothing in Lean hashes anything: it is a label: what it is worth is what the hold of that sum in a sandbox is worth. -/
noncomputable def Try.pinned : Pinned := { name := "ytjoapogkooblgab", sum := "f30b4ab7fd3b9de177f905cd599a21d9685c84a679399f80de50378c92fa7473", checked := Try.checked }
namespace Rows
def none {H : Type} : Left H := { results := [], args := [] }

/-- 'laws.FnExactStripOrder': WHATEVER THE INPUT: true; the input reads as it did. -/
def fnExactStripOrderSpec : ChangeSpec := { name := "fnExactStripOrder", fn := fun _ => fun
  | [d] => { results := [.lit (.bool true)], args := [d] }
  | _ => none }
def fnExactStripOrderRow : OpenClaim := { program := "ytjoapogkooblgab", sum := "f30b4ab7fd3b9de177f905cd599a21d9685c84a679399f80de50378c92fa7473", func := "loop.example/g01394/laws.FnExactStripOrder", spec := "fnExactStripOrder", apart := false }
def FnExactStripOrderSaid : Prop := fnExactStripOrderRow.holds Try.pinned (OpenSpec.ofChange fnExactStripOrderSpec)

/-- ITS FALSE NEIGHBOUR: 'it returns false'. Refute it at one input. -/
def fnExactStripOrderWrong : ChangeSpec := { name := "fnExactStripOrder", fn := fun _ => fun
  | [d] => { results := [.lit (.bool false)], args := [d] }
  | _ => none }
def FnExactStripOrderWrongFalsely : Prop := fnExactStripOrderRow.holds Try.pinned (OpenSpec.ofChange fnExactStripOrderWrong)

/-- 'laws.FnExactPlaceInStrip': WHATEVER THE INPUT: true; the input reads as it did. -/
def fnExactPlaceInStripSpec : ChangeSpec := { name := "fnExactPlaceInStrip", fn := fun _ => fun
  | [d1, d2] => { results := [.lit (.bool true)], args := [d1, d2] }
  | _ => none }
def fnExactPlaceInStripRow : OpenClaim := { program := "ytjoapogkooblgab", sum := "f30b4ab7fd3b9de177f905cd599a21d9685c84a679399f80de50378c92fa7473", func := "loop.example/g01394/laws.FnExactPlaceInStrip", spec := "fnExactPlaceInStrip", apart := false }
def FnExactPlaceInStripSaid : Prop := fnExactPlaceInStripRow.holds Try.pinned (OpenSpec.ofChange fnExactPlaceInStripSpec)

/-- ITS FALSE NEIGHBOUR: 'it returns false'. Refute it at one input. -/
def fnExactPlaceInStripWrong : ChangeSpec := { name := "fnExactPlaceInStrip", fn := fun _ => fun
  | [d1, d2] => { results := [.lit (.bool false)], args := [d1, d2] }
  | _ => none }
def FnExactPlaceInStripWrongFalsely : Prop := fnExactPlaceInStripRow.holds Try.pinned (OpenSpec.ofChange fnExactPlaceInStripWrong)

/-- 'laws.FnExactStripLabels': WHATEVER THE INPUT: true; the input reads as it did. -/
def fnExactStripLabelsSpec : ChangeSpec := { name := "fnExactStripLabels", fn := fun _ => fun
  | [d] => { results := [.lit (.bool true)], args := [d] }
  | _ => none }
def fnExactStripLabelsRow : OpenClaim := { program := "ytjoapogkooblgab", sum := "f30b4ab7fd3b9de177f905cd599a21d9685c84a679399f80de50378c92fa7473", func := "loop.example/g01394/laws.FnExactStripLabels", spec := "fnExactStripLabels", apart := false }
def FnExactStripLabelsSaid : Prop := fnExactStripLabelsRow.holds Try.pinned (OpenSpec.ofChange fnExactStripLabelsSpec)

/-- ITS FALSE NEIGHBOUR: 'it returns false'. Refute it at one input. -/
def fnExactStripLabelsWrong : ChangeSpec := { name := "fnExactStripLabels", fn := fun _ => fun
  | [d] => { results := [.lit (.bool false)], args := [d] }
  | _ => none }
def FnExactStripLabelsWrongFalsely : Prop := fnExactStripLabelsRow.holds Try.pinned (OpenSpec.ofChange fnExactStripLabelsWrong)

/-- 'laws.FnExactCreasesOf': WHATEVER THE INPUT: true; the input reads as it did. -/
def fnExactCreasesOfSpec : ChangeSpec := { name := "fnExactCreasesOf", fn := fun _ => fun
  | [d] => { results := [.lit (.bool true)], args := [d] }
  | _ => none }
def fnExactCreasesOfRow : OpenClaim := { program := "ytjoapogkooblgab", sum := "f30b4ab7fd3b9de177f905cd599a21d9685c84a679399f80de50378c92fa7473", func := "loop.example/g01394/laws.FnExactCreasesOf", spec := "fnExactCreasesOf", apart := false }
def FnExactCreasesOfSaid : Prop := fnExactCreasesOfRow.holds Try.pinned (OpenSpec.ofChange fnExactCreasesOfSpec)

/-- ITS FALSE NEIGHBOUR: 'it returns false'. Refute it at one input. -/
def fnExactCreasesOfWrong : ChangeSpec := { name := "fnExactCreasesOf", fn := fun _ => fun
  | [d] => { results := [.lit (.bool false)], args := [d] }
  | _ => none }
def FnExactCreasesOfWrongFalsely : Prop := fnExactCreasesOfRow.holds Try.pinned (OpenSpec.ofChange fnExactCreasesOfWrong)

/-- 'laws.FnExactCreaseAt': WHATEVER THE INPUT: true; the input reads as it did. -/
def fnExactCreaseAtSpec : ChangeSpec := { name := "fnExactCreaseAt", fn := fun _ => fun
  | [d1, d2] => { results := [.lit (.bool true)], args := [d1, d2] }
  | _ => none }
def fnExactCreaseAtRow : OpenClaim := { program := "ytjoapogkooblgab", sum := "f30b4ab7fd3b9de177f905cd599a21d9685c84a679399f80de50378c92fa7473", func := "loop.example/g01394/laws.FnExactCreaseAt", spec := "fnExactCreaseAt", apart := false }
def FnExactCreaseAtSaid : Prop := fnExactCreaseAtRow.holds Try.pinned (OpenSpec.ofChange fnExactCreaseAtSpec)

/-- ITS FALSE NEIGHBOUR: 'it returns false'. Refute it at one input. -/
def fnExactCreaseAtWrong : ChangeSpec := { name := "fnExactCreaseAt", fn := fun _ => fun
  | [d1, d2] => { results := [.lit (.bool false)], args := [d1, d2] }
  | _ => none }
def FnExactCreaseAtWrongFalsely : Prop := fnExactCreaseAtRow.holds Try.pinned (OpenSpec.ofChange fnExactCreaseAtWrong)

/-- 'laws.FnExactPlaceOfPage': WHATEVER THE INPUT: true; the input reads as it did. -/
def fnExactPlaceOfPageSpec : ChangeSpec := { name := "fnExactPlaceOfPage", fn := fun _ => fun
  | [d1, d2] => { results := [.lit (.bool true)], args := [d1, d2] }
  | _ => none }
def fnExactPlaceOfPageRow : OpenClaim := { program := "ytjoapogkooblgab", sum := "f30b4ab7fd3b9de177f905cd599a21d9685c84a679399f80de50378c92fa7473", func := "loop.example/g01394/laws.FnExactPlaceOfPage", spec := "fnExactPlaceOfPage", inPlace := ["(*sync.WaitGroup).Go", "(*sync.WaitGroup).Add", "internal/race.ReleaseMerge", "internal/race.Disable", "internal/race.Enable", "internal/synctest.IsInBubble", "internal/synctest.Associate[sync.WaitGroup]", "sync.fatal", "sync/atomic.OrUint64", "sync/atomic.AddUint64", "internal/race.Read", "sync/atomic.LoadUint64", "sync/atomic.StoreUint64", "internal/synctest.Disassociate[sync.WaitGroup]", "sync.runtime_Semrelease", "(*sync.WaitGroup).Go$1", "(*sync.WaitGroup).Go$1$1", "(*sync.WaitGroup).Done", "(*sync.WaitGroup).Wait", "internal/race.Acquire", "internal/synctest.IsAssociated[sync.WaitGroup]", "sync/atomic.CompareAndSwapUint64", "internal/race.Write", "sync.runtime_SemacquireWaitGroup"], unfollowed := true, recurses := true, leaving := true, apart := false }
def FnExactPlaceOfPageSaid : Prop := fnExactPlaceOfPageRow.holds Try.pinned (OpenSpec.ofChange fnExactPlaceOfPageSpec)

/-- ITS FALSE NEIGHBOUR: 'it returns false'. Refute it at one input. -/
def fnExactPlaceOfPageWrong : ChangeSpec := { name := "fnExactPlaceOfPage", fn := fun _ => fun
  | [d1, d2] => { results := [.lit (.bool false)], args := [d1, d2] }
  | _ => none }
def FnExactPlaceOfPageWrongFalsely : Prop := fnExactPlaceOfPageRow.holds Try.pinned (OpenSpec.ofChange fnExactPlaceOfPageWrong)

/-- 'laws.FnExactPrintOrder': WHATEVER THE INPUT: true; the input reads as it did. -/
def fnExactPrintOrderSpec : ChangeSpec := { name := "fnExactPrintOrder", fn := fun _ => fun
  | [d] => { results := [.lit (.bool true)], args := [d] }
  | _ => none }
def fnExactPrintOrderRow : OpenClaim := { program := "ytjoapogkooblgab", sum := "f30b4ab7fd3b9de177f905cd599a21d9685c84a679399f80de50378c92fa7473", func := "loop.example/g01394/laws.FnExactPrintOrder", spec := "fnExactPrintOrder", inPlace := ["(*sync.WaitGroup).Go", "(*sync.WaitGroup).Add", "internal/race.ReleaseMerge", "internal/race.Disable", "internal/race.Enable", "internal/synctest.IsInBubble", "internal/synctest.Associate[sync.WaitGroup]", "sync.fatal", "sync/atomic.OrUint64", "sync/atomic.AddUint64", "internal/race.Read", "sync/atomic.LoadUint64", "sync/atomic.StoreUint64", "internal/synctest.Disassociate[sync.WaitGroup]", "sync.runtime_Semrelease", "(*sync.WaitGroup).Go$1", "(*sync.WaitGroup).Go$1$1", "(*sync.WaitGroup).Done", "(*sync.WaitGroup).Wait", "internal/race.Acquire", "internal/synctest.IsAssociated[sync.WaitGroup]", "sync/atomic.CompareAndSwapUint64", "internal/race.Write", "sync.runtime_SemacquireWaitGroup"], unfollowed := true, recurses := true, leaving := true, apart := false }
def FnExactPrintOrderSaid : Prop := fnExactPrintOrderRow.holds Try.pinned (OpenSpec.ofChange fnExactPrintOrderSpec)

/-- ITS FALSE NEIGHBOUR: 'it returns false'. Refute it at one input. -/
def fnExactPrintOrderWrong : ChangeSpec := { name := "fnExactPrintOrder", fn := fun _ => fun
  | [d] => { results := [.lit (.bool false)], args := [d] }
  | _ => none }
def FnExactPrintOrderWrongFalsely : Prop := fnExactPrintOrderRow.holds Try.pinned (OpenSpec.ofChange fnExactPrintOrderWrong)

/-- 'laws.FnExactSheetOfPartners': WHATEVER THE INPUT: true; the input reads as it did. -/
def fnExactSheetOfPartnersSpec : ChangeSpec := { name := "fnExactSheetOfPartners", fn := fun _ => fun
  | [d1, d2, d3] => { results := [.lit (.bool true)], args := [d1, d2, d3] }
  | _ => none }
def fnExactSheetOfPartnersRow : OpenClaim := { program := "ytjoapogkooblgab", sum := "f30b4ab7fd3b9de177f905cd599a21d9685c84a679399f80de50378c92fa7473", func := "loop.example/g01394/laws.FnExactSheetOfPartners", spec := "fnExactSheetOfPartners", inPlace := ["(*sync.WaitGroup).Go", "(*sync.WaitGroup).Add", "internal/race.ReleaseMerge", "internal/race.Disable", "internal/race.Enable", "internal/synctest.IsInBubble", "internal/synctest.Associate[sync.WaitGroup]", "sync.fatal", "sync/atomic.OrUint64", "sync/atomic.AddUint64", "internal/race.Read", "sync/atomic.LoadUint64", "sync/atomic.StoreUint64", "internal/synctest.Disassociate[sync.WaitGroup]", "sync.runtime_Semrelease", "(*sync.WaitGroup).Go$1", "(*sync.WaitGroup).Go$1$1", "(*sync.WaitGroup).Done", "(*sync.WaitGroup).Wait", "internal/race.Acquire", "internal/synctest.IsAssociated[sync.WaitGroup]", "sync/atomic.CompareAndSwapUint64", "internal/race.Write", "sync.runtime_SemacquireWaitGroup"], unfollowed := true, recurses := true, leaving := true, apart := false }
def FnExactSheetOfPartnersSaid : Prop := fnExactSheetOfPartnersRow.holds Try.pinned (OpenSpec.ofChange fnExactSheetOfPartnersSpec)

/-- ITS FALSE NEIGHBOUR: 'it returns false'. Refute it at one input. -/
def fnExactSheetOfPartnersWrong : ChangeSpec := { name := "fnExactSheetOfPartners", fn := fun _ => fun
  | [d1, d2, d3] => { results := [.lit (.bool false)], args := [d1, d2, d3] }
  | _ => none }
def FnExactSheetOfPartnersWrongFalsely : Prop := fnExactSheetOfPartnersRow.holds Try.pinned (OpenSpec.ofChange fnExactSheetOfPartnersWrong)

/- THE SECOND FORM. 'bulk': how many values and letters a reading holds, each counted each time it is reached (what is shared counts as often as it is met; a slice's spare places count too). A statement '..UptoSaid' is the law's where the arguments, and the package variables that the reading takes, are together of bulk at most 1048576: NARROWER than '..Said'. Prove '..Said' where nothing that the law and all that it calls make is longer than what came in: it says more and counts as full. Else prove '..UptoSaid'. A law counts once. -/
mutual
def uptoBulk {H : Type} : DataW H → Nat
  | .lit (.string bytes) => bytes.length + 1
  | .lit _ => 1
  | .nil => 1
  | .ptr d => uptoBulk d + 1
  | .slice elems spare => uptoBulkAll elems + uptoBulkAll spare + 1
  | .agg parts => uptoBulkAll parts + 1
  | .iface _ d => uptoBulk d + 1
  | .map entries => uptoBulkEntries entries + 1
  | .held _ => 1
def uptoBulkAll {H : Type} : List (DataW H) → Nat
  | [] => 0
  | d :: r => uptoBulk d + uptoBulkAll r
def uptoBulkEntries {H : Type} : List (Lit × DataW H) → Nat
  | [] => 0
  | x :: r => uptoBulkEntry x + uptoBulkEntries r
def uptoBulkEntry {H : Type} : Lit × DataW H → Nat
  | (.string bytes, d) => bytes.length + uptoBulk d + 1
  | (_, d) => uptoBulk d + 1
 end
def uptoSmall : (H : Type) → List (DataW H) → Bool := fun _ ds => decide (uptoBulkAll ds ≤ 1048576)
def OpenSpec.upto (s : _root_.Go.ChangeSpec) : _root_.Go.OpenSpec := { _root_.Go.OpenSpec.ofChange s with cond := some uptoSmall }

/-- 'laws.FnExactStripOrder', WHERE WHAT IT READS IS OF BULK AT MOST 1048576: true; the input reads as it did. -/
def fnExactStripOrderUptoRow : OpenClaim := { program := "ytjoapogkooblgab", sum := "f30b4ab7fd3b9de177f905cd599a21d9685c84a679399f80de50378c92fa7473", func := "loop.example/g01394/laws.FnExactStripOrder", spec := "fnExactStripOrder", apart := false, narrowed := true }
def FnExactStripOrderUptoSaid : Prop := fnExactStripOrderUptoRow.holds Try.pinned (OpenSpec.upto fnExactStripOrderSpec)

/-- 'laws.FnExactPlaceInStrip', WHERE WHAT IT READS IS OF BULK AT MOST 1048576: true; the input reads as it did. -/
def fnExactPlaceInStripUptoRow : OpenClaim := { program := "ytjoapogkooblgab", sum := "f30b4ab7fd3b9de177f905cd599a21d9685c84a679399f80de50378c92fa7473", func := "loop.example/g01394/laws.FnExactPlaceInStrip", spec := "fnExactPlaceInStrip", apart := false, narrowed := true }
def FnExactPlaceInStripUptoSaid : Prop := fnExactPlaceInStripUptoRow.holds Try.pinned (OpenSpec.upto fnExactPlaceInStripSpec)

/-- 'laws.FnExactStripLabels', WHERE WHAT IT READS IS OF BULK AT MOST 1048576: true; the input reads as it did. -/
def fnExactStripLabelsUptoRow : OpenClaim := { program := "ytjoapogkooblgab", sum := "f30b4ab7fd3b9de177f905cd599a21d9685c84a679399f80de50378c92fa7473", func := "loop.example/g01394/laws.FnExactStripLabels", spec := "fnExactStripLabels", apart := false, narrowed := true }
def FnExactStripLabelsUptoSaid : Prop := fnExactStripLabelsUptoRow.holds Try.pinned (OpenSpec.upto fnExactStripLabelsSpec)

/-- 'laws.FnExactCreasesOf', WHERE WHAT IT READS IS OF BULK AT MOST 1048576: true; the input reads as it did. -/
def fnExactCreasesOfUptoRow : OpenClaim := { program := "ytjoapogkooblgab", sum := "f30b4ab7fd3b9de177f905cd599a21d9685c84a679399f80de50378c92fa7473", func := "loop.example/g01394/laws.FnExactCreasesOf", spec := "fnExactCreasesOf", apart := false, narrowed := true }
def FnExactCreasesOfUptoSaid : Prop := fnExactCreasesOfUptoRow.holds Try.pinned (OpenSpec.upto fnExactCreasesOfSpec)

/-- 'laws.FnExactCreaseAt', WHERE WHAT IT READS IS OF BULK AT MOST 1048576: true; the input reads as it did. -/
def fnExactCreaseAtUptoRow : OpenClaim := { program := "ytjoapogkooblgab", sum := "f30b4ab7fd3b9de177f905cd599a21d9685c84a679399f80de50378c92fa7473", func := "loop.example/g01394/laws.FnExactCreaseAt", spec := "fnExactCreaseAt", apart := false, narrowed := true }
def FnExactCreaseAtUptoSaid : Prop := fnExactCreaseAtUptoRow.holds Try.pinned (OpenSpec.upto fnExactCreaseAtSpec)

/-- 'laws.FnExactPlaceOfPage', WHERE WHAT IT READS IS OF BULK AT MOST 1048576: true; the input reads as it did. -/
def fnExactPlaceOfPageUptoRow : OpenClaim := { program := "ytjoapogkooblgab", sum := "f30b4ab7fd3b9de177f905cd599a21d9685c84a679399f80de50378c92fa7473", func := "loop.example/g01394/laws.FnExactPlaceOfPage", spec := "fnExactPlaceOfPage", inPlace := ["(*sync.WaitGroup).Go", "(*sync.WaitGroup).Add", "internal/race.ReleaseMerge", "internal/race.Disable", "internal/race.Enable", "internal/synctest.IsInBubble", "internal/synctest.Associate[sync.WaitGroup]", "sync.fatal", "sync/atomic.OrUint64", "sync/atomic.AddUint64", "internal/race.Read", "sync/atomic.LoadUint64", "sync/atomic.StoreUint64", "internal/synctest.Disassociate[sync.WaitGroup]", "sync.runtime_Semrelease", "(*sync.WaitGroup).Go$1", "(*sync.WaitGroup).Go$1$1", "(*sync.WaitGroup).Done", "(*sync.WaitGroup).Wait", "internal/race.Acquire", "internal/synctest.IsAssociated[sync.WaitGroup]", "sync/atomic.CompareAndSwapUint64", "internal/race.Write", "sync.runtime_SemacquireWaitGroup"], unfollowed := true, recurses := true, leaving := true, apart := false, narrowed := true }
def FnExactPlaceOfPageUptoSaid : Prop := fnExactPlaceOfPageUptoRow.holds Try.pinned (OpenSpec.upto fnExactPlaceOfPageSpec)

/-- 'laws.FnExactPrintOrder', WHERE WHAT IT READS IS OF BULK AT MOST 1048576: true; the input reads as it did. -/
def fnExactPrintOrderUptoRow : OpenClaim := { program := "ytjoapogkooblgab", sum := "f30b4ab7fd3b9de177f905cd599a21d9685c84a679399f80de50378c92fa7473", func := "loop.example/g01394/laws.FnExactPrintOrder", spec := "fnExactPrintOrder", inPlace := ["(*sync.WaitGroup).Go", "(*sync.WaitGroup).Add", "internal/race.ReleaseMerge", "internal/race.Disable", "internal/race.Enable", "internal/synctest.IsInBubble", "internal/synctest.Associate[sync.WaitGroup]", "sync.fatal", "sync/atomic.OrUint64", "sync/atomic.AddUint64", "internal/race.Read", "sync/atomic.LoadUint64", "sync/atomic.StoreUint64", "internal/synctest.Disassociate[sync.WaitGroup]", "sync.runtime_Semrelease", "(*sync.WaitGroup).Go$1", "(*sync.WaitGroup).Go$1$1", "(*sync.WaitGroup).Done", "(*sync.WaitGroup).Wait", "internal/race.Acquire", "internal/synctest.IsAssociated[sync.WaitGroup]", "sync/atomic.CompareAndSwapUint64", "internal/race.Write", "sync.runtime_SemacquireWaitGroup"], unfollowed := true, recurses := true, leaving := true, apart := false, narrowed := true }
def FnExactPrintOrderUptoSaid : Prop := fnExactPrintOrderUptoRow.holds Try.pinned (OpenSpec.upto fnExactPrintOrderSpec)

/-- 'laws.FnExactSheetOfPartners', WHERE WHAT IT READS IS OF BULK AT MOST 1048576: true; the input reads as it did. -/
def fnExactSheetOfPartnersUptoRow : OpenClaim := { program := "ytjoapogkooblgab", sum := "f30b4ab7fd3b9de177f905cd599a21d9685c84a679399f80de50378c92fa7473", func := "loop.example/g01394/laws.FnExactSheetOfPartners", spec := "fnExactSheetOfPartners", inPlace := ["(*sync.WaitGroup).Go", "(*sync.WaitGroup).Add", "internal/race.ReleaseMerge", "internal/race.Disable", "internal/race.Enable", "internal/synctest.IsInBubble", "internal/synctest.Associate[sync.WaitGroup]", "sync.fatal", "sync/atomic.OrUint64", "sync/atomic.AddUint64", "internal/race.Read", "sync/atomic.LoadUint64", "sync/atomic.StoreUint64", "internal/synctest.Disassociate[sync.WaitGroup]", "sync.runtime_Semrelease", "(*sync.WaitGroup).Go$1", "(*sync.WaitGroup).Go$1$1", "(*sync.WaitGroup).Done", "(*sync.WaitGroup).Wait", "internal/race.Acquire", "internal/synctest.IsAssociated[sync.WaitGroup]", "sync/atomic.CompareAndSwapUint64", "internal/race.Write", "sync.runtime_SemacquireWaitGroup"], unfollowed := true, recurses := true, leaving := true, apart := false, narrowed := true }
def FnExactSheetOfPartnersUptoSaid : Prop := fnExactSheetOfPartnersUptoRow.holds Try.pinned (OpenSpec.upto fnExactSheetOfPartnersSpec)

end Rows
end Go.Proofs.Ytjoapogkooblgab
