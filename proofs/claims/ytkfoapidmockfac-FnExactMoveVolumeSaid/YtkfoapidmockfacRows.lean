/-
  No cell of these rows narrows 'for every input' (looked for: loops, veiled, ifaces, maps, wideKeys, modest, calm, conditions, laid).
  DERIVED. THE GIVEN ROWS OF THIS SEAT. 5 by the template 'for every input the law returns true; each argument reads behind the call as it read before'; 0 by the template 'total and deterministic' (their statements: YtkfoapidmockfacTotals.lean).
  GIVEN WITH THE SEED: the statements are not yours to turn. If you find one false, say at which input.
  Laid BY PROGRAM, IN A SANDBOX (cutbox-rows.mjs): the forced cells as the released guide's own fill.sh prints them over the translation 264efb1f0c6a262f… (all of the seat's roots in one cut). By AI agents, Wed Nov 11 2026. No macro, syntax, notation, axiom, sorry.
-/
import Derived.Test.YtkfoapidmockfacChecked
import GoSem.Claim
import GoSem.ClaimJoined
import GoSem.ClaimMapViews
import Derived.JoinedTies
import Derived.KernelRfl
namespace Go.Proofs.Ytkfoapidmockfac
/- THE CELL 'sum', in the pinned program and in every row, IS THE sha256 OF THE DUMP (.gsa) THAT YtkfoapidmockfacProg.lean LOADS. Nothing in Lean hashes anything: it is a label: what it is worth is what the hold of that sum in a sandbox is worth. -/
noncomputable def Try.pinned : Pinned := { name := "ytkfoapidmockfac", sum := "264efb1f0c6a262f9b64f8144af5f49dd840bcc5798b47c8063521f9e2788a45", checked := Try.checked }
namespace Rows
def none {H : Type} : Left H := { results := [], args := [] }

/-- 'laws.FnExactBeginningsOf': WHATEVER THE INPUT: true; the input reads as it did. -/
def fnExactBeginningsOfSpec : ChangeSpec := { name := "fnExactBeginningsOf", fn := fun _ => fun
  | [d1, d2] => { results := [.lit (.bool true)], args := [d1, d2] }
  | _ => none }
def fnExactBeginningsOfRow : OpenClaim := { program := "ytkfoapidmockfac", sum := "264efb1f0c6a262f9b64f8144af5f49dd840bcc5798b47c8063521f9e2788a45", func := "loop.example/g01394/laws.FnExactBeginningsOf", spec := "fnExactBeginningsOf", inPlace := ["(*sync.WaitGroup).Go", "(*sync.WaitGroup).Add", "internal/race.ReleaseMerge", "internal/race.Disable", "internal/race.Enable", "internal/synctest.IsInBubble", "internal/synctest.Associate[sync.WaitGroup]", "sync.fatal", "sync/atomic.OrUint64", "sync/atomic.AddUint64", "internal/race.Read", "sync/atomic.LoadUint64", "sync/atomic.StoreUint64", "internal/synctest.Disassociate[sync.WaitGroup]", "sync.runtime_Semrelease", "(*sync.WaitGroup).Go$1", "(*sync.WaitGroup).Go$1$1", "(*sync.WaitGroup).Done", "(*sync.WaitGroup).Wait", "internal/race.Acquire", "internal/synctest.IsAssociated[sync.WaitGroup]", "sync/atomic.CompareAndSwapUint64", "internal/race.Write", "sync.runtime_SemacquireWaitGroup"], unfollowed := true, recurses := true, leaving := true, apart := false }
def FnExactBeginningsOfSaid : Prop := fnExactBeginningsOfRow.holds Try.pinned (OpenSpec.ofChange fnExactBeginningsOfSpec)

/-- ITS FALSE NEIGHBOUR: 'it returns false'. Refute it at one input. -/
def fnExactBeginningsOfWrong : ChangeSpec := { name := "fnExactBeginningsOf", fn := fun _ => fun
  | [d1, d2] => { results := [.lit (.bool false)], args := [d1, d2] }
  | _ => none }
def FnExactBeginningsOfWrongFalsely : Prop := fnExactBeginningsOfRow.holds Try.pinned (OpenSpec.ofChange fnExactBeginningsOfWrong)

/-- 'laws.FnExactBlanksOf': WHATEVER THE INPUT: true; the input reads as it did. -/
def fnExactBlanksOfSpec : ChangeSpec := { name := "fnExactBlanksOf", fn := fun _ => fun
  | [d1, d2] => { results := [.lit (.bool true)], args := [d1, d2] }
  | _ => none }
def fnExactBlanksOfRow : OpenClaim := { program := "ytkfoapidmockfac", sum := "264efb1f0c6a262f9b64f8144af5f49dd840bcc5798b47c8063521f9e2788a45", func := "loop.example/g01394/laws.FnExactBlanksOf", spec := "fnExactBlanksOf", inPlace := ["(*sync.WaitGroup).Go", "(*sync.WaitGroup).Add", "internal/race.ReleaseMerge", "internal/race.Disable", "internal/race.Enable", "internal/synctest.IsInBubble", "internal/synctest.Associate[sync.WaitGroup]", "sync.fatal", "sync/atomic.OrUint64", "sync/atomic.AddUint64", "internal/race.Read", "sync/atomic.LoadUint64", "sync/atomic.StoreUint64", "internal/synctest.Disassociate[sync.WaitGroup]", "sync.runtime_Semrelease", "(*sync.WaitGroup).Go$1", "(*sync.WaitGroup).Go$1$1", "(*sync.WaitGroup).Done", "(*sync.WaitGroup).Wait", "internal/race.Acquire", "internal/synctest.IsAssociated[sync.WaitGroup]", "sync/atomic.CompareAndSwapUint64", "internal/race.Write", "sync.runtime_SemacquireWaitGroup"], unfollowed := true, recurses := true, leaving := true, apart := false }
def FnExactBlanksOfSaid : Prop := fnExactBlanksOfRow.holds Try.pinned (OpenSpec.ofChange fnExactBlanksOfSpec)

/-- ITS FALSE NEIGHBOUR: 'it returns false'. Refute it at one input. -/
def fnExactBlanksOfWrong : ChangeSpec := { name := "fnExactBlanksOf", fn := fun _ => fun
  | [d1, d2] => { results := [.lit (.bool false)], args := [d1, d2] }
  | _ => none }
def FnExactBlanksOfWrongFalsely : Prop := fnExactBlanksOfRow.holds Try.pinned (OpenSpec.ofChange fnExactBlanksOfWrong)

/-- 'laws.FnExactPagesOfChapters': WHATEVER THE INPUT: true; the input reads as it did. -/
def fnExactPagesOfChaptersSpec : ChangeSpec := { name := "fnExactPagesOfChapters", fn := fun _ => fun
  | [d1, d2] => { results := [.lit (.bool true)], args := [d1, d2] }
  | _ => none }
def fnExactPagesOfChaptersRow : OpenClaim := { program := "ytkfoapidmockfac", sum := "264efb1f0c6a262f9b64f8144af5f49dd840bcc5798b47c8063521f9e2788a45", func := "loop.example/g01394/laws.FnExactPagesOfChapters", spec := "fnExactPagesOfChapters", inPlace := ["(*sync.WaitGroup).Go", "(*sync.WaitGroup).Add", "internal/race.ReleaseMerge", "internal/race.Disable", "internal/race.Enable", "internal/synctest.IsInBubble", "internal/synctest.Associate[sync.WaitGroup]", "sync.fatal", "sync/atomic.OrUint64", "sync/atomic.AddUint64", "internal/race.Read", "sync/atomic.LoadUint64", "sync/atomic.StoreUint64", "internal/synctest.Disassociate[sync.WaitGroup]", "sync.runtime_Semrelease", "(*sync.WaitGroup).Go$1", "(*sync.WaitGroup).Go$1$1", "(*sync.WaitGroup).Done", "(*sync.WaitGroup).Wait", "internal/race.Acquire", "internal/synctest.IsAssociated[sync.WaitGroup]", "sync/atomic.CompareAndSwapUint64", "internal/race.Write", "sync.runtime_SemacquireWaitGroup"], unfollowed := true, recurses := true, leaving := true, apart := false }
def FnExactPagesOfChaptersSaid : Prop := fnExactPagesOfChaptersRow.holds Try.pinned (OpenSpec.ofChange fnExactPagesOfChaptersSpec)

/-- ITS FALSE NEIGHBOUR: 'it returns false'. Refute it at one input. -/
def fnExactPagesOfChaptersWrong : ChangeSpec := { name := "fnExactPagesOfChapters", fn := fun _ => fun
  | [d1, d2] => { results := [.lit (.bool false)], args := [d1, d2] }
  | _ => none }
def FnExactPagesOfChaptersWrongFalsely : Prop := fnExactPagesOfChaptersRow.holds Try.pinned (OpenSpec.ofChange fnExactPagesOfChaptersWrong)

/-- 'laws.FnExactChapterOfPage': WHATEVER THE INPUT: true; the input reads as it did. -/
def fnExactChapterOfPageSpec : ChangeSpec := { name := "fnExactChapterOfPage", fn := fun _ => fun
  | [d1, d2, d3] => { results := [.lit (.bool true)], args := [d1, d2, d3] }
  | _ => none }
def fnExactChapterOfPageRow : OpenClaim := { program := "ytkfoapidmockfac", sum := "264efb1f0c6a262f9b64f8144af5f49dd840bcc5798b47c8063521f9e2788a45", func := "loop.example/g01394/laws.FnExactChapterOfPage", spec := "fnExactChapterOfPage", inPlace := ["(*sync.WaitGroup).Go", "(*sync.WaitGroup).Add", "internal/race.ReleaseMerge", "internal/race.Disable", "internal/race.Enable", "internal/synctest.IsInBubble", "internal/synctest.Associate[sync.WaitGroup]", "sync.fatal", "sync/atomic.OrUint64", "sync/atomic.AddUint64", "internal/race.Read", "sync/atomic.LoadUint64", "sync/atomic.StoreUint64", "internal/synctest.Disassociate[sync.WaitGroup]", "sync.runtime_Semrelease", "(*sync.WaitGroup).Go$1", "(*sync.WaitGroup).Go$1$1", "(*sync.WaitGroup).Done", "(*sync.WaitGroup).Wait", "internal/race.Acquire", "internal/synctest.IsAssociated[sync.WaitGroup]", "sync/atomic.CompareAndSwapUint64", "internal/race.Write", "sync.runtime_SemacquireWaitGroup"], unfollowed := true, recurses := true, leaving := true, apart := false }
def FnExactChapterOfPageSaid : Prop := fnExactChapterOfPageRow.holds Try.pinned (OpenSpec.ofChange fnExactChapterOfPageSpec)

/-- ITS FALSE NEIGHBOUR: 'it returns false'. Refute it at one input. -/
def fnExactChapterOfPageWrong : ChangeSpec := { name := "fnExactChapterOfPage", fn := fun _ => fun
  | [d1, d2, d3] => { results := [.lit (.bool false)], args := [d1, d2, d3] }
  | _ => none }
def FnExactChapterOfPageWrongFalsely : Prop := fnExactChapterOfPageRow.holds Try.pinned (OpenSpec.ofChange fnExactChapterOfPageWrong)

/-- 'laws.FnExactMoveVolume': WHATEVER THE INPUT: true; the input reads as it did. -/
def fnExactMoveVolumeSpec : ChangeSpec := { name := "fnExactMoveVolume", fn := fun _ => fun
  | [d1, d2, d3] => { results := [.lit (.bool true)], args := [d1, d2, d3] }
  | _ => none }
def fnExactMoveVolumeRow : OpenClaim := { program := "ytkfoapidmockfac", sum := "264efb1f0c6a262f9b64f8144af5f49dd840bcc5798b47c8063521f9e2788a45", func := "loop.example/g01394/laws.FnExactMoveVolume", spec := "fnExactMoveVolume", inPlace := ["slices.overlaps[int]"], apart := false }
def FnExactMoveVolumeSaid : Prop := fnExactMoveVolumeRow.holds Try.pinned (OpenSpec.ofChange fnExactMoveVolumeSpec)

/-- ITS FALSE NEIGHBOUR: 'it returns false'. Refute it at one input. -/
def fnExactMoveVolumeWrong : ChangeSpec := { name := "fnExactMoveVolume", fn := fun _ => fun
  | [d1, d2, d3] => { results := [.lit (.bool false)], args := [d1, d2, d3] }
  | _ => none }
def FnExactMoveVolumeWrongFalsely : Prop := fnExactMoveVolumeRow.holds Try.pinned (OpenSpec.ofChange fnExactMoveVolumeWrong)

/- THE SECOND FORM. 'bulk': how many values and letters a reading holds, each counted each time it is reached (what is shared counts as often as it is met; a slice's spare places count too). A statement '..UptoSaid' is the law's where the arguments, and the package variables that the reading takes, are together of bulk at most 1048576: NARROWER than '..Said'. Prove '..Said' where nothing that the law and all that it calls make is longer than what came in: it says more and counts as full. Else prove '..UptoSaid'. A law counts once. -/
mutual
def uptoBulk {H : Type} : DataW H → Nat
  | .lit (.string bytes) => bytes.length + 1
  | .lit _ => 1
  | .nil => 1
  | .ptr d => uptoBulk d + 1
  | .slice elems spare => uptoBulkAll elems + uptoBulkAll spare + 1
  | .agg parts => uptoBulkAll parts + 1
  | .iface _ d => uptoBulk d + 1
  | .map entries => uptoBulkEntries entries + 1
  | .held _ => 1
def uptoBulkAll {H : Type} : List (DataW H) → Nat
  | [] => 0
  | d :: r => uptoBulk d + uptoBulkAll r
def uptoBulkEntries {H : Type} : List (Lit × DataW H) → Nat
  | [] => 0
  | x :: r => uptoBulkEntry x + uptoBulkEntries r
def uptoBulkEntry {H : Type} : Lit × DataW H → Nat
  | (.string bytes, d) => bytes.length + uptoBulk d + 1
  | (_, d) => uptoBulk d + 1
 end
def uptoSmall : (H : Type) → List (DataW H) → Bool := fun _ ds => decide (uptoBulkAll ds ≤ 1048576)
def OpenSpec.upto (s : _root_.Go.ChangeSpec) : _root_.Go.OpenSpec := { _root_.Go.OpenSpec.ofChange s with cond := some uptoSmall }

/-- 'laws.FnExactBeginningsOf', WHERE WHAT IT READS IS OF BULK AT MOST 1048576: true; the input reads as it did. -/
def fnExactBeginningsOfUptoRow : OpenClaim := { program := "ytkfoapidmockfac", sum := "264efb1f0c6a262f9b64f8144af5f49dd840bcc5798b47c8063521f9e2788a45", func := "loop.example/g01394/laws.FnExactBeginningsOf", spec := "fnExactBeginningsOf", inPlace := ["(*sync.WaitGroup).Go", "(*sync.WaitGroup).Add", "internal/race.ReleaseMerge", "internal/race.Disable", "internal/race.Enable", "internal/synctest.IsInBubble", "internal/synctest.Associate[sync.WaitGroup]", "sync.fatal", "sync/atomic.OrUint64", "sync/atomic.AddUint64", "internal/race.Read", "sync/atomic.LoadUint64", "sync/atomic.StoreUint64", "internal/synctest.Disassociate[sync.WaitGroup]", "sync.runtime_Semrelease", "(*sync.WaitGroup).Go$1", "(*sync.WaitGroup).Go$1$1", "(*sync.WaitGroup).Done", "(*sync.WaitGroup).Wait", "internal/race.Acquire", "internal/synctest.IsAssociated[sync.WaitGroup]", "sync/atomic.CompareAndSwapUint64", "internal/race.Write", "sync.runtime_SemacquireWaitGroup"], unfollowed := true, recurses := true, leaving := true, apart := false, narrowed := true }
def FnExactBeginningsOfUptoSaid : Prop := fnExactBeginningsOfUptoRow.holds Try.pinned (OpenSpec.upto fnExactBeginningsOfSpec)

/-- 'laws.FnExactBlanksOf', WHERE WHAT IT READS IS OF BULK AT MOST 1048576: true; the input reads as it did. -/
def fnExactBlanksOfUptoRow : OpenClaim := { program := "ytkfoapidmockfac", sum := "264efb1f0c6a262f9b64f8144af5f49dd840bcc5798b47c8063521f9e2788a45", func := "loop.example/g01394/laws.FnExactBlanksOf", spec := "fnExactBlanksOf", inPlace := ["(*sync.WaitGroup).Go", "(*sync.WaitGroup).Add", "internal/race.ReleaseMerge", "internal/race.Disable", "internal/race.Enable", "internal/synctest.IsInBubble", "internal/synctest.Associate[sync.WaitGroup]", "sync.fatal", "sync/atomic.OrUint64", "sync/atomic.AddUint64", "internal/race.Read", "sync/atomic.LoadUint64", "sync/atomic.StoreUint64", "internal/synctest.Disassociate[sync.WaitGroup]", "sync.runtime_Semrelease", "(*sync.WaitGroup).Go$1", "(*sync.WaitGroup).Go$1$1", "(*sync.WaitGroup).Done", "(*sync.WaitGroup).Wait", "internal/race.Acquire", "internal/synctest.IsAssociated[sync.WaitGroup]", "sync/atomic.CompareAndSwapUint64", "internal/race.Write", "sync.runtime_SemacquireWaitGroup"], unfollowed := true, recurses := true, leaving := true, apart := false, narrowed := true }
def FnExactBlanksOfUptoSaid : Prop := fnExactBlanksOfUptoRow.holds Try.pinned (OpenSpec.upto fnExactBlanksOfSpec)

/-- 'laws.FnExactPagesOfChapters', WHERE WHAT IT READS IS OF BULK AT MOST 1048576: true; the input reads as it did. -/
def fnExactPagesOfChaptersUptoRow : OpenClaim := { program := "ytkfoapidmockfac", sum := "264efb1f0c6a262f9b64f8144af5f49dd840bcc5798b47c8063521f9e2788a45", func := "loop.example/g01394/laws.FnExactPagesOfChapters", spec := "fnExactPagesOfChapters", inPlace := ["(*sync.WaitGroup).Go", "(*sync.WaitGroup).Add", "internal/race.ReleaseMerge", "internal/race.Disable", "internal/race.Enable", "internal/synctest.IsInBubble", "internal/synctest.Associate[sync.WaitGroup]", "sync.fatal", "sync/atomic.OrUint64", "sync/atomic.AddUint64", "internal/race.Read", "sync/atomic.LoadUint64", "sync/atomic.StoreUint64", "internal/synctest.Disassociate[sync.WaitGroup]", "sync.runtime_Semrelease", "(*sync.WaitGroup).Go$1", "(*sync.WaitGroup).Go$1$1", "(*sync.WaitGroup).Done", "(*sync.WaitGroup).Wait", "internal/race.Acquire", "internal/synctest.IsAssociated[sync.WaitGroup]", "sync/atomic.CompareAndSwapUint64", "internal/race.Write", "sync.runtime_SemacquireWaitGroup"], unfollowed := true, recurses := true, leaving := true, apart := false, narrowed := true }
def FnExactPagesOfChaptersUptoSaid : Prop := fnExactPagesOfChaptersUptoRow.holds Try.pinned (OpenSpec.upto fnExactPagesOfChaptersSpec)

/-- 'laws.FnExactChapterOfPage', WHERE WHAT IT READS IS OF BULK AT MOST 1048576: true; the input reads as it did. -/
def fnExactChapterOfPageUptoRow : OpenClaim := { program := "ytkfoapidmockfac", sum := "264efb1f0c6a262f9b64f8144af5f49dd840bcc5798b47c8063521f9e2788a45", func := "loop.example/g01394/laws.FnExactChapterOfPage", spec := "fnExactChapterOfPage", inPlace := ["(*sync.WaitGroup).Go", "(*sync.WaitGroup).Add", "internal/race.ReleaseMerge", "internal/race.Disable", "internal/race.Enable", "internal/synctest.IsInBubble", "internal/synctest.Associate[sync.WaitGroup]", "sync.fatal", "sync/atomic.OrUint64", "sync/atomic.AddUint64", "internal/race.Read", "sync/atomic.LoadUint64", "sync/atomic.StoreUint64", "internal/synctest.Disassociate[sync.WaitGroup]", "sync.runtime_Semrelease", "(*sync.WaitGroup).Go$1", "(*sync.WaitGroup).Go$1$1", "(*sync.WaitGroup).Done", "(*sync.WaitGroup).Wait", "internal/race.Acquire", "internal/synctest.IsAssociated[sync.WaitGroup]", "sync/atomic.CompareAndSwapUint64", "internal/race.Write", "sync.runtime_SemacquireWaitGroup"], unfollowed := true, recurses := true, leaving := true, apart := false, narrowed := true }
def FnExactChapterOfPageUptoSaid : Prop := fnExactChapterOfPageUptoRow.holds Try.pinned (OpenSpec.upto fnExactChapterOfPageSpec)

/-- 'laws.FnExactMoveVolume', WHERE WHAT IT READS IS OF BULK AT MOST 1048576: true; the input reads as it did. -/
def fnExactMoveVolumeUptoRow : OpenClaim := { program := "ytkfoapidmockfac", sum := "264efb1f0c6a262f9b64f8144af5f49dd840bcc5798b47c8063521f9e2788a45", func := "loop.example/g01394/laws.FnExactMoveVolume", spec := "fnExactMoveVolume", inPlace := ["slices.overlaps[int]"], apart := false, narrowed := true }
def FnExactMoveVolumeUptoSaid : Prop := fnExactMoveVolumeUptoRow.holds Try.pinned (OpenSpec.upto fnExactMoveVolumeSpec)

end Rows
end Go.Proofs.Ytkfoapidmockfac
