/-
  No cell of these rows narrows 'for every input' (looked for: loops, veiled, ifaces, maps, wideKeys, modest, calm, conditions, laid).
  DERIVED. THE GIVEN ROWS OF THIS SEAT. 6 by the template 'for every input the law returns true; each argument reads behind the call as it read before'; 0 by the template 'total and deterministic' (their statements: YtogkebbgkeffcabTotals.lean).
  GIVEN WITH THE SEED: the statements are not yours to turn. If you find one false, say at which input.
  Laid BY PROGRAM, IN A SANDBOX (cutbox-rows.mjs): the forced cells as the released guide's own fill.sh prints them over the translation fefefc246524171b… (all of the seat's roots in one cut). By AI agents, Wed Nov 11 2026. No macro, syntax, notation, axiom, sorry.
-/
import Derived.Test.YtogkebbgkeffcabChecked
import GoSem.Claim
import GoSem.ClaimJoined
import GoSem.ClaimMapViews
import Derived.JoinedTies
import Derived.KernelRfl
namespace Go.Proofs.Ytogkebbgkeffcab
/- THE CELL 'sum', in the pinned program and in every row, IS THE sha256 OF THE DUMP (.gsa) THAT YtogkebbgkeffcabProg.lean LOADS. Nothing in Lean hashes anything: it is a label: what it is worth is what the hold of that sum in a sandbox is worth. -/
noncomputable def Try.pinned : Pinned := { name := "ytogkebbgkeffcab", sum := "fefefc246524171bbbc538c28ffcddc4860fd712b1acaa9b6133196af6e4db99", checked := Try.checked }
namespace Rows
def none {H : Type} : Left H := { results := [], args := [] }

/-- 'laws.FnExactFewestSwaps': WHATEVER THE INPUT: true; the input reads as it did. -/
def fnExactFewestSwapsSpec : ChangeSpec := { name := "fnExactFewestSwaps", fn := fun _ => fun
  | [d] => { results := [.lit (.bool true)], args := [d] }
  | _ => none }
def fnExactFewestSwapsRow : OpenClaim := { program := "ytogkebbgkeffcab", sum := "fefefc246524171bbbc538c28ffcddc4860fd712b1acaa9b6133196af6e4db99", func := "loop.example/g01394/laws.FnExactFewestSwaps", spec := "fnExactFewestSwaps", apart := false }
def FnExactFewestSwapsSaid : Prop := fnExactFewestSwapsRow.holds Try.pinned (OpenSpec.ofChange fnExactFewestSwapsSpec)

/-- ITS FALSE NEIGHBOUR: 'it returns false'. Refute it at one input. -/
def fnExactFewestSwapsWrong : ChangeSpec := { name := "fnExactFewestSwaps", fn := fun _ => fun
  | [d] => { results := [.lit (.bool false)], args := [d] }
  | _ => none }
def FnExactFewestSwapsWrongFalsely : Prop := fnExactFewestSwapsRow.holds Try.pinned (OpenSpec.ofChange fnExactFewestSwapsWrong)

/-- 'laws.FnExactFewestNeighbours': WHATEVER THE INPUT: true; the input reads as it did. -/
def fnExactFewestNeighboursSpec : ChangeSpec := { name := "fnExactFewestNeighbours", fn := fun _ => fun
  | [d] => { results := [.lit (.bool true)], args := [d] }
  | _ => none }
def fnExactFewestNeighboursRow : OpenClaim := { program := "ytogkebbgkeffcab", sum := "fefefc246524171bbbc538c28ffcddc4860fd712b1acaa9b6133196af6e4db99", func := "loop.example/g01394/laws.FnExactFewestNeighbours", spec := "fnExactFewestNeighbours", apart := false }
def FnExactFewestNeighboursSaid : Prop := fnExactFewestNeighboursRow.holds Try.pinned (OpenSpec.ofChange fnExactFewestNeighboursSpec)

/-- ITS FALSE NEIGHBOUR: 'it returns false'. Refute it at one input. -/
def fnExactFewestNeighboursWrong : ChangeSpec := { name := "fnExactFewestNeighbours", fn := fun _ => fun
  | [d] => { results := [.lit (.bool false)], args := [d] }
  | _ => none }
def FnExactFewestNeighboursWrongFalsely : Prop := fnExactFewestNeighboursRow.holds Try.pinned (OpenSpec.ofChange fnExactFewestNeighboursWrong)

/-- 'laws.FnExactMoveVolume': WHATEVER THE INPUT: true; the input reads as it did. -/
def fnExactMoveVolumeSpec : ChangeSpec := { name := "fnExactMoveVolume", fn := fun _ => fun
  | [d1, d2, d3] => { results := [.lit (.bool true)], args := [d1, d2, d3] }
  | _ => none }
def fnExactMoveVolumeRow : OpenClaim := { program := "ytogkebbgkeffcab", sum := "fefefc246524171bbbc538c28ffcddc4860fd712b1acaa9b6133196af6e4db99", func := "loop.example/g01394/laws.FnExactMoveVolume", spec := "fnExactMoveVolume", inPlace := ["slices.overlaps[int]"], apart := false }
def FnExactMoveVolumeSaid : Prop := fnExactMoveVolumeRow.holds Try.pinned (OpenSpec.ofChange fnExactMoveVolumeSpec)

/-- ITS FALSE NEIGHBOUR: 'it returns false'. Refute it at one input. -/
def fnExactMoveVolumeWrong : ChangeSpec := { name := "fnExactMoveVolume", fn := fun _ => fun
  | [d1, d2, d3] => { results := [.lit (.bool false)], args := [d1, d2, d3] }
  | _ => none }
def FnExactMoveVolumeWrongFalsely : Prop := fnExactMoveVolumeRow.holds Try.pinned (OpenSpec.ofChange fnExactMoveVolumeWrong)

/-- 'laws.FnExactShelvesFor': WHATEVER THE INPUT: true; the input reads as it did. -/
def fnExactShelvesForSpec : ChangeSpec := { name := "fnExactShelvesFor", fn := fun _ => fun
  | [d1, d2] => { results := [.lit (.bool true)], args := [d1, d2] }
  | _ => none }
def fnExactShelvesForRow : OpenClaim := { program := "ytogkebbgkeffcab", sum := "fefefc246524171bbbc538c28ffcddc4860fd712b1acaa9b6133196af6e4db99", func := "loop.example/g01394/laws.FnExactShelvesFor", spec := "fnExactShelvesFor", unfollowed := true, recurses := true, apart := false }
def FnExactShelvesForSaid : Prop := fnExactShelvesForRow.holds Try.pinned (OpenSpec.ofChange fnExactShelvesForSpec)

/-- ITS FALSE NEIGHBOUR: 'it returns false'. Refute it at one input. -/
def fnExactShelvesForWrong : ChangeSpec := { name := "fnExactShelvesFor", fn := fun _ => fun
  | [d1, d2] => { results := [.lit (.bool false)], args := [d1, d2] }
  | _ => none }
def FnExactShelvesForWrongFalsely : Prop := fnExactShelvesForRow.holds Try.pinned (OpenSpec.ofChange fnExactShelvesForWrong)

/-- 'laws.FnExactShelfOf': WHATEVER THE INPUT: true; the input reads as it did. -/
def fnExactShelfOfSpec : ChangeSpec := { name := "fnExactShelfOf", fn := fun _ => fun
  | [d1, d2] => { results := [.lit (.bool true)], args := [d1, d2] }
  | _ => none }
def fnExactShelfOfRow : OpenClaim := { program := "ytogkebbgkeffcab", sum := "fefefc246524171bbbc538c28ffcddc4860fd712b1acaa9b6133196af6e4db99", func := "loop.example/g01394/laws.FnExactShelfOf", spec := "fnExactShelfOf", unfollowed := true, recurses := true, apart := false }
def FnExactShelfOfSaid : Prop := fnExactShelfOfRow.holds Try.pinned (OpenSpec.ofChange fnExactShelfOfSpec)

/-- ITS FALSE NEIGHBOUR: 'it returns false'. Refute it at one input. -/
def fnExactShelfOfWrong : ChangeSpec := { name := "fnExactShelfOf", fn := fun _ => fun
  | [d1, d2] => { results := [.lit (.bool false)], args := [d1, d2] }
  | _ => none }
def FnExactShelfOfWrongFalsely : Prop := fnExactShelfOfRow.holds Try.pinned (OpenSpec.ofChange fnExactShelfOfWrong)

/-- 'laws.FnExactLeastShelf': WHATEVER THE INPUT: true; the input reads as it did. -/
def fnExactLeastShelfSpec : ChangeSpec := { name := "fnExactLeastShelf", fn := fun _ => fun
  | [d1, d2] => { results := [.lit (.bool true)], args := [d1, d2] }
  | _ => none }
def fnExactLeastShelfRow : OpenClaim := { program := "ytogkebbgkeffcab", sum := "fefefc246524171bbbc538c28ffcddc4860fd712b1acaa9b6133196af6e4db99", func := "loop.example/g01394/laws.FnExactLeastShelf", spec := "fnExactLeastShelf", unfollowed := true, recurses := true, apart := false }
def FnExactLeastShelfSaid : Prop := fnExactLeastShelfRow.holds Try.pinned (OpenSpec.ofChange fnExactLeastShelfSpec)

/-- ITS FALSE NEIGHBOUR: 'it returns false'. Refute it at one input. -/
def fnExactLeastShelfWrong : ChangeSpec := { name := "fnExactLeastShelf", fn := fun _ => fun
  | [d1, d2] => { results := [.lit (.bool false)], args := [d1, d2] }
  | _ => none }
def FnExactLeastShelfWrongFalsely : Prop := fnExactLeastShelfRow.holds Try.pinned (OpenSpec.ofChange fnExactLeastShelfWrong)

/- THE SECOND FORM. 'bulk': how many values and letters a reading holds, each counted each time it is reached (what is shared counts as often as it is met; a slice's spare places count too). A statement '..UptoSaid' is the law's where the arguments, and the package variables that the reading takes, are together of bulk at most 1048576: NARROWER than '..Said'. Prove '..Said' where nothing that the law and all that it calls make is longer than what came in: it says more and counts as full. Else prove '..UptoSaid'. A law counts once. -/
mutual
def uptoBulk {H : Type} : DataW H → Nat
  | .lit (.string bytes) => bytes.length + 1
  | .lit _ => 1
  | .nil => 1
  | .ptr d => uptoBulk d + 1
  | .slice elems spare => uptoBulkAll elems + uptoBulkAll spare + 1
  | .agg parts => uptoBulkAll parts + 1
  | .iface _ d => uptoBulk d + 1
  | .map entries => uptoBulkEntries entries + 1
  | .held _ => 1
def uptoBulkAll {H : Type} : List (DataW H) → Nat
  | [] => 0
  | d :: r => uptoBulk d + uptoBulkAll r
def uptoBulkEntries {H : Type} : List (Lit × DataW H) → Nat
  | [] => 0
  | x :: r => uptoBulkEntry x + uptoBulkEntries r
def uptoBulkEntry {H : Type} : Lit × DataW H → Nat
  | (.string bytes, d) => bytes.length + uptoBulk d + 1
  | (_, d) => uptoBulk d + 1
 end
def uptoSmall : (H : Type) → List (DataW H) → Bool := fun _ ds => decide (uptoBulkAll ds ≤ 1048576)
def OpenSpec.upto (s : _root_.Go.ChangeSpec) : _root_.Go.OpenSpec := { _root_.Go.OpenSpec.ofChange s with cond := some uptoSmall }

/-- 'laws.FnExactFewestSwaps', WHERE WHAT IT READS IS OF BULK AT MOST 1048576: true; the input reads as it did. -/
def fnExactFewestSwapsUptoRow : OpenClaim := { program := "ytogkebbgkeffcab", sum := "fefefc246524171bbbc538c28ffcddc4860fd712b1acaa9b6133196af6e4db99", func := "loop.example/g01394/laws.FnExactFewestSwaps", spec := "fnExactFewestSwaps", apart := false, narrowed := true }
def FnExactFewestSwapsUptoSaid : Prop := fnExactFewestSwapsUptoRow.holds Try.pinned (OpenSpec.upto fnExactFewestSwapsSpec)

/-- 'laws.FnExactFewestNeighbours', WHERE WHAT IT READS IS OF BULK AT MOST 1048576: true; the input reads as it did. -/
def fnExactFewestNeighboursUptoRow : OpenClaim := { program := "ytogkebbgkeffcab", sum := "fefefc246524171bbbc538c28ffcddc4860fd712b1acaa9b6133196af6e4db99", func := "loop.example/g01394/laws.FnExactFewestNeighbours", spec := "fnExactFewestNeighbours", apart := false, narrowed := true }
def FnExactFewestNeighboursUptoSaid : Prop := fnExactFewestNeighboursUptoRow.holds Try.pinned (OpenSpec.upto fnExactFewestNeighboursSpec)

/-- 'laws.FnExactMoveVolume', WHERE WHAT IT READS IS OF BULK AT MOST 1048576: true; the input reads as it did. -/
def fnExactMoveVolumeUptoRow : OpenClaim := { program := "ytogkebbgkeffcab", sum := "fefefc246524171bbbc538c28ffcddc4860fd712b1acaa9b6133196af6e4db99", func := "loop.example/g01394/laws.FnExactMoveVolume", spec := "fnExactMoveVolume", inPlace := ["slices.overlaps[int]"], apart := false, narrowed := true }
def FnExactMoveVolumeUptoSaid : Prop := fnExactMoveVolumeUptoRow.holds Try.pinned (OpenSpec.upto fnExactMoveVolumeSpec)

/-- 'laws.FnExactShelvesFor', WHERE WHAT IT READS IS OF BULK AT MOST 1048576: true; the input reads as it did. -/
def fnExactShelvesForUptoRow : OpenClaim := { program := "ytogkebbgkeffcab", sum := "fefefc246524171bbbc538c28ffcddc4860fd712b1acaa9b6133196af6e4db99", func := "loop.example/g01394/laws.FnExactShelvesFor", spec := "fnExactShelvesFor", unfollowed := true, recurses := true, apart := false, narrowed := true }
def FnExactShelvesForUptoSaid : Prop := fnExactShelvesForUptoRow.holds Try.pinned (OpenSpec.upto fnExactShelvesForSpec)

/-- 'laws.FnExactShelfOf', WHERE WHAT IT READS IS OF BULK AT MOST 1048576: true; the input reads as it did. -/
def fnExactShelfOfUptoRow : OpenClaim := { program := "ytogkebbgkeffcab", sum := "fefefc246524171bbbc538c28ffcddc4860fd712b1acaa9b6133196af6e4db99", func := "loop.example/g01394/laws.FnExactShelfOf", spec := "fnExactShelfOf", unfollowed := true, recurses := true, apart := false, narrowed := true }
def FnExactShelfOfUptoSaid : Prop := fnExactShelfOfUptoRow.holds Try.pinned (OpenSpec.upto fnExactShelfOfSpec)

/-- 'laws.FnExactLeastShelf', WHERE WHAT IT READS IS OF BULK AT MOST 1048576: true; the input reads as it did. -/
def fnExactLeastShelfUptoRow : OpenClaim := { program := "ytogkebbgkeffcab", sum := "fefefc246524171bbbc538c28ffcddc4860fd712b1acaa9b6133196af6e4db99", func := "loop.example/g01394/laws.FnExactLeastShelf", spec := "fnExactLeastShelf", unfollowed := true, recurses := true, apart := false, narrowed := true }
def FnExactLeastShelfUptoSaid : Prop := fnExactLeastShelfUptoRow.holds Try.pinned (OpenSpec.upto fnExactLeastShelfSpec)

end Rows
end Go.Proofs.Ytogkebbgkeffcab
