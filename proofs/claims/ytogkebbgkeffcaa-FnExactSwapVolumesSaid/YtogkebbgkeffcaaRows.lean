/-
  No cell of these rows narrows 'for every input' (looked for: loops, veiled, ifaces, maps, wideKeys, modest, calm, conditions, laid).
  DERIVED. THE GIVEN ROWS OF THIS SEAT. 12 by the template 'for every input the law returns true; each argument reads behind the call as it read before'; 0 by the template 'total and deterministic' (their statements: YtogkebbgkeffcaaTotals.lean).
  GIVEN WITH THE SEED: the statements are not yours to turn. If you find one false, say at which input.
  Laid BY PROGRAM, IN A SANDBOX (cutbox-rows.mjs): the forced cells as the released guide's own fill.sh prints them over the translation 0aca7777c15d5254… (all of the seat's roots in one cut). By AI agents, Wed Nov 11 2026. No macro, syntax, notation, axiom, sorry.
-/
import Derived.Test.YtogkebbgkeffcaaChecked
import GoSem.Claim
import GoSem.ClaimJoined
import GoSem.ClaimMapViews
import Derived.JoinedTies
import Derived.KernelRfl
namespace Go.Proofs.Ytogkebbgkeffcaa
/- THE CELL 'sum', in the pinned program and in every row, IS THE sha256 OF THE DUMP (.gsa) THAT YtogkebbgkeffcaaProg.lean LOADS. Nothing in Lean hashes anything: it is a label: what it is worth is what the hold of that sum in a sandbox is worth. -/
noncomputable def Try.pinned : Pinned := { name := "ytogkebbgkeffcaa", sum := "0aca7777c15d5254e5ac29f30f70953407268281b0d7a57189628d08f0134701", checked := Try.checked }
namespace Rows
def none {H : Type} : Left H := { results := [], args := [] }

/-- 'laws.FnExactIsShelf': WHATEVER THE INPUT: true; the input reads as it did. -/
def fnExactIsShelfSpec : ChangeSpec := { name := "fnExactIsShelf", fn := fun _ => fun
  | [d] => { results := [.lit (.bool true)], args := [d] }
  | _ => none }
def fnExactIsShelfRow : OpenClaim := { program := "ytogkebbgkeffcaa", sum := "0aca7777c15d5254e5ac29f30f70953407268281b0d7a57189628d08f0134701", func := "loop.example/g01394/laws.FnExactIsShelf", spec := "fnExactIsShelf", apart := false }
def FnExactIsShelfSaid : Prop := fnExactIsShelfRow.holds Try.pinned (OpenSpec.ofChange fnExactIsShelfSpec)

/-- ITS FALSE NEIGHBOUR: 'it returns false'. Refute it at one input. -/
def fnExactIsShelfWrong : ChangeSpec := { name := "fnExactIsShelf", fn := fun _ => fun
  | [d] => { results := [.lit (.bool false)], args := [d] }
  | _ => none }
def FnExactIsShelfWrongFalsely : Prop := fnExactIsShelfRow.holds Try.pinned (OpenSpec.ofChange fnExactIsShelfWrong)

/-- 'laws.FnExactWidthOf': WHATEVER THE INPUT: true; the input reads as it did. -/
def fnExactWidthOfSpec : ChangeSpec := { name := "fnExactWidthOf", fn := fun _ => fun
  | [d] => { results := [.lit (.bool true)], args := [d] }
  | _ => none }
def fnExactWidthOfRow : OpenClaim := { program := "ytogkebbgkeffcaa", sum := "0aca7777c15d5254e5ac29f30f70953407268281b0d7a57189628d08f0134701", func := "loop.example/g01394/laws.FnExactWidthOf", spec := "fnExactWidthOf", unfollowed := true, recurses := true, apart := false }
def FnExactWidthOfSaid : Prop := fnExactWidthOfRow.holds Try.pinned (OpenSpec.ofChange fnExactWidthOfSpec)

/-- ITS FALSE NEIGHBOUR: 'it returns false'. Refute it at one input. -/
def fnExactWidthOfWrong : ChangeSpec := { name := "fnExactWidthOf", fn := fun _ => fun
  | [d] => { results := [.lit (.bool false)], args := [d] }
  | _ => none }
def FnExactWidthOfWrongFalsely : Prop := fnExactWidthOfRow.holds Try.pinned (OpenSpec.ofChange fnExactWidthOfWrong)

/-- 'laws.FnExactPlaceOfVolume': WHATEVER THE INPUT: true; the input reads as it did. -/
def fnExactPlaceOfVolumeSpec : ChangeSpec := { name := "fnExactPlaceOfVolume", fn := fun _ => fun
  | [d1, d2] => { results := [.lit (.bool true)], args := [d1, d2] }
  | _ => none }
def fnExactPlaceOfVolumeRow : OpenClaim := { program := "ytogkebbgkeffcaa", sum := "0aca7777c15d5254e5ac29f30f70953407268281b0d7a57189628d08f0134701", func := "loop.example/g01394/laws.FnExactPlaceOfVolume", spec := "fnExactPlaceOfVolume", unfollowed := true, recurses := true, apart := false }
def FnExactPlaceOfVolumeSaid : Prop := fnExactPlaceOfVolumeRow.holds Try.pinned (OpenSpec.ofChange fnExactPlaceOfVolumeSpec)

/-- ITS FALSE NEIGHBOUR: 'it returns false'. Refute it at one input. -/
def fnExactPlaceOfVolumeWrong : ChangeSpec := { name := "fnExactPlaceOfVolume", fn := fun _ => fun
  | [d1, d2] => { results := [.lit (.bool false)], args := [d1, d2] }
  | _ => none }
def FnExactPlaceOfVolumeWrongFalsely : Prop := fnExactPlaceOfVolumeRow.holds Try.pinned (OpenSpec.ofChange fnExactPlaceOfVolumeWrong)

/-- 'laws.FnExactFaceOf': WHATEVER THE INPUT: true; the input reads as it did. -/
def fnExactFaceOfSpec : ChangeSpec := { name := "fnExactFaceOf", fn := fun _ => fun
  | [d1, d2, d3] => { results := [.lit (.bool true)], args := [d1, d2, d3] }
  | _ => none }
def fnExactFaceOfRow : OpenClaim := { program := "ytogkebbgkeffcaa", sum := "0aca7777c15d5254e5ac29f30f70953407268281b0d7a57189628d08f0134701", func := "loop.example/g01394/laws.FnExactFaceOf", spec := "fnExactFaceOf", unfollowed := true, recurses := true, apart := false }
def FnExactFaceOfSaid : Prop := fnExactFaceOfRow.holds Try.pinned (OpenSpec.ofChange fnExactFaceOfSpec)

/-- ITS FALSE NEIGHBOUR: 'it returns false'. Refute it at one input. -/
def fnExactFaceOfWrong : ChangeSpec := { name := "fnExactFaceOf", fn := fun _ => fun
  | [d1, d2, d3] => { results := [.lit (.bool false)], args := [d1, d2, d3] }
  | _ => none }
def FnExactFaceOfWrongFalsely : Prop := fnExactFaceOfRow.holds Try.pinned (OpenSpec.ofChange fnExactFaceOfWrong)

/-- 'laws.FnExactWormEats': WHATEVER THE INPUT: true; the input reads as it did. -/
def fnExactWormEatsSpec : ChangeSpec := { name := "fnExactWormEats", fn := fun _ => fun
  | [d1, d2, d3, d4, d5] => { results := [.lit (.bool true)], args := [d1, d2, d3, d4, d5] }
  | _ => none }
def fnExactWormEatsRow : OpenClaim := { program := "ytogkebbgkeffcaa", sum := "0aca7777c15d5254e5ac29f30f70953407268281b0d7a57189628d08f0134701", func := "loop.example/g01394/laws.FnExactWormEats", spec := "fnExactWormEats", unfollowed := true, recurses := true, apart := false }
def FnExactWormEatsSaid : Prop := fnExactWormEatsRow.holds Try.pinned (OpenSpec.ofChange fnExactWormEatsSpec)

/-- ITS FALSE NEIGHBOUR: 'it returns false'. Refute it at one input. -/
def fnExactWormEatsWrong : ChangeSpec := { name := "fnExactWormEats", fn := fun _ => fun
  | [d1, d2, d3, d4, d5] => { results := [.lit (.bool false)], args := [d1, d2, d3, d4, d5] }
  | _ => none }
def FnExactWormEatsWrongFalsely : Prop := fnExactWormEatsRow.holds Try.pinned (OpenSpec.ofChange fnExactWormEatsWrong)

/-- 'laws.FnExactCoversEaten': WHATEVER THE INPUT: true; the input reads as it did. -/
def fnExactCoversEatenSpec : ChangeSpec := { name := "fnExactCoversEaten", fn := fun _ => fun
  | [d1, d2, d3, d4, d5] => { results := [.lit (.bool true)], args := [d1, d2, d3, d4, d5] }
  | _ => none }
def fnExactCoversEatenRow : OpenClaim := { program := "ytogkebbgkeffcaa", sum := "0aca7777c15d5254e5ac29f30f70953407268281b0d7a57189628d08f0134701", func := "loop.example/g01394/laws.FnExactCoversEaten", spec := "fnExactCoversEaten", unfollowed := true, recurses := true, apart := false }
def FnExactCoversEatenSaid : Prop := fnExactCoversEatenRow.holds Try.pinned (OpenSpec.ofChange fnExactCoversEatenSpec)

/-- ITS FALSE NEIGHBOUR: 'it returns false'. Refute it at one input. -/
def fnExactCoversEatenWrong : ChangeSpec := { name := "fnExactCoversEaten", fn := fun _ => fun
  | [d1, d2, d3, d4, d5] => { results := [.lit (.bool false)], args := [d1, d2, d3, d4, d5] }
  | _ => none }
def FnExactCoversEatenWrongFalsely : Prop := fnExactCoversEatenRow.holds Try.pinned (OpenSpec.ofChange fnExactCoversEatenWrong)

/-- 'laws.FnExactLongestWorm': WHATEVER THE INPUT: true; the input reads as it did. -/
def fnExactLongestWormSpec : ChangeSpec := { name := "fnExactLongestWorm", fn := fun _ => fun
  | [d] => { results := [.lit (.bool true)], args := [d] }
  | _ => none }
def fnExactLongestWormRow : OpenClaim := { program := "ytogkebbgkeffcaa", sum := "0aca7777c15d5254e5ac29f30f70953407268281b0d7a57189628d08f0134701", func := "loop.example/g01394/laws.FnExactLongestWorm", spec := "fnExactLongestWorm", apart := false }
def FnExactLongestWormSaid : Prop := fnExactLongestWormRow.holds Try.pinned (OpenSpec.ofChange fnExactLongestWormSpec)

/-- ITS FALSE NEIGHBOUR: 'it returns false'. Refute it at one input. -/
def fnExactLongestWormWrong : ChangeSpec := { name := "fnExactLongestWorm", fn := fun _ => fun
  | [d] => { results := [.lit (.bool false)], args := [d] }
  | _ => none }
def FnExactLongestWormWrongFalsely : Prop := fnExactLongestWormRow.holds Try.pinned (OpenSpec.ofChange fnExactLongestWormWrong)

/-- 'laws.FnExactPagesEaten': WHATEVER THE INPUT: true; the input reads as it did. -/
def fnExactPagesEatenSpec : ChangeSpec := { name := "fnExactPagesEaten", fn := fun _ => fun
  | [d1, d2, d3, d4, d5] => { results := [.lit (.bool true)], args := [d1, d2, d3, d4, d5] }
  | _ => none }
def fnExactPagesEatenRow : OpenClaim := { program := "ytogkebbgkeffcaa", sum := "0aca7777c15d5254e5ac29f30f70953407268281b0d7a57189628d08f0134701", func := "loop.example/g01394/laws.FnExactPagesEaten", spec := "fnExactPagesEaten", unfollowed := true, recurses := true, apart := false }
def FnExactPagesEatenSaid : Prop := fnExactPagesEatenRow.holds Try.pinned (OpenSpec.ofChange fnExactPagesEatenSpec)

/-- ITS FALSE NEIGHBOUR: 'it returns false'. Refute it at one input. -/
def fnExactPagesEatenWrong : ChangeSpec := { name := "fnExactPagesEaten", fn := fun _ => fun
  | [d1, d2, d3, d4, d5] => { results := [.lit (.bool false)], args := [d1, d2, d3, d4, d5] }
  | _ => none }
def FnExactPagesEatenWrongFalsely : Prop := fnExactPagesEatenRow.holds Try.pinned (OpenSpec.ofChange fnExactPagesEatenWrong)

/-- 'laws.FnExactSwapVolumes': WHATEVER THE INPUT: true; the input reads as it did. -/
def fnExactSwapVolumesSpec : ChangeSpec := { name := "fnExactSwapVolumes", fn := fun _ => fun
  | [d1, d2, d3] => { results := [.lit (.bool true)], args := [d1, d2, d3] }
  | _ => none }
def fnExactSwapVolumesRow : OpenClaim := { program := "ytogkebbgkeffcaa", sum := "0aca7777c15d5254e5ac29f30f70953407268281b0d7a57189628d08f0134701", func := "loop.example/g01394/laws.FnExactSwapVolumes", spec := "fnExactSwapVolumes", apart := false }
def FnExactSwapVolumesSaid : Prop := fnExactSwapVolumesRow.holds Try.pinned (OpenSpec.ofChange fnExactSwapVolumesSpec)

/-- ITS FALSE NEIGHBOUR: 'it returns false'. Refute it at one input. -/
def fnExactSwapVolumesWrong : ChangeSpec := { name := "fnExactSwapVolumes", fn := fun _ => fun
  | [d1, d2, d3] => { results := [.lit (.bool false)], args := [d1, d2, d3] }
  | _ => none }
def FnExactSwapVolumesWrongFalsely : Prop := fnExactSwapVolumesRow.holds Try.pinned (OpenSpec.ofChange fnExactSwapVolumesWrong)

/-- 'laws.FnExactIsStanding': WHATEVER THE INPUT: true; the input reads as it did. -/
def fnExactIsStandingSpec : ChangeSpec := { name := "fnExactIsStanding", fn := fun _ => fun
  | [d] => { results := [.lit (.bool true)], args := [d] }
  | _ => none }
def fnExactIsStandingRow : OpenClaim := { program := "ytogkebbgkeffcaa", sum := "0aca7777c15d5254e5ac29f30f70953407268281b0d7a57189628d08f0134701", func := "loop.example/g01394/laws.FnExactIsStanding", spec := "fnExactIsStanding", apart := false }
def FnExactIsStandingSaid : Prop := fnExactIsStandingRow.holds Try.pinned (OpenSpec.ofChange fnExactIsStandingSpec)

/-- ITS FALSE NEIGHBOUR: 'it returns false'. Refute it at one input. -/
def fnExactIsStandingWrong : ChangeSpec := { name := "fnExactIsStanding", fn := fun _ => fun
  | [d] => { results := [.lit (.bool false)], args := [d] }
  | _ => none }
def FnExactIsStandingWrongFalsely : Prop := fnExactIsStandingRow.holds Try.pinned (OpenSpec.ofChange fnExactIsStandingWrong)

/-- 'laws.FnExactFewestMoves': WHATEVER THE INPUT: true; the input reads as it did. -/
def fnExactFewestMovesSpec : ChangeSpec := { name := "fnExactFewestMoves", fn := fun _ => fun
  | [d] => { results := [.lit (.bool true)], args := [d] }
  | _ => none }
def fnExactFewestMovesRow : OpenClaim := { program := "ytogkebbgkeffcaa", sum := "0aca7777c15d5254e5ac29f30f70953407268281b0d7a57189628d08f0134701", func := "loop.example/g01394/laws.FnExactFewestMoves", spec := "fnExactFewestMoves", apart := false }
def FnExactFewestMovesSaid : Prop := fnExactFewestMovesRow.holds Try.pinned (OpenSpec.ofChange fnExactFewestMovesSpec)

/-- ITS FALSE NEIGHBOUR: 'it returns false'. Refute it at one input. -/
def fnExactFewestMovesWrong : ChangeSpec := { name := "fnExactFewestMoves", fn := fun _ => fun
  | [d] => { results := [.lit (.bool false)], args := [d] }
  | _ => none }
def FnExactFewestMovesWrongFalsely : Prop := fnExactFewestMovesRow.holds Try.pinned (OpenSpec.ofChange fnExactFewestMovesWrong)

/-- 'laws.FnExactFirstStay': WHATEVER THE INPUT: true; the input reads as it did. -/
def fnExactFirstStaySpec : ChangeSpec := { name := "fnExactFirstStay", fn := fun _ => fun
  | [d] => { results := [.lit (.bool true)], args := [d] }
  | _ => none }
def fnExactFirstStayRow : OpenClaim := { program := "ytogkebbgkeffcaa", sum := "0aca7777c15d5254e5ac29f30f70953407268281b0d7a57189628d08f0134701", func := "loop.example/g01394/laws.FnExactFirstStay", spec := "fnExactFirstStay", apart := false }
def FnExactFirstStaySaid : Prop := fnExactFirstStayRow.holds Try.pinned (OpenSpec.ofChange fnExactFirstStaySpec)

/-- ITS FALSE NEIGHBOUR: 'it returns false'. Refute it at one input. -/
def fnExactFirstStayWrong : ChangeSpec := { name := "fnExactFirstStay", fn := fun _ => fun
  | [d] => { results := [.lit (.bool false)], args := [d] }
  | _ => none }
def FnExactFirstStayWrongFalsely : Prop := fnExactFirstStayRow.holds Try.pinned (OpenSpec.ofChange fnExactFirstStayWrong)

/- THE SECOND FORM. 'bulk': how many values and letters a reading holds, each counted each time it is reached (what is shared counts as often as it is met; a slice's spare places count too). A statement '..UptoSaid' is the law's where the arguments, and the package variables that the reading takes, are together of bulk at most 1048576: NARROWER than '..Said'. Prove '..Said' where nothing that the law and all that it calls make is longer than what came in: it says more and counts as full. Else prove '..UptoSaid'. A law counts once. -/
mutual
def uptoBulk {H : Type} : DataW H → Nat
  | .lit (.string bytes) => bytes.length + 1
  | .lit _ => 1
  | .nil => 1
  | .ptr d => uptoBulk d + 1
  | .slice elems spare => uptoBulkAll elems + uptoBulkAll spare + 1
  | .agg parts => uptoBulkAll parts + 1
  | .iface _ d => uptoBulk d + 1
  | .map entries => uptoBulkEntries entries + 1
  | .held _ => 1
def uptoBulkAll {H : Type} : List (DataW H) → Nat
  | [] => 0
  | d :: r => uptoBulk d + uptoBulkAll r
def uptoBulkEntries {H : Type} : List (Lit × DataW H) → Nat
  | [] => 0
  | x :: r => uptoBulkEntry x + uptoBulkEntries r
def uptoBulkEntry {H : Type} : Lit × DataW H → Nat
  | (.string bytes, d) => bytes.length + uptoBulk d + 1
  | (_, d) => uptoBulk d + 1
 end
def uptoSmall : (H : Type) → List (DataW H) → Bool := fun _ ds => decide (uptoBulkAll ds ≤ 1048576)
def OpenSpec.upto (s : _root_.Go.ChangeSpec) : _root_.Go.OpenSpec := { _root_.Go.OpenSpec.ofChange s with cond := some uptoSmall }

/-- 'laws.FnExactIsShelf', WHERE WHAT IT READS IS OF BULK AT MOST 1048576: true; the input reads as it did. -/
def fnExactIsShelfUptoRow : OpenClaim := { program := "ytogkebbgkeffcaa", sum := "0aca7777c15d5254e5ac29f30f70953407268281b0d7a57189628d08f0134701", func := "loop.example/g01394/laws.FnExactIsShelf", spec := "fnExactIsShelf", apart := false, narrowed := true }
def FnExactIsShelfUptoSaid : Prop := fnExactIsShelfUptoRow.holds Try.pinned (OpenSpec.upto fnExactIsShelfSpec)

/-- 'laws.FnExactWidthOf', WHERE WHAT IT READS IS OF BULK AT MOST 1048576: true; the input reads as it did. -/
def fnExactWidthOfUptoRow : OpenClaim := { program := "ytogkebbgkeffcaa", sum := "0aca7777c15d5254e5ac29f30f70953407268281b0d7a57189628d08f0134701", func := "loop.example/g01394/laws.FnExactWidthOf", spec := "fnExactWidthOf", unfollowed := true, recurses := true, apart := false, narrowed := true }
def FnExactWidthOfUptoSaid : Prop := fnExactWidthOfUptoRow.holds Try.pinned (OpenSpec.upto fnExactWidthOfSpec)

/-- 'laws.FnExactPlaceOfVolume', WHERE WHAT IT READS IS OF BULK AT MOST 1048576: true; the input reads as it did. -/
def fnExactPlaceOfVolumeUptoRow : OpenClaim := { program := "ytogkebbgkeffcaa", sum := "0aca7777c15d5254e5ac29f30f70953407268281b0d7a57189628d08f0134701", func := "loop.example/g01394/laws.FnExactPlaceOfVolume", spec := "fnExactPlaceOfVolume", unfollowed := true, recurses := true, apart := false, narrowed := true }
def FnExactPlaceOfVolumeUptoSaid : Prop := fnExactPlaceOfVolumeUptoRow.holds Try.pinned (OpenSpec.upto fnExactPlaceOfVolumeSpec)

/-- 'laws.FnExactFaceOf', WHERE WHAT IT READS IS OF BULK AT MOST 1048576: true; the input reads as it did. -/
def fnExactFaceOfUptoRow : OpenClaim := { program := "ytogkebbgkeffcaa", sum := "0aca7777c15d5254e5ac29f30f70953407268281b0d7a57189628d08f0134701", func := "loop.example/g01394/laws.FnExactFaceOf", spec := "fnExactFaceOf", unfollowed := true, recurses := true, apart := false, narrowed := true }
def FnExactFaceOfUptoSaid : Prop := fnExactFaceOfUptoRow.holds Try.pinned (OpenSpec.upto fnExactFaceOfSpec)

/-- 'laws.FnExactWormEats', WHERE WHAT IT READS IS OF BULK AT MOST 1048576: true; the input reads as it did. -/
def fnExactWormEatsUptoRow : OpenClaim := { program := "ytogkebbgkeffcaa", sum := "0aca7777c15d5254e5ac29f30f70953407268281b0d7a57189628d08f0134701", func := "loop.example/g01394/laws.FnExactWormEats", spec := "fnExactWormEats", unfollowed := true, recurses := true, apart := false, narrowed := true }
def FnExactWormEatsUptoSaid : Prop := fnExactWormEatsUptoRow.holds Try.pinned (OpenSpec.upto fnExactWormEatsSpec)

/-- 'laws.FnExactCoversEaten', WHERE WHAT IT READS IS OF BULK AT MOST 1048576: true; the input reads as it did. -/
def fnExactCoversEatenUptoRow : OpenClaim := { program := "ytogkebbgkeffcaa", sum := "0aca7777c15d5254e5ac29f30f70953407268281b0d7a57189628d08f0134701", func := "loop.example/g01394/laws.FnExactCoversEaten", spec := "fnExactCoversEaten", unfollowed := true, recurses := true, apart := false, narrowed := true }
def FnExactCoversEatenUptoSaid : Prop := fnExactCoversEatenUptoRow.holds Try.pinned (OpenSpec.upto fnExactCoversEatenSpec)

/-- 'laws.FnExactLongestWorm', WHERE WHAT IT READS IS OF BULK AT MOST 1048576: true; the input reads as it did. -/
def fnExactLongestWormUptoRow : OpenClaim := { program := "ytogkebbgkeffcaa", sum := "0aca7777c15d5254e5ac29f30f70953407268281b0d7a57189628d08f0134701", func := "loop.example/g01394/laws.FnExactLongestWorm", spec := "fnExactLongestWorm", apart := false, narrowed := true }
def FnExactLongestWormUptoSaid : Prop := fnExactLongestWormUptoRow.holds Try.pinned (OpenSpec.upto fnExactLongestWormSpec)

/-- 'laws.FnExactPagesEaten', WHERE WHAT IT READS IS OF BULK AT MOST 1048576: true; the input reads as it did. -/
def fnExactPagesEatenUptoRow : OpenClaim := { program := "ytogkebbgkeffcaa", sum := "0aca7777c15d5254e5ac29f30f70953407268281b0d7a57189628d08f0134701", func := "loop.example/g01394/laws.FnExactPagesEaten", spec := "fnExactPagesEaten", unfollowed := true, recurses := true, apart := false, narrowed := true }
def FnExactPagesEatenUptoSaid : Prop := fnExactPagesEatenUptoRow.holds Try.pinned (OpenSpec.upto fnExactPagesEatenSpec)

/-- 'laws.FnExactSwapVolumes', WHERE WHAT IT READS IS OF BULK AT MOST 1048576: true; the input reads as it did. -/
def fnExactSwapVolumesUptoRow : OpenClaim := { program := "ytogkebbgkeffcaa", sum := "0aca7777c15d5254e5ac29f30f70953407268281b0d7a57189628d08f0134701", func := "loop.example/g01394/laws.FnExactSwapVolumes", spec := "fnExactSwapVolumes", apart := false, narrowed := true }
def FnExactSwapVolumesUptoSaid : Prop := fnExactSwapVolumesUptoRow.holds Try.pinned (OpenSpec.upto fnExactSwapVolumesSpec)

/-- 'laws.FnExactIsStanding', WHERE WHAT IT READS IS OF BULK AT MOST 1048576: true; the input reads as it did. -/
def fnExactIsStandingUptoRow : OpenClaim := { program := "ytogkebbgkeffcaa", sum := "0aca7777c15d5254e5ac29f30f70953407268281b0d7a57189628d08f0134701", func := "loop.example/g01394/laws.FnExactIsStanding", spec := "fnExactIsStanding", apart := false, narrowed := true }
def FnExactIsStandingUptoSaid : Prop := fnExactIsStandingUptoRow.holds Try.pinned (OpenSpec.upto fnExactIsStandingSpec)

/-- 'laws.FnExactFewestMoves', WHERE WHAT IT READS IS OF BULK AT MOST 1048576: true; the input reads as it did. -/
def fnExactFewestMovesUptoRow : OpenClaim := { program := "ytogkebbgkeffcaa", sum := "0aca7777c15d5254e5ac29f30f70953407268281b0d7a57189628d08f0134701", func := "loop.example/g01394/laws.FnExactFewestMoves", spec := "fnExactFewestMoves", apart := false, narrowed := true }
def FnExactFewestMovesUptoSaid : Prop := fnExactFewestMovesUptoRow.holds Try.pinned (OpenSpec.upto fnExactFewestMovesSpec)

/-- 'laws.FnExactFirstStay', WHERE WHAT IT READS IS OF BULK AT MOST 1048576: true; the input reads as it did. -/
def fnExactFirstStayUptoRow : OpenClaim := { program := "ytogkebbgkeffcaa", sum := "0aca7777c15d5254e5ac29f30f70953407268281b0d7a57189628d08f0134701", func := "loop.example/g01394/laws.FnExactFirstStay", spec := "fnExactFirstStay", apart := false, narrowed := true }
def FnExactFirstStayUptoSaid : Prop := fnExactFirstStayUptoRow.holds Try.pinned (OpenSpec.upto fnExactFirstStaySpec)

end Rows
end Go.Proofs.Ytogkebbgkeffcaa
