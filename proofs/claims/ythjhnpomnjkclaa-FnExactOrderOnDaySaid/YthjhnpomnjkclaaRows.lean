/-
  No cell of these rows narrows 'for every input' (looked for: loops, veiled, ifaces, maps, wideKeys, modest, calm, conditions, laid).
  DERIVED. THE GIVEN ROWS OF THIS SEAT. 5 by the template 'for every input the law returns true; each argument reads behind the call as it read before'; 0 by the template 'total and deterministic' (their statements: YthjhnpomnjkclaaTotals.lean).
  GIVEN WITH THE SEED: the statements are not yours to turn. If you find one false, say at which input.
  Laid BY PROGRAM, IN A SANDBOX (cutbox-rows.mjs): the forced cells as the released guide's own fill.sh prints them over the translation d6cfdd7029ea39b6… (all of the seat's roots in one cut). By AI agents, Wed Nov 11 2026. No macro, syntax, notation, axiom, sorry.
-/
import Derived.Test.YthjhnpomnjkclaaChecked
import GoSem.Claim
import GoSem.ClaimJoined
import GoSem.ClaimMapViews
import Derived.JoinedTies
import Derived.KernelRfl
namespace Go.Proofs.Ythjhnpomnjkclaa
/- THE CELL 'sum', in the pinned program and in every row, IS THE sha256 OF THE DUMP (.gsa) THAT YthjhnpomnjkclaaProg.lean LOADS. Nothing in Lean hashes anything: it is a label: what it is worth is what the hold of that sum in a sandbox is worth. -/
noncomputable def Try.pinned : Pinned := { name := "ythjhnpomnjkclaa", sum := "d6cfdd7029ea39b6fbaaa0a0ee424e37b5da792070791dfd5eeee6b20c8b4a4e", checked := Try.checked }
namespace Rows
def none {H : Type} : Left H := { results := [], args := [] }

/-- 'laws.FnExactOrderOnDay': WHATEVER THE INPUT: true; the input reads as it did. -/
def fnExactOrderOnDaySpec : ChangeSpec := { name := "fnExactOrderOnDay", fn := fun _ => fun
  | [d1, d2, d3] => { results := [.lit (.bool true)], args := [d1, d2, d3] }
  | _ => none }
def fnExactOrderOnDayRow : OpenClaim := { program := "ythjhnpomnjkclaa", sum := "d6cfdd7029ea39b6fbaaa0a0ee424e37b5da792070791dfd5eeee6b20c8b4a4e", func := "loop.example/g01394/laws.FnExactOrderOnDay", spec := "fnExactOrderOnDay", unfollowed := true, recurses := true, apart := false }
def FnExactOrderOnDaySaid : Prop := fnExactOrderOnDayRow.holds Try.pinned (OpenSpec.ofChange fnExactOrderOnDaySpec)

/-- ITS FALSE NEIGHBOUR: 'it returns false'. Refute it at one input. -/
def fnExactOrderOnDayWrong : ChangeSpec := { name := "fnExactOrderOnDay", fn := fun _ => fun
  | [d1, d2, d3] => { results := [.lit (.bool false)], args := [d1, d2, d3] }
  | _ => none }
def FnExactOrderOnDayWrongFalsely : Prop := fnExactOrderOnDayRow.holds Try.pinned (OpenSpec.ofChange fnExactOrderOnDayWrong)

/-- 'laws.FnExactTogetherPages': WHATEVER THE INPUT: true; the input reads as it did. -/
def fnExactTogetherPagesSpec : ChangeSpec := { name := "fnExactTogetherPages", fn := fun _ => fun
  | [d1, d2] => { results := [.lit (.bool true)], args := [d1, d2] }
  | _ => none }
def fnExactTogetherPagesRow : OpenClaim := { program := "ythjhnpomnjkclaa", sum := "d6cfdd7029ea39b6fbaaa0a0ee424e37b5da792070791dfd5eeee6b20c8b4a4e", func := "loop.example/g01394/laws.FnExactTogetherPages", spec := "fnExactTogetherPages", unfollowed := true, recurses := true, apart := false }
def FnExactTogetherPagesSaid : Prop := fnExactTogetherPagesRow.holds Try.pinned (OpenSpec.ofChange fnExactTogetherPagesSpec)

/-- ITS FALSE NEIGHBOUR: 'it returns false'. Refute it at one input. -/
def fnExactTogetherPagesWrong : ChangeSpec := { name := "fnExactTogetherPages", fn := fun _ => fun
  | [d1, d2] => { results := [.lit (.bool false)], args := [d1, d2] }
  | _ => none }
def FnExactTogetherPagesWrongFalsely : Prop := fnExactTogetherPagesRow.holds Try.pinned (OpenSpec.ofChange fnExactTogetherPagesWrong)

/-- 'laws.FnExactPartPlan': WHATEVER THE INPUT: true; the input reads as it did. -/
def fnExactPartPlanSpec : ChangeSpec := { name := "fnExactPartPlan", fn := fun _ => fun
  | [d1, d2, d3] => { results := [.lit (.bool true)], args := [d1, d2, d3] }
  | _ => none }
def fnExactPartPlanRow : OpenClaim := { program := "ythjhnpomnjkclaa", sum := "d6cfdd7029ea39b6fbaaa0a0ee424e37b5da792070791dfd5eeee6b20c8b4a4e", func := "loop.example/g01394/laws.FnExactPartPlan", spec := "fnExactPartPlan", apart := false }
def FnExactPartPlanSaid : Prop := fnExactPartPlanRow.holds Try.pinned (OpenSpec.ofChange fnExactPartPlanSpec)

/-- ITS FALSE NEIGHBOUR: 'it returns false'. Refute it at one input. -/
def fnExactPartPlanWrong : ChangeSpec := { name := "fnExactPartPlan", fn := fun _ => fun
  | [d1, d2, d3] => { results := [.lit (.bool false)], args := [d1, d2, d3] }
  | _ => none }
def FnExactPartPlanWrongFalsely : Prop := fnExactPartPlanRow.holds Try.pinned (OpenSpec.ofChange fnExactPartPlanWrong)

/-- 'laws.FnExactDaysOfParts': WHATEVER THE INPUT: true; the input reads as it did. -/
def fnExactDaysOfPartsSpec : ChangeSpec := { name := "fnExactDaysOfParts", fn := fun _ => fun
  | [d1, d2, d3] => { results := [.lit (.bool true)], args := [d1, d2, d3] }
  | _ => none }
def fnExactDaysOfPartsRow : OpenClaim := { program := "ythjhnpomnjkclaa", sum := "d6cfdd7029ea39b6fbaaa0a0ee424e37b5da792070791dfd5eeee6b20c8b4a4e", func := "loop.example/g01394/laws.FnExactDaysOfParts", spec := "fnExactDaysOfParts", apart := false }
def FnExactDaysOfPartsSaid : Prop := fnExactDaysOfPartsRow.holds Try.pinned (OpenSpec.ofChange fnExactDaysOfPartsSpec)

/-- ITS FALSE NEIGHBOUR: 'it returns false'. Refute it at one input. -/
def fnExactDaysOfPartsWrong : ChangeSpec := { name := "fnExactDaysOfParts", fn := fun _ => fun
  | [d1, d2, d3] => { results := [.lit (.bool false)], args := [d1, d2, d3] }
  | _ => none }
def FnExactDaysOfPartsWrongFalsely : Prop := fnExactDaysOfPartsRow.holds Try.pinned (OpenSpec.ofChange fnExactDaysOfPartsWrong)

/-- 'laws.FnExactAfterParts': WHATEVER THE INPUT: true; the input reads as it did. -/
def fnExactAfterPartsSpec : ChangeSpec := { name := "fnExactAfterParts", fn := fun _ => fun
  | [d1, d2, d3] => { results := [.lit (.bool true)], args := [d1, d2, d3] }
  | _ => none }
def fnExactAfterPartsRow : OpenClaim := { program := "ythjhnpomnjkclaa", sum := "d6cfdd7029ea39b6fbaaa0a0ee424e37b5da792070791dfd5eeee6b20c8b4a4e", func := "loop.example/g01394/laws.FnExactAfterParts", spec := "fnExactAfterParts", apart := false }
def FnExactAfterPartsSaid : Prop := fnExactAfterPartsRow.holds Try.pinned (OpenSpec.ofChange fnExactAfterPartsSpec)

/-- ITS FALSE NEIGHBOUR: 'it returns false'. Refute it at one input. -/
def fnExactAfterPartsWrong : ChangeSpec := { name := "fnExactAfterParts", fn := fun _ => fun
  | [d1, d2, d3] => { results := [.lit (.bool false)], args := [d1, d2, d3] }
  | _ => none }
def FnExactAfterPartsWrongFalsely : Prop := fnExactAfterPartsRow.holds Try.pinned (OpenSpec.ofChange fnExactAfterPartsWrong)

/- THE SECOND FORM. 'bulk': how many values and letters a reading holds, each counted each time it is reached (what is shared counts as often as it is met; a slice's spare places count too). A statement '..UptoSaid' is the law's where the arguments, and the package variables that the reading takes, are together of bulk at most 1048576: NARROWER than '..Said'. Prove '..Said' where nothing that the law and all that it calls make is longer than what came in: it says more and counts as full. Else prove '..UptoSaid'. A law counts once. -/
mutual
def uptoBulk {H : Type} : DataW H → Nat
  | .lit (.string bytes) => bytes.length + 1
  | .lit _ => 1
  | .nil => 1
  | .ptr d => uptoBulk d + 1
  | .slice elems spare => uptoBulkAll elems + uptoBulkAll spare + 1
  | .agg parts => uptoBulkAll parts + 1
  | .iface _ d => uptoBulk d + 1
  | .map entries => uptoBulkEntries entries + 1
  | .held _ => 1
def uptoBulkAll {H : Type} : List (DataW H) → Nat
  | [] => 0
  | d :: r => uptoBulk d + uptoBulkAll r
def uptoBulkEntries {H : Type} : List (Lit × DataW H) → Nat
  | [] => 0
  | x :: r => uptoBulkEntry x + uptoBulkEntries r
def uptoBulkEntry {H : Type} : Lit × DataW H → Nat
  | (.string bytes, d) => bytes.length + uptoBulk d + 1
  | (_, d) => uptoBulk d + 1
 end
def uptoSmall : (H : Type) → List (DataW H) → Bool := fun _ ds => decide (uptoBulkAll ds ≤ 1048576)
def OpenSpec.upto (s : _root_.Go.ChangeSpec) : _root_.Go.OpenSpec := { _root_.Go.OpenSpec.ofChange s with cond := some uptoSmall }

/-- 'laws.FnExactOrderOnDay', WHERE WHAT IT READS IS OF BULK AT MOST 1048576: true; the input reads as it did. -/
def fnExactOrderOnDayUptoRow : OpenClaim := { program := "ythjhnpomnjkclaa", sum := "d6cfdd7029ea39b6fbaaa0a0ee424e37b5da792070791dfd5eeee6b20c8b4a4e", func := "loop.example/g01394/laws.FnExactOrderOnDay", spec := "fnExactOrderOnDay", unfollowed := true, recurses := true, apart := false, narrowed := true }
def FnExactOrderOnDayUptoSaid : Prop := fnExactOrderOnDayUptoRow.holds Try.pinned (OpenSpec.upto fnExactOrderOnDaySpec)

/-- 'laws.FnExactTogetherPages', WHERE WHAT IT READS IS OF BULK AT MOST 1048576: true; the input reads as it did. -/
def fnExactTogetherPagesUptoRow : OpenClaim := { program := "ythjhnpomnjkclaa", sum := "d6cfdd7029ea39b6fbaaa0a0ee424e37b5da792070791dfd5eeee6b20c8b4a4e", func := "loop.example/g01394/laws.FnExactTogetherPages", spec := "fnExactTogetherPages", unfollowed := true, recurses := true, apart := false, narrowed := true }
def FnExactTogetherPagesUptoSaid : Prop := fnExactTogetherPagesUptoRow.holds Try.pinned (OpenSpec.upto fnExactTogetherPagesSpec)

/-- 'laws.FnExactPartPlan', WHERE WHAT IT READS IS OF BULK AT MOST 1048576: true; the input reads as it did. -/
def fnExactPartPlanUptoRow : OpenClaim := { program := "ythjhnpomnjkclaa", sum := "d6cfdd7029ea39b6fbaaa0a0ee424e37b5da792070791dfd5eeee6b20c8b4a4e", func := "loop.example/g01394/laws.FnExactPartPlan", spec := "fnExactPartPlan", apart := false, narrowed := true }
def FnExactPartPlanUptoSaid : Prop := fnExactPartPlanUptoRow.holds Try.pinned (OpenSpec.upto fnExactPartPlanSpec)

/-- 'laws.FnExactDaysOfParts', WHERE WHAT IT READS IS OF BULK AT MOST 1048576: true; the input reads as it did. -/
def fnExactDaysOfPartsUptoRow : OpenClaim := { program := "ythjhnpomnjkclaa", sum := "d6cfdd7029ea39b6fbaaa0a0ee424e37b5da792070791dfd5eeee6b20c8b4a4e", func := "loop.example/g01394/laws.FnExactDaysOfParts", spec := "fnExactDaysOfParts", apart := false, narrowed := true }
def FnExactDaysOfPartsUptoSaid : Prop := fnExactDaysOfPartsUptoRow.holds Try.pinned (OpenSpec.upto fnExactDaysOfPartsSpec)

/-- 'laws.FnExactAfterParts', WHERE WHAT IT READS IS OF BULK AT MOST 1048576: true; the input reads as it did. -/
def fnExactAfterPartsUptoRow : OpenClaim := { program := "ythjhnpomnjkclaa", sum := "d6cfdd7029ea39b6fbaaa0a0ee424e37b5da792070791dfd5eeee6b20c8b4a4e", func := "loop.example/g01394/laws.FnExactAfterParts", spec := "fnExactAfterParts", apart := false, narrowed := true }
def FnExactAfterPartsUptoSaid : Prop := fnExactAfterPartsUptoRow.holds Try.pinned (OpenSpec.upto fnExactAfterPartsSpec)

end Rows
end Go.Proofs.Ythjhnpomnjkclaa
