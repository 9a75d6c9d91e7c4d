/-
  No cell of these rows narrows 'for every input' (looked for: loops, veiled, ifaces, maps, wideKeys, modest, calm, conditions, laid).
  DERIVED. THE GIVEN ROWS OF THIS SEAT. 12 by the template 'for every input the law returns true; each argument reads behind the call as it read before'; 0 by the template 'total and deterministic' (their statements: YtbnggakfogcaladTotals.lean).
  GIVEN WITH THE SEED: the statements are not yours to turn. If you find one false, say at which input.
  Laid BY PROGRAM, IN A SANDBOX (cutbox-rows.mjs): the forced cells as the released guide's own fill.sh prints them over the translation 3b2a8605aeec414e… (all of the seat's roots in one cut). By AI agents, Wed Nov 11 2026. No macro, syntax, notation, axiom, sorry.
-/
import Derived.Test.YtbnggakfogcaladChecked
import GoSem.Claim
import GoSem.ClaimJoined
import GoSem.ClaimMapViews
import Derived.JoinedTies
import Derived.KernelRfl
namespace Go.Proofs.Ytbnggakfogcalad
/- THE CELL 'sum', in the pinned program and in every row, IS THE sha256 OF THE DUMP (.gsa) THAT YtbnggakfogcaladProg.lean LOADS. Nothing in Lean hashes anything: it is a label: what it is worth is what the hold of that sum in a sandbox is worth. -/
noncomputable def Try.pinned : Pinned := { name := "ytbnggakfogcalad", sum := "3b2a8605aeec414eed090065864f5070a62a592c31714bd3a58b7e75f39fbb66", checked := Try.checked }
namespace Rows
def none {H : Type} : Left H := { results := [], args := [] }

/-- 'laws.FnFieldsOf': WHATEVER THE INPUT: true; the input reads as it did. -/
def fnFieldsOfSpec : ChangeSpec := { name := "fnFieldsOf", fn := fun _ => fun
  | [d] => { results := [.lit (.bool true)], args := [d] }
  | _ => none }
def fnFieldsOfRow : OpenClaim := { program := "ytbnggakfogcalad", sum := "3b2a8605aeec414eed090065864f5070a62a592c31714bd3a58b7e75f39fbb66", func := "loop.example/iceharvest/laws.FnFieldsOf", spec := "fnFieldsOf", apart := false }
def FnFieldsOfSaid : Prop := fnFieldsOfRow.holds Try.pinned (OpenSpec.ofChange fnFieldsOfSpec)

/-- ITS FALSE NEIGHBOUR: 'it returns false'. Refute it at one input. -/
def fnFieldsOfWrong : ChangeSpec := { name := "fnFieldsOf", fn := fun _ => fun
  | [d] => { results := [.lit (.bool false)], args := [d] }
  | _ => none }
def FnFieldsOfWrongFalsely : Prop := fnFieldsOfRow.holds Try.pinned (OpenSpec.ofChange fnFieldsOfWrong)

/-- 'laws.FnFieldSizes': WHATEVER THE INPUT: true; the input reads as it did. -/
def fnFieldSizesSpec : ChangeSpec := { name := "fnFieldSizes", fn := fun _ => fun
  | [d] => { results := [.lit (.bool true)], args := [d] }
  | _ => none }
def fnFieldSizesRow : OpenClaim := { program := "ytbnggakfogcalad", sum := "3b2a8605aeec414eed090065864f5070a62a592c31714bd3a58b7e75f39fbb66", func := "loop.example/iceharvest/laws.FnFieldSizes", spec := "fnFieldSizes", apart := false }
def FnFieldSizesSaid : Prop := fnFieldSizesRow.holds Try.pinned (OpenSpec.ofChange fnFieldSizesSpec)

/-- ITS FALSE NEIGHBOUR: 'it returns false'. Refute it at one input. -/
def fnFieldSizesWrong : ChangeSpec := { name := "fnFieldSizes", fn := fun _ => fun
  | [d] => { results := [.lit (.bool false)], args := [d] }
  | _ => none }
def FnFieldSizesWrongFalsely : Prop := fnFieldSizesRow.holds Try.pinned (OpenSpec.ofChange fnFieldSizesWrong)

/-- 'laws.FnNarrowsOf': WHATEVER THE INPUT: true; the input reads as it did. -/
def fnNarrowsOfSpec : ChangeSpec := { name := "fnNarrowsOf", fn := fun _ => fun
  | [d] => { results := [.lit (.bool true)], args := [d] }
  | _ => none }
def fnNarrowsOfRow : OpenClaim := { program := "ytbnggakfogcalad", sum := "3b2a8605aeec414eed090065864f5070a62a592c31714bd3a58b7e75f39fbb66", func := "loop.example/iceharvest/laws.FnNarrowsOf", spec := "fnNarrowsOf", apart := false }
def FnNarrowsOfSaid : Prop := fnNarrowsOfRow.holds Try.pinned (OpenSpec.ofChange fnNarrowsOfSpec)

/-- ITS FALSE NEIGHBOUR: 'it returns false'. Refute it at one input. -/
def fnNarrowsOfWrong : ChangeSpec := { name := "fnNarrowsOf", fn := fun _ => fun
  | [d] => { results := [.lit (.bool false)], args := [d] }
  | _ => none }
def FnNarrowsOfWrongFalsely : Prop := fnNarrowsOfRow.holds Try.pinned (OpenSpec.ofChange fnNarrowsOfWrong)

/-- 'laws.FnNarrowsOfEnds': WHATEVER THE INPUT: true; the input reads as it did. -/
def fnNarrowsOfEndsSpec : ChangeSpec := { name := "fnNarrowsOfEnds", fn := fun _ => fun
  | [d] => { results := [.lit (.bool true)], args := [d] }
  | _ => none }
def fnNarrowsOfEndsRow : OpenClaim := { program := "ytbnggakfogcalad", sum := "3b2a8605aeec414eed090065864f5070a62a592c31714bd3a58b7e75f39fbb66", func := "loop.example/iceharvest/laws.FnNarrowsOfEnds", spec := "fnNarrowsOfEnds", apart := false }
def FnNarrowsOfEndsSaid : Prop := fnNarrowsOfEndsRow.holds Try.pinned (OpenSpec.ofChange fnNarrowsOfEndsSpec)

/-- ITS FALSE NEIGHBOUR: 'it returns false'. Refute it at one input. -/
def fnNarrowsOfEndsWrong : ChangeSpec := { name := "fnNarrowsOfEnds", fn := fun _ => fun
  | [d] => { results := [.lit (.bool false)], args := [d] }
  | _ => none }
def FnNarrowsOfEndsWrongFalsely : Prop := fnNarrowsOfEndsRow.holds Try.pinned (OpenSpec.ofChange fnNarrowsOfEndsWrong)

/-- 'laws.FnRisksFrom': WHATEVER THE INPUT: true; the input reads as it did. -/
def fnRisksFromSpec : ChangeSpec := { name := "fnRisksFrom", fn := fun _ => fun
  | [d] => { results := [.lit (.bool true)], args := [d] }
  | _ => none }
def fnRisksFromRow : OpenClaim := { program := "ytbnggakfogcalad", sum := "3b2a8605aeec414eed090065864f5070a62a592c31714bd3a58b7e75f39fbb66", func := "loop.example/iceharvest/laws.FnRisksFrom", spec := "fnRisksFrom", apart := false }
def FnRisksFromSaid : Prop := fnRisksFromRow.holds Try.pinned (OpenSpec.ofChange fnRisksFromSpec)

/-- ITS FALSE NEIGHBOUR: 'it returns false'. Refute it at one input. -/
def fnRisksFromWrong : ChangeSpec := { name := "fnRisksFrom", fn := fun _ => fun
  | [d] => { results := [.lit (.bool false)], args := [d] }
  | _ => none }
def FnRisksFromWrongFalsely : Prop := fnRisksFromRow.holds Try.pinned (OpenSpec.ofChange fnRisksFromWrong)

/-- 'laws.FnWayTo': WHATEVER THE INPUT: true; the input reads as it did. -/
def fnWayToSpec : ChangeSpec := { name := "fnWayTo", fn := fun _ => fun
  | [d] => { results := [.lit (.bool true)], args := [d] }
  | _ => none }
def fnWayToRow : OpenClaim := { program := "ytbnggakfogcalad", sum := "3b2a8605aeec414eed090065864f5070a62a592c31714bd3a58b7e75f39fbb66", func := "loop.example/iceharvest/laws.FnWayTo", spec := "fnWayTo", apart := false }
def FnWayToSaid : Prop := fnWayToRow.holds Try.pinned (OpenSpec.ofChange fnWayToSpec)

/-- ITS FALSE NEIGHBOUR: 'it returns false'. Refute it at one input. -/
def fnWayToWrong : ChangeSpec := { name := "fnWayTo", fn := fun _ => fun
  | [d] => { results := [.lit (.bool false)], args := [d] }
  | _ => none }
def FnWayToWrongFalsely : Prop := fnWayToRow.holds Try.pinned (OpenSpec.ofChange fnWayToWrong)

/-- 'laws.FnWayToBack': WHATEVER THE INPUT: true; the input reads as it did. -/
def fnWayToBackSpec : ChangeSpec := { name := "fnWayToBack", fn := fun _ => fun
  | [d] => { results := [.lit (.bool true)], args := [d] }
  | _ => none }
def fnWayToBackRow : OpenClaim := { program := "ytbnggakfogcalad", sum := "3b2a8605aeec414eed090065864f5070a62a592c31714bd3a58b7e75f39fbb66", func := "loop.example/iceharvest/laws.FnWayToBack", spec := "fnWayToBack", apart := false }
def FnWayToBackSaid : Prop := fnWayToBackRow.holds Try.pinned (OpenSpec.ofChange fnWayToBackSpec)

/-- ITS FALSE NEIGHBOUR: 'it returns false'. Refute it at one input. -/
def fnWayToBackWrong : ChangeSpec := { name := "fnWayToBack", fn := fun _ => fun
  | [d] => { results := [.lit (.bool false)], args := [d] }
  | _ => none }
def FnWayToBackWrongFalsely : Prop := fnWayToBackRow.holds Try.pinned (OpenSpec.ofChange fnWayToBackWrong)

/-- 'laws.FnGrowPond': WHATEVER THE INPUT: true; the input reads as it did. -/
def fnGrowPondSpec : ChangeSpec := { name := "fnGrowPond", fn := fun _ => fun
  | [d] => { results := [.lit (.bool true)], args := [d] }
  | _ => none }
def fnGrowPondRow : OpenClaim := { program := "ytbnggakfogcalad", sum := "3b2a8605aeec414eed090065864f5070a62a592c31714bd3a58b7e75f39fbb66", func := "loop.example/iceharvest/laws.FnGrowPond", spec := "fnGrowPond", apart := false }
def FnGrowPondSaid : Prop := fnGrowPondRow.holds Try.pinned (OpenSpec.ofChange fnGrowPondSpec)

/-- ITS FALSE NEIGHBOUR: 'it returns false'. Refute it at one input. -/
def fnGrowPondWrong : ChangeSpec := { name := "fnGrowPond", fn := fun _ => fun
  | [d] => { results := [.lit (.bool false)], args := [d] }
  | _ => none }
def FnGrowPondWrongFalsely : Prop := fnGrowPondRow.holds Try.pinned (OpenSpec.ofChange fnGrowPondWrong)

/-- 'laws.FnGrowPondWays': WHATEVER THE INPUT: true; the input reads as it did. -/
def fnGrowPondWaysSpec : ChangeSpec := { name := "fnGrowPondWays", fn := fun _ => fun
  | [d] => { results := [.lit (.bool true)], args := [d] }
  | _ => none }
def fnGrowPondWaysRow : OpenClaim := { program := "ytbnggakfogcalad", sum := "3b2a8605aeec414eed090065864f5070a62a592c31714bd3a58b7e75f39fbb66", func := "loop.example/iceharvest/laws.FnGrowPondWays", spec := "fnGrowPondWays", apart := false }
def FnGrowPondWaysSaid : Prop := fnGrowPondWaysRow.holds Try.pinned (OpenSpec.ofChange fnGrowPondWaysSpec)

/-- ITS FALSE NEIGHBOUR: 'it returns false'. Refute it at one input. -/
def fnGrowPondWaysWrong : ChangeSpec := { name := "fnGrowPondWays", fn := fun _ => fun
  | [d] => { results := [.lit (.bool false)], args := [d] }
  | _ => none }
def FnGrowPondWaysWrongFalsely : Prop := fnGrowPondWaysRow.holds Try.pinned (OpenSpec.ofChange fnGrowPondWaysWrong)

/-- 'laws.FnCakesAt': WHATEVER THE INPUT: true; the input reads as it did. -/
def fnCakesAtSpec : ChangeSpec := { name := "fnCakesAt", fn := fun _ => fun
  | [d] => { results := [.lit (.bool true)], args := [d] }
  | _ => none }
def fnCakesAtRow : OpenClaim := { program := "ytbnggakfogcalad", sum := "3b2a8605aeec414eed090065864f5070a62a592c31714bd3a58b7e75f39fbb66", func := "loop.example/iceharvest/laws.FnCakesAt", spec := "fnCakesAt", apart := false }
def FnCakesAtSaid : Prop := fnCakesAtRow.holds Try.pinned (OpenSpec.ofChange fnCakesAtSpec)

/-- ITS FALSE NEIGHBOUR: 'it returns false'. Refute it at one input. -/
def fnCakesAtWrong : ChangeSpec := { name := "fnCakesAt", fn := fun _ => fun
  | [d] => { results := [.lit (.bool false)], args := [d] }
  | _ => none }
def FnCakesAtWrongFalsely : Prop := fnCakesAtRow.holds Try.pinned (OpenSpec.ofChange fnCakesAtWrong)

/-- 'laws.FnMostCakes': WHATEVER THE INPUT: true; the input reads as it did. -/
def fnMostCakesSpec : ChangeSpec := { name := "fnMostCakes", fn := fun _ => fun
  | [d] => { results := [.lit (.bool true)], args := [d] }
  | _ => none }
def fnMostCakesRow : OpenClaim := { program := "ytbnggakfogcalad", sum := "3b2a8605aeec414eed090065864f5070a62a592c31714bd3a58b7e75f39fbb66", func := "loop.example/iceharvest/laws.FnMostCakes", spec := "fnMostCakes", recurses := true, apart := false }
def FnMostCakesSaid : Prop := fnMostCakesRow.holds Try.pinned (OpenSpec.ofChange fnMostCakesSpec)

/-- ITS FALSE NEIGHBOUR: 'it returns false'. Refute it at one input. -/
def fnMostCakesWrong : ChangeSpec := { name := "fnMostCakes", fn := fun _ => fun
  | [d] => { results := [.lit (.bool false)], args := [d] }
  | _ => none }
def FnMostCakesWrongFalsely : Prop := fnMostCakesRow.holds Try.pinned (OpenSpec.ofChange fnMostCakesWrong)

/-- 'laws.FnMostCakesTurned': WHATEVER THE INPUT: true; the input reads as it did. -/
def fnMostCakesTurnedSpec : ChangeSpec := { name := "fnMostCakesTurned", fn := fun _ => fun
  | [d] => { results := [.lit (.bool true)], args := [d] }
  | _ => none }
def fnMostCakesTurnedRow : OpenClaim := { program := "ytbnggakfogcalad", sum := "3b2a8605aeec414eed090065864f5070a62a592c31714bd3a58b7e75f39fbb66", func := "loop.example/iceharvest/laws.FnMostCakesTurned", spec := "fnMostCakesTurned", recurses := true, apart := false }
def FnMostCakesTurnedSaid : Prop := fnMostCakesTurnedRow.holds Try.pinned (OpenSpec.ofChange fnMostCakesTurnedSpec)

/-- ITS FALSE NEIGHBOUR: 'it returns false'. Refute it at one input. -/
def fnMostCakesTurnedWrong : ChangeSpec := { name := "fnMostCakesTurned", fn := fun _ => fun
  | [d] => { results := [.lit (.bool false)], args := [d] }
  | _ => none }
def FnMostCakesTurnedWrongFalsely : Prop := fnMostCakesTurnedRow.holds Try.pinned (OpenSpec.ofChange fnMostCakesTurnedWrong)

/- THE SECOND FORM. 'bulk': how many values and letters a reading holds, each counted each time it is reached (what is shared counts as often as it is met; a slice's spare places count too). A statement '..UptoSaid' is the law's where the arguments, and the package variables that the reading takes, are together of bulk at most 1048576: NARROWER than '..Said'. Prove '..Said' where nothing that the law and all that it calls make is longer than what came in: it says more and counts as full. Else prove '..UptoSaid'. A law counts once. -/
mutual
def uptoBulk {H : Type} : DataW H → Nat
  | .lit (.string bytes) => bytes.length + 1
  | .lit _ => 1
  | .nil => 1
  | .ptr d => uptoBulk d + 1
  | .slice elems spare => uptoBulkAll elems + uptoBulkAll spare + 1
  | .agg parts => uptoBulkAll parts + 1
  | .iface _ d => uptoBulk d + 1
  | .map entries => uptoBulkEntries entries + 1
  | .held _ => 1
def uptoBulkAll {H : Type} : List (DataW H) → Nat
  | [] => 0
  | d :: r => uptoBulk d + uptoBulkAll r
def uptoBulkEntries {H : Type} : List (Lit × DataW H) → Nat
  | [] => 0
  | x :: r => uptoBulkEntry x + uptoBulkEntries r
def uptoBulkEntry {H : Type} : Lit × DataW H → Nat
  | (.string bytes, d) => bytes.length + uptoBulk d + 1
  | (_, d) => uptoBulk d + 1
 end
def uptoSmall : (H : Type) → List (DataW H) → Bool := fun _ ds => decide (uptoBulkAll ds ≤ 1048576)
def OpenSpec.upto (s : _root_.Go.ChangeSpec) : _root_.Go.OpenSpec := { _root_.Go.OpenSpec.ofChange s with cond := some uptoSmall }

/-- 'laws.FnFieldsOf', WHERE WHAT IT READS IS OF BULK AT MOST 1048576: true; the input reads as it did. -/
def fnFieldsOfUptoRow : OpenClaim := { program := "ytbnggakfogcalad", sum := "3b2a8605aeec414eed090065864f5070a62a592c31714bd3a58b7e75f39fbb66", func := "loop.example/iceharvest/laws.FnFieldsOf", spec := "fnFieldsOf", apart := false, narrowed := true }
def FnFieldsOfUptoSaid : Prop := fnFieldsOfUptoRow.holds Try.pinned (OpenSpec.upto fnFieldsOfSpec)

/-- 'laws.FnFieldSizes', WHERE WHAT IT READS IS OF BULK AT MOST 1048576: true; the input reads as it did. -/
def fnFieldSizesUptoRow : OpenClaim := { program := "ytbnggakfogcalad", sum := "3b2a8605aeec414eed090065864f5070a62a592c31714bd3a58b7e75f39fbb66", func := "loop.example/iceharvest/laws.FnFieldSizes", spec := "fnFieldSizes", apart := false, narrowed := true }
def FnFieldSizesUptoSaid : Prop := fnFieldSizesUptoRow.holds Try.pinned (OpenSpec.upto fnFieldSizesSpec)

/-- 'laws.FnNarrowsOf', WHERE WHAT IT READS IS OF BULK AT MOST 1048576: true; the input reads as it did. -/
def fnNarrowsOfUptoRow : OpenClaim := { program := "ytbnggakfogcalad", sum := "3b2a8605aeec414eed090065864f5070a62a592c31714bd3a58b7e75f39fbb66", func := "loop.example/iceharvest/laws.FnNarrowsOf", spec := "fnNarrowsOf", apart := false, narrowed := true }
def FnNarrowsOfUptoSaid : Prop := fnNarrowsOfUptoRow.holds Try.pinned (OpenSpec.upto fnNarrowsOfSpec)

/-- 'laws.FnNarrowsOfEnds', WHERE WHAT IT READS IS OF BULK AT MOST 1048576: true; the input reads as it did. -/
def fnNarrowsOfEndsUptoRow : OpenClaim := { program := "ytbnggakfogcalad", sum := "3b2a8605aeec414eed090065864f5070a62a592c31714bd3a58b7e75f39fbb66", func := "loop.example/iceharvest/laws.FnNarrowsOfEnds", spec := "fnNarrowsOfEnds", apart := false, narrowed := true }
def FnNarrowsOfEndsUptoSaid : Prop := fnNarrowsOfEndsUptoRow.holds Try.pinned (OpenSpec.upto fnNarrowsOfEndsSpec)

/-- 'laws.FnRisksFrom', WHERE WHAT IT READS IS OF BULK AT MOST 1048576: true; the input reads as it did. -/
def fnRisksFromUptoRow : OpenClaim := { program := "ytbnggakfogcalad", sum := "3b2a8605aeec414eed090065864f5070a62a592c31714bd3a58b7e75f39fbb66", func := "loop.example/iceharvest/laws.FnRisksFrom", spec := "fnRisksFrom", apart := false, narrowed := true }
def FnRisksFromUptoSaid : Prop := fnRisksFromUptoRow.holds Try.pinned (OpenSpec.upto fnRisksFromSpec)

/-- 'laws.FnWayTo', WHERE WHAT IT READS IS OF BULK AT MOST 1048576: true; the input reads as it did. -/
def fnWayToUptoRow : OpenClaim := { program := "ytbnggakfogcalad", sum := "3b2a8605aeec414eed090065864f5070a62a592c31714bd3a58b7e75f39fbb66", func := "loop.example/iceharvest/laws.FnWayTo", spec := "fnWayTo", apart := false, narrowed := true }
def FnWayToUptoSaid : Prop := fnWayToUptoRow.holds Try.pinned (OpenSpec.upto fnWayToSpec)

/-- 'laws.FnWayToBack', WHERE WHAT IT READS IS OF BULK AT MOST 1048576: true; the input reads as it did. -/
def fnWayToBackUptoRow : OpenClaim := { program := "ytbnggakfogcalad", sum := "3b2a8605aeec414eed090065864f5070a62a592c31714bd3a58b7e75f39fbb66", func := "loop.example/iceharvest/laws.FnWayToBack", spec := "fnWayToBack", apart := false, narrowed := true }
def FnWayToBackUptoSaid : Prop := fnWayToBackUptoRow.holds Try.pinned (OpenSpec.upto fnWayToBackSpec)

/-- 'laws.FnGrowPond', WHERE WHAT IT READS IS OF BULK AT MOST 1048576: true; the input reads as it did. -/
def fnGrowPondUptoRow : OpenClaim := { program := "ytbnggakfogcalad", sum := "3b2a8605aeec414eed090065864f5070a62a592c31714bd3a58b7e75f39fbb66", func := "loop.example/iceharvest/laws.FnGrowPond", spec := "fnGrowPond", apart := false, narrowed := true }
def FnGrowPondUptoSaid : Prop := fnGrowPondUptoRow.holds Try.pinned (OpenSpec.upto fnGrowPondSpec)

/-- 'laws.FnGrowPondWays', WHERE WHAT IT READS IS OF BULK AT MOST 1048576: true; the input reads as it did. -/
def fnGrowPondWaysUptoRow : OpenClaim := { program := "ytbnggakfogcalad", sum := "3b2a8605aeec414eed090065864f5070a62a592c31714bd3a58b7e75f39fbb66", func := "loop.example/iceharvest/laws.FnGrowPondWays", spec := "fnGrowPondWays", apart := false, narrowed := true }
def FnGrowPondWaysUptoSaid : Prop := fnGrowPondWaysUptoRow.holds Try.pinned (OpenSpec.upto fnGrowPondWaysSpec)

/-- 'laws.FnCakesAt', WHERE WHAT IT READS IS OF BULK AT MOST 1048576: true; the input reads as it did. -/
def fnCakesAtUptoRow : OpenClaim := { program := "ytbnggakfogcalad", sum := "3b2a8605aeec414eed090065864f5070a62a592c31714bd3a58b7e75f39fbb66", func := "loop.example/iceharvest/laws.FnCakesAt", spec := "fnCakesAt", apart := false, narrowed := true }
def FnCakesAtUptoSaid : Prop := fnCakesAtUptoRow.holds Try.pinned (OpenSpec.upto fnCakesAtSpec)

/-- 'laws.FnMostCakes', WHERE WHAT IT READS IS OF BULK AT MOST 1048576: true; the input reads as it did. -/
def fnMostCakesUptoRow : OpenClaim := { program := "ytbnggakfogcalad", sum := "3b2a8605aeec414eed090065864f5070a62a592c31714bd3a58b7e75f39fbb66", func := "loop.example/iceharvest/laws.FnMostCakes", spec := "fnMostCakes", recurses := true, apart := false, narrowed := true }
def FnMostCakesUptoSaid : Prop := fnMostCakesUptoRow.holds Try.pinned (OpenSpec.upto fnMostCakesSpec)

/-- 'laws.FnMostCakesTurned', WHERE WHAT IT READS IS OF BULK AT MOST 1048576: true; the input reads as it did. -/
def fnMostCakesTurnedUptoRow : OpenClaim := { program := "ytbnggakfogcalad", sum := "3b2a8605aeec414eed090065864f5070a62a592c31714bd3a58b7e75f39fbb66", func := "loop.example/iceharvest/laws.FnMostCakesTurned", spec := "fnMostCakesTurned", recurses := true, apart := false, narrowed := true }
def FnMostCakesTurnedUptoSaid : Prop := fnMostCakesTurnedUptoRow.holds Try.pinned (OpenSpec.upto fnMostCakesTurnedSpec)

end Rows
end Go.Proofs.Ytbnggakfogcalad
