/-
  No cell of these rows narrows 'for every input' (looked for: loops, veiled, ifaces, maps, wideKeys, modest, calm, conditions, laid).
  DERIVED. THE GIVEN ROWS OF THIS SEAT. 12 by the template 'for every input the law returns true; each argument reads behind the call as it read before'; 0 by the template 'total and deterministic' (their statements: YtcjcdlhmhhbkgabTotals.lean).
  GIVEN WITH THE SEED: the statements are not yours to turn. If you find one false, say at which input.
  Laid BY PROGRAM, IN A SANDBOX (cutbox-rows.mjs): the forced cells as the released guide's own fill.sh prints them over the translation a85cc399297ca819… (all of the seat's roots in one cut). By AI agents, Wed Nov 11 2026. No macro, syntax, notation, axiom, sorry.
-/
import Derived.Test.YtcjcdlhmhhbkgabChecked
import GoSem.Claim
import GoSem.ClaimJoined
import GoSem.ClaimMapViews
import Derived.JoinedTies
import Derived.KernelRfl
namespace Go.Proofs.Ytcjcdlhmhhbkgab
/- THE CELL 'sum', in the pinned program and in every row, IS THE sha256 OF THE DUMP (.gsa) THAT YtcjcdlhmhhbkgabProg.lean LOADS. Nothing in Lean hashes anything: it is a label: what it is worth is what the hold of that sum in a sandbox is worth. -/
noncomputable def Try.pinned : Pinned := { name := "ytcjcdlhmhhbkgab", sum := "a85cc399297ca819a70463e281099cf30715039da2676a2cccdfbcf8c1e4c829", checked := Try.checked }
namespace Rows
def none {H : Type} : Left H := { results := [], args := [] }

/-- 'laws.FnIdleOf': WHATEVER THE INPUT: true; the input reads as it did. -/
def fnIdleOfSpec : ChangeSpec := { name := "fnIdleOf", fn := fun _ => fun
  | [d] => { results := [.lit (.bool true)], args := [d] }
  | _ => none }
def fnIdleOfRow : OpenClaim := { program := "ytcjcdlhmhhbkgab", sum := "a85cc399297ca819a70463e281099cf30715039da2676a2cccdfbcf8c1e4c829", func := "loop.example/iceharvest/laws.FnIdleOf", spec := "fnIdleOf", apart := false }
def FnIdleOfSaid : Prop := fnIdleOfRow.holds Try.pinned (OpenSpec.ofChange fnIdleOfSpec)

/-- ITS FALSE NEIGHBOUR: 'it returns false'. Refute it at one input. -/
def fnIdleOfWrong : ChangeSpec := { name := "fnIdleOf", fn := fun _ => fun
  | [d] => { results := [.lit (.bool false)], args := [d] }
  | _ => none }
def FnIdleOfWrongFalsely : Prop := fnIdleOfRow.holds Try.pinned (OpenSpec.ofChange fnIdleOfWrong)

/-- 'laws.FnExactValidTimes': WHATEVER THE INPUT: true; the input reads as it did. -/
def fnExactValidTimesSpec : ChangeSpec := { name := "fnExactValidTimes", fn := fun _ => fun
  | [d] => { results := [.lit (.bool true)], args := [d] }
  | _ => none }
def fnExactValidTimesRow : OpenClaim := { program := "ytcjcdlhmhhbkgab", sum := "a85cc399297ca819a70463e281099cf30715039da2676a2cccdfbcf8c1e4c829", func := "loop.example/iceharvest/laws.FnExactValidTimes", spec := "fnExactValidTimes", apart := false }
def FnExactValidTimesSaid : Prop := fnExactValidTimesRow.holds Try.pinned (OpenSpec.ofChange fnExactValidTimesSpec)

/-- ITS FALSE NEIGHBOUR: 'it returns false'. Refute it at one input. -/
def fnExactValidTimesWrong : ChangeSpec := { name := "fnExactValidTimes", fn := fun _ => fun
  | [d] => { results := [.lit (.bool false)], args := [d] }
  | _ => none }
def FnExactValidTimesWrongFalsely : Prop := fnExactValidTimesRow.holds Try.pinned (OpenSpec.ofChange fnExactValidTimesWrong)

/-- 'laws.FnExactLiftTimes': WHATEVER THE INPUT: true; the input reads as it did. -/
def fnExactLiftTimesSpec : ChangeSpec := { name := "fnExactLiftTimes", fn := fun _ => fun
  | [d1, d2, d3] => { results := [.lit (.bool true)], args := [d1, d2, d3] }
  | _ => none }
def fnExactLiftTimesRow : OpenClaim := { program := "ytcjcdlhmhhbkgab", sum := "a85cc399297ca819a70463e281099cf30715039da2676a2cccdfbcf8c1e4c829", func := "loop.example/iceharvest/laws.FnExactLiftTimes", spec := "fnExactLiftTimes", apart := false }
def FnExactLiftTimesSaid : Prop := fnExactLiftTimesRow.holds Try.pinned (OpenSpec.ofChange fnExactLiftTimesSpec)

/-- ITS FALSE NEIGHBOUR: 'it returns false'. Refute it at one input. -/
def fnExactLiftTimesWrong : ChangeSpec := { name := "fnExactLiftTimes", fn := fun _ => fun
  | [d1, d2, d3] => { results := [.lit (.bool false)], args := [d1, d2, d3] }
  | _ => none }
def FnExactLiftTimesWrongFalsely : Prop := fnExactLiftTimesRow.holds Try.pinned (OpenSpec.ofChange fnExactLiftTimesWrong)

/-- 'laws.FnExactWaitsOf': WHATEVER THE INPUT: true; the input reads as it did. -/
def fnExactWaitsOfSpec : ChangeSpec := { name := "fnExactWaitsOf", fn := fun _ => fun
  | [d1, d2, d3] => { results := [.lit (.bool true)], args := [d1, d2, d3] }
  | _ => none }
def fnExactWaitsOfRow : OpenClaim := { program := "ytcjcdlhmhhbkgab", sum := "a85cc399297ca819a70463e281099cf30715039da2676a2cccdfbcf8c1e4c829", func := "loop.example/iceharvest/laws.FnExactWaitsOf", spec := "fnExactWaitsOf", apart := false }
def FnExactWaitsOfSaid : Prop := fnExactWaitsOfRow.holds Try.pinned (OpenSpec.ofChange fnExactWaitsOfSpec)

/-- ITS FALSE NEIGHBOUR: 'it returns false'. Refute it at one input. -/
def fnExactWaitsOfWrong : ChangeSpec := { name := "fnExactWaitsOf", fn := fun _ => fun
  | [d1, d2, d3] => { results := [.lit (.bool false)], args := [d1, d2, d3] }
  | _ => none }
def FnExactWaitsOfWrongFalsely : Prop := fnExactWaitsOfRow.holds Try.pinned (OpenSpec.ofChange fnExactWaitsOfWrong)

/-- 'laws.FnExactWaitingAt': WHATEVER THE INPUT: true; the input reads as it did. -/
def fnExactWaitingAtSpec : ChangeSpec := { name := "fnExactWaitingAt", fn := fun _ => fun
  | [d1, d2, d3, d4] => { results := [.lit (.bool true)], args := [d1, d2, d3, d4] }
  | _ => none }
def fnExactWaitingAtRow : OpenClaim := { program := "ytcjcdlhmhhbkgab", sum := "a85cc399297ca819a70463e281099cf30715039da2676a2cccdfbcf8c1e4c829", func := "loop.example/iceharvest/laws.FnExactWaitingAt", spec := "fnExactWaitingAt", apart := false }
def FnExactWaitingAtSaid : Prop := fnExactWaitingAtRow.holds Try.pinned (OpenSpec.ofChange fnExactWaitingAtSpec)

/-- ITS FALSE NEIGHBOUR: 'it returns false'. Refute it at one input. -/
def fnExactWaitingAtWrong : ChangeSpec := { name := "fnExactWaitingAt", fn := fun _ => fun
  | [d1, d2, d3, d4] => { results := [.lit (.bool false)], args := [d1, d2, d3, d4] }
  | _ => none }
def FnExactWaitingAtWrongFalsely : Prop := fnExactWaitingAtRow.holds Try.pinned (OpenSpec.ofChange fnExactWaitingAtWrong)

/-- 'laws.FnExactMostWaiting': WHATEVER THE INPUT: true; the input reads as it did. -/
def fnExactMostWaitingSpec : ChangeSpec := { name := "fnExactMostWaiting", fn := fun _ => fun
  | [d1, d2, d3] => { results := [.lit (.bool true)], args := [d1, d2, d3] }
  | _ => none }
def fnExactMostWaitingRow : OpenClaim := { program := "ytcjcdlhmhhbkgab", sum := "a85cc399297ca819a70463e281099cf30715039da2676a2cccdfbcf8c1e4c829", func := "loop.example/iceharvest/laws.FnExactMostWaiting", spec := "fnExactMostWaiting", apart := false }
def FnExactMostWaitingSaid : Prop := fnExactMostWaitingRow.holds Try.pinned (OpenSpec.ofChange fnExactMostWaitingSpec)

/-- ITS FALSE NEIGHBOUR: 'it returns false'. Refute it at one input. -/
def fnExactMostWaitingWrong : ChangeSpec := { name := "fnExactMostWaiting", fn := fun _ => fun
  | [d1, d2, d3] => { results := [.lit (.bool false)], args := [d1, d2, d3] }
  | _ => none }
def FnExactMostWaitingWrongFalsely : Prop := fnExactMostWaitingRow.holds Try.pinned (OpenSpec.ofChange fnExactMostWaitingWrong)

/-- 'laws.FnExactLeastLifts': WHATEVER THE INPUT: true; the input reads as it did. -/
def fnExactLeastLiftsSpec : ChangeSpec := { name := "fnExactLeastLifts", fn := fun _ => fun
  | [d1, d2, d3] => { results := [.lit (.bool true)], args := [d1, d2, d3] }
  | _ => none }
def fnExactLeastLiftsRow : OpenClaim := { program := "ytcjcdlhmhhbkgab", sum := "a85cc399297ca819a70463e281099cf30715039da2676a2cccdfbcf8c1e4c829", func := "loop.example/iceharvest/laws.FnExactLeastLifts", spec := "fnExactLeastLifts", apart := false }
def FnExactLeastLiftsSaid : Prop := fnExactLeastLiftsRow.holds Try.pinned (OpenSpec.ofChange fnExactLeastLiftsSpec)

/-- ITS FALSE NEIGHBOUR: 'it returns false'. Refute it at one input. -/
def fnExactLeastLiftsWrong : ChangeSpec := { name := "fnExactLeastLifts", fn := fun _ => fun
  | [d1, d2, d3] => { results := [.lit (.bool false)], args := [d1, d2, d3] }
  | _ => none }
def FnExactLeastLiftsWrongFalsely : Prop := fnExactLeastLiftsRow.holds Try.pinned (OpenSpec.ofChange fnExactLeastLiftsWrong)

/-- 'laws.FnExactGreatestGap': WHATEVER THE INPUT: true; the input reads as it did. -/
def fnExactGreatestGapSpec : ChangeSpec := { name := "fnExactGreatestGap", fn := fun _ => fun
  | [d1, d2, d3] => { results := [.lit (.bool true)], args := [d1, d2, d3] }
  | _ => none }
def fnExactGreatestGapRow : OpenClaim := { program := "ytcjcdlhmhhbkgab", sum := "a85cc399297ca819a70463e281099cf30715039da2676a2cccdfbcf8c1e4c829", func := "loop.example/iceharvest/laws.FnExactGreatestGap", spec := "fnExactGreatestGap", apart := false }
def FnExactGreatestGapSaid : Prop := fnExactGreatestGapRow.holds Try.pinned (OpenSpec.ofChange fnExactGreatestGapSpec)

/-- ITS FALSE NEIGHBOUR: 'it returns false'. Refute it at one input. -/
def fnExactGreatestGapWrong : ChangeSpec := { name := "fnExactGreatestGap", fn := fun _ => fun
  | [d1, d2, d3] => { results := [.lit (.bool false)], args := [d1, d2, d3] }
  | _ => none }
def FnExactGreatestGapWrongFalsely : Prop := fnExactGreatestGapRow.holds Try.pinned (OpenSpec.ofChange fnExactGreatestGapWrong)

/-- 'laws.FnExactMergeTimes': WHATEVER THE INPUT: true; the input reads as it did. -/
def fnExactMergeTimesSpec : ChangeSpec := { name := "fnExactMergeTimes", fn := fun _ => fun
  | [d1, d2] => { results := [.lit (.bool true)], args := [d1, d2] }
  | _ => none }
def fnExactMergeTimesRow : OpenClaim := { program := "ytcjcdlhmhhbkgab", sum := "a85cc399297ca819a70463e281099cf30715039da2676a2cccdfbcf8c1e4c829", func := "loop.example/iceharvest/laws.FnExactMergeTimes", spec := "fnExactMergeTimes", apart := false }
def FnExactMergeTimesSaid : Prop := fnExactMergeTimesRow.holds Try.pinned (OpenSpec.ofChange fnExactMergeTimesSpec)

/-- ITS FALSE NEIGHBOUR: 'it returns false'. Refute it at one input. -/
def fnExactMergeTimesWrong : ChangeSpec := { name := "fnExactMergeTimes", fn := fun _ => fun
  | [d1, d2] => { results := [.lit (.bool false)], args := [d1, d2] }
  | _ => none }
def FnExactMergeTimesWrongFalsely : Prop := fnExactMergeTimesRow.holds Try.pinned (OpenSpec.ofChange fnExactMergeTimesWrong)

/-- 'laws.FnExactEveryOf': WHATEVER THE INPUT: true; the input reads as it did. -/
def fnExactEveryOfSpec : ChangeSpec := { name := "fnExactEveryOf", fn := fun _ => fun
  | [d1, d2, d3] => { results := [.lit (.bool true)], args := [d1, d2, d3] }
  | _ => none }
def fnExactEveryOfRow : OpenClaim := { program := "ytcjcdlhmhhbkgab", sum := "a85cc399297ca819a70463e281099cf30715039da2676a2cccdfbcf8c1e4c829", func := "loop.example/iceharvest/laws.FnExactEveryOf", spec := "fnExactEveryOf", apart := false }
def FnExactEveryOfSaid : Prop := fnExactEveryOfRow.holds Try.pinned (OpenSpec.ofChange fnExactEveryOfSpec)

/-- ITS FALSE NEIGHBOUR: 'it returns false'. Refute it at one input. -/
def fnExactEveryOfWrong : ChangeSpec := { name := "fnExactEveryOf", fn := fun _ => fun
  | [d1, d2, d3] => { results := [.lit (.bool false)], args := [d1, d2, d3] }
  | _ => none }
def FnExactEveryOfWrongFalsely : Prop := fnExactEveryOfRow.holds Try.pinned (OpenSpec.ofChange fnExactEveryOfWrong)

/-- 'laws.FnExactIdleOf': WHATEVER THE INPUT: true; the input reads as it did. -/
def fnExactIdleOfSpec : ChangeSpec := { name := "fnExactIdleOf", fn := fun _ => fun
  | [d1, d2] => { results := [.lit (.bool true)], args := [d1, d2] }
  | _ => none }
def fnExactIdleOfRow : OpenClaim := { program := "ytcjcdlhmhhbkgab", sum := "a85cc399297ca819a70463e281099cf30715039da2676a2cccdfbcf8c1e4c829", func := "loop.example/iceharvest/laws.FnExactIdleOf", spec := "fnExactIdleOf", apart := false }
def FnExactIdleOfSaid : Prop := fnExactIdleOfRow.holds Try.pinned (OpenSpec.ofChange fnExactIdleOfSpec)

/-- ITS FALSE NEIGHBOUR: 'it returns false'. Refute it at one input. -/
def fnExactIdleOfWrong : ChangeSpec := { name := "fnExactIdleOf", fn := fun _ => fun
  | [d1, d2] => { results := [.lit (.bool false)], args := [d1, d2] }
  | _ => none }
def FnExactIdleOfWrongFalsely : Prop := fnExactIdleOfRow.holds Try.pinned (OpenSpec.ofChange fnExactIdleOfWrong)

/-- 'laws.FnExactFloatOrder': WHATEVER THE INPUT: true; the input reads as it did. -/
def fnExactFloatOrderSpec : ChangeSpec := { name := "fnExactFloatOrder", fn := fun _ => fun
  | [d1, d2, d3] => { results := [.lit (.bool true)], args := [d1, d2, d3] }
  | _ => none }
def fnExactFloatOrderRow : OpenClaim := { program := "ytcjcdlhmhhbkgab", sum := "a85cc399297ca819a70463e281099cf30715039da2676a2cccdfbcf8c1e4c829", func := "loop.example/iceharvest/laws.FnExactFloatOrder", spec := "fnExactFloatOrder", apart := false }
def FnExactFloatOrderSaid : Prop := fnExactFloatOrderRow.holds Try.pinned (OpenSpec.ofChange fnExactFloatOrderSpec)

/-- ITS FALSE NEIGHBOUR: 'it returns false'. Refute it at one input. -/
def fnExactFloatOrderWrong : ChangeSpec := { name := "fnExactFloatOrder", fn := fun _ => fun
  | [d1, d2, d3] => { results := [.lit (.bool false)], args := [d1, d2, d3] }
  | _ => none }
def FnExactFloatOrderWrongFalsely : Prop := fnExactFloatOrderRow.holds Try.pinned (OpenSpec.ofChange fnExactFloatOrderWrong)

/- THE SECOND FORM. 'bulk': how many values and letters a reading holds, each counted each time it is reached (what is shared counts as often as it is met; a slice's spare places count too). A statement '..UptoSaid' is the law's where the arguments, and the package variables that the reading takes, are together of bulk at most 1048576: NARROWER than '..Said'. Prove '..Said' where nothing that the law and all that it calls make is longer than what came in: it says more and counts as full. Else prove '..UptoSaid'. A law counts once. -/
mutual
def uptoBulk {H : Type} : DataW H → Nat
  | .lit (.string bytes) => bytes.length + 1
  | .lit _ => 1
  | .nil => 1
  | .ptr d => uptoBulk d + 1
  | .slice elems spare => uptoBulkAll elems + uptoBulkAll spare + 1
  | .agg parts => uptoBulkAll parts + 1
  | .iface _ d => uptoBulk d + 1
  | .map entries => uptoBulkEntries entries + 1
  | .held _ => 1
def uptoBulkAll {H : Type} : List (DataW H) → Nat
  | [] => 0
  | d :: r => uptoBulk d + uptoBulkAll r
def uptoBulkEntries {H : Type} : List (Lit × DataW H) → Nat
  | [] => 0
  | x :: r => uptoBulkEntry x + uptoBulkEntries r
def uptoBulkEntry {H : Type} : Lit × DataW H → Nat
  | (.string bytes, d) => bytes.length + uptoBulk d + 1
  | (_, d) => uptoBulk d + 1
 end
def uptoSmall : (H : Type) → List (DataW H) → Bool := fun _ ds => decide (uptoBulkAll ds ≤ 1048576)
def OpenSpec.upto (s : _root_.Go.ChangeSpec) : _root_.Go.OpenSpec := { _root_.Go.OpenSpec.ofChange s with cond := some uptoSmall }

/-- 'laws.FnIdleOf', WHERE WHAT IT READS IS OF BULK AT MOST 1048576: true; the input reads as it did. -/
def fnIdleOfUptoRow : OpenClaim := { program := "ytcjcdlhmhhbkgab", sum := "a85cc399297ca819a70463e281099cf30715039da2676a2cccdfbcf8c1e4c829", func := "loop.example/iceharvest/laws.FnIdleOf", spec := "fnIdleOf", apart := false, narrowed := true }
def FnIdleOfUptoSaid : Prop := fnIdleOfUptoRow.holds Try.pinned (OpenSpec.upto fnIdleOfSpec)

/-- 'laws.FnExactValidTimes', WHERE WHAT IT READS IS OF BULK AT MOST 1048576: true; the input reads as it did. -/
def fnExactValidTimesUptoRow : OpenClaim := { program := "ytcjcdlhmhhbkgab", sum := "a85cc399297ca819a70463e281099cf30715039da2676a2cccdfbcf8c1e4c829", func := "loop.example/iceharvest/laws.FnExactValidTimes", spec := "fnExactValidTimes", apart := false, narrowed := true }
def FnExactValidTimesUptoSaid : Prop := fnExactValidTimesUptoRow.holds Try.pinned (OpenSpec.upto fnExactValidTimesSpec)

/-- 'laws.FnExactLiftTimes', WHERE WHAT IT READS IS OF BULK AT MOST 1048576: true; the input reads as it did. -/
def fnExactLiftTimesUptoRow : OpenClaim := { program := "ytcjcdlhmhhbkgab", sum := "a85cc399297ca819a70463e281099cf30715039da2676a2cccdfbcf8c1e4c829", func := "loop.example/iceharvest/laws.FnExactLiftTimes", spec := "fnExactLiftTimes", apart := false, narrowed := true }
def FnExactLiftTimesUptoSaid : Prop := fnExactLiftTimesUptoRow.holds Try.pinned (OpenSpec.upto fnExactLiftTimesSpec)

/-- 'laws.FnExactWaitsOf', WHERE WHAT IT READS IS OF BULK AT MOST 1048576: true; the input reads as it did. -/
def fnExactWaitsOfUptoRow : OpenClaim := { program := "ytcjcdlhmhhbkgab", sum := "a85cc399297ca819a70463e281099cf30715039da2676a2cccdfbcf8c1e4c829", func := "loop.example/iceharvest/laws.FnExactWaitsOf", spec := "fnExactWaitsOf", apart := false, narrowed := true }
def FnExactWaitsOfUptoSaid : Prop := fnExactWaitsOfUptoRow.holds Try.pinned (OpenSpec.upto fnExactWaitsOfSpec)

/-- 'laws.FnExactWaitingAt', WHERE WHAT IT READS IS OF BULK AT MOST 1048576: true; the input reads as it did. -/
def fnExactWaitingAtUptoRow : OpenClaim := { program := "ytcjcdlhmhhbkgab", sum := "a85cc399297ca819a70463e281099cf30715039da2676a2cccdfbcf8c1e4c829", func := "loop.example/iceharvest/laws.FnExactWaitingAt", spec := "fnExactWaitingAt", apart := false, narrowed := true }
def FnExactWaitingAtUptoSaid : Prop := fnExactWaitingAtUptoRow.holds Try.pinned (OpenSpec.upto fnExactWaitingAtSpec)

/-- 'laws.FnExactMostWaiting', WHERE WHAT IT READS IS OF BULK AT MOST 1048576: true; the input reads as it did. -/
def fnExactMostWaitingUptoRow : OpenClaim := { program := "ytcjcdlhmhhbkgab", sum := "a85cc399297ca819a70463e281099cf30715039da2676a2cccdfbcf8c1e4c829", func := "loop.example/iceharvest/laws.FnExactMostWaiting", spec := "fnExactMostWaiting", apart := false, narrowed := true }
def FnExactMostWaitingUptoSaid : Prop := fnExactMostWaitingUptoRow.holds Try.pinned (OpenSpec.upto fnExactMostWaitingSpec)

/-- 'laws.FnExactLeastLifts', WHERE WHAT IT READS IS OF BULK AT MOST 1048576: true; the input reads as it did. -/
def fnExactLeastLiftsUptoRow : OpenClaim := { program := "ytcjcdlhmhhbkgab", sum := "a85cc399297ca819a70463e281099cf30715039da2676a2cccdfbcf8c1e4c829", func := "loop.example/iceharvest/laws.FnExactLeastLifts", spec := "fnExactLeastLifts", apart := false, narrowed := true }
def FnExactLeastLiftsUptoSaid : Prop := fnExactLeastLiftsUptoRow.holds Try.pinned (OpenSpec.upto fnExactLeastLiftsSpec)

/-- 'laws.FnExactGreatestGap', WHERE WHAT IT READS IS OF BULK AT MOST 1048576: true; the input reads as it did. -/
def fnExactGreatestGapUptoRow : OpenClaim := { program := "ytcjcdlhmhhbkgab", sum := "a85cc399297ca819a70463e281099cf30715039da2676a2cccdfbcf8c1e4c829", func := "loop.example/iceharvest/laws.FnExactGreatestGap", spec := "fnExactGreatestGap", apart := false, narrowed := true }
def FnExactGreatestGapUptoSaid : Prop := fnExactGreatestGapUptoRow.holds Try.pinned (OpenSpec.upto fnExactGreatestGapSpec)

/-- 'laws.FnExactMergeTimes', WHERE WHAT IT READS IS OF BULK AT MOST 1048576: true; the input reads as it did. -/
def fnExactMergeTimesUptoRow : OpenClaim := { program := "ytcjcdlhmhhbkgab", sum := "a85cc399297ca819a70463e281099cf30715039da2676a2cccdfbcf8c1e4c829", func := "loop.example/iceharvest/laws.FnExactMergeTimes", spec := "fnExactMergeTimes", apart := false, narrowed := true }
def FnExactMergeTimesUptoSaid : Prop := fnExactMergeTimesUptoRow.holds Try.pinned (OpenSpec.upto fnExactMergeTimesSpec)

/-- 'laws.FnExactEveryOf', WHERE WHAT IT READS IS OF BULK AT MOST 1048576: true; the input reads as it did. -/
def fnExactEveryOfUptoRow : OpenClaim := { program := "ytcjcdlhmhhbkgab", sum := "a85cc399297ca819a70463e281099cf30715039da2676a2cccdfbcf8c1e4c829", func := "loop.example/iceharvest/laws.FnExactEveryOf", spec := "fnExactEveryOf", apart := false, narrowed := true }
def FnExactEveryOfUptoSaid : Prop := fnExactEveryOfUptoRow.holds Try.pinned (OpenSpec.upto fnExactEveryOfSpec)

/-- 'laws.FnExactIdleOf', WHERE WHAT IT READS IS OF BULK AT MOST 1048576: true; the input reads as it did. -/
def fnExactIdleOfUptoRow : OpenClaim := { program := "ytcjcdlhmhhbkgab", sum := "a85cc399297ca819a70463e281099cf30715039da2676a2cccdfbcf8c1e4c829", func := "loop.example/iceharvest/laws.FnExactIdleOf", spec := "fnExactIdleOf", apart := false, narrowed := true }
def FnExactIdleOfUptoSaid : Prop := fnExactIdleOfUptoRow.holds Try.pinned (OpenSpec.upto fnExactIdleOfSpec)

/-- 'laws.FnExactFloatOrder', WHERE WHAT IT READS IS OF BULK AT MOST 1048576: true; the input reads as it did. -/
def fnExactFloatOrderUptoRow : OpenClaim := { program := "ytcjcdlhmhhbkgab", sum := "a85cc399297ca819a70463e281099cf30715039da2676a2cccdfbcf8c1e4c829", func := "loop.example/iceharvest/laws.FnExactFloatOrder", spec := "fnExactFloatOrder", apart := false, narrowed := true }
def FnExactFloatOrderUptoSaid : Prop := fnExactFloatOrderUptoRow.holds Try.pinned (OpenSpec.upto fnExactFloatOrderSpec)

end Rows
end Go.Proofs.Ytcjcdlhmhhbkgab
