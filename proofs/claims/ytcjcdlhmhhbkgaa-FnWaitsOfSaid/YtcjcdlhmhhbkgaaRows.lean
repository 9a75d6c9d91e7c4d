/-
  No cell of these rows narrows 'for every input' (looked for: loops, veiled, ifaces, maps, wideKeys, modest, calm, conditions, laid).
  DERIVED. THE GIVEN ROWS OF THIS SEAT. 12 by the template 'for every input the law returns true; each argument reads behind the call as it read before'; 0 by the template 'total and deterministic' (their statements: YtcjcdlhmhhbkgaaTotals.lean).
  GIVEN WITH THE SEED: the statements are not yours to turn. If you find one false, say at which input.
  Laid BY PROGRAM, IN A SANDBOX (cutbox-rows.mjs): the forced cells as the released guide's own fill.sh prints them over the translation 7d84cd2eeb6e0e98… (all of the seat's roots in one cut). By AI agents, Wed Nov 11 2026. No macro, syntax, notation, axiom, sorry.
-/
import Derived.Test.YtcjcdlhmhhbkgaaChecked
import GoSem.Claim
import GoSem.ClaimJoined
import GoSem.ClaimMapViews
import Derived.JoinedTies
import Derived.KernelRfl
namespace Go.Proofs.Ytcjcdlhmhhbkgaa
/- THE CELL 'sum', in the pinned program and in every row, IS THE sha256 OF THE DUMP (.gsa) THAT YtcjcdlhmhhbkgaaProg.lean LOADS. Nothing in Lean hashes anything: it is a label: what it is worth is what the hold of that sum in a sandbox is worth. -/
noncomputable def Try.pinned : Pinned := { name := "ytcjcdlhmhhbkgaa", sum := "7d84cd2eeb6e0e98bbd0a541cce788613f2ce928a5c196bd2d5a279e4616ce31", checked := Try.checked }
namespace Rows
def none {H : Type} : Left H := { results := [], args := [] }

/-- 'laws.FnValidTimes': WHATEVER THE INPUT: true; the input reads as it did. -/
def fnValidTimesSpec : ChangeSpec := { name := "fnValidTimes", fn := fun _ => fun
  | [d] => { results := [.lit (.bool true)], args := [d] }
  | _ => none }
def fnValidTimesRow : OpenClaim := { program := "ytcjcdlhmhhbkgaa", sum := "7d84cd2eeb6e0e98bbd0a541cce788613f2ce928a5c196bd2d5a279e4616ce31", func := "loop.example/iceharvest/laws.FnValidTimes", spec := "fnValidTimes", apart := false }
def FnValidTimesSaid : Prop := fnValidTimesRow.holds Try.pinned (OpenSpec.ofChange fnValidTimesSpec)

/-- ITS FALSE NEIGHBOUR: 'it returns false'. Refute it at one input. -/
def fnValidTimesWrong : ChangeSpec := { name := "fnValidTimes", fn := fun _ => fun
  | [d] => { results := [.lit (.bool false)], args := [d] }
  | _ => none }
def FnValidTimesWrongFalsely : Prop := fnValidTimesRow.holds Try.pinned (OpenSpec.ofChange fnValidTimesWrong)

/-- 'laws.FnLiftTimes': WHATEVER THE INPUT: true; the input reads as it did. -/
def fnLiftTimesSpec : ChangeSpec := { name := "fnLiftTimes", fn := fun _ => fun
  | [d] => { results := [.lit (.bool true)], args := [d] }
  | _ => none }
def fnLiftTimesRow : OpenClaim := { program := "ytcjcdlhmhhbkgaa", sum := "7d84cd2eeb6e0e98bbd0a541cce788613f2ce928a5c196bd2d5a279e4616ce31", func := "loop.example/iceharvest/laws.FnLiftTimes", spec := "fnLiftTimes", apart := false }
def FnLiftTimesSaid : Prop := fnLiftTimesRow.holds Try.pinned (OpenSpec.ofChange fnLiftTimesSpec)

/-- ITS FALSE NEIGHBOUR: 'it returns false'. Refute it at one input. -/
def fnLiftTimesWrong : ChangeSpec := { name := "fnLiftTimes", fn := fun _ => fun
  | [d] => { results := [.lit (.bool false)], args := [d] }
  | _ => none }
def FnLiftTimesWrongFalsely : Prop := fnLiftTimesRow.holds Try.pinned (OpenSpec.ofChange fnLiftTimesWrong)

/-- 'laws.FnLiftTimesEvery': WHATEVER THE INPUT: true; the input reads as it did. -/
def fnLiftTimesEverySpec : ChangeSpec := { name := "fnLiftTimesEvery", fn := fun _ => fun
  | [d] => { results := [.lit (.bool true)], args := [d] }
  | _ => none }
def fnLiftTimesEveryRow : OpenClaim := { program := "ytcjcdlhmhhbkgaa", sum := "7d84cd2eeb6e0e98bbd0a541cce788613f2ce928a5c196bd2d5a279e4616ce31", func := "loop.example/iceharvest/laws.FnLiftTimesEvery", spec := "fnLiftTimesEvery", apart := false }
def FnLiftTimesEverySaid : Prop := fnLiftTimesEveryRow.holds Try.pinned (OpenSpec.ofChange fnLiftTimesEverySpec)

/-- ITS FALSE NEIGHBOUR: 'it returns false'. Refute it at one input. -/
def fnLiftTimesEveryWrong : ChangeSpec := { name := "fnLiftTimesEvery", fn := fun _ => fun
  | [d] => { results := [.lit (.bool false)], args := [d] }
  | _ => none }
def FnLiftTimesEveryWrongFalsely : Prop := fnLiftTimesEveryRow.holds Try.pinned (OpenSpec.ofChange fnLiftTimesEveryWrong)

/-- 'laws.FnLiftTimesSum': WHATEVER THE INPUT: true; the input reads as it did. -/
def fnLiftTimesSumSpec : ChangeSpec := { name := "fnLiftTimesSum", fn := fun _ => fun
  | [d] => { results := [.lit (.bool true)], args := [d] }
  | _ => none }
def fnLiftTimesSumRow : OpenClaim := { program := "ytcjcdlhmhhbkgaa", sum := "7d84cd2eeb6e0e98bbd0a541cce788613f2ce928a5c196bd2d5a279e4616ce31", func := "loop.example/iceharvest/laws.FnLiftTimesSum", spec := "fnLiftTimesSum", apart := false }
def FnLiftTimesSumSaid : Prop := fnLiftTimesSumRow.holds Try.pinned (OpenSpec.ofChange fnLiftTimesSumSpec)

/-- ITS FALSE NEIGHBOUR: 'it returns false'. Refute it at one input. -/
def fnLiftTimesSumWrong : ChangeSpec := { name := "fnLiftTimesSum", fn := fun _ => fun
  | [d] => { results := [.lit (.bool false)], args := [d] }
  | _ => none }
def FnLiftTimesSumWrongFalsely : Prop := fnLiftTimesSumRow.holds Try.pinned (OpenSpec.ofChange fnLiftTimesSumWrong)

/-- 'laws.FnWaitsOf': WHATEVER THE INPUT: true; the input reads as it did. -/
def fnWaitsOfSpec : ChangeSpec := { name := "fnWaitsOf", fn := fun _ => fun
  | [d] => { results := [.lit (.bool true)], args := [d] }
  | _ => none }
def fnWaitsOfRow : OpenClaim := { program := "ytcjcdlhmhhbkgaa", sum := "7d84cd2eeb6e0e98bbd0a541cce788613f2ce928a5c196bd2d5a279e4616ce31", func := "loop.example/iceharvest/laws.FnWaitsOf", spec := "fnWaitsOf", apart := false }
def FnWaitsOfSaid : Prop := fnWaitsOfRow.holds Try.pinned (OpenSpec.ofChange fnWaitsOfSpec)

/-- ITS FALSE NEIGHBOUR: 'it returns false'. Refute it at one input. -/
def fnWaitsOfWrong : ChangeSpec := { name := "fnWaitsOf", fn := fun _ => fun
  | [d] => { results := [.lit (.bool false)], args := [d] }
  | _ => none }
def FnWaitsOfWrongFalsely : Prop := fnWaitsOfRow.holds Try.pinned (OpenSpec.ofChange fnWaitsOfWrong)

/-- 'laws.FnWaitingAt': WHATEVER THE INPUT: true; the input reads as it did. -/
def fnWaitingAtSpec : ChangeSpec := { name := "fnWaitingAt", fn := fun _ => fun
  | [d] => { results := [.lit (.bool true)], args := [d] }
  | _ => none }
def fnWaitingAtRow : OpenClaim := { program := "ytcjcdlhmhhbkgaa", sum := "7d84cd2eeb6e0e98bbd0a541cce788613f2ce928a5c196bd2d5a279e4616ce31", func := "loop.example/iceharvest/laws.FnWaitingAt", spec := "fnWaitingAt", apart := false }
def FnWaitingAtSaid : Prop := fnWaitingAtRow.holds Try.pinned (OpenSpec.ofChange fnWaitingAtSpec)

/-- ITS FALSE NEIGHBOUR: 'it returns false'. Refute it at one input. -/
def fnWaitingAtWrong : ChangeSpec := { name := "fnWaitingAt", fn := fun _ => fun
  | [d] => { results := [.lit (.bool false)], args := [d] }
  | _ => none }
def FnWaitingAtWrongFalsely : Prop := fnWaitingAtRow.holds Try.pinned (OpenSpec.ofChange fnWaitingAtWrong)

/-- 'laws.FnMostWaiting': WHATEVER THE INPUT: true; the input reads as it did. -/
def fnMostWaitingSpec : ChangeSpec := { name := "fnMostWaiting", fn := fun _ => fun
  | [d] => { results := [.lit (.bool true)], args := [d] }
  | _ => none }
def fnMostWaitingRow : OpenClaim := { program := "ytcjcdlhmhhbkgaa", sum := "7d84cd2eeb6e0e98bbd0a541cce788613f2ce928a5c196bd2d5a279e4616ce31", func := "loop.example/iceharvest/laws.FnMostWaiting", spec := "fnMostWaiting", apart := false }
def FnMostWaitingSaid : Prop := fnMostWaitingRow.holds Try.pinned (OpenSpec.ofChange fnMostWaitingSpec)

/-- ITS FALSE NEIGHBOUR: 'it returns false'. Refute it at one input. -/
def fnMostWaitingWrong : ChangeSpec := { name := "fnMostWaiting", fn := fun _ => fun
  | [d] => { results := [.lit (.bool false)], args := [d] }
  | _ => none }
def FnMostWaitingWrongFalsely : Prop := fnMostWaitingRow.holds Try.pinned (OpenSpec.ofChange fnMostWaitingWrong)

/-- 'laws.FnLeastLifts': WHATEVER THE INPUT: true; the input reads as it did. -/
def fnLeastLiftsSpec : ChangeSpec := { name := "fnLeastLifts", fn := fun _ => fun
  | [d] => { results := [.lit (.bool true)], args := [d] }
  | _ => none }
def fnLeastLiftsRow : OpenClaim := { program := "ytcjcdlhmhhbkgaa", sum := "7d84cd2eeb6e0e98bbd0a541cce788613f2ce928a5c196bd2d5a279e4616ce31", func := "loop.example/iceharvest/laws.FnLeastLifts", spec := "fnLeastLifts", apart := false }
def FnLeastLiftsSaid : Prop := fnLeastLiftsRow.holds Try.pinned (OpenSpec.ofChange fnLeastLiftsSpec)

/-- ITS FALSE NEIGHBOUR: 'it returns false'. Refute it at one input. -/
def fnLeastLiftsWrong : ChangeSpec := { name := "fnLeastLifts", fn := fun _ => fun
  | [d] => { results := [.lit (.bool false)], args := [d] }
  | _ => none }
def FnLeastLiftsWrongFalsely : Prop := fnLeastLiftsRow.holds Try.pinned (OpenSpec.ofChange fnLeastLiftsWrong)

/-- 'laws.FnGreatestGap': WHATEVER THE INPUT: true; the input reads as it did. -/
def fnGreatestGapSpec : ChangeSpec := { name := "fnGreatestGap", fn := fun _ => fun
  | [d] => { results := [.lit (.bool true)], args := [d] }
  | _ => none }
def fnGreatestGapRow : OpenClaim := { program := "ytcjcdlhmhhbkgaa", sum := "7d84cd2eeb6e0e98bbd0a541cce788613f2ce928a5c196bd2d5a279e4616ce31", func := "loop.example/iceharvest/laws.FnGreatestGap", spec := "fnGreatestGap", apart := false }
def FnGreatestGapSaid : Prop := fnGreatestGapRow.holds Try.pinned (OpenSpec.ofChange fnGreatestGapSpec)

/-- ITS FALSE NEIGHBOUR: 'it returns false'. Refute it at one input. -/
def fnGreatestGapWrong : ChangeSpec := { name := "fnGreatestGap", fn := fun _ => fun
  | [d] => { results := [.lit (.bool false)], args := [d] }
  | _ => none }
def FnGreatestGapWrongFalsely : Prop := fnGreatestGapRow.holds Try.pinned (OpenSpec.ofChange fnGreatestGapWrong)

/-- 'laws.FnMergeTimes': WHATEVER THE INPUT: true; the input reads as it did. -/
def fnMergeTimesSpec : ChangeSpec := { name := "fnMergeTimes", fn := fun _ => fun
  | [d] => { results := [.lit (.bool true)], args := [d] }
  | _ => none }
def fnMergeTimesRow : OpenClaim := { program := "ytcjcdlhmhhbkgaa", sum := "7d84cd2eeb6e0e98bbd0a541cce788613f2ce928a5c196bd2d5a279e4616ce31", func := "loop.example/iceharvest/laws.FnMergeTimes", spec := "fnMergeTimes", apart := false }
def FnMergeTimesSaid : Prop := fnMergeTimesRow.holds Try.pinned (OpenSpec.ofChange fnMergeTimesSpec)

/-- ITS FALSE NEIGHBOUR: 'it returns false'. Refute it at one input. -/
def fnMergeTimesWrong : ChangeSpec := { name := "fnMergeTimes", fn := fun _ => fun
  | [d] => { results := [.lit (.bool false)], args := [d] }
  | _ => none }
def FnMergeTimesWrongFalsely : Prop := fnMergeTimesRow.holds Try.pinned (OpenSpec.ofChange fnMergeTimesWrong)

/-- 'laws.FnMergeTimesLifts': WHATEVER THE INPUT: true; the input reads as it did. -/
def fnMergeTimesLiftsSpec : ChangeSpec := { name := "fnMergeTimesLifts", fn := fun _ => fun
  | [d] => { results := [.lit (.bool true)], args := [d] }
  | _ => none }
def fnMergeTimesLiftsRow : OpenClaim := { program := "ytcjcdlhmhhbkgaa", sum := "7d84cd2eeb6e0e98bbd0a541cce788613f2ce928a5c196bd2d5a279e4616ce31", func := "loop.example/iceharvest/laws.FnMergeTimesLifts", spec := "fnMergeTimesLifts", apart := false }
def FnMergeTimesLiftsSaid : Prop := fnMergeTimesLiftsRow.holds Try.pinned (OpenSpec.ofChange fnMergeTimesLiftsSpec)

/-- ITS FALSE NEIGHBOUR: 'it returns false'. Refute it at one input. -/
def fnMergeTimesLiftsWrong : ChangeSpec := { name := "fnMergeTimesLifts", fn := fun _ => fun
  | [d] => { results := [.lit (.bool false)], args := [d] }
  | _ => none }
def FnMergeTimesLiftsWrongFalsely : Prop := fnMergeTimesLiftsRow.holds Try.pinned (OpenSpec.ofChange fnMergeTimesLiftsWrong)

/-- 'laws.FnEveryOf': WHATEVER THE INPUT: true; the input reads as it did. -/
def fnEveryOfSpec : ChangeSpec := { name := "fnEveryOf", fn := fun _ => fun
  | [d] => { results := [.lit (.bool true)], args := [d] }
  | _ => none }
def fnEveryOfRow : OpenClaim := { program := "ytcjcdlhmhhbkgaa", sum := "7d84cd2eeb6e0e98bbd0a541cce788613f2ce928a5c196bd2d5a279e4616ce31", func := "loop.example/iceharvest/laws.FnEveryOf", spec := "fnEveryOf", apart := false }
def FnEveryOfSaid : Prop := fnEveryOfRow.holds Try.pinned (OpenSpec.ofChange fnEveryOfSpec)

/-- ITS FALSE NEIGHBOUR: 'it returns false'. Refute it at one input. -/
def fnEveryOfWrong : ChangeSpec := { name := "fnEveryOf", fn := fun _ => fun
  | [d] => { results := [.lit (.bool false)], args := [d] }
  | _ => none }
def FnEveryOfWrongFalsely : Prop := fnEveryOfRow.holds Try.pinned (OpenSpec.ofChange fnEveryOfWrong)

/- THE SECOND FORM. 'bulk': how many values and letters a reading holds, each counted each time it is reached (what is shared counts as often as it is met; a slice's spare places count too). A statement '..UptoSaid' is the law's where the arguments, and the package variables that the reading takes, are together of bulk at most 1048576: NARROWER than '..Said'. Prove '..Said' where nothing that the law and all that it calls make is longer than what came in: it says more and counts as full. Else prove '..UptoSaid'. A law counts once. -/
mutual
def uptoBulk {H : Type} : DataW H → Nat
  | .lit (.string bytes) => bytes.length + 1
  | .lit _ => 1
  | .nil => 1
  | .ptr d => uptoBulk d + 1
  | .slice elems spare => uptoBulkAll elems + uptoBulkAll spare + 1
  | .agg parts => uptoBulkAll parts + 1
  | .iface _ d => uptoBulk d + 1
  | .map entries => uptoBulkEntries entries + 1
  | .held _ => 1
def uptoBulkAll {H : Type} : List (DataW H) → Nat
  | [] => 0
  | d :: r => uptoBulk d + uptoBulkAll r
def uptoBulkEntries {H : Type} : List (Lit × DataW H) → Nat
  | [] => 0
  | x :: r => uptoBulkEntry x + uptoBulkEntries r
def uptoBulkEntry {H : Type} : Lit × DataW H → Nat
  | (.string bytes, d) => bytes.length + uptoBulk d + 1
  | (_, d) => uptoBulk d + 1
 end
def uptoSmall : (H : Type) → List (DataW H) → Bool := fun _ ds => decide (uptoBulkAll ds ≤ 1048576)
def OpenSpec.upto (s : _root_.Go.ChangeSpec) : _root_.Go.OpenSpec := { _root_.Go.OpenSpec.ofChange s with cond := some uptoSmall }

/-- 'laws.FnValidTimes', WHERE WHAT IT READS IS OF BULK AT MOST 1048576: true; the input reads as it did. -/
def fnValidTimesUptoRow : OpenClaim := { program := "ytcjcdlhmhhbkgaa", sum := "7d84cd2eeb6e0e98bbd0a541cce788613f2ce928a5c196bd2d5a279e4616ce31", func := "loop.example/iceharvest/laws.FnValidTimes", spec := "fnValidTimes", apart := false, narrowed := true }
def FnValidTimesUptoSaid : Prop := fnValidTimesUptoRow.holds Try.pinned (OpenSpec.upto fnValidTimesSpec)

/-- 'laws.FnLiftTimes', WHERE WHAT IT READS IS OF BULK AT MOST 1048576: true; the input reads as it did. -/
def fnLiftTimesUptoRow : OpenClaim := { program := "ytcjcdlhmhhbkgaa", sum := "7d84cd2eeb6e0e98bbd0a541cce788613f2ce928a5c196bd2d5a279e4616ce31", func := "loop.example/iceharvest/laws.FnLiftTimes", spec := "fnLiftTimes", apart := false, narrowed := true }
def FnLiftTimesUptoSaid : Prop := fnLiftTimesUptoRow.holds Try.pinned (OpenSpec.upto fnLiftTimesSpec)

/-- 'laws.FnLiftTimesEvery', WHERE WHAT IT READS IS OF BULK AT MOST 1048576: true; the input reads as it did. -/
def fnLiftTimesEveryUptoRow : OpenClaim := { program := "ytcjcdlhmhhbkgaa", sum := "7d84cd2eeb6e0e98bbd0a541cce788613f2ce928a5c196bd2d5a279e4616ce31", func := "loop.example/iceharvest/laws.FnLiftTimesEvery", spec := "fnLiftTimesEvery", apart := false, narrowed := true }
def FnLiftTimesEveryUptoSaid : Prop := fnLiftTimesEveryUptoRow.holds Try.pinned (OpenSpec.upto fnLiftTimesEverySpec)

/-- 'laws.FnLiftTimesSum', WHERE WHAT IT READS IS OF BULK AT MOST 1048576: true; the input reads as it did. -/
def fnLiftTimesSumUptoRow : OpenClaim := { program := "ytcjcdlhmhhbkgaa", sum := "7d84cd2eeb6e0e98bbd0a541cce788613f2ce928a5c196bd2d5a279e4616ce31", func := "loop.example/iceharvest/laws.FnLiftTimesSum", spec := "fnLiftTimesSum", apart := false, narrowed := true }
def FnLiftTimesSumUptoSaid : Prop := fnLiftTimesSumUptoRow.holds Try.pinned (OpenSpec.upto fnLiftTimesSumSpec)

/-- 'laws.FnWaitsOf', WHERE WHAT IT READS IS OF BULK AT MOST 1048576: true; the input reads as it did. -/
def fnWaitsOfUptoRow : OpenClaim := { program := "ytcjcdlhmhhbkgaa", sum := "7d84cd2eeb6e0e98bbd0a541cce788613f2ce928a5c196bd2d5a279e4616ce31", func := "loop.example/iceharvest/laws.FnWaitsOf", spec := "fnWaitsOf", apart := false, narrowed := true }
def FnWaitsOfUptoSaid : Prop := fnWaitsOfUptoRow.holds Try.pinned (OpenSpec.upto fnWaitsOfSpec)

/-- 'laws.FnWaitingAt', WHERE WHAT IT READS IS OF BULK AT MOST 1048576: true; the input reads as it did. -/
def fnWaitingAtUptoRow : OpenClaim := { program := "ytcjcdlhmhhbkgaa", sum := "7d84cd2eeb6e0e98bbd0a541cce788613f2ce928a5c196bd2d5a279e4616ce31", func := "loop.example/iceharvest/laws.FnWaitingAt", spec := "fnWaitingAt", apart := false, narrowed := true }
def FnWaitingAtUptoSaid : Prop := fnWaitingAtUptoRow.holds Try.pinned (OpenSpec.upto fnWaitingAtSpec)

/-- 'laws.FnMostWaiting', WHERE WHAT IT READS IS OF BULK AT MOST 1048576: true; the input reads as it did. -/
def fnMostWaitingUptoRow : OpenClaim := { program := "ytcjcdlhmhhbkgaa", sum := "7d84cd2eeb6e0e98bbd0a541cce788613f2ce928a5c196bd2d5a279e4616ce31", func := "loop.example/iceharvest/laws.FnMostWaiting", spec := "fnMostWaiting", apart := false, narrowed := true }
def FnMostWaitingUptoSaid : Prop := fnMostWaitingUptoRow.holds Try.pinned (OpenSpec.upto fnMostWaitingSpec)

/-- 'laws.FnLeastLifts', WHERE WHAT IT READS IS OF BULK AT MOST 1048576: true; the input reads as it did. -/
def fnLeastLiftsUptoRow : OpenClaim := { program := "ytcjcdlhmhhbkgaa", sum := "7d84cd2eeb6e0e98bbd0a541cce788613f2ce928a5c196bd2d5a279e4616ce31", func := "loop.example/iceharvest/laws.FnLeastLifts", spec := "fnLeastLifts", apart := false, narrowed := true }
def FnLeastLiftsUptoSaid : Prop := fnLeastLiftsUptoRow.holds Try.pinned (OpenSpec.upto fnLeastLiftsSpec)

/-- 'laws.FnGreatestGap', WHERE WHAT IT READS IS OF BULK AT MOST 1048576: true; the input reads as it did. -/
def fnGreatestGapUptoRow : OpenClaim := { program := "ytcjcdlhmhhbkgaa", sum := "7d84cd2eeb6e0e98bbd0a541cce788613f2ce928a5c196bd2d5a279e4616ce31", func := "loop.example/iceharvest/laws.FnGreatestGap", spec := "fnGreatestGap", apart := false, narrowed := true }
def FnGreatestGapUptoSaid : Prop := fnGreatestGapUptoRow.holds Try.pinned (OpenSpec.upto fnGreatestGapSpec)

/-- 'laws.FnMergeTimes', WHERE WHAT IT READS IS OF BULK AT MOST 1048576: true; the input reads as it did. -/
def fnMergeTimesUptoRow : OpenClaim := { program := "ytcjcdlhmhhbkgaa", sum := "7d84cd2eeb6e0e98bbd0a541cce788613f2ce928a5c196bd2d5a279e4616ce31", func := "loop.example/iceharvest/laws.FnMergeTimes", spec := "fnMergeTimes", apart := false, narrowed := true }
def FnMergeTimesUptoSaid : Prop := fnMergeTimesUptoRow.holds Try.pinned (OpenSpec.upto fnMergeTimesSpec)

/-- 'laws.FnMergeTimesLifts', WHERE WHAT IT READS IS OF BULK AT MOST 1048576: true; the input reads as it did. -/
def fnMergeTimesLiftsUptoRow : OpenClaim := { program := "ytcjcdlhmhhbkgaa", sum := "7d84cd2eeb6e0e98bbd0a541cce788613f2ce928a5c196bd2d5a279e4616ce31", func := "loop.example/iceharvest/laws.FnMergeTimesLifts", spec := "fnMergeTimesLifts", apart := false, narrowed := true }
def FnMergeTimesLiftsUptoSaid : Prop := fnMergeTimesLiftsUptoRow.holds Try.pinned (OpenSpec.upto fnMergeTimesLiftsSpec)

/-- 'laws.FnEveryOf', WHERE WHAT IT READS IS OF BULK AT MOST 1048576: true; the input reads as it did. -/
def fnEveryOfUptoRow : OpenClaim := { program := "ytcjcdlhmhhbkgaa", sum := "7d84cd2eeb6e0e98bbd0a541cce788613f2ce928a5c196bd2d5a279e4616ce31", func := "loop.example/iceharvest/laws.FnEveryOf", spec := "fnEveryOf", apart := false, narrowed := true }
def FnEveryOfUptoSaid : Prop := fnEveryOfUptoRow.holds Try.pinned (OpenSpec.upto fnEveryOfSpec)

end Rows
end Go.Proofs.Ytcjcdlhmhhbkgaa
