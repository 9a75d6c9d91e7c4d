/-
  No cell of these rows narrows 'for every input' (looked for: loops, veiled, ifaces, maps, wideKeys, modest, calm, conditions, laid).
  DERIVED. THE GIVEN ROWS OF THIS SEAT. 12 by the template 'for every input the law returns true; each argument reads behind the call as it read before'; 0 by the template 'total and deterministic' (their statements: YtodblepldkfagaaTotals.lean).
  GIVEN WITH THE SEED: the statements are not yours to turn. If you find one false, say at which input.
  Laid BY PROGRAM, IN A SANDBOX (cutbox-rows.mjs): the forced cells as the released guide's own fill.sh prints them over the translation 870678c70df2f3e5… (all of the seat's roots in one cut). By AI agents, Wed Nov 11 2026. No macro, syntax, notation, axiom, sorry.
-/
import Derived.Test.YtodblepldkfagaaChecked
import GoSem.Claim
import GoSem.ClaimJoined
import GoSem.ClaimMapViews
import Derived.JoinedTies
import Derived.KernelRfl
namespace Go.Proofs.Ytodblepldkfagaa
/- THE CELL 'sum', in the pinned program and in every row, IS THE sha256 OF THE DUMP (.gsa) THAT YtodblepldkfagaaProg.lean LOADS. Nothing in Lean hashes anything: it is a label: what it is worth is what the hold of that sum in a sandbox is worth. -/
noncomputable def Try.pinned : Pinned := { name := "ytodblepldkfagaa", sum := "870678c70df2f3e5fde49b946ca913428d4faaa1d12d1b0a3b2d3ad0020dec6e", checked := Try.checked }
namespace Rows
def none {H : Type} : Left H := { results := [], args := [] }

/-- 'laws.FnValidPond': WHATEVER THE INPUT: true; the input reads as it did. -/
def fnValidPondSpec : ChangeSpec := { name := "fnValidPond", fn := fun _ => fun
  | [d] => { results := [.lit (.bool true)], args := [d] }
  | _ => none }
def fnValidPondRow : OpenClaim := { program := "ytodblepldkfagaa", sum := "870678c70df2f3e5fde49b946ca913428d4faaa1d12d1b0a3b2d3ad0020dec6e", func := "loop.example/iceharvest/laws.FnValidPond", spec := "fnValidPond", apart := false }
def FnValidPondSaid : Prop := fnValidPondRow.holds Try.pinned (OpenSpec.ofChange fnValidPondSpec)

/-- ITS FALSE NEIGHBOUR: 'it returns false'. Refute it at one input. -/
def fnValidPondWrong : ChangeSpec := { name := "fnValidPond", fn := fun _ => fun
  | [d] => { results := [.lit (.bool false)], args := [d] }
  | _ => none }
def FnValidPondWrongFalsely : Prop := fnValidPondRow.holds Try.pinned (OpenSpec.ofChange fnValidPondWrong)

/-- 'laws.FnSafeCells': WHATEVER THE INPUT: true; the input reads as it did. -/
def fnSafeCellsSpec : ChangeSpec := { name := "fnSafeCells", fn := fun _ => fun
  | [d] => { results := [.lit (.bool true)], args := [d] }
  | _ => none }
def fnSafeCellsRow : OpenClaim := { program := "ytodblepldkfagaa", sum := "870678c70df2f3e5fde49b946ca913428d4faaa1d12d1b0a3b2d3ad0020dec6e", func := "loop.example/iceharvest/laws.FnSafeCells", spec := "fnSafeCells", apart := false }
def FnSafeCellsSaid : Prop := fnSafeCellsRow.holds Try.pinned (OpenSpec.ofChange fnSafeCellsSpec)

/-- ITS FALSE NEIGHBOUR: 'it returns false'. Refute it at one input. -/
def fnSafeCellsWrong : ChangeSpec := { name := "fnSafeCells", fn := fun _ => fun
  | [d] => { results := [.lit (.bool false)], args := [d] }
  | _ => none }
def FnSafeCellsWrongFalsely : Prop := fnSafeCellsRow.holds Try.pinned (OpenSpec.ofChange fnSafeCellsWrong)

/-- 'laws.FnFieldsOf': WHATEVER THE INPUT: true; the input reads as it did. -/
def fnFieldsOfSpec : ChangeSpec := { name := "fnFieldsOf", fn := fun _ => fun
  | [d] => { results := [.lit (.bool true)], args := [d] }
  | _ => none }
def fnFieldsOfRow : OpenClaim := { program := "ytodblepldkfagaa", sum := "870678c70df2f3e5fde49b946ca913428d4faaa1d12d1b0a3b2d3ad0020dec6e", func := "loop.example/iceharvest/laws.FnFieldsOf", spec := "fnFieldsOf", apart := false }
def FnFieldsOfSaid : Prop := fnFieldsOfRow.holds Try.pinned (OpenSpec.ofChange fnFieldsOfSpec)

/-- ITS FALSE NEIGHBOUR: 'it returns false'. Refute it at one input. -/
def fnFieldsOfWrong : ChangeSpec := { name := "fnFieldsOf", fn := fun _ => fun
  | [d] => { results := [.lit (.bool false)], args := [d] }
  | _ => none }
def FnFieldsOfWrongFalsely : Prop := fnFieldsOfRow.holds Try.pinned (OpenSpec.ofChange fnFieldsOfWrong)

/-- 'laws.FnFieldSizes': WHATEVER THE INPUT: true; the input reads as it did. -/
def fnFieldSizesSpec : ChangeSpec := { name := "fnFieldSizes", fn := fun _ => fun
  | [d] => { results := [.lit (.bool true)], args := [d] }
  | _ => none }
def fnFieldSizesRow : OpenClaim := { program := "ytodblepldkfagaa", sum := "870678c70df2f3e5fde49b946ca913428d4faaa1d12d1b0a3b2d3ad0020dec6e", func := "loop.example/iceharvest/laws.FnFieldSizes", spec := "fnFieldSizes", apart := false }
def FnFieldSizesSaid : Prop := fnFieldSizesRow.holds Try.pinned (OpenSpec.ofChange fnFieldSizesSpec)

/-- ITS FALSE NEIGHBOUR: 'it returns false'. Refute it at one input. -/
def fnFieldSizesWrong : ChangeSpec := { name := "fnFieldSizes", fn := fun _ => fun
  | [d] => { results := [.lit (.bool false)], args := [d] }
  | _ => none }
def FnFieldSizesWrongFalsely : Prop := fnFieldSizesRow.holds Try.pinned (OpenSpec.ofChange fnFieldSizesWrong)

/-- 'laws.FnNarrowsOf': WHATEVER THE INPUT: true; the input reads as it did. -/
def fnNarrowsOfSpec : ChangeSpec := { name := "fnNarrowsOf", fn := fun _ => fun
  | [d] => { results := [.lit (.bool true)], args := [d] }
  | _ => none }
def fnNarrowsOfRow : OpenClaim := { program := "ytodblepldkfagaa", sum := "870678c70df2f3e5fde49b946ca913428d4faaa1d12d1b0a3b2d3ad0020dec6e", func := "loop.example/iceharvest/laws.FnNarrowsOf", spec := "fnNarrowsOf", apart := false }
def FnNarrowsOfSaid : Prop := fnNarrowsOfRow.holds Try.pinned (OpenSpec.ofChange fnNarrowsOfSpec)

/-- ITS FALSE NEIGHBOUR: 'it returns false'. Refute it at one input. -/
def fnNarrowsOfWrong : ChangeSpec := { name := "fnNarrowsOf", fn := fun _ => fun
  | [d] => { results := [.lit (.bool false)], args := [d] }
  | _ => none }
def FnNarrowsOfWrongFalsely : Prop := fnNarrowsOfRow.holds Try.pinned (OpenSpec.ofChange fnNarrowsOfWrong)

/-- 'laws.FnNarrowsOfEnds': WHATEVER THE INPUT: true; the input reads as it did. -/
def fnNarrowsOfEndsSpec : ChangeSpec := { name := "fnNarrowsOfEnds", fn := fun _ => fun
  | [d] => { results := [.lit (.bool true)], args := [d] }
  | _ => none }
def fnNarrowsOfEndsRow : OpenClaim := { program := "ytodblepldkfagaa", sum := "870678c70df2f3e5fde49b946ca913428d4faaa1d12d1b0a3b2d3ad0020dec6e", func := "loop.example/iceharvest/laws.FnNarrowsOfEnds", spec := "fnNarrowsOfEnds", apart := false }
def FnNarrowsOfEndsSaid : Prop := fnNarrowsOfEndsRow.holds Try.pinned (OpenSpec.ofChange fnNarrowsOfEndsSpec)

/-- ITS FALSE NEIGHBOUR: 'it returns false'. Refute it at one input. -/
def fnNarrowsOfEndsWrong : ChangeSpec := { name := "fnNarrowsOfEnds", fn := fun _ => fun
  | [d] => { results := [.lit (.bool false)], args := [d] }
  | _ => none }
def FnNarrowsOfEndsWrongFalsely : Prop := fnNarrowsOfEndsRow.holds Try.pinned (OpenSpec.ofChange fnNarrowsOfEndsWrong)

/-- 'laws.FnRisksFrom': WHATEVER THE INPUT: true; the input reads as it did. -/
def fnRisksFromSpec : ChangeSpec := { name := "fnRisksFrom", fn := fun _ => fun
  | [d] => { results := [.lit (.bool true)], args := [d] }
  | _ => none }
def fnRisksFromRow : OpenClaim := { program := "ytodblepldkfagaa", sum := "870678c70df2f3e5fde49b946ca913428d4faaa1d12d1b0a3b2d3ad0020dec6e", func := "loop.example/iceharvest/laws.FnRisksFrom", spec := "fnRisksFrom", apart := false }
def FnRisksFromSaid : Prop := fnRisksFromRow.holds Try.pinned (OpenSpec.ofChange fnRisksFromSpec)

/-- ITS FALSE NEIGHBOUR: 'it returns false'. Refute it at one input. -/
def fnRisksFromWrong : ChangeSpec := { name := "fnRisksFrom", fn := fun _ => fun
  | [d] => { results := [.lit (.bool false)], args := [d] }
  | _ => none }
def FnRisksFromWrongFalsely : Prop := fnRisksFromRow.holds Try.pinned (OpenSpec.ofChange fnRisksFromWrong)

/-- 'laws.FnWayTo': WHATEVER THE INPUT: true; the input reads as it did. -/
def fnWayToSpec : ChangeSpec := { name := "fnWayTo", fn := fun _ => fun
  | [d] => { results := [.lit (.bool true)], args := [d] }
  | _ => none }
def fnWayToRow : OpenClaim := { program := "ytodblepldkfagaa", sum := "870678c70df2f3e5fde49b946ca913428d4faaa1d12d1b0a3b2d3ad0020dec6e", func := "loop.example/iceharvest/laws.FnWayTo", spec := "fnWayTo", apart := false }
def FnWayToSaid : Prop := fnWayToRow.holds Try.pinned (OpenSpec.ofChange fnWayToSpec)

/-- ITS FALSE NEIGHBOUR: 'it returns false'. Refute it at one input. -/
def fnWayToWrong : ChangeSpec := { name := "fnWayTo", fn := fun _ => fun
  | [d] => { results := [.lit (.bool false)], args := [d] }
  | _ => none }
def FnWayToWrongFalsely : Prop := fnWayToRow.holds Try.pinned (OpenSpec.ofChange fnWayToWrong)

/-- 'laws.FnWayToBack': WHATEVER THE INPUT: true; the input reads as it did. -/
def fnWayToBackSpec : ChangeSpec := { name := "fnWayToBack", fn := fun _ => fun
  | [d] => { results := [.lit (.bool true)], args := [d] }
  | _ => none }
def fnWayToBackRow : OpenClaim := { program := "ytodblepldkfagaa", sum := "870678c70df2f3e5fde49b946ca913428d4faaa1d12d1b0a3b2d3ad0020dec6e", func := "loop.example/iceharvest/laws.FnWayToBack", spec := "fnWayToBack", apart := false }
def FnWayToBackSaid : Prop := fnWayToBackRow.holds Try.pinned (OpenSpec.ofChange fnWayToBackSpec)

/-- ITS FALSE NEIGHBOUR: 'it returns false'. Refute it at one input. -/
def fnWayToBackWrong : ChangeSpec := { name := "fnWayToBack", fn := fun _ => fun
  | [d] => { results := [.lit (.bool false)], args := [d] }
  | _ => none }
def FnWayToBackWrongFalsely : Prop := fnWayToBackRow.holds Try.pinned (OpenSpec.ofChange fnWayToBackWrong)

/-- 'laws.FnGreatestLoad': WHATEVER THE INPUT: true; the input reads as it did. -/
def fnGreatestLoadSpec : ChangeSpec := { name := "fnGreatestLoad", fn := fun _ => fun
  | [d] => { results := [.lit (.bool true)], args := [d] }
  | _ => none }
def fnGreatestLoadRow : OpenClaim := { program := "ytodblepldkfagaa", sum := "870678c70df2f3e5fde49b946ca913428d4faaa1d12d1b0a3b2d3ad0020dec6e", func := "loop.example/iceharvest/laws.FnGreatestLoad", spec := "fnGreatestLoad", apart := false }
def FnGreatestLoadSaid : Prop := fnGreatestLoadRow.holds Try.pinned (OpenSpec.ofChange fnGreatestLoadSpec)

/-- ITS FALSE NEIGHBOUR: 'it returns false'. Refute it at one input. -/
def fnGreatestLoadWrong : ChangeSpec := { name := "fnGreatestLoad", fn := fun _ => fun
  | [d] => { results := [.lit (.bool false)], args := [d] }
  | _ => none }
def FnGreatestLoadWrongFalsely : Prop := fnGreatestLoadRow.holds Try.pinned (OpenSpec.ofChange fnGreatestLoadWrong)

/-- 'laws.FnGreatestLoadBetween': WHATEVER THE INPUT: true; the input reads as it did. -/
def fnGreatestLoadBetweenSpec : ChangeSpec := { name := "fnGreatestLoadBetween", fn := fun _ => fun
  | [d] => { results := [.lit (.bool true)], args := [d] }
  | _ => none }
def fnGreatestLoadBetweenRow : OpenClaim := { program := "ytodblepldkfagaa", sum := "870678c70df2f3e5fde49b946ca913428d4faaa1d12d1b0a3b2d3ad0020dec6e", func := "loop.example/iceharvest/laws.FnGreatestLoadBetween", spec := "fnGreatestLoadBetween", apart := false }
def FnGreatestLoadBetweenSaid : Prop := fnGreatestLoadBetweenRow.holds Try.pinned (OpenSpec.ofChange fnGreatestLoadBetweenSpec)

/-- ITS FALSE NEIGHBOUR: 'it returns false'. Refute it at one input. -/
def fnGreatestLoadBetweenWrong : ChangeSpec := { name := "fnGreatestLoadBetween", fn := fun _ => fun
  | [d] => { results := [.lit (.bool false)], args := [d] }
  | _ => none }
def FnGreatestLoadBetweenWrongFalsely : Prop := fnGreatestLoadBetweenRow.holds Try.pinned (OpenSpec.ofChange fnGreatestLoadBetweenWrong)

/-- 'laws.FnGrowPond': WHATEVER THE INPUT: true; the input reads as it did. -/
def fnGrowPondSpec : ChangeSpec := { name := "fnGrowPond", fn := fun _ => fun
  | [d] => { results := [.lit (.bool true)], args := [d] }
  | _ => none }
def fnGrowPondRow : OpenClaim := { program := "ytodblepldkfagaa", sum := "870678c70df2f3e5fde49b946ca913428d4faaa1d12d1b0a3b2d3ad0020dec6e", func := "loop.example/iceharvest/laws.FnGrowPond", spec := "fnGrowPond", apart := false }
def FnGrowPondSaid : Prop := fnGrowPondRow.holds Try.pinned (OpenSpec.ofChange fnGrowPondSpec)

/-- ITS FALSE NEIGHBOUR: 'it returns false'. Refute it at one input. -/
def fnGrowPondWrong : ChangeSpec := { name := "fnGrowPond", fn := fun _ => fun
  | [d] => { results := [.lit (.bool false)], args := [d] }
  | _ => none }
def FnGrowPondWrongFalsely : Prop := fnGrowPondRow.holds Try.pinned (OpenSpec.ofChange fnGrowPondWrong)

/- THE SECOND FORM. 'bulk': how many values and letters a reading holds, each counted each time it is reached (what is shared counts as often as it is met; a slice's spare places count too). A statement '..UptoSaid' is the law's where the arguments, and the package variables that the reading takes, are together of bulk at most 1048576: NARROWER than '..Said'. Prove '..Said' where nothing that the law and all that it calls make is longer than what came in: it says more and counts as full. Else prove '..UptoSaid'. A law counts once. -/
mutual
def uptoBulk {H : Type} : DataW H → Nat
  | .lit (.string bytes) => bytes.length + 1
  | .lit _ => 1
  | .nil => 1
  | .ptr d => uptoBulk d + 1
  | .slice elems spare => uptoBulkAll elems + uptoBulkAll spare + 1
  | .agg parts => uptoBulkAll parts + 1
  | .iface _ d => uptoBulk d + 1
  | .map entries => uptoBulkEntries entries + 1
  | .held _ => 1
def uptoBulkAll {H : Type} : List (DataW H) → Nat
  | [] => 0
  | d :: r => uptoBulk d + uptoBulkAll r
def uptoBulkEntries {H : Type} : List (Lit × DataW H) → Nat
  | [] => 0
  | x :: r => uptoBulkEntry x + uptoBulkEntries r
def uptoBulkEntry {H : Type} : Lit × DataW H → Nat
  | (.string bytes, d) => bytes.length + uptoBulk d + 1
  | (_, d) => uptoBulk d + 1
 end
def uptoSmall : (H : Type) → List (DataW H) → Bool := fun _ ds => decide (uptoBulkAll ds ≤ 1048576)
def OpenSpec.upto (s : _root_.Go.ChangeSpec) : _root_.Go.OpenSpec := { _root_.Go.OpenSpec.ofChange s with cond := some uptoSmall }

/-- 'laws.FnValidPond', WHERE WHAT IT READS IS OF BULK AT MOST 1048576: true; the input reads as it did. -/
def fnValidPondUptoRow : OpenClaim := { program := "ytodblepldkfagaa", sum := "870678c70df2f3e5fde49b946ca913428d4faaa1d12d1b0a3b2d3ad0020dec6e", func := "loop.example/iceharvest/laws.FnValidPond", spec := "fnValidPond", apart := false, narrowed := true }
def FnValidPondUptoSaid : Prop := fnValidPondUptoRow.holds Try.pinned (OpenSpec.upto fnValidPondSpec)

/-- 'laws.FnSafeCells', WHERE WHAT IT READS IS OF BULK AT MOST 1048576: true; the input reads as it did. -/
def fnSafeCellsUptoRow : OpenClaim := { program := "ytodblepldkfagaa", sum := "870678c70df2f3e5fde49b946ca913428d4faaa1d12d1b0a3b2d3ad0020dec6e", func := "loop.example/iceharvest/laws.FnSafeCells", spec := "fnSafeCells", apart := false, narrowed := true }
def FnSafeCellsUptoSaid : Prop := fnSafeCellsUptoRow.holds Try.pinned (OpenSpec.upto fnSafeCellsSpec)

/-- 'laws.FnFieldsOf', WHERE WHAT IT READS IS OF BULK AT MOST 1048576: true; the input reads as it did. -/
def fnFieldsOfUptoRow : OpenClaim := { program := "ytodblepldkfagaa", sum := "870678c70df2f3e5fde49b946ca913428d4faaa1d12d1b0a3b2d3ad0020dec6e", func := "loop.example/iceharvest/laws.FnFieldsOf", spec := "fnFieldsOf", apart := false, narrowed := true }
def FnFieldsOfUptoSaid : Prop := fnFieldsOfUptoRow.holds Try.pinned (OpenSpec.upto fnFieldsOfSpec)

/-- 'laws.FnFieldSizes', WHERE WHAT IT READS IS OF BULK AT MOST 1048576: true; the input reads as it did. -/
def fnFieldSizesUptoRow : OpenClaim := { program := "ytodblepldkfagaa", sum := "870678c70df2f3e5fde49b946ca913428d4faaa1d12d1b0a3b2d3ad0020dec6e", func := "loop.example/iceharvest/laws.FnFieldSizes", spec := "fnFieldSizes", apart := false, narrowed := true }
def FnFieldSizesUptoSaid : Prop := fnFieldSizesUptoRow.holds Try.pinned (OpenSpec.upto fnFieldSizesSpec)

/-- 'laws.FnNarrowsOf', WHERE WHAT IT READS IS OF BULK AT MOST 1048576: true; the input reads as it did. -/
def fnNarrowsOfUptoRow : OpenClaim := { program := "ytodblepldkfagaa", sum := "870678c70df2f3e5fde49b946ca913428d4faaa1d12d1b0a3b2d3ad0020dec6e", func := "loop.example/iceharvest/laws.FnNarrowsOf", spec := "fnNarrowsOf", apart := false, narrowed := true }
def FnNarrowsOfUptoSaid : Prop := fnNarrowsOfUptoRow.holds Try.pinned (OpenSpec.upto fnNarrowsOfSpec)

/-- 'laws.FnNarrowsOfEnds', WHERE WHAT IT READS IS OF BULK AT MOST 1048576: true; the input reads as it did. -/
def fnNarrowsOfEndsUptoRow : OpenClaim := { program := "ytodblepldkfagaa", sum := "870678c70df2f3e5fde49b946ca913428d4faaa1d12d1b0a3b2d3ad0020dec6e", func := "loop.example/iceharvest/laws.FnNarrowsOfEnds", spec := "fnNarrowsOfEnds", apart := false, narrowed := true }
def FnNarrowsOfEndsUptoSaid : Prop := fnNarrowsOfEndsUptoRow.holds Try.pinned (OpenSpec.upto fnNarrowsOfEndsSpec)

/-- 'laws.FnRisksFrom', WHERE WHAT IT READS IS OF BULK AT MOST 1048576: true; the input reads as it did. -/
def fnRisksFromUptoRow : OpenClaim := { program := "ytodblepldkfagaa", sum := "870678c70df2f3e5fde49b946ca913428d4faaa1d12d1b0a3b2d3ad0020dec6e", func := "loop.example/iceharvest/laws.FnRisksFrom", spec := "fnRisksFrom", apart := false, narrowed := true }
def FnRisksFromUptoSaid : Prop := fnRisksFromUptoRow.holds Try.pinned (OpenSpec.upto fnRisksFromSpec)

/-- 'laws.FnWayTo', WHERE WHAT IT READS IS OF BULK AT MOST 1048576: true; the input reads as it did. -/
def fnWayToUptoRow : OpenClaim := { program := "ytodblepldkfagaa", sum := "870678c70df2f3e5fde49b946ca913428d4faaa1d12d1b0a3b2d3ad0020dec6e", func := "loop.example/iceharvest/laws.FnWayTo", spec := "fnWayTo", apart := false, narrowed := true }
def FnWayToUptoSaid : Prop := fnWayToUptoRow.holds Try.pinned (OpenSpec.upto fnWayToSpec)

/-- 'laws.FnWayToBack', WHERE WHAT IT READS IS OF BULK AT MOST 1048576: true; the input reads as it did. -/
def fnWayToBackUptoRow : OpenClaim := { program := "ytodblepldkfagaa", sum := "870678c70df2f3e5fde49b946ca913428d4faaa1d12d1b0a3b2d3ad0020dec6e", func := "loop.example/iceharvest/laws.FnWayToBack", spec := "fnWayToBack", apart := false, narrowed := true }
def FnWayToBackUptoSaid : Prop := fnWayToBackUptoRow.holds Try.pinned (OpenSpec.upto fnWayToBackSpec)

/-- 'laws.FnGreatestLoad', WHERE WHAT IT READS IS OF BULK AT MOST 1048576: true; the input reads as it did. -/
def fnGreatestLoadUptoRow : OpenClaim := { program := "ytodblepldkfagaa", sum := "870678c70df2f3e5fde49b946ca913428d4faaa1d12d1b0a3b2d3ad0020dec6e", func := "loop.example/iceharvest/laws.FnGreatestLoad", spec := "fnGreatestLoad", apart := false, narrowed := true }
def FnGreatestLoadUptoSaid : Prop := fnGreatestLoadUptoRow.holds Try.pinned (OpenSpec.upto fnGreatestLoadSpec)

/-- 'laws.FnGreatestLoadBetween', WHERE WHAT IT READS IS OF BULK AT MOST 1048576: true; the input reads as it did. -/
def fnGreatestLoadBetweenUptoRow : OpenClaim := { program := "ytodblepldkfagaa", sum := "870678c70df2f3e5fde49b946ca913428d4faaa1d12d1b0a3b2d3ad0020dec6e", func := "loop.example/iceharvest/laws.FnGreatestLoadBetween", spec := "fnGreatestLoadBetween", apart := false, narrowed := true }
def FnGreatestLoadBetweenUptoSaid : Prop := fnGreatestLoadBetweenUptoRow.holds Try.pinned (OpenSpec.upto fnGreatestLoadBetweenSpec)

/-- 'laws.FnGrowPond', WHERE WHAT IT READS IS OF BULK AT MOST 1048576: true; the input reads as it did. -/
def fnGrowPondUptoRow : OpenClaim := { program := "ytodblepldkfagaa", sum := "870678c70df2f3e5fde49b946ca913428d4faaa1d12d1b0a3b2d3ad0020dec6e", func := "loop.example/iceharvest/laws.FnGrowPond", spec := "fnGrowPond", apart := false, narrowed := true }
def FnGrowPondUptoSaid : Prop := fnGrowPondUptoRow.holds Try.pinned (OpenSpec.upto fnGrowPondSpec)

end Rows
end Go.Proofs.Ytodblepldkfagaa
