/-
  No cell of these rows narrows 'for every input' (looked for: loops, veiled, ifaces, maps, wideKeys, modest, calm, conditions, laid).
  DERIVED. THE GIVEN ROWS OF THIS SEAT. 12 by the template 'for every input the law returns true; each argument reads behind the call as it read before'; 0 by the template 'total and deterministic' (their statements: YtbnggakfogcalacTotals.lean).
  GIVEN WITH THE SEED: the statements are not yours to turn. If you find one false, say at which input.
  Laid BY PROGRAM, IN A SANDBOX (cutbox-rows.mjs): the forced cells as the released guide's own fill.sh prints them over the translation 57f7062ad9a279e2… (all of the seat's roots in one cut). By AI agents, Wed Nov 11 2026. No macro, syntax, notation, axiom, sorry.
-/
import Derived.Test.YtbnggakfogcalacChecked
import GoSem.Claim
import GoSem.ClaimJoined
import GoSem.ClaimMapViews
import Derived.JoinedTies
import Derived.KernelRfl
namespace Go.Proofs.Ytbnggakfogcalac
/- THE CELL 'sum', in the pinned program and in every row, IS THE sha256 OF THE DUMP (.gsa) THAT YtbnggakfogcalacProg.lean LOADS. Nothing in Lean hashes anything: it is a label: what it is worth is what the hold of that sum in a sandbox is worth. -/
noncomputable def Try.pinned : Pinned := { name := "ytbnggakfogcalac", sum := "57f7062ad9a279e2fcdaa4d677d062e5996861c56268d2a22507801ee79fdd50", checked := Try.checked }
namespace Rows
def none {H : Type} : Left H := { results := [], args := [] }

/-- 'laws.FnExactSafeCells': WHATEVER THE INPUT: true; the input reads as it did. -/
def fnExactSafeCellsSpec : ChangeSpec := { name := "fnExactSafeCells", fn := fun _ => fun
  | [d1, d2] => { results := [.lit (.bool true)], args := [d1, d2] }
  | _ => none }
def fnExactSafeCellsRow : OpenClaim := { program := "ytbnggakfogcalac", sum := "57f7062ad9a279e2fcdaa4d677d062e5996861c56268d2a22507801ee79fdd50", func := "loop.example/iceharvest/laws.FnExactSafeCells", spec := "fnExactSafeCells", apart := false }
def FnExactSafeCellsSaid : Prop := fnExactSafeCellsRow.holds Try.pinned (OpenSpec.ofChange fnExactSafeCellsSpec)

/-- ITS FALSE NEIGHBOUR: 'it returns false'. Refute it at one input. -/
def fnExactSafeCellsWrong : ChangeSpec := { name := "fnExactSafeCells", fn := fun _ => fun
  | [d1, d2] => { results := [.lit (.bool false)], args := [d1, d2] }
  | _ => none }
def FnExactSafeCellsWrongFalsely : Prop := fnExactSafeCellsRow.holds Try.pinned (OpenSpec.ofChange fnExactSafeCellsWrong)

/-- 'laws.FnExactFieldsOf': WHATEVER THE INPUT: true; the input reads as it did. -/
def fnExactFieldsOfSpec : ChangeSpec := { name := "fnExactFieldsOf", fn := fun _ => fun
  | [d1, d2] => { results := [.lit (.bool true)], args := [d1, d2] }
  | _ => none }
def fnExactFieldsOfRow : OpenClaim := { program := "ytbnggakfogcalac", sum := "57f7062ad9a279e2fcdaa4d677d062e5996861c56268d2a22507801ee79fdd50", func := "loop.example/iceharvest/laws.FnExactFieldsOf", spec := "fnExactFieldsOf", apart := false }
def FnExactFieldsOfSaid : Prop := fnExactFieldsOfRow.holds Try.pinned (OpenSpec.ofChange fnExactFieldsOfSpec)

/-- ITS FALSE NEIGHBOUR: 'it returns false'. Refute it at one input. -/
def fnExactFieldsOfWrong : ChangeSpec := { name := "fnExactFieldsOf", fn := fun _ => fun
  | [d1, d2] => { results := [.lit (.bool false)], args := [d1, d2] }
  | _ => none }
def FnExactFieldsOfWrongFalsely : Prop := fnExactFieldsOfRow.holds Try.pinned (OpenSpec.ofChange fnExactFieldsOfWrong)

/-- 'laws.FnExactFieldSizes': WHATEVER THE INPUT: true; the input reads as it did. -/
def fnExactFieldSizesSpec : ChangeSpec := { name := "fnExactFieldSizes", fn := fun _ => fun
  | [d1, d2] => { results := [.lit (.bool true)], args := [d1, d2] }
  | _ => none }
def fnExactFieldSizesRow : OpenClaim := { program := "ytbnggakfogcalac", sum := "57f7062ad9a279e2fcdaa4d677d062e5996861c56268d2a22507801ee79fdd50", func := "loop.example/iceharvest/laws.FnExactFieldSizes", spec := "fnExactFieldSizes", apart := false }
def FnExactFieldSizesSaid : Prop := fnExactFieldSizesRow.holds Try.pinned (OpenSpec.ofChange fnExactFieldSizesSpec)

/-- ITS FALSE NEIGHBOUR: 'it returns false'. Refute it at one input. -/
def fnExactFieldSizesWrong : ChangeSpec := { name := "fnExactFieldSizes", fn := fun _ => fun
  | [d1, d2] => { results := [.lit (.bool false)], args := [d1, d2] }
  | _ => none }
def FnExactFieldSizesWrongFalsely : Prop := fnExactFieldSizesRow.holds Try.pinned (OpenSpec.ofChange fnExactFieldSizesWrong)

/-- 'laws.FnExactNarrowsOf': WHATEVER THE INPUT: true; the input reads as it did. -/
def fnExactNarrowsOfSpec : ChangeSpec := { name := "fnExactNarrowsOf", fn := fun _ => fun
  | [d1, d2] => { results := [.lit (.bool true)], args := [d1, d2] }
  | _ => none }
def fnExactNarrowsOfRow : OpenClaim := { program := "ytbnggakfogcalac", sum := "57f7062ad9a279e2fcdaa4d677d062e5996861c56268d2a22507801ee79fdd50", func := "loop.example/iceharvest/laws.FnExactNarrowsOf", spec := "fnExactNarrowsOf", apart := false }
def FnExactNarrowsOfSaid : Prop := fnExactNarrowsOfRow.holds Try.pinned (OpenSpec.ofChange fnExactNarrowsOfSpec)

/-- ITS FALSE NEIGHBOUR: 'it returns false'. Refute it at one input. -/
def fnExactNarrowsOfWrong : ChangeSpec := { name := "fnExactNarrowsOf", fn := fun _ => fun
  | [d1, d2] => { results := [.lit (.bool false)], args := [d1, d2] }
  | _ => none }
def FnExactNarrowsOfWrongFalsely : Prop := fnExactNarrowsOfRow.holds Try.pinned (OpenSpec.ofChange fnExactNarrowsOfWrong)

/-- 'laws.FnExactRisksFrom': WHATEVER THE INPUT: true; the input reads as it did. -/
def fnExactRisksFromSpec : ChangeSpec := { name := "fnExactRisksFrom", fn := fun _ => fun
  | [d1, d2, d3] => { results := [.lit (.bool true)], args := [d1, d2, d3] }
  | _ => none }
def fnExactRisksFromRow : OpenClaim := { program := "ytbnggakfogcalac", sum := "57f7062ad9a279e2fcdaa4d677d062e5996861c56268d2a22507801ee79fdd50", func := "loop.example/iceharvest/laws.FnExactRisksFrom", spec := "fnExactRisksFrom", apart := false }
def FnExactRisksFromSaid : Prop := fnExactRisksFromRow.holds Try.pinned (OpenSpec.ofChange fnExactRisksFromSpec)

/-- ITS FALSE NEIGHBOUR: 'it returns false'. Refute it at one input. -/
def fnExactRisksFromWrong : ChangeSpec := { name := "fnExactRisksFrom", fn := fun _ => fun
  | [d1, d2, d3] => { results := [.lit (.bool false)], args := [d1, d2, d3] }
  | _ => none }
def FnExactRisksFromWrongFalsely : Prop := fnExactRisksFromRow.holds Try.pinned (OpenSpec.ofChange fnExactRisksFromWrong)

/-- 'laws.FnExactWayTo': WHATEVER THE INPUT: true; the input reads as it did. -/
def fnExactWayToSpec : ChangeSpec := { name := "fnExactWayTo", fn := fun _ => fun
  | [d1, d2, d3, d4] => { results := [.lit (.bool true)], args := [d1, d2, d3, d4] }
  | _ => none }
def fnExactWayToRow : OpenClaim := { program := "ytbnggakfogcalac", sum := "57f7062ad9a279e2fcdaa4d677d062e5996861c56268d2a22507801ee79fdd50", func := "loop.example/iceharvest/laws.FnExactWayTo", spec := "fnExactWayTo", apart := false }
def FnExactWayToSaid : Prop := fnExactWayToRow.holds Try.pinned (OpenSpec.ofChange fnExactWayToSpec)

/-- ITS FALSE NEIGHBOUR: 'it returns false'. Refute it at one input. -/
def fnExactWayToWrong : ChangeSpec := { name := "fnExactWayTo", fn := fun _ => fun
  | [d1, d2, d3, d4] => { results := [.lit (.bool false)], args := [d1, d2, d3, d4] }
  | _ => none }
def FnExactWayToWrongFalsely : Prop := fnExactWayToRow.holds Try.pinned (OpenSpec.ofChange fnExactWayToWrong)

/-- 'laws.FnExactGreatestLoad': WHATEVER THE INPUT: true; the input reads as it did. -/
def fnExactGreatestLoadSpec : ChangeSpec := { name := "fnExactGreatestLoad", fn := fun _ => fun
  | [d1, d2, d3] => { results := [.lit (.bool true)], args := [d1, d2, d3] }
  | _ => none }
def fnExactGreatestLoadRow : OpenClaim := { program := "ytbnggakfogcalac", sum := "57f7062ad9a279e2fcdaa4d677d062e5996861c56268d2a22507801ee79fdd50", func := "loop.example/iceharvest/laws.FnExactGreatestLoad", spec := "fnExactGreatestLoad", apart := false }
def FnExactGreatestLoadSaid : Prop := fnExactGreatestLoadRow.holds Try.pinned (OpenSpec.ofChange fnExactGreatestLoadSpec)

/-- ITS FALSE NEIGHBOUR: 'it returns false'. Refute it at one input. -/
def fnExactGreatestLoadWrong : ChangeSpec := { name := "fnExactGreatestLoad", fn := fun _ => fun
  | [d1, d2, d3] => { results := [.lit (.bool false)], args := [d1, d2, d3] }
  | _ => none }
def FnExactGreatestLoadWrongFalsely : Prop := fnExactGreatestLoadRow.holds Try.pinned (OpenSpec.ofChange fnExactGreatestLoadWrong)

/-- 'laws.FnValidPond': WHATEVER THE INPUT: true; the input reads as it did. -/
def fnValidPondSpec : ChangeSpec := { name := "fnValidPond", fn := fun _ => fun
  | [d] => { results := [.lit (.bool true)], args := [d] }
  | _ => none }
def fnValidPondRow : OpenClaim := { program := "ytbnggakfogcalac", sum := "57f7062ad9a279e2fcdaa4d677d062e5996861c56268d2a22507801ee79fdd50", func := "loop.example/iceharvest/laws.FnValidPond", spec := "fnValidPond", apart := false }
def FnValidPondSaid : Prop := fnValidPondRow.holds Try.pinned (OpenSpec.ofChange fnValidPondSpec)

/-- ITS FALSE NEIGHBOUR: 'it returns false'. Refute it at one input. -/
def fnValidPondWrong : ChangeSpec := { name := "fnValidPond", fn := fun _ => fun
  | [d] => { results := [.lit (.bool false)], args := [d] }
  | _ => none }
def FnValidPondWrongFalsely : Prop := fnValidPondRow.holds Try.pinned (OpenSpec.ofChange fnValidPondWrong)

/-- 'laws.FnSafeCells': WHATEVER THE INPUT: true; the input reads as it did. -/
def fnSafeCellsSpec : ChangeSpec := { name := "fnSafeCells", fn := fun _ => fun
  | [d] => { results := [.lit (.bool true)], args := [d] }
  | _ => none }
def fnSafeCellsRow : OpenClaim := { program := "ytbnggakfogcalac", sum := "57f7062ad9a279e2fcdaa4d677d062e5996861c56268d2a22507801ee79fdd50", func := "loop.example/iceharvest/laws.FnSafeCells", spec := "fnSafeCells", apart := false }
def FnSafeCellsSaid : Prop := fnSafeCellsRow.holds Try.pinned (OpenSpec.ofChange fnSafeCellsSpec)

/-- ITS FALSE NEIGHBOUR: 'it returns false'. Refute it at one input. -/
def fnSafeCellsWrong : ChangeSpec := { name := "fnSafeCells", fn := fun _ => fun
  | [d] => { results := [.lit (.bool false)], args := [d] }
  | _ => none }
def FnSafeCellsWrongFalsely : Prop := fnSafeCellsRow.holds Try.pinned (OpenSpec.ofChange fnSafeCellsWrong)

/-- 'laws.FnGreatestLoad': WHATEVER THE INPUT: true; the input reads as it did. -/
def fnGreatestLoadSpec : ChangeSpec := { name := "fnGreatestLoad", fn := fun _ => fun
  | [d] => { results := [.lit (.bool true)], args := [d] }
  | _ => none }
def fnGreatestLoadRow : OpenClaim := { program := "ytbnggakfogcalac", sum := "57f7062ad9a279e2fcdaa4d677d062e5996861c56268d2a22507801ee79fdd50", func := "loop.example/iceharvest/laws.FnGreatestLoad", spec := "fnGreatestLoad", apart := false }
def FnGreatestLoadSaid : Prop := fnGreatestLoadRow.holds Try.pinned (OpenSpec.ofChange fnGreatestLoadSpec)

/-- ITS FALSE NEIGHBOUR: 'it returns false'. Refute it at one input. -/
def fnGreatestLoadWrong : ChangeSpec := { name := "fnGreatestLoad", fn := fun _ => fun
  | [d] => { results := [.lit (.bool false)], args := [d] }
  | _ => none }
def FnGreatestLoadWrongFalsely : Prop := fnGreatestLoadRow.holds Try.pinned (OpenSpec.ofChange fnGreatestLoadWrong)

/-- 'laws.FnGreatestLoadBetween': WHATEVER THE INPUT: true; the input reads as it did. -/
def fnGreatestLoadBetweenSpec : ChangeSpec := { name := "fnGreatestLoadBetween", fn := fun _ => fun
  | [d] => { results := [.lit (.bool true)], args := [d] }
  | _ => none }
def fnGreatestLoadBetweenRow : OpenClaim := { program := "ytbnggakfogcalac", sum := "57f7062ad9a279e2fcdaa4d677d062e5996861c56268d2a22507801ee79fdd50", func := "loop.example/iceharvest/laws.FnGreatestLoadBetween", spec := "fnGreatestLoadBetween", apart := false }
def FnGreatestLoadBetweenSaid : Prop := fnGreatestLoadBetweenRow.holds Try.pinned (OpenSpec.ofChange fnGreatestLoadBetweenSpec)

/-- ITS FALSE NEIGHBOUR: 'it returns false'. Refute it at one input. -/
def fnGreatestLoadBetweenWrong : ChangeSpec := { name := "fnGreatestLoadBetween", fn := fun _ => fun
  | [d] => { results := [.lit (.bool false)], args := [d] }
  | _ => none }
def FnGreatestLoadBetweenWrongFalsely : Prop := fnGreatestLoadBetweenRow.holds Try.pinned (OpenSpec.ofChange fnGreatestLoadBetweenWrong)

/-- 'laws.FnCutCell': WHATEVER THE INPUT: true; the input reads as it did. -/
def fnCutCellSpec : ChangeSpec := { name := "fnCutCell", fn := fun _ => fun
  | [d] => { results := [.lit (.bool true)], args := [d] }
  | _ => none }
def fnCutCellRow : OpenClaim := { program := "ytbnggakfogcalac", sum := "57f7062ad9a279e2fcdaa4d677d062e5996861c56268d2a22507801ee79fdd50", func := "loop.example/iceharvest/laws.FnCutCell", spec := "fnCutCell", apart := false }
def FnCutCellSaid : Prop := fnCutCellRow.holds Try.pinned (OpenSpec.ofChange fnCutCellSpec)

/-- ITS FALSE NEIGHBOUR: 'it returns false'. Refute it at one input. -/
def fnCutCellWrong : ChangeSpec := { name := "fnCutCell", fn := fun _ => fun
  | [d] => { results := [.lit (.bool false)], args := [d] }
  | _ => none }
def FnCutCellWrongFalsely : Prop := fnCutCellRow.holds Try.pinned (OpenSpec.ofChange fnCutCellWrong)

/- THE SECOND FORM. 'bulk': how many values and letters a reading holds, each counted each time it is reached (what is shared counts as often as it is met; a slice's spare places count too). A statement '..UptoSaid' is the law's where the arguments, and the package variables that the reading takes, are together of bulk at most 1048576: NARROWER than '..Said'. Prove '..Said' where nothing that the law and all that it calls make is longer than what came in: it says more and counts as full. Else prove '..UptoSaid'. A law counts once. -/
mutual
def uptoBulk {H : Type} : DataW H → Nat
  | .lit (.string bytes) => bytes.length + 1
  | .lit _ => 1
  | .nil => 1
  | .ptr d => uptoBulk d + 1
  | .slice elems spare => uptoBulkAll elems + uptoBulkAll spare + 1
  | .agg parts => uptoBulkAll parts + 1
  | .iface _ d => uptoBulk d + 1
  | .map entries => uptoBulkEntries entries + 1
  | .held _ => 1
def uptoBulkAll {H : Type} : List (DataW H) → Nat
  | [] => 0
  | d :: r => uptoBulk d + uptoBulkAll r
def uptoBulkEntries {H : Type} : List (Lit × DataW H) → Nat
  | [] => 0
  | x :: r => uptoBulkEntry x + uptoBulkEntries r
def uptoBulkEntry {H : Type} : Lit × DataW H → Nat
  | (.string bytes, d) => bytes.length + uptoBulk d + 1
  | (_, d) => uptoBulk d + 1
 end
def uptoSmall : (H : Type) → List (DataW H) → Bool := fun _ ds => decide (uptoBulkAll ds ≤ 1048576)
def OpenSpec.upto (s : _root_.Go.ChangeSpec) : _root_.Go.OpenSpec := { _root_.Go.OpenSpec.ofChange s with cond := some uptoSmall }

/-- 'laws.FnExactSafeCells', WHERE WHAT IT READS IS OF BULK AT MOST 1048576: true; the input reads as it did. -/
def fnExactSafeCellsUptoRow : OpenClaim := { program := "ytbnggakfogcalac", sum := "57f7062ad9a279e2fcdaa4d677d062e5996861c56268d2a22507801ee79fdd50", func := "loop.example/iceharvest/laws.FnExactSafeCells", spec := "fnExactSafeCells", apart := false, narrowed := true }
def FnExactSafeCellsUptoSaid : Prop := fnExactSafeCellsUptoRow.holds Try.pinned (OpenSpec.upto fnExactSafeCellsSpec)

/-- 'laws.FnExactFieldsOf', WHERE WHAT IT READS IS OF BULK AT MOST 1048576: true; the input reads as it did. -/
def fnExactFieldsOfUptoRow : OpenClaim := { program := "ytbnggakfogcalac", sum := "57f7062ad9a279e2fcdaa4d677d062e5996861c56268d2a22507801ee79fdd50", func := "loop.example/iceharvest/laws.FnExactFieldsOf", spec := "fnExactFieldsOf", apart := false, narrowed := true }
def FnExactFieldsOfUptoSaid : Prop := fnExactFieldsOfUptoRow.holds Try.pinned (OpenSpec.upto fnExactFieldsOfSpec)

/-- 'laws.FnExactFieldSizes', WHERE WHAT IT READS IS OF BULK AT MOST 1048576: true; the input reads as it did. -/
def fnExactFieldSizesUptoRow : OpenClaim := { program := "ytbnggakfogcalac", sum := "57f7062ad9a279e2fcdaa4d677d062e5996861c56268d2a22507801ee79fdd50", func := "loop.example/iceharvest/laws.FnExactFieldSizes", spec := "fnExactFieldSizes", apart := false, narrowed := true }
def FnExactFieldSizesUptoSaid : Prop := fnExactFieldSizesUptoRow.holds Try.pinned (OpenSpec.upto fnExactFieldSizesSpec)

/-- 'laws.FnExactNarrowsOf', WHERE WHAT IT READS IS OF BULK AT MOST 1048576: true; the input reads as it did. -/
def fnExactNarrowsOfUptoRow : OpenClaim := { program := "ytbnggakfogcalac", sum := "57f7062ad9a279e2fcdaa4d677d062e5996861c56268d2a22507801ee79fdd50", func := "loop.example/iceharvest/laws.FnExactNarrowsOf", spec := "fnExactNarrowsOf", apart := false, narrowed := true }
def FnExactNarrowsOfUptoSaid : Prop := fnExactNarrowsOfUptoRow.holds Try.pinned (OpenSpec.upto fnExactNarrowsOfSpec)

/-- 'laws.FnExactRisksFrom', WHERE WHAT IT READS IS OF BULK AT MOST 1048576: true; the input reads as it did. -/
def fnExactRisksFromUptoRow : OpenClaim := { program := "ytbnggakfogcalac", sum := "57f7062ad9a279e2fcdaa4d677d062e5996861c56268d2a22507801ee79fdd50", func := "loop.example/iceharvest/laws.FnExactRisksFrom", spec := "fnExactRisksFrom", apart := false, narrowed := true }
def FnExactRisksFromUptoSaid : Prop := fnExactRisksFromUptoRow.holds Try.pinned (OpenSpec.upto fnExactRisksFromSpec)

/-- 'laws.FnExactWayTo', WHERE WHAT IT READS IS OF BULK AT MOST 1048576: true; the input reads as it did. -/
def fnExactWayToUptoRow : OpenClaim := { program := "ytbnggakfogcalac", sum := "57f7062ad9a279e2fcdaa4d677d062e5996861c56268d2a22507801ee79fdd50", func := "loop.example/iceharvest/laws.FnExactWayTo", spec := "fnExactWayTo", apart := false, narrowed := true }
def FnExactWayToUptoSaid : Prop := fnExactWayToUptoRow.holds Try.pinned (OpenSpec.upto fnExactWayToSpec)

/-- 'laws.FnExactGreatestLoad', WHERE WHAT IT READS IS OF BULK AT MOST 1048576: true; the input reads as it did. -/
def fnExactGreatestLoadUptoRow : OpenClaim := { program := "ytbnggakfogcalac", sum := "57f7062ad9a279e2fcdaa4d677d062e5996861c56268d2a22507801ee79fdd50", func := "loop.example/iceharvest/laws.FnExactGreatestLoad", spec := "fnExactGreatestLoad", apart := false, narrowed := true }
def FnExactGreatestLoadUptoSaid : Prop := fnExactGreatestLoadUptoRow.holds Try.pinned (OpenSpec.upto fnExactGreatestLoadSpec)

/-- 'laws.FnValidPond', WHERE WHAT IT READS IS OF BULK AT MOST 1048576: true; the input reads as it did. -/
def fnValidPondUptoRow : OpenClaim := { program := "ytbnggakfogcalac", sum := "57f7062ad9a279e2fcdaa4d677d062e5996861c56268d2a22507801ee79fdd50", func := "loop.example/iceharvest/laws.FnValidPond", spec := "fnValidPond", apart := false, narrowed := true }
def FnValidPondUptoSaid : Prop := fnValidPondUptoRow.holds Try.pinned (OpenSpec.upto fnValidPondSpec)

/-- 'laws.FnSafeCells', WHERE WHAT IT READS IS OF BULK AT MOST 1048576: true; the input reads as it did. -/
def fnSafeCellsUptoRow : OpenClaim := { program := "ytbnggakfogcalac", sum := "57f7062ad9a279e2fcdaa4d677d062e5996861c56268d2a22507801ee79fdd50", func := "loop.example/iceharvest/laws.FnSafeCells", spec := "fnSafeCells", apart := false, narrowed := true }
def FnSafeCellsUptoSaid : Prop := fnSafeCellsUptoRow.holds Try.pinned (OpenSpec.upto fnSafeCellsSpec)

/-- 'laws.FnGreatestLoad', WHERE WHAT IT READS IS OF BULK AT MOST 1048576: true; the input reads as it did. -/
def fnGreatestLoadUptoRow : OpenClaim := { program := "ytbnggakfogcalac", sum := "57f7062ad9a279e2fcdaa4d677d062e5996861c56268d2a22507801ee79fdd50", func := "loop.example/iceharvest/laws.FnGreatestLoad", spec := "fnGreatestLoad", apart := false, narrowed := true }
def FnGreatestLoadUptoSaid : Prop := fnGreatestLoadUptoRow.holds Try.pinned (OpenSpec.upto fnGreatestLoadSpec)

/-- 'laws.FnGreatestLoadBetween', WHERE WHAT IT READS IS OF BULK AT MOST 1048576: true; the input reads as it did. -/
def fnGreatestLoadBetweenUptoRow : OpenClaim := { program := "ytbnggakfogcalac", sum := "57f7062ad9a279e2fcdaa4d677d062e5996861c56268d2a22507801ee79fdd50", func := "loop.example/iceharvest/laws.FnGreatestLoadBetween", spec := "fnGreatestLoadBetween", apart := false, narrowed := true }
def FnGreatestLoadBetweenUptoSaid : Prop := fnGreatestLoadBetweenUptoRow.holds Try.pinned (OpenSpec.upto fnGreatestLoadBetweenSpec)

/-- 'laws.FnCutCell', WHERE WHAT IT READS IS OF BULK AT MOST 1048576: true; the input reads as it did. -/
def fnCutCellUptoRow : OpenClaim := { program := "ytbnggakfogcalac", sum := "57f7062ad9a279e2fcdaa4d677d062e5996861c56268d2a22507801ee79fdd50", func := "loop.example/iceharvest/laws.FnCutCell", spec := "fnCutCell", apart := false, narrowed := true }
def FnCutCellUptoSaid : Prop := fnCutCellUptoRow.holds Try.pinned (OpenSpec.upto fnCutCellSpec)

end Rows
end Go.Proofs.Ytbnggakfogcalac
