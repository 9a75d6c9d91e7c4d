/-
  No cell of these rows narrows 'for every input' (looked for: loops, veiled, ifaces, maps, wideKeys, modest, calm, conditions, laid).
  DERIVED. THE GIVEN ROWS OF THIS SEAT. 12 by the template 'for every input the law returns true; each argument reads behind the call as it read before'; 0 by the template 'total and deterministic' (their statements: YtbnggakfogcalabTotals.lean).
  GIVEN WITH THE SEED: the statements are not yours to turn. If you find one false, say at which input.
  Laid BY PROGRAM, IN A SANDBOX (cutbox-rows.mjs): the forced cells as the released guide's own fill.sh prints them over the translation fe85da885c1d82c6… (all of the seat's roots in one cut). By AI agents, Wed Nov 11 2026. No macro, syntax, notation, axiom, sorry.
-/
import Derived.Test.YtbnggakfogcalabChecked
import GoSem.Claim
import GoSem.ClaimJoined
import GoSem.ClaimMapViews
import Derived.JoinedTies
import Derived.KernelRfl
namespace Go.Proofs.Ytbnggakfogcalab
/- THE CELL 'sum', in the pinned program and in every row, IS THE sha256 OF THE DUMP (.gsa) THAT YtbnggakfogcalabProg.lean LOADS. Nothing in Lean hashes anything: it is a label: what it is worth is what the hold of that sum in a sandbox is worth. -/
noncomputable def Try.pinned : Pinned := { name := "ytbnggakfogcalab", sum := "fe85da885c1d82c643a81757669385c8577c8e1b69f25d0314a33792ca02360a", checked := Try.checked }
namespace Rows
def none {H : Type} : Left H := { results := [], args := [] }

/-- 'laws.FnExactCakesIn': WHATEVER THE INPUT: true; the input reads as it did. -/
def fnExactCakesInSpec : ChangeSpec := { name := "fnExactCakesIn", fn := fun _ => fun
  | [d] => { results := [.lit (.bool true)], args := [d] }
  | _ => none }
def fnExactCakesInRow : OpenClaim := { program := "ytbnggakfogcalab", sum := "fe85da885c1d82c643a81757669385c8577c8e1b69f25d0314a33792ca02360a", func := "loop.example/iceharvest/laws.FnExactCakesIn", spec := "fnExactCakesIn", apart := false }
def FnExactCakesInSaid : Prop := fnExactCakesInRow.holds Try.pinned (OpenSpec.ofChange fnExactCakesInSpec)

/-- ITS FALSE NEIGHBOUR: 'it returns false'. Refute it at one input. -/
def fnExactCakesInWrong : ChangeSpec := { name := "fnExactCakesIn", fn := fun _ => fun
  | [d] => { results := [.lit (.bool false)], args := [d] }
  | _ => none }
def FnExactCakesInWrongFalsely : Prop := fnExactCakesInRow.holds Try.pinned (OpenSpec.ofChange fnExactCakesInWrong)

/-- 'laws.FnExactFacesOf': WHATEVER THE INPUT: true; the input reads as it did. -/
def fnExactFacesOfSpec : ChangeSpec := { name := "fnExactFacesOf", fn := fun _ => fun
  | [d] => { results := [.lit (.bool true)], args := [d] }
  | _ => none }
def fnExactFacesOfRow : OpenClaim := { program := "ytbnggakfogcalab", sum := "fe85da885c1d82c643a81757669385c8577c8e1b69f25d0314a33792ca02360a", func := "loop.example/iceharvest/laws.FnExactFacesOf", spec := "fnExactFacesOf", apart := false }
def FnExactFacesOfSaid : Prop := fnExactFacesOfRow.holds Try.pinned (OpenSpec.ofChange fnExactFacesOfSpec)

/-- ITS FALSE NEIGHBOUR: 'it returns false'. Refute it at one input. -/
def fnExactFacesOfWrong : ChangeSpec := { name := "fnExactFacesOf", fn := fun _ => fun
  | [d] => { results := [.lit (.bool false)], args := [d] }
  | _ => none }
def FnExactFacesOfWrongFalsely : Prop := fnExactFacesOfRow.holds Try.pinned (OpenSpec.ofChange fnExactFacesOfWrong)

/-- 'laws.FnExactAddCake': WHATEVER THE INPUT: true; the input reads as it did. -/
def fnExactAddCakeSpec : ChangeSpec := { name := "fnExactAddCake", fn := fun _ => fun
  | [d1, d2] => { results := [.lit (.bool true)], args := [d1, d2] }
  | _ => none }
def fnExactAddCakeRow : OpenClaim := { program := "ytbnggakfogcalab", sum := "fe85da885c1d82c643a81757669385c8577c8e1b69f25d0314a33792ca02360a", func := "loop.example/iceharvest/laws.FnExactAddCake", spec := "fnExactAddCake", apart := false }
def FnExactAddCakeSaid : Prop := fnExactAddCakeRow.holds Try.pinned (OpenSpec.ofChange fnExactAddCakeSpec)

/-- ITS FALSE NEIGHBOUR: 'it returns false'. Refute it at one input. -/
def fnExactAddCakeWrong : ChangeSpec := { name := "fnExactAddCake", fn := fun _ => fun
  | [d1, d2] => { results := [.lit (.bool false)], args := [d1, d2] }
  | _ => none }
def FnExactAddCakeWrongFalsely : Prop := fnExactAddCakeRow.holds Try.pinned (OpenSpec.ofChange fnExactAddCakeWrong)

/-- 'laws.FnExactTakeCake': WHATEVER THE INPUT: true; the input reads as it did. -/
def fnExactTakeCakeSpec : ChangeSpec := { name := "fnExactTakeCake", fn := fun _ => fun
  | [d1, d2] => { results := [.lit (.bool true)], args := [d1, d2] }
  | _ => none }
def fnExactTakeCakeRow : OpenClaim := { program := "ytbnggakfogcalab", sum := "fe85da885c1d82c643a81757669385c8577c8e1b69f25d0314a33792ca02360a", func := "loop.example/iceharvest/laws.FnExactTakeCake", spec := "fnExactTakeCake", apart := false }
def FnExactTakeCakeSaid : Prop := fnExactTakeCakeRow.holds Try.pinned (OpenSpec.ofChange fnExactTakeCakeSpec)

/-- ITS FALSE NEIGHBOUR: 'it returns false'. Refute it at one input. -/
def fnExactTakeCakeWrong : ChangeSpec := { name := "fnExactTakeCake", fn := fun _ => fun
  | [d1, d2] => { results := [.lit (.bool false)], args := [d1, d2] }
  | _ => none }
def FnExactTakeCakeWrongFalsely : Prop := fnExactTakeCakeRow.holds Try.pinned (OpenSpec.ofChange fnExactTakeCakeWrong)

/-- 'laws.FnExactFillHouse': WHATEVER THE INPUT: true; the input reads as it did. -/
def fnExactFillHouseSpec : ChangeSpec := { name := "fnExactFillHouse", fn := fun _ => fun
  | [d1, d2, d3] => { results := [.lit (.bool true)], args := [d1, d2, d3] }
  | _ => none }
def fnExactFillHouseRow : OpenClaim := { program := "ytbnggakfogcalab", sum := "fe85da885c1d82c643a81757669385c8577c8e1b69f25d0314a33792ca02360a", func := "loop.example/iceharvest/laws.FnExactFillHouse", spec := "fnExactFillHouse", apart := false }
def FnExactFillHouseSaid : Prop := fnExactFillHouseRow.holds Try.pinned (OpenSpec.ofChange fnExactFillHouseSpec)

/-- ITS FALSE NEIGHBOUR: 'it returns false'. Refute it at one input. -/
def fnExactFillHouseWrong : ChangeSpec := { name := "fnExactFillHouse", fn := fun _ => fun
  | [d1, d2, d3] => { results := [.lit (.bool false)], args := [d1, d2, d3] }
  | _ => none }
def FnExactFillHouseWrongFalsely : Prop := fnExactFillHouseRow.holds Try.pinned (OpenSpec.ofChange fnExactFillHouseWrong)

/-- 'laws.FnExactBestBox': WHATEVER THE INPUT: true; the input reads as it did. -/
def fnExactBestBoxSpec : ChangeSpec := { name := "fnExactBestBox", fn := fun _ => fun
  | [d] => { results := [.lit (.bool true)], args := [d] }
  | _ => none }
def fnExactBestBoxRow : OpenClaim := { program := "ytbnggakfogcalab", sum := "fe85da885c1d82c643a81757669385c8577c8e1b69f25d0314a33792ca02360a", func := "loop.example/iceharvest/laws.FnExactBestBox", spec := "fnExactBestBox", apart := false }
def FnExactBestBoxSaid : Prop := fnExactBestBoxRow.holds Try.pinned (OpenSpec.ofChange fnExactBestBoxSpec)

/-- ITS FALSE NEIGHBOUR: 'it returns false'. Refute it at one input. -/
def fnExactBestBoxWrong : ChangeSpec := { name := "fnExactBestBox", fn := fun _ => fun
  | [d] => { results := [.lit (.bool false)], args := [d] }
  | _ => none }
def FnExactBestBoxWrongFalsely : Prop := fnExactBestBoxRow.holds Try.pinned (OpenSpec.ofChange fnExactBestBoxWrong)

/-- 'laws.FnExactMeltDay': WHATEVER THE INPUT: true; the input reads as it did. -/
def fnExactMeltDaySpec : ChangeSpec := { name := "fnExactMeltDay", fn := fun _ => fun
  | [d] => { results := [.lit (.bool true)], args := [d] }
  | _ => none }
def fnExactMeltDayRow : OpenClaim := { program := "ytbnggakfogcalab", sum := "fe85da885c1d82c643a81757669385c8577c8e1b69f25d0314a33792ca02360a", func := "loop.example/iceharvest/laws.FnExactMeltDay", spec := "fnExactMeltDay", apart := false }
def FnExactMeltDaySaid : Prop := fnExactMeltDayRow.holds Try.pinned (OpenSpec.ofChange fnExactMeltDaySpec)

/-- ITS FALSE NEIGHBOUR: 'it returns false'. Refute it at one input. -/
def fnExactMeltDayWrong : ChangeSpec := { name := "fnExactMeltDay", fn := fun _ => fun
  | [d] => { results := [.lit (.bool false)], args := [d] }
  | _ => none }
def FnExactMeltDayWrongFalsely : Prop := fnExactMeltDayRow.holds Try.pinned (OpenSpec.ofChange fnExactMeltDayWrong)

/-- 'laws.FnExactMeltDays': WHATEVER THE INPUT: true; the input reads as it did. -/
def fnExactMeltDaysSpec : ChangeSpec := { name := "fnExactMeltDays", fn := fun _ => fun
  | [d1, d2] => { results := [.lit (.bool true)], args := [d1, d2] }
  | _ => none }
def fnExactMeltDaysRow : OpenClaim := { program := "ytbnggakfogcalab", sum := "fe85da885c1d82c643a81757669385c8577c8e1b69f25d0314a33792ca02360a", func := "loop.example/iceharvest/laws.FnExactMeltDays", spec := "fnExactMeltDays", apart := false }
def FnExactMeltDaysSaid : Prop := fnExactMeltDaysRow.holds Try.pinned (OpenSpec.ofChange fnExactMeltDaysSpec)

/-- ITS FALSE NEIGHBOUR: 'it returns false'. Refute it at one input. -/
def fnExactMeltDaysWrong : ChangeSpec := { name := "fnExactMeltDays", fn := fun _ => fun
  | [d1, d2] => { results := [.lit (.bool false)], args := [d1, d2] }
  | _ => none }
def FnExactMeltDaysWrongFalsely : Prop := fnExactMeltDaysRow.holds Try.pinned (OpenSpec.ofChange fnExactMeltDaysWrong)

/-- 'laws.FnExactDaysLeft': WHATEVER THE INPUT: true; the input reads as it did. -/
def fnExactDaysLeftSpec : ChangeSpec := { name := "fnExactDaysLeft", fn := fun _ => fun
  | [d1, d2] => { results := [.lit (.bool true)], args := [d1, d2] }
  | _ => none }
def fnExactDaysLeftRow : OpenClaim := { program := "ytbnggakfogcalab", sum := "fe85da885c1d82c643a81757669385c8577c8e1b69f25d0314a33792ca02360a", func := "loop.example/iceharvest/laws.FnExactDaysLeft", spec := "fnExactDaysLeft", apart := false }
def FnExactDaysLeftSaid : Prop := fnExactDaysLeftRow.holds Try.pinned (OpenSpec.ofChange fnExactDaysLeftSpec)

/-- ITS FALSE NEIGHBOUR: 'it returns false'. Refute it at one input. -/
def fnExactDaysLeftWrong : ChangeSpec := { name := "fnExactDaysLeft", fn := fun _ => fun
  | [d1, d2] => { results := [.lit (.bool false)], args := [d1, d2] }
  | _ => none }
def FnExactDaysLeftWrongFalsely : Prop := fnExactDaysLeftRow.holds Try.pinned (OpenSpec.ofChange fnExactDaysLeftWrong)

/-- 'laws.FnExactCutCell': WHATEVER THE INPUT: true; the input reads as it did. -/
def fnExactCutCellSpec : ChangeSpec := { name := "fnExactCutCell", fn := fun _ => fun
  | [d1, d2] => { results := [.lit (.bool true)], args := [d1, d2] }
  | _ => none }
def fnExactCutCellRow : OpenClaim := { program := "ytbnggakfogcalab", sum := "fe85da885c1d82c643a81757669385c8577c8e1b69f25d0314a33792ca02360a", func := "loop.example/iceharvest/laws.FnExactCutCell", spec := "fnExactCutCell", apart := false }
def FnExactCutCellSaid : Prop := fnExactCutCellRow.holds Try.pinned (OpenSpec.ofChange fnExactCutCellSpec)

/-- ITS FALSE NEIGHBOUR: 'it returns false'. Refute it at one input. -/
def fnExactCutCellWrong : ChangeSpec := { name := "fnExactCutCell", fn := fun _ => fun
  | [d1, d2] => { results := [.lit (.bool false)], args := [d1, d2] }
  | _ => none }
def FnExactCutCellWrongFalsely : Prop := fnExactCutCellRow.holds Try.pinned (OpenSpec.ofChange fnExactCutCellWrong)

/-- 'laws.FnExactGrowPond': WHATEVER THE INPUT: true; the input reads as it did. -/
def fnExactGrowPondSpec : ChangeSpec := { name := "fnExactGrowPond", fn := fun _ => fun
  | [d1, d2] => { results := [.lit (.bool true)], args := [d1, d2] }
  | _ => none }
def fnExactGrowPondRow : OpenClaim := { program := "ytbnggakfogcalab", sum := "fe85da885c1d82c643a81757669385c8577c8e1b69f25d0314a33792ca02360a", func := "loop.example/iceharvest/laws.FnExactGrowPond", spec := "fnExactGrowPond", apart := false }
def FnExactGrowPondSaid : Prop := fnExactGrowPondRow.holds Try.pinned (OpenSpec.ofChange fnExactGrowPondSpec)

/-- ITS FALSE NEIGHBOUR: 'it returns false'. Refute it at one input. -/
def fnExactGrowPondWrong : ChangeSpec := { name := "fnExactGrowPond", fn := fun _ => fun
  | [d1, d2] => { results := [.lit (.bool false)], args := [d1, d2] }
  | _ => none }
def FnExactGrowPondWrongFalsely : Prop := fnExactGrowPondRow.holds Try.pinned (OpenSpec.ofChange fnExactGrowPondWrong)

/-- 'laws.FnExactValidPond': WHATEVER THE INPUT: true; the input reads as it did. -/
def fnExactValidPondSpec : ChangeSpec := { name := "fnExactValidPond", fn := fun _ => fun
  | [d] => { results := [.lit (.bool true)], args := [d] }
  | _ => none }
def fnExactValidPondRow : OpenClaim := { program := "ytbnggakfogcalab", sum := "fe85da885c1d82c643a81757669385c8577c8e1b69f25d0314a33792ca02360a", func := "loop.example/iceharvest/laws.FnExactValidPond", spec := "fnExactValidPond", apart := false }
def FnExactValidPondSaid : Prop := fnExactValidPondRow.holds Try.pinned (OpenSpec.ofChange fnExactValidPondSpec)

/-- ITS FALSE NEIGHBOUR: 'it returns false'. Refute it at one input. -/
def fnExactValidPondWrong : ChangeSpec := { name := "fnExactValidPond", fn := fun _ => fun
  | [d] => { results := [.lit (.bool false)], args := [d] }
  | _ => none }
def FnExactValidPondWrongFalsely : Prop := fnExactValidPondRow.holds Try.pinned (OpenSpec.ofChange fnExactValidPondWrong)

/- THE SECOND FORM. 'bulk': how many values and letters a reading holds, each counted each time it is reached (what is shared counts as often as it is met; a slice's spare places count too). A statement '..UptoSaid' is the law's where the arguments, and the package variables that the reading takes, are together of bulk at most 1048576: NARROWER than '..Said'. Prove '..Said' where nothing that the law and all that it calls make is longer than what came in: it says more and counts as full. Else prove '..UptoSaid'. A law counts once. -/
mutual
def uptoBulk {H : Type} : DataW H → Nat
  | .lit (.string bytes) => bytes.length + 1
  | .lit _ => 1
  | .nil => 1
  | .ptr d => uptoBulk d + 1
  | .slice elems spare => uptoBulkAll elems + uptoBulkAll spare + 1
  | .agg parts => uptoBulkAll parts + 1
  | .iface _ d => uptoBulk d + 1
  | .map entries => uptoBulkEntries entries + 1
  | .held _ => 1
def uptoBulkAll {H : Type} : List (DataW H) → Nat
  | [] => 0
  | d :: r => uptoBulk d + uptoBulkAll r
def uptoBulkEntries {H : Type} : List (Lit × DataW H) → Nat
  | [] => 0
  | x :: r => uptoBulkEntry x + uptoBulkEntries r
def uptoBulkEntry {H : Type} : Lit × DataW H → Nat
  | (.string bytes, d) => bytes.length + uptoBulk d + 1
  | (_, d) => uptoBulk d + 1
 end
def uptoSmall : (H : Type) → List (DataW H) → Bool := fun _ ds => decide (uptoBulkAll ds ≤ 1048576)
def OpenSpec.upto (s : _root_.Go.ChangeSpec) : _root_.Go.OpenSpec := { _root_.Go.OpenSpec.ofChange s with cond := some uptoSmall }

/-- 'laws.FnExactCakesIn', WHERE WHAT IT READS IS OF BULK AT MOST 1048576: true; the input reads as it did. -/
def fnExactCakesInUptoRow : OpenClaim := { program := "ytbnggakfogcalab", sum := "fe85da885c1d82c643a81757669385c8577c8e1b69f25d0314a33792ca02360a", func := "loop.example/iceharvest/laws.FnExactCakesIn", spec := "fnExactCakesIn", apart := false, narrowed := true }
def FnExactCakesInUptoSaid : Prop := fnExactCakesInUptoRow.holds Try.pinned (OpenSpec.upto fnExactCakesInSpec)

/-- 'laws.FnExactFacesOf', WHERE WHAT IT READS IS OF BULK AT MOST 1048576: true; the input reads as it did. -/
def fnExactFacesOfUptoRow : OpenClaim := { program := "ytbnggakfogcalab", sum := "fe85da885c1d82c643a81757669385c8577c8e1b69f25d0314a33792ca02360a", func := "loop.example/iceharvest/laws.FnExactFacesOf", spec := "fnExactFacesOf", apart := false, narrowed := true }
def FnExactFacesOfUptoSaid : Prop := fnExactFacesOfUptoRow.holds Try.pinned (OpenSpec.upto fnExactFacesOfSpec)

/-- 'laws.FnExactAddCake', WHERE WHAT IT READS IS OF BULK AT MOST 1048576: true; the input reads as it did. -/
def fnExactAddCakeUptoRow : OpenClaim := { program := "ytbnggakfogcalab", sum := "fe85da885c1d82c643a81757669385c8577c8e1b69f25d0314a33792ca02360a", func := "loop.example/iceharvest/laws.FnExactAddCake", spec := "fnExactAddCake", apart := false, narrowed := true }
def FnExactAddCakeUptoSaid : Prop := fnExactAddCakeUptoRow.holds Try.pinned (OpenSpec.upto fnExactAddCakeSpec)

/-- 'laws.FnExactTakeCake', WHERE WHAT IT READS IS OF BULK AT MOST 1048576: true; the input reads as it did. -/
def fnExactTakeCakeUptoRow : OpenClaim := { program := "ytbnggakfogcalab", sum := "fe85da885c1d82c643a81757669385c8577c8e1b69f25d0314a33792ca02360a", func := "loop.example/iceharvest/laws.FnExactTakeCake", spec := "fnExactTakeCake", apart := false, narrowed := true }
def FnExactTakeCakeUptoSaid : Prop := fnExactTakeCakeUptoRow.holds Try.pinned (OpenSpec.upto fnExactTakeCakeSpec)

/-- 'laws.FnExactFillHouse', WHERE WHAT IT READS IS OF BULK AT MOST 1048576: true; the input reads as it did. -/
def fnExactFillHouseUptoRow : OpenClaim := { program := "ytbnggakfogcalab", sum := "fe85da885c1d82c643a81757669385c8577c8e1b69f25d0314a33792ca02360a", func := "loop.example/iceharvest/laws.FnExactFillHouse", spec := "fnExactFillHouse", apart := false, narrowed := true }
def FnExactFillHouseUptoSaid : Prop := fnExactFillHouseUptoRow.holds Try.pinned (OpenSpec.upto fnExactFillHouseSpec)

/-- 'laws.FnExactBestBox', WHERE WHAT IT READS IS OF BULK AT MOST 1048576: true; the input reads as it did. -/
def fnExactBestBoxUptoRow : OpenClaim := { program := "ytbnggakfogcalab", sum := "fe85da885c1d82c643a81757669385c8577c8e1b69f25d0314a33792ca02360a", func := "loop.example/iceharvest/laws.FnExactBestBox", spec := "fnExactBestBox", apart := false, narrowed := true }
def FnExactBestBoxUptoSaid : Prop := fnExactBestBoxUptoRow.holds Try.pinned (OpenSpec.upto fnExactBestBoxSpec)

/-- 'laws.FnExactMeltDay', WHERE WHAT IT READS IS OF BULK AT MOST 1048576: true; the input reads as it did. -/
def fnExactMeltDayUptoRow : OpenClaim := { program := "ytbnggakfogcalab", sum := "fe85da885c1d82c643a81757669385c8577c8e1b69f25d0314a33792ca02360a", func := "loop.example/iceharvest/laws.FnExactMeltDay", spec := "fnExactMeltDay", apart := false, narrowed := true }
def FnExactMeltDayUptoSaid : Prop := fnExactMeltDayUptoRow.holds Try.pinned (OpenSpec.upto fnExactMeltDaySpec)

/-- 'laws.FnExactMeltDays', WHERE WHAT IT READS IS OF BULK AT MOST 1048576: true; the input reads as it did. -/
def fnExactMeltDaysUptoRow : OpenClaim := { program := "ytbnggakfogcalab", sum := "fe85da885c1d82c643a81757669385c8577c8e1b69f25d0314a33792ca02360a", func := "loop.example/iceharvest/laws.FnExactMeltDays", spec := "fnExactMeltDays", apart := false, narrowed := true }
def FnExactMeltDaysUptoSaid : Prop := fnExactMeltDaysUptoRow.holds Try.pinned (OpenSpec.upto fnExactMeltDaysSpec)

/-- 'laws.FnExactDaysLeft', WHERE WHAT IT READS IS OF BULK AT MOST 1048576: true; the input reads as it did. -/
def fnExactDaysLeftUptoRow : OpenClaim := { program := "ytbnggakfogcalab", sum := "fe85da885c1d82c643a81757669385c8577c8e1b69f25d0314a33792ca02360a", func := "loop.example/iceharvest/laws.FnExactDaysLeft", spec := "fnExactDaysLeft", apart := false, narrowed := true }
def FnExactDaysLeftUptoSaid : Prop := fnExactDaysLeftUptoRow.holds Try.pinned (OpenSpec.upto fnExactDaysLeftSpec)

/-- 'laws.FnExactCutCell', WHERE WHAT IT READS IS OF BULK AT MOST 1048576: true; the input reads as it did. -/
def fnExactCutCellUptoRow : OpenClaim := { program := "ytbnggakfogcalab", sum := "fe85da885c1d82c643a81757669385c8577c8e1b69f25d0314a33792ca02360a", func := "loop.example/iceharvest/laws.FnExactCutCell", spec := "fnExactCutCell", apart := false, narrowed := true }
def FnExactCutCellUptoSaid : Prop := fnExactCutCellUptoRow.holds Try.pinned (OpenSpec.upto fnExactCutCellSpec)

/-- 'laws.FnExactGrowPond', WHERE WHAT IT READS IS OF BULK AT MOST 1048576: true; the input reads as it did. -/
def fnExactGrowPondUptoRow : OpenClaim := { program := "ytbnggakfogcalab", sum := "fe85da885c1d82c643a81757669385c8577c8e1b69f25d0314a33792ca02360a", func := "loop.example/iceharvest/laws.FnExactGrowPond", spec := "fnExactGrowPond", apart := false, narrowed := true }
def FnExactGrowPondUptoSaid : Prop := fnExactGrowPondUptoRow.holds Try.pinned (OpenSpec.upto fnExactGrowPondSpec)

/-- 'laws.FnExactValidPond', WHERE WHAT IT READS IS OF BULK AT MOST 1048576: true; the input reads as it did. -/
def fnExactValidPondUptoRow : OpenClaim := { program := "ytbnggakfogcalab", sum := "fe85da885c1d82c643a81757669385c8577c8e1b69f25d0314a33792ca02360a", func := "loop.example/iceharvest/laws.FnExactValidPond", spec := "fnExactValidPond", apart := false, narrowed := true }
def FnExactValidPondUptoSaid : Prop := fnExactValidPondUptoRow.holds Try.pinned (OpenSpec.upto fnExactValidPondSpec)

end Rows
end Go.Proofs.Ytbnggakfogcalab
