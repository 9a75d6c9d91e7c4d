/-
  No cell of these rows narrows 'for every input' (looked for: loops, veiled, ifaces, maps, wideKeys, modest, calm, conditions, laid).
  DERIVED. THE GIVEN ROWS OF THIS SEAT. 12 by the template 'for every input the law returns true; each argument reads behind the call as it read before'; 0 by the template 'total and deterministic' (their statements: YtbnggakfogcalaaTotals.lean).
  GIVEN WITH THE SEED: the statements are not yours to turn. If you find one false, say at which input.
  Laid BY PROGRAM, IN A SANDBOX (cutbox-rows.mjs): the forced cells as the released guide's own fill.sh prints them over the translation 229c6aaa8ce0d334… (all of the seat's roots in one cut). By AI agents, Wed Nov 11 2026. No macro, syntax, notation, axiom, sorry.
-/
import Derived.Test.YtbnggakfogcalaaChecked
import GoSem.Claim
import GoSem.ClaimJoined
import GoSem.ClaimMapViews
import Derived.JoinedTies
import Derived.KernelRfl
namespace Go.Proofs.Ytbnggakfogcalaa
/- THE CELL 'sum', in the pinned program and in every row, IS THE sha256 OF THE DUMP (.gsa) THAT YtbnggakfogcalaaProg.lean LOADS. Nothing in Lean hashes anything: it is a label: what it is worth is what the hold of that sum in a sandbox is worth. -/
noncomputable def Try.pinned : Pinned := { name := "ytbnggakfogcalaa", sum := "229c6aaa8ce0d334b4f0425c8a02f84eecb5bcd285b2b3006f0d37ede6452d24", checked := Try.checked }
namespace Rows
def none {H : Type} : Left H := { results := [], args := [] }

/-- 'laws.FnValidHeap': WHATEVER THE INPUT: true; the input reads as it did. -/
def fnValidHeapSpec : ChangeSpec := { name := "fnValidHeap", fn := fun _ => fun
  | [d] => { results := [.lit (.bool true)], args := [d] }
  | _ => none }
def fnValidHeapRow : OpenClaim := { program := "ytbnggakfogcalaa", sum := "229c6aaa8ce0d334b4f0425c8a02f84eecb5bcd285b2b3006f0d37ede6452d24", func := "loop.example/iceharvest/laws.FnValidHeap", spec := "fnValidHeap", apart := false }
def FnValidHeapSaid : Prop := fnValidHeapRow.holds Try.pinned (OpenSpec.ofChange fnValidHeapSpec)

/-- ITS FALSE NEIGHBOUR: 'it returns false'. Refute it at one input. -/
def fnValidHeapWrong : ChangeSpec := { name := "fnValidHeap", fn := fun _ => fun
  | [d] => { results := [.lit (.bool false)], args := [d] }
  | _ => none }
def FnValidHeapWrongFalsely : Prop := fnValidHeapRow.holds Try.pinned (OpenSpec.ofChange fnValidHeapWrong)

/-- 'laws.FnCakesIn': WHATEVER THE INPUT: true; the input reads as it did. -/
def fnCakesInSpec : ChangeSpec := { name := "fnCakesIn", fn := fun _ => fun
  | [d] => { results := [.lit (.bool true)], args := [d] }
  | _ => none }
def fnCakesInRow : OpenClaim := { program := "ytbnggakfogcalaa", sum := "229c6aaa8ce0d334b4f0425c8a02f84eecb5bcd285b2b3006f0d37ede6452d24", func := "loop.example/iceharvest/laws.FnCakesIn", spec := "fnCakesIn", apart := false }
def FnCakesInSaid : Prop := fnCakesInRow.holds Try.pinned (OpenSpec.ofChange fnCakesInSpec)

/-- ITS FALSE NEIGHBOUR: 'it returns false'. Refute it at one input. -/
def fnCakesInWrong : ChangeSpec := { name := "fnCakesIn", fn := fun _ => fun
  | [d] => { results := [.lit (.bool false)], args := [d] }
  | _ => none }
def FnCakesInWrongFalsely : Prop := fnCakesInRow.holds Try.pinned (OpenSpec.ofChange fnCakesInWrong)

/-- 'laws.FnFacesOf': WHATEVER THE INPUT: true; the input reads as it did. -/
def fnFacesOfSpec : ChangeSpec := { name := "fnFacesOf", fn := fun _ => fun
  | [d] => { results := [.lit (.bool true)], args := [d] }
  | _ => none }
def fnFacesOfRow : OpenClaim := { program := "ytbnggakfogcalaa", sum := "229c6aaa8ce0d334b4f0425c8a02f84eecb5bcd285b2b3006f0d37ede6452d24", func := "loop.example/iceharvest/laws.FnFacesOf", spec := "fnFacesOf", apart := false }
def FnFacesOfSaid : Prop := fnFacesOfRow.holds Try.pinned (OpenSpec.ofChange fnFacesOfSpec)

/-- ITS FALSE NEIGHBOUR: 'it returns false'. Refute it at one input. -/
def fnFacesOfWrong : ChangeSpec := { name := "fnFacesOf", fn := fun _ => fun
  | [d] => { results := [.lit (.bool false)], args := [d] }
  | _ => none }
def FnFacesOfWrongFalsely : Prop := fnFacesOfRow.holds Try.pinned (OpenSpec.ofChange fnFacesOfWrong)

/-- 'laws.FnAddCake': WHATEVER THE INPUT: true; the input reads as it did. -/
def fnAddCakeSpec : ChangeSpec := { name := "fnAddCake", fn := fun _ => fun
  | [d] => { results := [.lit (.bool true)], args := [d] }
  | _ => none }
def fnAddCakeRow : OpenClaim := { program := "ytbnggakfogcalaa", sum := "229c6aaa8ce0d334b4f0425c8a02f84eecb5bcd285b2b3006f0d37ede6452d24", func := "loop.example/iceharvest/laws.FnAddCake", spec := "fnAddCake", apart := false }
def FnAddCakeSaid : Prop := fnAddCakeRow.holds Try.pinned (OpenSpec.ofChange fnAddCakeSpec)

/-- ITS FALSE NEIGHBOUR: 'it returns false'. Refute it at one input. -/
def fnAddCakeWrong : ChangeSpec := { name := "fnAddCake", fn := fun _ => fun
  | [d] => { results := [.lit (.bool false)], args := [d] }
  | _ => none }
def FnAddCakeWrongFalsely : Prop := fnAddCakeRow.holds Try.pinned (OpenSpec.ofChange fnAddCakeWrong)

/-- 'laws.FnTakeCake': WHATEVER THE INPUT: true; the input reads as it did. -/
def fnTakeCakeSpec : ChangeSpec := { name := "fnTakeCake", fn := fun _ => fun
  | [d] => { results := [.lit (.bool true)], args := [d] }
  | _ => none }
def fnTakeCakeRow : OpenClaim := { program := "ytbnggakfogcalaa", sum := "229c6aaa8ce0d334b4f0425c8a02f84eecb5bcd285b2b3006f0d37ede6452d24", func := "loop.example/iceharvest/laws.FnTakeCake", spec := "fnTakeCake", apart := false }
def FnTakeCakeSaid : Prop := fnTakeCakeRow.holds Try.pinned (OpenSpec.ofChange fnTakeCakeSpec)

/-- ITS FALSE NEIGHBOUR: 'it returns false'. Refute it at one input. -/
def fnTakeCakeWrong : ChangeSpec := { name := "fnTakeCake", fn := fun _ => fun
  | [d] => { results := [.lit (.bool false)], args := [d] }
  | _ => none }
def FnTakeCakeWrongFalsely : Prop := fnTakeCakeRow.holds Try.pinned (OpenSpec.ofChange fnTakeCakeWrong)

/-- 'laws.FnFillHouse': WHATEVER THE INPUT: true; the input reads as it did. -/
def fnFillHouseSpec : ChangeSpec := { name := "fnFillHouse", fn := fun _ => fun
  | [d] => { results := [.lit (.bool true)], args := [d] }
  | _ => none }
def fnFillHouseRow : OpenClaim := { program := "ytbnggakfogcalaa", sum := "229c6aaa8ce0d334b4f0425c8a02f84eecb5bcd285b2b3006f0d37ede6452d24", func := "loop.example/iceharvest/laws.FnFillHouse", spec := "fnFillHouse", apart := false }
def FnFillHouseSaid : Prop := fnFillHouseRow.holds Try.pinned (OpenSpec.ofChange fnFillHouseSpec)

/-- ITS FALSE NEIGHBOUR: 'it returns false'. Refute it at one input. -/
def fnFillHouseWrong : ChangeSpec := { name := "fnFillHouse", fn := fun _ => fun
  | [d] => { results := [.lit (.bool false)], args := [d] }
  | _ => none }
def FnFillHouseWrongFalsely : Prop := fnFillHouseRow.holds Try.pinned (OpenSpec.ofChange fnFillHouseWrong)

/-- 'laws.FnBestBox': WHATEVER THE INPUT: true; the input reads as it did. -/
def fnBestBoxSpec : ChangeSpec := { name := "fnBestBox", fn := fun _ => fun
  | [d] => { results := [.lit (.bool true)], args := [d] }
  | _ => none }
def fnBestBoxRow : OpenClaim := { program := "ytbnggakfogcalaa", sum := "229c6aaa8ce0d334b4f0425c8a02f84eecb5bcd285b2b3006f0d37ede6452d24", func := "loop.example/iceharvest/laws.FnBestBox", spec := "fnBestBox", apart := false }
def FnBestBoxSaid : Prop := fnBestBoxRow.holds Try.pinned (OpenSpec.ofChange fnBestBoxSpec)

/-- ITS FALSE NEIGHBOUR: 'it returns false'. Refute it at one input. -/
def fnBestBoxWrong : ChangeSpec := { name := "fnBestBox", fn := fun _ => fun
  | [d] => { results := [.lit (.bool false)], args := [d] }
  | _ => none }
def FnBestBoxWrongFalsely : Prop := fnBestBoxRow.holds Try.pinned (OpenSpec.ofChange fnBestBoxWrong)

/-- 'laws.FnMeltDay': WHATEVER THE INPUT: true; the input reads as it did. -/
def fnMeltDaySpec : ChangeSpec := { name := "fnMeltDay", fn := fun _ => fun
  | [d] => { results := [.lit (.bool true)], args := [d] }
  | _ => none }
def fnMeltDayRow : OpenClaim := { program := "ytbnggakfogcalaa", sum := "229c6aaa8ce0d334b4f0425c8a02f84eecb5bcd285b2b3006f0d37ede6452d24", func := "loop.example/iceharvest/laws.FnMeltDay", spec := "fnMeltDay", apart := false }
def FnMeltDaySaid : Prop := fnMeltDayRow.holds Try.pinned (OpenSpec.ofChange fnMeltDaySpec)

/-- ITS FALSE NEIGHBOUR: 'it returns false'. Refute it at one input. -/
def fnMeltDayWrong : ChangeSpec := { name := "fnMeltDay", fn := fun _ => fun
  | [d] => { results := [.lit (.bool false)], args := [d] }
  | _ => none }
def FnMeltDayWrongFalsely : Prop := fnMeltDayRow.holds Try.pinned (OpenSpec.ofChange fnMeltDayWrong)

/-- 'laws.FnMeltDays': WHATEVER THE INPUT: true; the input reads as it did. -/
def fnMeltDaysSpec : ChangeSpec := { name := "fnMeltDays", fn := fun _ => fun
  | [d] => { results := [.lit (.bool true)], args := [d] }
  | _ => none }
def fnMeltDaysRow : OpenClaim := { program := "ytbnggakfogcalaa", sum := "229c6aaa8ce0d334b4f0425c8a02f84eecb5bcd285b2b3006f0d37ede6452d24", func := "loop.example/iceharvest/laws.FnMeltDays", spec := "fnMeltDays", apart := false }
def FnMeltDaysSaid : Prop := fnMeltDaysRow.holds Try.pinned (OpenSpec.ofChange fnMeltDaysSpec)

/-- ITS FALSE NEIGHBOUR: 'it returns false'. Refute it at one input. -/
def fnMeltDaysWrong : ChangeSpec := { name := "fnMeltDays", fn := fun _ => fun
  | [d] => { results := [.lit (.bool false)], args := [d] }
  | _ => none }
def FnMeltDaysWrongFalsely : Prop := fnMeltDaysRow.holds Try.pinned (OpenSpec.ofChange fnMeltDaysWrong)

/-- 'laws.FnDaysLeft': WHATEVER THE INPUT: true; the input reads as it did. -/
def fnDaysLeftSpec : ChangeSpec := { name := "fnDaysLeft", fn := fun _ => fun
  | [d] => { results := [.lit (.bool true)], args := [d] }
  | _ => none }
def fnDaysLeftRow : OpenClaim := { program := "ytbnggakfogcalaa", sum := "229c6aaa8ce0d334b4f0425c8a02f84eecb5bcd285b2b3006f0d37ede6452d24", func := "loop.example/iceharvest/laws.FnDaysLeft", spec := "fnDaysLeft", apart := false }
def FnDaysLeftSaid : Prop := fnDaysLeftRow.holds Try.pinned (OpenSpec.ofChange fnDaysLeftSpec)

/-- ITS FALSE NEIGHBOUR: 'it returns false'. Refute it at one input. -/
def fnDaysLeftWrong : ChangeSpec := { name := "fnDaysLeft", fn := fun _ => fun
  | [d] => { results := [.lit (.bool false)], args := [d] }
  | _ => none }
def FnDaysLeftWrongFalsely : Prop := fnDaysLeftRow.holds Try.pinned (OpenSpec.ofChange fnDaysLeftWrong)

/-- 'laws.FnDaysLeftBox': WHATEVER THE INPUT: true; the input reads as it did. -/
def fnDaysLeftBoxSpec : ChangeSpec := { name := "fnDaysLeftBox", fn := fun _ => fun
  | [d] => { results := [.lit (.bool true)], args := [d] }
  | _ => none }
def fnDaysLeftBoxRow : OpenClaim := { program := "ytbnggakfogcalaa", sum := "229c6aaa8ce0d334b4f0425c8a02f84eecb5bcd285b2b3006f0d37ede6452d24", func := "loop.example/iceharvest/laws.FnDaysLeftBox", spec := "fnDaysLeftBox", apart := false }
def FnDaysLeftBoxSaid : Prop := fnDaysLeftBoxRow.holds Try.pinned (OpenSpec.ofChange fnDaysLeftBoxSpec)

/-- ITS FALSE NEIGHBOUR: 'it returns false'. Refute it at one input. -/
def fnDaysLeftBoxWrong : ChangeSpec := { name := "fnDaysLeftBox", fn := fun _ => fun
  | [d] => { results := [.lit (.bool false)], args := [d] }
  | _ => none }
def FnDaysLeftBoxWrongFalsely : Prop := fnDaysLeftBoxRow.holds Try.pinned (OpenSpec.ofChange fnDaysLeftBoxWrong)

/-- 'laws.FnExactValidHeap': WHATEVER THE INPUT: true; the input reads as it did. -/
def fnExactValidHeapSpec : ChangeSpec := { name := "fnExactValidHeap", fn := fun _ => fun
  | [d] => { results := [.lit (.bool true)], args := [d] }
  | _ => none }
def fnExactValidHeapRow : OpenClaim := { program := "ytbnggakfogcalaa", sum := "229c6aaa8ce0d334b4f0425c8a02f84eecb5bcd285b2b3006f0d37ede6452d24", func := "loop.example/iceharvest/laws.FnExactValidHeap", spec := "fnExactValidHeap", apart := false }
def FnExactValidHeapSaid : Prop := fnExactValidHeapRow.holds Try.pinned (OpenSpec.ofChange fnExactValidHeapSpec)

/-- ITS FALSE NEIGHBOUR: 'it returns false'. Refute it at one input. -/
def fnExactValidHeapWrong : ChangeSpec := { name := "fnExactValidHeap", fn := fun _ => fun
  | [d] => { results := [.lit (.bool false)], args := [d] }
  | _ => none }
def FnExactValidHeapWrongFalsely : Prop := fnExactValidHeapRow.holds Try.pinned (OpenSpec.ofChange fnExactValidHeapWrong)

/- THE SECOND FORM. 'bulk': how many values and letters a reading holds, each counted each time it is reached (what is shared counts as often as it is met; a slice's spare places count too). A statement '..UptoSaid' is the law's where the arguments, and the package variables that the reading takes, are together of bulk at most 1048576: NARROWER than '..Said'. Prove '..Said' where nothing that the law and all that it calls make is longer than what came in: it says more and counts as full. Else prove '..UptoSaid'. A law counts once. -/
mutual
def uptoBulk {H : Type} : DataW H → Nat
  | .lit (.string bytes) => bytes.length + 1
  | .lit _ => 1
  | .nil => 1
  | .ptr d => uptoBulk d + 1
  | .slice elems spare => uptoBulkAll elems + uptoBulkAll spare + 1
  | .agg parts => uptoBulkAll parts + 1
  | .iface _ d => uptoBulk d + 1
  | .map entries => uptoBulkEntries entries + 1
  | .held _ => 1
def uptoBulkAll {H : Type} : List (DataW H) → Nat
  | [] => 0
  | d :: r => uptoBulk d + uptoBulkAll r
def uptoBulkEntries {H : Type} : List (Lit × DataW H) → Nat
  | [] => 0
  | x :: r => uptoBulkEntry x + uptoBulkEntries r
def uptoBulkEntry {H : Type} : Lit × DataW H → Nat
  | (.string bytes, d) => bytes.length + uptoBulk d + 1
  | (_, d) => uptoBulk d + 1
 end
def uptoSmall : (H : Type) → List (DataW H) → Bool := fun _ ds => decide (uptoBulkAll ds ≤ 1048576)
def OpenSpec.upto (s : _root_.Go.ChangeSpec) : _root_.Go.OpenSpec := { _root_.Go.OpenSpec.ofChange s with cond := some uptoSmall }

/-- 'laws.FnValidHeap', WHERE WHAT IT READS IS OF BULK AT MOST 1048576: true; the input reads as it did. -/
def fnValidHeapUptoRow : OpenClaim := { program := "ytbnggakfogcalaa", sum := "229c6aaa8ce0d334b4f0425c8a02f84eecb5bcd285b2b3006f0d37ede6452d24", func := "loop.example/iceharvest/laws.FnValidHeap", spec := "fnValidHeap", apart := false, narrowed := true }
def FnValidHeapUptoSaid : Prop := fnValidHeapUptoRow.holds Try.pinned (OpenSpec.upto fnValidHeapSpec)

/-- 'laws.FnCakesIn', WHERE WHAT IT READS IS OF BULK AT MOST 1048576: true; the input reads as it did. -/
def fnCakesInUptoRow : OpenClaim := { program := "ytbnggakfogcalaa", sum := "229c6aaa8ce0d334b4f0425c8a02f84eecb5bcd285b2b3006f0d37ede6452d24", func := "loop.example/iceharvest/laws.FnCakesIn", spec := "fnCakesIn", apart := false, narrowed := true }
def FnCakesInUptoSaid : Prop := fnCakesInUptoRow.holds Try.pinned (OpenSpec.upto fnCakesInSpec)

/-- 'laws.FnFacesOf', WHERE WHAT IT READS IS OF BULK AT MOST 1048576: true; the input reads as it did. -/
def fnFacesOfUptoRow : OpenClaim := { program := "ytbnggakfogcalaa", sum := "229c6aaa8ce0d334b4f0425c8a02f84eecb5bcd285b2b3006f0d37ede6452d24", func := "loop.example/iceharvest/laws.FnFacesOf", spec := "fnFacesOf", apart := false, narrowed := true }
def FnFacesOfUptoSaid : Prop := fnFacesOfUptoRow.holds Try.pinned (OpenSpec.upto fnFacesOfSpec)

/-- 'laws.FnAddCake', WHERE WHAT IT READS IS OF BULK AT MOST 1048576: true; the input reads as it did. -/
def fnAddCakeUptoRow : OpenClaim := { program := "ytbnggakfogcalaa", sum := "229c6aaa8ce0d334b4f0425c8a02f84eecb5bcd285b2b3006f0d37ede6452d24", func := "loop.example/iceharvest/laws.FnAddCake", spec := "fnAddCake", apart := false, narrowed := true }
def FnAddCakeUptoSaid : Prop := fnAddCakeUptoRow.holds Try.pinned (OpenSpec.upto fnAddCakeSpec)

/-- 'laws.FnTakeCake', WHERE WHAT IT READS IS OF BULK AT MOST 1048576: true; the input reads as it did. -/
def fnTakeCakeUptoRow : OpenClaim := { program := "ytbnggakfogcalaa", sum := "229c6aaa8ce0d334b4f0425c8a02f84eecb5bcd285b2b3006f0d37ede6452d24", func := "loop.example/iceharvest/laws.FnTakeCake", spec := "fnTakeCake", apart := false, narrowed := true }
def FnTakeCakeUptoSaid : Prop := fnTakeCakeUptoRow.holds Try.pinned (OpenSpec.upto fnTakeCakeSpec)

/-- 'laws.FnFillHouse', WHERE WHAT IT READS IS OF BULK AT MOST 1048576: true; the input reads as it did. -/
def fnFillHouseUptoRow : OpenClaim := { program := "ytbnggakfogcalaa", sum := "229c6aaa8ce0d334b4f0425c8a02f84eecb5bcd285b2b3006f0d37ede6452d24", func := "loop.example/iceharvest/laws.FnFillHouse", spec := "fnFillHouse", apart := false, narrowed := true }
def FnFillHouseUptoSaid : Prop := fnFillHouseUptoRow.holds Try.pinned (OpenSpec.upto fnFillHouseSpec)

/-- 'laws.FnBestBox', WHERE WHAT IT READS IS OF BULK AT MOST 1048576: true; the input reads as it did. -/
def fnBestBoxUptoRow : OpenClaim := { program := "ytbnggakfogcalaa", sum := "229c6aaa8ce0d334b4f0425c8a02f84eecb5bcd285b2b3006f0d37ede6452d24", func := "loop.example/iceharvest/laws.FnBestBox", spec := "fnBestBox", apart := false, narrowed := true }
def FnBestBoxUptoSaid : Prop := fnBestBoxUptoRow.holds Try.pinned (OpenSpec.upto fnBestBoxSpec)

/-- 'laws.FnMeltDay', WHERE WHAT IT READS IS OF BULK AT MOST 1048576: true; the input reads as it did. -/
def fnMeltDayUptoRow : OpenClaim := { program := "ytbnggakfogcalaa", sum := "229c6aaa8ce0d334b4f0425c8a02f84eecb5bcd285b2b3006f0d37ede6452d24", func := "loop.example/iceharvest/laws.FnMeltDay", spec := "fnMeltDay", apart := false, narrowed := true }
def FnMeltDayUptoSaid : Prop := fnMeltDayUptoRow.holds Try.pinned (OpenSpec.upto fnMeltDaySpec)

/-- 'laws.FnMeltDays', WHERE WHAT IT READS IS OF BULK AT MOST 1048576: true; the input reads as it did. -/
def fnMeltDaysUptoRow : OpenClaim := { program := "ytbnggakfogcalaa", sum := "229c6aaa8ce0d334b4f0425c8a02f84eecb5bcd285b2b3006f0d37ede6452d24", func := "loop.example/iceharvest/laws.FnMeltDays", spec := "fnMeltDays", apart := false, narrowed := true }
def FnMeltDaysUptoSaid : Prop := fnMeltDaysUptoRow.holds Try.pinned (OpenSpec.upto fnMeltDaysSpec)

/-- 'laws.FnDaysLeft', WHERE WHAT IT READS IS OF BULK AT MOST 1048576: true; the input reads as it did. -/
def fnDaysLeftUptoRow : OpenClaim := { program := "ytbnggakfogcalaa", sum := "229c6aaa8ce0d334b4f0425c8a02f84eecb5bcd285b2b3006f0d37ede6452d24", func := "loop.example/iceharvest/laws.FnDaysLeft", spec := "fnDaysLeft", apart := false, narrowed := true }
def FnDaysLeftUptoSaid : Prop := fnDaysLeftUptoRow.holds Try.pinned (OpenSpec.upto fnDaysLeftSpec)

/-- 'laws.FnDaysLeftBox', WHERE WHAT IT READS IS OF BULK AT MOST 1048576: true; the input reads as it did. -/
def fnDaysLeftBoxUptoRow : OpenClaim := { program := "ytbnggakfogcalaa", sum := "229c6aaa8ce0d334b4f0425c8a02f84eecb5bcd285b2b3006f0d37ede6452d24", func := "loop.example/iceharvest/laws.FnDaysLeftBox", spec := "fnDaysLeftBox", apart := false, narrowed := true }
def FnDaysLeftBoxUptoSaid : Prop := fnDaysLeftBoxUptoRow.holds Try.pinned (OpenSpec.upto fnDaysLeftBoxSpec)

/-- 'laws.FnExactValidHeap', WHERE WHAT IT READS IS OF BULK AT MOST 1048576: true; the input reads as it did. -/
def fnExactValidHeapUptoRow : OpenClaim := { program := "ytbnggakfogcalaa", sum := "229c6aaa8ce0d334b4f0425c8a02f84eecb5bcd285b2b3006f0d37ede6452d24", func := "loop.example/iceharvest/laws.FnExactValidHeap", spec := "fnExactValidHeap", apart := false, narrowed := true }
def FnExactValidHeapUptoSaid : Prop := fnExactValidHeapUptoRow.holds Try.pinned (OpenSpec.upto fnExactValidHeapSpec)

end Rows
end Go.Proofs.Ytbnggakfogcalaa
