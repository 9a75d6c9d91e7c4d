/-
  No cell of these rows narrows 'for every input' (looked for: loops, veiled, ifaces, maps, wideKeys, modest, calm, conditions, laid).
  DERIVED. THE GIVEN ROWS OF THIS SEAT. 12 by the template 'for every input the law returns true; each argument reads behind the call as it read before'; 0 by the template 'total and deterministic' (their statements: YtjjddamblijffabTotals.lean).
  GIVEN WITH THE SEED: the statements are not yours to turn. If you find one false, say at which input.
  Laid BY PROGRAM, IN A SANDBOX (cutbox-rows.mjs): the forced cells as the released guide's own fill.sh prints them over the translation 42159f586c0cd2a2… (all of the seat's roots in one cut). By AI agents, Wed Nov 11 2026. No macro, syntax, notation, axiom, sorry.
-/
import Derived.Test.YtjjddamblijffabChecked
import GoSem.Claim
import GoSem.ClaimJoined
import GoSem.ClaimMapViews
import Derived.JoinedTies
import Derived.KernelRfl
namespace Go.Proofs.Ytjjddamblijffab
/- THE CELL 'sum', in the pinned program and in every row, IS THE sha256 OF THE DUMP (.gsa) THAT YtjjddamblijffabProg.lean LOADS. Nothing in Lean hashes anything: it is a label: what it is worth is what the hold of that sum in a sandbox is worth. -/
noncomputable def Try.pinned : Pinned := { name := "ytjjddamblijffab", sum := "42159f586c0cd2a2e1af28864f10cd6e19451e4b3fa5fb4add16227721fcdc34", checked := Try.checked }
namespace Rows
def none {H : Type} : Left H := { results := [], args := [] }

/-- 'laws.FnExactVisitTimes': WHATEVER THE INPUT: true; the input reads as it did. -/
def fnExactVisitTimesSpec : ChangeSpec := { name := "fnExactVisitTimes", fn := fun _ => fun
  | [d1, d2, d3] => { results := [.lit (.bool true)], args := [d1, d2, d3] }
  | _ => none }
def fnExactVisitTimesRow : OpenClaim := { program := "ytjjddamblijffab", sum := "42159f586c0cd2a2e1af28864f10cd6e19451e4b3fa5fb4add16227721fcdc34", func := "loop.example/iceharvest/laws.FnExactVisitTimes", spec := "fnExactVisitTimes", apart := false }
def FnExactVisitTimesSaid : Prop := fnExactVisitTimesRow.holds Try.pinned (OpenSpec.ofChange fnExactVisitTimesSpec)

/-- ITS FALSE NEIGHBOUR: 'it returns false'. Refute it at one input. -/
def fnExactVisitTimesWrong : ChangeSpec := { name := "fnExactVisitTimes", fn := fun _ => fun
  | [d1, d2, d3] => { results := [.lit (.bool false)], args := [d1, d2, d3] }
  | _ => none }
def FnExactVisitTimesWrongFalsely : Prop := fnExactVisitTimesRow.holds Try.pinned (OpenSpec.ofChange fnExactVisitTimesWrong)

/-- 'laws.FnExactLateBy': WHATEVER THE INPUT: true; the input reads as it did. -/
def fnExactLateBySpec : ChangeSpec := { name := "fnExactLateBy", fn := fun _ => fun
  | [d1, d2, d3] => { results := [.lit (.bool true)], args := [d1, d2, d3] }
  | _ => none }
def fnExactLateByRow : OpenClaim := { program := "ytjjddamblijffab", sum := "42159f586c0cd2a2e1af28864f10cd6e19451e4b3fa5fb4add16227721fcdc34", func := "loop.example/iceharvest/laws.FnExactLateBy", spec := "fnExactLateBy", apart := false }
def FnExactLateBySaid : Prop := fnExactLateByRow.holds Try.pinned (OpenSpec.ofChange fnExactLateBySpec)

/-- ITS FALSE NEIGHBOUR: 'it returns false'. Refute it at one input. -/
def fnExactLateByWrong : ChangeSpec := { name := "fnExactLateBy", fn := fun _ => fun
  | [d1, d2, d3] => { results := [.lit (.bool false)], args := [d1, d2, d3] }
  | _ => none }
def FnExactLateByWrongFalsely : Prop := fnExactLateByRow.holds Try.pinned (OpenSpec.ofChange fnExactLateByWrong)

/-- 'laws.FnExactLeastLate': WHATEVER THE INPUT: true; the input reads as it did. -/
def fnExactLeastLateSpec : ChangeSpec := { name := "fnExactLeastLate", fn := fun _ => fun
  | [d1, d2] => { results := [.lit (.bool true)], args := [d1, d2] }
  | _ => none }
def fnExactLeastLateRow : OpenClaim := { program := "ytjjddamblijffab", sum := "42159f586c0cd2a2e1af28864f10cd6e19451e4b3fa5fb4add16227721fcdc34", func := "loop.example/iceharvest/laws.FnExactLeastLate", spec := "fnExactLeastLate", recurses := true, apart := false }
def FnExactLeastLateSaid : Prop := fnExactLeastLateRow.holds Try.pinned (OpenSpec.ofChange fnExactLeastLateSpec)

/-- ITS FALSE NEIGHBOUR: 'it returns false'. Refute it at one input. -/
def fnExactLeastLateWrong : ChangeSpec := { name := "fnExactLeastLate", fn := fun _ => fun
  | [d1, d2] => { results := [.lit (.bool false)], args := [d1, d2] }
  | _ => none }
def FnExactLeastLateWrongFalsely : Prop := fnExactLeastLateRow.holds Try.pinned (OpenSpec.ofChange fnExactLeastLateWrong)

/-- 'laws.FnExactCanServe': WHATEVER THE INPUT: true; the input reads as it did. -/
def fnExactCanServeSpec : ChangeSpec := { name := "fnExactCanServe", fn := fun _ => fun
  | [d1, d2] => { results := [.lit (.bool true)], args := [d1, d2] }
  | _ => none }
def fnExactCanServeRow : OpenClaim := { program := "ytjjddamblijffab", sum := "42159f586c0cd2a2e1af28864f10cd6e19451e4b3fa5fb4add16227721fcdc34", func := "loop.example/iceharvest/laws.FnExactCanServe", spec := "fnExactCanServe", recurses := true, apart := false }
def FnExactCanServeSaid : Prop := fnExactCanServeRow.holds Try.pinned (OpenSpec.ofChange fnExactCanServeSpec)

/-- ITS FALSE NEIGHBOUR: 'it returns false'. Refute it at one input. -/
def fnExactCanServeWrong : ChangeSpec := { name := "fnExactCanServe", fn := fun _ => fun
  | [d1, d2] => { results := [.lit (.bool false)], args := [d1, d2] }
  | _ => none }
def FnExactCanServeWrongFalsely : Prop := fnExactCanServeRow.holds Try.pinned (OpenSpec.ofChange fnExactCanServeWrong)

/-- 'laws.FnExactLoadFor': WHATEVER THE INPUT: true; the input reads as it did. -/
def fnExactLoadForSpec : ChangeSpec := { name := "fnExactLoadFor", fn := fun _ => fun
  | [d1, d2, d3, d4] => { results := [.lit (.bool true)], args := [d1, d2, d3, d4] }
  | _ => none }
def fnExactLoadForRow : OpenClaim := { program := "ytjjddamblijffab", sum := "42159f586c0cd2a2e1af28864f10cd6e19451e4b3fa5fb4add16227721fcdc34", func := "loop.example/iceharvest/laws.FnExactLoadFor", spec := "fnExactLoadFor", apart := false }
def FnExactLoadForSaid : Prop := fnExactLoadForRow.holds Try.pinned (OpenSpec.ofChange fnExactLoadForSpec)

/-- ITS FALSE NEIGHBOUR: 'it returns false'. Refute it at one input. -/
def fnExactLoadForWrong : ChangeSpec := { name := "fnExactLoadFor", fn := fun _ => fun
  | [d1, d2, d3, d4] => { results := [.lit (.bool false)], args := [d1, d2, d3, d4] }
  | _ => none }
def FnExactLoadForWrongFalsely : Prop := fnExactLoadForRow.holds Try.pinned (OpenSpec.ofChange fnExactLoadForWrong)

/-- 'laws.FnExactShortestRound': WHATEVER THE INPUT: true; the input reads as it did. -/
def fnExactShortestRoundSpec : ChangeSpec := { name := "fnExactShortestRound", fn := fun _ => fun
  | [d1, d2] => { results := [.lit (.bool true)], args := [d1, d2] }
  | _ => none }
def fnExactShortestRoundRow : OpenClaim := { program := "ytjjddamblijffab", sum := "42159f586c0cd2a2e1af28864f10cd6e19451e4b3fa5fb4add16227721fcdc34", func := "loop.example/iceharvest/laws.FnExactShortestRound", spec := "fnExactShortestRound", apart := false }
def FnExactShortestRoundSaid : Prop := fnExactShortestRoundRow.holds Try.pinned (OpenSpec.ofChange fnExactShortestRoundSpec)

/-- ITS FALSE NEIGHBOUR: 'it returns false'. Refute it at one input. -/
def fnExactShortestRoundWrong : ChangeSpec := { name := "fnExactShortestRound", fn := fun _ => fun
  | [d1, d2] => { results := [.lit (.bool false)], args := [d1, d2] }
  | _ => none }
def FnExactShortestRoundWrongFalsely : Prop := fnExactShortestRoundRow.holds Try.pinned (OpenSpec.ofChange fnExactShortestRoundWrong)

/-- 'laws.FnExactValidFloat': WHATEVER THE INPUT: true; the input reads as it did. -/
def fnExactValidFloatSpec : ChangeSpec := { name := "fnExactValidFloat", fn := fun _ => fun
  | [d1, d2, d3, d4] => { results := [.lit (.bool true)], args := [d1, d2, d3, d4] }
  | _ => none }
def fnExactValidFloatRow : OpenClaim := { program := "ytjjddamblijffab", sum := "42159f586c0cd2a2e1af28864f10cd6e19451e4b3fa5fb4add16227721fcdc34", func := "loop.example/iceharvest/laws.FnExactValidFloat", spec := "fnExactValidFloat", apart := false }
def FnExactValidFloatSaid : Prop := fnExactValidFloatRow.holds Try.pinned (OpenSpec.ofChange fnExactValidFloatSpec)

/-- ITS FALSE NEIGHBOUR: 'it returns false'. Refute it at one input. -/
def fnExactValidFloatWrong : ChangeSpec := { name := "fnExactValidFloat", fn := fun _ => fun
  | [d1, d2, d3, d4] => { results := [.lit (.bool false)], args := [d1, d2, d3, d4] }
  | _ => none }
def FnExactValidFloatWrongFalsely : Prop := fnExactValidFloatRow.holds Try.pinned (OpenSpec.ofChange fnExactValidFloatWrong)

/-- 'laws.FnValidFloat': WHATEVER THE INPUT: true; the input reads as it did. -/
def fnValidFloatSpec : ChangeSpec := { name := "fnValidFloat", fn := fun _ => fun
  | [d] => { results := [.lit (.bool true)], args := [d] }
  | _ => none }
def fnValidFloatRow : OpenClaim := { program := "ytjjddamblijffab", sum := "42159f586c0cd2a2e1af28864f10cd6e19451e4b3fa5fb4add16227721fcdc34", func := "loop.example/iceharvest/laws.FnValidFloat", spec := "fnValidFloat", apart := false }
def FnValidFloatSaid : Prop := fnValidFloatRow.holds Try.pinned (OpenSpec.ofChange fnValidFloatSpec)

/-- ITS FALSE NEIGHBOUR: 'it returns false'. Refute it at one input. -/
def fnValidFloatWrong : ChangeSpec := { name := "fnValidFloat", fn := fun _ => fun
  | [d] => { results := [.lit (.bool false)], args := [d] }
  | _ => none }
def FnValidFloatWrongFalsely : Prop := fnValidFloatRow.holds Try.pinned (OpenSpec.ofChange fnValidFloatWrong)

/-- 'laws.FnFloatOrder': WHATEVER THE INPUT: true; the input reads as it did. -/
def fnFloatOrderSpec : ChangeSpec := { name := "fnFloatOrder", fn := fun _ => fun
  | [d] => { results := [.lit (.bool true)], args := [d] }
  | _ => none }
def fnFloatOrderRow : OpenClaim := { program := "ytjjddamblijffab", sum := "42159f586c0cd2a2e1af28864f10cd6e19451e4b3fa5fb4add16227721fcdc34", func := "loop.example/iceharvest/laws.FnFloatOrder", spec := "fnFloatOrder", apart := false }
def FnFloatOrderSaid : Prop := fnFloatOrderRow.holds Try.pinned (OpenSpec.ofChange fnFloatOrderSpec)

/-- ITS FALSE NEIGHBOUR: 'it returns false'. Refute it at one input. -/
def fnFloatOrderWrong : ChangeSpec := { name := "fnFloatOrder", fn := fun _ => fun
  | [d] => { results := [.lit (.bool false)], args := [d] }
  | _ => none }
def FnFloatOrderWrongFalsely : Prop := fnFloatOrderRow.holds Try.pinned (OpenSpec.ofChange fnFloatOrderWrong)

/-- 'laws.FnCountFloats': WHATEVER THE INPUT: true; the input reads as it did. -/
def fnCountFloatsSpec : ChangeSpec := { name := "fnCountFloats", fn := fun _ => fun
  | [d] => { results := [.lit (.bool true)], args := [d] }
  | _ => none }
def fnCountFloatsRow : OpenClaim := { program := "ytjjddamblijffab", sum := "42159f586c0cd2a2e1af28864f10cd6e19451e4b3fa5fb4add16227721fcdc34", func := "loop.example/iceharvest/laws.FnCountFloats", spec := "fnCountFloats", recurses := true, apart := false }
def FnCountFloatsSaid : Prop := fnCountFloatsRow.holds Try.pinned (OpenSpec.ofChange fnCountFloatsSpec)

/-- ITS FALSE NEIGHBOUR: 'it returns false'. Refute it at one input. -/
def fnCountFloatsWrong : ChangeSpec := { name := "fnCountFloats", fn := fun _ => fun
  | [d] => { results := [.lit (.bool false)], args := [d] }
  | _ => none }
def FnCountFloatsWrongFalsely : Prop := fnCountFloatsRow.holds Try.pinned (OpenSpec.ofChange fnCountFloatsWrong)

/-- 'laws.FnExactMostCakes': WHATEVER THE INPUT: true; the input reads as it did. -/
def fnExactMostCakesSpec : ChangeSpec := { name := "fnExactMostCakes", fn := fun _ => fun
  | [d1, d2, d3] => { results := [.lit (.bool true)], args := [d1, d2, d3] }
  | _ => none }
def fnExactMostCakesRow : OpenClaim := { program := "ytjjddamblijffab", sum := "42159f586c0cd2a2e1af28864f10cd6e19451e4b3fa5fb4add16227721fcdc34", func := "loop.example/iceharvest/laws.FnExactMostCakes", spec := "fnExactMostCakes", recurses := true, apart := false }
def FnExactMostCakesSaid : Prop := fnExactMostCakesRow.holds Try.pinned (OpenSpec.ofChange fnExactMostCakesSpec)

/-- ITS FALSE NEIGHBOUR: 'it returns false'. Refute it at one input. -/
def fnExactMostCakesWrong : ChangeSpec := { name := "fnExactMostCakes", fn := fun _ => fun
  | [d1, d2, d3] => { results := [.lit (.bool false)], args := [d1, d2, d3] }
  | _ => none }
def FnExactMostCakesWrongFalsely : Prop := fnExactMostCakesRow.holds Try.pinned (OpenSpec.ofChange fnExactMostCakesWrong)

/-- 'laws.FnMostCakes': WHATEVER THE INPUT: true; the input reads as it did. -/
def fnMostCakesSpec : ChangeSpec := { name := "fnMostCakes", fn := fun _ => fun
  | [d] => { results := [.lit (.bool true)], args := [d] }
  | _ => none }
def fnMostCakesRow : OpenClaim := { program := "ytjjddamblijffab", sum := "42159f586c0cd2a2e1af28864f10cd6e19451e4b3fa5fb4add16227721fcdc34", func := "loop.example/iceharvest/laws.FnMostCakes", spec := "fnMostCakes", recurses := true, apart := false }
def FnMostCakesSaid : Prop := fnMostCakesRow.holds Try.pinned (OpenSpec.ofChange fnMostCakesSpec)

/-- ITS FALSE NEIGHBOUR: 'it returns false'. Refute it at one input. -/
def fnMostCakesWrong : ChangeSpec := { name := "fnMostCakes", fn := fun _ => fun
  | [d] => { results := [.lit (.bool false)], args := [d] }
  | _ => none }
def FnMostCakesWrongFalsely : Prop := fnMostCakesRow.holds Try.pinned (OpenSpec.ofChange fnMostCakesWrong)

/- THE SECOND FORM. 'bulk': how many values and letters a reading holds, each counted each time it is reached (what is shared counts as often as it is met; a slice's spare places count too). A statement '..UptoSaid' is the law's where the arguments, and the package variables that the reading takes, are together of bulk at most 1048576: NARROWER than '..Said'. Prove '..Said' where nothing that the law and all that it calls make is longer than what came in: it says more and counts as full. Else prove '..UptoSaid'. A law counts once. -/
mutual
def uptoBulk {H : Type} : DataW H → Nat
  | .lit (.string bytes) => bytes.length + 1
  | .lit _ => 1
  | .nil => 1
  | .ptr d => uptoBulk d + 1
  | .slice elems spare => uptoBulkAll elems + uptoBulkAll spare + 1
  | .agg parts => uptoBulkAll parts + 1
  | .iface _ d => uptoBulk d + 1
  | .map entries => uptoBulkEntries entries + 1
  | .held _ => 1
def uptoBulkAll {H : Type} : List (DataW H) → Nat
  | [] => 0
  | d :: r => uptoBulk d + uptoBulkAll r
def uptoBulkEntries {H : Type} : List (Lit × DataW H) → Nat
  | [] => 0
  | x :: r => uptoBulkEntry x + uptoBulkEntries r
def uptoBulkEntry {H : Type} : Lit × DataW H → Nat
  | (.string bytes, d) => bytes.length + uptoBulk d + 1
  | (_, d) => uptoBulk d + 1
 end
def uptoSmall : (H : Type) → List (DataW H) → Bool := fun _ ds => decide (uptoBulkAll ds ≤ 1048576)
def OpenSpec.upto (s : _root_.Go.ChangeSpec) : _root_.Go.OpenSpec := { _root_.Go.OpenSpec.ofChange s with cond := some uptoSmall }

/-- 'laws.FnExactVisitTimes', WHERE WHAT IT READS IS OF BULK AT MOST 1048576: true; the input reads as it did. -/
def fnExactVisitTimesUptoRow : OpenClaim := { program := "ytjjddamblijffab", sum := "42159f586c0cd2a2e1af28864f10cd6e19451e4b3fa5fb4add16227721fcdc34", func := "loop.example/iceharvest/laws.FnExactVisitTimes", spec := "fnExactVisitTimes", apart := false, narrowed := true }
def FnExactVisitTimesUptoSaid : Prop := fnExactVisitTimesUptoRow.holds Try.pinned (OpenSpec.upto fnExactVisitTimesSpec)

/-- 'laws.FnExactLateBy', WHERE WHAT IT READS IS OF BULK AT MOST 1048576: true; the input reads as it did. -/
def fnExactLateByUptoRow : OpenClaim := { program := "ytjjddamblijffab", sum := "42159f586c0cd2a2e1af28864f10cd6e19451e4b3fa5fb4add16227721fcdc34", func := "loop.example/iceharvest/laws.FnExactLateBy", spec := "fnExactLateBy", apart := false, narrowed := true }
def FnExactLateByUptoSaid : Prop := fnExactLateByUptoRow.holds Try.pinned (OpenSpec.upto fnExactLateBySpec)

/-- 'laws.FnExactLeastLate', WHERE WHAT IT READS IS OF BULK AT MOST 1048576: true; the input reads as it did. -/
def fnExactLeastLateUptoRow : OpenClaim := { program := "ytjjddamblijffab", sum := "42159f586c0cd2a2e1af28864f10cd6e19451e4b3fa5fb4add16227721fcdc34", func := "loop.example/iceharvest/laws.FnExactLeastLate", spec := "fnExactLeastLate", recurses := true, apart := false, narrowed := true }
def FnExactLeastLateUptoSaid : Prop := fnExactLeastLateUptoRow.holds Try.pinned (OpenSpec.upto fnExactLeastLateSpec)

/-- 'laws.FnExactCanServe', WHERE WHAT IT READS IS OF BULK AT MOST 1048576: true; the input reads as it did. -/
def fnExactCanServeUptoRow : OpenClaim := { program := "ytjjddamblijffab", sum := "42159f586c0cd2a2e1af28864f10cd6e19451e4b3fa5fb4add16227721fcdc34", func := "loop.example/iceharvest/laws.FnExactCanServe", spec := "fnExactCanServe", recurses := true, apart := false, narrowed := true }
def FnExactCanServeUptoSaid : Prop := fnExactCanServeUptoRow.holds Try.pinned (OpenSpec.upto fnExactCanServeSpec)

/-- 'laws.FnExactLoadFor', WHERE WHAT IT READS IS OF BULK AT MOST 1048576: true; the input reads as it did. -/
def fnExactLoadForUptoRow : OpenClaim := { program := "ytjjddamblijffab", sum := "42159f586c0cd2a2e1af28864f10cd6e19451e4b3fa5fb4add16227721fcdc34", func := "loop.example/iceharvest/laws.FnExactLoadFor", spec := "fnExactLoadFor", apart := false, narrowed := true }
def FnExactLoadForUptoSaid : Prop := fnExactLoadForUptoRow.holds Try.pinned (OpenSpec.upto fnExactLoadForSpec)

/-- 'laws.FnExactShortestRound', WHERE WHAT IT READS IS OF BULK AT MOST 1048576: true; the input reads as it did. -/
def fnExactShortestRoundUptoRow : OpenClaim := { program := "ytjjddamblijffab", sum := "42159f586c0cd2a2e1af28864f10cd6e19451e4b3fa5fb4add16227721fcdc34", func := "loop.example/iceharvest/laws.FnExactShortestRound", spec := "fnExactShortestRound", apart := false, narrowed := true }
def FnExactShortestRoundUptoSaid : Prop := fnExactShortestRoundUptoRow.holds Try.pinned (OpenSpec.upto fnExactShortestRoundSpec)

/-- 'laws.FnExactValidFloat', WHERE WHAT IT READS IS OF BULK AT MOST 1048576: true; the input reads as it did. -/
def fnExactValidFloatUptoRow : OpenClaim := { program := "ytjjddamblijffab", sum := "42159f586c0cd2a2e1af28864f10cd6e19451e4b3fa5fb4add16227721fcdc34", func := "loop.example/iceharvest/laws.FnExactValidFloat", spec := "fnExactValidFloat", apart := false, narrowed := true }
def FnExactValidFloatUptoSaid : Prop := fnExactValidFloatUptoRow.holds Try.pinned (OpenSpec.upto fnExactValidFloatSpec)

/-- 'laws.FnValidFloat', WHERE WHAT IT READS IS OF BULK AT MOST 1048576: true; the input reads as it did. -/
def fnValidFloatUptoRow : OpenClaim := { program := "ytjjddamblijffab", sum := "42159f586c0cd2a2e1af28864f10cd6e19451e4b3fa5fb4add16227721fcdc34", func := "loop.example/iceharvest/laws.FnValidFloat", spec := "fnValidFloat", apart := false, narrowed := true }
def FnValidFloatUptoSaid : Prop := fnValidFloatUptoRow.holds Try.pinned (OpenSpec.upto fnValidFloatSpec)

/-- 'laws.FnFloatOrder', WHERE WHAT IT READS IS OF BULK AT MOST 1048576: true; the input reads as it did. -/
def fnFloatOrderUptoRow : OpenClaim := { program := "ytjjddamblijffab", sum := "42159f586c0cd2a2e1af28864f10cd6e19451e4b3fa5fb4add16227721fcdc34", func := "loop.example/iceharvest/laws.FnFloatOrder", spec := "fnFloatOrder", apart := false, narrowed := true }
def FnFloatOrderUptoSaid : Prop := fnFloatOrderUptoRow.holds Try.pinned (OpenSpec.upto fnFloatOrderSpec)

/-- 'laws.FnCountFloats', WHERE WHAT IT READS IS OF BULK AT MOST 1048576: true; the input reads as it did. -/
def fnCountFloatsUptoRow : OpenClaim := { program := "ytjjddamblijffab", sum := "42159f586c0cd2a2e1af28864f10cd6e19451e4b3fa5fb4add16227721fcdc34", func := "loop.example/iceharvest/laws.FnCountFloats", spec := "fnCountFloats", recurses := true, apart := false, narrowed := true }
def FnCountFloatsUptoSaid : Prop := fnCountFloatsUptoRow.holds Try.pinned (OpenSpec.upto fnCountFloatsSpec)

/-- 'laws.FnExactMostCakes', WHERE WHAT IT READS IS OF BULK AT MOST 1048576: true; the input reads as it did. -/
def fnExactMostCakesUptoRow : OpenClaim := { program := "ytjjddamblijffab", sum := "42159f586c0cd2a2e1af28864f10cd6e19451e4b3fa5fb4add16227721fcdc34", func := "loop.example/iceharvest/laws.FnExactMostCakes", spec := "fnExactMostCakes", recurses := true, apart := false, narrowed := true }
def FnExactMostCakesUptoSaid : Prop := fnExactMostCakesUptoRow.holds Try.pinned (OpenSpec.upto fnExactMostCakesSpec)

/-- 'laws.FnMostCakes', WHERE WHAT IT READS IS OF BULK AT MOST 1048576: true; the input reads as it did. -/
def fnMostCakesUptoRow : OpenClaim := { program := "ytjjddamblijffab", sum := "42159f586c0cd2a2e1af28864f10cd6e19451e4b3fa5fb4add16227721fcdc34", func := "loop.example/iceharvest/laws.FnMostCakes", spec := "fnMostCakes", recurses := true, apart := false, narrowed := true }
def FnMostCakesUptoSaid : Prop := fnMostCakesUptoRow.holds Try.pinned (OpenSpec.upto fnMostCakesSpec)

end Rows
end Go.Proofs.Ytjjddamblijffab
