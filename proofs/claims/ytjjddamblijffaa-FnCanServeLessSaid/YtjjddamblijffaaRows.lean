/-
  No cell of these rows narrows 'for every input' (looked for: loops, veiled, ifaces, maps, wideKeys, modest, calm, conditions, laid).
  DERIVED. THE GIVEN ROWS OF THIS SEAT. 12 by the template 'for every input the law returns true; each argument reads behind the call as it read before'; 0 by the template 'total and deterministic' (their statements: YtjjddamblijffaaTotals.lean).
  GIVEN WITH THE SEED: the statements are not yours to turn. If you find one false, say at which input.
  Laid BY PROGRAM, IN A SANDBOX (cutbox-rows.mjs): the forced cells as the released guide's own fill.sh prints them over the translation 468f9ecf205e1576… (all of the seat's roots in one cut). By AI agents, Wed Nov 11 2026. No macro, syntax, notation, axiom, sorry.
-/
import Derived.Test.YtjjddamblijffaaChecked
import GoSem.Claim
import GoSem.ClaimJoined
import GoSem.ClaimMapViews
import Derived.JoinedTies
import Derived.KernelRfl
namespace Go.Proofs.Ytjjddamblijffaa
/- THE CELL 'sum', in the pinned program and in every row, IS THE sha256 OF THE DUMP (.gsa) THAT YtjjddamblijffaaProg.lean LOADS. Nothing in Lean hashes anything: it is a label: what it is worth is what the hold of that sum in a sandbox is worth. -/
noncomputable def Try.pinned : Pinned := { name := "ytjjddamblijffaa", sum := "468f9ecf205e1576c0fba6241555294f2a3f0a2dfe4ff5e0353bcb0fcf54e15e", checked := Try.checked }
namespace Rows
def none {H : Type} : Left H := { results := [], args := [] }

/-- 'laws.FnValidCustomers': WHATEVER THE INPUT: true; the input reads as it did. -/
def fnValidCustomersSpec : ChangeSpec := { name := "fnValidCustomers", fn := fun _ => fun
  | [d] => { results := [.lit (.bool true)], args := [d] }
  | _ => none }
def fnValidCustomersRow : OpenClaim := { program := "ytjjddamblijffaa", sum := "468f9ecf205e1576c0fba6241555294f2a3f0a2dfe4ff5e0353bcb0fcf54e15e", func := "loop.example/iceharvest/laws.FnValidCustomers", spec := "fnValidCustomers", apart := false }
def FnValidCustomersSaid : Prop := fnValidCustomersRow.holds Try.pinned (OpenSpec.ofChange fnValidCustomersSpec)

/-- ITS FALSE NEIGHBOUR: 'it returns false'. Refute it at one input. -/
def fnValidCustomersWrong : ChangeSpec := { name := "fnValidCustomers", fn := fun _ => fun
  | [d] => { results := [.lit (.bool false)], args := [d] }
  | _ => none }
def FnValidCustomersWrongFalsely : Prop := fnValidCustomersRow.holds Try.pinned (OpenSpec.ofChange fnValidCustomersWrong)

/-- 'laws.FnVisitTimes': WHATEVER THE INPUT: true; the input reads as it did. -/
def fnVisitTimesSpec : ChangeSpec := { name := "fnVisitTimes", fn := fun _ => fun
  | [d] => { results := [.lit (.bool true)], args := [d] }
  | _ => none }
def fnVisitTimesRow : OpenClaim := { program := "ytjjddamblijffaa", sum := "468f9ecf205e1576c0fba6241555294f2a3f0a2dfe4ff5e0353bcb0fcf54e15e", func := "loop.example/iceharvest/laws.FnVisitTimes", spec := "fnVisitTimes", apart := false }
def FnVisitTimesSaid : Prop := fnVisitTimesRow.holds Try.pinned (OpenSpec.ofChange fnVisitTimesSpec)

/-- ITS FALSE NEIGHBOUR: 'it returns false'. Refute it at one input. -/
def fnVisitTimesWrong : ChangeSpec := { name := "fnVisitTimes", fn := fun _ => fun
  | [d] => { results := [.lit (.bool false)], args := [d] }
  | _ => none }
def FnVisitTimesWrongFalsely : Prop := fnVisitTimesRow.holds Try.pinned (OpenSpec.ofChange fnVisitTimesWrong)

/-- 'laws.FnLateBy': WHATEVER THE INPUT: true; the input reads as it did. -/
def fnLateBySpec : ChangeSpec := { name := "fnLateBy", fn := fun _ => fun
  | [d] => { results := [.lit (.bool true)], args := [d] }
  | _ => none }
def fnLateByRow : OpenClaim := { program := "ytjjddamblijffaa", sum := "468f9ecf205e1576c0fba6241555294f2a3f0a2dfe4ff5e0353bcb0fcf54e15e", func := "loop.example/iceharvest/laws.FnLateBy", spec := "fnLateBy", apart := false }
def FnLateBySaid : Prop := fnLateByRow.holds Try.pinned (OpenSpec.ofChange fnLateBySpec)

/-- ITS FALSE NEIGHBOUR: 'it returns false'. Refute it at one input. -/
def fnLateByWrong : ChangeSpec := { name := "fnLateBy", fn := fun _ => fun
  | [d] => { results := [.lit (.bool false)], args := [d] }
  | _ => none }
def FnLateByWrongFalsely : Prop := fnLateByRow.holds Try.pinned (OpenSpec.ofChange fnLateByWrong)

/-- 'laws.FnLeastLate': WHATEVER THE INPUT: true; the input reads as it did. -/
def fnLeastLateSpec : ChangeSpec := { name := "fnLeastLate", fn := fun _ => fun
  | [d] => { results := [.lit (.bool true)], args := [d] }
  | _ => none }
def fnLeastLateRow : OpenClaim := { program := "ytjjddamblijffaa", sum := "468f9ecf205e1576c0fba6241555294f2a3f0a2dfe4ff5e0353bcb0fcf54e15e", func := "loop.example/iceharvest/laws.FnLeastLate", spec := "fnLeastLate", recurses := true, apart := false }
def FnLeastLateSaid : Prop := fnLeastLateRow.holds Try.pinned (OpenSpec.ofChange fnLeastLateSpec)

/-- ITS FALSE NEIGHBOUR: 'it returns false'. Refute it at one input. -/
def fnLeastLateWrong : ChangeSpec := { name := "fnLeastLate", fn := fun _ => fun
  | [d] => { results := [.lit (.bool false)], args := [d] }
  | _ => none }
def FnLeastLateWrongFalsely : Prop := fnLeastLateRow.holds Try.pinned (OpenSpec.ofChange fnLeastLateWrong)

/-- 'laws.FnCanServe': WHATEVER THE INPUT: true; the input reads as it did. -/
def fnCanServeSpec : ChangeSpec := { name := "fnCanServe", fn := fun _ => fun
  | [d] => { results := [.lit (.bool true)], args := [d] }
  | _ => none }
def fnCanServeRow : OpenClaim := { program := "ytjjddamblijffaa", sum := "468f9ecf205e1576c0fba6241555294f2a3f0a2dfe4ff5e0353bcb0fcf54e15e", func := "loop.example/iceharvest/laws.FnCanServe", spec := "fnCanServe", recurses := true, apart := false }
def FnCanServeSaid : Prop := fnCanServeRow.holds Try.pinned (OpenSpec.ofChange fnCanServeSpec)

/-- ITS FALSE NEIGHBOUR: 'it returns false'. Refute it at one input. -/
def fnCanServeWrong : ChangeSpec := { name := "fnCanServe", fn := fun _ => fun
  | [d] => { results := [.lit (.bool false)], args := [d] }
  | _ => none }
def FnCanServeWrongFalsely : Prop := fnCanServeRow.holds Try.pinned (OpenSpec.ofChange fnCanServeWrong)

/-- 'laws.FnCanServeLess': WHATEVER THE INPUT: true; the input reads as it did. -/
def fnCanServeLessSpec : ChangeSpec := { name := "fnCanServeLess", fn := fun _ => fun
  | [d] => { results := [.lit (.bool true)], args := [d] }
  | _ => none }
def fnCanServeLessRow : OpenClaim := { program := "ytjjddamblijffaa", sum := "468f9ecf205e1576c0fba6241555294f2a3f0a2dfe4ff5e0353bcb0fcf54e15e", func := "loop.example/iceharvest/laws.FnCanServeLess", spec := "fnCanServeLess", recurses := true, apart := false }
def FnCanServeLessSaid : Prop := fnCanServeLessRow.holds Try.pinned (OpenSpec.ofChange fnCanServeLessSpec)

/-- ITS FALSE NEIGHBOUR: 'it returns false'. Refute it at one input. -/
def fnCanServeLessWrong : ChangeSpec := { name := "fnCanServeLess", fn := fun _ => fun
  | [d] => { results := [.lit (.bool false)], args := [d] }
  | _ => none }
def FnCanServeLessWrongFalsely : Prop := fnCanServeLessRow.holds Try.pinned (OpenSpec.ofChange fnCanServeLessWrong)

/-- 'laws.FnLoadFor': WHATEVER THE INPUT: true; the input reads as it did. -/
def fnLoadForSpec : ChangeSpec := { name := "fnLoadFor", fn := fun _ => fun
  | [d] => { results := [.lit (.bool true)], args := [d] }
  | _ => none }
def fnLoadForRow : OpenClaim := { program := "ytjjddamblijffaa", sum := "468f9ecf205e1576c0fba6241555294f2a3f0a2dfe4ff5e0353bcb0fcf54e15e", func := "loop.example/iceharvest/laws.FnLoadFor", spec := "fnLoadFor", apart := false }
def FnLoadForSaid : Prop := fnLoadForRow.holds Try.pinned (OpenSpec.ofChange fnLoadForSpec)

/-- ITS FALSE NEIGHBOUR: 'it returns false'. Refute it at one input. -/
def fnLoadForWrong : ChangeSpec := { name := "fnLoadFor", fn := fun _ => fun
  | [d] => { results := [.lit (.bool false)], args := [d] }
  | _ => none }
def FnLoadForWrongFalsely : Prop := fnLoadForRow.holds Try.pinned (OpenSpec.ofChange fnLoadForWrong)

/-- 'laws.FnLoadForEnd': WHATEVER THE INPUT: true; the input reads as it did. -/
def fnLoadForEndSpec : ChangeSpec := { name := "fnLoadForEnd", fn := fun _ => fun
  | [d] => { results := [.lit (.bool true)], args := [d] }
  | _ => none }
def fnLoadForEndRow : OpenClaim := { program := "ytjjddamblijffaa", sum := "468f9ecf205e1576c0fba6241555294f2a3f0a2dfe4ff5e0353bcb0fcf54e15e", func := "loop.example/iceharvest/laws.FnLoadForEnd", spec := "fnLoadForEnd", apart := false }
def FnLoadForEndSaid : Prop := fnLoadForEndRow.holds Try.pinned (OpenSpec.ofChange fnLoadForEndSpec)

/-- ITS FALSE NEIGHBOUR: 'it returns false'. Refute it at one input. -/
def fnLoadForEndWrong : ChangeSpec := { name := "fnLoadForEnd", fn := fun _ => fun
  | [d] => { results := [.lit (.bool false)], args := [d] }
  | _ => none }
def FnLoadForEndWrongFalsely : Prop := fnLoadForEndRow.holds Try.pinned (OpenSpec.ofChange fnLoadForEndWrong)

/-- 'laws.FnSweep': WHATEVER THE INPUT: true; the input reads as it did. -/
def fnSweepSpec : ChangeSpec := { name := "fnSweep", fn := fun _ => fun
  | [d] => { results := [.lit (.bool true)], args := [d] }
  | _ => none }
def fnSweepRow : OpenClaim := { program := "ytjjddamblijffaa", sum := "468f9ecf205e1576c0fba6241555294f2a3f0a2dfe4ff5e0353bcb0fcf54e15e", func := "loop.example/iceharvest/laws.FnSweep", spec := "fnSweep", apart := false }
def FnSweepSaid : Prop := fnSweepRow.holds Try.pinned (OpenSpec.ofChange fnSweepSpec)

/-- ITS FALSE NEIGHBOUR: 'it returns false'. Refute it at one input. -/
def fnSweepWrong : ChangeSpec := { name := "fnSweep", fn := fun _ => fun
  | [d] => { results := [.lit (.bool false)], args := [d] }
  | _ => none }
def FnSweepWrongFalsely : Prop := fnSweepRow.holds Try.pinned (OpenSpec.ofChange fnSweepWrong)

/-- 'laws.FnShortestRound': WHATEVER THE INPUT: true; the input reads as it did. -/
def fnShortestRoundSpec : ChangeSpec := { name := "fnShortestRound", fn := fun _ => fun
  | [d] => { results := [.lit (.bool true)], args := [d] }
  | _ => none }
def fnShortestRoundRow : OpenClaim := { program := "ytjjddamblijffaa", sum := "468f9ecf205e1576c0fba6241555294f2a3f0a2dfe4ff5e0353bcb0fcf54e15e", func := "loop.example/iceharvest/laws.FnShortestRound", spec := "fnShortestRound", apart := false }
def FnShortestRoundSaid : Prop := fnShortestRoundRow.holds Try.pinned (OpenSpec.ofChange fnShortestRoundSpec)

/-- ITS FALSE NEIGHBOUR: 'it returns false'. Refute it at one input. -/
def fnShortestRoundWrong : ChangeSpec := { name := "fnShortestRound", fn := fun _ => fun
  | [d] => { results := [.lit (.bool false)], args := [d] }
  | _ => none }
def FnShortestRoundWrongFalsely : Prop := fnShortestRoundRow.holds Try.pinned (OpenSpec.ofChange fnShortestRoundWrong)

/-- 'laws.FnExactValidCustomers': WHATEVER THE INPUT: true; the input reads as it did. -/
def fnExactValidCustomersSpec : ChangeSpec := { name := "fnExactValidCustomers", fn := fun _ => fun
  | [d] => { results := [.lit (.bool true)], args := [d] }
  | _ => none }
def fnExactValidCustomersRow : OpenClaim := { program := "ytjjddamblijffaa", sum := "468f9ecf205e1576c0fba6241555294f2a3f0a2dfe4ff5e0353bcb0fcf54e15e", func := "loop.example/iceharvest/laws.FnExactValidCustomers", spec := "fnExactValidCustomers", apart := false }
def FnExactValidCustomersSaid : Prop := fnExactValidCustomersRow.holds Try.pinned (OpenSpec.ofChange fnExactValidCustomersSpec)

/-- ITS FALSE NEIGHBOUR: 'it returns false'. Refute it at one input. -/
def fnExactValidCustomersWrong : ChangeSpec := { name := "fnExactValidCustomers", fn := fun _ => fun
  | [d] => { results := [.lit (.bool false)], args := [d] }
  | _ => none }
def FnExactValidCustomersWrongFalsely : Prop := fnExactValidCustomersRow.holds Try.pinned (OpenSpec.ofChange fnExactValidCustomersWrong)

/-- 'laws.FnExactSweep': WHATEVER THE INPUT: true; the input reads as it did. -/
def fnExactSweepSpec : ChangeSpec := { name := "fnExactSweep", fn := fun _ => fun
  | [d] => { results := [.lit (.bool true)], args := [d] }
  | _ => none }
def fnExactSweepRow : OpenClaim := { program := "ytjjddamblijffaa", sum := "468f9ecf205e1576c0fba6241555294f2a3f0a2dfe4ff5e0353bcb0fcf54e15e", func := "loop.example/iceharvest/laws.FnExactSweep", spec := "fnExactSweep", apart := false }
def FnExactSweepSaid : Prop := fnExactSweepRow.holds Try.pinned (OpenSpec.ofChange fnExactSweepSpec)

/-- ITS FALSE NEIGHBOUR: 'it returns false'. Refute it at one input. -/
def fnExactSweepWrong : ChangeSpec := { name := "fnExactSweep", fn := fun _ => fun
  | [d] => { results := [.lit (.bool false)], args := [d] }
  | _ => none }
def FnExactSweepWrongFalsely : Prop := fnExactSweepRow.holds Try.pinned (OpenSpec.ofChange fnExactSweepWrong)

/- THE SECOND FORM. 'bulk': how many values and letters a reading holds, each counted each time it is reached (what is shared counts as often as it is met; a slice's spare places count too). A statement '..UptoSaid' is the law's where the arguments, and the package variables that the reading takes, are together of bulk at most 1048576: NARROWER than '..Said'. Prove '..Said' where nothing that the law and all that it calls make is longer than what came in: it says more and counts as full. Else prove '..UptoSaid'. A law counts once. -/
mutual
def uptoBulk {H : Type} : DataW H → Nat
  | .lit (.string bytes) => bytes.length + 1
  | .lit _ => 1
  | .nil => 1
  | .ptr d => uptoBulk d + 1
  | .slice elems spare => uptoBulkAll elems + uptoBulkAll spare + 1
  | .agg parts => uptoBulkAll parts + 1
  | .iface _ d => uptoBulk d + 1
  | .map entries => uptoBulkEntries entries + 1
  | .held _ => 1
def uptoBulkAll {H : Type} : List (DataW H) → Nat
  | [] => 0
  | d :: r => uptoBulk d + uptoBulkAll r
def uptoBulkEntries {H : Type} : List (Lit × DataW H) → Nat
  | [] => 0
  | x :: r => uptoBulkEntry x + uptoBulkEntries r
def uptoBulkEntry {H : Type} : Lit × DataW H → Nat
  | (.string bytes, d) => bytes.length + uptoBulk d + 1
  | (_, d) => uptoBulk d + 1
 end
def uptoSmall : (H : Type) → List (DataW H) → Bool := fun _ ds => decide (uptoBulkAll ds ≤ 1048576)
def OpenSpec.upto (s : _root_.Go.ChangeSpec) : _root_.Go.OpenSpec := { _root_.Go.OpenSpec.ofChange s with cond := some uptoSmall }

/-- 'laws.FnValidCustomers', WHERE WHAT IT READS IS OF BULK AT MOST 1048576: true; the input reads as it did. -/
def fnValidCustomersUptoRow : OpenClaim := { program := "ytjjddamblijffaa", sum := "468f9ecf205e1576c0fba6241555294f2a3f0a2dfe4ff5e0353bcb0fcf54e15e", func := "loop.example/iceharvest/laws.FnValidCustomers", spec := "fnValidCustomers", apart := false, narrowed := true }
def FnValidCustomersUptoSaid : Prop := fnValidCustomersUptoRow.holds Try.pinned (OpenSpec.upto fnValidCustomersSpec)

/-- 'laws.FnVisitTimes', WHERE WHAT IT READS IS OF BULK AT MOST 1048576: true; the input reads as it did. -/
def fnVisitTimesUptoRow : OpenClaim := { program := "ytjjddamblijffaa", sum := "468f9ecf205e1576c0fba6241555294f2a3f0a2dfe4ff5e0353bcb0fcf54e15e", func := "loop.example/iceharvest/laws.FnVisitTimes", spec := "fnVisitTimes", apart := false, narrowed := true }
def FnVisitTimesUptoSaid : Prop := fnVisitTimesUptoRow.holds Try.pinned (OpenSpec.upto fnVisitTimesSpec)

/-- 'laws.FnLateBy', WHERE WHAT IT READS IS OF BULK AT MOST 1048576: true; the input reads as it did. -/
def fnLateByUptoRow : OpenClaim := { program := "ytjjddamblijffaa", sum := "468f9ecf205e1576c0fba6241555294f2a3f0a2dfe4ff5e0353bcb0fcf54e15e", func := "loop.example/iceharvest/laws.FnLateBy", spec := "fnLateBy", apart := false, narrowed := true }
def FnLateByUptoSaid : Prop := fnLateByUptoRow.holds Try.pinned (OpenSpec.upto fnLateBySpec)

/-- 'laws.FnLeastLate', WHERE WHAT IT READS IS OF BULK AT MOST 1048576: true; the input reads as it did. -/
def fnLeastLateUptoRow : OpenClaim := { program := "ytjjddamblijffaa", sum := "468f9ecf205e1576c0fba6241555294f2a3f0a2dfe4ff5e0353bcb0fcf54e15e", func := "loop.example/iceharvest/laws.FnLeastLate", spec := "fnLeastLate", recurses := true, apart := false, narrowed := true }
def FnLeastLateUptoSaid : Prop := fnLeastLateUptoRow.holds Try.pinned (OpenSpec.upto fnLeastLateSpec)

/-- 'laws.FnCanServe', WHERE WHAT IT READS IS OF BULK AT MOST 1048576: true; the input reads as it did. -/
def fnCanServeUptoRow : OpenClaim := { program := "ytjjddamblijffaa", sum := "468f9ecf205e1576c0fba6241555294f2a3f0a2dfe4ff5e0353bcb0fcf54e15e", func := "loop.example/iceharvest/laws.FnCanServe", spec := "fnCanServe", recurses := true, apart := false, narrowed := true }
def FnCanServeUptoSaid : Prop := fnCanServeUptoRow.holds Try.pinned (OpenSpec.upto fnCanServeSpec)

/-- 'laws.FnCanServeLess', WHERE WHAT IT READS IS OF BULK AT MOST 1048576: true; the input reads as it did. -/
def fnCanServeLessUptoRow : OpenClaim := { program := "ytjjddamblijffaa", sum := "468f9ecf205e1576c0fba6241555294f2a3f0a2dfe4ff5e0353bcb0fcf54e15e", func := "loop.example/iceharvest/laws.FnCanServeLess", spec := "fnCanServeLess", recurses := true, apart := false, narrowed := true }
def FnCanServeLessUptoSaid : Prop := fnCanServeLessUptoRow.holds Try.pinned (OpenSpec.upto fnCanServeLessSpec)

/-- 'laws.FnLoadFor', WHERE WHAT IT READS IS OF BULK AT MOST 1048576: true; the input reads as it did. -/
def fnLoadForUptoRow : OpenClaim := { program := "ytjjddamblijffaa", sum := "468f9ecf205e1576c0fba6241555294f2a3f0a2dfe4ff5e0353bcb0fcf54e15e", func := "loop.example/iceharvest/laws.FnLoadFor", spec := "fnLoadFor", apart := false, narrowed := true }
def FnLoadForUptoSaid : Prop := fnLoadForUptoRow.holds Try.pinned (OpenSpec.upto fnLoadForSpec)

/-- 'laws.FnLoadForEnd', WHERE WHAT IT READS IS OF BULK AT MOST 1048576: true; the input reads as it did. -/
def fnLoadForEndUptoRow : OpenClaim := { program := "ytjjddamblijffaa", sum := "468f9ecf205e1576c0fba6241555294f2a3f0a2dfe4ff5e0353bcb0fcf54e15e", func := "loop.example/iceharvest/laws.FnLoadForEnd", spec := "fnLoadForEnd", apart := false, narrowed := true }
def FnLoadForEndUptoSaid : Prop := fnLoadForEndUptoRow.holds Try.pinned (OpenSpec.upto fnLoadForEndSpec)

/-- 'laws.FnSweep', WHERE WHAT IT READS IS OF BULK AT MOST 1048576: true; the input reads as it did. -/
def fnSweepUptoRow : OpenClaim := { program := "ytjjddamblijffaa", sum := "468f9ecf205e1576c0fba6241555294f2a3f0a2dfe4ff5e0353bcb0fcf54e15e", func := "loop.example/iceharvest/laws.FnSweep", spec := "fnSweep", apart := false, narrowed := true }
def FnSweepUptoSaid : Prop := fnSweepUptoRow.holds Try.pinned (OpenSpec.upto fnSweepSpec)

/-- 'laws.FnShortestRound', WHERE WHAT IT READS IS OF BULK AT MOST 1048576: true; the input reads as it did. -/
def fnShortestRoundUptoRow : OpenClaim := { program := "ytjjddamblijffaa", sum := "468f9ecf205e1576c0fba6241555294f2a3f0a2dfe4ff5e0353bcb0fcf54e15e", func := "loop.example/iceharvest/laws.FnShortestRound", spec := "fnShortestRound", apart := false, narrowed := true }
def FnShortestRoundUptoSaid : Prop := fnShortestRoundUptoRow.holds Try.pinned (OpenSpec.upto fnShortestRoundSpec)

/-- 'laws.FnExactValidCustomers', WHERE WHAT IT READS IS OF BULK AT MOST 1048576: true; the input reads as it did. -/
def fnExactValidCustomersUptoRow : OpenClaim := { program := "ytjjddamblijffaa", sum := "468f9ecf205e1576c0fba6241555294f2a3f0a2dfe4ff5e0353bcb0fcf54e15e", func := "loop.example/iceharvest/laws.FnExactValidCustomers", spec := "fnExactValidCustomers", apart := false, narrowed := true }
def FnExactValidCustomersUptoSaid : Prop := fnExactValidCustomersUptoRow.holds Try.pinned (OpenSpec.upto fnExactValidCustomersSpec)

/-- 'laws.FnExactSweep', WHERE WHAT IT READS IS OF BULK AT MOST 1048576: true; the input reads as it did. -/
def fnExactSweepUptoRow : OpenClaim := { program := "ytjjddamblijffaa", sum := "468f9ecf205e1576c0fba6241555294f2a3f0a2dfe4ff5e0353bcb0fcf54e15e", func := "loop.example/iceharvest/laws.FnExactSweep", spec := "fnExactSweep", apart := false, narrowed := true }
def FnExactSweepUptoSaid : Prop := fnExactSweepUptoRow.holds Try.pinned (OpenSpec.upto fnExactSweepSpec)

end Rows
end Go.Proofs.Ytjjddamblijffaa
