/-
  No cell of these rows narrows 'for every input' (looked for: loops, veiled, ifaces, maps, wideKeys, modest, calm, conditions, laid).
  DERIVED. THE GIVEN ROWS OF THIS SEAT. 12 by the template 'for every input the law returns true; each argument reads behind the call as it read before'; 0 by the template 'total and deterministic' (their statements: YtiihenhddleooaaTotals.lean).
  GIVEN WITH THE SEED: the statements are not yours to turn. If you find one false, say at which input.
  Laid BY PROGRAM, IN A SANDBOX (cutbox-rows.mjs): the forced cells as the released guide's own fill.sh prints them over the translation 620bacd7da42aea3… (all of the seat's roots in one cut). By AI agents, Wed Nov 11 2026. No macro, syntax, notation, axiom, sorry.
-/
import Derived.Test.YtiihenhddleooaaChecked
import GoSem.Claim
import GoSem.ClaimJoined
import GoSem.ClaimMapViews
import Derived.JoinedTies
import Derived.KernelRfl
namespace Go.Proofs.Ytiihenhddleooaa
/- THE CELL 'sum', in the pinned program and in every row, IS THE sha256 OF THE DUMP (.gsa) THAT YtiihenhddleooaaProg.lean LOADS. Nothing in Lean hashes anything: it is a label: what it is worth is what the hold of that sum in a sandbox is worth. -/
noncomputable def Try.pinned : Pinned := { name := "ytiihenhddleooaa", sum := "620bacd7da42aea32664901b533424efa89e0c9677489185e387e5631b86cef9", checked := Try.checked }
namespace Rows
def none {H : Type} : Left H := { results := [], args := [] }

/-- 'laws.FnValidDebts': WHATEVER THE INPUT: true; the input reads as it did. -/
def fnValidDebtsSpec : ChangeSpec := { name := "fnValidDebts", fn := fun _ => fun
  | [d] => { results := [.lit (.bool true)], args := [d] }
  | _ => none }
def fnValidDebtsRow : OpenClaim := { program := "ytiihenhddleooaa", sum := "620bacd7da42aea32664901b533424efa89e0c9677489185e387e5631b86cef9", func := "loop.example/iceharvest/laws.FnValidDebts", spec := "fnValidDebts", apart := false }
def FnValidDebtsSaid : Prop := fnValidDebtsRow.holds Try.pinned (OpenSpec.ofChange fnValidDebtsSpec)

/-- ITS FALSE NEIGHBOUR: 'it returns false'. Refute it at one input. -/
def fnValidDebtsWrong : ChangeSpec := { name := "fnValidDebts", fn := fun _ => fun
  | [d] => { results := [.lit (.bool false)], args := [d] }
  | _ => none }
def FnValidDebtsWrongFalsely : Prop := fnValidDebtsRow.holds Try.pinned (OpenSpec.ofChange fnValidDebtsWrong)

/-- 'laws.FnBalancesOf': WHATEVER THE INPUT: true; the input reads as it did. -/
def fnBalancesOfSpec : ChangeSpec := { name := "fnBalancesOf", fn := fun _ => fun
  | [d] => { results := [.lit (.bool true)], args := [d] }
  | _ => none }
def fnBalancesOfRow : OpenClaim := { program := "ytiihenhddleooaa", sum := "620bacd7da42aea32664901b533424efa89e0c9677489185e387e5631b86cef9", func := "loop.example/iceharvest/laws.FnBalancesOf", spec := "fnBalancesOf", apart := false }
def FnBalancesOfSaid : Prop := fnBalancesOfRow.holds Try.pinned (OpenSpec.ofChange fnBalancesOfSpec)

/-- ITS FALSE NEIGHBOUR: 'it returns false'. Refute it at one input. -/
def fnBalancesOfWrong : ChangeSpec := { name := "fnBalancesOf", fn := fun _ => fun
  | [d] => { results := [.lit (.bool false)], args := [d] }
  | _ => none }
def FnBalancesOfWrongFalsely : Prop := fnBalancesOfRow.holds Try.pinned (OpenSpec.ofChange fnBalancesOfWrong)

/-- 'laws.FnSettleDebts': WHATEVER THE INPUT: true; the input reads as it did. -/
def fnSettleDebtsSpec : ChangeSpec := { name := "fnSettleDebts", fn := fun _ => fun
  | [d] => { results := [.lit (.bool true)], args := [d] }
  | _ => none }
def fnSettleDebtsRow : OpenClaim := { program := "ytiihenhddleooaa", sum := "620bacd7da42aea32664901b533424efa89e0c9677489185e387e5631b86cef9", func := "loop.example/iceharvest/laws.FnSettleDebts", spec := "fnSettleDebts", apart := false }
def FnSettleDebtsSaid : Prop := fnSettleDebtsRow.holds Try.pinned (OpenSpec.ofChange fnSettleDebtsSpec)

/-- ITS FALSE NEIGHBOUR: 'it returns false'. Refute it at one input. -/
def fnSettleDebtsWrong : ChangeSpec := { name := "fnSettleDebts", fn := fun _ => fun
  | [d] => { results := [.lit (.bool false)], args := [d] }
  | _ => none }
def FnSettleDebtsWrongFalsely : Prop := fnSettleDebtsRow.holds Try.pinned (OpenSpec.ofChange fnSettleDebtsWrong)

/-- 'laws.FnSettleDebtsTwice': WHATEVER THE INPUT: true; the input reads as it did. -/
def fnSettleDebtsTwiceSpec : ChangeSpec := { name := "fnSettleDebtsTwice", fn := fun _ => fun
  | [d] => { results := [.lit (.bool true)], args := [d] }
  | _ => none }
def fnSettleDebtsTwiceRow : OpenClaim := { program := "ytiihenhddleooaa", sum := "620bacd7da42aea32664901b533424efa89e0c9677489185e387e5631b86cef9", func := "loop.example/iceharvest/laws.FnSettleDebtsTwice", spec := "fnSettleDebtsTwice", apart := false }
def FnSettleDebtsTwiceSaid : Prop := fnSettleDebtsTwiceRow.holds Try.pinned (OpenSpec.ofChange fnSettleDebtsTwiceSpec)

/-- ITS FALSE NEIGHBOUR: 'it returns false'. Refute it at one input. -/
def fnSettleDebtsTwiceWrong : ChangeSpec := { name := "fnSettleDebtsTwice", fn := fun _ => fun
  | [d] => { results := [.lit (.bool false)], args := [d] }
  | _ => none }
def FnSettleDebtsTwiceWrongFalsely : Prop := fnSettleDebtsTwiceRow.holds Try.pinned (OpenSpec.ofChange fnSettleDebtsTwiceWrong)

/-- 'laws.FnWinnersOf': WHATEVER THE INPUT: true; the input reads as it did. -/
def fnWinnersOfSpec : ChangeSpec := { name := "fnWinnersOf", fn := fun _ => fun
  | [d] => { results := [.lit (.bool true)], args := [d] }
  | _ => none }
def fnWinnersOfRow : OpenClaim := { program := "ytiihenhddleooaa", sum := "620bacd7da42aea32664901b533424efa89e0c9677489185e387e5631b86cef9", func := "loop.example/iceharvest/laws.FnWinnersOf", spec := "fnWinnersOf", apart := false }
def FnWinnersOfSaid : Prop := fnWinnersOfRow.holds Try.pinned (OpenSpec.ofChange fnWinnersOfSpec)

/-- ITS FALSE NEIGHBOUR: 'it returns false'. Refute it at one input. -/
def fnWinnersOfWrong : ChangeSpec := { name := "fnWinnersOf", fn := fun _ => fun
  | [d] => { results := [.lit (.bool false)], args := [d] }
  | _ => none }
def FnWinnersOfWrongFalsely : Prop := fnWinnersOfRow.holds Try.pinned (OpenSpec.ofChange fnWinnersOfWrong)

/-- 'laws.FnPriceOf': WHATEVER THE INPUT: true; the input reads as it did. -/
def fnPriceOfSpec : ChangeSpec := { name := "fnPriceOf", fn := fun _ => fun
  | [d] => { results := [.lit (.bool true)], args := [d] }
  | _ => none }
def fnPriceOfRow : OpenClaim := { program := "ytiihenhddleooaa", sum := "620bacd7da42aea32664901b533424efa89e0c9677489185e387e5631b86cef9", func := "loop.example/iceharvest/laws.FnPriceOf", spec := "fnPriceOf", apart := false }
def FnPriceOfSaid : Prop := fnPriceOfRow.holds Try.pinned (OpenSpec.ofChange fnPriceOfSpec)

/-- ITS FALSE NEIGHBOUR: 'it returns false'. Refute it at one input. -/
def fnPriceOfWrong : ChangeSpec := { name := "fnPriceOf", fn := fun _ => fun
  | [d] => { results := [.lit (.bool false)], args := [d] }
  | _ => none }
def FnPriceOfWrongFalsely : Prop := fnPriceOfRow.holds Try.pinned (OpenSpec.ofChange fnPriceOfWrong)

/-- 'laws.FnGainOf': WHATEVER THE INPUT: true; the input reads as it did. -/
def fnGainOfSpec : ChangeSpec := { name := "fnGainOf", fn := fun _ => fun
  | [d] => { results := [.lit (.bool true)], args := [d] }
  | _ => none }
def fnGainOfRow : OpenClaim := { program := "ytiihenhddleooaa", sum := "620bacd7da42aea32664901b533424efa89e0c9677489185e387e5631b86cef9", func := "loop.example/iceharvest/laws.FnGainOf", spec := "fnGainOf", apart := false }
def FnGainOfSaid : Prop := fnGainOfRow.holds Try.pinned (OpenSpec.ofChange fnGainOfSpec)

/-- ITS FALSE NEIGHBOUR: 'it returns false'. Refute it at one input. -/
def fnGainOfWrong : ChangeSpec := { name := "fnGainOf", fn := fun _ => fun
  | [d] => { results := [.lit (.bool false)], args := [d] }
  | _ => none }
def FnGainOfWrongFalsely : Prop := fnGainOfRow.holds Try.pinned (OpenSpec.ofChange fnGainOfWrong)

/-- 'laws.FnValidClauses': WHATEVER THE INPUT: true; the input reads as it did. -/
def fnValidClausesSpec : ChangeSpec := { name := "fnValidClauses", fn := fun _ => fun
  | [d] => { results := [.lit (.bool true)], args := [d] }
  | _ => none }
def fnValidClausesRow : OpenClaim := { program := "ytiihenhddleooaa", sum := "620bacd7da42aea32664901b533424efa89e0c9677489185e387e5631b86cef9", func := "loop.example/iceharvest/laws.FnValidClauses", spec := "fnValidClauses", apart := false }
def FnValidClausesSaid : Prop := fnValidClausesRow.holds Try.pinned (OpenSpec.ofChange fnValidClausesSpec)

/-- ITS FALSE NEIGHBOUR: 'it returns false'. Refute it at one input. -/
def fnValidClausesWrong : ChangeSpec := { name := "fnValidClauses", fn := fun _ => fun
  | [d] => { results := [.lit (.bool false)], args := [d] }
  | _ => none }
def FnValidClausesWrongFalsely : Prop := fnValidClausesRow.holds Try.pinned (OpenSpec.ofChange fnValidClausesWrong)

/-- 'laws.FnPayFor': WHATEVER THE INPUT: true; the input reads as it did. -/
def fnPayForSpec : ChangeSpec := { name := "fnPayFor", fn := fun _ => fun
  | [d] => { results := [.lit (.bool true)], args := [d] }
  | _ => none }
def fnPayForRow : OpenClaim := { program := "ytiihenhddleooaa", sum := "620bacd7da42aea32664901b533424efa89e0c9677489185e387e5631b86cef9", func := "loop.example/iceharvest/laws.FnPayFor", spec := "fnPayFor", apart := false }
def FnPayForSaid : Prop := fnPayForRow.holds Try.pinned (OpenSpec.ofChange fnPayForSpec)

/-- ITS FALSE NEIGHBOUR: 'it returns false'. Refute it at one input. -/
def fnPayForWrong : ChangeSpec := { name := "fnPayFor", fn := fun _ => fun
  | [d] => { results := [.lit (.bool false)], args := [d] }
  | _ => none }
def FnPayForWrongFalsely : Prop := fnPayForRow.holds Try.pinned (OpenSpec.ofChange fnPayForWrong)

/-- 'laws.FnWorstPay': WHATEVER THE INPUT: true; the input reads as it did. -/
def fnWorstPaySpec : ChangeSpec := { name := "fnWorstPay", fn := fun _ => fun
  | [d] => { results := [.lit (.bool true)], args := [d] }
  | _ => none }
def fnWorstPayRow : OpenClaim := { program := "ytiihenhddleooaa", sum := "620bacd7da42aea32664901b533424efa89e0c9677489185e387e5631b86cef9", func := "loop.example/iceharvest/laws.FnWorstPay", spec := "fnWorstPay", apart := false }
def FnWorstPaySaid : Prop := fnWorstPayRow.holds Try.pinned (OpenSpec.ofChange fnWorstPaySpec)

/-- ITS FALSE NEIGHBOUR: 'it returns false'. Refute it at one input. -/
def fnWorstPayWrong : ChangeSpec := { name := "fnWorstPay", fn := fun _ => fun
  | [d] => { results := [.lit (.bool false)], args := [d] }
  | _ => none }
def FnWorstPayWrongFalsely : Prop := fnWorstPayRow.holds Try.pinned (OpenSpec.ofChange fnWorstPayWrong)

/-- 'laws.FnSimplify': WHATEVER THE INPUT: true; the input reads as it did. -/
def fnSimplifySpec : ChangeSpec := { name := "fnSimplify", fn := fun _ => fun
  | [d] => { results := [.lit (.bool true)], args := [d] }
  | _ => none }
def fnSimplifyRow : OpenClaim := { program := "ytiihenhddleooaa", sum := "620bacd7da42aea32664901b533424efa89e0c9677489185e387e5631b86cef9", func := "loop.example/iceharvest/laws.FnSimplify", spec := "fnSimplify", apart := false }
def FnSimplifySaid : Prop := fnSimplifyRow.holds Try.pinned (OpenSpec.ofChange fnSimplifySpec)

/-- ITS FALSE NEIGHBOUR: 'it returns false'. Refute it at one input. -/
def fnSimplifyWrong : ChangeSpec := { name := "fnSimplify", fn := fun _ => fun
  | [d] => { results := [.lit (.bool false)], args := [d] }
  | _ => none }
def FnSimplifyWrongFalsely : Prop := fnSimplifyRow.holds Try.pinned (OpenSpec.ofChange fnSimplifyWrong)

/-- 'laws.FnSimplifyWorst': WHATEVER THE INPUT: true; the input reads as it did. -/
def fnSimplifyWorstSpec : ChangeSpec := { name := "fnSimplifyWorst", fn := fun _ => fun
  | [d] => { results := [.lit (.bool true)], args := [d] }
  | _ => none }
def fnSimplifyWorstRow : OpenClaim := { program := "ytiihenhddleooaa", sum := "620bacd7da42aea32664901b533424efa89e0c9677489185e387e5631b86cef9", func := "loop.example/iceharvest/laws.FnSimplifyWorst", spec := "fnSimplifyWorst", apart := false }
def FnSimplifyWorstSaid : Prop := fnSimplifyWorstRow.holds Try.pinned (OpenSpec.ofChange fnSimplifyWorstSpec)

/-- ITS FALSE NEIGHBOUR: 'it returns false'. Refute it at one input. -/
def fnSimplifyWorstWrong : ChangeSpec := { name := "fnSimplifyWorst", fn := fun _ => fun
  | [d] => { results := [.lit (.bool false)], args := [d] }
  | _ => none }
def FnSimplifyWorstWrongFalsely : Prop := fnSimplifyWorstRow.holds Try.pinned (OpenSpec.ofChange fnSimplifyWorstWrong)

/- THE SECOND FORM. 'bulk': how many values and letters a reading holds, each counted each time it is reached (what is shared counts as often as it is met; a slice's spare places count too). A statement '..UptoSaid' is the law's where the arguments, and the package variables that the reading takes, are together of bulk at most 1048576: NARROWER than '..Said'. Prove '..Said' where nothing that the law and all that it calls make is longer than what came in: it says more and counts as full. Else prove '..UptoSaid'. A law counts once. -/
mutual
def uptoBulk {H : Type} : DataW H → Nat
  | .lit (.string bytes) => bytes.length + 1
  | .lit _ => 1
  | .nil => 1
  | .ptr d => uptoBulk d + 1
  | .slice elems spare => uptoBulkAll elems + uptoBulkAll spare + 1
  | .agg parts => uptoBulkAll parts + 1
  | .iface _ d => uptoBulk d + 1
  | .map entries => uptoBulkEntries entries + 1
  | .held _ => 1
def uptoBulkAll {H : Type} : List (DataW H) → Nat
  | [] => 0
  | d :: r => uptoBulk d + uptoBulkAll r
def uptoBulkEntries {H : Type} : List (Lit × DataW H) → Nat
  | [] => 0
  | x :: r => uptoBulkEntry x + uptoBulkEntries r
def uptoBulkEntry {H : Type} : Lit × DataW H → Nat
  | (.string bytes, d) => bytes.length + uptoBulk d + 1
  | (_, d) => uptoBulk d + 1
 end
def uptoSmall : (H : Type) → List (DataW H) → Bool := fun _ ds => decide (uptoBulkAll ds ≤ 1048576)
def OpenSpec.upto (s : _root_.Go.ChangeSpec) : _root_.Go.OpenSpec := { _root_.Go.OpenSpec.ofChange s with cond := some uptoSmall }

/-- 'laws.FnValidDebts', WHERE WHAT IT READS IS OF BULK AT MOST 1048576: true; the input reads as it did. -/
def fnValidDebtsUptoRow : OpenClaim := { program := "ytiihenhddleooaa", sum := "620bacd7da42aea32664901b533424efa89e0c9677489185e387e5631b86cef9", func := "loop.example/iceharvest/laws.FnValidDebts", spec := "fnValidDebts", apart := false, narrowed := true }
def FnValidDebtsUptoSaid : Prop := fnValidDebtsUptoRow.holds Try.pinned (OpenSpec.upto fnValidDebtsSpec)

/-- 'laws.FnBalancesOf', WHERE WHAT IT READS IS OF BULK AT MOST 1048576: true; the input reads as it did. -/
def fnBalancesOfUptoRow : OpenClaim := { program := "ytiihenhddleooaa", sum := "620bacd7da42aea32664901b533424efa89e0c9677489185e387e5631b86cef9", func := "loop.example/iceharvest/laws.FnBalancesOf", spec := "fnBalancesOf", apart := false, narrowed := true }
def FnBalancesOfUptoSaid : Prop := fnBalancesOfUptoRow.holds Try.pinned (OpenSpec.upto fnBalancesOfSpec)

/-- 'laws.FnSettleDebts', WHERE WHAT IT READS IS OF BULK AT MOST 1048576: true; the input reads as it did. -/
def fnSettleDebtsUptoRow : OpenClaim := { program := "ytiihenhddleooaa", sum := "620bacd7da42aea32664901b533424efa89e0c9677489185e387e5631b86cef9", func := "loop.example/iceharvest/laws.FnSettleDebts", spec := "fnSettleDebts", apart := false, narrowed := true }
def FnSettleDebtsUptoSaid : Prop := fnSettleDebtsUptoRow.holds Try.pinned (OpenSpec.upto fnSettleDebtsSpec)

/-- 'laws.FnSettleDebtsTwice', WHERE WHAT IT READS IS OF BULK AT MOST 1048576: true; the input reads as it did. -/
def fnSettleDebtsTwiceUptoRow : OpenClaim := { program := "ytiihenhddleooaa", sum := "620bacd7da42aea32664901b533424efa89e0c9677489185e387e5631b86cef9", func := "loop.example/iceharvest/laws.FnSettleDebtsTwice", spec := "fnSettleDebtsTwice", apart := false, narrowed := true }
def FnSettleDebtsTwiceUptoSaid : Prop := fnSettleDebtsTwiceUptoRow.holds Try.pinned (OpenSpec.upto fnSettleDebtsTwiceSpec)

/-- 'laws.FnWinnersOf', WHERE WHAT IT READS IS OF BULK AT MOST 1048576: true; the input reads as it did. -/
def fnWinnersOfUptoRow : OpenClaim := { program := "ytiihenhddleooaa", sum := "620bacd7da42aea32664901b533424efa89e0c9677489185e387e5631b86cef9", func := "loop.example/iceharvest/laws.FnWinnersOf", spec := "fnWinnersOf", apart := false, narrowed := true }
def FnWinnersOfUptoSaid : Prop := fnWinnersOfUptoRow.holds Try.pinned (OpenSpec.upto fnWinnersOfSpec)

/-- 'laws.FnPriceOf', WHERE WHAT IT READS IS OF BULK AT MOST 1048576: true; the input reads as it did. -/
def fnPriceOfUptoRow : OpenClaim := { program := "ytiihenhddleooaa", sum := "620bacd7da42aea32664901b533424efa89e0c9677489185e387e5631b86cef9", func := "loop.example/iceharvest/laws.FnPriceOf", spec := "fnPriceOf", apart := false, narrowed := true }
def FnPriceOfUptoSaid : Prop := fnPriceOfUptoRow.holds Try.pinned (OpenSpec.upto fnPriceOfSpec)

/-- 'laws.FnGainOf', WHERE WHAT IT READS IS OF BULK AT MOST 1048576: true; the input reads as it did. -/
def fnGainOfUptoRow : OpenClaim := { program := "ytiihenhddleooaa", sum := "620bacd7da42aea32664901b533424efa89e0c9677489185e387e5631b86cef9", func := "loop.example/iceharvest/laws.FnGainOf", spec := "fnGainOf", apart := false, narrowed := true }
def FnGainOfUptoSaid : Prop := fnGainOfUptoRow.holds Try.pinned (OpenSpec.upto fnGainOfSpec)

/-- 'laws.FnValidClauses', WHERE WHAT IT READS IS OF BULK AT MOST 1048576: true; the input reads as it did. -/
def fnValidClausesUptoRow : OpenClaim := { program := "ytiihenhddleooaa", sum := "620bacd7da42aea32664901b533424efa89e0c9677489185e387e5631b86cef9", func := "loop.example/iceharvest/laws.FnValidClauses", spec := "fnValidClauses", apart := false, narrowed := true }
def FnValidClausesUptoSaid : Prop := fnValidClausesUptoRow.holds Try.pinned (OpenSpec.upto fnValidClausesSpec)

/-- 'laws.FnPayFor', WHERE WHAT IT READS IS OF BULK AT MOST 1048576: true; the input reads as it did. -/
def fnPayForUptoRow : OpenClaim := { program := "ytiihenhddleooaa", sum := "620bacd7da42aea32664901b533424efa89e0c9677489185e387e5631b86cef9", func := "loop.example/iceharvest/laws.FnPayFor", spec := "fnPayFor", apart := false, narrowed := true }
def FnPayForUptoSaid : Prop := fnPayForUptoRow.holds Try.pinned (OpenSpec.upto fnPayForSpec)

/-- 'laws.FnWorstPay', WHERE WHAT IT READS IS OF BULK AT MOST 1048576: true; the input reads as it did. -/
def fnWorstPayUptoRow : OpenClaim := { program := "ytiihenhddleooaa", sum := "620bacd7da42aea32664901b533424efa89e0c9677489185e387e5631b86cef9", func := "loop.example/iceharvest/laws.FnWorstPay", spec := "fnWorstPay", apart := false, narrowed := true }
def FnWorstPayUptoSaid : Prop := fnWorstPayUptoRow.holds Try.pinned (OpenSpec.upto fnWorstPaySpec)

/-- 'laws.FnSimplify', WHERE WHAT IT READS IS OF BULK AT MOST 1048576: true; the input reads as it did. -/
def fnSimplifyUptoRow : OpenClaim := { program := "ytiihenhddleooaa", sum := "620bacd7da42aea32664901b533424efa89e0c9677489185e387e5631b86cef9", func := "loop.example/iceharvest/laws.FnSimplify", spec := "fnSimplify", apart := false, narrowed := true }
def FnSimplifyUptoSaid : Prop := fnSimplifyUptoRow.holds Try.pinned (OpenSpec.upto fnSimplifySpec)

/-- 'laws.FnSimplifyWorst', WHERE WHAT IT READS IS OF BULK AT MOST 1048576: true; the input reads as it did. -/
def fnSimplifyWorstUptoRow : OpenClaim := { program := "ytiihenhddleooaa", sum := "620bacd7da42aea32664901b533424efa89e0c9677489185e387e5631b86cef9", func := "loop.example/iceharvest/laws.FnSimplifyWorst", spec := "fnSimplifyWorst", apart := false, narrowed := true }
def FnSimplifyWorstUptoSaid : Prop := fnSimplifyWorstUptoRow.holds Try.pinned (OpenSpec.upto fnSimplifyWorstSpec)

end Rows
end Go.Proofs.Ytiihenhddleooaa
