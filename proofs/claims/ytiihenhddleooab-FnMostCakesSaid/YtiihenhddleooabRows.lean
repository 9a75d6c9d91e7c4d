/-
  No cell of these rows narrows 'for every input' (looked for: loops, veiled, ifaces, maps, wideKeys, modest, calm, conditions, laid).
  DERIVED. THE GIVEN ROWS OF THIS SEAT. 12 by the template 'for every input the law returns true; each argument reads behind the call as it read before'; 0 by the template 'total and deterministic' (their statements: YtiihenhddleooabTotals.lean).
  GIVEN WITH THE SEED: the statements are not yours to turn. If you find one false, say at which input.
  Laid BY PROGRAM, IN A SANDBOX (cutbox-rows.mjs): the forced cells as the released guide's own fill.sh prints them over the translation a6c08d6ab94c7498… (all of the seat's roots in one cut). By AI agents, Wed Nov 11 2026. No macro, syntax, notation, axiom, sorry.
-/
import Derived.Test.YtiihenhddleooabChecked
import GoSem.Claim
import GoSem.ClaimJoined
import GoSem.ClaimMapViews
import Derived.JoinedTies
import Derived.KernelRfl
namespace Go.Proofs.Ytiihenhddleooab
/- THE CELL 'sum', in the pinned program and in every row, IS THE sha256 OF THE DUMP (.gsa) THAT YtiihenhddleooabProg.lean LOADS. Nothing in Lean hashes anything: it is a label: what it is worth is what the hold of that sum in a sandbox is worth. -/
noncomputable def Try.pinned : Pinned := { name := "ytiihenhddleooab", sum := "a6c08d6ab94c74984d6ee011dbe9f7c33799183fafaf489bd69f9e977b5a1930", checked := Try.checked }
namespace Rows
def none {H : Type} : Left H := { results := [], args := [] }

/-- 'laws.FnExactValidDebts': WHATEVER THE INPUT: true; the input reads as it did. -/
def fnExactValidDebtsSpec : ChangeSpec := { name := "fnExactValidDebts", fn := fun _ => fun
  | [d] => { results := [.lit (.bool true)], args := [d] }
  | _ => none }
def fnExactValidDebtsRow : OpenClaim := { program := "ytiihenhddleooab", sum := "a6c08d6ab94c74984d6ee011dbe9f7c33799183fafaf489bd69f9e977b5a1930", func := "loop.example/iceharvest/laws.FnExactValidDebts", spec := "fnExactValidDebts", apart := false }
def FnExactValidDebtsSaid : Prop := fnExactValidDebtsRow.holds Try.pinned (OpenSpec.ofChange fnExactValidDebtsSpec)

/-- ITS FALSE NEIGHBOUR: 'it returns false'. Refute it at one input. -/
def fnExactValidDebtsWrong : ChangeSpec := { name := "fnExactValidDebts", fn := fun _ => fun
  | [d] => { results := [.lit (.bool false)], args := [d] }
  | _ => none }
def FnExactValidDebtsWrongFalsely : Prop := fnExactValidDebtsRow.holds Try.pinned (OpenSpec.ofChange fnExactValidDebtsWrong)

/-- 'laws.FnExactBalancesOf': WHATEVER THE INPUT: true; the input reads as it did. -/
def fnExactBalancesOfSpec : ChangeSpec := { name := "fnExactBalancesOf", fn := fun _ => fun
  | [d] => { results := [.lit (.bool true)], args := [d] }
  | _ => none }
def fnExactBalancesOfRow : OpenClaim := { program := "ytiihenhddleooab", sum := "a6c08d6ab94c74984d6ee011dbe9f7c33799183fafaf489bd69f9e977b5a1930", func := "loop.example/iceharvest/laws.FnExactBalancesOf", spec := "fnExactBalancesOf", apart := false }
def FnExactBalancesOfSaid : Prop := fnExactBalancesOfRow.holds Try.pinned (OpenSpec.ofChange fnExactBalancesOfSpec)

/-- ITS FALSE NEIGHBOUR: 'it returns false'. Refute it at one input. -/
def fnExactBalancesOfWrong : ChangeSpec := { name := "fnExactBalancesOf", fn := fun _ => fun
  | [d] => { results := [.lit (.bool false)], args := [d] }
  | _ => none }
def FnExactBalancesOfWrongFalsely : Prop := fnExactBalancesOfRow.holds Try.pinned (OpenSpec.ofChange fnExactBalancesOfWrong)

/-- 'laws.FnExactSettleDebts': WHATEVER THE INPUT: true; the input reads as it did. -/
def fnExactSettleDebtsSpec : ChangeSpec := { name := "fnExactSettleDebts", fn := fun _ => fun
  | [d] => { results := [.lit (.bool true)], args := [d] }
  | _ => none }
def fnExactSettleDebtsRow : OpenClaim := { program := "ytiihenhddleooab", sum := "a6c08d6ab94c74984d6ee011dbe9f7c33799183fafaf489bd69f9e977b5a1930", func := "loop.example/iceharvest/laws.FnExactSettleDebts", spec := "fnExactSettleDebts", apart := false }
def FnExactSettleDebtsSaid : Prop := fnExactSettleDebtsRow.holds Try.pinned (OpenSpec.ofChange fnExactSettleDebtsSpec)

/-- ITS FALSE NEIGHBOUR: 'it returns false'. Refute it at one input. -/
def fnExactSettleDebtsWrong : ChangeSpec := { name := "fnExactSettleDebts", fn := fun _ => fun
  | [d] => { results := [.lit (.bool false)], args := [d] }
  | _ => none }
def FnExactSettleDebtsWrongFalsely : Prop := fnExactSettleDebtsRow.holds Try.pinned (OpenSpec.ofChange fnExactSettleDebtsWrong)

/-- 'laws.FnExactWinnersOf': WHATEVER THE INPUT: true; the input reads as it did. -/
def fnExactWinnersOfSpec : ChangeSpec := { name := "fnExactWinnersOf", fn := fun _ => fun
  | [d1, d2] => { results := [.lit (.bool true)], args := [d1, d2] }
  | _ => none }
def fnExactWinnersOfRow : OpenClaim := { program := "ytiihenhddleooab", sum := "a6c08d6ab94c74984d6ee011dbe9f7c33799183fafaf489bd69f9e977b5a1930", func := "loop.example/iceharvest/laws.FnExactWinnersOf", spec := "fnExactWinnersOf", apart := false }
def FnExactWinnersOfSaid : Prop := fnExactWinnersOfRow.holds Try.pinned (OpenSpec.ofChange fnExactWinnersOfSpec)

/-- ITS FALSE NEIGHBOUR: 'it returns false'. Refute it at one input. -/
def fnExactWinnersOfWrong : ChangeSpec := { name := "fnExactWinnersOf", fn := fun _ => fun
  | [d1, d2] => { results := [.lit (.bool false)], args := [d1, d2] }
  | _ => none }
def FnExactWinnersOfWrongFalsely : Prop := fnExactWinnersOfRow.holds Try.pinned (OpenSpec.ofChange fnExactWinnersOfWrong)

/-- 'laws.FnExactPriceOf': WHATEVER THE INPUT: true; the input reads as it did. -/
def fnExactPriceOfSpec : ChangeSpec := { name := "fnExactPriceOf", fn := fun _ => fun
  | [d1, d2] => { results := [.lit (.bool true)], args := [d1, d2] }
  | _ => none }
def fnExactPriceOfRow : OpenClaim := { program := "ytiihenhddleooab", sum := "a6c08d6ab94c74984d6ee011dbe9f7c33799183fafaf489bd69f9e977b5a1930", func := "loop.example/iceharvest/laws.FnExactPriceOf", spec := "fnExactPriceOf", apart := false }
def FnExactPriceOfSaid : Prop := fnExactPriceOfRow.holds Try.pinned (OpenSpec.ofChange fnExactPriceOfSpec)

/-- ITS FALSE NEIGHBOUR: 'it returns false'. Refute it at one input. -/
def fnExactPriceOfWrong : ChangeSpec := { name := "fnExactPriceOf", fn := fun _ => fun
  | [d1, d2] => { results := [.lit (.bool false)], args := [d1, d2] }
  | _ => none }
def FnExactPriceOfWrongFalsely : Prop := fnExactPriceOfRow.holds Try.pinned (OpenSpec.ofChange fnExactPriceOfWrong)

/-- 'laws.FnExactGainOf': WHATEVER THE INPUT: true; the input reads as it did. -/
def fnExactGainOfSpec : ChangeSpec := { name := "fnExactGainOf", fn := fun _ => fun
  | [d1, d2, d3, d4] => { results := [.lit (.bool true)], args := [d1, d2, d3, d4] }
  | _ => none }
def fnExactGainOfRow : OpenClaim := { program := "ytiihenhddleooab", sum := "a6c08d6ab94c74984d6ee011dbe9f7c33799183fafaf489bd69f9e977b5a1930", func := "loop.example/iceharvest/laws.FnExactGainOf", spec := "fnExactGainOf", apart := false }
def FnExactGainOfSaid : Prop := fnExactGainOfRow.holds Try.pinned (OpenSpec.ofChange fnExactGainOfSpec)

/-- ITS FALSE NEIGHBOUR: 'it returns false'. Refute it at one input. -/
def fnExactGainOfWrong : ChangeSpec := { name := "fnExactGainOf", fn := fun _ => fun
  | [d1, d2, d3, d4] => { results := [.lit (.bool false)], args := [d1, d2, d3, d4] }
  | _ => none }
def FnExactGainOfWrongFalsely : Prop := fnExactGainOfRow.holds Try.pinned (OpenSpec.ofChange fnExactGainOfWrong)

/-- 'laws.FnExactValidClauses': WHATEVER THE INPUT: true; the input reads as it did. -/
def fnExactValidClausesSpec : ChangeSpec := { name := "fnExactValidClauses", fn := fun _ => fun
  | [d] => { results := [.lit (.bool true)], args := [d] }
  | _ => none }
def fnExactValidClausesRow : OpenClaim := { program := "ytiihenhddleooab", sum := "a6c08d6ab94c74984d6ee011dbe9f7c33799183fafaf489bd69f9e977b5a1930", func := "loop.example/iceharvest/laws.FnExactValidClauses", spec := "fnExactValidClauses", apart := false }
def FnExactValidClausesSaid : Prop := fnExactValidClausesRow.holds Try.pinned (OpenSpec.ofChange fnExactValidClausesSpec)

/-- ITS FALSE NEIGHBOUR: 'it returns false'. Refute it at one input. -/
def fnExactValidClausesWrong : ChangeSpec := { name := "fnExactValidClauses", fn := fun _ => fun
  | [d] => { results := [.lit (.bool false)], args := [d] }
  | _ => none }
def FnExactValidClausesWrongFalsely : Prop := fnExactValidClausesRow.holds Try.pinned (OpenSpec.ofChange fnExactValidClausesWrong)

/-- 'laws.FnExactPayFor': WHATEVER THE INPUT: true; the input reads as it did. -/
def fnExactPayForSpec : ChangeSpec := { name := "fnExactPayFor", fn := fun _ => fun
  | [d1, d2] => { results := [.lit (.bool true)], args := [d1, d2] }
  | _ => none }
def fnExactPayForRow : OpenClaim := { program := "ytiihenhddleooab", sum := "a6c08d6ab94c74984d6ee011dbe9f7c33799183fafaf489bd69f9e977b5a1930", func := "loop.example/iceharvest/laws.FnExactPayFor", spec := "fnExactPayFor", apart := false }
def FnExactPayForSaid : Prop := fnExactPayForRow.holds Try.pinned (OpenSpec.ofChange fnExactPayForSpec)

/-- ITS FALSE NEIGHBOUR: 'it returns false'. Refute it at one input. -/
def fnExactPayForWrong : ChangeSpec := { name := "fnExactPayFor", fn := fun _ => fun
  | [d1, d2] => { results := [.lit (.bool false)], args := [d1, d2] }
  | _ => none }
def FnExactPayForWrongFalsely : Prop := fnExactPayForRow.holds Try.pinned (OpenSpec.ofChange fnExactPayForWrong)

/-- 'laws.FnExactWorstPay': WHATEVER THE INPUT: true; the input reads as it did. -/
def fnExactWorstPaySpec : ChangeSpec := { name := "fnExactWorstPay", fn := fun _ => fun
  | [d] => { results := [.lit (.bool true)], args := [d] }
  | _ => none }
def fnExactWorstPayRow : OpenClaim := { program := "ytiihenhddleooab", sum := "a6c08d6ab94c74984d6ee011dbe9f7c33799183fafaf489bd69f9e977b5a1930", func := "loop.example/iceharvest/laws.FnExactWorstPay", spec := "fnExactWorstPay", apart := false }
def FnExactWorstPaySaid : Prop := fnExactWorstPayRow.holds Try.pinned (OpenSpec.ofChange fnExactWorstPaySpec)

/-- ITS FALSE NEIGHBOUR: 'it returns false'. Refute it at one input. -/
def fnExactWorstPayWrong : ChangeSpec := { name := "fnExactWorstPay", fn := fun _ => fun
  | [d] => { results := [.lit (.bool false)], args := [d] }
  | _ => none }
def FnExactWorstPayWrongFalsely : Prop := fnExactWorstPayRow.holds Try.pinned (OpenSpec.ofChange fnExactWorstPayWrong)

/-- 'laws.FnExactSimplify': WHATEVER THE INPUT: true; the input reads as it did. -/
def fnExactSimplifySpec : ChangeSpec := { name := "fnExactSimplify", fn := fun _ => fun
  | [d] => { results := [.lit (.bool true)], args := [d] }
  | _ => none }
def fnExactSimplifyRow : OpenClaim := { program := "ytiihenhddleooab", sum := "a6c08d6ab94c74984d6ee011dbe9f7c33799183fafaf489bd69f9e977b5a1930", func := "loop.example/iceharvest/laws.FnExactSimplify", spec := "fnExactSimplify", apart := false }
def FnExactSimplifySaid : Prop := fnExactSimplifyRow.holds Try.pinned (OpenSpec.ofChange fnExactSimplifySpec)

/-- ITS FALSE NEIGHBOUR: 'it returns false'. Refute it at one input. -/
def fnExactSimplifyWrong : ChangeSpec := { name := "fnExactSimplify", fn := fun _ => fun
  | [d] => { results := [.lit (.bool false)], args := [d] }
  | _ => none }
def FnExactSimplifyWrongFalsely : Prop := fnExactSimplifyRow.holds Try.pinned (OpenSpec.ofChange fnExactSimplifyWrong)

/-- 'laws.FnExactMostCakes': WHATEVER THE INPUT: true; the input reads as it did. -/
def fnExactMostCakesSpec : ChangeSpec := { name := "fnExactMostCakes", fn := fun _ => fun
  | [d1, d2, d3] => { results := [.lit (.bool true)], args := [d1, d2, d3] }
  | _ => none }
def fnExactMostCakesRow : OpenClaim := { program := "ytiihenhddleooab", sum := "a6c08d6ab94c74984d6ee011dbe9f7c33799183fafaf489bd69f9e977b5a1930", func := "loop.example/iceharvest/laws.FnExactMostCakes", spec := "fnExactMostCakes", recurses := true, apart := false }
def FnExactMostCakesSaid : Prop := fnExactMostCakesRow.holds Try.pinned (OpenSpec.ofChange fnExactMostCakesSpec)

/-- ITS FALSE NEIGHBOUR: 'it returns false'. Refute it at one input. -/
def fnExactMostCakesWrong : ChangeSpec := { name := "fnExactMostCakes", fn := fun _ => fun
  | [d1, d2, d3] => { results := [.lit (.bool false)], args := [d1, d2, d3] }
  | _ => none }
def FnExactMostCakesWrongFalsely : Prop := fnExactMostCakesRow.holds Try.pinned (OpenSpec.ofChange fnExactMostCakesWrong)

/-- 'laws.FnMostCakes': WHATEVER THE INPUT: true; the input reads as it did. -/
def fnMostCakesSpec : ChangeSpec := { name := "fnMostCakes", fn := fun _ => fun
  | [d] => { results := [.lit (.bool true)], args := [d] }
  | _ => none }
def fnMostCakesRow : OpenClaim := { program := "ytiihenhddleooab", sum := "a6c08d6ab94c74984d6ee011dbe9f7c33799183fafaf489bd69f9e977b5a1930", func := "loop.example/iceharvest/laws.FnMostCakes", spec := "fnMostCakes", recurses := true, apart := false }
def FnMostCakesSaid : Prop := fnMostCakesRow.holds Try.pinned (OpenSpec.ofChange fnMostCakesSpec)

/-- ITS FALSE NEIGHBOUR: 'it returns false'. Refute it at one input. -/
def fnMostCakesWrong : ChangeSpec := { name := "fnMostCakes", fn := fun _ => fun
  | [d] => { results := [.lit (.bool false)], args := [d] }
  | _ => none }
def FnMostCakesWrongFalsely : Prop := fnMostCakesRow.holds Try.pinned (OpenSpec.ofChange fnMostCakesWrong)

/- THE SECOND FORM. 'bulk': how many values and letters a reading holds, each counted each time it is reached (what is shared counts as often as it is met; a slice's spare places count too). A statement '..UptoSaid' is the law's where the arguments, and the package variables that the reading takes, are together of bulk at most 1048576: NARROWER than '..Said'. Prove '..Said' where nothing that the law and all that it calls make is longer than what came in: it says more and counts as full. Else prove '..UptoSaid'. A law counts once. -/
mutual
def uptoBulk {H : Type} : DataW H → Nat
  | .lit (.string bytes) => bytes.length + 1
  | .lit _ => 1
  | .nil => 1
  | .ptr d => uptoBulk d + 1
  | .slice elems spare => uptoBulkAll elems + uptoBulkAll spare + 1
  | .agg parts => uptoBulkAll parts + 1
  | .iface _ d => uptoBulk d + 1
  | .map entries => uptoBulkEntries entries + 1
  | .held _ => 1
def uptoBulkAll {H : Type} : List (DataW H) → Nat
  | [] => 0
  | d :: r => uptoBulk d + uptoBulkAll r
def uptoBulkEntries {H : Type} : List (Lit × DataW H) → Nat
  | [] => 0
  | x :: r => uptoBulkEntry x + uptoBulkEntries r
def uptoBulkEntry {H : Type} : Lit × DataW H → Nat
  | (.string bytes, d) => bytes.length + uptoBulk d + 1
  | (_, d) => uptoBulk d + 1
 end
def uptoSmall : (H : Type) → List (DataW H) → Bool := fun _ ds => decide (uptoBulkAll ds ≤ 1048576)
def OpenSpec.upto (s : _root_.Go.ChangeSpec) : _root_.Go.OpenSpec := { _root_.Go.OpenSpec.ofChange s with cond := some uptoSmall }

/-- 'laws.FnExactValidDebts', WHERE WHAT IT READS IS OF BULK AT MOST 1048576: true; the input reads as it did. -/
def fnExactValidDebtsUptoRow : OpenClaim := { program := "ytiihenhddleooab", sum := "a6c08d6ab94c74984d6ee011dbe9f7c33799183fafaf489bd69f9e977b5a1930", func := "loop.example/iceharvest/laws.FnExactValidDebts", spec := "fnExactValidDebts", apart := false, narrowed := true }
def FnExactValidDebtsUptoSaid : Prop := fnExactValidDebtsUptoRow.holds Try.pinned (OpenSpec.upto fnExactValidDebtsSpec)

/-- 'laws.FnExactBalancesOf', WHERE WHAT IT READS IS OF BULK AT MOST 1048576: true; the input reads as it did. -/
def fnExactBalancesOfUptoRow : OpenClaim := { program := "ytiihenhddleooab", sum := "a6c08d6ab94c74984d6ee011dbe9f7c33799183fafaf489bd69f9e977b5a1930", func := "loop.example/iceharvest/laws.FnExactBalancesOf", spec := "fnExactBalancesOf", apart := false, narrowed := true }
def FnExactBalancesOfUptoSaid : Prop := fnExactBalancesOfUptoRow.holds Try.pinned (OpenSpec.upto fnExactBalancesOfSpec)

/-- 'laws.FnExactSettleDebts', WHERE WHAT IT READS IS OF BULK AT MOST 1048576: true; the input reads as it did. -/
def fnExactSettleDebtsUptoRow : OpenClaim := { program := "ytiihenhddleooab", sum := "a6c08d6ab94c74984d6ee011dbe9f7c33799183fafaf489bd69f9e977b5a1930", func := "loop.example/iceharvest/laws.FnExactSettleDebts", spec := "fnExactSettleDebts", apart := false, narrowed := true }
def FnExactSettleDebtsUptoSaid : Prop := fnExactSettleDebtsUptoRow.holds Try.pinned (OpenSpec.upto fnExactSettleDebtsSpec)

/-- 'laws.FnExactWinnersOf', WHERE WHAT IT READS IS OF BULK AT MOST 1048576: true; the input reads as it did. -/
def fnExactWinnersOfUptoRow : OpenClaim := { program := "ytiihenhddleooab", sum := "a6c08d6ab94c74984d6ee011dbe9f7c33799183fafaf489bd69f9e977b5a1930", func := "loop.example/iceharvest/laws.FnExactWinnersOf", spec := "fnExactWinnersOf", apart := false, narrowed := true }
def FnExactWinnersOfUptoSaid : Prop := fnExactWinnersOfUptoRow.holds Try.pinned (OpenSpec.upto fnExactWinnersOfSpec)

/-- 'laws.FnExactPriceOf', WHERE WHAT IT READS IS OF BULK AT MOST 1048576: true; the input reads as it did. -/
def fnExactPriceOfUptoRow : OpenClaim := { program := "ytiihenhddleooab", sum := "a6c08d6ab94c74984d6ee011dbe9f7c33799183fafaf489bd69f9e977b5a1930", func := "loop.example/iceharvest/laws.FnExactPriceOf", spec := "fnExactPriceOf", apart := false, narrowed := true }
def FnExactPriceOfUptoSaid : Prop := fnExactPriceOfUptoRow.holds Try.pinned (OpenSpec.upto fnExactPriceOfSpec)

/-- 'laws.FnExactGainOf', WHERE WHAT IT READS IS OF BULK AT MOST 1048576: true; the input reads as it did. -/
def fnExactGainOfUptoRow : OpenClaim := { program := "ytiihenhddleooab", sum := "a6c08d6ab94c74984d6ee011dbe9f7c33799183fafaf489bd69f9e977b5a1930", func := "loop.example/iceharvest/laws.FnExactGainOf", spec := "fnExactGainOf", apart := false, narrowed := true }
def FnExactGainOfUptoSaid : Prop := fnExactGainOfUptoRow.holds Try.pinned (OpenSpec.upto fnExactGainOfSpec)

/-- 'laws.FnExactValidClauses', WHERE WHAT IT READS IS OF BULK AT MOST 1048576: true; the input reads as it did. -/
def fnExactValidClausesUptoRow : OpenClaim := { program := "ytiihenhddleooab", sum := "a6c08d6ab94c74984d6ee011dbe9f7c33799183fafaf489bd69f9e977b5a1930", func := "loop.example/iceharvest/laws.FnExactValidClauses", spec := "fnExactValidClauses", apart := false, narrowed := true }
def FnExactValidClausesUptoSaid : Prop := fnExactValidClausesUptoRow.holds Try.pinned (OpenSpec.upto fnExactValidClausesSpec)

/-- 'laws.FnExactPayFor', WHERE WHAT IT READS IS OF BULK AT MOST 1048576: true; the input reads as it did. -/
def fnExactPayForUptoRow : OpenClaim := { program := "ytiihenhddleooab", sum := "a6c08d6ab94c74984d6ee011dbe9f7c33799183fafaf489bd69f9e977b5a1930", func := "loop.example/iceharvest/laws.FnExactPayFor", spec := "fnExactPayFor", apart := false, narrowed := true }
def FnExactPayForUptoSaid : Prop := fnExactPayForUptoRow.holds Try.pinned (OpenSpec.upto fnExactPayForSpec)

/-- 'laws.FnExactWorstPay', WHERE WHAT IT READS IS OF BULK AT MOST 1048576: true; the input reads as it did. -/
def fnExactWorstPayUptoRow : OpenClaim := { program := "ytiihenhddleooab", sum := "a6c08d6ab94c74984d6ee011dbe9f7c33799183fafaf489bd69f9e977b5a1930", func := "loop.example/iceharvest/laws.FnExactWorstPay", spec := "fnExactWorstPay", apart := false, narrowed := true }
def FnExactWorstPayUptoSaid : Prop := fnExactWorstPayUptoRow.holds Try.pinned (OpenSpec.upto fnExactWorstPaySpec)

/-- 'laws.FnExactSimplify', WHERE WHAT IT READS IS OF BULK AT MOST 1048576: true; the input reads as it did. -/
def fnExactSimplifyUptoRow : OpenClaim := { program := "ytiihenhddleooab", sum := "a6c08d6ab94c74984d6ee011dbe9f7c33799183fafaf489bd69f9e977b5a1930", func := "loop.example/iceharvest/laws.FnExactSimplify", spec := "fnExactSimplify", apart := false, narrowed := true }
def FnExactSimplifyUptoSaid : Prop := fnExactSimplifyUptoRow.holds Try.pinned (OpenSpec.upto fnExactSimplifySpec)

/-- 'laws.FnExactMostCakes', WHERE WHAT IT READS IS OF BULK AT MOST 1048576: true; the input reads as it did. -/
def fnExactMostCakesUptoRow : OpenClaim := { program := "ytiihenhddleooab", sum := "a6c08d6ab94c74984d6ee011dbe9f7c33799183fafaf489bd69f9e977b5a1930", func := "loop.example/iceharvest/laws.FnExactMostCakes", spec := "fnExactMostCakes", recurses := true, apart := false, narrowed := true }
def FnExactMostCakesUptoSaid : Prop := fnExactMostCakesUptoRow.holds Try.pinned (OpenSpec.upto fnExactMostCakesSpec)

/-- 'laws.FnMostCakes', WHERE WHAT IT READS IS OF BULK AT MOST 1048576: true; the input reads as it did. -/
def fnMostCakesUptoRow : OpenClaim := { program := "ytiihenhddleooab", sum := "a6c08d6ab94c74984d6ee011dbe9f7c33799183fafaf489bd69f9e977b5a1930", func := "loop.example/iceharvest/laws.FnMostCakes", spec := "fnMostCakes", recurses := true, apart := false, narrowed := true }
def FnMostCakesUptoSaid : Prop := fnMostCakesUptoRow.holds Try.pinned (OpenSpec.upto fnMostCakesSpec)

end Rows
end Go.Proofs.Ytiihenhddleooab
