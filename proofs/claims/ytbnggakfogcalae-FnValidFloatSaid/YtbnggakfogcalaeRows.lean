/-
  No cell of these rows narrows 'for every input' (looked for: loops, veiled, ifaces, maps, wideKeys, modest, calm, conditions, laid).
  DERIVED. THE GIVEN ROWS OF THIS SEAT. 6 by the template 'for every input the law returns true; each argument reads behind the call as it read before'; 0 by the template 'total and deterministic' (their statements: YtbnggakfogcalaeTotals.lean).
  GIVEN WITH THE SEED: the statements are not yours to turn. If you find one false, say at which input.
  Laid BY PROGRAM, IN A SANDBOX (cutbox-rows.mjs): the forced cells as the released guide's own fill.sh prints them over the translation 8a541690353d2b5c… (all of the seat's roots in one cut). By AI agents, Wed Nov 11 2026. No macro, syntax, notation, axiom, sorry.
-/
import Derived.Test.YtbnggakfogcalaeChecked
import GoSem.Claim
import GoSem.ClaimJoined
import GoSem.ClaimMapViews
import Derived.JoinedTies
import Derived.KernelRfl
namespace Go.Proofs.Ytbnggakfogcalae
/- THE CELL 'sum', in the pinned program and in every row, IS THE sha256 OF THE DUMP (.gsa) THAT YtbnggakfogcalaeProg.lean LOADS. Nothing in Lean hashes anything: it is a label: what it is worth is what the hold of that sum in a sandbox is worth. -/
noncomputable def Try.pinned : Pinned := { name := "ytbnggakfogcalae", sum := "8a541690353d2b5ca3dcbb9bed5f16143ecb6f78eca48adfa2d55b03b3be0903", checked := Try.checked }
namespace Rows
def none {H : Type} : Left H := { results := [], args := [] }

/-- 'laws.FnExactMostCakes': WHATEVER THE INPUT: true; the input reads as it did. -/
def fnExactMostCakesSpec : ChangeSpec := { name := "fnExactMostCakes", fn := fun _ => fun
  | [d1, d2, d3] => { results := [.lit (.bool true)], args := [d1, d2, d3] }
  | _ => none }
def fnExactMostCakesRow : OpenClaim := { program := "ytbnggakfogcalae", sum := "8a541690353d2b5ca3dcbb9bed5f16143ecb6f78eca48adfa2d55b03b3be0903", func := "loop.example/iceharvest/laws.FnExactMostCakes", spec := "fnExactMostCakes", recurses := true, apart := false }
def FnExactMostCakesSaid : Prop := fnExactMostCakesRow.holds Try.pinned (OpenSpec.ofChange fnExactMostCakesSpec)

/-- ITS FALSE NEIGHBOUR: 'it returns false'. Refute it at one input. -/
def fnExactMostCakesWrong : ChangeSpec := { name := "fnExactMostCakes", fn := fun _ => fun
  | [d1, d2, d3] => { results := [.lit (.bool false)], args := [d1, d2, d3] }
  | _ => none }
def FnExactMostCakesWrongFalsely : Prop := fnExactMostCakesRow.holds Try.pinned (OpenSpec.ofChange fnExactMostCakesWrong)

/-- 'laws.FnValidCakes': WHATEVER THE INPUT: true; the input reads as it did. -/
def fnValidCakesSpec : ChangeSpec := { name := "fnValidCakes", fn := fun _ => fun
  | [d] => { results := [.lit (.bool true)], args := [d] }
  | _ => none }
def fnValidCakesRow : OpenClaim := { program := "ytbnggakfogcalae", sum := "8a541690353d2b5ca3dcbb9bed5f16143ecb6f78eca48adfa2d55b03b3be0903", func := "loop.example/iceharvest/laws.FnValidCakes", spec := "fnValidCakes", apart := false }
def FnValidCakesSaid : Prop := fnValidCakesRow.holds Try.pinned (OpenSpec.ofChange fnValidCakesSpec)

/-- ITS FALSE NEIGHBOUR: 'it returns false'. Refute it at one input. -/
def fnValidCakesWrong : ChangeSpec := { name := "fnValidCakes", fn := fun _ => fun
  | [d] => { results := [.lit (.bool false)], args := [d] }
  | _ => none }
def FnValidCakesWrongFalsely : Prop := fnValidCakesRow.holds Try.pinned (OpenSpec.ofChange fnValidCakesWrong)

/-- 'laws.FnValidFloat': WHATEVER THE INPUT: true; the input reads as it did. -/
def fnValidFloatSpec : ChangeSpec := { name := "fnValidFloat", fn := fun _ => fun
  | [d] => { results := [.lit (.bool true)], args := [d] }
  | _ => none }
def fnValidFloatRow : OpenClaim := { program := "ytbnggakfogcalae", sum := "8a541690353d2b5ca3dcbb9bed5f16143ecb6f78eca48adfa2d55b03b3be0903", func := "loop.example/iceharvest/laws.FnValidFloat", spec := "fnValidFloat", apart := false }
def FnValidFloatSaid : Prop := fnValidFloatRow.holds Try.pinned (OpenSpec.ofChange fnValidFloatSpec)

/-- ITS FALSE NEIGHBOUR: 'it returns false'. Refute it at one input. -/
def fnValidFloatWrong : ChangeSpec := { name := "fnValidFloat", fn := fun _ => fun
  | [d] => { results := [.lit (.bool false)], args := [d] }
  | _ => none }
def FnValidFloatWrongFalsely : Prop := fnValidFloatRow.holds Try.pinned (OpenSpec.ofChange fnValidFloatWrong)

/-- 'laws.FnFloatOrder': WHATEVER THE INPUT: true; the input reads as it did. -/
def fnFloatOrderSpec : ChangeSpec := { name := "fnFloatOrder", fn := fun _ => fun
  | [d] => { results := [.lit (.bool true)], args := [d] }
  | _ => none }
def fnFloatOrderRow : OpenClaim := { program := "ytbnggakfogcalae", sum := "8a541690353d2b5ca3dcbb9bed5f16143ecb6f78eca48adfa2d55b03b3be0903", func := "loop.example/iceharvest/laws.FnFloatOrder", spec := "fnFloatOrder", apart := false }
def FnFloatOrderSaid : Prop := fnFloatOrderRow.holds Try.pinned (OpenSpec.ofChange fnFloatOrderSpec)

/-- ITS FALSE NEIGHBOUR: 'it returns false'. Refute it at one input. -/
def fnFloatOrderWrong : ChangeSpec := { name := "fnFloatOrder", fn := fun _ => fun
  | [d] => { results := [.lit (.bool false)], args := [d] }
  | _ => none }
def FnFloatOrderWrongFalsely : Prop := fnFloatOrderRow.holds Try.pinned (OpenSpec.ofChange fnFloatOrderWrong)

/-- 'laws.FnCountFloats': WHATEVER THE INPUT: true; the input reads as it did. -/
def fnCountFloatsSpec : ChangeSpec := { name := "fnCountFloats", fn := fun _ => fun
  | [d] => { results := [.lit (.bool true)], args := [d] }
  | _ => none }
def fnCountFloatsRow : OpenClaim := { program := "ytbnggakfogcalae", sum := "8a541690353d2b5ca3dcbb9bed5f16143ecb6f78eca48adfa2d55b03b3be0903", func := "loop.example/iceharvest/laws.FnCountFloats", spec := "fnCountFloats", recurses := true, apart := false }
def FnCountFloatsSaid : Prop := fnCountFloatsRow.holds Try.pinned (OpenSpec.ofChange fnCountFloatsSpec)

/-- ITS FALSE NEIGHBOUR: 'it returns false'. Refute it at one input. -/
def fnCountFloatsWrong : ChangeSpec := { name := "fnCountFloats", fn := fun _ => fun
  | [d] => { results := [.lit (.bool false)], args := [d] }
  | _ => none }
def FnCountFloatsWrongFalsely : Prop := fnCountFloatsRow.holds Try.pinned (OpenSpec.ofChange fnCountFloatsWrong)

/-- 'laws.FnSawLength': WHATEVER THE INPUT: true; the input reads as it did. -/
def fnSawLengthSpec : ChangeSpec := { name := "fnSawLength", fn := fun _ => fun
  | [d] => { results := [.lit (.bool true)], args := [d] }
  | _ => none }
def fnSawLengthRow : OpenClaim := { program := "ytbnggakfogcalae", sum := "8a541690353d2b5ca3dcbb9bed5f16143ecb6f78eca48adfa2d55b03b3be0903", func := "loop.example/iceharvest/laws.FnSawLength", spec := "fnSawLength", apart := false }
def FnSawLengthSaid : Prop := fnSawLengthRow.holds Try.pinned (OpenSpec.ofChange fnSawLengthSpec)

/-- ITS FALSE NEIGHBOUR: 'it returns false'. Refute it at one input. -/
def fnSawLengthWrong : ChangeSpec := { name := "fnSawLength", fn := fun _ => fun
  | [d] => { results := [.lit (.bool false)], args := [d] }
  | _ => none }
def FnSawLengthWrongFalsely : Prop := fnSawLengthRow.holds Try.pinned (OpenSpec.ofChange fnSawLengthWrong)

/- THE SECOND FORM. 'bulk': how many values and letters a reading holds, each counted each time it is reached (what is shared counts as often as it is met; a slice's spare places count too). A statement '..UptoSaid' is the law's where the arguments, and the package variables that the reading takes, are together of bulk at most 1048576: NARROWER than '..Said'. Prove '..Said' where nothing that the law and all that it calls make is longer than what came in: it says more and counts as full. Else prove '..UptoSaid'. A law counts once. -/
mutual
def uptoBulk {H : Type} : DataW H → Nat
  | .lit (.string bytes) => bytes.length + 1
  | .lit _ => 1
  | .nil => 1
  | .ptr d => uptoBulk d + 1
  | .slice elems spare => uptoBulkAll elems + uptoBulkAll spare + 1
  | .agg parts => uptoBulkAll parts + 1
  | .iface _ d => uptoBulk d + 1
  | .map entries => uptoBulkEntries entries + 1
  | .held _ => 1
def uptoBulkAll {H : Type} : List (DataW H) → Nat
  | [] => 0
  | d :: r => uptoBulk d + uptoBulkAll r
def uptoBulkEntries {H : Type} : List (Lit × DataW H) → Nat
  | [] => 0
  | x :: r => uptoBulkEntry x + uptoBulkEntries r
def uptoBulkEntry {H : Type} : Lit × DataW H → Nat
  | (.string bytes, d) => bytes.length + uptoBulk d + 1
  | (_, d) => uptoBulk d + 1
 end
def uptoSmall : (H : Type) → List (DataW H) → Bool := fun _ ds => decide (uptoBulkAll ds ≤ 1048576)
def OpenSpec.upto (s : _root_.Go.ChangeSpec) : _root_.Go.OpenSpec := { _root_.Go.OpenSpec.ofChange s with cond := some uptoSmall }

/-- 'laws.FnExactMostCakes', WHERE WHAT IT READS IS OF BULK AT MOST 1048576: true; the input reads as it did. -/
def fnExactMostCakesUptoRow : OpenClaim := { program := "ytbnggakfogcalae", sum := "8a541690353d2b5ca3dcbb9bed5f16143ecb6f78eca48adfa2d55b03b3be0903", func := "loop.example/iceharvest/laws.FnExactMostCakes", spec := "fnExactMostCakes", recurses := true, apart := false, narrowed := true }
def FnExactMostCakesUptoSaid : Prop := fnExactMostCakesUptoRow.holds Try.pinned (OpenSpec.upto fnExactMostCakesSpec)

/-- 'laws.FnValidCakes', WHERE WHAT IT READS IS OF BULK AT MOST 1048576: true; the input reads as it did. -/
def fnValidCakesUptoRow : OpenClaim := { program := "ytbnggakfogcalae", sum := "8a541690353d2b5ca3dcbb9bed5f16143ecb6f78eca48adfa2d55b03b3be0903", func := "loop.example/iceharvest/laws.FnValidCakes", spec := "fnValidCakes", apart := false, narrowed := true }
def FnValidCakesUptoSaid : Prop := fnValidCakesUptoRow.holds Try.pinned (OpenSpec.upto fnValidCakesSpec)

/-- 'laws.FnValidFloat', WHERE WHAT IT READS IS OF BULK AT MOST 1048576: true; the input reads as it did. -/
def fnValidFloatUptoRow : OpenClaim := { program := "ytbnggakfogcalae", sum := "8a541690353d2b5ca3dcbb9bed5f16143ecb6f78eca48adfa2d55b03b3be0903", func := "loop.example/iceharvest/laws.FnValidFloat", spec := "fnValidFloat", apart := false, narrowed := true }
def FnValidFloatUptoSaid : Prop := fnValidFloatUptoRow.holds Try.pinned (OpenSpec.upto fnValidFloatSpec)

/-- 'laws.FnFloatOrder', WHERE WHAT IT READS IS OF BULK AT MOST 1048576: true; the input reads as it did. -/
def fnFloatOrderUptoRow : OpenClaim := { program := "ytbnggakfogcalae", sum := "8a541690353d2b5ca3dcbb9bed5f16143ecb6f78eca48adfa2d55b03b3be0903", func := "loop.example/iceharvest/laws.FnFloatOrder", spec := "fnFloatOrder", apart := false, narrowed := true }
def FnFloatOrderUptoSaid : Prop := fnFloatOrderUptoRow.holds Try.pinned (OpenSpec.upto fnFloatOrderSpec)

/-- 'laws.FnCountFloats', WHERE WHAT IT READS IS OF BULK AT MOST 1048576: true; the input reads as it did. -/
def fnCountFloatsUptoRow : OpenClaim := { program := "ytbnggakfogcalae", sum := "8a541690353d2b5ca3dcbb9bed5f16143ecb6f78eca48adfa2d55b03b3be0903", func := "loop.example/iceharvest/laws.FnCountFloats", spec := "fnCountFloats", recurses := true, apart := false, narrowed := true }
def FnCountFloatsUptoSaid : Prop := fnCountFloatsUptoRow.holds Try.pinned (OpenSpec.upto fnCountFloatsSpec)

/-- 'laws.FnSawLength', WHERE WHAT IT READS IS OF BULK AT MOST 1048576: true; the input reads as it did. -/
def fnSawLengthUptoRow : OpenClaim := { program := "ytbnggakfogcalae", sum := "8a541690353d2b5ca3dcbb9bed5f16143ecb6f78eca48adfa2d55b03b3be0903", func := "loop.example/iceharvest/laws.FnSawLength", spec := "fnSawLength", apart := false, narrowed := true }
def FnSawLengthUptoSaid : Prop := fnSawLengthUptoRow.holds Try.pinned (OpenSpec.upto fnSawLengthSpec)

end Rows
end Go.Proofs.Ytbnggakfogcalae
