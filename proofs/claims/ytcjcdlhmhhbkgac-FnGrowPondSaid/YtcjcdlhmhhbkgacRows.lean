/-
  No cell of these rows narrows 'for every input' (looked for: loops, veiled, ifaces, maps, wideKeys, modest, calm, conditions, laid).
  DERIVED. THE GIVEN ROWS OF THIS SEAT. 12 by the template 'for every input the law returns true; each argument reads behind the call as it read before'; 0 by the template 'total and deterministic' (their statements: YtcjcdlhmhhbkgacTotals.lean).
  GIVEN WITH THE SEED: the statements are not yours to turn. If you find one false, say at which input.
  Laid BY PROGRAM, IN A SANDBOX (cutbox-rows.mjs): the forced cells as the released guide's own fill.sh prints them over the translation 4406d6a38db48a96… (all of the seat's roots in one cut). By AI agents, Wed Nov 11 2026. No macro, syntax, notation, axiom, sorry.
-/
import Derived.Test.YtcjcdlhmhhbkgacChecked
import GoSem.Claim
import GoSem.ClaimJoined
import GoSem.ClaimMapViews
import Derived.JoinedTies
import Derived.KernelRfl
namespace Go.Proofs.Ytcjcdlhmhhbkgac
/- THE CELL 'sum', in the pinned program and in every row, IS THE sha256 OF THE DUMP (.gsa) THAT YtcjcdlhmhhbkgacProg.lean LOADS. Nothing in Lean hashes anything: it is a label: what it is worth is what the hold of that sum in a sandbox is worth. -/
noncomputable def Try.pinned : Pinned := { name := "ytcjcdlhmhhbkgac", sum := "4406d6a38db48a9628488037dc82e0a0c3d32dd4d4d1694df1fe70bbc01053d1", checked := Try.checked }
namespace Rows
def none {H : Type} : Left H := { results := [], args := [] }

/-- 'laws.FnCakesAt': WHATEVER THE INPUT: true; the input reads as it did. -/
def fnCakesAtSpec : ChangeSpec := { name := "fnCakesAt", fn := fun _ => fun
  | [d] => { results := [.lit (.bool true)], args := [d] }
  | _ => none }
def fnCakesAtRow : OpenClaim := { program := "ytcjcdlhmhhbkgac", sum := "4406d6a38db48a9628488037dc82e0a0c3d32dd4d4d1694df1fe70bbc01053d1", func := "loop.example/iceharvest/laws.FnCakesAt", spec := "fnCakesAt", apart := false }
def FnCakesAtSaid : Prop := fnCakesAtRow.holds Try.pinned (OpenSpec.ofChange fnCakesAtSpec)

/-- ITS FALSE NEIGHBOUR: 'it returns false'. Refute it at one input. -/
def fnCakesAtWrong : ChangeSpec := { name := "fnCakesAt", fn := fun _ => fun
  | [d] => { results := [.lit (.bool false)], args := [d] }
  | _ => none }
def FnCakesAtWrongFalsely : Prop := fnCakesAtRow.holds Try.pinned (OpenSpec.ofChange fnCakesAtWrong)

/-- 'laws.FnMostCakes': WHATEVER THE INPUT: true; the input reads as it did. -/
def fnMostCakesSpec : ChangeSpec := { name := "fnMostCakes", fn := fun _ => fun
  | [d] => { results := [.lit (.bool true)], args := [d] }
  | _ => none }
def fnMostCakesRow : OpenClaim := { program := "ytcjcdlhmhhbkgac", sum := "4406d6a38db48a9628488037dc82e0a0c3d32dd4d4d1694df1fe70bbc01053d1", func := "loop.example/iceharvest/laws.FnMostCakes", spec := "fnMostCakes", recurses := true, apart := false }
def FnMostCakesSaid : Prop := fnMostCakesRow.holds Try.pinned (OpenSpec.ofChange fnMostCakesSpec)

/-- ITS FALSE NEIGHBOUR: 'it returns false'. Refute it at one input. -/
def fnMostCakesWrong : ChangeSpec := { name := "fnMostCakes", fn := fun _ => fun
  | [d] => { results := [.lit (.bool false)], args := [d] }
  | _ => none }
def FnMostCakesWrongFalsely : Prop := fnMostCakesRow.holds Try.pinned (OpenSpec.ofChange fnMostCakesWrong)

/-- 'laws.FnMostCakesTurned': WHATEVER THE INPUT: true; the input reads as it did. -/
def fnMostCakesTurnedSpec : ChangeSpec := { name := "fnMostCakesTurned", fn := fun _ => fun
  | [d] => { results := [.lit (.bool true)], args := [d] }
  | _ => none }
def fnMostCakesTurnedRow : OpenClaim := { program := "ytcjcdlhmhhbkgac", sum := "4406d6a38db48a9628488037dc82e0a0c3d32dd4d4d1694df1fe70bbc01053d1", func := "loop.example/iceharvest/laws.FnMostCakesTurned", spec := "fnMostCakesTurned", recurses := true, apart := false }
def FnMostCakesTurnedSaid : Prop := fnMostCakesTurnedRow.holds Try.pinned (OpenSpec.ofChange fnMostCakesTurnedSpec)

/-- ITS FALSE NEIGHBOUR: 'it returns false'. Refute it at one input. -/
def fnMostCakesTurnedWrong : ChangeSpec := { name := "fnMostCakesTurned", fn := fun _ => fun
  | [d] => { results := [.lit (.bool false)], args := [d] }
  | _ => none }
def FnMostCakesTurnedWrongFalsely : Prop := fnMostCakesTurnedRow.holds Try.pinned (OpenSpec.ofChange fnMostCakesTurnedWrong)

/-- 'laws.FnValidCakes': WHATEVER THE INPUT: true; the input reads as it did. -/
def fnValidCakesSpec : ChangeSpec := { name := "fnValidCakes", fn := fun _ => fun
  | [d] => { results := [.lit (.bool true)], args := [d] }
  | _ => none }
def fnValidCakesRow : OpenClaim := { program := "ytcjcdlhmhhbkgac", sum := "4406d6a38db48a9628488037dc82e0a0c3d32dd4d4d1694df1fe70bbc01053d1", func := "loop.example/iceharvest/laws.FnValidCakes", spec := "fnValidCakes", apart := false }
def FnValidCakesSaid : Prop := fnValidCakesRow.holds Try.pinned (OpenSpec.ofChange fnValidCakesSpec)

/-- ITS FALSE NEIGHBOUR: 'it returns false'. Refute it at one input. -/
def fnValidCakesWrong : ChangeSpec := { name := "fnValidCakes", fn := fun _ => fun
  | [d] => { results := [.lit (.bool false)], args := [d] }
  | _ => none }
def FnValidCakesWrongFalsely : Prop := fnValidCakesRow.holds Try.pinned (OpenSpec.ofChange fnValidCakesWrong)

/-- 'laws.FnValidFloat': WHATEVER THE INPUT: true; the input reads as it did. -/
def fnValidFloatSpec : ChangeSpec := { name := "fnValidFloat", fn := fun _ => fun
  | [d] => { results := [.lit (.bool true)], args := [d] }
  | _ => none }
def fnValidFloatRow : OpenClaim := { program := "ytcjcdlhmhhbkgac", sum := "4406d6a38db48a9628488037dc82e0a0c3d32dd4d4d1694df1fe70bbc01053d1", func := "loop.example/iceharvest/laws.FnValidFloat", spec := "fnValidFloat", apart := false }
def FnValidFloatSaid : Prop := fnValidFloatRow.holds Try.pinned (OpenSpec.ofChange fnValidFloatSpec)

/-- ITS FALSE NEIGHBOUR: 'it returns false'. Refute it at one input. -/
def fnValidFloatWrong : ChangeSpec := { name := "fnValidFloat", fn := fun _ => fun
  | [d] => { results := [.lit (.bool false)], args := [d] }
  | _ => none }
def FnValidFloatWrongFalsely : Prop := fnValidFloatRow.holds Try.pinned (OpenSpec.ofChange fnValidFloatWrong)

/-- 'laws.FnFloatOrder': WHATEVER THE INPUT: true; the input reads as it did. -/
def fnFloatOrderSpec : ChangeSpec := { name := "fnFloatOrder", fn := fun _ => fun
  | [d] => { results := [.lit (.bool true)], args := [d] }
  | _ => none }
def fnFloatOrderRow : OpenClaim := { program := "ytcjcdlhmhhbkgac", sum := "4406d6a38db48a9628488037dc82e0a0c3d32dd4d4d1694df1fe70bbc01053d1", func := "loop.example/iceharvest/laws.FnFloatOrder", spec := "fnFloatOrder", apart := false }
def FnFloatOrderSaid : Prop := fnFloatOrderRow.holds Try.pinned (OpenSpec.ofChange fnFloatOrderSpec)

/-- ITS FALSE NEIGHBOUR: 'it returns false'. Refute it at one input. -/
def fnFloatOrderWrong : ChangeSpec := { name := "fnFloatOrder", fn := fun _ => fun
  | [d] => { results := [.lit (.bool false)], args := [d] }
  | _ => none }
def FnFloatOrderWrongFalsely : Prop := fnFloatOrderRow.holds Try.pinned (OpenSpec.ofChange fnFloatOrderWrong)

/-- 'laws.FnCountFloats': WHATEVER THE INPUT: true; the input reads as it did. -/
def fnCountFloatsSpec : ChangeSpec := { name := "fnCountFloats", fn := fun _ => fun
  | [d] => { results := [.lit (.bool true)], args := [d] }
  | _ => none }
def fnCountFloatsRow : OpenClaim := { program := "ytcjcdlhmhhbkgac", sum := "4406d6a38db48a9628488037dc82e0a0c3d32dd4d4d1694df1fe70bbc01053d1", func := "loop.example/iceharvest/laws.FnCountFloats", spec := "fnCountFloats", recurses := true, apart := false }
def FnCountFloatsSaid : Prop := fnCountFloatsRow.holds Try.pinned (OpenSpec.ofChange fnCountFloatsSpec)

/-- ITS FALSE NEIGHBOUR: 'it returns false'. Refute it at one input. -/
def fnCountFloatsWrong : ChangeSpec := { name := "fnCountFloats", fn := fun _ => fun
  | [d] => { results := [.lit (.bool false)], args := [d] }
  | _ => none }
def FnCountFloatsWrongFalsely : Prop := fnCountFloatsRow.holds Try.pinned (OpenSpec.ofChange fnCountFloatsWrong)

/-- 'laws.FnSawLength': WHATEVER THE INPUT: true; the input reads as it did. -/
def fnSawLengthSpec : ChangeSpec := { name := "fnSawLength", fn := fun _ => fun
  | [d] => { results := [.lit (.bool true)], args := [d] }
  | _ => none }
def fnSawLengthRow : OpenClaim := { program := "ytcjcdlhmhhbkgac", sum := "4406d6a38db48a9628488037dc82e0a0c3d32dd4d4d1694df1fe70bbc01053d1", func := "loop.example/iceharvest/laws.FnSawLength", spec := "fnSawLength", apart := false }
def FnSawLengthSaid : Prop := fnSawLengthRow.holds Try.pinned (OpenSpec.ofChange fnSawLengthSpec)

/-- ITS FALSE NEIGHBOUR: 'it returns false'. Refute it at one input. -/
def fnSawLengthWrong : ChangeSpec := { name := "fnSawLength", fn := fun _ => fun
  | [d] => { results := [.lit (.bool false)], args := [d] }
  | _ => none }
def FnSawLengthWrongFalsely : Prop := fnSawLengthRow.holds Try.pinned (OpenSpec.ofChange fnSawLengthWrong)

/-- 'laws.FnExactMostCakes': WHATEVER THE INPUT: true; the input reads as it did. -/
def fnExactMostCakesSpec : ChangeSpec := { name := "fnExactMostCakes", fn := fun _ => fun
  | [d1, d2, d3] => { results := [.lit (.bool true)], args := [d1, d2, d3] }
  | _ => none }
def fnExactMostCakesRow : OpenClaim := { program := "ytcjcdlhmhhbkgac", sum := "4406d6a38db48a9628488037dc82e0a0c3d32dd4d4d1694df1fe70bbc01053d1", func := "loop.example/iceharvest/laws.FnExactMostCakes", spec := "fnExactMostCakes", recurses := true, apart := false }
def FnExactMostCakesSaid : Prop := fnExactMostCakesRow.holds Try.pinned (OpenSpec.ofChange fnExactMostCakesSpec)

/-- ITS FALSE NEIGHBOUR: 'it returns false'. Refute it at one input. -/
def fnExactMostCakesWrong : ChangeSpec := { name := "fnExactMostCakes", fn := fun _ => fun
  | [d1, d2, d3] => { results := [.lit (.bool false)], args := [d1, d2, d3] }
  | _ => none }
def FnExactMostCakesWrongFalsely : Prop := fnExactMostCakesRow.holds Try.pinned (OpenSpec.ofChange fnExactMostCakesWrong)

/-- 'laws.FnGrowPond': WHATEVER THE INPUT: true; the input reads as it did. -/
def fnGrowPondSpec : ChangeSpec := { name := "fnGrowPond", fn := fun _ => fun
  | [d] => { results := [.lit (.bool true)], args := [d] }
  | _ => none }
def fnGrowPondRow : OpenClaim := { program := "ytcjcdlhmhhbkgac", sum := "4406d6a38db48a9628488037dc82e0a0c3d32dd4d4d1694df1fe70bbc01053d1", func := "loop.example/iceharvest/laws.FnGrowPond", spec := "fnGrowPond", apart := false }
def FnGrowPondSaid : Prop := fnGrowPondRow.holds Try.pinned (OpenSpec.ofChange fnGrowPondSpec)

/-- ITS FALSE NEIGHBOUR: 'it returns false'. Refute it at one input. -/
def fnGrowPondWrong : ChangeSpec := { name := "fnGrowPond", fn := fun _ => fun
  | [d] => { results := [.lit (.bool false)], args := [d] }
  | _ => none }
def FnGrowPondWrongFalsely : Prop := fnGrowPondRow.holds Try.pinned (OpenSpec.ofChange fnGrowPondWrong)

/-- 'laws.FnGrowPondWays': WHATEVER THE INPUT: true; the input reads as it did. -/
def fnGrowPondWaysSpec : ChangeSpec := { name := "fnGrowPondWays", fn := fun _ => fun
  | [d] => { results := [.lit (.bool true)], args := [d] }
  | _ => none }
def fnGrowPondWaysRow : OpenClaim := { program := "ytcjcdlhmhhbkgac", sum := "4406d6a38db48a9628488037dc82e0a0c3d32dd4d4d1694df1fe70bbc01053d1", func := "loop.example/iceharvest/laws.FnGrowPondWays", spec := "fnGrowPondWays", apart := false }
def FnGrowPondWaysSaid : Prop := fnGrowPondWaysRow.holds Try.pinned (OpenSpec.ofChange fnGrowPondWaysSpec)

/-- ITS FALSE NEIGHBOUR: 'it returns false'. Refute it at one input. -/
def fnGrowPondWaysWrong : ChangeSpec := { name := "fnGrowPondWays", fn := fun _ => fun
  | [d] => { results := [.lit (.bool false)], args := [d] }
  | _ => none }
def FnGrowPondWaysWrongFalsely : Prop := fnGrowPondWaysRow.holds Try.pinned (OpenSpec.ofChange fnGrowPondWaysWrong)

/-- 'laws.FnExactGrowPond': WHATEVER THE INPUT: true; the input reads as it did. -/
def fnExactGrowPondSpec : ChangeSpec := { name := "fnExactGrowPond", fn := fun _ => fun
  | [d1, d2] => { results := [.lit (.bool true)], args := [d1, d2] }
  | _ => none }
def fnExactGrowPondRow : OpenClaim := { program := "ytcjcdlhmhhbkgac", sum := "4406d6a38db48a9628488037dc82e0a0c3d32dd4d4d1694df1fe70bbc01053d1", func := "loop.example/iceharvest/laws.FnExactGrowPond", spec := "fnExactGrowPond", apart := false }
def FnExactGrowPondSaid : Prop := fnExactGrowPondRow.holds Try.pinned (OpenSpec.ofChange fnExactGrowPondSpec)

/-- ITS FALSE NEIGHBOUR: 'it returns false'. Refute it at one input. -/
def fnExactGrowPondWrong : ChangeSpec := { name := "fnExactGrowPond", fn := fun _ => fun
  | [d1, d2] => { results := [.lit (.bool false)], args := [d1, d2] }
  | _ => none }
def FnExactGrowPondWrongFalsely : Prop := fnExactGrowPondRow.holds Try.pinned (OpenSpec.ofChange fnExactGrowPondWrong)

/- THE SECOND FORM. 'bulk': how many values and letters a reading holds, each counted each time it is reached (what is shared counts as often as it is met; a slice's spare places count too). A statement '..UptoSaid' is the law's where the arguments, and the package variables that the reading takes, are together of bulk at most 1048576: NARROWER than '..Said'. Prove '..Said' where nothing that the law and all that it calls make is longer than what came in: it says more and counts as full. Else prove '..UptoSaid'. A law counts once. -/
mutual
def uptoBulk {H : Type} : DataW H → Nat
  | .lit (.string bytes) => bytes.length + 1
  | .lit _ => 1
  | .nil => 1
  | .ptr d => uptoBulk d + 1
  | .slice elems spare => uptoBulkAll elems + uptoBulkAll spare + 1
  | .agg parts => uptoBulkAll parts + 1
  | .iface _ d => uptoBulk d + 1
  | .map entries => uptoBulkEntries entries + 1
  | .held _ => 1
def uptoBulkAll {H : Type} : List (DataW H) → Nat
  | [] => 0
  | d :: r => uptoBulk d + uptoBulkAll r
def uptoBulkEntries {H : Type} : List (Lit × DataW H) → Nat
  | [] => 0
  | x :: r => uptoBulkEntry x + uptoBulkEntries r
def uptoBulkEntry {H : Type} : Lit × DataW H → Nat
  | (.string bytes, d) => bytes.length + uptoBulk d + 1
  | (_, d) => uptoBulk d + 1
 end
def uptoSmall : (H : Type) → List (DataW H) → Bool := fun _ ds => decide (uptoBulkAll ds ≤ 1048576)
def OpenSpec.upto (s : _root_.Go.ChangeSpec) : _root_.Go.OpenSpec := { _root_.Go.OpenSpec.ofChange s with cond := some uptoSmall }

/-- 'laws.FnCakesAt', WHERE WHAT IT READS IS OF BULK AT MOST 1048576: true; the input reads as it did. -/
def fnCakesAtUptoRow : OpenClaim := { program := "ytcjcdlhmhhbkgac", sum := "4406d6a38db48a9628488037dc82e0a0c3d32dd4d4d1694df1fe70bbc01053d1", func := "loop.example/iceharvest/laws.FnCakesAt", spec := "fnCakesAt", apart := false, narrowed := true }
def FnCakesAtUptoSaid : Prop := fnCakesAtUptoRow.holds Try.pinned (OpenSpec.upto fnCakesAtSpec)

/-- 'laws.FnMostCakes', WHERE WHAT IT READS IS OF BULK AT MOST 1048576: true; the input reads as it did. -/
def fnMostCakesUptoRow : OpenClaim := { program := "ytcjcdlhmhhbkgac", sum := "4406d6a38db48a9628488037dc82e0a0c3d32dd4d4d1694df1fe70bbc01053d1", func := "loop.example/iceharvest/laws.FnMostCakes", spec := "fnMostCakes", recurses := true, apart := false, narrowed := true }
def FnMostCakesUptoSaid : Prop := fnMostCakesUptoRow.holds Try.pinned (OpenSpec.upto fnMostCakesSpec)

/-- 'laws.FnMostCakesTurned', WHERE WHAT IT READS IS OF BULK AT MOST 1048576: true; the input reads as it did. -/
def fnMostCakesTurnedUptoRow : OpenClaim := { program := "ytcjcdlhmhhbkgac", sum := "4406d6a38db48a9628488037dc82e0a0c3d32dd4d4d1694df1fe70bbc01053d1", func := "loop.example/iceharvest/laws.FnMostCakesTurned", spec := "fnMostCakesTurned", recurses := true, apart := false, narrowed := true }
def FnMostCakesTurnedUptoSaid : Prop := fnMostCakesTurnedUptoRow.holds Try.pinned (OpenSpec.upto fnMostCakesTurnedSpec)

/-- 'laws.FnValidCakes', WHERE WHAT IT READS IS OF BULK AT MOST 1048576: true; the input reads as it did. -/
def fnValidCakesUptoRow : OpenClaim := { program := "ytcjcdlhmhhbkgac", sum := "4406d6a38db48a9628488037dc82e0a0c3d32dd4d4d1694df1fe70bbc01053d1", func := "loop.example/iceharvest/laws.FnValidCakes", spec := "fnValidCakes", apart := false, narrowed := true }
def FnValidCakesUptoSaid : Prop := fnValidCakesUptoRow.holds Try.pinned (OpenSpec.upto fnValidCakesSpec)

/-- 'laws.FnValidFloat', WHERE WHAT IT READS IS OF BULK AT MOST 1048576: true; the input reads as it did. -/
def fnValidFloatUptoRow : OpenClaim := { program := "ytcjcdlhmhhbkgac", sum := "4406d6a38db48a9628488037dc82e0a0c3d32dd4d4d1694df1fe70bbc01053d1", func := "loop.example/iceharvest/laws.FnValidFloat", spec := "fnValidFloat", apart := false, narrowed := true }
def FnValidFloatUptoSaid : Prop := fnValidFloatUptoRow.holds Try.pinned (OpenSpec.upto fnValidFloatSpec)

/-- 'laws.FnFloatOrder', WHERE WHAT IT READS IS OF BULK AT MOST 1048576: true; the input reads as it did. -/
def fnFloatOrderUptoRow : OpenClaim := { program := "ytcjcdlhmhhbkgac", sum := "4406d6a38db48a9628488037dc82e0a0c3d32dd4d4d1694df1fe70bbc01053d1", func := "loop.example/iceharvest/laws.FnFloatOrder", spec := "fnFloatOrder", apart := false, narrowed := true }
def FnFloatOrderUptoSaid : Prop := fnFloatOrderUptoRow.holds Try.pinned (OpenSpec.upto fnFloatOrderSpec)

/-- 'laws.FnCountFloats', WHERE WHAT IT READS IS OF BULK AT MOST 1048576: true; the input reads as it did. -/
def fnCountFloatsUptoRow : OpenClaim := { program := "ytcjcdlhmhhbkgac", sum := "4406d6a38db48a9628488037dc82e0a0c3d32dd4d4d1694df1fe70bbc01053d1", func := "loop.example/iceharvest/laws.FnCountFloats", spec := "fnCountFloats", recurses := true, apart := false, narrowed := true }
def FnCountFloatsUptoSaid : Prop := fnCountFloatsUptoRow.holds Try.pinned (OpenSpec.upto fnCountFloatsSpec)

/-- 'laws.FnSawLength', WHERE WHAT IT READS IS OF BULK AT MOST 1048576: true; the input reads as it did. -/
def fnSawLengthUptoRow : OpenClaim := { program := "ytcjcdlhmhhbkgac", sum := "4406d6a38db48a9628488037dc82e0a0c3d32dd4d4d1694df1fe70bbc01053d1", func := "loop.example/iceharvest/laws.FnSawLength", spec := "fnSawLength", apart := false, narrowed := true }
def FnSawLengthUptoSaid : Prop := fnSawLengthUptoRow.holds Try.pinned (OpenSpec.upto fnSawLengthSpec)

/-- 'laws.FnExactMostCakes', WHERE WHAT IT READS IS OF BULK AT MOST 1048576: true; the input reads as it did. -/
def fnExactMostCakesUptoRow : OpenClaim := { program := "ytcjcdlhmhhbkgac", sum := "4406d6a38db48a9628488037dc82e0a0c3d32dd4d4d1694df1fe70bbc01053d1", func := "loop.example/iceharvest/laws.FnExactMostCakes", spec := "fnExactMostCakes", recurses := true, apart := false, narrowed := true }
def FnExactMostCakesUptoSaid : Prop := fnExactMostCakesUptoRow.holds Try.pinned (OpenSpec.upto fnExactMostCakesSpec)

/-- 'laws.FnGrowPond', WHERE WHAT IT READS IS OF BULK AT MOST 1048576: true; the input reads as it did. -/
def fnGrowPondUptoRow : OpenClaim := { program := "ytcjcdlhmhhbkgac", sum := "4406d6a38db48a9628488037dc82e0a0c3d32dd4d4d1694df1fe70bbc01053d1", func := "loop.example/iceharvest/laws.FnGrowPond", spec := "fnGrowPond", apart := false, narrowed := true }
def FnGrowPondUptoSaid : Prop := fnGrowPondUptoRow.holds Try.pinned (OpenSpec.upto fnGrowPondSpec)

/-- 'laws.FnGrowPondWays', WHERE WHAT IT READS IS OF BULK AT MOST 1048576: true; the input reads as it did. -/
def fnGrowPondWaysUptoRow : OpenClaim := { program := "ytcjcdlhmhhbkgac", sum := "4406d6a38db48a9628488037dc82e0a0c3d32dd4d4d1694df1fe70bbc01053d1", func := "loop.example/iceharvest/laws.FnGrowPondWays", spec := "fnGrowPondWays", apart := false, narrowed := true }
def FnGrowPondWaysUptoSaid : Prop := fnGrowPondWaysUptoRow.holds Try.pinned (OpenSpec.upto fnGrowPondWaysSpec)

/-- 'laws.FnExactGrowPond', WHERE WHAT IT READS IS OF BULK AT MOST 1048576: true; the input reads as it did. -/
def fnExactGrowPondUptoRow : OpenClaim := { program := "ytcjcdlhmhhbkgac", sum := "4406d6a38db48a9628488037dc82e0a0c3d32dd4d4d1694df1fe70bbc01053d1", func := "loop.example/iceharvest/laws.FnExactGrowPond", spec := "fnExactGrowPond", apart := false, narrowed := true }
def FnExactGrowPondUptoSaid : Prop := fnExactGrowPondUptoRow.holds Try.pinned (OpenSpec.upto fnExactGrowPondSpec)

end Rows
end Go.Proofs.Ytcjcdlhmhhbkgac
