/-
  No cell of these rows narrows 'for every input' (looked for: loops, veiled, ifaces, maps, wideKeys, modest, calm, conditions, laid).
  DERIVED. THE GIVEN ROWS OF THIS SEAT. 11 by the template 'for every input the law returns true; each argument reads behind the call as it read before'; 0 by the template 'total and deterministic' (their statements: YtboaikabbfipgacTotals.lean).
  GIVEN WITH THE SEED: the statements are not yours to turn. If you find one false, say at which input.
  Laid BY PROGRAM, IN A SANDBOX (cutbox-rows.mjs): the forced cells as the released guide's own fill.sh prints them over the translation ff2c3d941957a735… (all of the seat's roots in one cut). By AI agents, Wed Nov 11 2026. No macro, syntax, notation, axiom, sorry.
-/
import Derived.Test.YtboaikabbfipgacChecked
import GoSem.Claim
import GoSem.ClaimJoined
import GoSem.ClaimMapViews
import Derived.JoinedTies
import Derived.KernelRfl
namespace Go.Proofs.Ytboaikabbfipgac
/- THE CELL 'sum', in the pinned program and in every row, IS THE sha256 OF THE DUMP (.gsa) THAT YtboaikabbfipgacProg.lean LOADS. Nothing in Lean hashes anything: it is a label: what it is worth is what the hold of that sum in a sandbox is worth. -/
noncomputable def Try.pinned : Pinned := { name := "ytboaikabbfipgac", sum := "ff2c3d941957a735c67160c00d6093a0120d798a408d60090e351349fb26d795", checked := Try.checked }
namespace Rows
def none {H : Type} : Left H := { results := [], args := [] }

/-- 'laws.FnSawLengthField': WHATEVER THE INPUT: true; the input reads as it did. -/
def fnSawLengthFieldSpec : ChangeSpec := { name := "fnSawLengthField", fn := fun _ => fun
  | [d] => { results := [.lit (.bool true)], args := [d] }
  | _ => none }
def fnSawLengthFieldRow : OpenClaim := { program := "ytboaikabbfipgac", sum := "ff2c3d941957a735c67160c00d6093a0120d798a408d60090e351349fb26d795", func := "loop.example/iceharvest/laws.FnSawLengthField", spec := "fnSawLengthField", recurses := true, apart := false }
def FnSawLengthFieldSaid : Prop := fnSawLengthFieldRow.holds Try.pinned (OpenSpec.ofChange fnSawLengthFieldSpec)

/-- ITS FALSE NEIGHBOUR: 'it returns false'. Refute it at one input. -/
def fnSawLengthFieldWrong : ChangeSpec := { name := "fnSawLengthField", fn := fun _ => fun
  | [d] => { results := [.lit (.bool false)], args := [d] }
  | _ => none }
def FnSawLengthFieldWrongFalsely : Prop := fnSawLengthFieldRow.holds Try.pinned (OpenSpec.ofChange fnSawLengthFieldWrong)

/-- 'laws.FnExactValidField': WHATEVER THE INPUT: true; the input reads as it did. -/
def fnExactValidFieldSpec : ChangeSpec := { name := "fnExactValidField", fn := fun _ => fun
  | [d] => { results := [.lit (.bool true)], args := [d] }
  | _ => none }
def fnExactValidFieldRow : OpenClaim := { program := "ytboaikabbfipgac", sum := "ff2c3d941957a735c67160c00d6093a0120d798a408d60090e351349fb26d795", func := "loop.example/iceharvest/laws.FnExactValidField", spec := "fnExactValidField", apart := false }
def FnExactValidFieldSaid : Prop := fnExactValidFieldRow.holds Try.pinned (OpenSpec.ofChange fnExactValidFieldSpec)

/-- ITS FALSE NEIGHBOUR: 'it returns false'. Refute it at one input. -/
def fnExactValidFieldWrong : ChangeSpec := { name := "fnExactValidField", fn := fun _ => fun
  | [d] => { results := [.lit (.bool false)], args := [d] }
  | _ => none }
def FnExactValidFieldWrongFalsely : Prop := fnExactValidFieldRow.holds Try.pinned (OpenSpec.ofChange fnExactValidFieldWrong)

/-- 'laws.FnExactAreaOf': WHATEVER THE INPUT: true; the input reads as it did. -/
def fnExactAreaOfSpec : ChangeSpec := { name := "fnExactAreaOf", fn := fun _ => fun
  | [d] => { results := [.lit (.bool true)], args := [d] }
  | _ => none }
def fnExactAreaOfRow : OpenClaim := { program := "ytboaikabbfipgac", sum := "ff2c3d941957a735c67160c00d6093a0120d798a408d60090e351349fb26d795", func := "loop.example/iceharvest/laws.FnExactAreaOf", spec := "fnExactAreaOf", apart := false }
def FnExactAreaOfSaid : Prop := fnExactAreaOfRow.holds Try.pinned (OpenSpec.ofChange fnExactAreaOfSpec)

/-- ITS FALSE NEIGHBOUR: 'it returns false'. Refute it at one input. -/
def fnExactAreaOfWrong : ChangeSpec := { name := "fnExactAreaOf", fn := fun _ => fun
  | [d] => { results := [.lit (.bool false)], args := [d] }
  | _ => none }
def FnExactAreaOfWrongFalsely : Prop := fnExactAreaOfRow.holds Try.pinned (OpenSpec.ofChange fnExactAreaOfWrong)

/-- 'laws.FnExactCakesAt': WHATEVER THE INPUT: true; the input reads as it did. -/
def fnExactCakesAtSpec : ChangeSpec := { name := "fnExactCakesAt", fn := fun _ => fun
  | [d1, d2, d3, d4, d5] => { results := [.lit (.bool true)], args := [d1, d2, d3, d4, d5] }
  | _ => none }
def fnExactCakesAtRow : OpenClaim := { program := "ytboaikabbfipgac", sum := "ff2c3d941957a735c67160c00d6093a0120d798a408d60090e351349fb26d795", func := "loop.example/iceharvest/laws.FnExactCakesAt", spec := "fnExactCakesAt", apart := false }
def FnExactCakesAtSaid : Prop := fnExactCakesAtRow.holds Try.pinned (OpenSpec.ofChange fnExactCakesAtSpec)

/-- ITS FALSE NEIGHBOUR: 'it returns false'. Refute it at one input. -/
def fnExactCakesAtWrong : ChangeSpec := { name := "fnExactCakesAt", fn := fun _ => fun
  | [d1, d2, d3, d4, d5] => { results := [.lit (.bool false)], args := [d1, d2, d3, d4, d5] }
  | _ => none }
def FnExactCakesAtWrongFalsely : Prop := fnExactCakesAtRow.holds Try.pinned (OpenSpec.ofChange fnExactCakesAtWrong)

/-- 'laws.FnExactBestGrid': WHATEVER THE INPUT: true; the input reads as it did. -/
def fnExactBestGridSpec : ChangeSpec := { name := "fnExactBestGrid", fn := fun _ => fun
  | [d1, d2, d3] => { results := [.lit (.bool true)], args := [d1, d2, d3] }
  | _ => none }
def fnExactBestGridRow : OpenClaim := { program := "ytboaikabbfipgac", sum := "ff2c3d941957a735c67160c00d6093a0120d798a408d60090e351349fb26d795", func := "loop.example/iceharvest/laws.FnExactBestGrid", spec := "fnExactBestGrid", apart := false }
def FnExactBestGridSaid : Prop := fnExactBestGridRow.holds Try.pinned (OpenSpec.ofChange fnExactBestGridSpec)

/-- ITS FALSE NEIGHBOUR: 'it returns false'. Refute it at one input. -/
def fnExactBestGridWrong : ChangeSpec := { name := "fnExactBestGrid", fn := fun _ => fun
  | [d1, d2, d3] => { results := [.lit (.bool false)], args := [d1, d2, d3] }
  | _ => none }
def FnExactBestGridWrongFalsely : Prop := fnExactBestGridRow.holds Try.pinned (OpenSpec.ofChange fnExactBestGridWrong)

/-- 'laws.FnExactMostCakes': WHATEVER THE INPUT: true; the input reads as it did. -/
def fnExactMostCakesSpec : ChangeSpec := { name := "fnExactMostCakes", fn := fun _ => fun
  | [d1, d2, d3] => { results := [.lit (.bool true)], args := [d1, d2, d3] }
  | _ => none }
def fnExactMostCakesRow : OpenClaim := { program := "ytboaikabbfipgac", sum := "ff2c3d941957a735c67160c00d6093a0120d798a408d60090e351349fb26d795", func := "loop.example/iceharvest/laws.FnExactMostCakes", spec := "fnExactMostCakes", recurses := true, apart := false }
def FnExactMostCakesSaid : Prop := fnExactMostCakesRow.holds Try.pinned (OpenSpec.ofChange fnExactMostCakesSpec)

/-- ITS FALSE NEIGHBOUR: 'it returns false'. Refute it at one input. -/
def fnExactMostCakesWrong : ChangeSpec := { name := "fnExactMostCakes", fn := fun _ => fun
  | [d1, d2, d3] => { results := [.lit (.bool false)], args := [d1, d2, d3] }
  | _ => none }
def FnExactMostCakesWrongFalsely : Prop := fnExactMostCakesRow.holds Try.pinned (OpenSpec.ofChange fnExactMostCakesWrong)

/-- 'laws.FnExactValidCakes': WHATEVER THE INPUT: true; the input reads as it did. -/
def fnExactValidCakesSpec : ChangeSpec := { name := "fnExactValidCakes", fn := fun _ => fun
  | [d1, d2, d3] => { results := [.lit (.bool true)], args := [d1, d2, d3] }
  | _ => none }
def fnExactValidCakesRow : OpenClaim := { program := "ytboaikabbfipgac", sum := "ff2c3d941957a735c67160c00d6093a0120d798a408d60090e351349fb26d795", func := "loop.example/iceharvest/laws.FnExactValidCakes", spec := "fnExactValidCakes", apart := false }
def FnExactValidCakesSaid : Prop := fnExactValidCakesRow.holds Try.pinned (OpenSpec.ofChange fnExactValidCakesSpec)

/-- ITS FALSE NEIGHBOUR: 'it returns false'. Refute it at one input. -/
def fnExactValidCakesWrong : ChangeSpec := { name := "fnExactValidCakes", fn := fun _ => fun
  | [d1, d2, d3] => { results := [.lit (.bool false)], args := [d1, d2, d3] }
  | _ => none }
def FnExactValidCakesWrongFalsely : Prop := fnExactValidCakesRow.holds Try.pinned (OpenSpec.ofChange fnExactValidCakesWrong)

/-- 'laws.FnExactValidFloat': WHATEVER THE INPUT: true; the input reads as it did. -/
def fnExactValidFloatSpec : ChangeSpec := { name := "fnExactValidFloat", fn := fun _ => fun
  | [d1, d2, d3, d4] => { results := [.lit (.bool true)], args := [d1, d2, d3, d4] }
  | _ => none }
def fnExactValidFloatRow : OpenClaim := { program := "ytboaikabbfipgac", sum := "ff2c3d941957a735c67160c00d6093a0120d798a408d60090e351349fb26d795", func := "loop.example/iceharvest/laws.FnExactValidFloat", spec := "fnExactValidFloat", apart := false }
def FnExactValidFloatSaid : Prop := fnExactValidFloatRow.holds Try.pinned (OpenSpec.ofChange fnExactValidFloatSpec)

/-- ITS FALSE NEIGHBOUR: 'it returns false'. Refute it at one input. -/
def fnExactValidFloatWrong : ChangeSpec := { name := "fnExactValidFloat", fn := fun _ => fun
  | [d1, d2, d3, d4] => { results := [.lit (.bool false)], args := [d1, d2, d3, d4] }
  | _ => none }
def FnExactValidFloatWrongFalsely : Prop := fnExactValidFloatRow.holds Try.pinned (OpenSpec.ofChange fnExactValidFloatWrong)

/-- 'laws.FnExactFloatOrder': WHATEVER THE INPUT: true; the input reads as it did. -/
def fnExactFloatOrderSpec : ChangeSpec := { name := "fnExactFloatOrder", fn := fun _ => fun
  | [d1, d2, d3] => { results := [.lit (.bool true)], args := [d1, d2, d3] }
  | _ => none }
def fnExactFloatOrderRow : OpenClaim := { program := "ytboaikabbfipgac", sum := "ff2c3d941957a735c67160c00d6093a0120d798a408d60090e351349fb26d795", func := "loop.example/iceharvest/laws.FnExactFloatOrder", spec := "fnExactFloatOrder", apart := false }
def FnExactFloatOrderSaid : Prop := fnExactFloatOrderRow.holds Try.pinned (OpenSpec.ofChange fnExactFloatOrderSpec)

/-- ITS FALSE NEIGHBOUR: 'it returns false'. Refute it at one input. -/
def fnExactFloatOrderWrong : ChangeSpec := { name := "fnExactFloatOrder", fn := fun _ => fun
  | [d1, d2, d3] => { results := [.lit (.bool false)], args := [d1, d2, d3] }
  | _ => none }
def FnExactFloatOrderWrongFalsely : Prop := fnExactFloatOrderRow.holds Try.pinned (OpenSpec.ofChange fnExactFloatOrderWrong)

/-- 'laws.FnExactCountFloats': WHATEVER THE INPUT: true; the input reads as it did. -/
def fnExactCountFloatsSpec : ChangeSpec := { name := "fnExactCountFloats", fn := fun _ => fun
  | [d1, d2, d3] => { results := [.lit (.bool true)], args := [d1, d2, d3] }
  | _ => none }
def fnExactCountFloatsRow : OpenClaim := { program := "ytboaikabbfipgac", sum := "ff2c3d941957a735c67160c00d6093a0120d798a408d60090e351349fb26d795", func := "loop.example/iceharvest/laws.FnExactCountFloats", spec := "fnExactCountFloats", recurses := true, apart := false }
def FnExactCountFloatsSaid : Prop := fnExactCountFloatsRow.holds Try.pinned (OpenSpec.ofChange fnExactCountFloatsSpec)

/-- ITS FALSE NEIGHBOUR: 'it returns false'. Refute it at one input. -/
def fnExactCountFloatsWrong : ChangeSpec := { name := "fnExactCountFloats", fn := fun _ => fun
  | [d1, d2, d3] => { results := [.lit (.bool false)], args := [d1, d2, d3] }
  | _ => none }
def FnExactCountFloatsWrongFalsely : Prop := fnExactCountFloatsRow.holds Try.pinned (OpenSpec.ofChange fnExactCountFloatsWrong)

/-- 'laws.FnExactSawLength': WHATEVER THE INPUT: true; the input reads as it did. -/
def fnExactSawLengthSpec : ChangeSpec := { name := "fnExactSawLength", fn := fun _ => fun
  | [d1, d2, d3] => { results := [.lit (.bool true)], args := [d1, d2, d3] }
  | _ => none }
def fnExactSawLengthRow : OpenClaim := { program := "ytboaikabbfipgac", sum := "ff2c3d941957a735c67160c00d6093a0120d798a408d60090e351349fb26d795", func := "loop.example/iceharvest/laws.FnExactSawLength", spec := "fnExactSawLength", apart := false }
def FnExactSawLengthSaid : Prop := fnExactSawLengthRow.holds Try.pinned (OpenSpec.ofChange fnExactSawLengthSpec)

/-- ITS FALSE NEIGHBOUR: 'it returns false'. Refute it at one input. -/
def fnExactSawLengthWrong : ChangeSpec := { name := "fnExactSawLength", fn := fun _ => fun
  | [d1, d2, d3] => { results := [.lit (.bool false)], args := [d1, d2, d3] }
  | _ => none }
def FnExactSawLengthWrongFalsely : Prop := fnExactSawLengthRow.holds Try.pinned (OpenSpec.ofChange fnExactSawLengthWrong)

/- THE SECOND FORM. 'bulk': how many values and letters a reading holds, each counted each time it is reached (what is shared counts as often as it is met; a slice's spare places count too). A statement '..UptoSaid' is the law's where the arguments, and the package variables that the reading takes, are together of bulk at most 1048576: NARROWER than '..Said'. Prove '..Said' where nothing that the law and all that it calls make is longer than what came in: it says more and counts as full. Else prove '..UptoSaid'. A law counts once. -/
mutual
def uptoBulk {H : Type} : DataW H → Nat
  | .lit (.string bytes) => bytes.length + 1
  | .lit _ => 1
  | .nil => 1
  | .ptr d => uptoBulk d + 1
  | .slice elems spare => uptoBulkAll elems + uptoBulkAll spare + 1
  | .agg parts => uptoBulkAll parts + 1
  | .iface _ d => uptoBulk d + 1
  | .map entries => uptoBulkEntries entries + 1
  | .held _ => 1
def uptoBulkAll {H : Type} : List (DataW H) → Nat
  | [] => 0
  | d :: r => uptoBulk d + uptoBulkAll r
def uptoBulkEntries {H : Type} : List (Lit × DataW H) → Nat
  | [] => 0
  | x :: r => uptoBulkEntry x + uptoBulkEntries r
def uptoBulkEntry {H : Type} : Lit × DataW H → Nat
  | (.string bytes, d) => bytes.length + uptoBulk d + 1
  | (_, d) => uptoBulk d + 1
 end
def uptoSmall : (H : Type) → List (DataW H) → Bool := fun _ ds => decide (uptoBulkAll ds ≤ 1048576)
def OpenSpec.upto (s : _root_.Go.ChangeSpec) : _root_.Go.OpenSpec := { _root_.Go.OpenSpec.ofChange s with cond := some uptoSmall }

/-- 'laws.FnSawLengthField', WHERE WHAT IT READS IS OF BULK AT MOST 1048576: true; the input reads as it did. -/
def fnSawLengthFieldUptoRow : OpenClaim := { program := "ytboaikabbfipgac", sum := "ff2c3d941957a735c67160c00d6093a0120d798a408d60090e351349fb26d795", func := "loop.example/iceharvest/laws.FnSawLengthField", spec := "fnSawLengthField", recurses := true, apart := false, narrowed := true }
def FnSawLengthFieldUptoSaid : Prop := fnSawLengthFieldUptoRow.holds Try.pinned (OpenSpec.upto fnSawLengthFieldSpec)

/-- 'laws.FnExactValidField', WHERE WHAT IT READS IS OF BULK AT MOST 1048576: true; the input reads as it did. -/
def fnExactValidFieldUptoRow : OpenClaim := { program := "ytboaikabbfipgac", sum := "ff2c3d941957a735c67160c00d6093a0120d798a408d60090e351349fb26d795", func := "loop.example/iceharvest/laws.FnExactValidField", spec := "fnExactValidField", apart := false, narrowed := true }
def FnExactValidFieldUptoSaid : Prop := fnExactValidFieldUptoRow.holds Try.pinned (OpenSpec.upto fnExactValidFieldSpec)

/-- 'laws.FnExactAreaOf', WHERE WHAT IT READS IS OF BULK AT MOST 1048576: true; the input reads as it did. -/
def fnExactAreaOfUptoRow : OpenClaim := { program := "ytboaikabbfipgac", sum := "ff2c3d941957a735c67160c00d6093a0120d798a408d60090e351349fb26d795", func := "loop.example/iceharvest/laws.FnExactAreaOf", spec := "fnExactAreaOf", apart := false, narrowed := true }
def FnExactAreaOfUptoSaid : Prop := fnExactAreaOfUptoRow.holds Try.pinned (OpenSpec.upto fnExactAreaOfSpec)

/-- 'laws.FnExactCakesAt', WHERE WHAT IT READS IS OF BULK AT MOST 1048576: true; the input reads as it did. -/
def fnExactCakesAtUptoRow : OpenClaim := { program := "ytboaikabbfipgac", sum := "ff2c3d941957a735c67160c00d6093a0120d798a408d60090e351349fb26d795", func := "loop.example/iceharvest/laws.FnExactCakesAt", spec := "fnExactCakesAt", apart := false, narrowed := true }
def FnExactCakesAtUptoSaid : Prop := fnExactCakesAtUptoRow.holds Try.pinned (OpenSpec.upto fnExactCakesAtSpec)

/-- 'laws.FnExactBestGrid', WHERE WHAT IT READS IS OF BULK AT MOST 1048576: true; the input reads as it did. -/
def fnExactBestGridUptoRow : OpenClaim := { program := "ytboaikabbfipgac", sum := "ff2c3d941957a735c67160c00d6093a0120d798a408d60090e351349fb26d795", func := "loop.example/iceharvest/laws.FnExactBestGrid", spec := "fnExactBestGrid", apart := false, narrowed := true }
def FnExactBestGridUptoSaid : Prop := fnExactBestGridUptoRow.holds Try.pinned (OpenSpec.upto fnExactBestGridSpec)

/-- 'laws.FnExactMostCakes', WHERE WHAT IT READS IS OF BULK AT MOST 1048576: true; the input reads as it did. -/
def fnExactMostCakesUptoRow : OpenClaim := { program := "ytboaikabbfipgac", sum := "ff2c3d941957a735c67160c00d6093a0120d798a408d60090e351349fb26d795", func := "loop.example/iceharvest/laws.FnExactMostCakes", spec := "fnExactMostCakes", recurses := true, apart := false, narrowed := true }
def FnExactMostCakesUptoSaid : Prop := fnExactMostCakesUptoRow.holds Try.pinned (OpenSpec.upto fnExactMostCakesSpec)

/-- 'laws.FnExactValidCakes', WHERE WHAT IT READS IS OF BULK AT MOST 1048576: true; the input reads as it did. -/
def fnExactValidCakesUptoRow : OpenClaim := { program := "ytboaikabbfipgac", sum := "ff2c3d941957a735c67160c00d6093a0120d798a408d60090e351349fb26d795", func := "loop.example/iceharvest/laws.FnExactValidCakes", spec := "fnExactValidCakes", apart := false, narrowed := true }
def FnExactValidCakesUptoSaid : Prop := fnExactValidCakesUptoRow.holds Try.pinned (OpenSpec.upto fnExactValidCakesSpec)

/-- 'laws.FnExactValidFloat', WHERE WHAT IT READS IS OF BULK AT MOST 1048576: true; the input reads as it did. -/
def fnExactValidFloatUptoRow : OpenClaim := { program := "ytboaikabbfipgac", sum := "ff2c3d941957a735c67160c00d6093a0120d798a408d60090e351349fb26d795", func := "loop.example/iceharvest/laws.FnExactValidFloat", spec := "fnExactValidFloat", apart := false, narrowed := true }
def FnExactValidFloatUptoSaid : Prop := fnExactValidFloatUptoRow.holds Try.pinned (OpenSpec.upto fnExactValidFloatSpec)

/-- 'laws.FnExactFloatOrder', WHERE WHAT IT READS IS OF BULK AT MOST 1048576: true; the input reads as it did. -/
def fnExactFloatOrderUptoRow : OpenClaim := { program := "ytboaikabbfipgac", sum := "ff2c3d941957a735c67160c00d6093a0120d798a408d60090e351349fb26d795", func := "loop.example/iceharvest/laws.FnExactFloatOrder", spec := "fnExactFloatOrder", apart := false, narrowed := true }
def FnExactFloatOrderUptoSaid : Prop := fnExactFloatOrderUptoRow.holds Try.pinned (OpenSpec.upto fnExactFloatOrderSpec)

/-- 'laws.FnExactCountFloats', WHERE WHAT IT READS IS OF BULK AT MOST 1048576: true; the input reads as it did. -/
def fnExactCountFloatsUptoRow : OpenClaim := { program := "ytboaikabbfipgac", sum := "ff2c3d941957a735c67160c00d6093a0120d798a408d60090e351349fb26d795", func := "loop.example/iceharvest/laws.FnExactCountFloats", spec := "fnExactCountFloats", recurses := true, apart := false, narrowed := true }
def FnExactCountFloatsUptoSaid : Prop := fnExactCountFloatsUptoRow.holds Try.pinned (OpenSpec.upto fnExactCountFloatsSpec)

/-- 'laws.FnExactSawLength', WHERE WHAT IT READS IS OF BULK AT MOST 1048576: true; the input reads as it did. -/
def fnExactSawLengthUptoRow : OpenClaim := { program := "ytboaikabbfipgac", sum := "ff2c3d941957a735c67160c00d6093a0120d798a408d60090e351349fb26d795", func := "loop.example/iceharvest/laws.FnExactSawLength", spec := "fnExactSawLength", apart := false, narrowed := true }
def FnExactSawLengthUptoSaid : Prop := fnExactSawLengthUptoRow.holds Try.pinned (OpenSpec.upto fnExactSawLengthSpec)

end Rows
end Go.Proofs.Ytboaikabbfipgac
