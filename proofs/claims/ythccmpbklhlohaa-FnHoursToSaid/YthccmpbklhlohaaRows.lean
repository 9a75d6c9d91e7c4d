/-
  No cell of these rows narrows 'for every input' (looked for: loops, veiled, ifaces, maps, wideKeys, modest, calm, conditions, laid).
  DERIVED. THE GIVEN ROWS OF THIS SEAT. 12 by the template 'for every input the law returns true; each argument reads behind the call as it read before'; 0 by the template 'total and deterministic' (their statements: YthccmpbklhlohaaTotals.lean).
  GIVEN WITH THE SEED: the statements are not yours to turn. If you find one false, say at which input.
  Laid BY PROGRAM, IN A SANDBOX (cutbox-rows.mjs): the forced cells as the released guide's own fill.sh prints them over the translation 213770df2369664f… (all of the seat's roots in one cut). By AI agents, Wed Nov 11 2026. No macro, syntax, notation, axiom, sorry.
-/
import Derived.Test.YthccmpbklhlohaaChecked
import GoSem.Claim
import GoSem.ClaimJoined
import GoSem.ClaimMapViews
import Derived.JoinedTies
import Derived.KernelRfl
namespace Go.Proofs.Ythccmpbklhlohaa
/- THE CELL 'sum', in the pinned program and in every row, IS THE sha256 OF THE DUMP (.gsa) THAT YthccmpbklhlohaaProg.lean LOADS. Nothing in Lean hashes anything: it is a label: what it is worth is what the hold of that sum in a sandbox is worth. -/
noncomputable def Try.pinned : Pinned := { name := "ythccmpbklhlohaa", sum := "213770df2369664fa684d0c42f204b897bcf7fdae17afdca3bf58a59f5aff2d8", checked := Try.checked }
namespace Rows
def none {H : Type} : Left H := { results := [], args := [] }

/-- 'laws.FnThickOf': WHATEVER THE INPUT: true; the input reads as it did. -/
def fnThickOfSpec : ChangeSpec := { name := "fnThickOf", fn := fun _ => fun
  | [d] => { results := [.lit (.bool true)], args := [d] }
  | _ => none }
def fnThickOfRow : OpenClaim := { program := "ythccmpbklhlohaa", sum := "213770df2369664fa684d0c42f204b897bcf7fdae17afdca3bf58a59f5aff2d8", func := "loop.example/iceharvest/laws.FnThickOf", spec := "fnThickOf", apart := false }
def FnThickOfSaid : Prop := fnThickOfRow.holds Try.pinned (OpenSpec.ofChange fnThickOfSpec)

/-- ITS FALSE NEIGHBOUR: 'it returns false'. Refute it at one input. -/
def fnThickOfWrong : ChangeSpec := { name := "fnThickOf", fn := fun _ => fun
  | [d] => { results := [.lit (.bool false)], args := [d] }
  | _ => none }
def FnThickOfWrongFalsely : Prop := fnThickOfRow.holds Try.pinned (OpenSpec.ofChange fnThickOfWrong)

/-- 'laws.FnStepIce': WHATEVER THE INPUT: true; the input reads as it did. -/
def fnStepIceSpec : ChangeSpec := { name := "fnStepIce", fn := fun _ => fun
  | [d] => { results := [.lit (.bool true)], args := [d] }
  | _ => none }
def fnStepIceRow : OpenClaim := { program := "ythccmpbklhlohaa", sum := "213770df2369664fa684d0c42f204b897bcf7fdae17afdca3bf58a59f5aff2d8", func := "loop.example/iceharvest/laws.FnStepIce", spec := "fnStepIce", apart := false }
def FnStepIceSaid : Prop := fnStepIceRow.holds Try.pinned (OpenSpec.ofChange fnStepIceSpec)

/-- ITS FALSE NEIGHBOUR: 'it returns false'. Refute it at one input. -/
def fnStepIceWrong : ChangeSpec := { name := "fnStepIce", fn := fun _ => fun
  | [d] => { results := [.lit (.bool false)], args := [d] }
  | _ => none }
def FnStepIceWrongFalsely : Prop := fnStepIceRow.holds Try.pinned (OpenSpec.ofChange fnStepIceWrong)

/-- 'laws.FnRunIce': WHATEVER THE INPUT: true; the input reads as it did. -/
def fnRunIceSpec : ChangeSpec := { name := "fnRunIce", fn := fun _ => fun
  | [d] => { results := [.lit (.bool true)], args := [d] }
  | _ => none }
def fnRunIceRow : OpenClaim := { program := "ythccmpbklhlohaa", sum := "213770df2369664fa684d0c42f204b897bcf7fdae17afdca3bf58a59f5aff2d8", func := "loop.example/iceharvest/laws.FnRunIce", spec := "fnRunIce", apart := false }
def FnRunIceSaid : Prop := fnRunIceRow.holds Try.pinned (OpenSpec.ofChange fnRunIceSpec)

/-- ITS FALSE NEIGHBOUR: 'it returns false'. Refute it at one input. -/
def fnRunIceWrong : ChangeSpec := { name := "fnRunIce", fn := fun _ => fun
  | [d] => { results := [.lit (.bool false)], args := [d] }
  | _ => none }
def FnRunIceWrongFalsely : Prop := fnRunIceRow.holds Try.pinned (OpenSpec.ofChange fnRunIceWrong)

/-- 'laws.FnRunIceFrost': WHATEVER THE INPUT: true; the input reads as it did. -/
def fnRunIceFrostSpec : ChangeSpec := { name := "fnRunIceFrost", fn := fun _ => fun
  | [d] => { results := [.lit (.bool true)], args := [d] }
  | _ => none }
def fnRunIceFrostRow : OpenClaim := { program := "ythccmpbklhlohaa", sum := "213770df2369664fa684d0c42f204b897bcf7fdae17afdca3bf58a59f5aff2d8", func := "loop.example/iceharvest/laws.FnRunIceFrost", spec := "fnRunIceFrost", apart := false }
def FnRunIceFrostSaid : Prop := fnRunIceFrostRow.holds Try.pinned (OpenSpec.ofChange fnRunIceFrostSpec)

/-- ITS FALSE NEIGHBOUR: 'it returns false'. Refute it at one input. -/
def fnRunIceFrostWrong : ChangeSpec := { name := "fnRunIceFrost", fn := fun _ => fun
  | [d] => { results := [.lit (.bool false)], args := [d] }
  | _ => none }
def FnRunIceFrostWrongFalsely : Prop := fnRunIceFrostRow.holds Try.pinned (OpenSpec.ofChange fnRunIceFrostWrong)

/-- 'laws.FnRunIceMore': WHATEVER THE INPUT: true; the input reads as it did. -/
def fnRunIceMoreSpec : ChangeSpec := { name := "fnRunIceMore", fn := fun _ => fun
  | [d] => { results := [.lit (.bool true)], args := [d] }
  | _ => none }
def fnRunIceMoreRow : OpenClaim := { program := "ythccmpbklhlohaa", sum := "213770df2369664fa684d0c42f204b897bcf7fdae17afdca3bf58a59f5aff2d8", func := "loop.example/iceharvest/laws.FnRunIceMore", spec := "fnRunIceMore", apart := false }
def FnRunIceMoreSaid : Prop := fnRunIceMoreRow.holds Try.pinned (OpenSpec.ofChange fnRunIceMoreSpec)

/-- ITS FALSE NEIGHBOUR: 'it returns false'. Refute it at one input. -/
def fnRunIceMoreWrong : ChangeSpec := { name := "fnRunIceMore", fn := fun _ => fun
  | [d] => { results := [.lit (.bool false)], args := [d] }
  | _ => none }
def FnRunIceMoreWrongFalsely : Prop := fnRunIceMoreRow.holds Try.pinned (OpenSpec.ofChange fnRunIceMoreWrong)

/-- 'laws.FnThicksOf': WHATEVER THE INPUT: true; the input reads as it did. -/
def fnThicksOfSpec : ChangeSpec := { name := "fnThicksOf", fn := fun _ => fun
  | [d] => { results := [.lit (.bool true)], args := [d] }
  | _ => none }
def fnThicksOfRow : OpenClaim := { program := "ythccmpbklhlohaa", sum := "213770df2369664fa684d0c42f204b897bcf7fdae17afdca3bf58a59f5aff2d8", func := "loop.example/iceharvest/laws.FnThicksOf", spec := "fnThicksOf", apart := false }
def FnThicksOfSaid : Prop := fnThicksOfRow.holds Try.pinned (OpenSpec.ofChange fnThicksOfSpec)

/-- ITS FALSE NEIGHBOUR: 'it returns false'. Refute it at one input. -/
def fnThicksOfWrong : ChangeSpec := { name := "fnThicksOf", fn := fun _ => fun
  | [d] => { results := [.lit (.bool false)], args := [d] }
  | _ => none }
def FnThicksOfWrongFalsely : Prop := fnThicksOfRow.holds Try.pinned (OpenSpec.ofChange fnThicksOfWrong)

/-- 'laws.FnFrostSum': WHATEVER THE INPUT: true; the input reads as it did. -/
def fnFrostSumSpec : ChangeSpec := { name := "fnFrostSum", fn := fun _ => fun
  | [d] => { results := [.lit (.bool true)], args := [d] }
  | _ => none }
def fnFrostSumRow : OpenClaim := { program := "ythccmpbklhlohaa", sum := "213770df2369664fa684d0c42f204b897bcf7fdae17afdca3bf58a59f5aff2d8", func := "loop.example/iceharvest/laws.FnFrostSum", spec := "fnFrostSum", apart := false }
def FnFrostSumSaid : Prop := fnFrostSumRow.holds Try.pinned (OpenSpec.ofChange fnFrostSumSpec)

/-- ITS FALSE NEIGHBOUR: 'it returns false'. Refute it at one input. -/
def fnFrostSumWrong : ChangeSpec := { name := "fnFrostSum", fn := fun _ => fun
  | [d] => { results := [.lit (.bool false)], args := [d] }
  | _ => none }
def FnFrostSumWrongFalsely : Prop := fnFrostSumRow.holds Try.pinned (OpenSpec.ofChange fnFrostSumWrong)

/-- 'laws.FnFirstThick': WHATEVER THE INPUT: true; the input reads as it did. -/
def fnFirstThickSpec : ChangeSpec := { name := "fnFirstThick", fn := fun _ => fun
  | [d] => { results := [.lit (.bool true)], args := [d] }
  | _ => none }
def fnFirstThickRow : OpenClaim := { program := "ythccmpbklhlohaa", sum := "213770df2369664fa684d0c42f204b897bcf7fdae17afdca3bf58a59f5aff2d8", func := "loop.example/iceharvest/laws.FnFirstThick", spec := "fnFirstThick", apart := false }
def FnFirstThickSaid : Prop := fnFirstThickRow.holds Try.pinned (OpenSpec.ofChange fnFirstThickSpec)

/-- ITS FALSE NEIGHBOUR: 'it returns false'. Refute it at one input. -/
def fnFirstThickWrong : ChangeSpec := { name := "fnFirstThick", fn := fun _ => fun
  | [d] => { results := [.lit (.bool false)], args := [d] }
  | _ => none }
def FnFirstThickWrongFalsely : Prop := fnFirstThickRow.holds Try.pinned (OpenSpec.ofChange fnFirstThickWrong)

/-- 'laws.FnNeedThick': WHATEVER THE INPUT: true; the input reads as it did. -/
def fnNeedThickSpec : ChangeSpec := { name := "fnNeedThick", fn := fun _ => fun
  | [d] => { results := [.lit (.bool true)], args := [d] }
  | _ => none }
def fnNeedThickRow : OpenClaim := { program := "ythccmpbklhlohaa", sum := "213770df2369664fa684d0c42f204b897bcf7fdae17afdca3bf58a59f5aff2d8", func := "loop.example/iceharvest/laws.FnNeedThick", spec := "fnNeedThick", apart := false }
def FnNeedThickSaid : Prop := fnNeedThickRow.holds Try.pinned (OpenSpec.ofChange fnNeedThickSpec)

/-- ITS FALSE NEIGHBOUR: 'it returns false'. Refute it at one input. -/
def fnNeedThickWrong : ChangeSpec := { name := "fnNeedThick", fn := fun _ => fun
  | [d] => { results := [.lit (.bool false)], args := [d] }
  | _ => none }
def FnNeedThickWrongFalsely : Prop := fnNeedThickRow.holds Try.pinned (OpenSpec.ofChange fnNeedThickWrong)

/-- 'laws.FnLoadOf': WHATEVER THE INPUT: true; the input reads as it did. -/
def fnLoadOfSpec : ChangeSpec := { name := "fnLoadOf", fn := fun _ => fun
  | [d] => { results := [.lit (.bool true)], args := [d] }
  | _ => none }
def fnLoadOfRow : OpenClaim := { program := "ythccmpbklhlohaa", sum := "213770df2369664fa684d0c42f204b897bcf7fdae17afdca3bf58a59f5aff2d8", func := "loop.example/iceharvest/laws.FnLoadOf", spec := "fnLoadOf", apart := false }
def FnLoadOfSaid : Prop := fnLoadOfRow.holds Try.pinned (OpenSpec.ofChange fnLoadOfSpec)

/-- ITS FALSE NEIGHBOUR: 'it returns false'. Refute it at one input. -/
def fnLoadOfWrong : ChangeSpec := { name := "fnLoadOf", fn := fun _ => fun
  | [d] => { results := [.lit (.bool false)], args := [d] }
  | _ => none }
def FnLoadOfWrongFalsely : Prop := fnLoadOfRow.holds Try.pinned (OpenSpec.ofChange fnLoadOfWrong)

/-- 'laws.FnHoursTo': WHATEVER THE INPUT: true; the input reads as it did. -/
def fnHoursToSpec : ChangeSpec := { name := "fnHoursTo", fn := fun _ => fun
  | [d] => { results := [.lit (.bool true)], args := [d] }
  | _ => none }
def fnHoursToRow : OpenClaim := { program := "ythccmpbklhlohaa", sum := "213770df2369664fa684d0c42f204b897bcf7fdae17afdca3bf58a59f5aff2d8", func := "loop.example/iceharvest/laws.FnHoursTo", spec := "fnHoursTo", apart := false }
def FnHoursToSaid : Prop := fnHoursToRow.holds Try.pinned (OpenSpec.ofChange fnHoursToSpec)

/-- ITS FALSE NEIGHBOUR: 'it returns false'. Refute it at one input. -/
def fnHoursToWrong : ChangeSpec := { name := "fnHoursTo", fn := fun _ => fun
  | [d] => { results := [.lit (.bool false)], args := [d] }
  | _ => none }
def FnHoursToWrongFalsely : Prop := fnHoursToRow.holds Try.pinned (OpenSpec.ofChange fnHoursToWrong)

/-- 'laws.FnUnderSnow': WHATEVER THE INPUT: true; the input reads as it did. -/
def fnUnderSnowSpec : ChangeSpec := { name := "fnUnderSnow", fn := fun _ => fun
  | [d] => { results := [.lit (.bool true)], args := [d] }
  | _ => none }
def fnUnderSnowRow : OpenClaim := { program := "ythccmpbklhlohaa", sum := "213770df2369664fa684d0c42f204b897bcf7fdae17afdca3bf58a59f5aff2d8", func := "loop.example/iceharvest/laws.FnUnderSnow", spec := "fnUnderSnow", apart := false }
def FnUnderSnowSaid : Prop := fnUnderSnowRow.holds Try.pinned (OpenSpec.ofChange fnUnderSnowSpec)

/-- ITS FALSE NEIGHBOUR: 'it returns false'. Refute it at one input. -/
def fnUnderSnowWrong : ChangeSpec := { name := "fnUnderSnow", fn := fun _ => fun
  | [d] => { results := [.lit (.bool false)], args := [d] }
  | _ => none }
def FnUnderSnowWrongFalsely : Prop := fnUnderSnowRow.holds Try.pinned (OpenSpec.ofChange fnUnderSnowWrong)

/- THE SECOND FORM. 'bulk': how many values and letters a reading holds, each counted each time it is reached (what is shared counts as often as it is met; a slice's spare places count too). A statement '..UptoSaid' is the law's where the arguments, and the package variables that the reading takes, are together of bulk at most 1048576: NARROWER than '..Said'. Prove '..Said' where nothing that the law and all that it calls make is longer than what came in: it says more and counts as full. Else prove '..UptoSaid'. A law counts once. -/
mutual
def uptoBulk {H : Type} : DataW H → Nat
  | .lit (.string bytes) => bytes.length + 1
  | .lit _ => 1
  | .nil => 1
  | .ptr d => uptoBulk d + 1
  | .slice elems spare => uptoBulkAll elems + uptoBulkAll spare + 1
  | .agg parts => uptoBulkAll parts + 1
  | .iface _ d => uptoBulk d + 1
  | .map entries => uptoBulkEntries entries + 1
  | .held _ => 1
def uptoBulkAll {H : Type} : List (DataW H) → Nat
  | [] => 0
  | d :: r => uptoBulk d + uptoBulkAll r
def uptoBulkEntries {H : Type} : List (Lit × DataW H) → Nat
  | [] => 0
  | x :: r => uptoBulkEntry x + uptoBulkEntries r
def uptoBulkEntry {H : Type} : Lit × DataW H → Nat
  | (.string bytes, d) => bytes.length + uptoBulk d + 1
  | (_, d) => uptoBulk d + 1
 end
def uptoSmall : (H : Type) → List (DataW H) → Bool := fun _ ds => decide (uptoBulkAll ds ≤ 1048576)
def OpenSpec.upto (s : _root_.Go.ChangeSpec) : _root_.Go.OpenSpec := { _root_.Go.OpenSpec.ofChange s with cond := some uptoSmall }

/-- 'laws.FnThickOf', WHERE WHAT IT READS IS OF BULK AT MOST 1048576: true; the input reads as it did. -/
def fnThickOfUptoRow : OpenClaim := { program := "ythccmpbklhlohaa", sum := "213770df2369664fa684d0c42f204b897bcf7fdae17afdca3bf58a59f5aff2d8", func := "loop.example/iceharvest/laws.FnThickOf", spec := "fnThickOf", apart := false, narrowed := true }
def FnThickOfUptoSaid : Prop := fnThickOfUptoRow.holds Try.pinned (OpenSpec.upto fnThickOfSpec)

/-- 'laws.FnStepIce', WHERE WHAT IT READS IS OF BULK AT MOST 1048576: true; the input reads as it did. -/
def fnStepIceUptoRow : OpenClaim := { program := "ythccmpbklhlohaa", sum := "213770df2369664fa684d0c42f204b897bcf7fdae17afdca3bf58a59f5aff2d8", func := "loop.example/iceharvest/laws.FnStepIce", spec := "fnStepIce", apart := false, narrowed := true }
def FnStepIceUptoSaid : Prop := fnStepIceUptoRow.holds Try.pinned (OpenSpec.upto fnStepIceSpec)

/-- 'laws.FnRunIce', WHERE WHAT IT READS IS OF BULK AT MOST 1048576: true; the input reads as it did. -/
def fnRunIceUptoRow : OpenClaim := { program := "ythccmpbklhlohaa", sum := "213770df2369664fa684d0c42f204b897bcf7fdae17afdca3bf58a59f5aff2d8", func := "loop.example/iceharvest/laws.FnRunIce", spec := "fnRunIce", apart := false, narrowed := true }
def FnRunIceUptoSaid : Prop := fnRunIceUptoRow.holds Try.pinned (OpenSpec.upto fnRunIceSpec)

/-- 'laws.FnRunIceFrost', WHERE WHAT IT READS IS OF BULK AT MOST 1048576: true; the input reads as it did. -/
def fnRunIceFrostUptoRow : OpenClaim := { program := "ythccmpbklhlohaa", sum := "213770df2369664fa684d0c42f204b897bcf7fdae17afdca3bf58a59f5aff2d8", func := "loop.example/iceharvest/laws.FnRunIceFrost", spec := "fnRunIceFrost", apart := false, narrowed := true }
def FnRunIceFrostUptoSaid : Prop := fnRunIceFrostUptoRow.holds Try.pinned (OpenSpec.upto fnRunIceFrostSpec)

/-- 'laws.FnRunIceMore', WHERE WHAT IT READS IS OF BULK AT MOST 1048576: true; the input reads as it did. -/
def fnRunIceMoreUptoRow : OpenClaim := { program := "ythccmpbklhlohaa", sum := "213770df2369664fa684d0c42f204b897bcf7fdae17afdca3bf58a59f5aff2d8", func := "loop.example/iceharvest/laws.FnRunIceMore", spec := "fnRunIceMore", apart := false, narrowed := true }
def FnRunIceMoreUptoSaid : Prop := fnRunIceMoreUptoRow.holds Try.pinned (OpenSpec.upto fnRunIceMoreSpec)

/-- 'laws.FnThicksOf', WHERE WHAT IT READS IS OF BULK AT MOST 1048576: true; the input reads as it did. -/
def fnThicksOfUptoRow : OpenClaim := { program := "ythccmpbklhlohaa", sum := "213770df2369664fa684d0c42f204b897bcf7fdae17afdca3bf58a59f5aff2d8", func := "loop.example/iceharvest/laws.FnThicksOf", spec := "fnThicksOf", apart := false, narrowed := true }
def FnThicksOfUptoSaid : Prop := fnThicksOfUptoRow.holds Try.pinned (OpenSpec.upto fnThicksOfSpec)

/-- 'laws.FnFrostSum', WHERE WHAT IT READS IS OF BULK AT MOST 1048576: true; the input reads as it did. -/
def fnFrostSumUptoRow : OpenClaim := { program := "ythccmpbklhlohaa", sum := "213770df2369664fa684d0c42f204b897bcf7fdae17afdca3bf58a59f5aff2d8", func := "loop.example/iceharvest/laws.FnFrostSum", spec := "fnFrostSum", apart := false, narrowed := true }
def FnFrostSumUptoSaid : Prop := fnFrostSumUptoRow.holds Try.pinned (OpenSpec.upto fnFrostSumSpec)

/-- 'laws.FnFirstThick', WHERE WHAT IT READS IS OF BULK AT MOST 1048576: true; the input reads as it did. -/
def fnFirstThickUptoRow : OpenClaim := { program := "ythccmpbklhlohaa", sum := "213770df2369664fa684d0c42f204b897bcf7fdae17afdca3bf58a59f5aff2d8", func := "loop.example/iceharvest/laws.FnFirstThick", spec := "fnFirstThick", apart := false, narrowed := true }
def FnFirstThickUptoSaid : Prop := fnFirstThickUptoRow.holds Try.pinned (OpenSpec.upto fnFirstThickSpec)

/-- 'laws.FnNeedThick', WHERE WHAT IT READS IS OF BULK AT MOST 1048576: true; the input reads as it did. -/
def fnNeedThickUptoRow : OpenClaim := { program := "ythccmpbklhlohaa", sum := "213770df2369664fa684d0c42f204b897bcf7fdae17afdca3bf58a59f5aff2d8", func := "loop.example/iceharvest/laws.FnNeedThick", spec := "fnNeedThick", apart := false, narrowed := true }
def FnNeedThickUptoSaid : Prop := fnNeedThickUptoRow.holds Try.pinned (OpenSpec.upto fnNeedThickSpec)

/-- 'laws.FnLoadOf', WHERE WHAT IT READS IS OF BULK AT MOST 1048576: true; the input reads as it did. -/
def fnLoadOfUptoRow : OpenClaim := { program := "ythccmpbklhlohaa", sum := "213770df2369664fa684d0c42f204b897bcf7fdae17afdca3bf58a59f5aff2d8", func := "loop.example/iceharvest/laws.FnLoadOf", spec := "fnLoadOf", apart := false, narrowed := true }
def FnLoadOfUptoSaid : Prop := fnLoadOfUptoRow.holds Try.pinned (OpenSpec.upto fnLoadOfSpec)

/-- 'laws.FnHoursTo', WHERE WHAT IT READS IS OF BULK AT MOST 1048576: true; the input reads as it did. -/
def fnHoursToUptoRow : OpenClaim := { program := "ythccmpbklhlohaa", sum := "213770df2369664fa684d0c42f204b897bcf7fdae17afdca3bf58a59f5aff2d8", func := "loop.example/iceharvest/laws.FnHoursTo", spec := "fnHoursTo", apart := false, narrowed := true }
def FnHoursToUptoSaid : Prop := fnHoursToUptoRow.holds Try.pinned (OpenSpec.upto fnHoursToSpec)

/-- 'laws.FnUnderSnow', WHERE WHAT IT READS IS OF BULK AT MOST 1048576: true; the input reads as it did. -/
def fnUnderSnowUptoRow : OpenClaim := { program := "ythccmpbklhlohaa", sum := "213770df2369664fa684d0c42f204b897bcf7fdae17afdca3bf58a59f5aff2d8", func := "loop.example/iceharvest/laws.FnUnderSnow", spec := "fnUnderSnow", apart := false, narrowed := true }
def FnUnderSnowUptoSaid : Prop := fnUnderSnowUptoRow.holds Try.pinned (OpenSpec.upto fnUnderSnowSpec)

end Rows
end Go.Proofs.Ythccmpbklhlohaa
