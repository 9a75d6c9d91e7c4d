/-
  No cell of these rows narrows 'for every input' (looked for: loops, veiled, ifaces, maps, wideKeys, modest, calm, conditions, laid).
  DERIVED. THE GIVEN ROWS OF THIS SEAT. 12 by the template 'for every input the law returns true; each argument reads behind the call as it read before'; 0 by the template 'total and deterministic' (their statements: YthccmpbklhlohabTotals.lean).
  GIVEN WITH THE SEED: the statements are not yours to turn. If you find one false, say at which input.
  Laid BY PROGRAM, IN A SANDBOX (cutbox-rows.mjs): the forced cells as the released guide's own fill.sh prints them over the translation d4ff7e1de5a45e1a… (all of the seat's roots in one cut). By AI agents, Wed Nov 11 2026. No macro, syntax, notation, axiom, sorry.
-/
import Derived.Test.YthccmpbklhlohabChecked
import GoSem.Claim
import GoSem.ClaimJoined
import GoSem.ClaimMapViews
import Derived.JoinedTies
import Derived.KernelRfl
namespace Go.Proofs.Ythccmpbklhlohab
/- THE CELL 'sum', in the pinned program and in every row, IS THE sha256 OF THE DUMP (.gsa) THAT YthccmpbklhlohabProg.lean LOADS. Nothing in Lean hashes anything: it is a label: what it is worth is what the hold of that sum in a sandbox is worth. -/
noncomputable def Try.pinned : Pinned := { name := "ythccmpbklhlohab", sum := "d4ff7e1de5a45e1a7eff66d1d8bac622797d8b0cc6624c539f1c60afbbdc2757", checked := Try.checked }
namespace Rows
def none {H : Type} : Left H := { results := [], args := [] }

/-- 'laws.FnColdestSpell': WHATEVER THE INPUT: true; the input reads as it did. -/
def fnColdestSpellSpec : ChangeSpec := { name := "fnColdestSpell", fn := fun _ => fun
  | [d] => { results := [.lit (.bool true)], args := [d] }
  | _ => none }
def fnColdestSpellRow : OpenClaim := { program := "ythccmpbklhlohab", sum := "d4ff7e1de5a45e1a7eff66d1d8bac622797d8b0cc6624c539f1c60afbbdc2757", func := "loop.example/iceharvest/laws.FnColdestSpell", spec := "fnColdestSpell", apart := false }
def FnColdestSpellSaid : Prop := fnColdestSpellRow.holds Try.pinned (OpenSpec.ofChange fnColdestSpellSpec)

/-- ITS FALSE NEIGHBOUR: 'it returns false'. Refute it at one input. -/
def fnColdestSpellWrong : ChangeSpec := { name := "fnColdestSpell", fn := fun _ => fun
  | [d] => { results := [.lit (.bool false)], args := [d] }
  | _ => none }
def FnColdestSpellWrongFalsely : Prop := fnColdestSpellRow.holds Try.pinned (OpenSpec.ofChange fnColdestSpellWrong)

/-- 'laws.FnExactThickOf': WHATEVER THE INPUT: true; the input reads as it did. -/
def fnExactThickOfSpec : ChangeSpec := { name := "fnExactThickOf", fn := fun _ => fun
  | [d] => { results := [.lit (.bool true)], args := [d] }
  | _ => none }
def fnExactThickOfRow : OpenClaim := { program := "ythccmpbklhlohab", sum := "d4ff7e1de5a45e1a7eff66d1d8bac622797d8b0cc6624c539f1c60afbbdc2757", func := "loop.example/iceharvest/laws.FnExactThickOf", spec := "fnExactThickOf", apart := false }
def FnExactThickOfSaid : Prop := fnExactThickOfRow.holds Try.pinned (OpenSpec.ofChange fnExactThickOfSpec)

/-- ITS FALSE NEIGHBOUR: 'it returns false'. Refute it at one input. -/
def fnExactThickOfWrong : ChangeSpec := { name := "fnExactThickOf", fn := fun _ => fun
  | [d] => { results := [.lit (.bool false)], args := [d] }
  | _ => none }
def FnExactThickOfWrongFalsely : Prop := fnExactThickOfRow.holds Try.pinned (OpenSpec.ofChange fnExactThickOfWrong)

/-- 'laws.FnExactStepIce': WHATEVER THE INPUT: true; the input reads as it did. -/
def fnExactStepIceSpec : ChangeSpec := { name := "fnExactStepIce", fn := fun _ => fun
  | [d1, d2] => { results := [.lit (.bool true)], args := [d1, d2] }
  | _ => none }
def fnExactStepIceRow : OpenClaim := { program := "ythccmpbklhlohab", sum := "d4ff7e1de5a45e1a7eff66d1d8bac622797d8b0cc6624c539f1c60afbbdc2757", func := "loop.example/iceharvest/laws.FnExactStepIce", spec := "fnExactStepIce", apart := false }
def FnExactStepIceSaid : Prop := fnExactStepIceRow.holds Try.pinned (OpenSpec.ofChange fnExactStepIceSpec)

/-- ITS FALSE NEIGHBOUR: 'it returns false'. Refute it at one input. -/
def fnExactStepIceWrong : ChangeSpec := { name := "fnExactStepIce", fn := fun _ => fun
  | [d1, d2] => { results := [.lit (.bool false)], args := [d1, d2] }
  | _ => none }
def FnExactStepIceWrongFalsely : Prop := fnExactStepIceRow.holds Try.pinned (OpenSpec.ofChange fnExactStepIceWrong)

/-- 'laws.FnExactRunIce': WHATEVER THE INPUT: true; the input reads as it did. -/
def fnExactRunIceSpec : ChangeSpec := { name := "fnExactRunIce", fn := fun _ => fun
  | [d1, d2] => { results := [.lit (.bool true)], args := [d1, d2] }
  | _ => none }
def fnExactRunIceRow : OpenClaim := { program := "ythccmpbklhlohab", sum := "d4ff7e1de5a45e1a7eff66d1d8bac622797d8b0cc6624c539f1c60afbbdc2757", func := "loop.example/iceharvest/laws.FnExactRunIce", spec := "fnExactRunIce", apart := false }
def FnExactRunIceSaid : Prop := fnExactRunIceRow.holds Try.pinned (OpenSpec.ofChange fnExactRunIceSpec)

/-- ITS FALSE NEIGHBOUR: 'it returns false'. Refute it at one input. -/
def fnExactRunIceWrong : ChangeSpec := { name := "fnExactRunIce", fn := fun _ => fun
  | [d1, d2] => { results := [.lit (.bool false)], args := [d1, d2] }
  | _ => none }
def FnExactRunIceWrongFalsely : Prop := fnExactRunIceRow.holds Try.pinned (OpenSpec.ofChange fnExactRunIceWrong)

/-- 'laws.FnExactThicksOf': WHATEVER THE INPUT: true; the input reads as it did. -/
def fnExactThicksOfSpec : ChangeSpec := { name := "fnExactThicksOf", fn := fun _ => fun
  | [d1, d2] => { results := [.lit (.bool true)], args := [d1, d2] }
  | _ => none }
def fnExactThicksOfRow : OpenClaim := { program := "ythccmpbklhlohab", sum := "d4ff7e1de5a45e1a7eff66d1d8bac622797d8b0cc6624c539f1c60afbbdc2757", func := "loop.example/iceharvest/laws.FnExactThicksOf", spec := "fnExactThicksOf", apart := false }
def FnExactThicksOfSaid : Prop := fnExactThicksOfRow.holds Try.pinned (OpenSpec.ofChange fnExactThicksOfSpec)

/-- ITS FALSE NEIGHBOUR: 'it returns false'. Refute it at one input. -/
def fnExactThicksOfWrong : ChangeSpec := { name := "fnExactThicksOf", fn := fun _ => fun
  | [d1, d2] => { results := [.lit (.bool false)], args := [d1, d2] }
  | _ => none }
def FnExactThicksOfWrongFalsely : Prop := fnExactThicksOfRow.holds Try.pinned (OpenSpec.ofChange fnExactThicksOfWrong)

/-- 'laws.FnExactFrostSum': WHATEVER THE INPUT: true; the input reads as it did. -/
def fnExactFrostSumSpec : ChangeSpec := { name := "fnExactFrostSum", fn := fun _ => fun
  | [d] => { results := [.lit (.bool true)], args := [d] }
  | _ => none }
def fnExactFrostSumRow : OpenClaim := { program := "ythccmpbklhlohab", sum := "d4ff7e1de5a45e1a7eff66d1d8bac622797d8b0cc6624c539f1c60afbbdc2757", func := "loop.example/iceharvest/laws.FnExactFrostSum", spec := "fnExactFrostSum", apart := false }
def FnExactFrostSumSaid : Prop := fnExactFrostSumRow.holds Try.pinned (OpenSpec.ofChange fnExactFrostSumSpec)

/-- ITS FALSE NEIGHBOUR: 'it returns false'. Refute it at one input. -/
def fnExactFrostSumWrong : ChangeSpec := { name := "fnExactFrostSum", fn := fun _ => fun
  | [d] => { results := [.lit (.bool false)], args := [d] }
  | _ => none }
def FnExactFrostSumWrongFalsely : Prop := fnExactFrostSumRow.holds Try.pinned (OpenSpec.ofChange fnExactFrostSumWrong)

/-- 'laws.FnExactFirstThick': WHATEVER THE INPUT: true; the input reads as it did. -/
def fnExactFirstThickSpec : ChangeSpec := { name := "fnExactFirstThick", fn := fun _ => fun
  | [d1, d2, d3] => { results := [.lit (.bool true)], args := [d1, d2, d3] }
  | _ => none }
def fnExactFirstThickRow : OpenClaim := { program := "ythccmpbklhlohab", sum := "d4ff7e1de5a45e1a7eff66d1d8bac622797d8b0cc6624c539f1c60afbbdc2757", func := "loop.example/iceharvest/laws.FnExactFirstThick", spec := "fnExactFirstThick", apart := false }
def FnExactFirstThickSaid : Prop := fnExactFirstThickRow.holds Try.pinned (OpenSpec.ofChange fnExactFirstThickSpec)

/-- ITS FALSE NEIGHBOUR: 'it returns false'. Refute it at one input. -/
def fnExactFirstThickWrong : ChangeSpec := { name := "fnExactFirstThick", fn := fun _ => fun
  | [d1, d2, d3] => { results := [.lit (.bool false)], args := [d1, d2, d3] }
  | _ => none }
def FnExactFirstThickWrongFalsely : Prop := fnExactFirstThickRow.holds Try.pinned (OpenSpec.ofChange fnExactFirstThickWrong)

/-- 'laws.FnExactLoadOf': WHATEVER THE INPUT: true; the input reads as it did. -/
def fnExactLoadOfSpec : ChangeSpec := { name := "fnExactLoadOf", fn := fun _ => fun
  | [d] => { results := [.lit (.bool true)], args := [d] }
  | _ => none }
def fnExactLoadOfRow : OpenClaim := { program := "ythccmpbklhlohab", sum := "d4ff7e1de5a45e1a7eff66d1d8bac622797d8b0cc6624c539f1c60afbbdc2757", func := "loop.example/iceharvest/laws.FnExactLoadOf", spec := "fnExactLoadOf", apart := false }
def FnExactLoadOfSaid : Prop := fnExactLoadOfRow.holds Try.pinned (OpenSpec.ofChange fnExactLoadOfSpec)

/-- ITS FALSE NEIGHBOUR: 'it returns false'. Refute it at one input. -/
def fnExactLoadOfWrong : ChangeSpec := { name := "fnExactLoadOf", fn := fun _ => fun
  | [d] => { results := [.lit (.bool false)], args := [d] }
  | _ => none }
def FnExactLoadOfWrongFalsely : Prop := fnExactLoadOfRow.holds Try.pinned (OpenSpec.ofChange fnExactLoadOfWrong)

/-- 'laws.FnExactNeedThick': WHATEVER THE INPUT: true; the input reads as it did. -/
def fnExactNeedThickSpec : ChangeSpec := { name := "fnExactNeedThick", fn := fun _ => fun
  | [d] => { results := [.lit (.bool true)], args := [d] }
  | _ => none }
def fnExactNeedThickRow : OpenClaim := { program := "ythccmpbklhlohab", sum := "d4ff7e1de5a45e1a7eff66d1d8bac622797d8b0cc6624c539f1c60afbbdc2757", func := "loop.example/iceharvest/laws.FnExactNeedThick", spec := "fnExactNeedThick", apart := false }
def FnExactNeedThickSaid : Prop := fnExactNeedThickRow.holds Try.pinned (OpenSpec.ofChange fnExactNeedThickSpec)

/-- ITS FALSE NEIGHBOUR: 'it returns false'. Refute it at one input. -/
def fnExactNeedThickWrong : ChangeSpec := { name := "fnExactNeedThick", fn := fun _ => fun
  | [d] => { results := [.lit (.bool false)], args := [d] }
  | _ => none }
def FnExactNeedThickWrongFalsely : Prop := fnExactNeedThickRow.holds Try.pinned (OpenSpec.ofChange fnExactNeedThickWrong)

/-- 'laws.FnExactHoursTo': WHATEVER THE INPUT: true; the input reads as it did. -/
def fnExactHoursToSpec : ChangeSpec := { name := "fnExactHoursTo", fn := fun _ => fun
  | [d1, d2, d3] => { results := [.lit (.bool true)], args := [d1, d2, d3] }
  | _ => none }
def fnExactHoursToRow : OpenClaim := { program := "ythccmpbklhlohab", sum := "d4ff7e1de5a45e1a7eff66d1d8bac622797d8b0cc6624c539f1c60afbbdc2757", func := "loop.example/iceharvest/laws.FnExactHoursTo", spec := "fnExactHoursTo", apart := false }
def FnExactHoursToSaid : Prop := fnExactHoursToRow.holds Try.pinned (OpenSpec.ofChange fnExactHoursToSpec)

/-- ITS FALSE NEIGHBOUR: 'it returns false'. Refute it at one input. -/
def fnExactHoursToWrong : ChangeSpec := { name := "fnExactHoursTo", fn := fun _ => fun
  | [d1, d2, d3] => { results := [.lit (.bool false)], args := [d1, d2, d3] }
  | _ => none }
def FnExactHoursToWrongFalsely : Prop := fnExactHoursToRow.holds Try.pinned (OpenSpec.ofChange fnExactHoursToWrong)

/-- 'laws.FnExactUnderSnow': WHATEVER THE INPUT: true; the input reads as it did. -/
def fnExactUnderSnowSpec : ChangeSpec := { name := "fnExactUnderSnow", fn := fun _ => fun
  | [d1, d2] => { results := [.lit (.bool true)], args := [d1, d2] }
  | _ => none }
def fnExactUnderSnowRow : OpenClaim := { program := "ythccmpbklhlohab", sum := "d4ff7e1de5a45e1a7eff66d1d8bac622797d8b0cc6624c539f1c60afbbdc2757", func := "loop.example/iceharvest/laws.FnExactUnderSnow", spec := "fnExactUnderSnow", apart := false }
def FnExactUnderSnowSaid : Prop := fnExactUnderSnowRow.holds Try.pinned (OpenSpec.ofChange fnExactUnderSnowSpec)

/-- ITS FALSE NEIGHBOUR: 'it returns false'. Refute it at one input. -/
def fnExactUnderSnowWrong : ChangeSpec := { name := "fnExactUnderSnow", fn := fun _ => fun
  | [d1, d2] => { results := [.lit (.bool false)], args := [d1, d2] }
  | _ => none }
def FnExactUnderSnowWrongFalsely : Prop := fnExactUnderSnowRow.holds Try.pinned (OpenSpec.ofChange fnExactUnderSnowWrong)

/-- 'laws.FnExactColdestSpell': WHATEVER THE INPUT: true; the input reads as it did. -/
def fnExactColdestSpellSpec : ChangeSpec := { name := "fnExactColdestSpell", fn := fun _ => fun
  | [d] => { results := [.lit (.bool true)], args := [d] }
  | _ => none }
def fnExactColdestSpellRow : OpenClaim := { program := "ythccmpbklhlohab", sum := "d4ff7e1de5a45e1a7eff66d1d8bac622797d8b0cc6624c539f1c60afbbdc2757", func := "loop.example/iceharvest/laws.FnExactColdestSpell", spec := "fnExactColdestSpell", apart := false }
def FnExactColdestSpellSaid : Prop := fnExactColdestSpellRow.holds Try.pinned (OpenSpec.ofChange fnExactColdestSpellSpec)

/-- ITS FALSE NEIGHBOUR: 'it returns false'. Refute it at one input. -/
def fnExactColdestSpellWrong : ChangeSpec := { name := "fnExactColdestSpell", fn := fun _ => fun
  | [d] => { results := [.lit (.bool false)], args := [d] }
  | _ => none }
def FnExactColdestSpellWrongFalsely : Prop := fnExactColdestSpellRow.holds Try.pinned (OpenSpec.ofChange fnExactColdestSpellWrong)

/- THE SECOND FORM. 'bulk': how many values and letters a reading holds, each counted each time it is reached (what is shared counts as often as it is met; a slice's spare places count too). A statement '..UptoSaid' is the law's where the arguments, and the package variables that the reading takes, are together of bulk at most 1048576: NARROWER than '..Said'. Prove '..Said' where nothing that the law and all that it calls make is longer than what came in: it says more and counts as full. Else prove '..UptoSaid'. A law counts once. -/
mutual
def uptoBulk {H : Type} : DataW H → Nat
  | .lit (.string bytes) => bytes.length + 1
  | .lit _ => 1
  | .nil => 1
  | .ptr d => uptoBulk d + 1
  | .slice elems spare => uptoBulkAll elems + uptoBulkAll spare + 1
  | .agg parts => uptoBulkAll parts + 1
  | .iface _ d => uptoBulk d + 1
  | .map entries => uptoBulkEntries entries + 1
  | .held _ => 1
def uptoBulkAll {H : Type} : List (DataW H) → Nat
  | [] => 0
  | d :: r => uptoBulk d + uptoBulkAll r
def uptoBulkEntries {H : Type} : List (Lit × DataW H) → Nat
  | [] => 0
  | x :: r => uptoBulkEntry x + uptoBulkEntries r
def uptoBulkEntry {H : Type} : Lit × DataW H → Nat
  | (.string bytes, d) => bytes.length + uptoBulk d + 1
  | (_, d) => uptoBulk d + 1
 end
def uptoSmall : (H : Type) → List (DataW H) → Bool := fun _ ds => decide (uptoBulkAll ds ≤ 1048576)
def OpenSpec.upto (s : _root_.Go.ChangeSpec) : _root_.Go.OpenSpec := { _root_.Go.OpenSpec.ofChange s with cond := some uptoSmall }

/-- 'laws.FnColdestSpell', WHERE WHAT IT READS IS OF BULK AT MOST 1048576: true; the input reads as it did. -/
def fnColdestSpellUptoRow : OpenClaim := { program := "ythccmpbklhlohab", sum := "d4ff7e1de5a45e1a7eff66d1d8bac622797d8b0cc6624c539f1c60afbbdc2757", func := "loop.example/iceharvest/laws.FnColdestSpell", spec := "fnColdestSpell", apart := false, narrowed := true }
def FnColdestSpellUptoSaid : Prop := fnColdestSpellUptoRow.holds Try.pinned (OpenSpec.upto fnColdestSpellSpec)

/-- 'laws.FnExactThickOf', WHERE WHAT IT READS IS OF BULK AT MOST 1048576: true; the input reads as it did. -/
def fnExactThickOfUptoRow : OpenClaim := { program := "ythccmpbklhlohab", sum := "d4ff7e1de5a45e1a7eff66d1d8bac622797d8b0cc6624c539f1c60afbbdc2757", func := "loop.example/iceharvest/laws.FnExactThickOf", spec := "fnExactThickOf", apart := false, narrowed := true }
def FnExactThickOfUptoSaid : Prop := fnExactThickOfUptoRow.holds Try.pinned (OpenSpec.upto fnExactThickOfSpec)

/-- 'laws.FnExactStepIce', WHERE WHAT IT READS IS OF BULK AT MOST 1048576: true; the input reads as it did. -/
def fnExactStepIceUptoRow : OpenClaim := { program := "ythccmpbklhlohab", sum := "d4ff7e1de5a45e1a7eff66d1d8bac622797d8b0cc6624c539f1c60afbbdc2757", func := "loop.example/iceharvest/laws.FnExactStepIce", spec := "fnExactStepIce", apart := false, narrowed := true }
def FnExactStepIceUptoSaid : Prop := fnExactStepIceUptoRow.holds Try.pinned (OpenSpec.upto fnExactStepIceSpec)

/-- 'laws.FnExactRunIce', WHERE WHAT IT READS IS OF BULK AT MOST 1048576: true; the input reads as it did. -/
def fnExactRunIceUptoRow : OpenClaim := { program := "ythccmpbklhlohab", sum := "d4ff7e1de5a45e1a7eff66d1d8bac622797d8b0cc6624c539f1c60afbbdc2757", func := "loop.example/iceharvest/laws.FnExactRunIce", spec := "fnExactRunIce", apart := false, narrowed := true }
def FnExactRunIceUptoSaid : Prop := fnExactRunIceUptoRow.holds Try.pinned (OpenSpec.upto fnExactRunIceSpec)

/-- 'laws.FnExactThicksOf', WHERE WHAT IT READS IS OF BULK AT MOST 1048576: true; the input reads as it did. -/
def fnExactThicksOfUptoRow : OpenClaim := { program := "ythccmpbklhlohab", sum := "d4ff7e1de5a45e1a7eff66d1d8bac622797d8b0cc6624c539f1c60afbbdc2757", func := "loop.example/iceharvest/laws.FnExactThicksOf", spec := "fnExactThicksOf", apart := false, narrowed := true }
def FnExactThicksOfUptoSaid : Prop := fnExactThicksOfUptoRow.holds Try.pinned (OpenSpec.upto fnExactThicksOfSpec)

/-- 'laws.FnExactFrostSum', WHERE WHAT IT READS IS OF BULK AT MOST 1048576: true; the input reads as it did. -/
def fnExactFrostSumUptoRow : OpenClaim := { program := "ythccmpbklhlohab", sum := "d4ff7e1de5a45e1a7eff66d1d8bac622797d8b0cc6624c539f1c60afbbdc2757", func := "loop.example/iceharvest/laws.FnExactFrostSum", spec := "fnExactFrostSum", apart := false, narrowed := true }
def FnExactFrostSumUptoSaid : Prop := fnExactFrostSumUptoRow.holds Try.pinned (OpenSpec.upto fnExactFrostSumSpec)

/-- 'laws.FnExactFirstThick', WHERE WHAT IT READS IS OF BULK AT MOST 1048576: true; the input reads as it did. -/
def fnExactFirstThickUptoRow : OpenClaim := { program := "ythccmpbklhlohab", sum := "d4ff7e1de5a45e1a7eff66d1d8bac622797d8b0cc6624c539f1c60afbbdc2757", func := "loop.example/iceharvest/laws.FnExactFirstThick", spec := "fnExactFirstThick", apart := false, narrowed := true }
def FnExactFirstThickUptoSaid : Prop := fnExactFirstThickUptoRow.holds Try.pinned (OpenSpec.upto fnExactFirstThickSpec)

/-- 'laws.FnExactLoadOf', WHERE WHAT IT READS IS OF BULK AT MOST 1048576: true; the input reads as it did. -/
def fnExactLoadOfUptoRow : OpenClaim := { program := "ythccmpbklhlohab", sum := "d4ff7e1de5a45e1a7eff66d1d8bac622797d8b0cc6624c539f1c60afbbdc2757", func := "loop.example/iceharvest/laws.FnExactLoadOf", spec := "fnExactLoadOf", apart := false, narrowed := true }
def FnExactLoadOfUptoSaid : Prop := fnExactLoadOfUptoRow.holds Try.pinned (OpenSpec.upto fnExactLoadOfSpec)

/-- 'laws.FnExactNeedThick', WHERE WHAT IT READS IS OF BULK AT MOST 1048576: true; the input reads as it did. -/
def fnExactNeedThickUptoRow : OpenClaim := { program := "ythccmpbklhlohab", sum := "d4ff7e1de5a45e1a7eff66d1d8bac622797d8b0cc6624c539f1c60afbbdc2757", func := "loop.example/iceharvest/laws.FnExactNeedThick", spec := "fnExactNeedThick", apart := false, narrowed := true }
def FnExactNeedThickUptoSaid : Prop := fnExactNeedThickUptoRow.holds Try.pinned (OpenSpec.upto fnExactNeedThickSpec)

/-- 'laws.FnExactHoursTo', WHERE WHAT IT READS IS OF BULK AT MOST 1048576: true; the input reads as it did. -/
def fnExactHoursToUptoRow : OpenClaim := { program := "ythccmpbklhlohab", sum := "d4ff7e1de5a45e1a7eff66d1d8bac622797d8b0cc6624c539f1c60afbbdc2757", func := "loop.example/iceharvest/laws.FnExactHoursTo", spec := "fnExactHoursTo", apart := false, narrowed := true }
def FnExactHoursToUptoSaid : Prop := fnExactHoursToUptoRow.holds Try.pinned (OpenSpec.upto fnExactHoursToSpec)

/-- 'laws.FnExactUnderSnow', WHERE WHAT IT READS IS OF BULK AT MOST 1048576: true; the input reads as it did. -/
def fnExactUnderSnowUptoRow : OpenClaim := { program := "ythccmpbklhlohab", sum := "d4ff7e1de5a45e1a7eff66d1d8bac622797d8b0cc6624c539f1c60afbbdc2757", func := "loop.example/iceharvest/laws.FnExactUnderSnow", spec := "fnExactUnderSnow", apart := false, narrowed := true }
def FnExactUnderSnowUptoSaid : Prop := fnExactUnderSnowUptoRow.holds Try.pinned (OpenSpec.upto fnExactUnderSnowSpec)

/-- 'laws.FnExactColdestSpell', WHERE WHAT IT READS IS OF BULK AT MOST 1048576: true; the input reads as it did. -/
def fnExactColdestSpellUptoRow : OpenClaim := { program := "ythccmpbklhlohab", sum := "d4ff7e1de5a45e1a7eff66d1d8bac622797d8b0cc6624c539f1c60afbbdc2757", func := "loop.example/iceharvest/laws.FnExactColdestSpell", spec := "fnExactColdestSpell", apart := false, narrowed := true }
def FnExactColdestSpellUptoSaid : Prop := fnExactColdestSpellUptoRow.holds Try.pinned (OpenSpec.upto fnExactColdestSpellSpec)

end Rows
end Go.Proofs.Ythccmpbklhlohab
