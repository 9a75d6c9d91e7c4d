/-
  No cell of these rows narrows 'for every input' (looked for: loops, veiled, ifaces, maps, wideKeys, modest, calm, conditions, laid).
  DERIVED. THE GIVEN ROWS OF THIS SEAT. 12 by the template 'for every input the law returns true; each argument reads behind the call as it read before'; 0 by the template 'total and deterministic' (their statements: YtboaikabbfipgaaTotals.lean).
  GIVEN WITH THE SEED: the statements are not yours to turn. If you find one false, say at which input.
  Laid BY PROGRAM, IN A SANDBOX (cutbox-rows.mjs): the forced cells as the released guide's own fill.sh prints them over the translation 1ce653599c0c3f50… (all of the seat's roots in one cut). By AI agents, Wed Nov 11 2026. No macro, syntax, notation, axiom, sorry.
-/
import Derived.Test.YtboaikabbfipgaaChecked
import GoSem.Claim
import GoSem.ClaimJoined
import GoSem.ClaimMapViews
import Derived.JoinedTies
import Derived.KernelRfl
namespace Go.Proofs.Ytboaikabbfipgaa
/- THE CELL 'sum', in the pinned program and in every row, IS THE sha256 OF THE DUMP (.gsa) THAT YtboaikabbfipgaaProg.lean LOADS. Nothing in Lean hashes anything: it is a label: what it is worth is what the hold of that sum in a sandbox is worth. -/
noncomputable def Try.pinned : Pinned := { name := "ytboaikabbfipgaa", sum := "1ce653599c0c3f50a9e9e20a730612b6cae4a768627347f3f6deee4b6ce5436a", checked := Try.checked }
namespace Rows
def none {H : Type} : Left H := { results := [], args := [] }

/-- 'laws.FnFieldsOf': WHATEVER THE INPUT: true; the input reads as it did. -/
def fnFieldsOfSpec : ChangeSpec := { name := "fnFieldsOf", fn := fun _ => fun
  | [d] => { results := [.lit (.bool true)], args := [d] }
  | _ => none }
def fnFieldsOfRow : OpenClaim := { program := "ytboaikabbfipgaa", sum := "1ce653599c0c3f50a9e9e20a730612b6cae4a768627347f3f6deee4b6ce5436a", func := "loop.example/iceharvest/laws.FnFieldsOf", spec := "fnFieldsOf", apart := false }
def FnFieldsOfSaid : Prop := fnFieldsOfRow.holds Try.pinned (OpenSpec.ofChange fnFieldsOfSpec)

/-- ITS FALSE NEIGHBOUR: 'it returns false'. Refute it at one input. -/
def fnFieldsOfWrong : ChangeSpec := { name := "fnFieldsOf", fn := fun _ => fun
  | [d] => { results := [.lit (.bool false)], args := [d] }
  | _ => none }
def FnFieldsOfWrongFalsely : Prop := fnFieldsOfRow.holds Try.pinned (OpenSpec.ofChange fnFieldsOfWrong)

/-- 'laws.FnFieldSizes': WHATEVER THE INPUT: true; the input reads as it did. -/
def fnFieldSizesSpec : ChangeSpec := { name := "fnFieldSizes", fn := fun _ => fun
  | [d] => { results := [.lit (.bool true)], args := [d] }
  | _ => none }
def fnFieldSizesRow : OpenClaim := { program := "ytboaikabbfipgaa", sum := "1ce653599c0c3f50a9e9e20a730612b6cae4a768627347f3f6deee4b6ce5436a", func := "loop.example/iceharvest/laws.FnFieldSizes", spec := "fnFieldSizes", apart := false }
def FnFieldSizesSaid : Prop := fnFieldSizesRow.holds Try.pinned (OpenSpec.ofChange fnFieldSizesSpec)

/-- ITS FALSE NEIGHBOUR: 'it returns false'. Refute it at one input. -/
def fnFieldSizesWrong : ChangeSpec := { name := "fnFieldSizes", fn := fun _ => fun
  | [d] => { results := [.lit (.bool false)], args := [d] }
  | _ => none }
def FnFieldSizesWrongFalsely : Prop := fnFieldSizesRow.holds Try.pinned (OpenSpec.ofChange fnFieldSizesWrong)

/-- 'laws.FnNarrowsOf': WHATEVER THE INPUT: true; the input reads as it did. -/
def fnNarrowsOfSpec : ChangeSpec := { name := "fnNarrowsOf", fn := fun _ => fun
  | [d] => { results := [.lit (.bool true)], args := [d] }
  | _ => none }
def fnNarrowsOfRow : OpenClaim := { program := "ytboaikabbfipgaa", sum := "1ce653599c0c3f50a9e9e20a730612b6cae4a768627347f3f6deee4b6ce5436a", func := "loop.example/iceharvest/laws.FnNarrowsOf", spec := "fnNarrowsOf", apart := false }
def FnNarrowsOfSaid : Prop := fnNarrowsOfRow.holds Try.pinned (OpenSpec.ofChange fnNarrowsOfSpec)

/-- ITS FALSE NEIGHBOUR: 'it returns false'. Refute it at one input. -/
def fnNarrowsOfWrong : ChangeSpec := { name := "fnNarrowsOf", fn := fun _ => fun
  | [d] => { results := [.lit (.bool false)], args := [d] }
  | _ => none }
def FnNarrowsOfWrongFalsely : Prop := fnNarrowsOfRow.holds Try.pinned (OpenSpec.ofChange fnNarrowsOfWrong)

/-- 'laws.FnNarrowsOfEnds': WHATEVER THE INPUT: true; the input reads as it did. -/
def fnNarrowsOfEndsSpec : ChangeSpec := { name := "fnNarrowsOfEnds", fn := fun _ => fun
  | [d] => { results := [.lit (.bool true)], args := [d] }
  | _ => none }
def fnNarrowsOfEndsRow : OpenClaim := { program := "ytboaikabbfipgaa", sum := "1ce653599c0c3f50a9e9e20a730612b6cae4a768627347f3f6deee4b6ce5436a", func := "loop.example/iceharvest/laws.FnNarrowsOfEnds", spec := "fnNarrowsOfEnds", apart := false }
def FnNarrowsOfEndsSaid : Prop := fnNarrowsOfEndsRow.holds Try.pinned (OpenSpec.ofChange fnNarrowsOfEndsSpec)

/-- ITS FALSE NEIGHBOUR: 'it returns false'. Refute it at one input. -/
def fnNarrowsOfEndsWrong : ChangeSpec := { name := "fnNarrowsOfEnds", fn := fun _ => fun
  | [d] => { results := [.lit (.bool false)], args := [d] }
  | _ => none }
def FnNarrowsOfEndsWrongFalsely : Prop := fnNarrowsOfEndsRow.holds Try.pinned (OpenSpec.ofChange fnNarrowsOfEndsWrong)

/-- 'laws.FnRisksFrom': WHATEVER THE INPUT: true; the input reads as it did. -/
def fnRisksFromSpec : ChangeSpec := { name := "fnRisksFrom", fn := fun _ => fun
  | [d] => { results := [.lit (.bool true)], args := [d] }
  | _ => none }
def fnRisksFromRow : OpenClaim := { program := "ytboaikabbfipgaa", sum := "1ce653599c0c3f50a9e9e20a730612b6cae4a768627347f3f6deee4b6ce5436a", func := "loop.example/iceharvest/laws.FnRisksFrom", spec := "fnRisksFrom", apart := false }
def FnRisksFromSaid : Prop := fnRisksFromRow.holds Try.pinned (OpenSpec.ofChange fnRisksFromSpec)

/-- ITS FALSE NEIGHBOUR: 'it returns false'. Refute it at one input. -/
def fnRisksFromWrong : ChangeSpec := { name := "fnRisksFrom", fn := fun _ => fun
  | [d] => { results := [.lit (.bool false)], args := [d] }
  | _ => none }
def FnRisksFromWrongFalsely : Prop := fnRisksFromRow.holds Try.pinned (OpenSpec.ofChange fnRisksFromWrong)

/-- 'laws.FnWayTo': WHATEVER THE INPUT: true; the input reads as it did. -/
def fnWayToSpec : ChangeSpec := { name := "fnWayTo", fn := fun _ => fun
  | [d] => { results := [.lit (.bool true)], args := [d] }
  | _ => none }
def fnWayToRow : OpenClaim := { program := "ytboaikabbfipgaa", sum := "1ce653599c0c3f50a9e9e20a730612b6cae4a768627347f3f6deee4b6ce5436a", func := "loop.example/iceharvest/laws.FnWayTo", spec := "fnWayTo", apart := false }
def FnWayToSaid : Prop := fnWayToRow.holds Try.pinned (OpenSpec.ofChange fnWayToSpec)

/-- ITS FALSE NEIGHBOUR: 'it returns false'. Refute it at one input. -/
def fnWayToWrong : ChangeSpec := { name := "fnWayTo", fn := fun _ => fun
  | [d] => { results := [.lit (.bool false)], args := [d] }
  | _ => none }
def FnWayToWrongFalsely : Prop := fnWayToRow.holds Try.pinned (OpenSpec.ofChange fnWayToWrong)

/-- 'laws.FnWayToBack': WHATEVER THE INPUT: true; the input reads as it did. -/
def fnWayToBackSpec : ChangeSpec := { name := "fnWayToBack", fn := fun _ => fun
  | [d] => { results := [.lit (.bool true)], args := [d] }
  | _ => none }
def fnWayToBackRow : OpenClaim := { program := "ytboaikabbfipgaa", sum := "1ce653599c0c3f50a9e9e20a730612b6cae4a768627347f3f6deee4b6ce5436a", func := "loop.example/iceharvest/laws.FnWayToBack", spec := "fnWayToBack", apart := false }
def FnWayToBackSaid : Prop := fnWayToBackRow.holds Try.pinned (OpenSpec.ofChange fnWayToBackSpec)

/-- ITS FALSE NEIGHBOUR: 'it returns false'. Refute it at one input. -/
def fnWayToBackWrong : ChangeSpec := { name := "fnWayToBack", fn := fun _ => fun
  | [d] => { results := [.lit (.bool false)], args := [d] }
  | _ => none }
def FnWayToBackWrongFalsely : Prop := fnWayToBackRow.holds Try.pinned (OpenSpec.ofChange fnWayToBackWrong)

/-- 'laws.FnGrowPond': WHATEVER THE INPUT: true; the input reads as it did. -/
def fnGrowPondSpec : ChangeSpec := { name := "fnGrowPond", fn := fun _ => fun
  | [d] => { results := [.lit (.bool true)], args := [d] }
  | _ => none }
def fnGrowPondRow : OpenClaim := { program := "ytboaikabbfipgaa", sum := "1ce653599c0c3f50a9e9e20a730612b6cae4a768627347f3f6deee4b6ce5436a", func := "loop.example/iceharvest/laws.FnGrowPond", spec := "fnGrowPond", apart := false }
def FnGrowPondSaid : Prop := fnGrowPondRow.holds Try.pinned (OpenSpec.ofChange fnGrowPondSpec)

/-- ITS FALSE NEIGHBOUR: 'it returns false'. Refute it at one input. -/
def fnGrowPondWrong : ChangeSpec := { name := "fnGrowPond", fn := fun _ => fun
  | [d] => { results := [.lit (.bool false)], args := [d] }
  | _ => none }
def FnGrowPondWrongFalsely : Prop := fnGrowPondRow.holds Try.pinned (OpenSpec.ofChange fnGrowPondWrong)

/-- 'laws.FnGrowPondWays': WHATEVER THE INPUT: true; the input reads as it did. -/
def fnGrowPondWaysSpec : ChangeSpec := { name := "fnGrowPondWays", fn := fun _ => fun
  | [d] => { results := [.lit (.bool true)], args := [d] }
  | _ => none }
def fnGrowPondWaysRow : OpenClaim := { program := "ytboaikabbfipgaa", sum := "1ce653599c0c3f50a9e9e20a730612b6cae4a768627347f3f6deee4b6ce5436a", func := "loop.example/iceharvest/laws.FnGrowPondWays", spec := "fnGrowPondWays", apart := false }
def FnGrowPondWaysSaid : Prop := fnGrowPondWaysRow.holds Try.pinned (OpenSpec.ofChange fnGrowPondWaysSpec)

/-- ITS FALSE NEIGHBOUR: 'it returns false'. Refute it at one input. -/
def fnGrowPondWaysWrong : ChangeSpec := { name := "fnGrowPondWays", fn := fun _ => fun
  | [d] => { results := [.lit (.bool false)], args := [d] }
  | _ => none }
def FnGrowPondWaysWrongFalsely : Prop := fnGrowPondWaysRow.holds Try.pinned (OpenSpec.ofChange fnGrowPondWaysWrong)

/-- 'laws.FnCutCell': WHATEVER THE INPUT: true; the input reads as it did. -/
def fnCutCellSpec : ChangeSpec := { name := "fnCutCell", fn := fun _ => fun
  | [d] => { results := [.lit (.bool true)], args := [d] }
  | _ => none }
def fnCutCellRow : OpenClaim := { program := "ytboaikabbfipgaa", sum := "1ce653599c0c3f50a9e9e20a730612b6cae4a768627347f3f6deee4b6ce5436a", func := "loop.example/iceharvest/laws.FnCutCell", spec := "fnCutCell", apart := false }
def FnCutCellSaid : Prop := fnCutCellRow.holds Try.pinned (OpenSpec.ofChange fnCutCellSpec)

/-- ITS FALSE NEIGHBOUR: 'it returns false'. Refute it at one input. -/
def fnCutCellWrong : ChangeSpec := { name := "fnCutCell", fn := fun _ => fun
  | [d] => { results := [.lit (.bool false)], args := [d] }
  | _ => none }
def FnCutCellWrongFalsely : Prop := fnCutCellRow.holds Try.pinned (OpenSpec.ofChange fnCutCellWrong)

/-- 'laws.FnExactGrowPond': WHATEVER THE INPUT: true; the input reads as it did. -/
def fnExactGrowPondSpec : ChangeSpec := { name := "fnExactGrowPond", fn := fun _ => fun
  | [d1, d2] => { results := [.lit (.bool true)], args := [d1, d2] }
  | _ => none }
def fnExactGrowPondRow : OpenClaim := { program := "ytboaikabbfipgaa", sum := "1ce653599c0c3f50a9e9e20a730612b6cae4a768627347f3f6deee4b6ce5436a", func := "loop.example/iceharvest/laws.FnExactGrowPond", spec := "fnExactGrowPond", apart := false }
def FnExactGrowPondSaid : Prop := fnExactGrowPondRow.holds Try.pinned (OpenSpec.ofChange fnExactGrowPondSpec)

/-- ITS FALSE NEIGHBOUR: 'it returns false'. Refute it at one input. -/
def fnExactGrowPondWrong : ChangeSpec := { name := "fnExactGrowPond", fn := fun _ => fun
  | [d1, d2] => { results := [.lit (.bool false)], args := [d1, d2] }
  | _ => none }
def FnExactGrowPondWrongFalsely : Prop := fnExactGrowPondRow.holds Try.pinned (OpenSpec.ofChange fnExactGrowPondWrong)

/-- 'laws.FnExactCutCell': WHATEVER THE INPUT: true; the input reads as it did. -/
def fnExactCutCellSpec : ChangeSpec := { name := "fnExactCutCell", fn := fun _ => fun
  | [d1, d2] => { results := [.lit (.bool true)], args := [d1, d2] }
  | _ => none }
def fnExactCutCellRow : OpenClaim := { program := "ytboaikabbfipgaa", sum := "1ce653599c0c3f50a9e9e20a730612b6cae4a768627347f3f6deee4b6ce5436a", func := "loop.example/iceharvest/laws.FnExactCutCell", spec := "fnExactCutCell", apart := false }
def FnExactCutCellSaid : Prop := fnExactCutCellRow.holds Try.pinned (OpenSpec.ofChange fnExactCutCellSpec)

/-- ITS FALSE NEIGHBOUR: 'it returns false'. Refute it at one input. -/
def fnExactCutCellWrong : ChangeSpec := { name := "fnExactCutCell", fn := fun _ => fun
  | [d1, d2] => { results := [.lit (.bool false)], args := [d1, d2] }
  | _ => none }
def FnExactCutCellWrongFalsely : Prop := fnExactCutCellRow.holds Try.pinned (OpenSpec.ofChange fnExactCutCellWrong)

/- THE SECOND FORM. 'bulk': how many values and letters a reading holds, each counted each time it is reached (what is shared counts as often as it is met; a slice's spare places count too). A statement '..UptoSaid' is the law's where the arguments, and the package variables that the reading takes, are together of bulk at most 1048576: NARROWER than '..Said'. Prove '..Said' where nothing that the law and all that it calls make is longer than what came in: it says more and counts as full. Else prove '..UptoSaid'. A law counts once. -/
mutual
def uptoBulk {H : Type} : DataW H → Nat
  | .lit (.string bytes) => bytes.length + 1
  | .lit _ => 1
  | .nil => 1
  | .ptr d => uptoBulk d + 1
  | .slice elems spare => uptoBulkAll elems + uptoBulkAll spare + 1
  | .agg parts => uptoBulkAll parts + 1
  | .iface _ d => uptoBulk d + 1
  | .map entries => uptoBulkEntries entries + 1
  | .held _ => 1
def uptoBulkAll {H : Type} : List (DataW H) → Nat
  | [] => 0
  | d :: r => uptoBulk d + uptoBulkAll r
def uptoBulkEntries {H : Type} : List (Lit × DataW H) → Nat
  | [] => 0
  | x :: r => uptoBulkEntry x + uptoBulkEntries r
def uptoBulkEntry {H : Type} : Lit × DataW H → Nat
  | (.string bytes, d) => bytes.length + uptoBulk d + 1
  | (_, d) => uptoBulk d + 1
 end
def uptoSmall : (H : Type) → List (DataW H) → Bool := fun _ ds => decide (uptoBulkAll ds ≤ 1048576)
def OpenSpec.upto (s : _root_.Go.ChangeSpec) : _root_.Go.OpenSpec := { _root_.Go.OpenSpec.ofChange s with cond := some uptoSmall }

/-- 'laws.FnFieldsOf', WHERE WHAT IT READS IS OF BULK AT MOST 1048576: true; the input reads as it did. -/
def fnFieldsOfUptoRow : OpenClaim := { program := "ytboaikabbfipgaa", sum := "1ce653599c0c3f50a9e9e20a730612b6cae4a768627347f3f6deee4b6ce5436a", func := "loop.example/iceharvest/laws.FnFieldsOf", spec := "fnFieldsOf", apart := false, narrowed := true }
def FnFieldsOfUptoSaid : Prop := fnFieldsOfUptoRow.holds Try.pinned (OpenSpec.upto fnFieldsOfSpec)

/-- 'laws.FnFieldSizes', WHERE WHAT IT READS IS OF BULK AT MOST 1048576: true; the input reads as it did. -/
def fnFieldSizesUptoRow : OpenClaim := { program := "ytboaikabbfipgaa", sum := "1ce653599c0c3f50a9e9e20a730612b6cae4a768627347f3f6deee4b6ce5436a", func := "loop.example/iceharvest/laws.FnFieldSizes", spec := "fnFieldSizes", apart := false, narrowed := true }
def FnFieldSizesUptoSaid : Prop := fnFieldSizesUptoRow.holds Try.pinned (OpenSpec.upto fnFieldSizesSpec)

/-- 'laws.FnNarrowsOf', WHERE WHAT IT READS IS OF BULK AT MOST 1048576: true; the input reads as it did. -/
def fnNarrowsOfUptoRow : OpenClaim := { program := "ytboaikabbfipgaa", sum := "1ce653599c0c3f50a9e9e20a730612b6cae4a768627347f3f6deee4b6ce5436a", func := "loop.example/iceharvest/laws.FnNarrowsOf", spec := "fnNarrowsOf", apart := false, narrowed := true }
def FnNarrowsOfUptoSaid : Prop := fnNarrowsOfUptoRow.holds Try.pinned (OpenSpec.upto fnNarrowsOfSpec)

/-- 'laws.FnNarrowsOfEnds', WHERE WHAT IT READS IS OF BULK AT MOST 1048576: true; the input reads as it did. -/
def fnNarrowsOfEndsUptoRow : OpenClaim := { program := "ytboaikabbfipgaa", sum := "1ce653599c0c3f50a9e9e20a730612b6cae4a768627347f3f6deee4b6ce5436a", func := "loop.example/iceharvest/laws.FnNarrowsOfEnds", spec := "fnNarrowsOfEnds", apart := false, narrowed := true }
def FnNarrowsOfEndsUptoSaid : Prop := fnNarrowsOfEndsUptoRow.holds Try.pinned (OpenSpec.upto fnNarrowsOfEndsSpec)

/-- 'laws.FnRisksFrom', WHERE WHAT IT READS IS OF BULK AT MOST 1048576: true; the input reads as it did. -/
def fnRisksFromUptoRow : OpenClaim := { program := "ytboaikabbfipgaa", sum := "1ce653599c0c3f50a9e9e20a730612b6cae4a768627347f3f6deee4b6ce5436a", func := "loop.example/iceharvest/laws.FnRisksFrom", spec := "fnRisksFrom", apart := false, narrowed := true }
def FnRisksFromUptoSaid : Prop := fnRisksFromUptoRow.holds Try.pinned (OpenSpec.upto fnRisksFromSpec)

/-- 'laws.FnWayTo', WHERE WHAT IT READS IS OF BULK AT MOST 1048576: true; the input reads as it did. -/
def fnWayToUptoRow : OpenClaim := { program := "ytboaikabbfipgaa", sum := "1ce653599c0c3f50a9e9e20a730612b6cae4a768627347f3f6deee4b6ce5436a", func := "loop.example/iceharvest/laws.FnWayTo", spec := "fnWayTo", apart := false, narrowed := true }
def FnWayToUptoSaid : Prop := fnWayToUptoRow.holds Try.pinned (OpenSpec.upto fnWayToSpec)

/-- 'laws.FnWayToBack', WHERE WHAT IT READS IS OF BULK AT MOST 1048576: true; the input reads as it did. -/
def fnWayToBackUptoRow : OpenClaim := { program := "ytboaikabbfipgaa", sum := "1ce653599c0c3f50a9e9e20a730612b6cae4a768627347f3f6deee4b6ce5436a", func := "loop.example/iceharvest/laws.FnWayToBack", spec := "fnWayToBack", apart := false, narrowed := true }
def FnWayToBackUptoSaid : Prop := fnWayToBackUptoRow.holds Try.pinned (OpenSpec.upto fnWayToBackSpec)

/-- 'laws.FnGrowPond', WHERE WHAT IT READS IS OF BULK AT MOST 1048576: true; the input reads as it did. -/
def fnGrowPondUptoRow : OpenClaim := { program := "ytboaikabbfipgaa", sum := "1ce653599c0c3f50a9e9e20a730612b6cae4a768627347f3f6deee4b6ce5436a", func := "loop.example/iceharvest/laws.FnGrowPond", spec := "fnGrowPond", apart := false, narrowed := true }
def FnGrowPondUptoSaid : Prop := fnGrowPondUptoRow.holds Try.pinned (OpenSpec.upto fnGrowPondSpec)

/-- 'laws.FnGrowPondWays', WHERE WHAT IT READS IS OF BULK AT MOST 1048576: true; the input reads as it did. -/
def fnGrowPondWaysUptoRow : OpenClaim := { program := "ytboaikabbfipgaa", sum := "1ce653599c0c3f50a9e9e20a730612b6cae4a768627347f3f6deee4b6ce5436a", func := "loop.example/iceharvest/laws.FnGrowPondWays", spec := "fnGrowPondWays", apart := false, narrowed := true }
def FnGrowPondWaysUptoSaid : Prop := fnGrowPondWaysUptoRow.holds Try.pinned (OpenSpec.upto fnGrowPondWaysSpec)

/-- 'laws.FnCutCell', WHERE WHAT IT READS IS OF BULK AT MOST 1048576: true; the input reads as it did. -/
def fnCutCellUptoRow : OpenClaim := { program := "ytboaikabbfipgaa", sum := "1ce653599c0c3f50a9e9e20a730612b6cae4a768627347f3f6deee4b6ce5436a", func := "loop.example/iceharvest/laws.FnCutCell", spec := "fnCutCell", apart := false, narrowed := true }
def FnCutCellUptoSaid : Prop := fnCutCellUptoRow.holds Try.pinned (OpenSpec.upto fnCutCellSpec)

/-- 'laws.FnExactGrowPond', WHERE WHAT IT READS IS OF BULK AT MOST 1048576: true; the input reads as it did. -/
def fnExactGrowPondUptoRow : OpenClaim := { program := "ytboaikabbfipgaa", sum := "1ce653599c0c3f50a9e9e20a730612b6cae4a768627347f3f6deee4b6ce5436a", func := "loop.example/iceharvest/laws.FnExactGrowPond", spec := "fnExactGrowPond", apart := false, narrowed := true }
def FnExactGrowPondUptoSaid : Prop := fnExactGrowPondUptoRow.holds Try.pinned (OpenSpec.upto fnExactGrowPondSpec)

/-- 'laws.FnExactCutCell', WHERE WHAT IT READS IS OF BULK AT MOST 1048576: true; the input reads as it did. -/
def fnExactCutCellUptoRow : OpenClaim := { program := "ytboaikabbfipgaa", sum := "1ce653599c0c3f50a9e9e20a730612b6cae4a768627347f3f6deee4b6ce5436a", func := "loop.example/iceharvest/laws.FnExactCutCell", spec := "fnExactCutCell", apart := false, narrowed := true }
def FnExactCutCellUptoSaid : Prop := fnExactCutCellUptoRow.holds Try.pinned (OpenSpec.upto fnExactCutCellSpec)

end Rows
end Go.Proofs.Ytboaikabbfipgaa
