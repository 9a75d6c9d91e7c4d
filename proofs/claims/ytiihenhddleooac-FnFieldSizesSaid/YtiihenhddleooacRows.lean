/-
  No cell of these rows narrows 'for every input' (looked for: loops, veiled, ifaces, maps, wideKeys, modest, calm, conditions, laid).
  DERIVED. THE GIVEN ROWS OF THIS SEAT. 4 by the template 'for every input the law returns true; each argument reads behind the call as it read before'; 0 by the template 'total and deterministic' (their statements: YtiihenhddleooacTotals.lean).
  GIVEN WITH THE SEED: the statements are not yours to turn. If you find one false, say at which input.
  Laid BY PROGRAM, IN A SANDBOX (cutbox-rows.mjs): the forced cells as the released guide's own fill.sh prints them over the translation 1d31c8bfe75626cf… (all of the seat's roots in one cut). By AI agents, Wed Nov 11 2026. No macro, syntax, notation, axiom, sorry.
-/
import Derived.Test.YtiihenhddleooacChecked
import GoSem.Claim
import GoSem.ClaimJoined
import GoSem.ClaimMapViews
import Derived.JoinedTies
import Derived.KernelRfl
namespace Go.Proofs.Ytiihenhddleooac
/- THE CELL 'sum', in the pinned program and in every row, IS THE sha256 OF THE DUMP (.gsa) THAT YtiihenhddleooacProg.lean LOADS. Nothing in Lean hashes anything: it is a label: what it is worth is what the hold of that sum in a sandbox is worth. -/
noncomputable def Try.pinned : Pinned := { name := "ytiihenhddleooac", sum := "1d31c8bfe75626cf2aeaa54d325f28703f09f953c89e05da239d2a0246e1fbfd", checked := Try.checked }
namespace Rows
def none {H : Type} : Left H := { results := [], args := [] }

/-- 'laws.FnMostCakesTurned': WHATEVER THE INPUT: true; the input reads as it did. -/
def fnMostCakesTurnedSpec : ChangeSpec := { name := "fnMostCakesTurned", fn := fun _ => fun
  | [d] => { results := [.lit (.bool true)], args := [d] }
  | _ => none }
def fnMostCakesTurnedRow : OpenClaim := { program := "ytiihenhddleooac", sum := "1d31c8bfe75626cf2aeaa54d325f28703f09f953c89e05da239d2a0246e1fbfd", func := "loop.example/iceharvest/laws.FnMostCakesTurned", spec := "fnMostCakesTurned", recurses := true, apart := false }
def FnMostCakesTurnedSaid : Prop := fnMostCakesTurnedRow.holds Try.pinned (OpenSpec.ofChange fnMostCakesTurnedSpec)

/-- ITS FALSE NEIGHBOUR: 'it returns false'. Refute it at one input. -/
def fnMostCakesTurnedWrong : ChangeSpec := { name := "fnMostCakesTurned", fn := fun _ => fun
  | [d] => { results := [.lit (.bool false)], args := [d] }
  | _ => none }
def FnMostCakesTurnedWrongFalsely : Prop := fnMostCakesTurnedRow.holds Try.pinned (OpenSpec.ofChange fnMostCakesTurnedWrong)

/-- 'laws.FnFieldSizes': WHATEVER THE INPUT: true; the input reads as it did. -/
def fnFieldSizesSpec : ChangeSpec := { name := "fnFieldSizes", fn := fun _ => fun
  | [d] => { results := [.lit (.bool true)], args := [d] }
  | _ => none }
def fnFieldSizesRow : OpenClaim := { program := "ytiihenhddleooac", sum := "1d31c8bfe75626cf2aeaa54d325f28703f09f953c89e05da239d2a0246e1fbfd", func := "loop.example/iceharvest/laws.FnFieldSizes", spec := "fnFieldSizes", apart := false }
def FnFieldSizesSaid : Prop := fnFieldSizesRow.holds Try.pinned (OpenSpec.ofChange fnFieldSizesSpec)

/-- ITS FALSE NEIGHBOUR: 'it returns false'. Refute it at one input. -/
def fnFieldSizesWrong : ChangeSpec := { name := "fnFieldSizes", fn := fun _ => fun
  | [d] => { results := [.lit (.bool false)], args := [d] }
  | _ => none }
def FnFieldSizesWrongFalsely : Prop := fnFieldSizesRow.holds Try.pinned (OpenSpec.ofChange fnFieldSizesWrong)

/-- 'laws.FnNarrowsOf': WHATEVER THE INPUT: true; the input reads as it did. -/
def fnNarrowsOfSpec : ChangeSpec := { name := "fnNarrowsOf", fn := fun _ => fun
  | [d] => { results := [.lit (.bool true)], args := [d] }
  | _ => none }
def fnNarrowsOfRow : OpenClaim := { program := "ytiihenhddleooac", sum := "1d31c8bfe75626cf2aeaa54d325f28703f09f953c89e05da239d2a0246e1fbfd", func := "loop.example/iceharvest/laws.FnNarrowsOf", spec := "fnNarrowsOf", apart := false }
def FnNarrowsOfSaid : Prop := fnNarrowsOfRow.holds Try.pinned (OpenSpec.ofChange fnNarrowsOfSpec)

/-- ITS FALSE NEIGHBOUR: 'it returns false'. Refute it at one input. -/
def fnNarrowsOfWrong : ChangeSpec := { name := "fnNarrowsOf", fn := fun _ => fun
  | [d] => { results := [.lit (.bool false)], args := [d] }
  | _ => none }
def FnNarrowsOfWrongFalsely : Prop := fnNarrowsOfRow.holds Try.pinned (OpenSpec.ofChange fnNarrowsOfWrong)

/-- 'laws.FnNarrowsOfEnds': WHATEVER THE INPUT: true; the input reads as it did. -/
def fnNarrowsOfEndsSpec : ChangeSpec := { name := "fnNarrowsOfEnds", fn := fun _ => fun
  | [d] => { results := [.lit (.bool true)], args := [d] }
  | _ => none }
def fnNarrowsOfEndsRow : OpenClaim := { program := "ytiihenhddleooac", sum := "1d31c8bfe75626cf2aeaa54d325f28703f09f953c89e05da239d2a0246e1fbfd", func := "loop.example/iceharvest/laws.FnNarrowsOfEnds", spec := "fnNarrowsOfEnds", apart := false }
def FnNarrowsOfEndsSaid : Prop := fnNarrowsOfEndsRow.holds Try.pinned (OpenSpec.ofChange fnNarrowsOfEndsSpec)

/-- ITS FALSE NEIGHBOUR: 'it returns false'. Refute it at one input. -/
def fnNarrowsOfEndsWrong : ChangeSpec := { name := "fnNarrowsOfEnds", fn := fun _ => fun
  | [d] => { results := [.lit (.bool false)], args := [d] }
  | _ => none }
def FnNarrowsOfEndsWrongFalsely : Prop := fnNarrowsOfEndsRow.holds Try.pinned (OpenSpec.ofChange fnNarrowsOfEndsWrong)

/- THE SECOND FORM. 'bulk': how many values and letters a reading holds, each counted each time it is reached (what is shared counts as often as it is met; a slice's spare places count too). A statement '..UptoSaid' is the law's where the arguments, and the package variables that the reading takes, are together of bulk at most 1048576: NARROWER than '..Said'. Prove '..Said' where nothing that the law and all that it calls make is longer than what came in: it says more and counts as full. Else prove '..UptoSaid'. A law counts once. -/
mutual
def uptoBulk {H : Type} : DataW H → Nat
  | .lit (.string bytes) => bytes.length + 1
  | .lit _ => 1
  | .nil => 1
  | .ptr d => uptoBulk d + 1
  | .slice elems spare => uptoBulkAll elems + uptoBulkAll spare + 1
  | .agg parts => uptoBulkAll parts + 1
  | .iface _ d => uptoBulk d + 1
  | .map entries => uptoBulkEntries entries + 1
  | .held _ => 1
def uptoBulkAll {H : Type} : List (DataW H) → Nat
  | [] => 0
  | d :: r => uptoBulk d + uptoBulkAll r
def uptoBulkEntries {H : Type} : List (Lit × DataW H) → Nat
  | [] => 0
  | x :: r => uptoBulkEntry x + uptoBulkEntries r
def uptoBulkEntry {H : Type} : Lit × DataW H → Nat
  | (.string bytes, d) => bytes.length + uptoBulk d + 1
  | (_, d) => uptoBulk d + 1
 end
def uptoSmall : (H : Type) → List (DataW H) → Bool := fun _ ds => decide (uptoBulkAll ds ≤ 1048576)
def OpenSpec.upto (s : _root_.Go.ChangeSpec) : _root_.Go.OpenSpec := { _root_.Go.OpenSpec.ofChange s with cond := some uptoSmall }

/-- 'laws.FnMostCakesTurned', WHERE WHAT IT READS IS OF BULK AT MOST 1048576: true; the input reads as it did. -/
def fnMostCakesTurnedUptoRow : OpenClaim := { program := "ytiihenhddleooac", sum := "1d31c8bfe75626cf2aeaa54d325f28703f09f953c89e05da239d2a0246e1fbfd", func := "loop.example/iceharvest/laws.FnMostCakesTurned", spec := "fnMostCakesTurned", recurses := true, apart := false, narrowed := true }
def FnMostCakesTurnedUptoSaid : Prop := fnMostCakesTurnedUptoRow.holds Try.pinned (OpenSpec.upto fnMostCakesTurnedSpec)

/-- 'laws.FnFieldSizes', WHERE WHAT IT READS IS OF BULK AT MOST 1048576: true; the input reads as it did. -/
def fnFieldSizesUptoRow : OpenClaim := { program := "ytiihenhddleooac", sum := "1d31c8bfe75626cf2aeaa54d325f28703f09f953c89e05da239d2a0246e1fbfd", func := "loop.example/iceharvest/laws.FnFieldSizes", spec := "fnFieldSizes", apart := false, narrowed := true }
def FnFieldSizesUptoSaid : Prop := fnFieldSizesUptoRow.holds Try.pinned (OpenSpec.upto fnFieldSizesSpec)

/-- 'laws.FnNarrowsOf', WHERE WHAT IT READS IS OF BULK AT MOST 1048576: true; the input reads as it did. -/
def fnNarrowsOfUptoRow : OpenClaim := { program := "ytiihenhddleooac", sum := "1d31c8bfe75626cf2aeaa54d325f28703f09f953c89e05da239d2a0246e1fbfd", func := "loop.example/iceharvest/laws.FnNarrowsOf", spec := "fnNarrowsOf", apart := false, narrowed := true }
def FnNarrowsOfUptoSaid : Prop := fnNarrowsOfUptoRow.holds Try.pinned (OpenSpec.upto fnNarrowsOfSpec)

/-- 'laws.FnNarrowsOfEnds', WHERE WHAT IT READS IS OF BULK AT MOST 1048576: true; the input reads as it did. -/
def fnNarrowsOfEndsUptoRow : OpenClaim := { program := "ytiihenhddleooac", sum := "1d31c8bfe75626cf2aeaa54d325f28703f09f953c89e05da239d2a0246e1fbfd", func := "loop.example/iceharvest/laws.FnNarrowsOfEnds", spec := "fnNarrowsOfEnds", apart := false, narrowed := true }
def FnNarrowsOfEndsUptoSaid : Prop := fnNarrowsOfEndsUptoRow.holds Try.pinned (OpenSpec.upto fnNarrowsOfEndsSpec)

end Rows
end Go.Proofs.Ytiihenhddleooac
