/-
  No cell of these rows narrows 'for every input' (looked for: loops, veiled, ifaces, maps, wideKeys, modest, calm, conditions, laid).
  DERIVED. THE GIVEN ROWS OF THIS SEAT. 10 by the template 'for every input the law returns true; each argument reads behind the call as it read before'; 0 by the template 'total and deterministic' (their statements: YtggdnpaiaijhgaaTotals.lean).
  GIVEN WITH THE SEED: the statements are not yours to turn. If you find one false, say at which input.
  Laid BY PROGRAM, IN A SANDBOX (cutbox-rows.mjs): the forced cells as the released guide's own fill.sh prints them over the translation 398c3d72e48ec1af… (all of the seat's roots in one cut). By AI agents, Wed Nov 11 2026. No macro, syntax, notation, axiom, sorry.
-/
import Derived.Test.YtggdnpaiaijhgaaChecked
import GoSem.Claim
import GoSem.ClaimJoined
import GoSem.ClaimMapViews
import Derived.JoinedTies
import Derived.KernelRfl
namespace Go.Proofs.Ytggdnpaiaijhgaa
/- THE CELL 'sum', in the pinned program and in every row, IS THE sha256 OF THE DUMP (.gsa) THAT YtggdnpaiaijhgaaProg.lean LOADS. Nothing in Lean hashes anything: it is a label: what it is worth is what the hold of that sum in a sandbox is worth. -/
noncomputable def Try.pinned : Pinned := { name := "ytggdnpaiaijhgaa", sum := "398c3d72e48ec1afd16b26f9603204c89be8ad27ded4371b996dc019cadd8d1c", checked := Try.checked }
namespace Rows
def none {H : Type} : Left H := { results := [], args := [] }

/-- 'laws.FnExactValidSeason': WHATEVER THE INPUT: true; the input reads as it did. -/
def fnExactValidSeasonSpec : ChangeSpec := { name := "fnExactValidSeason", fn := fun _ => fun
  | [d] => { results := [.lit (.bool true)], args := [d] }
  | _ => none }
def fnExactValidSeasonRow : OpenClaim := { program := "ytggdnpaiaijhgaa", sum := "398c3d72e48ec1afd16b26f9603204c89be8ad27ded4371b996dc019cadd8d1c", func := "loop.example/iceharvest/laws.FnExactValidSeason", spec := "fnExactValidSeason", apart := false }
def FnExactValidSeasonSaid : Prop := fnExactValidSeasonRow.holds Try.pinned (OpenSpec.ofChange fnExactValidSeasonSpec)

/-- ITS FALSE NEIGHBOUR: 'it returns false'. Refute it at one input. -/
def fnExactValidSeasonWrong : ChangeSpec := { name := "fnExactValidSeason", fn := fun _ => fun
  | [d] => { results := [.lit (.bool false)], args := [d] }
  | _ => none }
def FnExactValidSeasonWrongFalsely : Prop := fnExactValidSeasonRow.holds Try.pinned (OpenSpec.ofChange fnExactValidSeasonWrong)

/-- 'laws.FnExactNewSeason': WHATEVER THE INPUT: true; the input reads as it did. -/
def fnExactNewSeasonSpec : ChangeSpec := { name := "fnExactNewSeason", fn := fun _ => fun
  | [d1, d2, d3] => { results := [.lit (.bool true)], args := [d1, d2, d3] }
  | _ => none }
def fnExactNewSeasonRow : OpenClaim := { program := "ytggdnpaiaijhgaa", sum := "398c3d72e48ec1afd16b26f9603204c89be8ad27ded4371b996dc019cadd8d1c", func := "loop.example/iceharvest/laws.FnExactNewSeason", spec := "fnExactNewSeason", apart := false }
def FnExactNewSeasonSaid : Prop := fnExactNewSeasonRow.holds Try.pinned (OpenSpec.ofChange fnExactNewSeasonSpec)

/-- ITS FALSE NEIGHBOUR: 'it returns false'. Refute it at one input. -/
def fnExactNewSeasonWrong : ChangeSpec := { name := "fnExactNewSeason", fn := fun _ => fun
  | [d1, d2, d3] => { results := [.lit (.bool false)], args := [d1, d2, d3] }
  | _ => none }
def FnExactNewSeasonWrongFalsely : Prop := fnExactNewSeasonRow.holds Try.pinned (OpenSpec.ofChange fnExactNewSeasonWrong)

/-- 'laws.FnExactApplyEvent': WHATEVER THE INPUT: true; the input reads as it did. -/
def fnExactApplyEventSpec : ChangeSpec := { name := "fnExactApplyEvent", fn := fun _ => fun
  | [d1, d2] => { results := [.lit (.bool true)], args := [d1, d2] }
  | _ => none }
def fnExactApplyEventRow : OpenClaim := { program := "ytggdnpaiaijhgaa", sum := "398c3d72e48ec1afd16b26f9603204c89be8ad27ded4371b996dc019cadd8d1c", func := "loop.example/iceharvest/laws.FnExactApplyEvent", spec := "fnExactApplyEvent", apart := false }
def FnExactApplyEventSaid : Prop := fnExactApplyEventRow.holds Try.pinned (OpenSpec.ofChange fnExactApplyEventSpec)

/-- ITS FALSE NEIGHBOUR: 'it returns false'. Refute it at one input. -/
def fnExactApplyEventWrong : ChangeSpec := { name := "fnExactApplyEvent", fn := fun _ => fun
  | [d1, d2] => { results := [.lit (.bool false)], args := [d1, d2] }
  | _ => none }
def FnExactApplyEventWrongFalsely : Prop := fnExactApplyEventRow.holds Try.pinned (OpenSpec.ofChange fnExactApplyEventWrong)

/-- 'laws.FnExactRunBook': WHATEVER THE INPUT: true; the input reads as it did. -/
def fnExactRunBookSpec : ChangeSpec := { name := "fnExactRunBook", fn := fun _ => fun
  | [d1, d2] => { results := [.lit (.bool true)], args := [d1, d2] }
  | _ => none }
def fnExactRunBookRow : OpenClaim := { program := "ytggdnpaiaijhgaa", sum := "398c3d72e48ec1afd16b26f9603204c89be8ad27ded4371b996dc019cadd8d1c", func := "loop.example/iceharvest/laws.FnExactRunBook", spec := "fnExactRunBook", apart := false }
def FnExactRunBookSaid : Prop := fnExactRunBookRow.holds Try.pinned (OpenSpec.ofChange fnExactRunBookSpec)

/-- ITS FALSE NEIGHBOUR: 'it returns false'. Refute it at one input. -/
def fnExactRunBookWrong : ChangeSpec := { name := "fnExactRunBook", fn := fun _ => fun
  | [d1, d2] => { results := [.lit (.bool false)], args := [d1, d2] }
  | _ => none }
def FnExactRunBookWrongFalsely : Prop := fnExactRunBookRow.holds Try.pinned (OpenSpec.ofChange fnExactRunBookWrong)

/-- 'laws.FnExactNextCell': WHATEVER THE INPUT: true; the input reads as it did. -/
def fnExactNextCellSpec : ChangeSpec := { name := "fnExactNextCell", fn := fun _ => fun
  | [d] => { results := [.lit (.bool true)], args := [d] }
  | _ => none }
def fnExactNextCellRow : OpenClaim := { program := "ytggdnpaiaijhgaa", sum := "398c3d72e48ec1afd16b26f9603204c89be8ad27ded4371b996dc019cadd8d1c", func := "loop.example/iceharvest/laws.FnExactNextCell", spec := "fnExactNextCell", apart := false }
def FnExactNextCellSaid : Prop := fnExactNextCellRow.holds Try.pinned (OpenSpec.ofChange fnExactNextCellSpec)

/-- ITS FALSE NEIGHBOUR: 'it returns false'. Refute it at one input. -/
def fnExactNextCellWrong : ChangeSpec := { name := "fnExactNextCell", fn := fun _ => fun
  | [d] => { results := [.lit (.bool false)], args := [d] }
  | _ => none }
def FnExactNextCellWrongFalsely : Prop := fnExactNextCellRow.holds Try.pinned (OpenSpec.ofChange fnExactNextCellWrong)

/-- 'laws.FnExactCutAll': WHATEVER THE INPUT: true; the input reads as it did. -/
def fnExactCutAllSpec : ChangeSpec := { name := "fnExactCutAll", fn := fun _ => fun
  | [d] => { results := [.lit (.bool true)], args := [d] }
  | _ => none }
def fnExactCutAllRow : OpenClaim := { program := "ytggdnpaiaijhgaa", sum := "398c3d72e48ec1afd16b26f9603204c89be8ad27ded4371b996dc019cadd8d1c", func := "loop.example/iceharvest/laws.FnExactCutAll", spec := "fnExactCutAll", apart := false }
def FnExactCutAllSaid : Prop := fnExactCutAllRow.holds Try.pinned (OpenSpec.ofChange fnExactCutAllSpec)

/-- ITS FALSE NEIGHBOUR: 'it returns false'. Refute it at one input. -/
def fnExactCutAllWrong : ChangeSpec := { name := "fnExactCutAll", fn := fun _ => fun
  | [d] => { results := [.lit (.bool false)], args := [d] }
  | _ => none }
def FnExactCutAllWrongFalsely : Prop := fnExactCutAllRow.holds Try.pinned (OpenSpec.ofChange fnExactCutAllWrong)

/-- 'laws.FnExactFormatEvent': WHATEVER THE INPUT: true; the input reads as it did. -/
def fnExactFormatEventSpec : ChangeSpec := { name := "fnExactFormatEvent", fn := fun _ => fun
  | [d] => { results := [.lit (.bool true)], args := [d] }
  | _ => none }
def fnExactFormatEventRow : OpenClaim := { program := "ytggdnpaiaijhgaa", sum := "398c3d72e48ec1afd16b26f9603204c89be8ad27ded4371b996dc019cadd8d1c", func := "loop.example/iceharvest/laws.FnExactFormatEvent", spec := "fnExactFormatEvent", recurses := true, apart := false }
def FnExactFormatEventSaid : Prop := fnExactFormatEventRow.holds Try.pinned (OpenSpec.ofChange fnExactFormatEventSpec)

/-- ITS FALSE NEIGHBOUR: 'it returns false'. Refute it at one input. -/
def fnExactFormatEventWrong : ChangeSpec := { name := "fnExactFormatEvent", fn := fun _ => fun
  | [d] => { results := [.lit (.bool false)], args := [d] }
  | _ => none }
def FnExactFormatEventWrongFalsely : Prop := fnExactFormatEventRow.holds Try.pinned (OpenSpec.ofChange fnExactFormatEventWrong)

/-- 'laws.FnExactParseEvent': WHATEVER THE INPUT: true; the input reads as it did. -/
def fnExactParseEventSpec : ChangeSpec := { name := "fnExactParseEvent", fn := fun _ => fun
  | [d] => { results := [.lit (.bool true)], args := [d] }
  | _ => none }
def fnExactParseEventRow : OpenClaim := { program := "ytggdnpaiaijhgaa", sum := "398c3d72e48ec1afd16b26f9603204c89be8ad27ded4371b996dc019cadd8d1c", func := "loop.example/iceharvest/laws.FnExactParseEvent", spec := "fnExactParseEvent", recurses := true, apart := false }
def FnExactParseEventSaid : Prop := fnExactParseEventRow.holds Try.pinned (OpenSpec.ofChange fnExactParseEventSpec)

/-- ITS FALSE NEIGHBOUR: 'it returns false'. Refute it at one input. -/
def fnExactParseEventWrong : ChangeSpec := { name := "fnExactParseEvent", fn := fun _ => fun
  | [d] => { results := [.lit (.bool false)], args := [d] }
  | _ => none }
def FnExactParseEventWrongFalsely : Prop := fnExactParseEventRow.holds Try.pinned (OpenSpec.ofChange fnExactParseEventWrong)

/-- 'laws.FnExactFormatBook': WHATEVER THE INPUT: true; the input reads as it did. -/
def fnExactFormatBookSpec : ChangeSpec := { name := "fnExactFormatBook", fn := fun _ => fun
  | [d] => { results := [.lit (.bool true)], args := [d] }
  | _ => none }
def fnExactFormatBookRow : OpenClaim := { program := "ytggdnpaiaijhgaa", sum := "398c3d72e48ec1afd16b26f9603204c89be8ad27ded4371b996dc019cadd8d1c", func := "loop.example/iceharvest/laws.FnExactFormatBook", spec := "fnExactFormatBook", recurses := true, apart := false }
def FnExactFormatBookSaid : Prop := fnExactFormatBookRow.holds Try.pinned (OpenSpec.ofChange fnExactFormatBookSpec)

/-- ITS FALSE NEIGHBOUR: 'it returns false'. Refute it at one input. -/
def fnExactFormatBookWrong : ChangeSpec := { name := "fnExactFormatBook", fn := fun _ => fun
  | [d] => { results := [.lit (.bool false)], args := [d] }
  | _ => none }
def FnExactFormatBookWrongFalsely : Prop := fnExactFormatBookRow.holds Try.pinned (OpenSpec.ofChange fnExactFormatBookWrong)

/-- 'laws.FnExactRecoverBook': WHATEVER THE INPUT: true; the input reads as it did. -/
def fnExactRecoverBookSpec : ChangeSpec := { name := "fnExactRecoverBook", fn := fun _ => fun
  | [d] => { results := [.lit (.bool true)], args := [d] }
  | _ => none }
def fnExactRecoverBookRow : OpenClaim := { program := "ytggdnpaiaijhgaa", sum := "398c3d72e48ec1afd16b26f9603204c89be8ad27ded4371b996dc019cadd8d1c", func := "loop.example/iceharvest/laws.FnExactRecoverBook", spec := "fnExactRecoverBook", recurses := true, apart := false }
def FnExactRecoverBookSaid : Prop := fnExactRecoverBookRow.holds Try.pinned (OpenSpec.ofChange fnExactRecoverBookSpec)

/-- ITS FALSE NEIGHBOUR: 'it returns false'. Refute it at one input. -/
def fnExactRecoverBookWrong : ChangeSpec := { name := "fnExactRecoverBook", fn := fun _ => fun
  | [d] => { results := [.lit (.bool false)], args := [d] }
  | _ => none }
def FnExactRecoverBookWrongFalsely : Prop := fnExactRecoverBookRow.holds Try.pinned (OpenSpec.ofChange fnExactRecoverBookWrong)

/- THE SECOND FORM. 'bulk': how many values and letters a reading holds, each counted each time it is reached (what is shared counts as often as it is met; a slice's spare places count too). A statement '..UptoSaid' is the law's where the arguments, and the package variables that the reading takes, are together of bulk at most 1048576: NARROWER than '..Said'. Prove '..Said' where nothing that the law and all that it calls make is longer than what came in: it says more and counts as full. Else prove '..UptoSaid'. A law counts once. -/
mutual
def uptoBulk {H : Type} : DataW H → Nat
  | .lit (.string bytes) => bytes.length + 1
  | .lit _ => 1
  | .nil => 1
  | .ptr d => uptoBulk d + 1
  | .slice elems spare => uptoBulkAll elems + uptoBulkAll spare + 1
  | .agg parts => uptoBulkAll parts + 1
  | .iface _ d => uptoBulk d + 1
  | .map entries => uptoBulkEntries entries + 1
  | .held _ => 1
def uptoBulkAll {H : Type} : List (DataW H) → Nat
  | [] => 0
  | d :: r => uptoBulk d + uptoBulkAll r
def uptoBulkEntries {H : Type} : List (Lit × DataW H) → Nat
  | [] => 0
  | x :: r => uptoBulkEntry x + uptoBulkEntries r
def uptoBulkEntry {H : Type} : Lit × DataW H → Nat
  | (.string bytes, d) => bytes.length + uptoBulk d + 1
  | (_, d) => uptoBulk d + 1
 end
def uptoSmall : (H : Type) → List (DataW H) → Bool := fun _ ds => decide (uptoBulkAll ds ≤ 1048576)
def OpenSpec.upto (s : _root_.Go.ChangeSpec) : _root_.Go.OpenSpec := { _root_.Go.OpenSpec.ofChange s with cond := some uptoSmall }

/-- 'laws.FnExactValidSeason', WHERE WHAT IT READS IS OF BULK AT MOST 1048576: true; the input reads as it did. -/
def fnExactValidSeasonUptoRow : OpenClaim := { program := "ytggdnpaiaijhgaa", sum := "398c3d72e48ec1afd16b26f9603204c89be8ad27ded4371b996dc019cadd8d1c", func := "loop.example/iceharvest/laws.FnExactValidSeason", spec := "fnExactValidSeason", apart := false, narrowed := true }
def FnExactValidSeasonUptoSaid : Prop := fnExactValidSeasonUptoRow.holds Try.pinned (OpenSpec.upto fnExactValidSeasonSpec)

/-- 'laws.FnExactNewSeason', WHERE WHAT IT READS IS OF BULK AT MOST 1048576: true; the input reads as it did. -/
def fnExactNewSeasonUptoRow : OpenClaim := { program := "ytggdnpaiaijhgaa", sum := "398c3d72e48ec1afd16b26f9603204c89be8ad27ded4371b996dc019cadd8d1c", func := "loop.example/iceharvest/laws.FnExactNewSeason", spec := "fnExactNewSeason", apart := false, narrowed := true }
def FnExactNewSeasonUptoSaid : Prop := fnExactNewSeasonUptoRow.holds Try.pinned (OpenSpec.upto fnExactNewSeasonSpec)

/-- 'laws.FnExactApplyEvent', WHERE WHAT IT READS IS OF BULK AT MOST 1048576: true; the input reads as it did. -/
def fnExactApplyEventUptoRow : OpenClaim := { program := "ytggdnpaiaijhgaa", sum := "398c3d72e48ec1afd16b26f9603204c89be8ad27ded4371b996dc019cadd8d1c", func := "loop.example/iceharvest/laws.FnExactApplyEvent", spec := "fnExactApplyEvent", apart := false, narrowed := true }
def FnExactApplyEventUptoSaid : Prop := fnExactApplyEventUptoRow.holds Try.pinned (OpenSpec.upto fnExactApplyEventSpec)

/-- 'laws.FnExactRunBook', WHERE WHAT IT READS IS OF BULK AT MOST 1048576: true; the input reads as it did. -/
def fnExactRunBookUptoRow : OpenClaim := { program := "ytggdnpaiaijhgaa", sum := "398c3d72e48ec1afd16b26f9603204c89be8ad27ded4371b996dc019cadd8d1c", func := "loop.example/iceharvest/laws.FnExactRunBook", spec := "fnExactRunBook", apart := false, narrowed := true }
def FnExactRunBookUptoSaid : Prop := fnExactRunBookUptoRow.holds Try.pinned (OpenSpec.upto fnExactRunBookSpec)

/-- 'laws.FnExactNextCell', WHERE WHAT IT READS IS OF BULK AT MOST 1048576: true; the input reads as it did. -/
def fnExactNextCellUptoRow : OpenClaim := { program := "ytggdnpaiaijhgaa", sum := "398c3d72e48ec1afd16b26f9603204c89be8ad27ded4371b996dc019cadd8d1c", func := "loop.example/iceharvest/laws.FnExactNextCell", spec := "fnExactNextCell", apart := false, narrowed := true }
def FnExactNextCellUptoSaid : Prop := fnExactNextCellUptoRow.holds Try.pinned (OpenSpec.upto fnExactNextCellSpec)

/-- 'laws.FnExactCutAll', WHERE WHAT IT READS IS OF BULK AT MOST 1048576: true; the input reads as it did. -/
def fnExactCutAllUptoRow : OpenClaim := { program := "ytggdnpaiaijhgaa", sum := "398c3d72e48ec1afd16b26f9603204c89be8ad27ded4371b996dc019cadd8d1c", func := "loop.example/iceharvest/laws.FnExactCutAll", spec := "fnExactCutAll", apart := false, narrowed := true }
def FnExactCutAllUptoSaid : Prop := fnExactCutAllUptoRow.holds Try.pinned (OpenSpec.upto fnExactCutAllSpec)

/-- 'laws.FnExactFormatEvent', WHERE WHAT IT READS IS OF BULK AT MOST 1048576: true; the input reads as it did. -/
def fnExactFormatEventUptoRow : OpenClaim := { program := "ytggdnpaiaijhgaa", sum := "398c3d72e48ec1afd16b26f9603204c89be8ad27ded4371b996dc019cadd8d1c", func := "loop.example/iceharvest/laws.FnExactFormatEvent", spec := "fnExactFormatEvent", recurses := true, apart := false, narrowed := true }
def FnExactFormatEventUptoSaid : Prop := fnExactFormatEventUptoRow.holds Try.pinned (OpenSpec.upto fnExactFormatEventSpec)

/-- 'laws.FnExactParseEvent', WHERE WHAT IT READS IS OF BULK AT MOST 1048576: true; the input reads as it did. -/
def fnExactParseEventUptoRow : OpenClaim := { program := "ytggdnpaiaijhgaa", sum := "398c3d72e48ec1afd16b26f9603204c89be8ad27ded4371b996dc019cadd8d1c", func := "loop.example/iceharvest/laws.FnExactParseEvent", spec := "fnExactParseEvent", recurses := true, apart := false, narrowed := true }
def FnExactParseEventUptoSaid : Prop := fnExactParseEventUptoRow.holds Try.pinned (OpenSpec.upto fnExactParseEventSpec)

/-- 'laws.FnExactFormatBook', WHERE WHAT IT READS IS OF BULK AT MOST 1048576: true; the input reads as it did. -/
def fnExactFormatBookUptoRow : OpenClaim := { program := "ytggdnpaiaijhgaa", sum := "398c3d72e48ec1afd16b26f9603204c89be8ad27ded4371b996dc019cadd8d1c", func := "loop.example/iceharvest/laws.FnExactFormatBook", spec := "fnExactFormatBook", recurses := true, apart := false, narrowed := true }
def FnExactFormatBookUptoSaid : Prop := fnExactFormatBookUptoRow.holds Try.pinned (OpenSpec.upto fnExactFormatBookSpec)

/-- 'laws.FnExactRecoverBook', WHERE WHAT IT READS IS OF BULK AT MOST 1048576: true; the input reads as it did. -/
def fnExactRecoverBookUptoRow : OpenClaim := { program := "ytggdnpaiaijhgaa", sum := "398c3d72e48ec1afd16b26f9603204c89be8ad27ded4371b996dc019cadd8d1c", func := "loop.example/iceharvest/laws.FnExactRecoverBook", spec := "fnExactRecoverBook", recurses := true, apart := false, narrowed := true }
def FnExactRecoverBookUptoSaid : Prop := fnExactRecoverBookUptoRow.holds Try.pinned (OpenSpec.upto fnExactRecoverBookSpec)

end Rows
end Go.Proofs.Ytggdnpaiaijhgaa
