/- Contract of the model's risks. -/
import Derived.Deep.RegionWith
import Derived.Test.YtiihenhddleooacRisks
namespace Go.Proofs.Ytiihenhddleooac
open Go.RowKit
set_option linter.unusedVariables false
set_option linter.unusedSimpArgs false
def ScRel (w wi : World) (n g1 c1 g2 c2 : Nat) (rs : List Int) (dn : List Bool) (v i : Value) : Prop :=
  ∃ (k : Nat) (l : Int), k ≤ n ∧ i = .int .i64 k ∧ v = .int .i64 l ∧ Least rs dn k l ∧ Two w wi n g1 c1 g2 c2 rs dn
def RsRel (w : World) (n g1 c1 g2 c2 : Nat) (nb : Nat → List Nat) (ok : Nat → Bool) (rk : Nat → Int) (a : Nat) (m : Nat) (wr : World) : Prop :=
  ∃ (rs : List Int) (dn : List Bool), opens dn = m ∧ Dij n nb ok rk a ((n : Int) - m) rs dn ∧ Two w wr n g1 c1 g2 c2 rs dn
end Go.Proofs.Ytiihenhddleooac
