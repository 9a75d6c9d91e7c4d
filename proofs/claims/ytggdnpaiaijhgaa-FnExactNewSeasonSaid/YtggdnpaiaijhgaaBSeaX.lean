/- Chapter 8: ValidSeason as the exact laws name it. -/
import Derived.Test.YtggdnpaiaijhgaaBSeaL
import Derived.Test.YtggdnpaiaijhgaaBValS
namespace Go.Proofs.Ytggdnpaiaijhgaa
open Go.RowKit
set_option linter.unusedVariables false
set_option linter.unusedSimpArgs false
theorem iVs_u (s : Sea) (A : Option Addr) (c : Nat) (w : World) (hg : RdG w w.heap.size A s.pp) :
    Calls Try.prog 16 #[seaV s A c] w fun e w' => e = .returned (.bool (seaB s)) ∧ Below w.heap.size w w' := iVs_any s A c w hg
set_option maxRecDepth 100000 in
set_option maxHeartbeats 400000 in
theorem sVs_u (s : Sea) (A : Option Addr) (c : Nat) (w : World) (hg : RdG w w.heap.size A s.pp) (hn : s.pp.length ≤ 1048576) :
    Calls Try.prog 14 #[seaV s A c] w fun e w' => e = .returned (.bool (seaB s)) ∧ Below w.heap.size w w' := by
  have cS := fun o => sVs_any s A c (w.alloc o) ((hg.below (below1 o)).more (below1 o).size) hn
  unfold VsPost at cS
  obtain ⟨pp, W, D, st, so, lo, cu, mo⟩ := s
  unfold seaV at *
  simp only at cS ⊢
  generalize seaB _ = q at *
  generalize pp.length = m at *
  have HCS := Lib.hid cS
  clear cS hg hn
  go_enter Try.func14, Try.ntmps14
  go_wp2_with fail
  refine (HCS.out _).mono ?_
  rintro e w1 ⟨rfl, b1⟩
  have HB := Lib.hid ((below1 _).trans (b1.mono (below1 _).size))
  clear b1
  go_wp2
  go_ret
  exact ⟨rfl, HB.out⟩

end Go.Proofs.Ytggdnpaiaijhgaa
