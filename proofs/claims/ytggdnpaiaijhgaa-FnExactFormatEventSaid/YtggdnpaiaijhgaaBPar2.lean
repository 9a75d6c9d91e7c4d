/- Chapter 8: parseEvent of the model, for every text. -/
import Derived.Test.YtggdnpaiaijhgaaBParS
namespace Go.Proofs.Ytggdnpaiaijhgaa
open Go.RowKit
set_option linter.unusedVariables false
set_option linter.unusedSimpArgs false
theorem par_other {l l0 : List UInt8} {ls : List (List UInt8)} (hws : splitL 32 l = l0 :: ls) (h0 : l0 ≠ coldL) (h1 : ¬ (l0 = cutL ∧ ls.length = 1)) (h2 : ¬ (l0 = sellL ∧ ls.length = 2)) (h3 : ¬ (l0 = meltL ∧ ls.length = 0)) : parB l = false := by
  refine par_not ?_ ?_
  · unfold evL
    rw [hws, evOf_cons, if_neg h0, if_neg h1, if_neg h2]
  · rw [hws]
    intro e
    injection e with e1 e2
    exact h3 ⟨e1, by rw [e2]; rfl⟩
theorem sPar_any (l : List UInt8) (hl : l.length ≤ 1048576) (s : ByteArray) (hs : s = ⟨l.toArray⟩) (w : World) :
    Calls Try.prog 80 #[.string s] w (PaPost (parE l) (parB l) w) := by
  cases hws : splitL 32 l with
  | nil => exact absurd hws (splitL_ne 32 l)
  | cons l0 ls =>
    cases hb : parB l with
    | true =>
      rw [parE_yes hb]
      by_cases h0 : l0 = coldL
      · exact sPar_coldT l s hs l0 ls hws hl _ rfl h0 hb w
      · by_cases h1 : l0 = cutL ∧ ls.length = 1
        · exact sPar_cutT l s hs l0 ls hws hl _ rfl h1.1 h1.2 hb w
        · by_cases h2 : l0 = sellL ∧ ls.length = 2
          · exact sPar_sellT l s hs l0 ls hws hl _ rfl h2.1 h2.2 hb w
          · by_cases h3 : l0 = meltL ∧ ls.length = 0
            · exact sPar_meltT l s hs l0 ls hws hl _ rfl h3.1 h3.2 hb w
            · rw [par_other hws h0 h1 h2 h3] at hb; cases hb
    | false =>
      rw [parE_no hb]
      by_cases h0 : l0 = coldL
      · exact sPar_coldF l s hs l0 ls hws hl _ rfl h0 hb w
      · by_cases h1 : l0 = cutL
        · by_cases h1n : ls.length = 1
          · exact sPar_cutF l s hs l0 ls hws hl _ rfl h1 h1n hb w
          · exact sPar_cutN l s hs l0 ls hws hl h1 h1n hb w
        · by_cases h2 : l0 = sellL
          · by_cases h2n : ls.length = 2
            · exact sPar_sellF l s hs l0 ls hws hl _ rfl h2 h2n hb w
            · exact sPar_sellN l s hs l0 ls hws hl h2 h2n hb w
          · by_cases h3 : l0 = meltL
            · by_cases h3n : ls.length = 0
              · exact sPar_meltF l s hs l0 ls hws hl _ rfl h3 h3n hb w
              · exact sPar_meltN l s hs l0 ls hws hl h3 h3n hb w
            · exact sPar_no l s hs l0 ls hws hl h0 h1 h2 h3 hb w

end Go.Proofs.Ytggdnpaiaijhgaa
