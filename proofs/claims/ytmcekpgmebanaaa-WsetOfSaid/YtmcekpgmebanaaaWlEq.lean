/- slices.Equal at strings, in plain words. (Split out of WlE.) -/
import Derived.Test.YtmcekpgmebanaaaBaW
import Derived.Test.YtmcekpgmebanaaaShelf
import Derived.Test.YtmcekpgmebanaaaBs
set_option linter.unusedVariables false
set_option linter.unusedSimpArgs false
namespace Go.Proofs.Ytmcekpgmebanaaa
open Go.RowKit Go.Maps Go.Sort

set_option maxRecDepth 100000 in
theorem pequal (l m : Words) (v u : Value) (w : World) (h : strsAt w v l) (k : strsAt w u m) : Calls Try.prog 29 #[v, u] w fun e w' => e = .returned (.bool (decide (l = m))) ∧ Fr [] w w' := by
  rcases strs_cases h with ⟨a, c, rfl, rfl⟩ | ⟨b, off, c, rfl, hl, hc⟩
  · obtain ⟨a1, c1, rfl, h1, h2⟩ := k.form
    have := Try.slices_Equal_string_empty a a1 c m.length c1 w (by omega)
    refine this.mono ?_
    rintro e w' ⟨rfl, rfl⟩
    refine ⟨?_, Fr.refl _ _⟩
    congr 3
    rw [eq_iff_iff]
    exact ⟨fun h => (List.length_eq_zero_iff.1 h).symm, fun h => by rw [← h]; rfl⟩
  · rcases strs_cases k with ⟨a1, c1, rfl, rfl⟩ | ⟨b1, off1, c1, rfl, hl1, hc1⟩
    · by_cases h0 : l.length = 0
      · have hl0 := List.length_eq_zero_iff.1 h0
        subst hl0
        have := Try.slices_Equal_string_empty (some ⟨b, off, none⟩) a1 c 0 c1 w (by omega)
        refine this.mono ?_
        rintro e w' ⟨rfl, rfl⟩
        exact ⟨rfl, Fr.refl _ _⟩
      · have := Try.slices_Equal_string_lens (some ⟨b, off, none⟩) a1 l.length c 0 c1 w h0
        refine this.mono ?_
        rintro e w' ⟨rfl, rfl⟩
        refine ⟨?_, Fr.refl _ _⟩
        rw [decide_eq_false (fun e : l = [] => h0 (by rw [e]; rfl))]
    · have := Try.slices_Equal_string b off l.length c b1 off1 m.length c1 (l.map baW) (m.map baW) w (by simp) (by simp) hl hl1 hc hc1
      refine this.mono ?_
      rintro e w' ⟨rfl, q, rfl⟩
      refine ⟨?_, ⟨rfl, rfl, rfl, Nat.le_refl _, fun _ _ _ => rfl⟩⟩
      rw [List.take_of_length_le (by simp), List.take_of_length_le (by simp)]
      congr 3
      rw [eq_iff_iff]
      exact baW_map
end Go.Proofs.Ytmcekpgmebanaaa
