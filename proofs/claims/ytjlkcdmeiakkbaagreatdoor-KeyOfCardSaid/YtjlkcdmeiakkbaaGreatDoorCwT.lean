/- Within Few a canonical text is short (layer 16). -/
import Derived.Test.YtjlkcdmeiakkbaaGreatDoorMm
import Derived.Test.YtjlkcdmeiakkbaaGreatDoorDt
import Derived.Test.YtjlkcdmeiakkbaaGreatDoorGr
set_option linter.unusedVariables false
set_option linter.unusedSimpArgs false
namespace Go.Proofs.YtjlkcdmeiakkbaaGreatDoor
open Go.RowKit


theorem few_weight {g : GramG} (hf : fewB g ≠ 0) (hv : ValidG g) : weightG g ≤ 65536 := by
  have hF : FewG g := by
    rcases boolOf_cases (FewG g) with ⟨h, -⟩ | ⟨-, he⟩
    · exact h
    · exact absurd (show fewB g = 0 by unfold fewB; rw [he]; rfl) hf
  obtain ⟨k1, k2, k3, k4, -, -⟩ := hF
  unfold weightG
  have h1 := sum_most 35 (g.names.map wN) (fun x hx => by
    obtain ⟨n, hn, rfl⟩ := List.mem_map.1 hx
    have := name_len (hv.names n hn)
    unfold wN
    omega)
  have h2 := sum_most 702 ((rulesX g).map wX) (fun x hx => by
    obtain ⟨p, hp, rfl⟩ := List.mem_map.1 hx
    obtain ⟨-, hi⟩ := ruleX_in hv hp
    have hlen : p.2.length ≤ 20 := by
      obtain ⟨r, hr, rfl⟩ := List.mem_map.1 hp
      show (r.right.map _).length ≤ 20
      rw [List.length_map]
      exact k4 r hr
    have := alt_most p.2 (fun i him => by
      have := hi i him
      unfold ItemIn at this
      split at this
      · exact term_len (hv.terms _ this)
      · exact name_len (hv.names _ this))
    unfold wX
    omega)
  rw [List.length_map] at h1 h2
  have h3 : (rulesX g).length = g.rules.length := by unfold rulesX; rw [List.length_map]
  omega
theorem textO_valid {g : GramG} (hv : ValidG g) : textO g = textD (linesG (canonG g)) := by
  unfold textO
  rw [if_pos (show validB g = true from boolOf_true hv)]
theorem canonO_valid {g : GramG} (hv : ValidG g) : canonO g = canonG g := by
  unfold canonO
  rw [if_pos (show validB g = true from boolOf_true hv)]
end Go.Proofs.YtjlkcdmeiakkbaaGreatDoor
