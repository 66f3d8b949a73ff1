/- Slices of strings as the library has them; Equal. (Split out of WlE.) -/
import Derived.Test.YtmcekpgmebanaaaMm
import Derived.Test.YtmcekpgmebanaaaDt
set_option linter.unusedVariables false
set_option linter.unusedSimpArgs false
namespace Go.Proofs.Ytmcekpgmebanaaa
open Go.RowKit Go.Maps Go.Sort


def baW (x : List UInt8) : ByteArray := ⟨x.toArray⟩
theorem baW_inj {x y : List UInt8} (h : baW x = baW y) : x = y := by
  unfold baW at h
  injection h with h
  simpa using congrArg Array.toList h
theorem baW_mem {x : List UInt8} {l : Words} : baW x ∈ l.map baW ↔ x ∈ l := by
  rw [List.mem_map]
  exact ⟨fun ⟨y, h, e⟩ => baW_inj e ▸ h, fun h => ⟨x, h, rfl⟩⟩
theorem baW_map {l m : Words} : l.map baW = m.map baW ↔ l = m := ⟨fun h => List.map_inj_right (fun _ _ => baW_inj) |>.1 h, fun h => by rw [h]⟩
/-- A slice of texts: empty, or its cells. -/
theorem strs_cases {w : World} {v : Value} {l : Words} (h : strsAt w v l) : (∃ a c, v = .slice a 0 c ∧ l = []) ∨ (∃ b off c, v = .slice (some ⟨b, off, none⟩) l.length c ∧ l.length ≤ 9223372036854775807 ∧ ∀ j, j < (l.map baW).length → w.cell? ⟨b, off + j, none⟩ = some (.string ((l.map baW).getD j ByteArray.empty))) := by
  rcases h with ⟨a, c, rfl, h1, h2⟩ | ⟨b, off, c, rfl, h1, h2, h3⟩
  · exact .inl ⟨a, c, rfl, by simpa using h2⟩
  · refine .inr ⟨b, off, c, by simp, ?_, fun j hj => ?_⟩
    · rw [List.length_map] at h1
      simp only [maxLen] at h2
      omega
    · have hj' : j < l.length := by simpa using hj
      rw [h3 j (by simpa using hj'), List.getElem_map, List.getD_eq_getElem?_getD, List.getElem?_eq_getElem hj, List.getElem_map]
      rfl
end Go.Proofs.Ytmcekpgmebanaaa
