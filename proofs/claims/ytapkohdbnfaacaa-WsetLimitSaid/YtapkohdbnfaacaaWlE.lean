/- The program's sets of words (layer 19): Has, Same, Is. -/
import Derived.Test.YtapkohdbnfaacaaWlD
set_option linter.unusedVariables false
set_option linter.unusedSimpArgs false
namespace Go.Proofs.Ytapkohdbnfaacaa
open Go.RowKit Go.Maps Go.Sort

def baW (x : List UInt8) : ByteArray := ⟨x.toArray⟩
theorem baW_inj {x y : List UInt8} (h : baW x = baW y) : x = y := by
  unfold baW at h
  injection h with h
  simpa using congrArg Array.toList h
theorem baW_mem {x : List UInt8} {l : Words} : baW x ∈ l.map baW ↔ x ∈ l := by
  rw [List.mem_map]
  exact ⟨fun ⟨y, h, e⟩ => baW_inj e ▸ h, fun h => ⟨x, h, rfl⟩⟩
theorem baW_map {l m : Words} : l.map baW = m.map baW ↔ l = m := ⟨fun h => List.map_inj_right (fun _ _ => baW_inj) |>.1 h, fun h => by rw [h]⟩
/-- A slice of texts: empty, or its cells. -/
theorem strs_cases {w : World} {v : Value} {l : Words} (h : strsAt w v l) : (∃ a c, v = .slice a 0 c ∧ l = []) ∨ (∃ b off c, v = .slice (some ⟨b, off, none⟩) l.length c ∧ l.length ≤ 9223372036854775807 ∧ ∀ j, j < (l.map baW).length → w.cell? ⟨b, off + j, none⟩ = some (.string ((l.map baW).getD j ByteArray.empty))) := by
  rcases h with ⟨a, c, rfl, h1, h2⟩ | ⟨b, off, c, rfl, h1, h2, h3⟩
  · exact .inl ⟨a, c, rfl, by simpa using h2⟩
  · refine .inr ⟨b, off, c, by simp, ?_, fun j hj => ?_⟩
    · rw [List.length_map] at h1
      simp only [maxLen] at h2
      omega
    · have hj' : j < l.length := by simpa using hj
      rw [h3 j (by simpa using hj'), List.getElem_map, List.getD_eq_getElem?_getD, List.getElem?_eq_getElem hj, List.getElem_map]
      rfl
set_option maxRecDepth 100000 in
theorem pcontains (l : Words) (x : List UInt8) (v : Value) (w : World) (h : strsAt w v l) : Calls Try.prog 25 #[v, encStr x] w fun e w' => e = .returned (.bool (decide (x ∈ l))) ∧ w' = w := by
  rcases strs_cases h with ⟨a, c, rfl, rfl⟩ | ⟨b, off, c, rfl, hl, hc⟩
  · exact Try.slices_Contains_string_empty a c (baW x) w
  · have := Try.slices_Contains_string b off l.length c (l.map baW) (baW x) w (by simp) hl hc
    rw [List.take_of_length_le (by simp)] at this
    have e : Lib.containsS (l.map baW) (baW x) = decide (x ∈ l) := by
      rw [Bool.eq_iff_iff, Lib.containsS_iff, baW_mem, decide_eq_true_eq]
    rw [e] at this
    exact this
set_option maxRecDepth 100000 in
theorem prog_whas : ProgWHas := by
  intro l x v w h
  have HC := Lib.hid (pcontains l x v w h)
  obtain ⟨a0, c0, rfl, -, -⟩ := h.form
  obtain ⟨r, hr⟩ : ∃ r, r = decide (x ∈ l) := ⟨_, rfl⟩
  rw [← hr] at HC ⊢
  clear h hr
  go_enter Try.func14, Try.ntmps14
  go_wp2_with (go_at_call 25; refine HC.out.mono ?_; rintro e w1 ⟨rfl, rfl⟩)
  go_ret
  exact ⟨rfl, Fr.refl _ _⟩
set_option maxRecDepth 100000 in
theorem pequal (l m : Words) (v u : Value) (w : World) (h : strsAt w v l) (k : strsAt w u m) : Calls Try.prog 26 #[v, u] w fun e w' => e = .returned (.bool (decide (l = m))) ∧ Fr [] w w' := by
  rcases strs_cases h with ⟨a, c, rfl, rfl⟩ | ⟨b, off, c, rfl, hl, hc⟩
  · obtain ⟨a1, c1, rfl, h1, h2⟩ := k.form
    have := Try.slices_Equal_string_empty a a1 c m.length c1 w (by omega)
    refine this.mono ?_
    rintro e w' ⟨rfl, rfl⟩
    refine ⟨?_, Fr.refl _ _⟩
    congr 3
    rw [eq_iff_iff]
    exact ⟨fun h => (List.length_eq_zero_iff.1 h).symm, fun h => by rw [← h]; rfl⟩
  · rcases strs_cases k with ⟨a1, c1, rfl, rfl⟩ | ⟨b1, off1, c1, rfl, hl1, hc1⟩
    · by_cases h0 : l.length = 0
      · have hl0 := List.length_eq_zero_iff.1 h0
        subst hl0
        have := Try.slices_Equal_string_empty (some ⟨b, off, none⟩) a1 c 0 c1 w (by omega)
        refine this.mono ?_
        rintro e w' ⟨rfl, rfl⟩
        exact ⟨rfl, Fr.refl _ _⟩
      · have := Try.slices_Equal_string_lens (some ⟨b, off, none⟩) a1 l.length c 0 c1 w h0
        refine this.mono ?_
        rintro e w' ⟨rfl, rfl⟩
        refine ⟨?_, Fr.refl _ _⟩
        rw [decide_eq_false (fun e : l = [] => h0 (by rw [e]; rfl))]
    · have := Try.slices_Equal_string b off l.length c b1 off1 m.length c1 (l.map baW) (m.map baW) w (by simp) (by simp) hl hl1 hc hc1
      refine this.mono ?_
      rintro e w' ⟨rfl, q, rfl⟩
      refine ⟨?_, ⟨rfl, rfl, rfl, Nat.le_refl _, fun _ _ _ => rfl⟩⟩
      rw [List.take_of_length_le (by simp), List.take_of_length_le (by simp)]
      congr 3
      rw [eq_iff_iff]
      exact baW_map
set_option maxRecDepth 100000 in
theorem prog_wsame : ProgWSame := by
  intro l m v u w h k
  have HC := Lib.hid (pequal l m v u w h k)
  obtain ⟨a0, c0, rfl, -, -⟩ := h.form
  obtain ⟨a1, c1, rfl, -, -⟩ := k.form
  obtain ⟨r, hr⟩ : ∃ r, r = decide (l = m) := ⟨_, rfl⟩
  rw [← hr] at HC ⊢
  clear h k hr
  go_enter Try.func16, Try.ntmps16
  go_wp2_with (go_at_call 26; refine HC.out.mono ?_; rintro e w1 ⟨rfl, hf⟩)
  go_ret
  exact ⟨rfl, hf⟩
end Go.Proofs.Ytapkohdbnfaacaa
