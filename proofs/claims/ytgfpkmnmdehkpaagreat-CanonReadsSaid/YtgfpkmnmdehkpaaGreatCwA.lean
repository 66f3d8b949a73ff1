/- The chapter's example (layer 16), and the statements' awake, over any program that does what it must. -/
import Derived.Test.YtgfpkmnmdehkpaaGreatDt
import Derived.Test.YtgfpkmnmdehkpaaGreatMm
import Derived.WalkMore
import Derived.Test.YtgfpkmnmdehkpaaGreatGa
import Derived.Deep.DeepCutAuto
set_option linter.unusedVariables false
set_option linter.unusedSimpArgs false
namespace Go.Proofs.YtgfpkmnmdehkpaaGreat
open Go.RowKit

def exCL : List LineD := [⟨[83], [[⟨false, [83]⟩, ⟨true, [98]⟩], [⟨true, [97]⟩]]⟩]
def exCG : GramG := ⟨[[83]], [[98], [97]], [⟨0, [0, -1]⟩, ⟨0, [-2]⟩]⟩
def exCC : GramG := ⟨[[83]], [[97], [98]], [⟨0, [-1]⟩, ⟨0, [0, -2]⟩]⟩
theorem gram_exC : gramOf exCL = exCG := by rfl
theorem lines_exC : linesG exCG = exCL := by rfl
theorem canon_exC : canonG exCG = exCC := by rfl
theorem text_exC : textD (linesG exCC) = [83, 32, 58, 32, 39, 97, 39, 32, 124, 32, 83, 32, 39, 98, 39, 32, 59, 10] := by rfl
theorem valid_exC : ValidG exCG where
  one := by decide
  syms := by decide
  few := by decide
  names := by intro n hn; have : n = [83] := by simpa [exCG] using hn
              subst this; decide
  nodupN := by decide
  has := by
    intro i hi
    have : i = 0 := by simp [exCG] at hi; exact hi
    subst this
    exact ⟨⟨0, [0, -1]⟩, by simp [exCG], rfl⟩
  terms := by intro n hn; have : n = [98] ∨ n = [97] := by simpa [exCG] using hn
              rcases this with rfl | rfl <;> decide
  nodupT := by decide
  rules := by
    intro r hr
    have : r = ⟨0, [0, -1]⟩ ∨ r = ⟨0, [-2]⟩ := by simpa [exCG] using hr
    rcases this with rfl | rfl
    · refine ⟨by decide, by decide, by decide, fun s hs => ?_⟩
      have : s = 0 ∨ s = -1 := by simpa using hs
      rcases this with rfl | rfl <;> decide
    · refine ⟨by decide, by decide, by decide, fun s hs => ?_⟩
      have : s = -2 := by simpa using hs
      subst this
      decide
  nodupR := by simp [exCG, List.nodup_cons]
theorem used_exC : UsedX exCG := by
  intro t ht
  have : t = [98] ∨ t = [97] := by simpa [exCG] using ht
  rcases this with rfl | rfl
  · exact ⟨([83], [⟨false, [83]⟩, ⟨true, [98]⟩]), by simp [rulesX, exCG, ruleX, itemG], ⟨true, [98]⟩, by simp, rfl, rfl⟩
  · exact ⟨([83], [⟨true, [97]⟩]), by simp [rulesX, exCG, ruleX, itemG], ⟨true, [97]⟩, by simp, rfl, rfl⟩
theorem res_exC : resolveG exCL = ⟨exCG, 0⟩ := by
  have := back_resolve valid_exC (by simp [exCG]) used_exC
  rw [lines_exC, gram_exC] at this
  exact this
theorem par_exC : parD [83, 32, 58, 32, 83, 32, 39, 98, 39, 32, 124, 32, 39, 97, 39, 32, 59] = ⟨exCL, 0, 0⟩ := by
  have h : allD [83, 32, 58, 32, 83, 32, 39, 98, 39, 32, 124, 32, 39, 97, 39, 32, 59] = ⟨[⟨1, [83], 0⟩, ⟨3, [58], 2⟩, ⟨1, [83], 4⟩, ⟨2, [98], 6⟩, ⟨4, [124], 10⟩, ⟨2, [97], 12⟩, ⟨5, [59], 16⟩], 0, 0⟩ := by
    unfold allD
    rw [if_neg (by decide), lex_steps 17 _ _ (by decide)]
    rfl
  unfold parD
  rw [h]
  simp only
  rw [lines_steps 7 _ (by decide)]
  rfl
theorem read_exC : readO [83, 32, 58, 32, 83, 32, 39, 98, 39, 32, 124, 32, 39, 97, 39, 32, 59] = ⟨exCC, 0, 0⟩ := by
  unfold readO
  rw [par_exC]
  simp only
  rw [res_exC]
  simp only
  rw [if_neg (by simp), if_neg (by simp), canon_exC]
theorem valid_exCC : ValidG exCC := by rw [← canon_exC]; exact canon_valid valid_exC
theorem twice_exC : canonG exCC = exCC := by
  have := canon_twice valid_exC
  rw [canon_exC] at this
  exact this
theorem textO_exC : textO exCC = [83, 32, 58, 32, 39, 97, 39, 32, 124, 32, 83, 32, 39, 98, 39, 32, 59, 10] := by
  unfold textO
  rw [if_pos (show validB exCC = true from boolOf_true valid_exCC), twice_exC, text_exC]
theorem isO_exC : isO exCC = true := by
  unfold isO
  rw [show validB exCC = true from boolOf_true valid_exCC, twice_exC, boolOf_true rfl]
  rfl
set_option maxRecDepth 100000 in
set_option maxHeartbeats 1000000 in
theorem cawake_any (hR : ProgCanRead) (hT : ProgCanText) (hI : ProgCanIs) (w : World) : Calls Tryz.prog 9 #[] w fun e w' => e = .returned (.bool true) ∧ Fr [] w w' := by
  have h1 := fun wx => hR [83, 32, 58, 32, 83, 32, 39, 98, 39, 32, 124, 32, 39, 97, 39, 32, 59] wx (by decide)
  have h2 := fun gv wx h => hT exCC gv wx h (valid_size valid_exCC) (valid_int valid_exCC)
  have h3 := fun gv wx h => hI exCC gv wx h (valid_size valid_exCC) (valid_int valid_exCC)
  rw [read_exC, show encStr [83, 32, 58, 32, 83, 32, 39, 98, 39, 32, 124, 32, 39, 97, 39, 32, 59] = .string { data := #[83, 32, 58, 32, 83, 32, 39, 98, 39, 32, 124, 32, 39, 97, 39, 32, 59] } from rfl] at h1
  rw [textO_exC, show encStr [83, 32, 58, 32, 39, 97, 39, 32, 124, 32, 83, 32, 39, 98, 39, 32, 59, 10] = .string { data := #[83, 32, 58, 32, 39, 97, 39, 32, 124, 32, 83, 32, 39, 98, 39, 32, 59, 10] } from rfl] at h2
  rw [isO_exC] at h3
  have H1 := Lib.hid h1
  have H2 := Lib.hid h2
  have H3 := Lib.hid h3
  clear h1 h2 h3
  go_enter Tryz.func9, Tryz.ntmps9
  go_upto_region 2 with (go_at_call 17; refine (H1.out _).mono ?_; rintro e w1 ⟨v1, rfl, hg1, hf1⟩; obtain ⟨a1, c1, a2, c2, a3, c3, rfl, -, -, -⟩ := hg1.parts)
  have hb1 := heap_alloc_new w1 (.cells #[.slice a1 exCC.names.length c1, .slice a2 exCC.terms.length c2, .slice a3 exCC.rules.length c3] 25)
  have hf2 := Fr.alloc w1 (.cells #[.slice a1 exCC.names.length c1, .slice a2 exCC.terms.length c2, .slice a3 exCC.rules.length c3] 25)
  obtain ⟨w2, hw2⟩ : ∃ w2, w2 = w1.alloc (.cells #[.slice a1 exCC.names.length c1, .slice a2 exCC.terms.length c2, .slice a3 exCC.rules.length c3] 25) := ⟨_, rfl⟩
  obtain ⟨q0, hq0⟩ : ∃ q0, q0 = w1.heap.size := ⟨_, rfl⟩
  rw [← hw2] at hb1 hf2
  rw [← hq0] at hb1
  rw [← hw2, ← hq0]
  have HB1 := Lib.hid hb1
  have HT2 := Lib.hid (H2.out _ w2 (hg1.below hf2))
  have HI2 := Lib.hid (fun wx (hf : Fr [] w2 wx) => H3.out _ wx ((hg1.below hf2).below hf))
  have HF2 := Lib.hid (hf1.trans hf2 (by simp) (n := []) (by simp))
  obtain ⟨x0, x1, x2, -⟩ := three_of_heap hb1
  clear hb1 hf2 hw2 hq0 hg1 hf1 H1 H2 H3
  go_wp2_with (first
    | (go_at_call 13; refine (HI2.out _ hf3).mono ?_; rintro e w4 ⟨rfl, hf4⟩)
    | (go_at_call 14; refine HT2.out.mono ?_; rintro e w3 ⟨rfl, hf3⟩; obtain ⟨y0, y1, y2, -⟩ := three_of_heap (hf3.heap HB1.out (by simp))))
  go_ret
  exact ⟨rfl, (HF2.out.trans hf3 (by simp) (n := []) (by simp)).trans hf4 (by simp) (by simp)⟩
end Go.Proofs.YtgfpkmnmdehkpaaGreat
