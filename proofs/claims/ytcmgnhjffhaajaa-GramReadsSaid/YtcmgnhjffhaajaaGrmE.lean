/- The chapter's example (layer 14), and the statements' awake, over any program that does what it must. -/
import Derived.Test.YtcmgnhjffhaajaaGrmPr
import Derived.Test.YtcmgnhjffhaajaaGrmA
import Derived.Test.YtcmgnhjffhaajaaBs
namespace Go.Proofs.Ytcmgnhjffhaajaa
open Go.RowKit

def exL : List LineD := [⟨[83], [[⟨true, [97]⟩, ⟨false, [83]⟩], []]⟩]
def exG : GramG := ⟨[[83]], [[97]], [⟨0, [-1, 0]⟩, ⟨0, []⟩]⟩
theorem gram_ex : gramOf exL = exG := by rfl
theorem valid_ex : ValidG exG where
  one := by decide
  syms := by decide
  few := by decide
  names := by intro n hn; have : n = [83] := by simpa [exG] using hn
              subst this; decide
  nodupN := by decide
  has := by
    intro i hi
    have : i = 0 := by simp [exG] at hi; exact hi
    subst this
    exact ⟨⟨0, [-1, 0]⟩, by simp [exG], rfl⟩
  terms := by intro n hn; have : n = [97] := by simpa [exG] using hn
              subst this; decide
  nodupT := by decide
  rules := by
    intro r hr
    have : r = ⟨0, [-1, 0]⟩ ∨ r = ⟨0, []⟩ := by simpa [exG] using hr
    rcases this with rfl | rfl
    · refine ⟨by decide, by decide, by decide, fun s hs => ?_⟩
      have : s = -1 ∨ s = 0 := by simpa using hs
      rcases this with rfl | rfl <;> decide
    · exact ⟨by decide, by decide, by decide, fun s hs => by simp at hs⟩
  nodupR := by simp [exG, List.nodup_cons]
theorem res_ex : resolveG exL = ⟨exG, 0⟩ := by
  unfold resolveG
  rw [gram_ex]
  rw [if_neg (by
    rw [boolOf_false]
    · simp
    · rintro (⟨l, hl, a, ha, h⟩ | h | h)
      · have : l = ⟨[83], [[⟨true, [97]⟩, ⟨false, [83]⟩], []]⟩ := by simpa [exL] using hl
        subst this
        have : a = [⟨true, [97]⟩, ⟨false, [83]⟩] ∨ a = [] := by simpa using ha
        rcases this with rfl | rfl <;> simp at h
      · simp [exL] at h
      · simp [exL] at h)]
  rw [if_neg (by rw [boolOf_true]; · simp
                 · simp [exL])]
  rw [if_neg (by
    rw [boolOf_false]
    · simp
    · rintro ⟨i, hi, h1, h2⟩
      have : i = ⟨true, [97]⟩ ∨ i = ⟨false, [83]⟩ := by simpa [exL, itemsOf] using hi
      rcases this with rfl | rfl
      · cases h1
      · exact h2 (by simp [exL]))]
  rw [if_neg (by decide)]
  rw [if_neg (by rw [boolOf_true valid_ex.nodupR]; simp)]
theorem size_ex : SizeL exL := ⟨by decide, by decide, by decide, by decide, by decide⟩
theorem sizeg_ex : SizeG exG := ⟨by decide, by decide, by decide, by decide, by decide, by decide⟩
set_option maxRecDepth 100000 in
set_option maxHeartbeats 4000000 in
theorem grmawake_any (hA : ProgPar) (hR : ProgResolve) (hV : ProgValid) (hI : ProgIsT) (w : World) : Calls Try.prog 8 #[] w fun e w' => e = .returned (.bool true) ∧ Fr [] w w' := by
  have h1 := fun wx => hA [83, 32, 58, 32, 39, 97, 39, 32, 83, 32, 124, 32, 59] wx (by decide)
  rw [pw_one, show encStr [83, 32, 58, 32, 39, 97, 39, 32, 83, 32, 124, 32, 59] = .string { data := #[83, 32, 58, 32, 39, 97, 39, 32, 83, 32, 124, 32, 59] } from rfl] at h1
  have h2 := fun lv wx (hl : linesAt wx lv exL) => hR exL lv wx hl size_ex
  rw [res_ex] at h2
  have h3 := fun gv wx (hl : gramAt wx gv exG) => hV exG gv wx hl sizeg_ex (by unfold IntG; decide)
  have hvb : validB exG = true := boolOf_true valid_ex
  rw [hvb] at h3
  have h4 := fun wx => hI (-1) wx
  have h5 := fun wx => hI 0 wx
  rw [show decide ((-1 : Int) < 0) = true from rfl] at h4
  rw [show decide ((0 : Int) < 0) = false from rfl] at h5
  have H1 := Lib.hid h1
  have H2 := Lib.hid h2
  have H3 := Lib.hid h3
  have H4 := Lib.hid h4
  have H5 := Lib.hid h5
  clear h1 h2 h3 h4 h5 hvb
  go_enter Try.func8, Try.ntmps8
  go_upto_region 2 with (go_at_call 17; refine (H1.out _).mono ?_; rintro e w1 ⟨v1, rfl, ht1, hf1⟩; have HT1 := Lib.hid (show linesAt _ _ exL from ht1); clear ht1)
  go_upto_region 3 with (go_at_call 16; refine (H2.out _ _ HT1.out).mono ?_; rintro e w2 ⟨v2, rfl, hg2, hf2⟩; obtain ⟨sa, sb, sc, rfl, k1, k2, k3⟩ := hg2; obtain ⟨a1, c1, he1, hc1, hm1⟩ := k1.form; obtain ⟨a2, c2, he2, hc2, hm2⟩ := k2.form; obtain ⟨a3, c3, he3, hc3, hm3⟩ := k3.form; rw [show exG.names.length = 1 from rfl] at he1; rw [show exG.terms.length = 1 from rfl] at he2; rw [show exG.rules.length = 2 from rfl] at he3; subst he1 he2 he3)
  have hb := heap_alloc_new w2 (.cells #[.slice a1 1 c1, .slice a2 1 c2, .slice a3 2 c3] 25)
  have hf := Fr.alloc w2 (.cells #[.slice a1 1 c1, .slice a2 1 c2, .slice a3 2 c3] 25)
  obtain ⟨w3, hw3⟩ : ∃ w3, w3 = w2.alloc (.cells #[.slice a1 1 c1, .slice a2 1 c2, .slice a3 2 c3] 25) := ⟨_, rfl⟩
  obtain ⟨q, hq⟩ : ∃ q, q = w2.heap.size := ⟨_, rfl⟩
  rw [← hw3] at hb hf ⊢
  rw [← hq] at hb ⊢
  have HG := Lib.hid (show gramAt w3 (.agg #[.slice a1 1 c1, .slice a2 1 c2, .slice a3 2 c3]) exG from ⟨_, _, _, rfl, k1.below hf, k2.below hf, k3.below hf⟩)
  obtain ⟨b1, o1, v1, rfl, -, p1, hv1⟩ := rule_cells (k3.below hf) 0 (by decide)
  obtain ⟨a4, c4, he4, hc4, hm4⟩ := hv1.form
  rw [show (exG.rules[0]).right.length = 2 from rfl] at he4
  subst he4
  obtain ⟨b5, o5, rfl, p5⟩ := int_cell hv1 0 (by decide)
  have p5' : w3.cell? ⟨b5, o5, none⟩ = some (.int .i64 (-1)) := p5
  have p1' : w3.cell? ⟨b1, o1 + 1, none⟩ = some (.slice (some ⟨b5, o5, none⟩) 2 c4) := p1
  obtain ⟨y0, y1, y2, z0, z1, z2⟩ := three_of_heap hb
  have HFF := Lib.hid ((hf1.trans hf2 (by simp) (n := []) (by simp)).trans hf (by simp) (n := []) (by simp))
  clear hw3 hq hb hf k1 k2 k3 p1 p5 hv1 hf1 hf2
  go_wp2_with (first | (go_at_call 10; refine (H3.out _ _ HG.out).mono ?_; rintro e w4 ⟨rfl, hf4⟩) | (go_at_call 18; refine (H4.out _).mono ?_; rintro e w5 ⟨rfl, hf5⟩) | (go_at_call 18; refine (H5.out _).mono ?_; rintro e w6 ⟨rfl, hf6⟩))
  go_ret
  exact ⟨rfl, ((HFF.out.trans hf4 (by simp) (n := []) (by simp)).trans hf5 (by simp) (n := []) (by simp)).trans hf6 (by simp) (by simp)⟩
end Go.Proofs.Ytcmgnhjffhaajaa
