/- What the parser (layer 13) must do; the statements' awake and ParseAll, over any parser that does so. -/
import Derived.Test.YtboljohhkfidfaaParB
import Derived.Test.YtboljohhkfidfaaParC
import Derived.Test.YtboljohhkfidfaaParE
import Derived.Test.YtboljohhkfidfaaLexFu
namespace Go.Proofs.Ytboljohhkfidfaa
open Go.RowKit

/-- The program's Text gives lines as text. -/
def ProgTxt : Prop := ∀ (l : List LineD) (v : Value) (w : World), linesAt w v l → (textD l).length ≤ 10000000000 → Calls Try.prog 10 #[v] w fun e w' => e = .returned (encStr (textD l)) ∧ Fr [] w w'
set_option maxRecDepth 100000 in
set_option maxHeartbeats 1000000 in
theorem parawake_any (hA : ProgPar) (w : World) : Calls Try.prog 6 #[] w fun e w' => e = .returned (.bool true) ∧ Fr [] w w' := by
  have h1 := fun wx => hA [83, 32, 58, 32, 39, 97, 39, 32, 83, 32, 124, 32, 59] wx (by decide)
  have h2 := fun wx => hA [83, 32, 58, 32, 58] wx (by decide)
  have h3 := fun wx => hA [83, 32, 58, 32, 39, 97, 39] wx (by decide)
  rw [pw_one, show encStr [83, 32, 58, 32, 39, 97, 39, 32, 83, 32, 124, 32, 59] = .string { data := #[83, 32, 58, 32, 39, 97, 39, 32, 83, 32, 124, 32, 59] } from rfl] at h1
  rw [pw_two, show encStr [83, 32, 58, 32, 58] = .string { data := #[83, 32, 58, 32, 58] } from rfl] at h2
  rw [pw_three, show encStr [83, 32, 58, 32, 39, 97, 39] = .string { data := #[83, 32, 58, 32, 39, 97, 39] } from rfl] at h3
  have H1 := Lib.hid h1
  have H2 := Lib.hid h2
  have H3 := Lib.hid h3
  clear h1 h2 h3
  go_enter Try.func6, Try.ntmps6
  go_upto_region 2 with (go_at_call 7; refine (H1.out _).mono ?_; rintro e w1 ⟨v1, rfl, ht1, hf1⟩)
  obtain ⟨a1, c1, rfl, hc1, hm1⟩ := ht1.form
  have HT1 := Lib.hid ht1
  clear ht1
  go_upto_region 3 with (go_at_call 7; refine (H2.out _).mono ?_; rintro e w2 ⟨v2, rfl, ht2, hf2⟩)
  go_upto_region 4 with (go_at_call 7; refine (H3.out _).mono ?_; rintro e w3 ⟨v3, rfl, ht3, hf3⟩)
  obtain ⟨b, off, va, rfl, k0, k1, hal⟩ := line_cells ((HT1.out.below hf2).below hf3) 0 (by simp)
  simp only [List.getElem_cons_zero] at hal
  obtain ⟨a2, c2, rfl, hc2, hm2⟩ := hal.form
  obtain ⟨b2, off2, v20, rfl, p0, hi0⟩ := alt_cells hal 0 (by simp)
  obtain ⟨b2', off2', v21, e21, p1, hi1⟩ := alt_cells hal 1 (by simp)
  cases e21
  obtain ⟨a3, c3, rfl, hc3, hm3⟩ := hi0.form
  obtain ⟨a4, c4, rfl, hc4, hm4⟩ := hi1.form
  simp only [Nat.zero_mul, Nat.add_zero] at k0 k1 p0
  have HFF := Lib.hid ((hf1.trans hf2 (by simp) (n := []) (by simp)).trans hf3 (by simp) (n := []) (by simp))
  clear hf1 hf2 hf3 ht2 ht3 hal hi0 hi1 k0
  go_wp2_with fail
  go_ret
  exact ⟨rfl, HFF.out⟩
end Go.Proofs.Ytboljohhkfidfaa
