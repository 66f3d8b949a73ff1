/- What the lexer (layer 12) must give; the statements' awake, over any lexer that does so. -/
import Derived.Test.YteeojnbmkapjiaaLexTk
import Derived.Test.YteeojnbmkapjiaaLexFu
namespace Go.Proofs.Yteeojnbmkapjiaa
open Go.RowKit

/-- The program's All does what the document's does. -/
def ProgAll : Prop := ∀ (m : List UInt8) (w : World), m.length ≤ 1000000 → Calls Try.prog 7 #[encStr m] w (RAll (allD m) w)
set_option maxRecDepth 100000 in
set_option maxHeartbeats 1000000 in
theorem lexawake_any (hA : ProgAll) (w : World) : Calls Try.prog 6 #[] w fun e w' => e = .returned (.bool true) ∧ Fr [] w w' := by
  have h1 := fun wx => hA [83, 32, 58, 32, 39, 97, 39, 32, 83, 32, 124, 32, 59] wx (by decide)
  have h2 := fun wx => hA [83, 32, 58, 32, 36] wx (by decide)
  have h3 := fun wx => hA [39, 97] wx (by decide)
  rw [aw_one, show encStr [83, 32, 58, 32, 39, 97, 39, 32, 83, 32, 124, 32, 59] = .string { data := #[83, 32, 58, 32, 39, 97, 39, 32, 83, 32, 124, 32, 59] } from rfl] at h1
  rw [aw_two, show encStr [83, 32, 58, 32, 36] = .string { data := #[83, 32, 58, 32, 36] } from rfl] at h2
  rw [aw_three, show encStr [39, 97] = .string { data := #[39, 97] } from rfl] at h3
  have H1 := Lib.hid h1
  have H2 := Lib.hid h2
  have H3 := Lib.hid h3
  clear h1 h2 h3
  go_enter Try.func6, Try.ntmps6
  go_upto_region 2 with (go_at_call 7; refine (H1.out _).mono ?_; rintro e w1 ⟨v1, rfl, ht1, hf1⟩)
  obtain ⟨a1, c1, rfl, hc1, hm1⟩ := ht1.form
  have HT1 := Lib.hid ht1
  clear ht1
  go_upto_region 3 with (go_at_call 7; refine (H2.out _).mono ?_; rintro e w2 ⟨v2, rfl, ht2, hf2⟩)
  go_upto_region 4 with (go_at_call 7; refine (H3.out _).mono ?_; rintro e w3 ⟨v3, rfl, ht3, hf3⟩)
  obtain ⟨b, off, rfl, k0, k1, k2⟩ := tok_cells ((HT1.out.below hf2).below hf3) 2 (by decide)
  have k1' : w3.cell? ⟨b, off + 6 + 1, none⟩ = some (.string { data := #[97] }) := k1
  have k0' : w3.cell? ⟨b, off + 6, none⟩ = some (.int .i64 2) := k0
  have k2' : w3.cell? ⟨b, off + 6 + 2, none⟩ = some (.int .i64 4) := k2
  have HFF := Lib.hid ((hf1.trans hf2 (by simp) (n := []) (by simp)).trans hf3 (by simp) (n := []) (by simp))
  clear k0 k1 k2 hf1 hf2 hf3 ht2 ht3
  go_wp2_with fail
  go_ret
  exact ⟨rfl, HFF.out⟩
end Go.Proofs.Yteeojnbmkapjiaa
