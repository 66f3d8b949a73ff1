/- Layer 19: what the program must do; the law's awake. -/
import Derived.Test.YtmcekpgmebanaaaWsC
import Derived.Test.YtmcekpgmebanaaaWsA
import Derived.Test.YtmcekpgmebanaaaMm
import Derived.Test.YtmcekpgmebanaaaWs
set_option linter.unusedVariables false
set_option linter.unusedSimpArgs false
namespace Go.Proofs.Ytmcekpgmebanaaa
open Go.RowKit
def ProgWIs : Prop := ∀ (l : Words) (v : Value) (w : World), strsAt w v l → ShortW l → Calls Try.prog 13 #[v] w fun e w' => e = .returned (.bool (isSetB l)) ∧ Fr [] w w'
def ProgWHas : Prop := ∀ (l : Words) (x : List UInt8) (v : Value) (w : World), strsAt w v l → Calls Try.prog 15 #[v, encStr x] w fun e w' => e = .returned (.bool (decide (x ∈ l))) ∧ Fr [] w w'
def ProgWSame : Prop := ∀ (l m : Words) (v u : Value) (w : World), strsAt w v l → strsAt w u m → Calls Try.prog 17 #[v, u] w fun e w' => e = .returned (.bool (decide (l = m))) ∧ Fr [] w w'
theorem cat22 : catW 2 [[97], [97, 98]] [[], [98]] = [[97], [97, 98]] := by decide
set_option maxRecDepth 100000 in
set_option maxHeartbeats 1000000 in
theorem wsawake_any (hC : ProgWCat) (w : World) : Calls Try.prog 9 #[] w fun e w' => e = .returned (.bool true) ∧ Fr [] w w' := by
  have hA := two_strsE w 9 [97] [97, 98] #[97] #[97, 98] rfl rfl
  have hfA := Fr.alloc w (.cells #[.string ⟨#[97]⟩, .string ⟨#[97, 98]⟩] 9)
  obtain ⟨w1, hw1⟩ : ∃ w1, w1 = w.alloc (.cells #[.string ⟨#[97]⟩, .string ⟨#[97, 98]⟩] 9) := ⟨_, rfl⟩
  rw [← hw1] at hA hfA
  have hs1 : w1.heap.size = w.heap.size + 1 := by rw [hw1, World.size_alloc]
  have hB := two_strsE w1 9 [] [98] #[] #[98] rfl rfl
  have hfB := Fr.alloc w1 (.cells #[.string ⟨#[]⟩, .string ⟨#[98]⟩] 9)
  obtain ⟨w2, hw2⟩ : ∃ w2, w2 = w1.alloc (.cells #[.string ⟨#[]⟩, .string ⟨#[98]⟩] 9) := ⟨_, rfl⟩
  rw [← hw2] at hB hfB
  rw [hs1] at hB
  have hcall := hC 2 [[97], [97, 98]] [[], [98]] _ _ w2 (by decide) (by decide) (hA.below hfB) hB ((isSetB_iff _).1 (by decide)) ((isSetB_iff _).1 (by decide)) ⟨by decide, by decide⟩ ⟨by decide, by decide⟩
  rw [cat22] at hcall
  have HC := Lib.hid (hcall.mono fun e w' h => h.yes (by decide))
  have HF := Lib.hid (hfA.trans hfB (by simp) (n := []) (by simp))
  rw [hw2, hw1] at HC
  have HW := Lib.hid (show w2 = (w.alloc (.cells #[.string ⟨#[97]⟩, .string ⟨#[97, 98]⟩] 9)).alloc (.cells #[.string ⟨#[]⟩, .string ⟨#[98]⟩] 9) by rw [hw2, hw1])
  clear hA hfA hB hfB hs1 hcall hw1 hw2 hC
  go_enter Try.func9, Try.ntmps9
  go_upto_region 2 with (go_at_call 20; refine HC.out.mono ?_; rintro e w3 ⟨v3, rfl, hs3, hf3⟩)
  obtain ⟨a3, c3, rfl, hc3, hm3⟩ := hs3.form
  obtain ⟨b, off, rfl, h0⟩ := str_cell hs3 0 (by decide)
  obtain ⟨b', off', e, h1⟩ := str_cell hs3 1 (by decide)
  cases e
  have h0' : w3.cell? ⟨b, off, none⟩ = some (.string ⟨#[97]⟩) := h0
  have h1' : w3.cell? ⟨b, off + 1, none⟩ = some (.string ⟨#[97, 98]⟩) := h1
  rw [← HW.out] at hf3
  have HF3 := Lib.hid (HF.out.trans hf3 (by simp) (n := []) (by simp))
  clear hs3 h0 h1 hf3 HC HF HW
  simp only [List.length_cons, List.length_nil, Nat.zero_add, Nat.reduceAdd] at hc3 ⊢
  go_wp2_with fail
  go_ret
  exact ⟨rfl, HF3.out⟩
end Go.Proofs.Ytmcekpgmebanaaa
