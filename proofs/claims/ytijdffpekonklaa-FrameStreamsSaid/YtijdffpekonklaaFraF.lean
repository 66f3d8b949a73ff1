/- Contract of frame.find: where the head is in order and the bytes suffice. -/
import Derived.Test.YtijdffpekonklaaFraE
namespace Go.Proofs.Ytijdffpekonklaa
open Go.RowKit

set_option maxRecDepth 100000 in
theorem find_sum (bs : List UInt8) (sv : Value) (w : World) (h : bytesAt w sv bs) (hl : bs.length ≤ 1000000) (hy : (lenOf bs).1 = 0) (hs : endF bs + 4 ≤ bs.length) (hk : sumOk bs = false) :
    Calls Try.prog 26 #[sv] w fun e w' => e = .returned (noneV 6) ∧ Fr [] w w' := by
  obtain ⟨a0, c0, rfl, hle, hmx⟩ := h.form
  simp only [maxLen] at hmx
  obtain ⟨he, hn, hlo, hpos, hne, -⟩ := lenOf_end hy
  have HB := Lib.hid h
  have HL := Lib.hid (fun wx (hx : Fr [] w wx) => loadLen_any bs _ wx (h.below hx) hl)
  rw [hy] at HL
  have HN := Lib.hid (fun wx => flen_yes (lenOf bs).2.1 wx hn)
  rw [he] at HN
  obtain ⟨n, hnn⟩ : ∃ n, n = (lenOf bs).2.1 := ⟨_, rfl⟩
  rw [← hnn] at HL HN
  have hcmp : ((bs.take (endF bs + 4)).drop (endF bs) == sum4 (crcOf (bs.take (endF bs)))) = false := by
    rw [sumOk, decide_eq_false_iff_not] at hk
    rw [beq_eq_false_iff_ne]; exact hk
  have HCM := Lib.hid hcmp
  have H1 := Lib.hid (fun wx (hx : Fr [] w wx) => (h.below hx).cut (lo := endF bs) (hi := endF bs + 4) (by omega) hs)
  have H2 := Lib.hid (fun wx (hx : Fr [] w wx) => (h.below hx).take (n := endF bs) (by omega))
  rw [if_neg (by omega), Nat.mul_one, Nat.add_sub_cancel_left] at H1
  obtain ⟨X, hX⟩ : ∃ X, X = bs.take (endF bs) := ⟨_, rfl⟩
  obtain ⟨Y, hY⟩ : ∃ Y, Y = (bs.take (endF bs + 4)).drop (endF bs) := ⟨_, rfl⟩
  rw [← hX, ← hY] at HCM
  rw [← hY] at H1
  rw [← hX] at H2
  obtain ⟨L, hL⟩ : ∃ L, L = bs.length := ⟨_, rfl⟩
  obtain ⟨f, hf⟩ : ∃ f, f = endF bs := ⟨_, rfl⟩
  rw [← hL] at HL hs hl hle ⊢
  rw [← hf] at HN H1 H2 hs
  have hd : decide (L < f + 4) = false := decide_eq_false (by omega)
  have hd2 : decide ((L : Int) < (f : Int) + 4) = false := decide_eq_false (by omega)
  have hc1 : f + 4 ≤ c0 := by omega
  have hc2 : ¬ c0 = f := by omega
  have hcl : crcOf X < 4294967296 := by unfold crcOf; have := crcS_ones X; omega
  obtain ⟨s, hss⟩ : ∃ s, s = crcOf X := ⟨_, rfl⟩
  have hcrc := fun sx wx (hx : partsAt wx sx [X]) => of_any [X] sx wx hx
  rw [show ([X] : List (List UInt8)).flatten = X from by simp, ← hss] at hcrc
  rw [← hss] at hcl HCM
  have HC := Lib.hid hcrc
  clear h he hn hlo hpos hne hnn hy hL hf hcmp hk hcrc hss hX hY HB
  go_enter Try.func26, Try.ntmps26
  go_wp2_with (first
    | (go_at_call 38; refine (HL.out _ (Fr.alloc _ _)).mono ?_; rintro e w1 ⟨rfl, hf1⟩)
    | (go_at_call 10; refine (HN.out _).mono ?_; rintro e w2 ⟨rfl, rfl⟩))
  have hf01 : Fr [] w w1 := (Fr.alloc w _).trans hf1 (by simp) (by simp)
  refine wp_region_G [] [(0, false), (1, false), (2, false), (3, false), (4, false), (5, false), (6, false), (7, true), (8, true), (9, true), (10, true), (11, false)] 54 rfl (by kernel_rfl) (by kernel_rfl) (by kernel_rfl) (fun c a d v w h => by cases d <;> exact h) (fun w2 hf2 => ?_)
  simp only [List.map_cons, List.map_nil, List.getElem?_toArray, List.getElem?_cons_succ, List.getElem?_cons_zero, Option.getD_some]
  repeat (apply wpG_t; · (intro w' hf'; go_wp2_with fail; exact ⟨rfl, rfl⟩))
  refine wpG_x ?_
  go_wp2_with fail
  refine ⟨Fr.alloc _ _, rfl, ?_⟩
  have hof := HC.out _ _ (partsAt_new1 w2 _ X 22 (H2.out _ (hf01.trans hf2 (by simp) (by simp))))
  refine wpG_x ?_
  go_wp2_with (go_at_call 22; refine hof.mono ?_; rintro e w3 ⟨rfl, hf3⟩)
  refine ⟨hf3, rfl, ?_⟩
  refine wpG_x ?_
  go_wp2_with (go_at_call 21; refine (sumForm_any s _ hcl).mono ?_; rintro e w4 ⟨v4, rfl, hb4, hk4, hf4⟩)
  refine ⟨hf4, rfl, ?_⟩
  have hf14 : Fr [] w1 w4 := ((hf2.trans (Fr.alloc w2 _) (by simp) (n := []) (by simp)).trans hf3 (by simp) (n := []) (by simp)).trans hf4 (by simp) (by simp)
  have heq := equal_any _ _ _ _ w4 (H1.out _ (hf01.trans hf14 (by simp) (by simp))) hb4
  rw [HCM.out] at heq
  refine wpG_x ?_
  go_wp2_with (go_at_call 39; refine heq.mono ?_; rintro e w5 ⟨rfl, rfl⟩)
  refine ⟨Fr.refl _ _, rfl, ?_⟩
  repeat (apply wpG_t; · (intro w' hf'; go_wp2_with fail; exact ⟨rfl, rfl⟩))
  refine wpG_end ?_
  have hrow := hf14.heap (hf1.heap (heap_alloc_new w _) (by simp)) (by simp)
  obtain ⟨hc0, hc1, hc2, hz0, hz1, hz2⟩ := three_of_heap hrow
  go_wp2_with fail
  refine bodyPost_ret (v := noneV 6) (results_cell2 rfl _ _ w.heap.size 54 #[.int .u8 0, .slice none 0 0, .slice none 0 0] _ rfl (heap_set3 hrow) Try.underlying54 rfl sizeFound _ rfl) rfl ⟨rfl, ?_⟩
  exact (hf01.trans hf14 (by simp) (n := []) (by simp)).trans (Fr.set3 _ _ _ _ _) (by simp) (by simp)
end Go.Proofs.Ytijdffpekonklaa
