/- Contracts of frame.Open. -/
import Derived.Test.YtijdffpekonklaaFraG
import Derived.OwnWalk
namespace Go.Proofs.Ytijdffpekonklaa
open Go.RowKit

theorem find_no (bs : List UInt8) (y : Nat) (sv : Value) (w : World) (h : bytesAt w sv bs) (hl : bs.length ≤ 1000000) (hy : whyF bs = y) (hy0 : 0 < y) :
    Calls Try.prog 26 #[sv] w fun e w' => e = .returned (noneV y) ∧ Fr [] w w' := by
  unfold whyF at hy
  by_cases h0 : (lenOf bs).1 = 0
  · rw [if_pos h0] at hy
    by_cases hs : bs.length < endF bs + 4
    · rw [if_pos hs] at hy
      subst hy
      exact find_short bs sv w h hl h0 hs
    · rw [if_neg hs] at hy
      cases hk : sumOk bs
      · rw [hk, if_neg (by simp)] at hy
        subst hy
        exact find_sum bs sv w h hl h0 (by omega) hk
      · rw [hk, if_pos rfl] at hy
        omega
  · rw [if_neg h0] at hy
    exact find_head bs y sv w h hl hy hy0
theorem find_yes (bs : List UInt8) (sv : Value) (w : World) (h : bytesAt w sv bs) (hl : bs.length ≤ 1000000) (hy : whyF bs = 0) :
    Calls Try.prog 26 #[sv] w (Found bs sv w) := by
  obtain ⟨h0, hs, hk⟩ := whyF_ok hy
  exact find_good bs sv w h hl h0 hs hk

def no3 (y : Nat) : Value := .tuple #[.int .u8 0, .slice none 0 0, .int .i64 (y : Int)]
set_option maxRecDepth 100000 in
theorem open_no (bs : List UInt8) (y : Nat) (sv : Value) (w : World) (h : bytesAt w sv bs) (hl : bs.length ≤ 1000000) (hy : whyF bs = y) (hy0 : 0 < y) :
    Calls Try.prog 11 #[sv] w fun e w' => e = .returned (no3 y) ∧ Fr [] w w' := by
  have HF := Lib.hid (find_no bs y sv w h hl hy hy0)
  have hd : ((y : Int) != 0) = true := by rw [bne_iff_ne]; omega
  obtain ⟨a0, n0, c0, rfl⟩ := h.slice
  clear h hy hy0
  go_enter Try.func11, Try.ntmps11
  go_wp2_with (first
    | (go_at_call 26; refine HF.out.mono ?_; rintro e w1 ⟨rfl, hf1⟩; unfold noneV))
  go_ret3
  exact ⟨rfl, hf1.trans (Fr.alloc _ _) (by simp) (by simp)⟩
set_option maxRecDepth 100000 in
theorem open_more (bs : List UInt8) (sv : Value) (w : World) (h : bytesAt w sv bs) (hl : bs.length ≤ 1000000) (hy : whyF bs = 0) (hr : restF bs ≠ []) :
    Calls Try.prog 11 #[sv] w fun e w' => e = .returned (no3 5) ∧ Fr [] w w' := by
  have HF := Lib.hid (find_yes bs sv w h hl hy)
  have hpos : 0 < (restF bs).length := List.length_pos_iff.2 hr
  have hd : decide (0 < (restF bs).length) = true := decide_eq_true hpos
  have hd2 : decide (0 < ((restF bs).length : Int)) = true := decide_eq_true (by omega)
  obtain ⟨a0, n0, c0, rfl⟩ := h.slice
  clear h hr hpos
  go_enter Try.func11, Try.ntmps11
  go_wp2_with (first
    | (go_at_call 26; refine HF.out.mono ?_; rintro e w1 ⟨lv, rv, rfl, hb1, hb2, hk1, hk2, hf1⟩; unfold foundV; obtain ⟨a1, n1, c1, rfl⟩ := hb1.slice; obtain ⟨a2, c2, rfl, -, -⟩ := hb2.form))
  go_ret3
  exact ⟨rfl, hf1.trans (Fr.alloc _ _) (by simp) (by simp)⟩
def Opened (k : UInt8) (load : List UInt8) (w : World) (e : Ending) (w' : World) : Prop := ∃ v, e = .returned (.tuple #[.int .u8 (k.toNat : Int), v, .int .i64 0]) ∧ bytesAt w' v load ∧ Fr [] w w'
set_option maxRecDepth 100000 in
theorem open_yes (bs : List UInt8) (sv : Value) (w : World) (h : bytesAt w sv bs) (hl : bs.length ≤ 1000000) (hy : whyF bs = 0) (hr : restF bs = []) :
    Calls Try.prog 11 #[sv] w (Opened (kindF bs) (loadF bs) w) := by
  have HF := Lib.hid (find_yes bs sv w h hl hy)
  have hll : (loadF bs).length ≤ 140737488355328 := by have := (found_seal hy).2; omega
  obtain ⟨a0, n0, c0, rfl⟩ := h.slice
  clear h
  go_enter Try.func11, Try.ntmps11
  go_wp2_with (first
    | (go_at_call 26; refine HF.out.mono ?_; rintro e w1 ⟨lv, rv, rfl, hb1, hb2, hk1, hk2, hf1⟩; unfold foundV; rw [hr] at hb2; obtain ⟨a1, n1, c1, rfl⟩ := hb1.slice; obtain ⟨a2, c2, rfl, -, -⟩ := hb2.form; simp only [List.length_nil]))
  have hrow : (w1.alloc (.cells #[.int .u8 ((kindF bs).toNat : Int), .slice a1 n1 c1, .slice a2 0 c2] 54)).heap[w1.heap.size]? = some (.cells #[.int .u8 ((kindF bs).toNat : Int), .slice a1 n1 c1, .slice a2 0 c2] 54 (0, 0)) := heap_alloc_new w1 _
  have hfr2 := hf1.trans (Fr.alloc w1 (.cells #[.int .u8 ((kindF bs).toNat : Int), .slice a1 n1 c1, .slice a2 0 c2] 54)) (by simp) (n := []) (by simp)
  have hb3 := hb1.below (Fr.alloc w1 (.cells #[.int .u8 ((kindF bs).toNat : Int), .slice a1 n1 c1, .slice a2 0 c2] 54))
  obtain ⟨w2, hw2⟩ : ∃ w2, w2 = w1.alloc (.cells #[.int .u8 ((kindF bs).toNat : Int), .slice a1 n1 c1, .slice a2 0 c2] 54) := ⟨_, rfl⟩
  rw [← hw2] at hrow hfr2 hb3 ⊢
  clear hw2 hb1 hb2
  refine wp_region_G [] [(0, false), (1, false), (2, false), (3, false), (4, true), (5, false), (6, false), (7, false)] 24 rfl (by kernel_rfl) (by kernel_rfl) (by kernel_rfl) (fun c a d v w h => by cases d <;> exact h) (fun w3 hf3 => ?_)
  simp only [List.map_cons, List.map_nil, List.getElem?_toArray, List.getElem?_cons_succ, List.getElem?_cons_zero, Option.getD_some]
  have HLD := Lib.hid (fun w' (hw' : Fr [] w3 w') => three_of_heap (hw'.heap (hf3.heap hrow (by simp)) (by simp)))
  repeat (apply wpG_t; · (intro w' hf'; obtain ⟨hc0, hc1, -, -, -, -⟩ := HLD.out w' hf'; go_wp2_with fail; exact ⟨rfl, rfl⟩))
  refine wpG_x ?_
  go_wp2_with (go_at_call 27; refine (fclone_any _ _ w3 (hb3.below hf3) hll).mono ?_; rintro e w4 ⟨v4, rfl, hb4, hk4, hf4⟩)
  refine ⟨hf4, rfl, ?_⟩
  repeat (apply wpG_t; · (intro w' hf'; go_wp2_with fail; exact ⟨rfl, rfl⟩))
  refine wpG_end ?_
  go_wp2_with fail
  go_ret3
  exact ⟨_, rfl, hb4, (hfr2.trans hf3 (by simp) (n := []) (by simp)).trans hf4 (by simp) (by simp)⟩

end Go.Proofs.Ytijdffpekonklaa
