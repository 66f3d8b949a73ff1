/- Contracts of package frame's streams. -/
import Derived.Test.YtijdffpekonklaaFraH
namespace Go.Proofs.Ytijdffpekonklaa
open Go.RowKit

/-- A stream: its own block p, the block g in which what remains lies, and what remains. -/
def isS (w : World) (p : Nat) (g : Option Nat) (rest : List UInt8) : Prop :=
  ∃ v, w.heap[p]? = some (.cells #[v] 61 (0, 0)) ∧ bytesAt w v rest ∧ (∀ k, v.ownBlock = some k → g = some k) ∧ g ≠ some p
theorem isS.lt {w : World} {p : Nat} {g : Option Nat} {rest : List UInt8} (h : isS w p g rest) : p < w.heap.size := by
  obtain ⟨v, hp, _⟩ := h
  exact (Array.getElem?_eq_some_iff.1 hp).1
theorem isS.kept {w w' : World} {p : Nat} {g : Option Nat} {rest : List UInt8} {l : List Nat} (h : isS w p g rest) (hf : Fr l w w') (hp : p ∉ l) (hg : ∀ k, g = some k → k < w.heap.size → k ∉ l) : isS w' p g rest := by
  obtain ⟨v, h1, hv, hb, hne⟩ := h
  exact ⟨v, hf.heap h1 hp, hv.kept hf fun k hk _ hlt => hg k (hb k hk) hlt, hb, hne⟩
theorem isS.below {w w' : World} {p : Nat} {g : Option Nat} {rest : List UInt8} (h : isS w p g rest) (hf : Fr [] w w') : isS w' p g rest := h.kept hf (by simp) (by simp)

theorem sread_any (bs : List UInt8) (v : Value) (w : World) (h : bytesAt w v bs) (hl : bs.length ≤ 140737488355328) :
    Calls Try.prog 14 #[v] w fun e w' => ∃ p g, e = .returned (.pointer (some ⟨p, 0, none⟩)) ∧ isS w' p g bs ∧ Fr [] w w' ∧ w.heap.size ≤ p ∧ (∀ k, g = some k → w.heap.size ≤ k) := by
  obtain ⟨a0, n0, c0, rfl⟩ := h.slice
  go_enter Try.func14, Try.ntmps14
  go_wp2_with (go_at_call 27; refine (fclone_any bs _ _ h hl).mono ?_; rintro e w1 ⟨v1, rfl, hb1, hk1, hf1⟩; obtain ⟨a1, n1, c1, rfl⟩ := hb1.slice)
  go_ret
  exact ⟨_, (Value.slice a1 n1 c1).ownBlock, rfl, ⟨_, heap_alloc_new w1 _, hb1.below (Fr.alloc _ _), fun k hk => hk, fun hg => by have := (hk1 _ hg).2; omega⟩, hf1.trans (Fr.alloc _ _) (by simp) (by simp), hf1.size, fun k hk => (hk1 k hk).1⟩

theorem sleft_any (p : Nat) (g : Option Nat) (rest : List UInt8) (w : World) (h : isS w p g rest) :
    Calls Try.prog 15 #[.pointer (some ⟨p, 0, none⟩)] w fun e w' => e = .returned (.int .i64 (rest.length : Nat)) ∧ w = w' := by
  obtain ⟨v, hp, hv, hb, hne⟩ := h
  have hc0 := cell_of_heap hp 0
  simp only [List.getElem?_toArray, List.getElem?_cons_zero] at hc0
  obtain ⟨a, cap, rfl, -, -⟩ := hv.form
  go_enter Try.func15, Try.ntmps15
  go_wp2_with fail
  go_ret
  exact ⟨rfl, rfl⟩

set_option maxRecDepth 100000 in
theorem next_end (p : Nat) (g : Option Nat) (w : World) (h : isS w p g []) :
    Calls Try.prog 16 #[.pointer (some ⟨p, 0, none⟩)] w fun e w' => e = .returned (no3 7) ∧ w = w' := by
  have HL := Lib.hid (sleft_any p g [] w h)
  clear h
  go_enter Try.func16, Try.ntmps16
  go_wp2_with (go_at_call 15; refine HL.out.mono ?_; rintro e w1 ⟨rfl, rfl⟩; simp only [List.length_nil])
  go_ret3
  exact ⟨rfl, rfl⟩
set_option maxRecDepth 100000 in
theorem next_no (p : Nat) (g : Option Nat) (rest : List UInt8) (y : Nat) (w : World) (h : isS w p g rest) (hl : rest.length ≤ 1000000) (hpos : 0 < rest.length) (hy : whyF rest = y) (hy0 : 0 < y) :
    Calls Try.prog 16 #[.pointer (some ⟨p, 0, none⟩)] w fun e w' => e = .returned (no3 y) ∧ Fr [] w w' := by
  have HL := Lib.hid (sleft_any p g rest w h)
  obtain ⟨v, hp, hv, hb, hne⟩ := h
  have hc0 := cell_of_heap hp 0
  simp only [List.getElem?_toArray, List.getElem?_cons_zero] at hc0
  have HF := Lib.hid (find_no rest y v w hv hl hy hy0)
  have hd : ((y : Int) != 0) = true := by rw [bne_iff_ne]; omega
  have hd0 : ((rest.length : Int) == 0) = false := by rw [beq_eq_false_iff_ne]; omega
  obtain ⟨a, cap, rfl, -, -⟩ := hv.form
  clear hv hb hne hp hy hy0
  go_enter Try.func16, Try.ntmps16
  go_wp2_with (first
    | (go_at_call 15; refine HL.out.mono ?_; rintro e w1 ⟨rfl, rfl⟩)
    | (go_at_call 26; refine HF.out.mono ?_; rintro e w1 ⟨rfl, hf1⟩; unfold noneV))
  go_ret3
  exact ⟨rfl, hf1.trans (Fr.alloc _ _) (by simp) (by simp)⟩

/-- What Next gives where a frame is there. -/
def Nexted (p : Nat) (g : Option Nat) (rest : List UInt8) (w : World) (e : Ending) (w' : World) : Prop :=
  ∃ v, e = .returned (.tuple #[.int .u8 ((kindF rest).toNat : Int), v, .int .i64 0]) ∧ bytesAt w' v (loadF rest) ∧ isS w' p g (restF rest) ∧ Fr [p] w w'
set_option maxRecDepth 100000 in
theorem next_yes (p : Nat) (g : Option Nat) (rest : List UInt8) (w : World) (h : isS w p g rest) (hl : rest.length ≤ 1000000) (hy : whyF rest = 0) :
    Calls Try.prog 16 #[.pointer (some ⟨p, 0, none⟩)] w (Nexted p g rest w) := by
  have hpos : 0 < rest.length := by have := (whyF_ok hy).2.1; omega
  have hplt := h.lt
  have HL := Lib.hid (sleft_any p g rest w h)
  obtain ⟨v, hp, hv, hb, hne⟩ := h
  have hc0 := cell_of_heap hp 0
  simp only [List.getElem?_toArray, List.getElem?_cons_zero] at hc0
  have HF := Lib.hid (find_yes rest v w hv hl hy)
  have hll : (loadF rest).length ≤ 140737488355328 := by have := (found_seal hy).2; omega
  have hd0 : ((rest.length : Int) == 0) = false := by rw [beq_eq_false_iff_ne]; omega
  obtain ⟨a, cap, rfl, -, -⟩ := hv.form
  clear hv
  go_enter Try.func16, Try.ntmps16
  go_wp2_with (first
    | (go_at_call 15; refine HL.out.mono ?_; rintro e w1 ⟨rfl, rfl⟩)
    | (go_at_call 26; refine HF.out.mono ?_; rintro e w1 ⟨lv, rv, rfl, hb1, hb2, hk1, hk2, hf1⟩; unfold foundV; obtain ⟨a1, n1, c1, rfl⟩ := hb1.slice; obtain ⟨a2, n2, c2, rfl⟩ := hb2.slice; have hp1 := (Fr.alloc w1 (.cells #[.int .u8 ((kindF rest).toNat : Int), .slice a1 n1 c1, .slice a2 n2 c2] 54)).heap (hf1.heap hp (by simp)) (by simp); have hcp := cell_of_heap hp1 0; have hzp := free_of_heap hp1 0; simp only [List.getElem?_toArray, List.getElem?_cons_zero] at hcp))
  have hrow : ((w1.alloc (.cells #[.int .u8 ((kindF rest).toNat : Int), .slice a1 n1 c1, .slice a2 n2 c2] 54)).setCell ⟨p, 0, none⟩ (.slice a2 n2 c2)).heap[w1.heap.size]? = some (.cells #[.int .u8 ((kindF rest).toNat : Int), .slice a1 n1 c1, .slice a2 n2 c2] 54 (0, 0)) := by
    rw [Below.heap_setCell _ _ _ _ (by have := hf1.size; simp; omega)]; exact heap_alloc_new w1 _
  have hps := heap_setCell_same hp1 (i := 0) (.slice a2 n2 c2)
  have hfs := Fr.set0 (w1.alloc (.cells #[.int .u8 ((kindF rest).toNat : Int), .slice a1 n1 c1, .slice a2 n2 c2] 54)) p 0 (.slice a2 n2 c2)
  have hfa := hf1.trans (Fr.alloc w1 (.cells #[.int .u8 ((kindF rest).toNat : Int), .slice a1 n1 c1, .slice a2 n2 c2] 54)) (by simp) (n := []) (by simp)
  have hfr2 := hfa.trans hfs (by simp) (n := [p]) (by simp)
  have hgp : ∀ k, g = some k → k ≠ p := by rintro k rfl rfl; exact hne rfl
  have hb3 := (hb1.below (Fr.alloc w1 (.cells #[.int .u8 ((kindF rest).toNat : Int), .slice a1 n1 c1, .slice a2 n2 c2] 54))).kept hfs (fun q hq _ _ => by simpa using hgp q (hb q (hk1 q hq)))
  have hb4 := (hb2.below (Fr.alloc w1 (.cells #[.int .u8 ((kindF rest).toNat : Int), .slice a1 n1 c1, .slice a2 n2 c2] 54))).kept hfs (fun q hq _ _ => by simpa using hgp q (hb q (hk2 q hq)))
  have hsnew : isS ((w1.alloc (.cells #[.int .u8 ((kindF rest).toNat : Int), .slice a1 n1 c1, .slice a2 n2 c2] 54)).setCell ⟨p, 0, none⟩ (.slice a2 n2 c2)) p g (restF rest) := ⟨_, hps, hb4, fun q hq => hb q (hk2 q hq), hne⟩
  obtain ⟨w2, hw2⟩ : ∃ w2, w2 = (w1.alloc (.cells #[.int .u8 ((kindF rest).toNat : Int), .slice a1 n1 c1, .slice a2 n2 c2] 54)).setCell ⟨p, 0, none⟩ (.slice a2 n2 c2) := ⟨_, rfl⟩
  rw [← hw2] at hrow hfr2 hb3 hsnew ⊢
  clear hw2 hb1 hb2 hps hfs hb4 hfa hcp hzp hp1
  refine wp_region_G [] [(0, false), (1, false), (2, false), (3, false), (4, true), (5, false), (6, false), (7, false)] 31 rfl (by kernel_rfl) (by kernel_rfl) (by kernel_rfl) (fun c a d v w h => by cases d <;> exact h) (fun w3 hf3 => ?_)
  simp only [List.map_cons, List.map_nil, List.getElem?_toArray, List.getElem?_cons_succ, List.getElem?_cons_zero, Option.getD_some]
  have HLD := Lib.hid (fun w' (hw' : Fr [] w3 w') => three_of_heap (hw'.heap (hf3.heap hrow (by simp)) (by simp)))
  repeat (apply wpG_t; · (intro w' hf'; obtain ⟨hc0, hc1, -, -, -, -⟩ := HLD.out w' hf'; go_wp2_with fail; exact ⟨rfl, rfl⟩))
  refine wpG_x ?_
  go_wp2_with (go_at_call 27; refine (fclone_any _ _ w3 (hb3.below hf3) hll).mono ?_; rintro e w4 ⟨v4, rfl, hb4, hk4, hf4⟩)
  refine ⟨hf4, rfl, ?_⟩
  repeat (apply wpG_t; · (intro w' hf'; go_wp2_with fail; exact ⟨rfl, rfl⟩))
  refine wpG_end ?_
  go_wp2_with fail
  go_ret3
  have hf24 := hf3.trans hf4 (by simp) (n := []) (by simp)
  exact ⟨_, rfl, hb4, hsnew.below hf24, hfr2.trans hf24 (by simp) (by simp)⟩
end Go.Proofs.Ytijdffpekonklaa
