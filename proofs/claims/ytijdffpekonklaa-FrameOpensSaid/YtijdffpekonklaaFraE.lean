/- Contract of frame.find. -/
import Derived.Test.YtijdffpekonklaaFraD
import Derived.Laws.ResultCell
import Derived.Laws.Rows
import Derived.Test.YtijdffpekonklaaRegion
namespace Go.Proofs.Ytijdffpekonklaa
open Go.RowKit

theorem three_of_heap {w : World} {p : Nat} {a b c : Value} {t : TypeId} (h : w.heap[p]? = some (.cells #[a, b, c] t (0, 0))) :
    w.cell? ⟨p, 0, none⟩ = some a ∧ w.cell? ⟨p, 1, none⟩ = some b ∧ w.cell? ⟨p, 2, none⟩ = some c ∧ w.frozen? ⟨p, 0, none⟩ = false ∧ w.frozen? ⟨p, 1, none⟩ = false ∧ w.frozen? ⟨p, 2, none⟩ = false :=
  ⟨cell_of_heap h 0, cell_of_heap h 1, cell_of_heap h 2, free_of_heap h 0, free_of_heap h 1, free_of_heap h 2⟩
theorem heap_set3 {w : World} {p : Nat} {a b c x y z : Value} {t : TypeId} (h : w.heap[p]? = some (.cells #[a, b, c] t (0, 0))) :
    (((w.setCell ⟨p, 0, none⟩ x).setCell ⟨p, 1, none⟩ y).setCell ⟨p, 2, none⟩ z).heap[p]? = some (.cells #[x, y, z] t (0, 0)) := by
  rw [heap_setCell_same (heap_setCell_same (heap_setCell_same h _) _)]
  rfl
theorem Fr.set3 (w : World) (p : Nat) (x y z : Value) : Fr [p] w (((w.setCell ⟨p, 0, none⟩ x).setCell ⟨p, 1, none⟩ y).setCell ⟨p, 2, none⟩ z) :=
  ((Fr.set0 w p 0 x).trans (Fr.set0 _ p 1 y) (by simp) (n := [p]) (by simp)).trans (Fr.set0 _ p 2 z) (by simp) (by simp)
theorem results_cell2 {P : Program} {fn : Func} {p u : Tmp} {ty : TypeId} (h : fn.results = #[.cell p ty, .tmp u]) (tmps : Array Value) (w : World) (g : Nat) (t : TypeId) (cs : Array Value) (d : TypeDesc)
    (hp : tmps.getD p undef = .pointer (some ⟨g, 0, none⟩)) (hg : w.heap[g]? = some (.cells cs t (0, 0)))
    (hu : P.underlying ty = some d) (hd : (match d with | .struct _ | .array _ _ => true | _ => false) = true) (hi : (P.info? ty).map (·.size) = some cs.size) (v : Value) (hv : tmps.getD u undef = v) :
    (results fn tmps).run P w = .ok (.tuple #[.agg cs, v]) w := by
  rw [results_cell_tmp h, hp]
  subst hv
  simp [asAddr, run_loadVar_row w g t ty cs (0, 0) d hg hu hd hi]
theorem sizeFound : (Try.prog.info? 54).map (·.size) = some 3 := by kernel_rfl
def noneV (y : Nat) : Value := .tuple #[.agg #[.int .u8 0, .slice none 0 0, .slice none 0 0], .int .i64 (y : Int)]
set_option maxRecDepth 100000 in
theorem find_head (bs : List UInt8) (y : Nat) (sv : Value) (w : World) (h : bytesAt w sv bs) (hl : bs.length ≤ 1000000) (hy : (lenOf bs).1 = y) (hy0 : 0 < y) :
    Calls Try.prog 26 #[sv] w fun e w' => e = .returned (noneV y) ∧ Fr [] w w' := by
  have hwhy := (lenOf_bad (by omega : (lenOf bs).1 ≠ 0))
  obtain ⟨a0, n0, c0, rfl⟩ := h.slice
  have HL := Lib.hid (fun wx (hx : Fr [] w wx) => loadLen_any bs _ wx (h.below hx) hl)
  rw [hwhy.1] at HL
  rw [hy] at HL
  have hd : ((y : Int) != 0) = true := by rw [bne_iff_ne]; omega
  clear h hwhy hy hy0
  go_enter Try.func26, Try.ntmps26
  go_wp2_with (first
    | (go_at_call 38; refine (HL.out _ (Fr.alloc _ _)).mono ?_; rintro e w1 ⟨rfl, hf1⟩; obtain ⟨hc0, hc1, hc2, hz0, hz1, hz2⟩ := three_of_heap (hf1.heap (heap_alloc_new w _) (by simp))))
  refine bodyPost_ret (v := noneV y) (results_cell2 rfl _ _ w.heap.size 54 #[.int .u8 0, .slice none 0 0, .slice none 0 0] _ rfl (heap_set3 (hf1.heap (heap_alloc_new w _) (by simp))) Try.underlying54 rfl sizeFound _ rfl) rfl ⟨rfl, ?_⟩
  exact ((Fr.alloc w _).trans hf1 (by simp) (n := []) (by simp)).trans (Fr.set3 _ _ _ _ _) (by simp) (by simp)

/-- What holds of bytes whose head is in order: the length of the frame, as Len gives it. -/
theorem lenOf_end {bs : List UInt8} (h : (lenOf bs).1 = 0) : 5 + (form (lenOf bs).2.1).length + (lenOf bs).2.1 = endF bs + 4 ∧ (lenOf bs).2.1 ≤ 1048576 ∧ lenOf bs = (0, (lenOf bs).2.1, (lenOf bs).2.2) ∧ 0 < bs.length ∧ (lenOf bs).2.1 + 1 ≤ endF bs ∧ atF bs + (lenOf bs).2.1 = endF bs := by
  obtain ⟨k, r, n, d, rfl, hf, hn, hlen⟩ := lenOf_ok h
  obtain ⟨rest, h1, h2, h3⟩ := front_some hf
  simp only [endF, atF, hlen]
  refine ⟨by omega, hn, trivial, by simp, by omega, trivial⟩
set_option maxRecDepth 100000 in
theorem find_short (bs : List UInt8) (sv : Value) (w : World) (h : bytesAt w sv bs) (hl : bs.length ≤ 1000000) (hy : (lenOf bs).1 = 0) (hs : bs.length < endF bs + 4) :
    Calls Try.prog 26 #[sv] w fun e w' => e = .returned (noneV 2) ∧ Fr [] w w' := by
  obtain ⟨a0, c0, rfl, hle, hmx⟩ := h.form
  simp only [maxLen] at hmx
  obtain ⟨he, hn, hlo, hpos, hne, -⟩ := lenOf_end hy
  have HL := Lib.hid (fun wx (hx : Fr [] w wx) => loadLen_any bs _ wx (h.below hx) hl)
  rw [hy] at HL
  have HN := Lib.hid (fun wx => flen_yes (lenOf bs).2.1 wx hn)
  rw [he] at HN
  obtain ⟨n, hnn⟩ : ∃ n, n = (lenOf bs).2.1 := ⟨_, rfl⟩
  rw [← hnn] at HL HN
  have hd : decide (bs.length < endF bs + 4) = true := decide_eq_true hs
  have hd2 : decide ((bs.length : Int) < (endF bs : Int) + 4) = true := decide_eq_true (by omega)
  have hd3 : decide ((bs.length : Int) < ((endF bs + 4 : Nat) : Int)) = true := decide_eq_true (by omega)
  obtain ⟨L, hL⟩ : ∃ L, L = bs.length := ⟨_, rfl⟩
  obtain ⟨f, hf⟩ : ∃ f, f = endF bs := ⟨_, rfl⟩
  rw [← hL] at hd hd2 hd3 HL hl hle ⊢
  rw [← hf] at hd hd2 hd3 HN
  clear h he hn hlo hpos hne hnn hs hy hL hf
  go_enter Try.func26, Try.ntmps26
  go_wp2_with (first
    | (go_at_call 38; refine (HL.out _ (Fr.alloc _ _)).mono ?_; rintro e w1 ⟨rfl, hf1⟩; obtain ⟨hc0, hc1, hc2, hz0, hz1, hz2⟩ := three_of_heap (hf1.heap (heap_alloc_new w _) (by simp)))
    | (go_at_call 10; refine (HN.out _).mono ?_; rintro e w2 ⟨rfl, rfl⟩))
  refine bodyPost_ret (v := noneV 2) (results_cell2 rfl _ _ w.heap.size 54 #[.int .u8 0, .slice none 0 0, .slice none 0 0] _ rfl (heap_set3 (hf1.heap (heap_alloc_new w _) (by simp))) Try.underlying54 rfl sizeFound _ rfl) rfl ⟨rfl, ?_⟩
  exact ((Fr.alloc w _).trans hf1 (by simp) (n := []) (by simp)).trans (Fr.set3 _ _ _ _ _) (by simp) (by simp)
end Go.Proofs.Ytijdffpekonklaa
