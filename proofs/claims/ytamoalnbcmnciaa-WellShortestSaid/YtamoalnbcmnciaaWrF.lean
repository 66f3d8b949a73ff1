/- The law's awake (layer 15), over any program that does what it must. -/
import Derived.Test.YtamoalnbcmnciaaDt
import Derived.Test.YtamoalnbcmnciaaMm
import Derived.Test.YtamoalnbcmnciaaGa
import Derived.Deep.DeepCutAuto
namespace Go.Proofs.Ytamoalnbcmnciaa
open Go.RowKit

/-- New blocks, one behind the other. -/
def allocL (w : World) : List Obj → World
  | [] => w
  | o :: l => allocL (w.alloc o) l
theorem allocL_fr : ∀ (l : List Obj) (w : World), Fr [] w (allocL w l)
  | [], w => Fr.refl _ w
  | o :: l, w => (Fr.alloc w o).trans (allocL_fr l _) (by simp) (by simp)
theorem allocL_size : ∀ (l : List Obj) (w : World), (allocL w l).heap.size = w.heap.size + l.length
  | [], w => rfl
  | o :: l, w => by rw [allocL, allocL_size l, World.size_alloc, List.length_cons]; omega
theorem allocL_heap : ∀ (l : List Obj) (w : World) (i : Nat) (o : Obj), l[i]? = some o → (allocL w l).heap[w.heap.size + i]? = some o
  | [], _, _, _, h => by simp at h
  | o :: l, w, 0, x, h => by
    have e : o = x := by simpa using h
    subst e
    have h1 : (w.alloc o).heap[w.heap.size]? = some o := heap_alloc_new w o
    exact (allocL_fr l (w.alloc o)).heap h1 (by simp)
  | o :: l, w, i + 1, x, h => by
    have := allocL_heap l (w.alloc o) i x (by simpa using h)
    rw [World.size_alloc] at this
    rw [allocL, show w.heap.size + (i + 1) = w.heap.size + 1 + i by omega]
    exact this
theorem cells_of_heap {w : World} {b : Nat} {t : TypeId} {cs : List Value} (h : w.heap[b]? = some (.cells cs.toArray t (0, 0))) (hm : cs.length ≤ maxLen) (n : Nat) (hn : n = cs.length) : cellsAt w (.slice (some ⟨b, 0, none⟩) n n) cs := by
  subst hn
  refine .inr ⟨b, 0, cs.length, rfl, Nat.le_refl _, hm, fun i hi => ?_⟩
  rw [cell_of_heap h]
  simp [hi]
theorem flat2 : ∀ (xs : List (List Value)) (i j : Nat) (u : Value), (∀ x ∈ xs, x.length = 2) → (h : i < xs.length) → (xs[i]'h)[j]? = some u → xs.flatten[i * 2 + j]? = some u
  | [], _, _, _, _, h, _ => by simp at h
  | x :: xs, 0, j, u, hs, _, hj => by
    have hj' : x[j]? = some u := hj
    have hjl := (List.getElem?_eq_some_iff.1 hj').1
    rw [List.flatten_cons, Nat.zero_mul, Nat.zero_add, List.getElem?_append_left hjl]
    exact hj'
  | x :: xs, i + 1, j, u, hs, h, hj => by
    have hx := hs x (by simp)
    rw [List.flatten_cons, List.getElem?_append_right (by rw [hx]; omega), hx, show (i + 1) * 2 + j - 2 = i * 2 + j by omega]
    exact flat2 xs i j u (fun y hy => hs y (by simp [hy])) (by simpa using h) (by simpa using hj)
theorem elems2_of_heap {w : World} {b : Nat} {t : TypeId} {xs : List (List Value)} (h : w.heap[b]? = some (.cells xs.flatten.toArray t (0, 0))) (hs : ∀ x ∈ xs, x.length = 2) (hm : xs.length ≤ maxLen) (n : Nat) (hn : n = xs.length) : elemsAt w (.slice (some ⟨b, 0, none⟩) n n) 2 xs := by
  subst hn
  refine .inr ⟨b, 0, xs.length, rfl, Nat.le_refl _, hm, (Array.getElem?_eq_some_iff.1 h).1, fun i hi => ⟨hs _ (List.getElem_mem hi), fun j u hj => ?_⟩⟩
  rw [cell_of_heap h]
  have := flat2 xs i j u hs hi hj
  simp only [List.getElem?_toArray, Nat.zero_add]
  exact this
def sl (b n : Nat) : Value := .slice (some ⟨b, 0, none⟩) n n
def LA (q : Nat) : List Obj := [.cells #[.string ⟨#[83]⟩, .string ⟨#[65]⟩] 9, .cells #[.string ⟨#[97]⟩] 9, .cells #[.int .i64 1] 3, .cells #[.int .i64 1, .int .i64 (-1)] 3,
  .cells #[.int .i64 0, sl (q + 1 + 1) 1, .int .i64 1, sl (q + 1 + 1 + 1) 2] 39, .cells #[sl q 2, sl (q + 1) 1, sl (q + 1 + 1 + 1 + 1) 2] 25]
def LB (q : Nat) : List Obj := [.cells #[.string ⟨#[83]⟩, .string ⟨#[66]⟩] 9, .cells #[.string ⟨#[97]⟩, .string ⟨#[98]⟩] 9, .cells #[.int .i64 (-1)] 3, .cells #[.int .i64 (-2)] 3,
  .cells #[.int .i64 0, sl (q + 1 + 1) 1, .int .i64 1, sl (q + 1 + 1 + 1) 1] 39, .cells #[sl q 2, sl (q + 1) 2, sl (q + 1 + 1 + 1 + 1) 2] 25]
def LC (q : Nat) : List Obj := [.cells #[.string ⟨#[83]⟩] 9, .cells #[.string ⟨#[97]⟩] 9, .cells #[.int .i64 (-1)] 3,
  .cells #[.int .i64 0, sl (q + 1 + 1) 1] 39, .cells #[sl q 1, sl (q + 1) 1, sl (q + 1 + 1 + 1) 1] 25]
theorem gramA (w : World) : gramAt (allocL w (LA w.heap.size)) (.agg #[sl w.heap.size 2, sl (w.heap.size + 1) 1, sl (w.heap.size + 1 + 1 + 1 + 1) 2]) exA := by
  have h := allocL_heap (LA w.heap.size) w
  refine ⟨_, _, _, rfl, cells_of_heap (h 0 _ rfl) (by decide) 2 rfl, cells_of_heap (h 1 _ rfl) (by decide) 1 rfl, [sl (w.heap.size + 1 + 1) 1, sl (w.heap.size + 1 + 1 + 1) 2], rfl, elems2_of_heap (xs := [[intV 0, sl (w.heap.size + 1 + 1) 1], [intV 1, sl (w.heap.size + 1 + 1 + 1) 2]]) (h 4 _ rfl) (fun x hx => (by simpa using hx : x = _ ∨ x = _).elim (fun e => by rw [e]; rfl) (fun e => by rw [e]; rfl)) (show 2 ≤ maxLen by decide) 2 rfl, fun i a b => ?_⟩
  have hi : i < 2 := a
  rcases (by omega : i = 0 ∨ i = 1) with rfl | rfl
  · exact cells_of_heap (h 2 _ rfl) (by decide) 1 rfl
  · exact cells_of_heap (h 3 _ rfl) (by decide) 2 rfl
theorem gramB (w : World) : gramAt (allocL w (LB w.heap.size)) (.agg #[sl w.heap.size 2, sl (w.heap.size + 1) 2, sl (w.heap.size + 1 + 1 + 1 + 1) 2]) exB := by
  have h := allocL_heap (LB w.heap.size) w
  refine ⟨_, _, _, rfl, cells_of_heap (h 0 _ rfl) (by decide) 2 rfl, cells_of_heap (h 1 _ rfl) (by decide) 2 rfl, [sl (w.heap.size + 1 + 1) 1, sl (w.heap.size + 1 + 1 + 1) 1], rfl, elems2_of_heap (xs := [[intV 0, sl (w.heap.size + 1 + 1) 1], [intV 1, sl (w.heap.size + 1 + 1 + 1) 1]]) (h 4 _ rfl) (fun x hx => (by simpa using hx : x = _ ∨ x = _).elim (fun e => by rw [e]; rfl) (fun e => by rw [e]; rfl)) (show 2 ≤ maxLen by decide) 2 rfl, fun i a b => ?_⟩
  have hi : i < 2 := a
  rcases (by omega : i = 0 ∨ i = 1) with rfl | rfl
  · exact cells_of_heap (h 2 _ rfl) (by decide) 1 rfl
  · exact cells_of_heap (h 3 _ rfl) (by decide) 1 rfl
theorem gramC (w : World) : gramAt (allocL w (LC w.heap.size)) (.agg #[sl w.heap.size 1, sl (w.heap.size + 1) 1, sl (w.heap.size + 1 + 1 + 1) 1]) exC := by
  have h := allocL_heap (LC w.heap.size) w
  refine ⟨_, _, _, rfl, cells_of_heap (h 0 _ rfl) (by decide) 1 rfl, cells_of_heap (h 1 _ rfl) (by decide) 1 rfl, [sl (w.heap.size + 1 + 1) 1], rfl, elems2_of_heap (xs := [[intV 0, sl (w.heap.size + 1 + 1) 1]]) (h 3 _ rfl) (fun x hx => by rw [(by simpa using hx : x = _)]; rfl) (show 1 ≤ maxLen by decide) 1 rfl, fun i a b => ?_⟩
  have hi : i < 1 := a
  obtain rfl : i = 0 := by omega
  exact cells_of_heap (h 2 _ rfl) (by decide) 1 rfl
set_option maxRecDepth 100000 in
set_option maxHeartbeats 4000000 in
theorem lawake_any (hC : ProgCheck) (w : World) : Calls Try.prog 6 #[] w fun e w' => e = .returned (.bool true) ∧ Fr [] w w' := by
  obtain ⟨wa, hwa⟩ : ∃ x, x = allocL w (LA w.heap.size) := ⟨_, rfl⟩
  obtain ⟨wb, hwb⟩ : ∃ x, x = allocL wa (LB wa.heap.size) := ⟨_, rfl⟩
  obtain ⟨wc, hwc⟩ : ∃ x, x = allocL wb (LC wb.heap.size) := ⟨_, rfl⟩
  have hga := gramA w
  have hgb := gramB wa
  have hgc := gramC wb
  have hfa := allocL_fr (LA w.heap.size) w
  have hfb := allocL_fr (LB wa.heap.size) wa
  have hfc := allocL_fr (LC wb.heap.size) wb
  have ha := allocL_heap (LA w.heap.size) w 5 _ rfl
  have hb := allocL_heap (LB wa.heap.size) wa 5 _ rfl
  have hc := allocL_heap (LC wb.heap.size) wb 4 _ rfl
  rw [← hwa] at hga hfa ha
  rw [← hwb] at hgb hfb hb
  rw [← hwc] at hgc hfc hc
  have hbc := hfb.trans hfc (by simp) (n := []) (by simp)
  have HFF := Lib.hid (hfa.trans hbc (by simp) (n := []) (by simp))
  have HA := Lib.hid (fun wx (hf : Fr [] wc wx) => hC exA _ wx ((hga.below hbc).below hf) sizeA intA)
  have HB := Lib.hid (fun wx (hf : Fr [] wc wx) => hC exB _ wx ((hgb.below hfc).below hf) sizeB intB)
  have HC := Lib.hid (fun wx (hf : Fr [] wc wx) => hC exC _ wx (hgc.below hf) sizeC intC)
  rw [checkA] at HA
  rw [checkB] at HB
  rw [checkC] at HC
  have ha' := hbc.heap ha (by simp)
  have hb' := hfc.heap hb (by simp)
  have HWA := Lib.hid hwa
  have HWB := Lib.hid hwb
  have HWC := Lib.hid hwc
  clear hwa hwb hwc hga hgb hgc hfa hfb hfc ha hb hbc
  go_enter Try.func6, Try.ntmps6
  go_upto_region 2 with fail
  change Code.wp Try.prog _ _ _ (allocL w (LA w.heap.size))
  rw [← HWA.out]
  go_upto_region 3 with fail
  change Code.wp Try.prog _ _ _ (allocL wa (LB wa.heap.size))
  rw [← HWB.out]
  go_upto_region 4 with fail
  change Code.wp Try.prog _ _ _ (allocL wb (LC wb.heap.size))
  rw [← HWC.out]
  have HBA := Lib.hid ha'
  have HBB := Lib.hid hb'
  have HBC := Lib.hid hc
  clear ha' hb' hc HWA HWB HWC
  obtain ⟨qa, hqa⟩ : ∃ q, q = w.heap.size := ⟨_, rfl⟩
  obtain ⟨qb, hqb⟩ : ∃ q, q = wa.heap.size := ⟨_, rfl⟩
  obtain ⟨qc, hqc⟩ : ∃ q, q = wb.heap.size := ⟨_, rfl⟩
  rw [← hqa] at HA HBA ⊢
  rw [← hqb] at HB HBB ⊢
  rw [← hqc] at HC HBC ⊢
  clear hqa hqb hqc
  unfold sl at HA HB HC HBA HBB HBC
  obtain ⟨x0, x1, x2, -⟩ := three_of_heap HBA.out
  have H0 := Lib.hid (Fr.refl [] wc)
  go_wp2_with (first
    | (go_at_call 7; have := w2; refine (HC.out _ HF2.out).mono ?_; rintro e w3 ⟨rfl, hf3⟩; have HF3 := Lib.hid (HF2.out.trans hf3 (by simp) (n := []) (by simp)))
    | (go_at_call 7; have := w1; refine (HB.out _ HF1.out).mono ?_; rintro e w2 ⟨rfl, hf2⟩; have HF2 := Lib.hid (HF1.out.trans hf2 (by simp) (n := []) (by simp)); obtain ⟨x0, x1, x2, -⟩ := three_of_heap (HF2.out.heap HBC.out (by simp)))
    | (go_at_call 7; refine (HA.out _ H0.out).mono ?_; rintro e w1 ⟨rfl, hf1⟩; have HF1 := Lib.hid hf1; obtain ⟨x0, x1, x2, -⟩ := three_of_heap (hf1.heap HBB.out (by simp))))
  go_ret
  exact ⟨rfl, HFF.out.trans HF3.out (by simp) (by simp)⟩
end Go.Proofs.Ytamoalnbcmnciaa
