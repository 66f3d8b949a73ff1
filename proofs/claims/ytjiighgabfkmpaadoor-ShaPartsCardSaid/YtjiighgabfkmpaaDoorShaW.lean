/- The document's answers Root and Begin; Fill of a number below 0; a state that a call is handed. -/
import Derived.Test.YtjiighgabfkmpaaDoorShaV
import Derived.Test.YtjiighgabfkmpaaDoorShaF
import Derived.Test.YtjiighgabfkmpaaDoorShaLaid
namespace Go.Proofs.YtjiighgabfkmpaaDoor
open Go.RowKit

theorem primeL_length : primeL.length = 64 := rfl
theorem root_kk_at (i : Nat) (h : i < 64) : rootN (primeL[i]'(by rw [primeL_length]; exact h)) 3 = kk[i]'(by rw [kk_length]; exact h) := by
  have h1 : (primeL.map fun p => rootN p 3)[i]? = kk[i]? := by rw [root_kk]
  rw [List.getElem?_map, List.getElem?_eq_getElem (by rw [primeL_length]; exact h), List.getElem?_eq_getElem (by rw [kk_length]; exact h)] at h1
  exact Option.some.inj h1
theorem root_begin_at (i : Nat) (h : i < 8) : rootN (primeL[i]'(by rw [primeL_length]; omega)) 2 = beginSt.list[i]'(by rw [St.list_length]; exact h) := by
  have h1 : ((primeL.take 8).map fun p => rootN p 2)[i]? = beginSt.list[i]? := by rw [root_begin]
  rw [List.getElem?_map, List.getElem?_take, if_pos h, List.getElem?_eq_getElem (by rw [primeL_length]; omega), List.getElem?_eq_getElem (by rw [St.list_length]; exact h)] at h1
  exact Option.some.inj h1
set_option maxRecDepth 100000 in
theorem ref_rootE_any (i : Nat) (w : World) (hi : i < 64) :
    Calls Tryd.prog 9 #[.int .i64 i] w fun e w' => e = .returned (.int .u32 ((kk[i]'(by rw [kk_length]; exact hi) : Nat) : Int)) ∧ Fr [] w w' := by
  have hn := ref_nth_any i w (by rw [primeL_length]; exact hi)
  have hk := root_kk_at i hi
  have hp := (primeL_pos _ (List.getElem_mem (by rw [primeL_length]; exact hi))).2
  obtain ⟨p, hpp⟩ : ∃ p, p = primeL[i]'(by rw [primeL_length]; exact hi) := ⟨_, rfl⟩
  rw [← hpp] at hn hk hp
  rw [← hk]
  have HN := Lib.hid hn
  have HR := Lib.hid (ref_root_any p 3 w hp (Or.inr rfl))
  clear hn hk hpp
  go_enter Tryd.func9, Tryd.ntmps9
  go_wp2_with (first
    | (go_at_call 23; refine HN.out.mono ?_; rintro e w1 ⟨rfl, rfl⟩)
    | (go_at_call 22; refine HR.out.mono ?_; rintro e w1 ⟨rfl, hf⟩))
  go_ret
  exact ⟨rfl, hf⟩
/-- The beginning, k of it, and zeros behind it. -/
def begA (k : Nat) : Array Value := ((beginSt.list.take k ++ List.replicate (8 - k) 0).map fun (x : Nat) => Value.int .u32 (x : Int)).toArray
theorem begA_size (k : Nat) (h : k ≤ 8) : (begA k).size = 8 := by simp [begA, St.list_length]; omega
theorem begA_set (k : Nat) (h : k < 8) : (begA k).setIfInBounds k (.int .u32 ((beginSt.list[k]'(by rw [St.list_length]; exact h) : Nat) : Int)) = begA (k + 1) := by
  match k, h with
  | 0, _ | 1, _ | 2, _ | 3, _ | 4, _ | 5, _ | 6, _ | 7, _ => rfl
theorem begA_zero : begA 0 = stC zeroSt := rfl
theorem begA_end : begA 8 = stC beginSt := rfl
theorem begA_cell (k i : Nat) (hk : k ≤ 8) (h : i < 8) : ∃ v, (begA k)[i]? = some v := ⟨_, Array.getElem?_eq_getElem (by rw [begA_size k hk]; exact h)⟩
def BegRel (w : World) (g0 g1 : Nat) (Z : Array Value) (k : Nat) (wr : World) : Prop :=
  wr.heap[g0]? = some (.cells Z 29 (0, 0)) ∧ wr.heap[g1]? = some (.cells (begA k) 29 (0, 0)) ∧ Fr [] w wr
set_option maxRecDepth 100000 in
theorem ref_beginE_any (w : World) : Calls Tryd.prog 12 #[] w fun e w' => e = .returned (.agg (stC beginSt)) ∧ Fr [] w w' := by
  obtain ⟨Z, hZ⟩ : ∃ Z, Z = stC zeroSt := ⟨_, rfl⟩
  have hiz := infoN8
  rw [← hZ] at hiz
  have HI := Lib.hid hiz
  have HZ0 := Lib.hid (show Z = begA 0 from hZ)
  have HO := Lib.hid (show Z.size = (stC beginSt).size by rw [hZ, stC_size, stC_size])
  clear hiz hZ
  go_enter Tryd.func12, Tryd.ntmps12
  go_wp2_with (first
    | (have hprev := hf1; clear hprev; refine wpL_newArr rfl 29 rfl Z HI.out ?_; intro w2 hh2 hf2 hs2)
    | (refine wpL_newArr rfl 29 rfl Z HI.out ?_; intro w1 hh1 hf1 hs1))
  have hfr : Fr [] w w2 := hf1.trans hf2 (by simp) (by simp)
  have hg0 := hf2.heap hh1.out (by simp)
  have hg1 := hh2.out
  have hn1 : w.heap.size ≤ w1.heap.size := by have := hs1.out; omega
  have hne : w.heap.size ≠ w1.heap.size := by have := hs1.out; omega
  clear hh1 hh2 hf1 hf2 hs1 hs2
  obtain ⟨g0, hg0e⟩ : ∃ g, g = w.heap.size := ⟨_, rfl⟩
  obtain ⟨g1, hg1e⟩ : ∃ g, g = w1.heap.size := ⟨_, rfl⟩
  rw [← hg0e] at hg0 hn1 hne ⊢
  rw [← hg1e] at hg1 hn1 hne ⊢
  have HG0E := Lib.hid hg0e
  clear hg1e hg0e
  go_loopw [2] (fun i wr => ∃ k : Nat, k ≤ 8 ∧ i = .int .i64 (k : Int) ∧ BegRel w g0 g1 Z k wr) (fun i _ => 8 - (intOf i).toNat)
  case atStart => exact ⟨0, by omega, rfl, hg0, by rw [← HZ0.out]; exact hg1, hfr⟩
  case round =>
    clear hg0 hg1 hfr
    obtain ⟨k, hk, rfl, hr0, hr1, hf⟩ := hrel
    by_cases hk8 : k < 8
    · have hd : decide ((k : Int) < 8) = true := decide_eq_true (by omega)
      have hN := ref_nth_any k wr (by rw [primeL_length]; omega)
      have hkb := root_begin_at k hk8
      have hset := begA_set k hk8
      have hp := (primeL_pos _ (List.getElem_mem (by rw [primeL_length]; omega : k < primeL.length))).2
      obtain ⟨p, hpp⟩ : ∃ p, p = primeL[k]'(by rw [primeL_length]; omega) := ⟨_, rfl⟩
      rw [← hpp] at hN hkb hp
      rw [← hkb] at hset
      obtain ⟨r, hr⟩ : ∃ r, r = rootN p 2 := ⟨_, rfl⟩
      have hR := ref_root_any p 2 wr hp (Or.inl rfl)
      rw [← hr] at hset hR
      have HN := Lib.hid hN
      have HR := Lib.hid hR
      have HSET := Lib.hid hset
      have H0 := Lib.hid hr0
      have H1 := Lib.hid hr1
      clear hN hR hset hr hkb hpp hr0 hr1
      go_wp2_with (first
        | (go_at_call 23; refine HN.out.mono ?_; rintro e w3 ⟨rfl, rfl⟩)
        | (go_at_call 22; refine HR.out.mono ?_; rintro e w4 ⟨rfl, hf4⟩; have hq0 := hf4.heap H0.out (by simp); have hq1 := hf4.heap H1.out (by simp); have hfree := free_of_heap hq1 k; obtain ⟨c, hc⟩ := begA_cell k k hk hk8; have hck : w4.cell? ⟨g1, k, none⟩ = some c := (by rw [cell_of_heap hq1, hc])))
      have h0 := (Fr.set0 w4 g1 k (.int .u32 (r : Int))).heap hq0 (by simpa using hne)
      have h1 := heap_setCell_same hq1 (v := .int .u32 (r : Int)) (i := k)
      rw [HSET.out] at h1
      exact ⟨⟨k + 1, by omega, by go_num, h0, h1, (hf.trans hf4 (by simp) (n := []) (by simp)).trans (Fr.set0 w4 g1 k _) (by simp) (by simp; have := HG0E.out; omega)⟩, by simp [intOf]; omega⟩
    · have hd : decide ((k : Int) < 8) = false := decide_eq_false (by omega)
      rw [show k = 8 from by omega, begA_end] at hr1
      have H0 := Lib.hid hr0
      have H1 := Lib.hid hr1
      obtain ⟨L, hL⟩ : ∃ L, L = stC beginSt := ⟨_, rfl⟩
      have HSZ := Lib.hid (sizeN8 beginSt)
      have HON := Lib.hid (stC_one beginSt)
      rw [← hL] at H1 HSZ HO HON
      clear hr0 hr1
      go_wp2_with (refine wpList_load_row rfl 29 _ rfl g1 rfl 29 L (0, 0) _ H1.out Tryd.underlying29 rfl HSZ.out ?_; refine wpL_storeArr rfl 29 (.tmp 0) (.tmp 12) rfl g0 L Z rfl rfl 29 H0.out HSZ.out HO.out HON.out ?_; intro w4 hh4 hf4 hs4)
      refine bodyPost_ret (v := .agg L) ?_ rfl ⟨by rw [hL], hf.trans hf4 (by simp) (by simp; have := HG0E.out; omega)⟩
      exact results_cell_row rfl _ _ g0 29 L (0, 0) _ rfl hh4.out Tryd.underlying29 rfl HSZ.out

theorem fill_neg (n : Int) (w : World) (hn : n < 0) :
    Calls Tryd.prog 13 #[.int .i64 n] w fun e w' => e = .returned (.slice none 0 0) ∧ w = w' := by
  have hd : decide (n < 0) = true := decide_eq_true hn
  go_enter Tryd.func13, Tryd.ntmps13
  go_wp2
  go_ret
  exact ⟨rfl, rfl⟩
end Go.Proofs.YtjiighgabfkmpaaDoor
