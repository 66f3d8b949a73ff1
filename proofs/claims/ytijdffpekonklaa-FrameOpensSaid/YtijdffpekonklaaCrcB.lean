/- Contract of package crc's Table. -/
import Derived.Test.YtijdffpekonklaaCrcA
namespace Go.Proofs.Ytijdffpekonklaa
open Go.RowKit

theorem low_lt (v : Nat) (h : 0 < v) : v &&& (v - 1) < v := by
  have := Nat.and_le_right (n := v) (m := v - 1)
  omega
theorem low_rest : ∀ v, v < 256 → v &&& (v - 1) ≠ 0 → v ^^^ (v &&& (v - 1)) < v := by decide +kernel
theorem crcTab_first : crcTab 1 = crcTab 0 := by
  apply Array.ext_getElem?
  intro i
  by_cases hi : i < 256
  · rw [crcTab_get _ _ hi, crcTab_get _ _ hi]
    by_cases h0 : i = 0
    · subst h0; simp [crcN_zero]
    · rw [if_neg (by omega), if_neg (by omega)]
  · rw [Array.getElem?_eq_none (by rw [crcTab_size]; omega), Array.getElem?_eq_none (by rw [crcTab_size]; omega)]
theorem infoT : (Try.prog.info? 69).map (fun i => i.zero) = some (some (.agg (crcTab 0))) := by kernel_rfl
theorem sizeT : (Try.prog.info? 69).map (·.size) = some 256 := by kernel_rfl

def TabRel (w : World) (g0 g1 : Nat) (s : Value) (wr : World) : Prop :=
  ∃ k : Nat, 1 ≤ k ∧ k ≤ 256 ∧ s = .int .i64 (k : Int) ∧ wr.heap[g1]? = some (.cells (crcTab k) 69 (0, 0)) ∧ wr.heap[g0]? = some (.cells (crcTab 0) 69 (0, 0)) ∧ Fr [] w wr
set_option maxRecDepth 100000 in
theorem table_any (w : World) : Calls Try.prog 31 #[] w fun e w' => e = .returned (.agg (crcTab 256)) ∧ Fr [] w w' := by
  go_enter Try.func31, Try.ntmps31
  go_wp2_with (refine wpL_newArr rfl 69 rfl (crcTab 0) infoT ?_; intro w1 hh1 hf1 hs1)
  rename_i w0 hh0 hf0 hs0 K0 a0
  have hne : w.heap.size ≠ w0.heap.size := by have := hs0.out; omega
  have hlt : w.heap.size ≤ w0.heap.size := hf0.size
  obtain ⟨g1, hg1⟩ : ∃ g, g = w0.heap.size := ⟨_, rfl⟩
  have hh0' := hf1.heap hh0.out (by simp)
  have hh1' := hh1.out
  have hf01 : Fr [] w w1 := hf0.trans hf1 (by simp) (by simp)
  rw [← hg1] at hh1' hne hlt ⊢
  clear hg1 hh0 hh1 hs0 hs1 hf0 hf1
  go_loopw [2] (TabRel w w.heap.size g1) (fun i _ => 256 - (intOf i).toNat)
  case atStart => exact ⟨1, by omega, by omega, rfl, by rw [crcTab_first]; exact hh1', hh0', hf01⟩
  case round =>
    clear hh0' hh1' hf01
    obtain ⟨k, hk1, hk2, rfl, hr1, hr0, hf⟩ := hrel
    by_cases hk : k < 256
    · have hd : decide ((k : Int) < 256) = true := decide_eq_true (by omega)
      have hk' : (k : Int) < 256 := by omega
      have hfree := free_of_heap hr1 k
      have hand : bits .and .i64 (k : Int) ((k : Int) - 1) = ((k &&& (k - 1) : Nat) : Int) := by
        rw [← i64_and_nat k (k - 1) (by omega) (by omega), show ((k - 1 : Nat) : Int) = (k : Int) - 1 from by omega]
      have hlow := low_lt k (by omega)
      have hset := crcTab_set k hk
      obtain ⟨rest, hre⟩ : ∃ rest, rest = k &&& (k - 1) := ⟨_, rfl⟩
      have hHeap : ∀ v, (wr.setCell ⟨g1, k, none⟩ v).heap[g1]? = some (.cells ((crcTab k).setIfInBounds k v) 69 (0, 0)) := fun v => heap_setCell_same hr1 v
      have hHeap0 : ∀ v, (wr.setCell ⟨g1, k, none⟩ v).heap[w.heap.size]? = some (.cells (crcTab 0) 69 (0, 0)) := fun v => (Fr.set0 wr g1 k v).heap hr0 (by simpa using hne)
      have hFr : ∀ v, Fr [] w (wr.setCell ⟨g1, k, none⟩ v) := fun v => hf.trans (Fr.set0 wr g1 k v) (by simp) (by simp; omega)
      rw [← hre] at hand hlow
      have hrest : rest = 0 ∨ (rest ≠ 0 ∧ k ^^^ rest < k) := by
        by_cases h0 : rest = 0
        · exact .inl h0
        · exact .inr ⟨h0, by rw [hre] at h0 ⊢; exact low_rest k hk h0⟩
      have hcells : ∀ j, j < k → wr.cell? ⟨g1, j, none⟩ = some (.int .u32 ((crcN 8 j : Nat) : Int)) := fun j hj => by
        rw [cell_of_heap hr1, crcTab_get _ _ (by omega), if_pos hj]
      have hck : wr.cell? ⟨g1, k, none⟩ = some (.int .u32 ((0 : Nat) : Int)) := by
        rw [cell_of_heap hr1, crcTab_get _ _ hk, if_neg (by omega)]
      have H1 := Lib.hid hHeap
      have H2 := Lib.hid hHeap0
      have H3 := Lib.hid hFr
      have H4 := Lib.hid hset
      have H5 := Lib.hid hr1
      have H6 := Lib.hid hr0
      clear hHeap hHeap0 hFr hset hre hr1 hr0
      rcases hrest with rfl | ⟨h0, hx⟩
      · clear hcells
        go_wp2_with (go_at_call 44; refine (shift_any k _ (by omega)).mono ?_; rintro e w2 ⟨rfl, rfl⟩)
        refine ⟨⟨k + 1, by omega, by omega, rfl, ?_, H2.out _, H3.out _⟩, by simp [intOf]; omega⟩
        rw [← H4.out]; exact H1.out _
      · have hc1 := hcells rest hlow
        have hc2 := hcells (k ^^^ rest) hx
        have hxor := i64_xor_nat k rest (by omega) (by omega)
        have hr0' : ((rest : Int) == 0) = false := by rw [beq_eq_false_iff_ne]; omega
        have hsum : crcN 8 rest ^^^ crcN 8 (k ^^^ rest) = crcN 8 k := by
          rw [← crcN_xor, Nat.xor_comm k rest, xor_self_left]
        have hput := u32_xor_nat (crcN 8 rest) (crcN 8 (k ^^^ rest)) (crcN_lt _ _ (by omega)) (crcN_lt _ _ (by omega))
        rw [hsum] at hput
        obtain ⟨y, hy⟩ : ∃ y, y = k ^^^ rest := ⟨_, rfl⟩
        rw [← hy] at hc2 hxor hx hput
        have hy' : (y : Int) < 256 := by omega
        have hrl : (rest : Int) < 256 := by omega
        clear hcells hsum hy
        go_wp2_with fail
        go_region
        go_wp2_with fail
        refine ⟨⟨k + 1, by omega, by omega, rfl, ?_, H2.out _, (H3.out _).trans (Fr.drew _) (by simp) (by simp)⟩, by simp [intOf]; omega⟩
        rw [← H4.out]; exact H1.out _
    · obtain rfl : k = 256 := by omega
      have hsz : (Try.prog.info? 69).map (·.size) = some (crcTab 256).size := by rw [crcTab_size]; exact sizeT
      have hold : (crcTab 0).size = (crcTab 256).size := by rw [crcTab_size, crcTab_size]
      have hone := crcTab_one 256
      have H5 := Lib.hid hr1
      have H6 := Lib.hid hr0
      clear hk hr1 hr0
      have HS := Lib.hid hsz
      have HO := Lib.hid hold
      have HN := Lib.hid hone
      clear hsz hold hone
      go_wp2_with (refine wpList_load_row rfl 69 _ rfl g1 rfl 69 (crcTab 256) (0, 0) _ H5.out Try.underlying69 rfl HS.out ?_; refine wpL_storeArr rfl 69 (.tmp 0) (.tmp 30) rfl w.heap.size (crcTab 256) (crcTab 0) rfl rfl 69 H6.out HS.out HO.out HN.out ?_; intro w3 hh3 hf3 hs3)
      refine bodyPost_ret (v := .agg (crcTab 256)) ?_ rfl ⟨rfl, hf.trans hf3 (by simp) (by simp)⟩
      exact results_cell_row rfl _ _ w.heap.size 69 (crcTab 256) (0, 0) _ rfl hh3.out Try.underlying69 rfl HS.out
end Go.Proofs.Ytijdffpekonklaa
