/- Contracts of package sha: Root, Begin, Block, encode. -/
import Derived.Test.YtjiighgabfkmpaaDoorShaC
import Derived.Test.YtjiighgabfkmpaaDoorRegion
namespace Go.Proofs.YtjiighgabfkmpaaDoor
open Go.RowKit

theorem root_in (i : Nat) (w : World) (hi : i < 64) (hr : rootsAt w) :
    Calls Tryd.prog 11 #[.int .i64 i] w fun e w' => e = .returned (.int .u32 ((kk[i]'(by rw [kk_length]; exact hi) : Nat) : Int)) ∧ w = w' := by
  have hk := hr i (by rw [kk_length]; exact hi)
  have hd1 : decide ((i : Int) < 0) = false := decide_eq_false (by omega)
  have hd2 : decide (64 ≤ (i : Int)) = false := decide_eq_false (by omega)
  have hi' : (i : Int) < 64 := by omega
  go_enter Tryd.func11, Tryd.ntmps11
  go_wp2
  go_ret
  exact ⟨rfl, rfl⟩
theorem root_out (i : Int) (w : World) (hi : i < 0 ∨ 64 ≤ i) :
    Calls Tryd.prog 11 #[.int .i64 i] w fun e w' => e = .returned (.int .u32 0) ∧ w = w' := by
  rcases hi with hi | hi
  · have hd1 : decide (i < 0) = true := decide_eq_true hi
    go_enter Tryd.func11, Tryd.ntmps11
    go_wp2
    go_ret
    exact ⟨rfl, rfl⟩
  · have hd1 : decide (i < 0) = false := decide_eq_false (by omega)
    have hd2 : decide (64 ≤ i) = true := decide_eq_true hi
    go_enter Tryd.func11, Tryd.ntmps11
    go_wp2
    go_ret
    exact ⟨rfl, rfl⟩

theorem begin_any (w : World) : Calls Tryd.prog 10 #[] w fun e w' => e = .returned (.agg (stC beginSt)) ∧ Fr [] w w' := by
  obtain ⟨Z, hZ⟩ : ∃ Z, Z = stC zeroSt := ⟨_, rfl⟩
  have hiz := infoN8
  rw [← hZ] at hiz
  have HI := Lib.hid hiz
  have HO := Lib.hid (show Z.size = (stC beginSt).size by rw [hZ, stC_size, stC_size])
  clear hiz hZ
  go_enter Tryd.func10, Tryd.ntmps10
  go_wp2_with (first
    | (refine wpL_newArr rfl 29 rfl Z HI.out ?_; intro w1 hh1 hf1 hs1)
    | (refine wpL_storeArr rfl 29 (.tmp 0) (.tmp 1) rfl w.heap.size (stC beginSt) Z rfl rfl 29 hh1.out (sizeN8 beginSt) HO.out (stC_one beginSt) ?_; intro w2 hh2 hf2 hs2))
  refine bodyPost_ret (v := .agg (stC beginSt)) ?_ rfl ⟨rfl, hf1.trans hf2 (by simp) (by simp)⟩
  exact results_cell_row rfl _ _ w.heap.size 29 (stC beginSt) (0, 0) _ rfl hh2.out Tryd.underlying29 rfl (sizeN8 beginSt)

theorem infoB32 : (Tryd.prog.info? 24).map (fun i => i.zero) = some (some (.agg (cellsB (List.replicate 32 0)).toArray)) := by kernel_rfl
theorem sizeB32 : (Tryd.prog.info? 24).map (·.size) = some 32 := by kernel_rfl
/-- The bytes of a state, k of them, and zeros behind them. -/
def encK (s : St) (k : Nat) : List UInt8 := (encSt s).take k ++ List.replicate (32 - k) 0
theorem encK_length (s : St) (k : Nat) (h : k ≤ 32) : (encK s k).length = 32 := by simp [encK, encSt_length]; omega
theorem encK_set (s : St) (k : Nat) (h : k < 32) : (encK s k).set k ((encSt s)[k]'(by rw [encSt_length]; exact h)) = encK s (k + 1) := by
  have hl : ((encSt s).take k).length = k := by rw [List.length_take, encSt_length]; omega
  rw [encK, encK, show 32 - k = (32 - (k + 1)) + 1 from by omega, List.replicate_succ, List.set_append_right _ _ (by omega), hl, Nat.sub_self, List.set_cons_zero, List.take_succ_eq_append_getElem (by rw [encSt_length]; exact h), List.append_assoc]
  rfl
theorem encK_end (s : St) : encK s 32 = encSt s := by
  rw [encK, List.take_of_length_le (by rw [encSt_length]; exact Nat.le_refl _)]
  simp
theorem bytesC_set (l : List UInt8) (i : Nat) (c : UInt8) : (cellsB l).toArray.setIfInBounds i (.int .u8 (c.toNat : Int)) = (cellsB (l.set i c)).toArray := by
  simp [cellsB, List.map_set]
theorem stC_list (s : St) (i : Nat) (h : i < 8) : (stC s)[i]? = some (.int .u32 ((s.list[i]'(by rw [St.list_length]; exact h) : Nat) : Int)) := by
  match i, h with
  | 0, _ | 1, _ | 2, _ | 3, _ | 4, _ | 5, _ | 6, _ | 7, _ => rfl
theorem enc_put (s : St) (k : Nat) (h : k < 32) (x : Nat) (hx : x = s.list[k / 4]'(by rw [St.list_length]; omega)) : (((encSt s)[k]'(by rw [encSt_length]; exact h)).toNat : Int) = (x : Int) / 2 ^ (24 - 8 * (k % 4)) % 256 := by
  rw [encSt_get s k h, ← hx]
  have e : 256 ^ (3 - k % 4) = 2 ^ (24 - 8 * (k % 4)) := by
    have hr : k % 4 < 4 := Nat.mod_lt _ (by decide)
    rw [show (256 : Nat) = 2 ^ 8 from rfl, ← Nat.pow_mul]
    congr 1
    omega
  rw [e, UInt8.toNat_ofNat']
  simp

def EncRel (w : World) (g0 g1 g2 : Nat) (S Z : Array Value) (L : List UInt8) (wr : World) : Prop :=
  wr.heap[g0]? = some (.cells S 29 (0, 0)) ∧ wr.heap[g1]? = some (.cells Z 24 (0, 0)) ∧ wr.heap[g2]? = some (.cells (cellsB L).toArray 24 (0, 0)) ∧ Fr [] w wr
set_option maxRecDepth 100000 in
theorem encode_any (s : St) (w : World) :
    Calls Tryd.prog 28 #[.agg (stC s)] w fun e w' => e = .returned (.agg (cellsB (encSt s)).toArray) ∧ Fr [] w w' := by
  obtain ⟨S, hS⟩ : ∃ S, S = stC s := ⟨_, rfl⟩
  obtain ⟨Z, hZ⟩ : ∃ Z, Z = (cellsB (List.replicate 32 0)).toArray := ⟨_, rfl⟩
  have hiz := infoB32
  have hZ0 : Z = (cellsB (encK s 0)).toArray := by rw [hZ]; simp [encK]
  have hZs : Z.size = (cellsB (encSt s)).toArray.size := by rw [hZ]; simp [cellsB, encSt_length]
  rw [← hS]
  rw [← hZ] at hiz
  have HZ := Lib.hid hZ0
  have HZS := Lib.hid hZs
  have HS := Lib.hid hS
  have HI := Lib.hid hiz
  have HL := Lib.hid (stC_list s)
  clear hZ hiz hS hZ0 hZs
  go_enter Tryd.func28, Tryd.ntmps28
  go_wp2_with (first
    | (refine wpL_boxArr rfl 29 _ rfl S rfl ?_; intro w1 hh1 hf1 hs1; refine wpL_newArr rfl 24 rfl Z HI.out ?_; intro w2 hh2 hf2 hs2)
    | (refine wpL_newArr rfl 24 rfl Z HI.out ?_; intro w3 hh3 hf3 hs3))
  have hfr : Fr [] w w3 := (hf1.trans hf2 (by simp) (n := []) (by simp)).trans hf3 (by simp) (by simp)
  have hg0 := (hf2.trans hf3 (by simp) (n := []) (by simp)).heap hh1.out (by simp)
  have hg1 := hf3.heap hh2.out (by simp)
  have hg2 := hh3.out
  have hn1 : w.heap.size ≤ w1.heap.size := by have := hs1.out; omega
  have hn2 : w.heap.size ≤ w2.heap.size := by have := hs2.out; have := hs1.out; omega
  have hne1 : w1.heap.size ≠ w2.heap.size := by have := hs2.out; omega
  have hne0 : w.heap.size ≠ w2.heap.size := by have := hs2.out; have := hs1.out; omega
  clear hh1 hh2 hh3 hf1 hf2 hf3 hs1 hs2 hs3
  obtain ⟨g0, hg0e⟩ : ∃ g, g = w.heap.size := ⟨_, rfl⟩
  obtain ⟨g1, hg1e⟩ : ∃ g, g = w1.heap.size := ⟨_, rfl⟩
  obtain ⟨g2, hg2e⟩ : ∃ g, g = w2.heap.size := ⟨_, rfl⟩
  rw [← hg0e] at hg0 hn1 hn2 hne0 ⊢
  rw [← hg1e] at hg1 hn1 hne1 ⊢
  rw [← hg2e] at hg2 hn2 hne0 hne1 ⊢
  have HG0E := Lib.hid hg0e
  clear hg1e hg2e hg0e
  go_loopw [5] (fun i wr => ∃ k : Nat, k ≤ 32 ∧ i = .int .i64 (k : Int) ∧ EncRel w g0 g1 g2 S Z (encK s k) wr) (fun i _ => 32 - (intOf i).toNat)
  case atStart => exact ⟨0, by omega, rfl, hg0, hg1, by rw [← HZ.out]; exact hg2, hfr⟩
  case round =>
    clear hg0 hg1 hg2 hfr
    obtain ⟨k, hk, rfl, hr0, hr1, hr2, hf⟩ := hrel
    by_cases hk32 : k < 32
    · have hd : decide ((k : Int) < 32) = true := decide_eq_true (by omega)
      have hc := HL.out (k / 4) (by omega)
      obtain ⟨x, hx⟩ : ∃ x, x = s.list[k / 4]'(by rw [St.list_length]; omega) := ⟨_, rfl⟩
      rw [← hx, ← HS.out, ← cell_of_heap hr0] at hc
      have hput := enc_put s k hk32 x hx
      have hset := encK_set s k hk32
      obtain ⟨c, hcc⟩ : ∃ c, c = (encSt s)[k]'(by rw [encSt_length]; exact hk32) := ⟨_, rfl⟩
      rw [← hcc] at hput hset
      have hck : wr.cell? ⟨g2, k, none⟩ = some (.int .u8 (((encK s k)[k]'(by rw [encK_length _ _ hk]; exact hk32)).toNat : Int)) := by rw [cell_of_heap hr2, bytesC_get]
      have hfree := free_of_heap hr2 k
      have h0 : ∀ v, (wr.setCell ⟨g2, k, none⟩ v).heap[g0]? = some (.cells S 29 (0, 0)) := fun v => (Fr.set0 wr g2 k v).heap hr0 (by simpa using hne0)
      have h1 : ∀ v, (wr.setCell ⟨g2, k, none⟩ v).heap[g1]? = some (.cells Z 24 (0, 0)) := fun v => (Fr.set0 wr g2 k v).heap hr1 (by simpa using hne1)
      have h2 : ∀ z : Int, z = (c.toNat : Int) → (wr.setCell ⟨g2, k, none⟩ (.int .u8 z)).heap[g2]? = some (.cells (cellsB (encK s (k + 1))).toArray 24 (0, 0)) := by
        rintro z rfl
        rw [heap_setCell_same hr2, bytesC_set, hset]
      have h3 : ∀ v, Fr [] w (wr.setCell ⟨g2, k, none⟩ v) := fun v => hf.trans (Fr.set0 wr g2 k v) (by simp) (by simp; have := HG0E.out; omega)
      have hsh : 8 * (k % 4) ≤ 24 := by omega
      have H0 := Lib.hid h0
      have H1 := Lib.hid h1
      have H2 := Lib.hid h2
      have H3 := Lib.hid h3
      have HP := Lib.hid hput
      clear h0 h1 h2 h3 hset hcc hx hr0 hr1 hr2 hput
      go_wp2_with fail
      exact ⟨⟨k + 1, by omega, by go_num, H0.out _, H1.out _, H2.out _ (by rw [HP.out]), H3.out _⟩, by simp [intOf]; omega⟩
    · have hd : decide ((k : Int) < 32) = false := decide_eq_false (by omega)
      rw [show k = 32 from by omega, encK_end] at hr2
      have hsz : (Tryd.prog.info? 24).map (·.size) = some (cellsB (encSt s)).toArray.size := by rw [bytesC_size, encSt_length]; exact sizeB32
      have hone := bytesC_one (encSt s)
      obtain ⟨L, hL⟩ : ∃ L, L = (cellsB (encSt s)).toArray := ⟨_, rfl⟩
      rw [← hL] at hr2 hsz hone HZS
      have H1 := Lib.hid hr1
      have H2 := Lib.hid hr2
      have HSZ := Lib.hid hsz
      have HON := Lib.hid hone
      clear hr0 hr1 hr2 hsz hone
      go_wp2_with (refine wpList_load_row rfl 24 _ rfl g2 rfl 24 L (0, 0) _ H2.out Tryd.underlying24 rfl HSZ.out ?_; refine wpL_storeArr rfl 24 (.tmp 2) (.tmp 21) rfl g1 L Z rfl rfl 24 H1.out HSZ.out HZS.out HON.out ?_; intro w4 hh4 hf4 hs4)
      refine bodyPost_ret (v := .agg L) ?_ rfl ⟨by rw [hL], hf.trans hf4 (by simp) (by simp; have := HG0E.out; omega)⟩
      exact results_cell_row rfl _ _ g1 24 L (0, 0) _ rfl hh4.out Tryd.underlying24 rfl HSZ.out
end Go.Proofs.YtjiighgabfkmpaaDoor
