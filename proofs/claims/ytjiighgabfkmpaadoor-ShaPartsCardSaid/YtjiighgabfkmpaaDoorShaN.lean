/- The document's answer Fill. -/
import Derived.Test.YtjiighgabfkmpaaDoorShaM
namespace Go.Proofs.YtjiighgabfkmpaaDoor
open Go.RowKit

/-- The length's bytes, t of them written, the last one first. -/
def tailT (x t : Nat) : List UInt8 := (List.range 8).map fun i => if 8 - t ≤ i then UInt8.ofNat (x / 256 ^ (7 - i) % 256) else 0
theorem tailT_length (x t : Nat) : (tailT x t).length = 8 := by simp [tailT]
theorem tailT_zero (x : Nat) : tailT x 0 = List.replicate 8 (0 : UInt8) := by
  apply List.ext_getElem
  · simp [tailT]
  · intro i h1 h2
    have : i < 8 := by simpa [tailT] using h1
    rw [List.getElem_replicate]
    simp only [tailT, List.getElem_map, List.getElem_range]
    rw [if_neg (by omega)]
theorem tailT_end (x : Nat) : tailT x 8 = be8 x := by
  rw [tailT, be8]
  apply List.map_congr_left
  intro i hi
  rw [if_pos (by omega)]
theorem tailT_set (x t : Nat) (ht : t < 8) : (tailT x t).set (7 - t) (UInt8.ofNat (x / 256 ^ t % 256)) = tailT x (t + 1) := by
  apply List.ext_getElem
  · simp [tailT]
  · intro i h1 h2
    have h8 : i < 8 := by simpa [tailT] using h2
    rw [List.getElem_set]
    simp only [tailT, List.getElem_map, List.getElem_range]
    by_cases e : 7 - t = i
    · subst e
      rw [if_pos rfl, if_pos (by omega), show 7 - (7 - t) = t from by omega]
    · rw [if_neg e]
      by_cases h : 8 - t ≤ i
      · rw [if_pos h, if_pos (by omega)]
      · rw [if_neg h, if_neg (by omega)]
def outT (t : Nat) : List UInt8 := 128 :: List.replicate t 0
theorem outT_length (t : Nat) : (outT t).length = t + 1 := by simp [outT]
theorem outT_succ (t : Nat) : outT (t + 1) = outT t ++ [0] := by simp [outT, List.replicate_succ']
theorem outT_fill (n : Nat) : outT (zerosN n) ++ be8 (n * 8 % 18446744073709551616) = fillN n := by simp [outT, fillN]
theorem zerosN_less (n t : Nat) (h : t < zerosN n) : (n + (t + 1) + 8) % 64 ≠ 0 := by unfold zerosN at h; omega
theorem zerosN_at (n : Nat) : (n + (zerosN n + 1) + 8) % 64 = 0 := by unfold zerosN; omega

def FillA (z : Nat) (w : World) (vs : Value) (wr : World) : Prop :=
  ∃ (t : Nat) (a : Option Addr) (cap : Nat), t ≤ z ∧ vs = .slice a (t + 1) cap ∧ wr.ownsRow w.heap.size 5 1 vs (outT t).length (cellsB (outT t)) ∧ Fr [] w wr
def FillB (x g : Nat) (vo : Value) (out : List UInt8) (w : World) (vb vi : Value) (wr : World) : Prop :=
  ∃ t y : Nat, t ≤ 8 ∧ y = x / 256 ^ t ∧ vb = .int .u64 (y : Int) ∧ vi = .int .i64 ((7 : Int) - (t : Int)) ∧ wr.heap[g]? = some (.cells (cellsB (tailT x t)).toArray 5 (0, 0)) ∧ wr.ownsRow w.heap.size 5 1 vo out.length (cellsB out) ∧ Fr [] w wr
def Gives (w : World) (bs : List UInt8) (v : Value) (w' : World) : Prop := bytesAt w' v bs ∧ Fr [] w w'
set_option maxRecDepth 100000 in
theorem ref_fill_any (n : Nat) (w : World) (hn : n < 1000000) :
    Calls Tryd.prog 14 #[.int .i64 n] w (Ret (Gives w (fillN n))) := by
  obtain ⟨i, hi, hz0, hz1, hz2⟩ := info_parts infoB
  obtain ⟨z, hz⟩ : ∃ z, z = zerosN n := ⟨_, rfl⟩
  have hz64 : z < 64 := by rw [hz, zerosN]; exact Nat.mod_lt _ (by decide)
  have hless := zerosN_less n
  have hat := zerosN_at n
  have hfill := outT_fill n
  rw [← hz] at hless hat hfill
  rw [Nat.mod_eq_of_lt (show n * 8 < 18446744073709551616 by omega)] at hfill
  have HLESS := Lib.hid hless
  have HAT := Lib.hid hat
  have HF := Lib.hid hfill
  clear hz hless hat hfill
  go_enter Tryd.func14, Tryd.ntmps14
  go_wp2_with fail
  go_loopw [3] (FillA z w) (fun s _ => 65 - lenV s)
  case atStart =>
    exact ⟨0, some ⟨w.heap.size, 0, none⟩, 1, Nat.zero_le _, rfl, owns_of_heap (cur := [.int .u8 128]) (heap_alloc_new w _) (Nat.le_refl _) rfl (Nat.le_refl _) (by simp [maxLen]) rfl, Fr.alloc _ _⟩
  case round =>
    obtain ⟨t, a, cap, ht, rfl, hown, hf⟩ := hrel
    have hsz := hf.size
    have holen := outT_length t
    by_cases htz : t < z
    · have hne : (((n : Int) + ((t : Int) + 1) + 8) % 64 != 0) = true := by rw [bne_iff_ne]; have := HLESS.out t htz; omega
      go_wp2_with (at_builtin; refine wpL_append1 rfl (.tmp 15) (.tmp 16) 22 rfl w.heap.size 5 i (.int .u8 0) 1 Tryd.underlying22 hi hz0 hz1 hz2 rfl _ (outT t).length (cellsB (outT t)) rfl hown _ rfl rfl (by omega) (by simp [maxLen]; omega) hsz ?_; intro v' w1 hown1 hf1 hb1)
      have hown2 : w1.ownsRow w.heap.size 5 1 v' (outT (t + 1)).length (cellsB (outT (t + 1))) := by
        rw [outT_succ, cellsB_append, List.length_append]
        exact hown1
      obtain ⟨a', c', rfl, -, -⟩ := (bytesAt_of_owns hown2).form
      have hl2 := outT_length (t + 1)
      refine ⟨⟨t + 1, a', c', by omega, by rw [hl2], hown2, hf.own hown hf1⟩, ?_⟩
      simp only [lenV, hl2]
      omega
    · have hne : (((n : Int) + ((t : Int) + 1) + 8) % 64 != 0) = false := by rw [bne_eq_false_iff_eq]; have := HAT.out; obtain rfl : t = z := (by omega); omega
      have htz' : t = z := by omega
      have HT := Lib.hid htz'
      clear htz'
      have hb0 := hown.lt
      have HB0 : Hid (∀ k, (Value.slice a (t + 1) cap).ownBlock = some k → k < wr.heap.size) := Lib.hid (fun k hk => (hb0 k hk).2)
      clear hb0
      have hown0 : wr.ownsRow w.heap.size 5 1 (.slice a (t + 1) cap) (t + 1) (cellsB (outT t)) := by rw [holen] at hown; exact hown
      have HOWN := Lib.hid hown
      clear hown hown0
      go_wp2_with (refine wpL_make rfl _ _ 22 rfl 5 i (.int .u8 0) 1 Tryd.underlying22 hi hz0 hz1 hz2 rfl 8 rfl rfl (by decide) (by decide) ?_; intro w1 hh1 hf1 hs1)
      have hg1 : w1.heap[wr.heap.size]? = some (.cells (cellsB (tailT (n * 8) 0)).toArray 5 (0, 0)) := by
        rw [tailT_zero, hh1.out]
        simp [cellsB]
      have hown1 := owns_kept HOWN.out hf1 (by simp)
      have hf2 : Fr [] w w1 := hf.trans hf1 (by simp) (by simp)
      obtain ⟨g, hg⟩ : ∃ g, g = wr.heap.size := ⟨_, rfl⟩
      rw [← hg] at hg1 ⊢
      have hgne : ∀ k, (Value.slice a (t + 1) cap).ownBlock = some k → k ∉ [g] := fun k hk => by have := HB0.out k hk; simp; omega
      have HGN := Lib.hid hgne
      have hgw : w.heap.size ≤ g := by omega
      clear hg hh1 hs1 hgne
      go_loopw [4, 6] (FillB (n * 8) g (.slice a (t + 1) cap) (outT t) w) (fun _ vi _ => (intOf vi + 1).toNat)
      case atStart => exact ⟨0, n * 8, by omega, by simp, by go_num, rfl, hg1, hown1, hf2⟩
      case round =>
        clear hg1 hown1 hf2
        obtain ⟨u, y, hu, hy, rfl, hvi, hr, hown, hf3⟩ := hrel
        by_cases hu8 : u < 8
        · obtain ⟨k, hk⟩ : ∃ k, k = 7 - u := ⟨_, rfl⟩
          obtain rfl := show _ = Value.int .i64 (k : Int) from hvi.trans (congrArg (Value.int .i64) (by omega))
          have hdk : decide ((0 : Int) ≤ (k : Int)) = true := decide_eq_true (by omega)
          have hk8 : k < 8 := by omega
          have hset := tailT_set (n * 8) u hu8
          rw [← hy, ← hk] at hset
          have hnext : y / 256 = n * 8 / 256 ^ (u + 1) := by rw [hy, Nat.pow_succ, Nat.div_div_eq_div_mul]
          have hcell : wr.cell? ⟨g, k, none⟩ = some (.int .u8 (((tailT (n * 8) u)[k]'(by rw [tailT_length]; exact hk8)).toNat : Int)) := by rw [cell_of_heap hr, bytesC_get]
          have hfree := free_of_heap hr k
          have h2 : ∀ v : Int, v = ((y % 256 : Nat) : Int) → (wr.setCell ⟨g, k, none⟩ (.int .u8 v)).heap[g]? = some (.cells (cellsB (tailT (n * 8) (u + 1))).toArray 5 (0, 0)) := by
            rintro v rfl
            have e : ((y % 256 : Nat) : Int) = ((UInt8.ofNat (y % 256)).toNat : Int) := by rw [UInt8.toNat_ofNat']; omega
            rw [heap_setCell_same hr, e, bytesC_set, hset]
          have h3 : ∀ v, Fr [] w (wr.setCell ⟨g, k, none⟩ v) := fun v => hf3.trans (Fr.set0 wr g k v) (by simp) (by simp; omega)
          have h4 : ∀ v, (wr.setCell ⟨g, k, none⟩ v).ownsRow w.heap.size 5 1 (.slice a (t + 1) cap) (outT t).length (cellsB (outT t)) := fun v => owns_kept hown (Fr.set0 wr g k v) HGN.out
          have hyb : y ≤ 8000000 := by rw [hy]; exact Nat.le_trans (Nat.div_le_self _ _) (by omega)
          have H2 := Lib.hid h2
          have H3 := Lib.hid h3
          have H4 := Lib.hid h4
          have HNX := Lib.hid hnext
          have HK := Lib.hid hk
          clear h2 h3 h4 hset hnext hy hk hr hown hvi hf3
          go_wp2_with fail
          exact ⟨⟨u + 1, y / 256, by omega, HNX.out, by go_num, congrArg (Value.int .i64) (by have := HK.out; omega), H2.out _ (by go_num), H4.out _, H3.out _⟩, by simp [intOf]⟩
        · have hu' : u = 8 := by omega
          subst hu'
          obtain rfl := show _ = Value.int .i64 (-1) from hvi
          rw [tailT_end] at hr
          have hby : bytesAt wr (.slice (some ⟨g, 0, none⟩) 8 8) (be8 (n * 8)) := bytesAt_of_heap hr (by rw [be8_length]; simp [maxLen]) 8 (be8_length _).symm
          have HBY := Lib.hid hby
          have HOW := Lib.hid hown
          have hws := hf3.size
          clear hr hby hown hvi hy
          go_wp2_with (at_builtin; refine wpL_append rfl (.tmp 34) (.tmp 35) 22 rfl w.heap.size 5 i (.int .u8 0) Tryd.underlying22 hi hz0 hz1 hz2 rfl _ (outT t) rfl HOW.out _ (be8 (n * 8)) rfl HBY.out (by rw [be8_length]; omega) hws ?_; intro v' w2 hown2 hf4 hb4)
          go_ret
          refine Ret.mk ⟨?_, hf3.own HOW.out hf4⟩
          have hout := bytesAt_of_owns hown2
          rw [HT.out, HF.out] at hout
          exact hout
end Go.Proofs.YtjiighgabfkmpaaDoor
