/- Contract of package sha's Fill. -/
import Derived.Test.YtjiighgabfkmpaaDoorShaE
namespace Go.Proofs.YtjiighgabfkmpaaDoor
open Go.RowKit

/-- The padding when t bytes of the length have been written, the last one first. -/
def fillT (x z t : Nat) : List UInt8 := 128 :: (List.replicate z 0 ++ (List.range 8).map fun i => if 8 - t ≤ i then UInt8.ofNat (x / 256 ^ (7 - i) % 256) else 0)
theorem fillT_length (x z t : Nat) : (fillT x z t).length = z + 9 := by simp [fillT]
theorem fillT_zero (x z : Nat) : fillT x z 0 = (List.replicate (z + 9) (0 : UInt8)).set 0 128 := by
  have e : ((List.range 8).map fun i => if 8 - 0 ≤ i then UInt8.ofNat (x / 256 ^ (7 - i) % 256) else 0) = List.replicate 8 (0 : UInt8) := by
    apply List.ext_getElem
    · simp
    · intro i h1 h2
      have : i < 8 := by simpa using h1
      rw [List.getElem_replicate, List.getElem_map, List.getElem_range, if_neg (by omega)]
  rw [fillT, e, List.replicate_append_replicate]
  rfl
theorem fillT_set (x z t : Nat) (ht : t < 8) : (fillT x z t).set (z + 8 - t) (UInt8.ofNat (x / 256 ^ t % 256)) = fillT x z (t + 1) := by
  rw [fillT, fillT, show z + 8 - t = (z + (7 - t)) + 1 from by omega, List.set_cons_succ, List.set_append_right _ _ (by simp), List.length_replicate, show z + (7 - t) - z = 7 - t from by omega]
  congr 2
  apply List.ext_getElem
  · simp
  · intro i h1 h2
    have h8 : i < 8 := by simpa using h1
    rw [List.getElem_set]
    simp only [List.getElem_map, List.getElem_range]
    by_cases e : 7 - t = i
    · subst e
      rw [if_pos rfl, if_pos (by omega), show 7 - (7 - t) = t from by omega]
    · rw [if_neg e]
      by_cases h : 8 - t ≤ i
      · rw [if_pos h, if_pos (by omega)]
      · rw [if_neg h, if_neg (by omega)]
theorem fillT_end (n t : Nat) (h0 : n * 8 % 18446744073709551616 / 256 ^ t = 0) : fillT (n * 8 % 18446744073709551616) (zerosN n) t = fillN n := by
  rw [fillT, fillN, be8]
  congr 2
  apply List.map_congr_left
  intro i hi
  rw [List.mem_range] at hi
  by_cases h : 8 - t ≤ i
  · rw [if_pos h]
  · rw [if_neg h]
    have hle : 256 ^ t ≤ 256 ^ (7 - i) := Nat.pow_le_pow_right (by decide) (by omega)
    have : n * 8 % 18446744073709551616 / 256 ^ (7 - i) = 0 := by
      rw [Nat.div_eq_zero_iff_lt (Nat.pow_pos (by decide))] at h0 ⊢
      omega
    rw [this]
    rfl

def FillRel (w : World) (g x z : Nat) (vs vi : Value) (wr : World) : Prop :=
  ∃ t y : Nat, t ≤ 8 ∧ y = x / 256 ^ t ∧ vs = .int .u64 (y : Int) ∧ vi = .int .i64 ((z + 8 - t : Nat) : Int) ∧ wr.heap[g]? = some (.cells (cellsB (fillT x z t)).toArray 5 (0, 0)) ∧ Fr [] w wr
theorem infoB : (Tryd.prog.info? 5).map (fun i => (i.zero, i.size, i.bytes)) = some (some (.int .u8 0), 1, 1) := by kernel_rfl
theorem info_parts {P : Program} {t : TypeId} {z : Value} {m n : Nat} (h : (P.info? t).map (fun i => (i.zero, i.size, i.bytes)) = some (some z, m, n)) : ∃ i, P.info? t = some i ∧ i.zero = some z ∧ i.size = m ∧ i.bytes = n := by
  cases hq : P.info? t with
  | none => simp [hq] at h
  | some i =>
    simp [hq] at h
    exact ⟨i, rfl, h.1, h.2.1, h.2.2⟩
set_option maxRecDepth 100000 in
theorem fill_any (n : Nat) (w : World) (hn : n < 1000000000000) :
    Calls Tryd.prog 13 #[.int .i64 n] w fun e w' => e = .returned (.slice (some ⟨w.heap.size, 0, none⟩) (zerosN n + 9) (zerosN n + 9)) ∧ w'.heap[w.heap.size]? = some (.cells (cellsB (fillN n)).toArray 5 (0, 0)) ∧ Fr [] w w' := by
  obtain ⟨i, hi, hz0, hz1, hz2⟩ := info_parts infoB
  have hd : decide ((n : Int) < 0) = false := decide_eq_false (by omega)
  obtain ⟨z, hz⟩ : ∃ z, z = zerosN n := ⟨_, rfl⟩
  have hz64 : z < 64 := by rw [hz, zerosN]; exact Nat.mod_lt _ (by decide)
  have hlen : (1 + (128 - ((n : Int) % 64 + 1 + 8)) % 64 + 8) = ((z + 9 : Nat) : Int) := by rw [hz, zerosN]; omega
  rw [← hz]
  have HZ := Lib.hid hz
  have HLEN := Lib.hid hlen
  clear hz hlen
  go_enter Tryd.func13, Tryd.ntmps13
  go_wp2_with (refine wpL_make rfl (.tmp 19) (.tmp 19) 22 rfl 5 i (.int .u8 0) 1 Tryd.underlying22 hi hz0 hz1 hz2 rfl (z + 9) (congrArg (Value.int IntKind.i64) HLEN.out) (congrArg (Value.int IntKind.i64) HLEN.out) (by omega) (by simp [maxLen]; omega) ?_; intro w1 hh1 hf1 hs1; have hc0 : w1.cell? ⟨w.heap.size, 0, none⟩ = some (.int .u8 0) := (by rw [cell_of_heap hh1.out]; simp); have hfree0 := free_of_heap hh1.out 0)
  clear hc0 hfree0
  obtain ⟨g, hg⟩ : ∃ g, g = w.heap.size := ⟨_, rfl⟩
  have hh2 : (w1.setCell ⟨g, 0, none⟩ (.int .u8 128)).heap[g]? = some (.cells (cellsB (fillT (n * 8 % 18446744073709551616) z 0)).toArray 5 (0, 0)) := by
    have e : List.replicate (z + 9) (Value.int .u8 0) = cellsB (List.replicate (z + 9) 0) := by simp [cellsB]
    rw [hg, heap_setCell_same hh1.out, fillT_zero, e, ← bytesC_set]
    rfl
  have hf2 : Fr [] w (w1.setCell ⟨g, 0, none⟩ (.int .u8 128)) := hf1.trans (Fr.set0 w1 g 0 _) (by simp) (by simp; omega)
  have hx : n * 8 % 18446744073709551616 = n * 8 := Nat.mod_eq_of_lt (by omega)
  have HE := Lib.hid (fillT_end n)
  rw [hx] at hh2 HE
  rw [← HZ.out] at HE
  rw [← hg] at ⊢
  have HG := Lib.hid hg
  clear hx hh1 hf1 hs1 hg
  go_loopw [6, 7] (FillRel w g (n * 8) z) (fun _ i _ => (intOf i).toNat)
  case atStart => exact ⟨0, n * 8, by omega, by simp, by go_num, by go_num, hh2, hf2⟩
  case round =>
    clear hh2 hf2
    obtain ⟨t, y, ht, hy, rfl, rfl, hr, hf⟩ := hrel
    by_cases hy0 : 0 < y
    · have hd2 : decide (0 < (y : Int)) = true := decide_eq_true (by omega)
      have ht8 : t < 8 := by
        rcases Nat.lt_or_ge t 8 with q | q
        · exact q
        · obtain rfl : t = 8 := by omega
          rw [Nat.div_eq_of_lt (by omega)] at hy
          omega
      have hset := fillT_set (n * 8) z t ht8
      rw [← hy] at hset
      have hnext : y / 256 = n * 8 / 256 ^ (t + 1) := by rw [hy, Nat.pow_succ, Nat.div_div_eq_div_mul]
      obtain ⟨k, hk⟩ : ∃ k, k = z + 8 - t := ⟨_, rfl⟩
      rw [← hk] at hset ⊢
      have hk1 : k < z + 9 := by omega
      have hk0 : 0 < k := by omega
      have hkn : k - 1 = z + 8 - (t + 1) := by omega
      have hcell : wr.cell? ⟨g, k, none⟩ = some (.int .u8 (((fillT (n * 8) z t)[k]'(by rw [fillT_length]; exact hk1)).toNat : Int)) := by rw [cell_of_heap hr, bytesC_get]
      have hfree := free_of_heap hr k
      have h2 : ∀ v : Int, v = ((y % 256 : Nat) : Int) → (wr.setCell ⟨g, k, none⟩ (.int .u8 v)).heap[g]? = some (.cells (cellsB (fillT (n * 8) z (t + 1))).toArray 5 (0, 0)) := by
        rintro v rfl
        have e : ((y % 256 : Nat) : Int) = ((UInt8.ofNat (y % 256)).toNat : Int) := by rw [UInt8.toNat_ofNat']; omega
        rw [heap_setCell_same hr, e, bytesC_set, hset]
      have h3 : ∀ v, Fr [] w (wr.setCell ⟨g, k, none⟩ v) := fun v => hf.trans (Fr.set0 wr g k v) (by simp) (by simp; have := HG.out; omega)
      have H2 := Lib.hid h2
      have H3 := Lib.hid h3
      have HN := Lib.hid hnext
      have HKN := Lib.hid hkn
      clear h2 h3 hset hnext hy hk hr hkn
      go_wp2_with fail
      exact ⟨⟨t + 1, y / 256, by omega, HN.out, by go_num, by rw [← HKN.out]; go_num, H2.out _ (by go_num), H3.out _⟩, by simp [intOf]; omega⟩
    · have hd2 : decide (0 < (y : Int)) = false := decide_eq_false (by omega)
      have HR := Lib.hid hr
      have HY := Lib.hid hy
      clear hr hy
      go_wp2_with fail
      go_ret
      refine ⟨by rw [← HG.out]; rfl, ?_, hf⟩
      rw [← HE.out t (by rw [← HY.out]; omega)]
      have hout := HR.out
      rw [HG.out] at hout
      exact hout
end Go.Proofs.YtjiighgabfkmpaaDoor
