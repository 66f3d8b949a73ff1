/- The document's answer words. -/
import Derived.Test.YtjiighgabfkmpaaDoorShaK
namespace Go.Proofs.YtjiighgabfkmpaaDoor
open Go.RowKit

theorem Fr.drewNSet {a w : World} {g i n : Nat} {v : Value} (h : Fr [] a (w.setCell ⟨g, i, none⟩ v)) : Fr [] a ((w.drewN n).setCell ⟨g, i, none⟩ v) := ⟨h.os, h.tape, h.output, h.size, h.block⟩
theorem info32 : (Tryd.prog.info? 28).map (fun i => (i.zero, i.size, i.bytes)) = some (some (.int .u32 0), 1, 4) := by kernel_rfl
def WordsRel (bs : List UInt8) (g t : Nat) (w wr : World) : Prop := wr.heap[g]? = some (.cells (numsC (partW bs t)) 28 (0, 0)) ∧ Fr [] w wr
theorem small0_ref (x : Nat) (h : x < 4294967296) : bits .xor .u32 ((rotN x 7 ^^^ rotN x 18 : Nat) : Int) ((x / 2 ^ 3 : Nat) : Int) = ((small0 x : Nat) : Int) :=
  u32_xor_nat _ (x / 8) (xor32 (rotN_lt x 7 h (by decide)) (rotN_lt x 18 h (by decide))) (by omega)
theorem small1_ref (x : Nat) (h : x < 4294967296) : bits .xor .u32 ((rotN x 17 ^^^ rotN x 19 : Nat) : Int) ((x / 2 ^ 10 : Nat) : Int) = ((small1 x : Nat) : Int) :=
  u32_xor_nat _ (x / 1024) (xor32 (rotN_lt x 17 h (by decide)) (rotN_lt x 19 h (by decide))) (by omega)
set_option maxRecDepth 100000 in
theorem ref_words_any (bs : List UInt8) (sv : Value) (w : World) (hb : bytesAt w sv bs) (hl : bs.length = 64) :
    Calls Tryd.prog 25 #[sv] w fun e w' => e = .returned (.slice (some ⟨w.heap.size, 0, none⟩) 64 64) ∧ w'.heap[w.heap.size]? = some (.cells (numsC (sched bs)) 28 (0, 0)) ∧ Fr [] w w' := by
  obtain ⟨i, hi, hz0, hz1, hz2⟩ := info_parts info32
  rcases hb with ⟨_, _, _, _, rfl⟩ | ⟨b, off, cap, rfl, hle, hmx, hcell⟩
  · simp at hl
  have HCL := Lib.hid hcell
  have HL := Lib.hid hl
  rw [hl] at hle ⊢
  clear hcell hl
  go_enter Tryd.func25, Tryd.ntmps25
  go_wp2_with (refine wpL_make rfl _ _ 51 rfl 28 i (.int .u32 0) 4 Tryd.underlying51 hi hz0 hz1 hz2 rfl 64 rfl rfl (by decide) (by decide) ?_; intro w1 hh1 hf1 hs1)
  have hg1 : w1.heap[w.heap.size]? = some (.cells (numsC (partW bs 0)) 28 (0, 0)) := by
    rw [partW_zero, hh1.out, numsC, List.map_replicate]
    rfl
  obtain ⟨g, hg⟩ : ∃ g, g = w.heap.size := ⟨_, rfl⟩
  rw [← hg] at hg1 ⊢
  have HG := Lib.hid hg
  clear hg hh1 hs1
  go_loopw [4] (fun vi wr => ∃ i : Nat, i ≤ 16 ∧ vi = .int .i64 (i : Int) ∧ WordsRel bs g (4 * i) w wr) (fun vi _ => 16 - (intOf vi).toNat)
  case atStart => exact ⟨0, by omega, rfl, hg1, hf1⟩
  case round =>
    clear hg1 hf1
    obtain ⟨n, hn, rfl, hr⟩ := hrel
    by_cases hn16 : n < 16
    · have hd : decide ((n : Int) < 16) = true := decide_eq_true (by omega)
      go_wp2_with fail
      go_loopw [5] (fun vk wr => ∃ k : Nat, k ≤ 4 ∧ vk = .int .i64 (k : Int) ∧ WordsRel bs g (4 * n + k) w wr) (fun vk _ => 4 - (intOf vk).toNat)
      case atStart => exact ⟨0, by omega, rfl, hr⟩
      case round =>
        clear hr
        obtain ⟨k, hk, rfl, hr, hf⟩ := hrel
        by_cases hk4 : k < 4
        · have hd2 : decide ((k : Int) < 4) = true := decide_eq_true (by omega)
          have ht : 4 * n + k < 64 := by omega
          have e1 : (4 * n + k) / 4 = n := by omega
          have e2 : (4 * n + k) % 4 = k := by omega
          have hlen := HL.out
          have hc0 := hf.cell (HCL.out (4 * n + k) (by omega)) (by simp)
          obtain ⟨c, hcc⟩ : ∃ c, c = bs[4 * n + k]'(by omega) := ⟨_, rfl⟩
          rw [← hcc] at hc0
          obtain ⟨x, hx⟩ : ∃ x, x = wordN bs n k := ⟨_, rfl⟩
          have hcl : c.toNat < 256 := c.toNat_lt
          have hget := partW_get bs (4 * n + k) ht
          have hset := partW_set bs (4 * n + k) ht
          simp only [e1, e2] at hget hset
          rw [wordN_succ bs n k (by omega), ← hcc, ← hx] at hset
          have hx24 : x < 16777216 := by
            rw [hx]
            exact Nat.lt_of_lt_of_le (wordN_lt bs n k) (Nat.pow_le_pow_right (n := 256) (i := k) (j := 3) (by decide) (by omega))
          have hcn : wr.cell? ⟨g, n, none⟩ = some (.int .u32 (x : Int)) := by
            rw [cell_of_heap hr, numsC_get _ _ (by rw [partW_length]; omega), hget, hx]
          have hfree := free_of_heap hr n
          have h2 : ∀ z : Int, z = ((x * 256 + c.toNat : Nat) : Int) → (wr.setCell ⟨g, n, none⟩ (.int .u32 z)).heap[g]? = some (.cells (numsC (partW bs (4 * n + (k + 1)))) 28 (0, 0)) := by
            rintro z rfl
            rw [heap_setCell_same hr, numsC_set, hset]
            rfl
          have h3 : ∀ v, Fr [] w (wr.setCell ⟨g, n, none⟩ v) := fun v => hf.trans (Fr.set0 wr g n v) (by simp) (by simp; have := HG.out; omega)
          have H2 := Lib.hid h2
          have H3 := Lib.hid h3
          clear h2 h3 hset hget hx hcc hr hlen e1 e2
          go_wp2_with fail
          go_region
          go_wp2_with fail
          go_roundw
          case rel => exact ⟨k + 1, by omega, by go_num, H2.out _ (by go_num), (H3.out _).andDrew⟩
          case measure => simp [intOf]; omega
        · have hd2 : decide ((k : Int) < 4) = false := decide_eq_false (by omega)
          rw [show 4 * n + k = 4 * (n + 1) from by omega] at hr
          have HR := Lib.hid hr
          clear hr
          go_wp2_with fail
          exact ⟨⟨n + 1, by omega, by go_num, HR.out, hf⟩, by simp [intOf]; omega⟩
    · have hd : decide ((n : Int) < 16) = false := decide_eq_false (by omega)
      obtain ⟨hr, hf⟩ := hr
      rw [show 4 * n = 64 from by omega, partW_end] at hr
      go_wp2_with fail
      go_loopw [6] (fun vj wr => ∃ j : Nat, 16 ≤ j ∧ j ≤ 64 ∧ vj = .int .i64 (j : Int) ∧ wr.heap[g]? = some (.cells (numsC (padW bs (j - 16))) 28 (0, 0)) ∧ Fr [] w wr) (fun vj _ => 64 - (intOf vj).toNat)
      case atStart => exact ⟨16, by omega, by omega, rfl, hr, hf⟩
      case round =>
        clear hr hf
        obtain ⟨j, hj16, hj, rfl, hr, hf⟩ := hrel
        by_cases hj64 : j < 64
        · have hd2 : decide ((j : Int) < 64) = true := decide_eq_true (by omega)
          obtain ⟨x15, x6, x14, x1, c15, c6, c14, c1, l15, l6, l14, l1, hset⟩ := sched_next bs (j - 16) (by omega)
          rw [show j - 16 = j - 16 from rfl] at c15
          rw [show 9 + (j - 16) = j - 7 from by omega] at c6
          rw [show 1 + (j - 16) = j - 15 from by omega] at c14
          rw [show 14 + (j - 16) = j - 2 from by omega] at c1
          rw [show 16 + (j - 16) = j from by omega, show j - 16 + 1 = j + 1 - 16 from by omega] at hset
          rw [← cell_of_heap hr] at c15 c6 c14 c1
          have hfree := free_of_heap hr j
          have h2 : ∀ z : Int, z = ((nextOf x15 x6 x14 x1 : Nat) : Int) → (wr.setCell ⟨g, j, none⟩ (.int .u32 z)).heap[g]? = some (.cells (numsC (padW bs (j + 1 - 16))) 28 (0, 0)) := by
            rintro z rfl
            rw [heap_setCell_same hr, hset]
          have hcj : wr.cell? ⟨g, j, none⟩ = some (.int .u32 (((padW bs (j - 16))[j]'(by rw [padW_length _ _ (by omega)]; omega) : Nat) : Int)) := by rw [cell_of_heap hr, numsC_get]
          have hnx := next_put x15 x6 x14 x1
          have h3 : ∀ v, Fr [] w (wr.setCell ⟨g, j, none⟩ v) := fun v => hf.trans (Fr.set0 wr g j v) (by simp) (by simp; have := HG.out; omega)
          obtain ⟨a1, -⟩ := small0_put x14 l14
          obtain ⟨b1, -⟩ := small1_put x1 l1
          have a2 := small0_ref x14 l14
          have b2 := small1_ref x1 l1
          have r1 : ∀ wx, Calls Tryd.prog 27 #[.int .u32 x14, .int .i64 7] wx fun e w' => e = .returned (.int .u32 (rotN x14 7 : Nat)) ∧ w' = wx := fun wx => flip_same (ref_turn_any x14 7 wx l14 (by decide))
          have r2 : ∀ wx, Calls Tryd.prog 27 #[.int .u32 x14, .int .i64 18] wx fun e w' => e = .returned (.int .u32 (rotN x14 18 : Nat)) ∧ w' = wx := fun wx => flip_same (ref_turn_any x14 18 wx l14 (by decide))
          have r3 : ∀ wx, Calls Tryd.prog 27 #[.int .u32 x1, .int .i64 17] wx fun e w' => e = .returned (.int .u32 (rotN x1 17 : Nat)) ∧ w' = wx := fun wx => flip_same (ref_turn_any x1 17 wx l1 (by decide))
          have r4 : ∀ wx, Calls Tryd.prog 27 #[.int .u32 x1, .int .i64 19] wx fun e w' => e = .returned (.int .u32 (rotN x1 19 : Nat)) ∧ w' = wx := fun wx => flip_same (ref_turn_any x1 19 wx l1 (by decide))
          have r5 : ∀ wx, Calls Tryd.prog 38 #[.int .u32 x14, .int .i64 3] wx fun e w' => e = .returned (.int .u32 ((x14 / 2 ^ 3 : Nat) : Int)) ∧ w' = wx := fun wx => flip_same (ref_move_any x14 3 wx l14 (by decide))
          have r6 : ∀ wx, Calls Tryd.prog 38 #[.int .u32 x1, .int .i64 10] wx fun e w' => e = .returned (.int .u32 ((x1 / 2 ^ 10 : Nat) : Int)) ∧ w' = wx := fun wx => flip_same (ref_move_any x1 10 wx l1 (by decide))
          obtain ⟨m14, hm14⟩ : ∃ m, m = x14 / 2 ^ 3 := ⟨_, rfl⟩
          obtain ⟨m1, hm1⟩ : ∃ m, m = x1 / 2 ^ 10 := ⟨_, rfl⟩
          rw [← hm14] at a2 r5
          rw [← hm1] at b2 r6
          have H2 := Lib.hid h2
          have H3 := Lib.hid h3
          have R1 := Lib.hid r1
          have R2 := Lib.hid r2
          have R3 := Lib.hid r3
          have R4 := Lib.hid r4
          have R5 := Lib.hid r5
          have R6 := Lib.hid r6
          have HNX := Lib.hid hnx
          clear h2 h3 r1 r2 r3 r4 r5 r6 hset hr hm14 hm1 hnx
          go_wp2_with fail
          go_quiet (first
            | (go_at_call 27; with_reducible refine Calls.quiet_of_same (R1.out _))
            | (go_at_call 27; with_reducible refine Calls.quiet_of_same (R2.out _))
            | (go_at_call 38; with_reducible refine Calls.quiet_of_same (R5.out _)))
          go_wp2_with fail
          have q15 : (wr.drewN nq).cell? ⟨g, j - 16, none⟩ = some (.int .u32 (x15 : Int)) := c15
          have q6 : (wr.drewN nq).cell? ⟨g, j - 7, none⟩ = some (.int .u32 (x6 : Int)) := c6
          have q1 : (wr.drewN nq).cell? ⟨g, j - 2, none⟩ = some (.int .u32 (x1 : Int)) := c1
          have qj : (wr.drewN nq).cell? ⟨g, j, none⟩ = some (.int .u32 (((padW bs (j - 16))[j]'(by rw [padW_length _ _ (by omega)]; omega) : Nat) : Int)) := hcj
          have qf : (wr.drewN nq).frozen? ⟨g, j, none⟩ = false := hfree
          have q2 : ∀ z : Int, z = ((nextOf x15 x6 x14 x1 : Nat) : Int) → ((wr.drewN nq).setCell ⟨g, j, none⟩ (.int .u32 z)).heap[g]? = some (.cells (numsC (padW bs (j + 1 - 16))) 28 (0, 0)) := fun z hz => H2.out z hz
          have q3 : ∀ v, Fr [] w ((wr.drewN nq).setCell ⟨g, j, none⟩ v) := fun v => ⟨(H3.out v).os, (H3.out v).tape, (H3.out v).output, (H3.out v).size, (H3.out v).block⟩
          have Q2 := Lib.hid q2
          have Q3 := Lib.hid q3
          clear c15 c6 c14 c1 hcj hfree q2 q3 H2 H3 hf
          generalize wr.drewN nq = wq at *
          go_quiet (first
            | (go_at_call 27; with_reducible refine Calls.quiet_of_same (R3.out _))
            | (go_at_call 27; with_reducible refine Calls.quiet_of_same (R4.out _))
            | (go_at_call 38; with_reducible refine Calls.quiet_of_same (R6.out _)))
          go_wp2_with fail
          go_region
          go_wp2_with fail
          go_roundw
          case rel => exact ⟨j + 1, by omega, by omega, by go_num, Q2.out _ (by rw [← HNX.out]; omega), Fr.drewNSet (Q3.out _)⟩
          case measure => simp [intOf]; omega
        · have hd2 : decide ((j : Int) < 64) = false := decide_eq_false (by omega)
          rw [show j - 16 = 48 from by omega, padW_end] at hr
          have HR := Lib.hid hr
          clear hr
          go_wp2_with fail
          go_ret
          have hout := HR.out
          rw [HG.out] at hout
          exact ⟨by rw [← HG.out]; rfl, hout, hf⟩
end Go.Proofs.YtjiighgabfkmpaaDoor
