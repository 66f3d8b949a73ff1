/- Several texts in one: ShaK, ShaL, ShaM, ShaN, ShaO. -/
import Derived.Test.YtjlkcdmeiakkbaaGreatDoorSn
set_option linter.unusedVariables false
set_option linter.unusedSimpArgs false
/-! The document's answers turn, move, first, known, words. -/
namespace Go.Proofs.YtjlkcdmeiakkbaaGreatDoor
open Go.RowKit

theorem ref_turn_any (v n : Nat) (w : World) (hv : v < 4294967296) (hn : n ≤ 32) :
    Calls Tryz.prog 78 #[.int .u32 v, .int .i64 n] w fun e w' => e = .returned (.int .u32 (rotN v n : Nat)) ∧ w = w' := by
  go_enter Tryz.func78, Tryz.ntmps78
  go_wp2_with fail
  go_loop [0, 5] (fun s i => ∃ k x : Nat, k ≤ n ∧ i = .int .i64 (k : Int) ∧ s = .int .u32 (x : Int) ∧ x = rotN v k) (fun _ i => n - (intOf i).toNat)
  case atStart => exact ⟨0, v, Nat.zero_le _, rfl, rfl, (rotN_zero v).symm⟩
  case round =>
    obtain ⟨k, x, hk, rfl, rfl, hx⟩ := hrel
    by_cases hkn : k < n
    · have hd : decide (k < n) = true := decide_eq_true hkn
      have hnext := rotN_succ v k (by omega)
      have hlt := rotN_lt v (k + 1) hv (by omega)
      have hxl := rotN_lt v k hv (by omega)
      rw [← hx] at hnext hxl
      rw [← hnext] at hlt
      have HN := Lib.hid hnext
      clear hnext hx
      go_wp2_with fail
      go_round
      case rel => exact ⟨k + 1, x / 2 + x % 2 * 2147483648, by omega, by go_num, by go_num, HN.out⟩
      case measure => simp [intOf]; omega
    · have hd : decide (k < n) = false := decide_eq_false hkn
      have HX := Lib.hid hx
      clear hx
      go_wp2_with fail
      go_ret
      exact ⟨by rw [HX.out, show k = n from by omega]; rfl, rfl⟩

theorem ref_move_any (v n : Nat) (w : World) (hv : v < 4294967296) (hn : n ≤ 32) :
    Calls Tryz.prog 110 #[.int .u32 v, .int .i64 n] w fun e w' => e = .returned (.int .u32 ((v / 2 ^ n : Nat) : Int)) ∧ w = w' := by
  go_enter Tryz.func110, Tryz.ntmps110
  go_wp2_with fail
  go_loop [0, 5] (fun s i => ∃ k x : Nat, k ≤ n ∧ i = .int .i64 (k : Int) ∧ s = .int .u32 (x : Int) ∧ x = v / 2 ^ k) (fun _ i => n - (intOf i).toNat)
  case atStart => exact ⟨0, v, Nat.zero_le _, rfl, rfl, by simp⟩
  case round =>
    obtain ⟨k, x, hk, rfl, rfl, hx⟩ := hrel
    by_cases hkn : k < n
    · have hd : decide (k < n) = true := decide_eq_true hkn
      have hnext : x / 2 = v / 2 ^ (k + 1) := by rw [hx, Nat.pow_succ, Nat.div_div_eq_div_mul]
      have hxl : x < 4294967296 := by rw [hx]; exact Nat.lt_of_le_of_lt (Nat.div_le_self _ _) hv
      have HN := Lib.hid hnext
      clear hnext hx
      go_wp2_with fail
      go_round
      case rel => exact ⟨k + 1, x / 2, by omega, by go_num, by go_num, HN.out⟩
      case measure => simp [intOf]; omega
    · have hd : decide (k < n) = false := decide_eq_false hkn
      have HX := Lib.hid hx
      clear hx
      go_wp2_with fail
      go_ret
      exact ⟨by rw [HX.out, show k = n from by omega]; rfl, rfl⟩

theorem ref_first_any (w : World) : Calls Tryz.prog 37 #[] w fun e w' => e = .returned (.agg (stC beginSt)) ∧ Fr [] w w' := by
  obtain ⟨Z, hZ⟩ : ∃ Z, Z = stC zeroSt := ⟨_, rfl⟩
  have hiz := infoN8
  rw [← hZ] at hiz
  have HI := Lib.hid hiz
  have HO := Lib.hid (show Z.size = (stC beginSt).size by rw [hZ, stC_size, stC_size])
  clear hiz hZ
  go_enter Tryz.func37, Tryz.ntmps37
  go_wp2_with (first
    | (refine wpL_newArr rfl 65 rfl Z HI.out ?_; intro w1 hh1 hf1 hs1)
    | (refine wpL_storeArr rfl 65 (.tmp 0) (.tmp 1) rfl w.heap.size (stC beginSt) Z rfl rfl 65 hh1.out (sizeN8 beginSt) HO.out (stC_one beginSt) ?_; intro w2 hh2 hf2 hs2))
  refine bodyPost_ret (v := .agg (stC beginSt)) ?_ rfl ⟨rfl, hf1.trans hf2 (by simp) (by simp)⟩
  exact results_cell_row rfl _ _ w.heap.size 65 (stC beginSt) (0, 0) _ rfl hh2.out Tryz.underlying65 rfl (sizeN8 beginSt)

theorem sizeKK : (Tryz.prog.info? 116).map (·.size) = some (numsC kk).size := by rw [numsC_size, kk_length]; exact sizeN64
set_option maxRecDepth 100000 in
theorem ref_known_any (w : World) : Calls Tryz.prog 77 #[] w fun e w' => e = .returned (.agg (numsC kk)) ∧ Fr [] w w' := by
  obtain ⟨Z, hZ⟩ : ∃ Z, Z = numsC (List.replicate 64 0) := ⟨_, rfl⟩
  have hiz := infoN64
  rw [← hZ] at hiz
  have HI := Lib.hid hiz
  have hO : Z.size = (numsC kk).size := by rw [hZ, numsC_size, numsC_size, kk_length, List.length_replicate]
  have hS := sizeKK
  have hN := numsC_one kk
  obtain ⟨K, hK⟩ : ∃ K, K = numsC kk := ⟨_, rfl⟩
  rw [← hK] at hO hS hN ⊢
  have HO := Lib.hid hO
  have HS := Lib.hid hS
  have HN := Lib.hid hN
  have HK := Lib.hid hK
  clear hiz hZ hO hS hN hK
  go_enter Tryz.func77, Tryz.ntmps77
  go_wp2_with (first
    | (refine wpL_newArr rfl 116 rfl Z HI.out ?_; intro w1 hh1 hf1 hs1)
    | (refine wpL_val rfl (.agg (numsC kk)) (by kernel_rfl) ?_; rw [← HK.out]; refine wpL_storeArr rfl 116 (.tmp 0) (.tmp 1) rfl w.heap.size K Z rfl rfl 116 hh1.out HS.out HO.out HN.out ?_; intro w2 hh2 hf2 hs2))
  refine bodyPost_ret (v := .agg K) ?_ rfl ⟨rfl, hf1.trans hf2 (by simp) (by simp)⟩
  exact results_cell_row rfl _ _ w.heap.size 116 K (0, 0) _ rfl hh2.out Tryz.underlying116 rfl HS.out
end Go.Proofs.YtjlkcdmeiakkbaaGreatDoor

/-! The document's answer words. -/
namespace Go.Proofs.YtjlkcdmeiakkbaaGreatDoor
open Go.RowKit

theorem info32 : (Tryz.prog.info? 64).map (fun i => (i.zero, i.size, i.bytes)) = some (some (.int .u32 0), 1, 4) := by kernel_rfl
def WordsRel (bs : List UInt8) (g t : Nat) (w wr : World) : Prop := wr.heap[g]? = some (.cells (numsC (partW bs t)) 64 (0, 0)) ∧ Fr [] w wr
theorem small0_ref (x : Nat) (h : x < 4294967296) : bits .xor .u32 ((rotN x 7 ^^^ rotN x 18 : Nat) : Int) ((x / 2 ^ 3 : Nat) : Int) = ((small0 x : Nat) : Int) :=
  u32_xor_nat _ (x / 8) (xor32 (rotN_lt x 7 h (by decide)) (rotN_lt x 18 h (by decide))) (by omega)
theorem small1_ref (x : Nat) (h : x < 4294967296) : bits .xor .u32 ((rotN x 17 ^^^ rotN x 19 : Nat) : Int) ((x / 2 ^ 10 : Nat) : Int) = ((small1 x : Nat) : Int) :=
  u32_xor_nat _ (x / 1024) (xor32 (rotN_lt x 17 h (by decide)) (rotN_lt x 19 h (by decide))) (by omega)
set_option maxRecDepth 100000 in
theorem ref_words_any (bs : List UInt8) (sv : Value) (w : World) (hb : bytesAt w sv bs) (hl : bs.length = 64) :
    Calls Tryz.prog 76 #[sv] w fun e w' => e = .returned (.slice (some ⟨w.heap.size, 0, none⟩) 64 64) ∧ w'.heap[w.heap.size]? = some (.cells (numsC (sched bs)) 64 (0, 0)) ∧ Fr [] w w' := by
  obtain ⟨i, hi, hz0, hz1, hz2⟩ := info_parts info32
  rcases hb with ⟨_, _, _, _, rfl⟩ | ⟨b, off, cap, rfl, hle, hmx, hcell⟩
  · simp at hl
  have HCL := Lib.hid hcell
  have HL := Lib.hid hl
  rw [hl] at hle ⊢
  clear hcell hl
  go_enter Tryz.func76, Tryz.ntmps76
  go_wp2_with (refine wpL_make rfl _ _ 114 rfl 64 i (.int .u32 0) 4 Tryz.underlying114 hi hz0 hz1 hz2 rfl 64 rfl rfl (by decide) (by decide) ?_; intro w1 hh1 hf1 hs1)
  have hg1 : w1.heap[w.heap.size]? = some (.cells (numsC (partW bs 0)) 64 (0, 0)) := by
    rw [partW_zero, hh1.out, numsC, List.map_replicate]
    rfl
  obtain ⟨g, hg⟩ : ∃ g, g = w.heap.size := ⟨_, rfl⟩
  rw [← hg] at hg1 ⊢
  have HG := Lib.hid hg
  clear hg hh1 hs1
  go_loopw [4] (fun vi wr => ∃ i : Nat, i ≤ 16 ∧ vi = .int .i64 (i : Int) ∧ WordsRel bs g (4 * i) w wr) (fun vi _ => 16 - (intOf vi).toNat)
  case atStart => exact ⟨0, by omega, rfl, hg1, hf1⟩
  case round =>
    clear hg1 hf1
    obtain ⟨n, hn, rfl, hr⟩ := hrel
    by_cases hn16 : n < 16
    · have hd : decide ((n : Int) < 16) = true := decide_eq_true (by omega)
      go_wp2_with fail
      go_loopw [5] (fun vk wr => ∃ k : Nat, k ≤ 4 ∧ vk = .int .i64 (k : Int) ∧ WordsRel bs g (4 * n + k) w wr) (fun vk _ => 4 - (intOf vk).toNat)
      case atStart => exact ⟨0, by omega, rfl, hr⟩
      case round =>
        clear hr
        obtain ⟨k, hk, rfl, hr, hf⟩ := hrel
        by_cases hk4 : k < 4
        · have hd2 : decide ((k : Int) < 4) = true := decide_eq_true (by omega)
          have ht : 4 * n + k < 64 := by omega
          have e1 : (4 * n + k) / 4 = n := by omega
          have e2 : (4 * n + k) % 4 = k := by omega
          have hlen := HL.out
          have hc0 := hf.cell (HCL.out (4 * n + k) (by omega)) (by simp)
          obtain ⟨c, hcc⟩ : ∃ c, c = bs[4 * n + k]'(by omega) := ⟨_, rfl⟩
          rw [← hcc] at hc0
          obtain ⟨x, hx⟩ : ∃ x, x = wordN bs n k := ⟨_, rfl⟩
          have hcl : c.toNat < 256 := c.toNat_lt
          have hget := partW_get bs (4 * n + k) ht
          have hset := partW_set bs (4 * n + k) ht
          simp only [e1, e2] at hget hset
          rw [wordN_succ bs n k (by omega), ← hcc, ← hx] at hset
          have hx24 : x < 16777216 := by
            rw [hx]
            exact Nat.lt_of_lt_of_le (wordN_lt bs n k) (Nat.pow_le_pow_right (n := 256) (i := k) (j := 3) (by decide) (by omega))
          have hcn : wr.cell? ⟨g, n, none⟩ = some (.int .u32 (x : Int)) := by
            rw [cell_of_heap hr, numsC_get _ _ (by rw [partW_length]; omega), hget, hx]
          have hfree := free_of_heap hr n
          have h2 : ∀ z : Int, z = ((x * 256 + c.toNat : Nat) : Int) → (wr.setCell ⟨g, n, none⟩ (.int .u32 z)).heap[g]? = some (.cells (numsC (partW bs (4 * n + (k + 1)))) 64 (0, 0)) := by
            rintro z rfl
            rw [heap_setCell_same hr, numsC_set, hset]
            rfl
          have h3 : ∀ v, Fr [] w (wr.setCell ⟨g, n, none⟩ v) := fun v => hf.trans (Fr.set0 wr g n v) (by simp) (by simp; have := HG.out; omega)
          have H2 := Lib.hid h2
          have H3 := Lib.hid h3
          clear h2 h3 hset hget hx hcc hr hlen e1 e2
          go_wp2_with fail
          go_region
          go_wp2_with fail
          go_roundw
          case rel => exact ⟨k + 1, by omega, by go_num, H2.out _ (by go_num), (H3.out _).andDrew⟩
          case measure => simp [intOf]; omega
        · have hd2 : decide ((k : Int) < 4) = false := decide_eq_false (by omega)
          rw [show 4 * n + k = 4 * (n + 1) from by omega] at hr
          have HR := Lib.hid hr
          clear hr
          go_wp2_with fail
          exact ⟨⟨n + 1, by omega, by go_num, HR.out, hf⟩, by simp [intOf]; omega⟩
    · have hd : decide ((n : Int) < 16) = false := decide_eq_false (by omega)
      obtain ⟨hr, hf⟩ := hr
      rw [show 4 * n = 64 from by omega, partW_end] at hr
      go_wp2_with fail
      go_loopw [6] (fun vj wr => ∃ j : Nat, 16 ≤ j ∧ j ≤ 64 ∧ vj = .int .i64 (j : Int) ∧ wr.heap[g]? = some (.cells (numsC (padW bs (j - 16))) 64 (0, 0)) ∧ Fr [] w wr) (fun vj _ => 64 - (intOf vj).toNat)
      case atStart => exact ⟨16, by omega, by omega, rfl, hr, hf⟩
      case round =>
        clear hr hf
        obtain ⟨j, hj16, hj, rfl, hr, hf⟩ := hrel
        by_cases hj64 : j < 64
        · have hd2 : decide ((j : Int) < 64) = true := decide_eq_true (by omega)
          obtain ⟨x15, x6, x14, x1, c15, c6, c14, c1, l15, l6, l14, l1, hset⟩ := sched_next bs (j - 16) (by omega)
          rw [show j - 16 = j - 16 from rfl] at c15
          rw [show 9 + (j - 16) = j - 7 from by omega] at c6
          rw [show 1 + (j - 16) = j - 15 from by omega] at c14
          rw [show 14 + (j - 16) = j - 2 from by omega] at c1
          rw [show 16 + (j - 16) = j from by omega, show j - 16 + 1 = j + 1 - 16 from by omega] at hset
          rw [← cell_of_heap hr] at c15 c6 c14 c1
          have hfree := free_of_heap hr j
          have h2 : ∀ z : Int, z = ((nextOf x15 x6 x14 x1 : Nat) : Int) → (wr.setCell ⟨g, j, none⟩ (.int .u32 z)).heap[g]? = some (.cells (numsC (padW bs (j + 1 - 16))) 64 (0, 0)) := by
            rintro z rfl
            rw [heap_setCell_same hr, hset]
          have hcj : wr.cell? ⟨g, j, none⟩ = some (.int .u32 (((padW bs (j - 16))[j]'(by rw [padW_length _ _ (by omega)]; omega) : Nat) : Int)) := by rw [cell_of_heap hr, numsC_get]
          have hnx := next_put x15 x6 x14 x1
          have h3 : ∀ v, Fr [] w (wr.setCell ⟨g, j, none⟩ v) := fun v => hf.trans (Fr.set0 wr g j v) (by simp) (by simp; have := HG.out; omega)
          obtain ⟨a1, -⟩ := small0_put x14 l14
          obtain ⟨b1, -⟩ := small1_put x1 l1
          have a2 := small0_ref x14 l14
          have b2 := small1_ref x1 l1
          have r1 : ∀ wx, Calls Tryz.prog 78 #[.int .u32 x14, .int .i64 7] wx fun e w' => e = .returned (.int .u32 (rotN x14 7 : Nat)) ∧ w' = wx := fun wx => flip_same (ref_turn_any x14 7 wx l14 (by decide))
          have r2 : ∀ wx, Calls Tryz.prog 78 #[.int .u32 x14, .int .i64 18] wx fun e w' => e = .returned (.int .u32 (rotN x14 18 : Nat)) ∧ w' = wx := fun wx => flip_same (ref_turn_any x14 18 wx l14 (by decide))
          have r3 : ∀ wx, Calls Tryz.prog 78 #[.int .u32 x1, .int .i64 17] wx fun e w' => e = .returned (.int .u32 (rotN x1 17 : Nat)) ∧ w' = wx := fun wx => flip_same (ref_turn_any x1 17 wx l1 (by decide))
          have r4 : ∀ wx, Calls Tryz.prog 78 #[.int .u32 x1, .int .i64 19] wx fun e w' => e = .returned (.int .u32 (rotN x1 19 : Nat)) ∧ w' = wx := fun wx => flip_same (ref_turn_any x1 19 wx l1 (by decide))
          have r5 : ∀ wx, Calls Tryz.prog 110 #[.int .u32 x14, .int .i64 3] wx fun e w' => e = .returned (.int .u32 ((x14 / 2 ^ 3 : Nat) : Int)) ∧ w' = wx := fun wx => flip_same (ref_move_any x14 3 wx l14 (by decide))
          have r6 : ∀ wx, Calls Tryz.prog 110 #[.int .u32 x1, .int .i64 10] wx fun e w' => e = .returned (.int .u32 ((x1 / 2 ^ 10 : Nat) : Int)) ∧ w' = wx := fun wx => flip_same (ref_move_any x1 10 wx l1 (by decide))
          obtain ⟨m14, hm14⟩ : ∃ m, m = x14 / 2 ^ 3 := ⟨_, rfl⟩
          obtain ⟨m1, hm1⟩ : ∃ m, m = x1 / 2 ^ 10 := ⟨_, rfl⟩
          rw [← hm14] at a2 r5
          rw [← hm1] at b2 r6
          have H2 := Lib.hid h2
          have H3 := Lib.hid h3
          have R1 := Lib.hid r1
          have R2 := Lib.hid r2
          have R3 := Lib.hid r3
          have R4 := Lib.hid r4
          have R5 := Lib.hid r5
          have R6 := Lib.hid r6
          have HNX := Lib.hid hnx
          clear h2 h3 r1 r2 r3 r4 r5 r6 hset hr hm14 hm1 hnx
          go_wp2_with fail
          go_quiet (first
            | (go_at_call 78; with_reducible refine Calls.quiet_of_same (R1.out _))
            | (go_at_call 78; with_reducible refine Calls.quiet_of_same (R2.out _))
            | (go_at_call 110; with_reducible refine Calls.quiet_of_same (R5.out _)))
          go_wp2_with fail
          have q15 : (wr.drewN nq).cell? ⟨g, j - 16, none⟩ = some (.int .u32 (x15 : Int)) := c15
          have q6 : (wr.drewN nq).cell? ⟨g, j - 7, none⟩ = some (.int .u32 (x6 : Int)) := c6
          have q1 : (wr.drewN nq).cell? ⟨g, j - 2, none⟩ = some (.int .u32 (x1 : Int)) := c1
          have qj : (wr.drewN nq).cell? ⟨g, j, none⟩ = some (.int .u32 (((padW bs (j - 16))[j]'(by rw [padW_length _ _ (by omega)]; omega) : Nat) : Int)) := hcj
          have qf : (wr.drewN nq).frozen? ⟨g, j, none⟩ = false := hfree
          have q2 : ∀ z : Int, z = ((nextOf x15 x6 x14 x1 : Nat) : Int) → ((wr.drewN nq).setCell ⟨g, j, none⟩ (.int .u32 z)).heap[g]? = some (.cells (numsC (padW bs (j + 1 - 16))) 64 (0, 0)) := fun z hz => H2.out z hz
          have q3 : ∀ v, Fr [] w ((wr.drewN nq).setCell ⟨g, j, none⟩ v) := fun v => ⟨(H3.out v).os, (H3.out v).tape, (H3.out v).output, (H3.out v).size, (H3.out v).block⟩
          have Q2 := Lib.hid q2
          have Q3 := Lib.hid q3
          clear c15 c6 c14 c1 hcj hfree q2 q3 H2 H3 hf
          generalize wr.drewN nq = wq at *
          go_quiet (first
            | (go_at_call 78; with_reducible refine Calls.quiet_of_same (R3.out _))
            | (go_at_call 78; with_reducible refine Calls.quiet_of_same (R4.out _))
            | (go_at_call 110; with_reducible refine Calls.quiet_of_same (R6.out _)))
          go_wp2_with fail
          go_region
          go_wp2_with fail
          go_roundw
          case rel => exact ⟨j + 1, by omega, by omega, by go_num, Q2.out _ (by rw [← HNX.out]; omega), Fr.drewNSet (Q3.out _)⟩
          case measure => simp [intOf]; omega
        · have hd2 : decide ((j : Int) < 64) = false := decide_eq_false (by omega)
          rw [show j - 16 = 48 from by omega, padW_end] at hr
          have HR := Lib.hid hr
          clear hr
          go_wp2_with fail
          go_ret
          have hout := HR.out
          rw [HG.out] at hout
          exact ⟨by rw [← HG.out]; rfl, hout, hf⟩
end Go.Proofs.YtjlkcdmeiakkbaaGreatDoor

/-! The document's answer Block. -/
namespace Go.Proofs.YtjlkcdmeiakkbaaGreatDoor
open Go.RowKit

theorem stC_nums (s : St) : stC s = numsC s.list := rfl
/-- What lies where in Block. -/
structure BlkAt (w : World) (ga gk gw g0 g1 : Nat) (S Z : Array Value) (ws : List Nat) (A : Array Value) (W : World) : Prop where
  fa : W.heap[ga]? = some (.cells A 65 (0, 0))
  fk : W.heap[gk]? = some (.cells (numsC kk) 116 (0, 0))
  fw : W.heap[gw]? = some (.cells (numsC ws) 64 (0, 0))
  fs : W.heap[g0]? = some (.cells S 65 (0, 0))
  fz : W.heap[g1]? = some (.cells Z 65 (0, 0))
  ff : Fr [] w W
theorem BlkAt.drewN {w : World} {ga gk gw g0 g1 : Nat} {S Z : Array Value} {ws : List Nat} {A : Array Value} {W : World} (h : BlkAt w ga gk gw g0 g1 S Z ws A W) (n : Nat) : BlkAt w ga gk gw g0 g1 S Z ws A (W.drewN n) :=
  ⟨h.fa, h.fk, h.fw, h.fs, h.fz, h.ff.andDrewN n⟩
theorem BlkAt.drew {w : World} {ga gk gw g0 g1 : Nat} {S Z : Array Value} {ws : List Nat} {A : Array Value} {W : World} (h : BlkAt w ga gk gw g0 g1 S Z ws A W) : BlkAt w ga gk gw g0 g1 S Z ws A W.drew :=
  ⟨h.fa, h.fk, h.fw, h.fs, h.fz, h.ff.andDrew⟩
theorem BlkAt.set {w : World} {ga gk gw g0 g1 : Nat} {S Z : Array Value} {ws : List Nat} {A : Array Value} {W : World} (h : BlkAt w ga gk gw g0 g1 S Z ws A W) (hk : ga ≠ gk) (hw : ga ≠ gw) (hs : ga ≠ g0) (hz : ga ≠ g1) (hg : w.heap.size ≤ ga) (i : Nat) (v : Value) :
    BlkAt w ga gk gw g0 g1 S Z ws (A.setIfInBounds i v) (W.setCell ⟨ga, i, none⟩ v) :=
  ⟨heap_setCell_same h.fa v, (Fr.set0 W ga i v).heap h.fk (by simpa using hk.symm), (Fr.set0 W ga i v).heap h.fw (by simpa using hw.symm), (Fr.set0 W ga i v).heap h.fs (by simpa using hs.symm), (Fr.set0 W ga i v).heap h.fz (by simpa using hz.symm),
    h.ff.trans (Fr.set0 W ga i v) (by simp) (by simp; omega)⟩
theorem stC_shift (a b c d e f g h x0 x4 : Nat) : ((((((((stC ⟨a, b, c, d, e, f, g, h⟩).setIfInBounds 7 (.int .u32 (g : Int))).setIfInBounds 6 (.int .u32 (f : Int))).setIfInBounds 5 (.int .u32 (e : Int))).setIfInBounds 4 (.int .u32 (x4 : Int))).setIfInBounds 3 (.int .u32 (c : Int))).setIfInBounds 2 (.int .u32 (b : Int))).setIfInBounds 1 (.int .u32 (a : Int))).setIfInBounds 0 (.int .u32 (x0 : Int)) = stC ⟨x0, a, b, c, x4, e, f, g⟩ := by
  rw [stC_nums, numsC_set, numsC_set, numsC_set, numsC_set, numsC_set, numsC_set, numsC_set, numsC_set]
  rfl
/-- The sums so far. -/
def mixL (s t : St) (i : Nat) : List Nat := (combSt s t).list.take i ++ t.list.drop i
theorem mixL_zero (s t : St) : mixL s t 0 = t.list := rfl
theorem mixL_end (s t : St) : mixL s t 8 = (combSt s t).list := rfl
theorem mixL_length (s t : St) (i : Nat) (h : i ≤ 8) : (mixL s t i).length = 8 := by simp [mixL, St.list_length]; omega
theorem mixL_get (s t : St) (i : Nat) (h : i < 8) : (mixL s t i)[i]? = some (t.list[i]'(by rw [St.list_length]; exact h)) := by
  match i, h with
  | 0, _ | 1, _ | 2, _ | 3, _ | 4, _ | 5, _ | 6, _ | 7, _ => rfl
theorem mixL_set (s t : St) (i : Nat) (h : i < 8) : (mixL s t i).set i (((t.list[i]'(by rw [St.list_length]; exact h)) + (s.list[i]'(by rw [St.list_length]; exact h))) % 4294967296) = mixL s t (i + 1) := by
  rw [Nat.add_comm]
  match i, h with
  | 0, _ | 1, _ | 2, _ | 3, _ | 4, _ | 5, _ | 6, _ | 7, _ => rfl

def BShR (w : World) (ga gk gw g0 g1 : Nat) (S Z : Array Value) (ws : List Nat) (s : St) (vi : Value) (W : World) : Prop :=
  ∃ n a b c d e f g h : Nat, n ≤ 64 ∧ rnds ws n s = ⟨a, b, c, d, e, f, g, h⟩ ∧ vi = .int .i64 (n : Int) ∧ BlkAt w ga gk gw g0 g1 S Z ws (stC ⟨a, b, c, d, e, f, g, h⟩) W
set_option maxRecDepth 100000 in
theorem ref_block_any (s : St) (bs : List UInt8) (sv : Value) (w : World) (hs : s.ok) (hb : bytesAt w sv bs) (hl : bs.length = 64) :
    Calls Tryz.prog 38 #[.agg (stC s), sv] w fun e w' => e = .returned (.agg (stC (blockSt s bs))) ∧ Fr [] w w' := by
  have hszS := sizeN8 s
  have hszR := sizeN8 (blockSt s bs)
  have honS := stC_one s
  have honR := stC_one (blockSt s bs)
  obtain ⟨S, hS⟩ : ∃ S, S = stC s := ⟨_, rfl⟩
  obtain ⟨Z, hZ⟩ : ∃ Z, Z = stC zeroSt := ⟨_, rfl⟩
  obtain ⟨R, hR⟩ : ∃ R, R = stC (blockSt s bs) := ⟨_, rfl⟩
  obtain ⟨Z64, hZ64⟩ : ∃ Z, Z = numsC (List.replicate 64 0) := ⟨_, rfl⟩
  obtain ⟨K, hK⟩ : ∃ K, K = numsC kk := ⟨_, rfl⟩
  have hkn := fun wx => ref_known_any wx
  have hiz := infoN8
  have hiz64 := infoN64
  have hold : Z.size = S.size := by rw [hZ, hS, stC_size, stC_size]
  have holdR : Z.size = R.size := by rw [hZ, hR, stC_size, stC_size]
  have hszK := sizeKK
  have honK := numsC_one kk
  have holdK : Z64.size = K.size := by rw [hZ64, hK, numsC_size, numsC_size, kk_length, List.length_replicate]
  rw [← hS] at hszS honS
  rw [← hR] at hszR honR
  rw [← hZ] at hiz
  rw [← hZ64] at hiz64
  rw [← hK] at hszK honK hkn
  rw [← hS, ← hR]
  have HI := Lib.hid hiz
  have HI64 := Lib.hid hiz64
  have HSZS := Lib.hid hszS
  have HSZR := Lib.hid hszR
  have HONS := Lib.hid honS
  have HONR := Lib.hid honR
  have HOLD := Lib.hid hold
  have HOLDR := Lib.hid holdR
  have HSZK := Lib.hid hszK
  have HONK := Lib.hid honK
  have HOLDK := Lib.hid holdK
  have HKN := Lib.hid hkn
  have HS := Lib.hid hS
  have HK := Lib.hid hK
  have HR := Lib.hid hR
  have HB := Lib.hid hb
  have HWD := Lib.hid (fun wx hx => ref_words_any bs sv wx hx hl)
  clear hiz hiz64 hszS hszR honS honR hold holdR hszK honK holdK hkn hS hZ hR hZ64 hK hb
  go_enter Tryz.func38, Tryz.ntmps38
  go_wp2_with (first
    | (refine wpL_boxArr rfl 65 _ rfl S rfl ?_; intro w1 hh1 hf1 hs1; refine wpL_newArr rfl 65 rfl Z HI.out ?_; intro w2 hh2 hf2 hs2; have hb2 := HB.out.below (hf1.trans hf2 (by simp) (n := []) (by simp)))
    | (go_at_call 76; refine (HWD.out w2 hb2).mono ?_; rintro e w3 ⟨rfl, hh3, hf3⟩)
    | (go_at_call 77; refine (HKN.out w3).mono ?_; rintro e w4 ⟨rfl, hf4⟩)
    | (refine wpL_newArr rfl 116 rfl Z64 HI64.out ?_; intro w5 hh5 hf5 hs5; refine wpL_storeArr rfl 116 (.tmp 6) (.tmp 18) rfl w4.heap.size K Z64 rfl rfl 116 hh5.out HSZK.out HOLDK.out HONK.out ?_; intro w6 hh6 hf6 hs6)
    | (refine wpList_load_row rfl 65 (.tmp 2) rfl w.heap.size rfl 65 S (0, 0) _ (hf6.heap ((((hf2.trans hf3 (by simp) (n := []) (by simp)).trans hf4 (by simp) (n := []) (by simp)).trans hf5 (by simp) (n := []) (by simp)).heap hh1.out (by simp)) (by simp; have := hs1.out; have := hs2.out; have := hf3.size; have := hf4.size; omega)) Tryz.underlying65 rfl HSZS.out ?_)
    | (refine wpL_newArr rfl 65 rfl Z HI.out ?_; intro w7 hh7 hf7 hs7; refine wpL_storeArr rfl 65 (.tmp 7) (.tmp 19) rfl w6.heap.size S Z rfl rfl 65 hh7.out HSZS.out HOLD.out HONS.out ?_; intro w8 hh8 hf8 hs8))
  have z1 := hs1.out
  have z2 := hs2.out
  have z3 := hf3.size
  have z4 := hf4.size
  have z5 := hs5.out
  have z6 := hs6.out
  have z3' : w2.heap.size < w3.heap.size := (Array.getElem?_eq_some_iff.1 hh3).1
  have f6 : ∀ (k : Nat) (ob : Obj), k ≠ w4.heap.size → w5.heap[k]? = some ob → w6.heap[k]? = some ob := fun k ob hk ho => hf6.heap ho (by simpa using hk)
  have f8 : ∀ (k : Nat) (ob : Obj), k ≠ w6.heap.size → w6.heap[k]? = some ob → w8.heap[k]? = some ob := fun k ob hk ho => hf8.heap (hf7.heap ho (by simp)) (by simpa using hk)
  have f25 : Fr [] w2 w5 := (hf3.trans hf4 (by simp) (n := []) (by simp)).trans hf5 (by simp) (by simp)
  have hfr : Fr [] w w8 := ((((hf1.trans hf2 (by simp) (n := []) (by simp)).trans f25 (by simp) (n := []) (by simp)).trans hf6 (by simp) (n := []) (by simp; omega)).trans hf7 (by simp) (n := []) (by simp)).trans hf8 (by simp) (by simp; omega)
  have hB : BlkAt w w6.heap.size w4.heap.size w2.heap.size w.heap.size w1.heap.size S Z (sched bs) S w8 :=
    ⟨hh8.out, by rw [← HK.out]; exact f8 _ _ (by omega) hh6.out, f8 _ _ (by omega) (f6 _ _ (by omega) ((hf4.trans hf5 (by simp) (n := []) (by simp)).heap hh3 (by simp))),
      f8 _ _ (by omega) (f6 _ _ (by omega) (f25.heap (hf2.heap hh1.out (by simp)) (by simp))), f8 _ _ (by omega) (f6 _ _ (by omega) (f25.heap hh2.out (by simp))), hfr⟩
  have ne1 : w6.heap.size ≠ w4.heap.size := by omega
  have ne2 : w6.heap.size ≠ w2.heap.size := by omega
  have ne3 : w6.heap.size ≠ w.heap.size := by omega
  have ne4 : w6.heap.size ≠ w1.heap.size := by omega
  have ne5 : w.heap.size ≤ w6.heap.size := by omega
  have ne6 : w.heap.size ≤ w1.heap.size := by omega
  have ne7 : w1.heap.size ≠ w6.heap.size := by omega
  clear hh1 hf1 hs1 hh2 hf2 hs2 hh3 hf3 hf4 hh5 hf5 hs5 hh6 hf6 hs6 hh7 hf7 hs7 hh8 hf8 hs8 z1 z2 z3 z4 z5 z6 z3' f6 f8 f25 hfr hb2
  obtain ⟨ga, ea⟩ : ∃ g, g = w6.heap.size := ⟨_, rfl⟩
  obtain ⟨gk, ek⟩ : ∃ g, g = w4.heap.size := ⟨_, rfl⟩
  obtain ⟨gw, ew⟩ : ∃ g, g = w2.heap.size := ⟨_, rfl⟩
  obtain ⟨g0, e0⟩ : ∃ g, g = w.heap.size := ⟨_, rfl⟩
  obtain ⟨g1, e1⟩ : ∃ g, g = w1.heap.size := ⟨_, rfl⟩
  rw [← ea] at hB ne1 ne2 ne3 ne4 ne5 ne7 ⊢
  rw [← ek] at hB ne1 ⊢
  rw [← ew] at hB ne2 ⊢
  rw [← e1] at hB ne4 ne6 ne7 ⊢
  rw [← e0] at hB ne3 ne5 ne6 ⊢
  have E0 := Lib.hid e0
  clear ea ek ew e0 e1
  have hsl := sched_length bs
  obtain ⟨ws, hws⟩ : ∃ ws, ws = sched bs := ⟨_, rfl⟩
  rw [← hws] at hsl hB
  have HWS := Lib.hid hws
  clear hws
  have hg : w.heap.size ≤ ga := by rw [← E0.out]; exact ne5
  have SET := Lib.hid (fun A W (h : BlkAt w ga gk gw g0 g1 S Z ws A W) i v => h.set ne1 ne2 ne3 ne4 hg i v)
  obtain ⟨sa, sb, sc, sd, se, sf, sg, sh⟩ := s
  have hB0 : BlkAt w ga gk gw g0 g1 S Z ws (stC ⟨sa, sb, sc, sd, se, sf, sg, sh⟩) w8 := by rw [← HS.out]; exact hB
  clear hB
  go_loopw [8] (BShR w ga gk gw g0 g1 S Z ws ⟨sa, sb, sc, sd, se, sf, sg, sh⟩) (fun i _ => 64 - (intOf i).toNat)
  case atStart => exact ⟨0, sa, sb, sc, sd, se, sf, sg, sh, by omega, rfl, rfl, hB0⟩
  case round =>
    clear hB0
    obtain ⟨n, a, b, c, d, e, f, g, h, hn, hrn, rfl, hB⟩ := hrel
    have HB := Lib.hid hB
    clear hB
    by_cases hn64 : n < 64
    · have hd : decide ((n : Int) < 64) = true := decide_eq_true (by omega)
      have hok : (⟨a, b, c, d, e, f, g, h⟩ : St).ok := by rw [← hrn]; exact rnds_ok ws hsl _ hs n (by omega)
      have hnext := rnds_succ ws hsl n hn64 ⟨sa, sb, sc, sd, se, sf, sg, sh⟩
      rw [hrn, turnSt_eq] at hnext
      obtain ⟨k, hkk⟩ : ∃ k, k = kk[n]'(by rw [kk_length]; exact hn64) := ⟨_, rfl⟩
      obtain ⟨x, hx⟩ : ∃ x, x = ws[n]'(by omega) := ⟨_, rfl⟩
      rw [← hkk, ← hx] at hnext
      have HCK : Hid (∀ W A, BlkAt w ga gk gw g0 g1 S Z ws A W → W.cell? ⟨gk, n, none⟩ = some (.int .u32 (k : Int))) := Lib.hid (fun W A hW => by rw [cell_of_heap hW.fk, numsC_get _ _ (by rw [kk_length]; exact hn64), hkk])
      have HCW : Hid (∀ W A, BlkAt w ga gk gw g0 g1 S Z ws A W → W.cell? ⟨gw, n, none⟩ = some (.int .u32 (x : Int))) := Lib.hid (fun W A hW => by rw [cell_of_heap hW.fw, numsC_get _ _ (by omega), hx])
      have hn64i : (n : Int) < 64 := by omega

      have qe6 : ∀ wx, Calls Tryz.prog 78 #[.int .u32 e, .int .i64 6] wx fun r w' => r = .returned (.int .u32 (rotN e 6 : Nat)) ∧ w' = wx := fun wx => flip_same (ref_turn_any e 6 wx hok.e (by decide))
      have qe11 : ∀ wx, Calls Tryz.prog 78 #[.int .u32 e, .int .i64 11] wx fun r w' => r = .returned (.int .u32 (rotN e 11 : Nat)) ∧ w' = wx := fun wx => flip_same (ref_turn_any e 11 wx hok.e (by decide))
      have qe25 : ∀ wx, Calls Tryz.prog 78 #[.int .u32 e, .int .i64 25] wx fun r w' => r = .returned (.int .u32 (rotN e 25 : Nat)) ∧ w' = wx := fun wx => flip_same (ref_turn_any e 25 wx hok.e (by decide))
      have qa2 : ∀ wx, Calls Tryz.prog 78 #[.int .u32 a, .int .i64 2] wx fun r w' => r = .returned (.int .u32 (rotN a 2 : Nat)) ∧ w' = wx := fun wx => flip_same (ref_turn_any a 2 wx hok.a (by decide))
      have qa13 : ∀ wx, Calls Tryz.prog 78 #[.int .u32 a, .int .i64 13] wx fun r w' => r = .returned (.int .u32 (rotN a 13 : Nat)) ∧ w' = wx := fun wx => flip_same (ref_turn_any a 13 wx hok.a (by decide))
      have qa22 : ∀ wx, Calls Tryz.prog 78 #[.int .u32 a, .int .i64 22] wx fun r w' => r = .returned (.int .u32 (rotN a 22 : Nat)) ∧ w' = wx := fun wx => flip_same (ref_turn_any a 22 wx hok.a (by decide))
      have xe1 := u32_xor_nat (rotN e 6) (rotN e 11) (rotN_lt e 6 hok.e (by decide)) (rotN_lt e 11 hok.e (by decide))
      have xe2 : bits .xor .u32 ((rotN e 6 ^^^ rotN e 11 : Nat) : Int) ((rotN e 25 : Nat) : Int) = ((bigE e : Nat) : Int) := u32_xor_nat _ _ (xor32 (rotN_lt e 6 hok.e (by decide)) (rotN_lt e 11 hok.e (by decide))) (rotN_lt e 25 hok.e (by decide))
      have xa1 := u32_xor_nat (rotN a 2) (rotN a 13) (rotN_lt a 2 hok.a (by decide)) (rotN_lt a 13 hok.a (by decide))
      have xa2 : bits .xor .u32 ((rotN a 2 ^^^ rotN a 13 : Nat) : Int) ((rotN a 22 : Nat) : Int) = ((bigA a : Nat) : Int) := u32_xor_nat _ _ (xor32 (rotN_lt a 2 hok.a (by decide)) (rotN_lt a 13 hok.a (by decide))) (rotN_lt a 22 hok.a (by decide))
      have b1 := u32_and_nat e f hok.e hok.f
      have b2 : bits .and .u32 (4294967295 - (e : Int)) (g : Int) = (((4294967295 - e) &&& g : Nat) : Int) := by
        have he := hok.e
        simp only at he
        rw [show 4294967295 - (e : Int) = ((4294967295 - e : Nat) : Int) from by omega]
        exact u32_and_nat (4294967295 - e) g (by omega) hok.g
      have b3 : bits .or .u32 ((e &&& f : Nat) : Int) (((4294967295 - e) &&& g : Nat) : Int) = ((chN e f g : Nat) : Int) := u32_or_nat (e &&& f) ((4294967295 - e) &&& g) (and32 hok.f) (and32 hok.g)
      have m1 := u32_and_nat a b hok.a hok.b
      have m2 := u32_and_nat a c hok.a hok.c
      have m3 := u32_and_nat b c hok.b hok.c
      have m4 := u32_or_nat (a &&& b) (a &&& c) (and32 hok.b) (and32 hok.c)
      have m5 : bits .or .u32 (((a &&& b) ||| (a &&& c) : Nat) : Int) ((b &&& c : Nat) : Int) = ((majN a b c : Nat) : Int) := u32_or_nat ((a &&& b) ||| (a &&& c)) (b &&& c) (or32 (and32 hok.b) (and32 hok.c)) (and32 hok.c)
      have hel : e ≤ 4294967295 := by have he := hok.e; simp only at he; omega
      have hst := fun W A hW => SET.out A W hW
      have Qe6 := Lib.hid qe6
      have Qe11 := Lib.hid qe11
      have Qe25 := Lib.hid qe25
      have Qa2 := Lib.hid qa2
      have Qa13 := Lib.hid qa13
      have Qa22 := Lib.hid qa22
      have HN := Lib.hid hnext
      clear hst hnext hkk hx hrn hok qe6 qe11 qe25 qa2 qa13 qa22
      have HBb := HB
      have c0 : wr.cell? ⟨ga, 0, none⟩ = some (.int .u32 (a : Int)) := by rw [cell_of_heap HB.out.fa]; rfl
      have c1 : wr.cell? ⟨ga, 1, none⟩ = some (.int .u32 (b : Int)) := by rw [cell_of_heap HB.out.fa]; rfl
      have c2 : wr.cell? ⟨ga, 2, none⟩ = some (.int .u32 (c : Int)) := by rw [cell_of_heap HB.out.fa]; rfl
      have c3 : wr.cell? ⟨ga, 3, none⟩ = some (.int .u32 (d : Int)) := by rw [cell_of_heap HB.out.fa]; rfl
      have c4 : wr.cell? ⟨ga, 4, none⟩ = some (.int .u32 (e : Int)) := by rw [cell_of_heap HB.out.fa]; rfl
      have c5 : wr.cell? ⟨ga, 5, none⟩ = some (.int .u32 (f : Int)) := by rw [cell_of_heap HB.out.fa]; rfl
      have c6 : wr.cell? ⟨ga, 6, none⟩ = some (.int .u32 (g : Int)) := by rw [cell_of_heap HB.out.fa]; rfl
      have c7 : wr.cell? ⟨ga, 7, none⟩ = some (.int .u32 (h : Int)) := by rw [cell_of_heap HB.out.fa]; rfl
      go_wp2_with fail
      go_quiet (first | (go_at_call 78; with_reducible refine Calls.quiet_of_same (Qe6.out _)) | (go_at_call 78; with_reducible refine Calls.quiet_of_same (Qe11.out _)) | (go_at_call 78; with_reducible refine Calls.quiet_of_same (Qe25.out _)))
      clear c0 c1 c2 c3 c4 c5 c6 c7
      have HB1 := Lib.hid (HB.out.drewN nq)
      generalize wr.drewN nq = wrq at HB1 ⊢
      clear nq
      have c0 : wrq.cell? ⟨ga, 0, none⟩ = some (.int .u32 (a : Int)) := by rw [cell_of_heap HB1.out.fa]; rfl
      have c1 : wrq.cell? ⟨ga, 1, none⟩ = some (.int .u32 (b : Int)) := by rw [cell_of_heap HB1.out.fa]; rfl
      have c2 : wrq.cell? ⟨ga, 2, none⟩ = some (.int .u32 (c : Int)) := by rw [cell_of_heap HB1.out.fa]; rfl
      have c3 : wrq.cell? ⟨ga, 3, none⟩ = some (.int .u32 (d : Int)) := by rw [cell_of_heap HB1.out.fa]; rfl
      have c4 : wrq.cell? ⟨ga, 4, none⟩ = some (.int .u32 (e : Int)) := by rw [cell_of_heap HB1.out.fa]; rfl
      have c5 : wrq.cell? ⟨ga, 5, none⟩ = some (.int .u32 (f : Int)) := by rw [cell_of_heap HB1.out.fa]; rfl
      have c6 : wrq.cell? ⟨ga, 6, none⟩ = some (.int .u32 (g : Int)) := by rw [cell_of_heap HB1.out.fa]; rfl
      have c7 : wrq.cell? ⟨ga, 7, none⟩ = some (.int .u32 (h : Int)) := by rw [cell_of_heap HB1.out.fa]; rfl
      go_wp2_with fail
      have ck := HCK.out _ _ HB1.out
      have cw := HCW.out _ _ HB1.out
      go_quiet (fail)
      clear ck cw
      clear c0 c1 c2 c3 c4 c5 c6 c7
      have HB2 := Lib.hid (HB1.out.drewN nq)
      generalize wrq.drewN nq = wrqq at HB2 ⊢
      clear nq
      have c0 : wrqq.cell? ⟨ga, 0, none⟩ = some (.int .u32 (a : Int)) := by rw [cell_of_heap HB2.out.fa]; rfl
      have c1 : wrqq.cell? ⟨ga, 1, none⟩ = some (.int .u32 (b : Int)) := by rw [cell_of_heap HB2.out.fa]; rfl
      have c2 : wrqq.cell? ⟨ga, 2, none⟩ = some (.int .u32 (c : Int)) := by rw [cell_of_heap HB2.out.fa]; rfl
      have c3 : wrqq.cell? ⟨ga, 3, none⟩ = some (.int .u32 (d : Int)) := by rw [cell_of_heap HB2.out.fa]; rfl
      have c4 : wrqq.cell? ⟨ga, 4, none⟩ = some (.int .u32 (e : Int)) := by rw [cell_of_heap HB2.out.fa]; rfl
      have c5 : wrqq.cell? ⟨ga, 5, none⟩ = some (.int .u32 (f : Int)) := by rw [cell_of_heap HB2.out.fa]; rfl
      have c6 : wrqq.cell? ⟨ga, 6, none⟩ = some (.int .u32 (g : Int)) := by rw [cell_of_heap HB2.out.fa]; rfl
      have c7 : wrqq.cell? ⟨ga, 7, none⟩ = some (.int .u32 (h : Int)) := by rw [cell_of_heap HB2.out.fa]; rfl
      go_wp2_with fail
      go_quiet (first | (go_at_call 78; with_reducible refine Calls.quiet_of_same (Qa2.out _)) | (go_at_call 78; with_reducible refine Calls.quiet_of_same (Qa13.out _)) | (go_at_call 78; with_reducible refine Calls.quiet_of_same (Qa22.out _)))
      clear c0 c1 c2 c3 c4 c5 c6 c7
      have HB3 := Lib.hid (HB2.out.drewN nq)
      generalize wrqq.drewN nq = wrqqq at HB3 ⊢
      clear nq
      have c0 : wrqqq.cell? ⟨ga, 0, none⟩ = some (.int .u32 (a : Int)) := by rw [cell_of_heap HB3.out.fa]; rfl
      have c1 : wrqqq.cell? ⟨ga, 1, none⟩ = some (.int .u32 (b : Int)) := by rw [cell_of_heap HB3.out.fa]; rfl
      have c2 : wrqqq.cell? ⟨ga, 2, none⟩ = some (.int .u32 (c : Int)) := by rw [cell_of_heap HB3.out.fa]; rfl
      have c3 : wrqqq.cell? ⟨ga, 3, none⟩ = some (.int .u32 (d : Int)) := by rw [cell_of_heap HB3.out.fa]; rfl
      have c4 : wrqqq.cell? ⟨ga, 4, none⟩ = some (.int .u32 (e : Int)) := by rw [cell_of_heap HB3.out.fa]; rfl
      have c5 : wrqqq.cell? ⟨ga, 5, none⟩ = some (.int .u32 (f : Int)) := by rw [cell_of_heap HB3.out.fa]; rfl
      have c6 : wrqqq.cell? ⟨ga, 6, none⟩ = some (.int .u32 (g : Int)) := by rw [cell_of_heap HB3.out.fa]; rfl
      have c7 : wrqqq.cell? ⟨ga, 7, none⟩ = some (.int .u32 (h : Int)) := by rw [cell_of_heap HB3.out.fa]; rfl
      have fz0 := free_of_heap HB3.out.fa 0
      have fz1 := free_of_heap HB3.out.fa 1
      have fz2 := free_of_heap HB3.out.fa 2
      have fz3 := free_of_heap HB3.out.fa 3
      have fz4 := free_of_heap HB3.out.fa 4
      have fz5 := free_of_heap HB3.out.fa 5
      have fz6 := free_of_heap HB3.out.fa 6
      have fz7 := free_of_heap HB3.out.fa 7
      go_wp2_with fail
      obtain ⟨x4, hx4⟩ : ∃ x4, x4 = (d + xN e f g h k x) % 4294967296 := ⟨_, rfl⟩
      obtain ⟨x0, hx0⟩ : ∃ x0, x0 = (xN e f g h k x + yN a b c) % 4294967296 := ⟨_, rfl⟩
      rw [← hx4, ← hx0] at HN
      have key : ∀ z4 z0 : Int, z4 = (x4 : Int) → z0 = (x0 : Int) → BlkAt w ga gk gw g0 g1 S Z ws (stC ⟨x0, a, b, c, x4, e, f, g⟩)
          ((((((((wrqqq.setCell ⟨ga, 7, none⟩ (.int .u32 (g : Int))).setCell ⟨ga, 6, none⟩ (.int .u32 (f : Int))).setCell ⟨ga, 5, none⟩ (.int .u32 (e : Int))).setCell ⟨ga, 4, none⟩ (.int .u32 z4)).setCell ⟨ga, 3, none⟩ (.int .u32 (c : Int))).setCell ⟨ga, 2, none⟩ (.int .u32 (b : Int))).setCell ⟨ga, 1, none⟩ (.int .u32 (a : Int))).setCell ⟨ga, 0, none⟩ (.int .u32 z0)) := by
        rintro _ _ rfl rfl
        have r7 := SET.out _ _ HB3.out 7 (.int .u32 (g : Int))
        have r6 := SET.out _ _ r7 6 (.int .u32 (f : Int))
        have r5 := SET.out _ _ r6 5 (.int .u32 (e : Int))
        have r4 := SET.out _ _ r5 4 (.int .u32 (x4 : Int))
        have r3 := SET.out _ _ r4 3 (.int .u32 (c : Int))
        have r2 := SET.out _ _ r3 2 (.int .u32 (b : Int))
        have r1 := SET.out _ _ r2 1 (.int .u32 (a : Int))
        have r0 := SET.out _ _ r1 0 (.int .u32 (x0 : Int))
        rw [stC_shift] at r0
        exact r0
      unfold xN at hx4
      unfold xN yN at hx0
      go_roundw
      case rel => exact ⟨n + 1, _, _, _, _, _, _, _, _, by omega, HN.out, by go_num, key _ _ (by omega) (by omega)⟩
      case measure => simp [intOf]; omega
    · have hd : decide ((n : Int) < 64) = false := decide_eq_false (by omega)
      have hend : blockSt ⟨sa, sb, sc, sd, se, sf, sg, sh⟩ bs = combSt ⟨sa, sb, sc, sd, se, sf, sg, sh⟩ ⟨a, b, c, d, e, f, g, h⟩ := by
        rw [blockSt, ← HWS.out, ← hrn, show n = 64 from by omega]
      have HEND := Lib.hid hend
      have HB4 : Hid (BlkAt w ga gk gw g0 g1 S Z ws (numsC (mixL ⟨sa, sb, sc, sd, se, sf, sg, sh⟩ ⟨a, b, c, d, e, f, g, h⟩ 0)) wr) := Lib.hid HB.out
      clear hend hrn HB
      obtain ⟨s1, hs1⟩ : ∃ s1 : St, s1 = ⟨sa, sb, sc, sd, se, sf, sg, sh⟩ := ⟨_, rfl⟩
      obtain ⟨t1, ht1⟩ : ∃ t1 : St, t1 = ⟨a, b, c, d, e, f, g, h⟩ := ⟨_, rfl⟩
      rw [← hs1] at HEND HB4 hs HS HR
      rw [← ht1] at HEND HB4
      clear hs1 ht1
      go_wp2_with fail
      go_loopw [15] (fun vi W => ∃ i : Nat, i ≤ 8 ∧ vi = .int .i64 (i : Int) ∧ BlkAt w ga gk gw g0 g1 S Z ws (numsC (mixL s1 t1 i)) W) (fun vi _ => 8 - (intOf vi).toNat)
      case atStart => exact ⟨0, by omega, rfl, HB4.out⟩
      case round =>
        clear HB4
        obtain ⟨i, hi, rfl, hB⟩ := hrel
        by_cases hi8 : i < 8
        · have hd2 : decide ((i : Int) < 8) = true := decide_eq_true (by omega)
          have hi8i : (i : Int) < 8 := by omega
          obtain ⟨y, hy⟩ : ∃ y, y = t1.list[i]'(by rw [St.list_length]; exact hi8) := ⟨_, rfl⟩
          obtain ⟨z, hz⟩ : ∃ z, z = s1.list[i]'(by rw [St.list_length]; exact hi8) := ⟨_, rfl⟩
          have hml := mixL_length s1 t1 i hi
          have cy : wr.cell? ⟨ga, i, none⟩ = some (.int .u32 (y : Int)) := by
            have hg := mixL_get s1 t1 i hi8
            rw [List.getElem?_eq_getElem (by omega)] at hg
            rw [cell_of_heap hB.fa, numsC_get _ _ (by omega), Option.some.inj hg, hy]
          have cz : wr.cell? ⟨g0, i, none⟩ = some (.int .u32 (z : Int)) := by
            rw [cell_of_heap hB.fs, HS.out, stC_list _ _ hi8, hz]
          have hset := mixL_set s1 t1 i hi8
          rw [← hy, ← hz] at hset
          have hfz := free_of_heap hB.fa i
          have key : ∀ v : Int, v = (((y + z) % 4294967296 : Nat) : Int) → BlkAt w ga gk gw g0 g1 S Z ws (numsC (mixL s1 t1 (i + 1))) (wr.setCell ⟨ga, i, none⟩ (.int .u32 v)) := by
            rintro _ rfl
            rw [← hset, ← numsC_set]
            exact SET.out _ _ hB i _
          have KEY := Lib.hid key
          clear key hset hy hz hml hB
          go_wp2_with fail
          go_region
          go_wp2_with fail
          go_roundw
          case rel => exact ⟨i + 1, by omega, by go_num, (KEY.out _ (by omega)).drew⟩
          case measure => simp [intOf]; omega
        · have hd2 : decide ((i : Int) < 8) = false := decide_eq_false (by omega)
          rw [show i = 8 from by omega, mixL_end, ← stC_nums, ← HEND.out, ← HR.out] at hB
          have HB5 := Lib.hid hB
          clear hB
          go_wp2_with (refine wpList_load_row rfl 65 _ rfl ga rfl 65 R (0, 0) _ HB5.out.fa Tryz.underlying65 rfl HSZR.out ?_; refine wpL_storeArr rfl 65 (.tmp 4) (.tmp 133) rfl g1 R Z rfl rfl 65 HB5.out.fz HSZR.out HOLDR.out HONR.out ?_; intro w9 hh9 hf9 hs9)
          refine bodyPost_ret (v := .agg R) ?_ rfl ⟨rfl, HB5.out.ff.trans hf9 (by simp) (by simp; have := E0.out; omega)⟩
          exact results_cell_row rfl _ _ g1 65 R (0, 0) _ rfl hh9.out Tryz.underlying65 rfl HSZR.out
end Go.Proofs.YtjlkcdmeiakkbaaGreatDoor

/-! The document's answer Fill. -/
namespace Go.Proofs.YtjlkcdmeiakkbaaGreatDoor
open Go.RowKit

/-- The length's bytes, t of them written, the last one first. -/
def tailT (x t : Nat) : List UInt8 := (List.range 8).map fun i => if 8 - t ≤ i then UInt8.ofNat (x / 256 ^ (7 - i) % 256) else 0
theorem tailT_length (x t : Nat) : (tailT x t).length = 8 := by simp [tailT]
theorem tailT_zero (x : Nat) : tailT x 0 = List.replicate 8 (0 : UInt8) := by
  apply List.ext_getElem
  · simp [tailT]
  · intro i h1 h2
    have : i < 8 := by simpa [tailT] using h1
    rw [List.getElem_replicate]
    simp only [tailT, List.getElem_map, List.getElem_range]
    rw [if_neg (by omega)]
theorem tailT_end (x : Nat) : tailT x 8 = be8 x := by
  rw [tailT, be8]
  apply List.map_congr_left
  intro i hi
  rw [if_pos (by omega)]
theorem tailT_set (x t : Nat) (ht : t < 8) : (tailT x t).set (7 - t) (UInt8.ofNat (x / 256 ^ t % 256)) = tailT x (t + 1) := by
  apply List.ext_getElem
  · simp [tailT]
  · intro i h1 h2
    have h8 : i < 8 := by simpa [tailT] using h2
    rw [List.getElem_set]
    simp only [tailT, List.getElem_map, List.getElem_range]
    by_cases e : 7 - t = i
    · subst e
      rw [if_pos rfl, if_pos (by omega), show 7 - (7 - t) = t from by omega]
    · rw [if_neg e]
      by_cases h : 8 - t ≤ i
      · rw [if_pos h, if_pos (by omega)]
      · rw [if_neg h, if_neg (by omega)]
def outT (t : Nat) : List UInt8 := 128 :: List.replicate t 0
theorem outT_length (t : Nat) : (outT t).length = t + 1 := by simp [outT]
theorem outT_succ (t : Nat) : outT (t + 1) = outT t ++ [0] := by simp [outT, List.replicate_succ']
theorem outT_fill (n : Nat) : outT (zerosN n) ++ be8 (n * 8 % 18446744073709551616) = fillN n := by simp [outT, fillN]
theorem zerosN_less (n t : Nat) (h : t < zerosN n) : (n + (t + 1) + 8) % 64 ≠ 0 := by unfold zerosN at h; omega
theorem zerosN_at (n : Nat) : (n + (zerosN n + 1) + 8) % 64 = 0 := by unfold zerosN; omega

def FillA (z : Nat) (w : World) (vs : Value) (wr : World) : Prop :=
  ∃ (t : Nat) (a : Option Addr) (cap : Nat), t ≤ z ∧ vs = .slice a (t + 1) cap ∧ wr.ownsRow w.heap.size 5 1 vs (outT t).length (cellsB (outT t)) ∧ Fr [] w wr
def FillB (x g : Nat) (vo : Value) (out : List UInt8) (w : World) (vb vi : Value) (wr : World) : Prop :=
  ∃ t y : Nat, t ≤ 8 ∧ y = x / 256 ^ t ∧ vb = .int .u64 (y : Int) ∧ vi = .int .i64 ((7 : Int) - (t : Int)) ∧ wr.heap[g]? = some (.cells (cellsB (tailT x t)).toArray 5 (0, 0)) ∧ wr.ownsRow w.heap.size 5 1 vo out.length (cellsB out) ∧ Fr [] w wr
def Gives (w : World) (bs : List UInt8) (v : Value) (w' : World) : Prop := bytesAt w' v bs ∧ Fr [] w w'
set_option maxRecDepth 100000 in
theorem ref_fill_any (n : Nat) (w : World) (hn : n < 1000000) :
    Calls Tryz.prog 36 #[.int .i64 n] w (Ret (Gives w (fillN n))) := by
  obtain ⟨i, hi, hz0, hz1, hz2⟩ := info_parts infoB
  obtain ⟨z, hz⟩ : ∃ z, z = zerosN n := ⟨_, rfl⟩
  have hz64 : z < 64 := by rw [hz, zerosN]; exact Nat.mod_lt _ (by decide)
  have hless := zerosN_less n
  have hat := zerosN_at n
  have hfill := outT_fill n
  rw [← hz] at hless hat hfill
  rw [Nat.mod_eq_of_lt (show n * 8 < 18446744073709551616 by omega)] at hfill
  have HLESS := Lib.hid hless
  have HAT := Lib.hid hat
  have HF := Lib.hid hfill
  clear hz hless hat hfill
  go_enter Tryz.func36, Tryz.ntmps36
  go_wp2_with fail
  go_loopw [3] (FillA z w) (fun s _ => 65 - lenV s)
  case atStart =>
    exact ⟨0, some ⟨w.heap.size, 0, none⟩, 1, Nat.zero_le _, rfl, owns_of_heap (cur := [.int .u8 128]) (heap_alloc_new w _) (Nat.le_refl _) rfl (Nat.le_refl _) (by simp [maxLen]) rfl, Fr.alloc _ _⟩
  case round =>
    obtain ⟨t, a, cap, ht, rfl, hown, hf⟩ := hrel
    have hsz := hf.size
    have holen := outT_length t
    by_cases htz : t < z
    · have hne : (((n : Int) + ((t : Int) + 1) + 8) % 64 != 0) = true := by rw [bne_iff_ne]; have := HLESS.out t htz; omega
      go_wp2_with (at_builtin; refine wpL_append1 rfl (.tmp 15) (.tmp 16) 45 rfl w.heap.size 5 i (.int .u8 0) 1 Tryz.underlying45 hi hz0 hz1 hz2 rfl _ (outT t).length (cellsB (outT t)) rfl hown _ rfl rfl (by omega) (by simp [maxLen]; omega) hsz ?_; intro v' w1 hown1 hf1 hb1)
      have hown2 : w1.ownsRow w.heap.size 5 1 v' (outT (t + 1)).length (cellsB (outT (t + 1))) := by
        rw [outT_succ, cellsB_append, List.length_append]
        exact hown1
      obtain ⟨a', c', rfl, -, -⟩ := (bytesAt_of_owns hown2).form
      have hl2 := outT_length (t + 1)
      refine ⟨⟨t + 1, a', c', by omega, by rw [hl2], hown2, hf.own hown hf1⟩, ?_⟩
      simp only [lenV, hl2]
      omega
    · have hne : (((n : Int) + ((t : Int) + 1) + 8) % 64 != 0) = false := by rw [bne_eq_false_iff_eq]; have := HAT.out; obtain rfl : t = z := (by omega); omega
      have htz' : t = z := by omega
      have HT := Lib.hid htz'
      clear htz'
      have hb0 := hown.lt
      have HB0 : Hid (∀ k, (Value.slice a (t + 1) cap).ownBlock = some k → k < wr.heap.size) := Lib.hid (fun k hk => (hb0 k hk).2)
      clear hb0
      have hown0 : wr.ownsRow w.heap.size 5 1 (.slice a (t + 1) cap) (t + 1) (cellsB (outT t)) := by rw [holen] at hown; exact hown
      have HOWN := Lib.hid hown
      clear hown hown0
      go_wp2_with (refine wpL_make rfl _ _ 45 rfl 5 i (.int .u8 0) 1 Tryz.underlying45 hi hz0 hz1 hz2 rfl 8 rfl rfl (by decide) (by decide) ?_; intro w1 hh1 hf1 hs1)
      have hg1 : w1.heap[wr.heap.size]? = some (.cells (cellsB (tailT (n * 8) 0)).toArray 5 (0, 0)) := by
        rw [tailT_zero, hh1.out]
        simp [cellsB]
      have hown1 := owns_kept HOWN.out hf1 (by simp)
      have hf2 : Fr [] w w1 := hf.trans hf1 (by simp) (by simp)
      obtain ⟨g, hg⟩ : ∃ g, g = wr.heap.size := ⟨_, rfl⟩
      rw [← hg] at hg1 ⊢
      have hgne : ∀ k, (Value.slice a (t + 1) cap).ownBlock = some k → k ∉ [g] := fun k hk => by have := HB0.out k hk; simp; omega
      have HGN := Lib.hid hgne
      have hgw : w.heap.size ≤ g := by omega
      clear hg hh1 hs1 hgne
      go_loopw [4, 6] (FillB (n * 8) g (.slice a (t + 1) cap) (outT t) w) (fun _ vi _ => (intOf vi + 1).toNat)
      case atStart => exact ⟨0, n * 8, by omega, by simp, by go_num, rfl, hg1, hown1, hf2⟩
      case round =>
        clear hg1 hown1 hf2
        obtain ⟨u, y, hu, hy, rfl, hvi, hr, hown, hf3⟩ := hrel
        by_cases hu8 : u < 8
        · obtain ⟨k, hk⟩ : ∃ k, k = 7 - u := ⟨_, rfl⟩
          obtain rfl := show _ = Value.int .i64 (k : Int) from hvi.trans (congrArg (Value.int .i64) (by omega))
          have hdk : decide ((0 : Int) ≤ (k : Int)) = true := decide_eq_true (by omega)
          have hk8 : k < 8 := by omega
          have hset := tailT_set (n * 8) u hu8
          rw [← hy, ← hk] at hset
          have hnext : y / 256 = n * 8 / 256 ^ (u + 1) := by rw [hy, Nat.pow_succ, Nat.div_div_eq_div_mul]
          have hcell : wr.cell? ⟨g, k, none⟩ = some (.int .u8 (((tailT (n * 8) u)[k]'(by rw [tailT_length]; exact hk8)).toNat : Int)) := by rw [cell_of_heap hr, bytesC_get]
          have hfree := free_of_heap hr k
          have h2 : ∀ v : Int, v = ((y % 256 : Nat) : Int) → (wr.setCell ⟨g, k, none⟩ (.int .u8 v)).heap[g]? = some (.cells (cellsB (tailT (n * 8) (u + 1))).toArray 5 (0, 0)) := by
            rintro v rfl
            have e : ((y % 256 : Nat) : Int) = ((UInt8.ofNat (y % 256)).toNat : Int) := by rw [UInt8.toNat_ofNat']; omega
            rw [heap_setCell_same hr, e, bytesC_set, hset]
          have h3 : ∀ v, Fr [] w (wr.setCell ⟨g, k, none⟩ v) := fun v => hf3.trans (Fr.set0 wr g k v) (by simp) (by simp; omega)
          have h4 : ∀ v, (wr.setCell ⟨g, k, none⟩ v).ownsRow w.heap.size 5 1 (.slice a (t + 1) cap) (outT t).length (cellsB (outT t)) := fun v => owns_kept hown (Fr.set0 wr g k v) HGN.out
          have hyb : y ≤ 8000000 := by rw [hy]; exact Nat.le_trans (Nat.div_le_self _ _) (by omega)
          have H2 := Lib.hid h2
          have H3 := Lib.hid h3
          have H4 := Lib.hid h4
          have HNX := Lib.hid hnext
          have HK := Lib.hid hk
          clear h2 h3 h4 hset hnext hy hk hr hown hvi hf3
          go_wp2_with fail
          exact ⟨⟨u + 1, y / 256, by omega, HNX.out, by go_num, congrArg (Value.int .i64) (by have := HK.out; omega), H2.out _ (by go_num), H4.out _, H3.out _⟩, by simp [intOf]⟩
        · have hu' : u = 8 := by omega
          subst hu'
          obtain rfl := show _ = Value.int .i64 (-1) from hvi
          rw [tailT_end] at hr
          have hby : bytesAt wr (.slice (some ⟨g, 0, none⟩) 8 8) (be8 (n * 8)) := bytesAt_of_heap hr (by rw [be8_length]; simp [maxLen]) 8 (be8_length _).symm
          have HBY := Lib.hid hby
          have HOW := Lib.hid hown
          have hws := hf3.size
          clear hr hby hown hvi hy
          go_wp2_with (at_builtin; refine wpL_append rfl (.tmp 34) (.tmp 35) 45 rfl w.heap.size 5 i (.int .u8 0) Tryz.underlying45 hi hz0 hz1 hz2 rfl _ (outT t) rfl HOW.out _ (be8 (n * 8)) rfl HBY.out (by rw [be8_length]; omega) hws ?_; intro v' w2 hown2 hf4 hb4)
          go_ret
          refine Ret.mk ⟨?_, hf3.own HOW.out hf4⟩
          have hout := bytesAt_of_owns hown2
          rw [HT.out, HF.out] at hout
          exact hout
end Go.Proofs.YtjlkcdmeiakkbaaGreatDoor

/-! The document's answer Hash. -/
namespace Go.Proofs.YtjlkcdmeiakkbaaGreatDoor
open Go.RowKit

/-- The bytes of a state: those of i numbers, and t of the next one, the last one first. -/
def encQ (s : St) (i t : Nat) : List UInt8 := (List.range 32).map fun p => if p < 4 * i ∨ (p < 4 * i + 4 ∧ 4 * i + 4 - t ≤ p) then (encSt s).getD p 0 else 0
theorem encQ_length (s : St) (i t : Nat) : (encQ s i t).length = 32 := by simp [encQ]
theorem encQ_zero (s : St) : encQ s 0 0 = List.replicate 32 (0 : UInt8) := by
  apply List.ext_getElem
  · simp [encQ]
  · intro p h1 h2
    rw [List.getElem_replicate]
    simp only [encQ, List.getElem_map, List.getElem_range]
    rw [if_neg (by omega)]
theorem encQ_next (s : St) (i : Nat) : encQ s i 4 = encQ s (i + 1) 0 := by
  rw [encQ, encQ]
  apply List.map_congr_left
  intro p _
  by_cases h : p < 4 * i + 4
  · rw [if_pos (by omega), if_pos (by omega)]
  · rw [if_neg (by omega), if_neg (by omega)]
theorem encQ_end (s : St) : encQ s 8 0 = encSt s := by
  apply List.ext_getElem
  · rw [encQ_length, encSt_length]
  · intro p h1 h2
    have hp : p < 32 := by simpa [encQ] using h1
    simp only [encQ, List.getElem_map, List.getElem_range]
    rw [if_pos (by omega), List.getD_eq_getElem?_getD, List.getElem?_eq_getElem h2, Option.getD_some]
theorem encQ_set (s : St) (i t : Nat) (hi : i < 8) (ht : t < 4) (x : Nat) (hx : x = s.list[i]'(by rw [St.list_length]; exact hi)) : (encQ s i t).set (4 * i + (3 - t)) (UInt8.ofNat (x / 256 ^ t % 256)) = encQ s i (t + 1) := by
  have hget : (encSt s).getD (4 * i + (3 - t)) 0 = UInt8.ofNat (x / 256 ^ t % 256) := by
    rw [List.getD_eq_getElem?_getD, List.getElem?_eq_getElem (by rw [encSt_length]; omega), Option.getD_some, encSt_get s _ (by omega), hx]
    congr 3
    · congr 1
      · congr 1; omega
    · congr 1; omega
  apply List.ext_getElem
  · simp [encQ]
  · intro p h1 h2
    have hp : p < 32 := by simpa [encQ] using h2
    rw [List.getElem_set]
    simp only [encQ, List.getElem_map, List.getElem_range]
    by_cases e : 4 * i + (3 - t) = p
    · rw [if_pos e, if_pos (by omega), ← e, hget]
    · rw [if_neg e]
      by_cases h : p < 4 * i ∨ (p < 4 * i + 4 ∧ 4 * i + 4 - t ≤ p)
      · rw [if_pos h, if_pos (by omega)]
      · rw [if_neg h, if_neg (by omega)]

def HashRel (all : List UInt8) (gs g0 : Nat) (Z : Array Value) (w7 : World) (vi : Value) (W : World) : Prop :=
  ∃ n : Nat, 64 * n ≤ all.length ∧ vi = .int .i64 ((64 * n : Nat) : Int) ∧ W.heap[gs]? = some (.cells (stC (absorb n all)) 65 (0, 0)) ∧ W.heap[g0]? = some (.cells Z 28 (0, 0)) ∧ Fr [gs] w7 W
set_option maxRecDepth 100000 in
theorem ref_hash_any (bs : List UInt8) (sv : Value) (w : World) (hb : bytesAt w sv bs) (hlen : bs.length < 500000) :
    Calls Tryz.prog 15 #[sv] w fun e w' => e = .returned (.agg (cellsB (hashN bs)).toArray) ∧ Fr [] w w' := by
  obtain ⟨a0, c0, rfl, hle, hmx⟩ := hb.form
  obtain ⟨i, hi, hz0, hz1, hz2⟩ := info_parts infoB
  obtain ⟨Z, hZ⟩ : ∃ Z, Z = (cellsB (List.replicate 32 0)).toArray := ⟨_, rfl⟩
  have hiz := infoB32
  have hZs : Z.size = (cellsB (hashN bs)).toArray.size := by rw [hZ]; simp [cellsB, hashN_length]
  rw [← hZ] at hiz
  have hl32 : (Tryz.prog.info? 28).map (·.size) = some (cellsB (hashN bs)).toArray.size := by rw [bytesC_size, hashN_length]; exact sizeB32
  have HON := Lib.hid (bytesC_one (hashN bs))
  obtain ⟨E, hE⟩ : ∃ E, E = (cellsB (hashN bs)).toArray := ⟨_, rfl⟩
  rw [← hE] at hZs hl32 HON ⊢
  obtain ⟨Z8, hZ8⟩ : ∃ Z, Z = stC zeroSt := ⟨_, rfl⟩
  have hiz8 := infoN8
  have hold8 : Z8.size = (stC beginSt).size := by rw [hZ8, stC_size, stC_size]
  rw [← hZ8] at hiz8
  have HI := Lib.hid hiz
  have HI8 := Lib.hid hiz8
  have HZS := Lib.hid hZs
  have HL32 := Lib.hid hl32
  have HE := Lib.hid hE
  have HO8 := Lib.hid hold8
  have HZ := Lib.hid hZ
  have hfl := fill_le bs.length
  have hpl := padded_length bs
  obtain ⟨all, hall⟩ : ∃ all, all = padded bs := ⟨_, rfl⟩
  rw [← hall] at hpl
  have HALL := Lib.hid hall
  have HB := Lib.hid hb
  clear hZ hiz hZs hl32 hE hiz8 hZ8 hold8 hall hb
  go_enter Tryz.func15, Tryz.ntmps15
  go_wp2_with (first
    | (refine wpL_newArr rfl 28 rfl Z HI.out ?_; intro w1 hh1 hf1 hs1; have HNIL : Hid ((w1.alloc (.cells (#[] : Array Value) 5)).ownsRow w1.heap.size 5 1 (.slice (some ⟨w1.heap.size, 0, none⟩) 0 0) ([] : List UInt8).length (cellsB [])) := Lib.hid (owns_of_heap (cur := []) (heap_alloc_new w1 _) (Nat.le_refl _) rfl (Nat.zero_le _) (by simp [maxLen]) rfl); have HBA := Lib.hid (HB.out.below (hf1.trans (Fr.alloc w1 (.cells (#[] : Array Value) 5)) (by simp) (n := []) (by simp))))
    | (at_builtin; refine wpL_append rfl (.tmp 10) (.tmp 11) 45 rfl w1.heap.size 5 i (.int .u8 0) Tryz.underlying45 hi hz0 hz1 hz2 rfl _ [] rfl HNIL.out _ bs rfl HBA.out (by simp; omega) (by simp) ?_; intro v1 w2 hown2 hf2 hb2; have HOWN2 : Hid (w2.ownsRow w1.heap.size 5 1 v1 bs.length (cellsB bs)) := Lib.hid hown2; clear hown2))
  have hf2' : Fr [w1.heap.size] (w1.alloc (.cells (#[] : Array Value) 5)) w2 := hf2
  have hfa : Fr [] w1 w2 := (Fr.alloc w1 (.cells (#[] : Array Value) 5)).trans hf2' (by simp) (by simp)
  clear hf2 hf2' hb2 HNIL HBA
  have HFC := Lib.hid (ref_fill_any bs.length w2 (by omega))
  go_wp2_with (first
    | (go_at_call 36; refine HFC.out.mono ?_; rintro e w3 ⟨vf, rfl, hbf, hf3⟩; have HOWN3 := Lib.hid (owns_kept HOWN2.out hf3 (by simp)); have HBF := Lib.hid hbf; have hsz3 : w1.heap.size ≤ w3.heap.size := Nat.le_trans hfa.size hf3.size; clear hbf)
    | (at_builtin; refine wpL_append rfl (.tmp 13) (.tmp 16) 45 rfl w1.heap.size 5 i (.int .u8 0) Tryz.underlying45 hi hz0 hz1 hz2 rfl _ bs rfl HOWN3.out _ (fillN bs.length) rfl HBF.out (by omega) hsz3 ?_; intro v2 w4 hown4 hf4 hb4; have HOWN4 : Hid (w4.ownsRow w1.heap.size 5 1 v2 all.length (cellsB all)) := (by rw [HALL.out]; exact Lib.hid hown4); clear hown4))
  have hf4' : Fr v1.ownBlock.toList w3 w4 := hf4
  have hfb : Fr [] w1 w4 := (hfa.trans hf3 (by simp) (n := []) (by simp)).trans hf4' (by simp) (fun k hk hlt => by
    have hk' : v1.ownBlock = some k := by simpa [Option.mem_toList] using hk
    have := (HOWN3.out.lt k hk').1
    omega)
  clear hfa hf3 hf4 hf4' hb4 HOWN2 HOWN3 HBF hsz3
  have hob := HOWN4.out.lt
  have HOB := Lib.hid hob
  clear hob
  go_wp2_with (first
    | (go_at_call 37; refine (ref_first_any w4).mono ?_; rintro e w5 ⟨rfl, hf5⟩)
    | (refine wpL_newArr rfl 65 rfl Z8 HI8.out ?_; intro w6 hh6 hf6 hs6; refine wpL_storeArr rfl 65 (.tmp 4) (.tmp 18) rfl w5.heap.size (stC beginSt) Z8 rfl rfl 65 hh6.out (sizeN8 beginSt) HO8.out (stC_one beginSt) ?_; intro w7 hh7 hf7 hs7))
  have z56 := hs6.out
  have z1 := hs1.out
  have z14 := hfb.size
  have z45 := hf5.size
  have hgs := hh7.out
  have f47 : Fr [] w4 w7 := (hf5.trans hf6 (by simp) (n := []) (by simp)).trans hf7 (by simp) (by simp; omega)
  have f47' : ∀ k, k < w4.heap.size → k ∉ ([] : List Nat) := by simp
  have hg0 : w7.heap[w.heap.size]? = some (.cells Z 28 (0, 0)) := f47.heap (hfb.heap hh1.out (by simp)) (by simp)
  have hfr : Fr [] w w7 := (hf1.trans hfb (by simp) (n := []) (by simp)).trans f47 (by simp) (by simp)
  have hown7 := owns_kept HOWN4.out f47 (by simp)
  have hby := bytesAt_of_owns hown7
  obtain ⟨av, cv, rfl, hcv, hmv⟩ := hby.form
  have hne0 : w.heap.size ≠ w5.heap.size := by omega
  have hws5 : w.heap.size ≤ w5.heap.size := by omega
  have hbo : ∀ k, (Value.slice av all.length cv).ownBlock = some k → k ≠ w5.heap.size := fun k hk => by have := (HOB.out k hk).2; omega
  have hbo1 : ∀ k, (Value.slice av all.length cv).ownBlock = some k → w.heap.size ≤ k := fun k hk => by have := (HOB.out k hk).1; omega
  have HBO := Lib.hid hbo
  have HBY := Lib.hid hby
  clear hh1 hf1 hs1 hfb hf5 hh6 hf6 hs6 hh7 hf7 hs7 f47 f47' HOWN4 HOB hown7 hby hbo hbo1 z56 z1 z14 z45
  obtain ⟨gs, egs⟩ : ∃ g, g = w5.heap.size := ⟨_, rfl⟩
  obtain ⟨g0, eg0⟩ : ∃ g, g = w.heap.size := ⟨_, rfl⟩
  rw [← egs] at hgs hne0 hws5 HBO ⊢
  rw [← eg0] at hg0 hne0 hws5 ⊢
  have EG0 := Lib.hid eg0
  clear egs eg0
  have HPL := Lib.hid hpl
  have hal : all.length ≤ 600000 := by omega
  clear hpl hfl
  go_loopw [5] (HashRel all gs g0 Z w7) (fun vi _ => all.length - (intOf vi).toNat)
  case atStart => exact ⟨0, by omega, rfl, hgs, hg0, Fr.refl _ _⟩
  case round =>
    have HBW : Hid (∀ W, Fr [gs] w7 W → bytesAt W (.slice av all.length cv) all) := Lib.hid (fun W hW => HBY.out.kept hW (fun k hk _ _ => by have := HBO.out k hk; simpa using this))
    clear hgs hg0
    obtain ⟨n, hn, rfl, hgs, hg0, hf⟩ := hrel
    obtain ⟨m, hm⟩ : ∃ m, m = 64 * n := ⟨_, rfl⟩
    rw [← hm] at hn ⊢
    have HM := Lib.hid hm
    have HGS := Lib.hid hgs
    have HG0 := Lib.hid hg0
    clear hm hgs hg0
    by_cases hmore : m + 64 ≤ all.length
    · have hd : decide ((m : Int) + 64 ≤ (all.length : Int)) = true := decide_eq_true (by omega)
      have hok := absorb_ok n all
      have hnext : absorb (n + 1) all = blockSt (absorb n all) ((all.drop m).take 64) := by rw [HM.out]; rfl
      obtain ⟨st, hst⟩ : ∃ st, st = absorb n all := ⟨_, rfl⟩
      obtain ⟨blk, hblk⟩ : ∃ blk, blk = (all.drop m).take 64 := ⟨_, rfl⟩
      have hbl : blk.length = 64 := by rw [hblk, List.length_take, List.length_drop]; omega
      have hcm : ¬ cv = m := by omega
      have hbc : ∀ W, Fr [gs] w7 W → bytesAt W (.slice (av.map fun x => x.add m) 64 (cv - m)) blk := fun W hW => by
        have h := (HBW.out W hW).cut (lo := m) (hi := m + 64) (by omega) hmore
        rw [if_neg hcm, Nat.mul_one, show m + 64 - m = 64 from by omega, List.drop_take, show m + 64 - m = 64 from by omega, ← hblk] at h
        exact h
      rw [← hst, ← hblk] at hnext
      rw [← hst] at hok HGS
      have HBL := Lib.hid (fun W hW => ref_block_any st blk _ W hok (hbc W hW) hbl)
      have HNX := Lib.hid hnext
      have HST := Lib.hid hst
      clear hbc hst hblk hnext
      go_wp2_with fail
      refine wp_region_Z [] 7 [(0, false), (1, false), (2, false), (3, false), (4, false), (5, false), (6, true), (7, true)] 55 rfl (by kernel_rfl) (by kernel_rfl) (by kernel_rfl) (fun c a d v w h => by cases d <;> exact h) (fun w8 hf8 => ?_)
      simp only [List.map_cons, List.map_nil, List.getElem?_toArray, List.getElem?_cons_succ, List.getElem?_cons_zero, Option.getD_some]
      have LH : Hid (Later [] w8 (fun w' => w'.heap[gs]? = some (.cells (stC st) 65 (0, 0)))) := Lib.hid (fun w' hf' => hf'.heap (hf8.heap HGS.out (by simp)) (by simp))
      repeat (apply walkZ_t; · (intro w' hf'; first
        | (refine wpList_load_row rfl 65 _ rfl gs rfl 65 (stC st) (0, 0) _ (LH.out w' hf') Tryz.underlying65 rfl (sizeN8 st) ?_; exact ⟨rfl, rfl⟩)
        | (go_wp2_with fail; exact ⟨rfl, rfl⟩)))
      refine walkZ_x ?_
      have HBL8 := Lib.hid (HBL.out w8 (hf.trans hf8 (fun i hi _ => hi) (by simp)))
      go_wp2_with (go_at_call 38; refine HBL8.out.mono ?_; rintro e w9 ⟨rfl, hf9⟩)
      refine ⟨.inr hf9, rfl, ?_⟩
      refine walkZ_x ?_
      have HG9 := Lib.hid (hf9.heap (LH.out w8 (Fr.refl _ _)) (by simp))
      have hszz : (stC st).size = (stC (blockSt st blk)).size := by rw [stC_size, stC_size]
      go_wp2_with (refine wpL_storeArr rfl 65 _ _ rfl gs (stC (blockSt st blk)) (stC st) rfl rfl 65 HG9.out (sizeN8 _) hszz (stC_one _) ?_; intro w10 hh10 hf10 hs10)
      refine ⟨rfl, walkZ_end ?_⟩
      have hf10' : Fr [gs] w7 w10 := ((hf.trans hf8 (fun i hi _ => hi) (n := [gs]) (by simp)).trans hf9 (fun i hi _ => hi) (n := [gs]) (by simp)).trans hf10 (fun i hi _ => hi) (fun i hi _ => hi)
      have hG0 := hf10.heap (hf9.heap (hf8.heap HG0.out (by simp)) (by simp)) (by simp; exact hne0)
      go_wp2_with fail
      go_roundw
      case rel => exact ⟨n + 1, by have := HM.out; omega, by have := HM.out; rw [show 64 * (n + 1) = m + 64 from by omega]; go_num, by rw [HNX.out]; exact hh10.out, hG0, hf10'⟩
      case measure => simp [intOf]; omega
    · have hd : decide ((m : Int) + 64 ≤ (all.length : Int)) = false := decide_eq_false (by omega)
      have hend : n = all.length / 64 := by have := HM.out; omega
      have hsum : hashN bs = encSt (absorb n all) := by rw [hend, HALL.out]; rfl
      obtain ⟨st, hst⟩ : ∃ st, st = absorb n all := ⟨_, rfl⟩
      have hok := absorb_ok n all
      rw [← hst] at hsum HGS hok
      have HSUM := Lib.hid hsum
      have hfw : Fr [] w wr := hfr.trans hf (by simp) (by simp; have := EG0.out; omega)
      clear hend hsum hst hfr hf
      have hgl := (Array.getElem?_eq_some_iff.1 HG0.out).1
      have hgsl := (Array.getElem?_eq_some_iff.1 HGS.out).1
      go_wp2_with (refine wpL_newArr rfl 28 rfl Z HI.out ?_; intro w8 hh8 hf8 hs8)
      have hgo : w8.heap[wr.heap.size]? = some (.cells (cellsB (encQ st 0 0)).toArray 28 (0, 0)) := by rw [encQ_zero, ← HZ.out]; exact hh8.out
      have hG0 := hf8.heap HG0.out (by simp)
      have hGS := hf8.heap HGS.out (by simp)
      have hF : Fr [] w w8 := hfw.trans hf8 (by simp) (by simp)
      obtain ⟨go, ego⟩ : ∃ g, g = wr.heap.size := ⟨_, rfl⟩
      have hgow : w.heap.size ≤ go := by have := hfw.size; omega
      rw [← ego] at hgo hgl hgsl ⊢
      clear ego hh8 hs8 hf8 hfw
      go_loopw [7] (fun vi W => ∃ i : Nat, i ≤ 8 ∧ vi = .int .i64 (i : Int) ∧ W.heap[go]? = some (.cells (cellsB (encQ st i 0)).toArray 28 (0, 0)) ∧ W.heap[gs]? = some (.cells (stC st) 65 (0, 0)) ∧ W.heap[g0]? = some (.cells Z 28 (0, 0)) ∧ Fr [] w W) (fun vi _ => 8 - (intOf vi).toNat)
      case atStart => exact ⟨0, by omega, rfl, hgo, hGS, hG0, hF⟩
      case round =>
        clear hgo hGS hG0 hF
        obtain ⟨i, hi, rfl, hgo, hGS, hG0, hF⟩ := hrel
        by_cases hi8 : i < 8
        · have hd2 : decide ((i : Int) < 8) = true := decide_eq_true (by omega)
          have hi8i : (i : Int) < 8 := by omega
          obtain ⟨x, hx⟩ : ∃ x, x = st.list[i]'(by rw [St.list_length]; exact hi8) := ⟨_, rfl⟩
          have cx : wr.cell? ⟨gs, i, none⟩ = some (.int .u32 (x : Int)) := by rw [cell_of_heap hGS, stC_list _ _ hi8, hx]
          have hxl : x < 4294967296 := by rw [hx]; exact St.list_lt hok i _
          have HX := Lib.hid hx
          have HGO := Lib.hid hgo
          have HGS2 := Lib.hid hGS
          have HG02 := Lib.hid hG0
          clear hx hgo hGS hG0
          go_wp2_with fail
          clear cx
          go_loopw [8, 9] (fun vv vk W => ∃ t y : Nat, t ≤ 4 ∧ y = x / 256 ^ t ∧ vv = .int .u32 (y : Int) ∧ vk = .int .i64 ((3 : Int) - (t : Int)) ∧ W.heap[go]? = some (.cells (cellsB (encQ st i t)).toArray 28 (0, 0)) ∧ W.heap[gs]? = some (.cells (stC st) 65 (0, 0)) ∧ W.heap[g0]? = some (.cells Z 28 (0, 0)) ∧ Fr [] w W) (fun _ vk _ => (intOf vk + 1).toNat)
          case atStart => exact ⟨0, x, by omega, by simp, rfl, rfl, HGO.out, HGS2.out, HG02.out, hF⟩
          case round =>
            clear hF HGO HGS2 HG02
            obtain ⟨t, y, ht, hy, rfl, hvk, hgo, hGS, hG0, hF⟩ := hrel
            by_cases ht4 : t < 4
            · obtain ⟨k, hk⟩ : ∃ k, k = 3 - t := ⟨_, rfl⟩
              obtain rfl := show _ = Value.int .i64 (k : Int) from hvk.trans (congrArg (Value.int .i64) (by omega))
              have hdk : decide ((0 : Int) ≤ (k : Int)) = true := decide_eq_true (by omega)
              have hk4 : k < 4 := by omega
              have hset := encQ_set st i t hi8 ht4 x HX.out
              rw [← hy, ← hk] at hset
              have hnext : y / 256 = x / 256 ^ (t + 1) := by rw [hy, Nat.pow_succ, Nat.div_div_eq_div_mul]
              have hlt32 : 4 * i + k < (encQ st i t).length := by rw [encQ_length]; omega
              have hcell : wr.cell? ⟨go, 4 * i + k, none⟩ = some (.int .u8 (((encQ st i t)[4 * i + k]'hlt32).toNat : Int)) := by rw [cell_of_heap hgo, bytesC_get]
              have hfree := free_of_heap hgo (4 * i + k)
              have h2 : ∀ v : Int, v = ((y % 256 : Nat) : Int) → (wr.setCell ⟨go, 4 * i + k, none⟩ (.int .u8 v)).heap[go]? = some (.cells (cellsB (encQ st i (t + 1))).toArray 28 (0, 0)) := by
                rintro v rfl
                have e : ((y % 256 : Nat) : Int) = ((UInt8.ofNat (y % 256)).toNat : Int) := by rw [UInt8.toNat_ofNat']; omega
                rw [heap_setCell_same hgo, e, bytesC_set, hset]
              have h3 : ∀ v, Fr [] w (wr.setCell ⟨go, 4 * i + k, none⟩ v) := fun v => hF.trans (Fr.set0 wr go (4 * i + k) v) (by simp) (by simp; omega)
              have h4 : ∀ v, (wr.setCell ⟨go, 4 * i + k, none⟩ v).heap[gs]? = some (.cells (stC st) 65 (0, 0)) := fun v => (Fr.set0 wr go (4 * i + k) v).heap hGS (by simp; omega)
              have h5 : ∀ v, (wr.setCell ⟨go, 4 * i + k, none⟩ v).heap[g0]? = some (.cells Z 28 (0, 0)) := fun v => (Fr.set0 wr go (4 * i + k) v).heap hG0 (by simp; omega)
              have hyb : y < 4294967296 := by rw [hy]; exact Nat.lt_of_le_of_lt (Nat.div_le_self _ _) hxl
              have H2 := Lib.hid h2
              have H3 := Lib.hid h3
              have H4 := Lib.hid h4
              have H5 := Lib.hid h5
              have HNX := Lib.hid hnext
              have HK := Lib.hid hk
              clear h2 h3 h4 h5 hset hnext hy hk hgo hGS hG0 hvk hF
              go_wp2_with fail
              exact ⟨⟨t + 1, y / 256, by omega, HNX.out, by go_num, congrArg (Value.int .i64) (by have := HK.out; omega), H2.out _ (by go_num), H4.out _, H5.out _, H3.out _⟩, by simp [intOf]⟩
            · have ht' : t = 4 := by omega
              subst ht'
              obtain rfl := show _ = Value.int .i64 (-1) from hvk
              rw [encQ_next] at hgo
              have HGO := Lib.hid hgo
              have HGS2 := Lib.hid hGS
              have HG02 := Lib.hid hG0
              clear hgo hGS hG0 hvk hy
              go_wp2_with fail
              exact ⟨⟨i + 1, by omega, by go_num, HGO.out, HGS2.out, HG02.out, hF⟩, by simp [intOf]; omega⟩
        · have hd2 : decide ((i : Int) < 8) = false := decide_eq_false (by omega)
          rw [show i = 8 from by omega, encQ_end, ← HSUM.out, ← HE.out] at hgo
          have HGO := Lib.hid hgo
          have HG02 := Lib.hid hG0
          clear hgo hG0 hGS
          go_wp2_with (refine wpList_load_row rfl 28 _ rfl go rfl 28 E (0, 0) _ HGO.out Tryz.underlying28 rfl HL32.out ?_; refine wpL_storeArr rfl 28 (.tmp 2) (.tmp 54) rfl g0 E Z rfl rfl 28 HG02.out HL32.out HZS.out HON.out ?_; intro w9 hh9 hf9 hs9)
          refine bodyPost_ret (v := .agg E) ?_ rfl ⟨rfl, hF.trans hf9 (by simp) (by simp; have := EG0.out; omega)⟩
          exact results_cell_row rfl _ _ g0 28 E (0, 0) _ rfl hh9.out Tryz.underlying28 rfl HL32.out
end Go.Proofs.YtjlkcdmeiakkbaaGreatDoor
