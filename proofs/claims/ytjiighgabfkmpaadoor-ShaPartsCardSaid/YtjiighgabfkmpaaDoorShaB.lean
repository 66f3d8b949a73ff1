/- Contract of package sha's schedule. -/
import Derived.Test.YtjiighgabfkmpaaDoorShaA
import Derived.BigRegion
import Derived.BigQuiet
namespace Go.Proofs.YtjiighgabfkmpaaDoor
open Go.RowKit

theorem Fr.andDrew {l : List Nat} {a b : World} (h : Fr l a b) : Fr l a b.drew := ⟨h.os, h.tape, h.output, h.size, h.block⟩
/-- Numbers of 32 bits as cells. -/
def numsC (l : List Nat) : Array Value := (l.map fun (x : Nat) => Value.int .u32 (x : Int)).toArray
theorem numsC_size (l : List Nat) : (numsC l).size = l.length := by simp [numsC]
theorem numsC_get (l : List Nat) (i : Nat) (h : i < l.length) : (numsC l)[i]? = some (.int .u32 ((l[i]'h : Nat) : Int)) := by simp [numsC, h]
theorem numsC_one (l : List Nat) : (numsC l).all (·.oneCell') = true := by
  rw [Array.all_eq_true_iff_forall_mem]
  intro x hx
  simp [numsC] at hx
  obtain ⟨j, _, rfl⟩ := hx
  rfl
theorem numsC_set (l : List Nat) (i x : Nat) : (numsC l).setIfInBounds i (.int .u32 (x : Int)) = numsC (l.set i x) := by
  simp [numsC, List.map_set]
theorem bytesC_get (bs : List UInt8) (i : Nat) (h : i < bs.length) : (cellsB bs).toArray[i]? = some (.int .u8 ((bs[i]'h).toNat : Int)) := by simp [cellsB, h]
theorem bytesC_size (bs : List UInt8) : (cellsB bs).toArray.size = bs.length := by simp [cellsB]
theorem bytesC_one (bs : List UInt8) : (cellsB bs).toArray.all (·.oneCell') = true := by
  rw [Array.all_eq_true_iff_forall_mem]
  intro x hx
  exact cellsB_one bs x (by simpa using hx)

/-- 'a[k]', a an array by value whose elements are integers. -/
theorem run_index_agg {P : Program} (w : World) (t e : TypeId) (n : Nat) (kd : IntKind) (cs : Array Value) (k : Nat) (v : Value) (h : P.underlying t = some (.array n e)) (he : P.underlying e = some (.int kd)) (hi : (P.info? e).map (·.size) = some 1) (hk : k < n) (hv : cs[k]? = some v) :
    (Instr.index t (.agg cs) (.int .i64 k)).run P w = .ok v w := by
  cases hq : P.info? e with
  | none => simp [hq] at hi
  | some i =>
    simp [hq] at hi
    simp [Instr.index, run_underlying h, asIntOf, part, isAgg, run_underlying he, sizeOf, typeInfo, hq, hi, hk, hv]
theorem size8 : (Tryd.prog.info? 5).map (·.size) = some 1 := by kernel_rfl
theorem size32 : (Tryd.prog.info? 28).map (·.size) = some 1 := by kernel_rfl
theorem infoN64 : (Tryd.prog.info? 46).map (fun i => i.zero) = some (some (.agg (numsC (List.replicate 64 0)))) := by kernel_rfl
theorem sizeN64 : (Tryd.prog.info? 46).map (·.size) = some 64 := by kernel_rfl
theorem sizeB64 : (Tryd.prog.info? 50).map (·.size) = some 64 := by kernel_rfl

/-- The words when i bytes have been taken. -/
def partW (bs : List UInt8) (i : Nat) : List Nat := (List.range 64).map fun j => wordN bs j (min 4 (i - 4 * j))
theorem partW_length (bs : List UInt8) (i : Nat) : (partW bs i).length = 64 := by simp [partW]
theorem partW_zero (bs : List UInt8) : partW bs 0 = List.replicate 64 0 := by
  apply List.ext_getElem
  · simp [partW]
  · intro j h1 h2
    rw [List.getElem_replicate]
    simp [partW, wordN_zero]
theorem partW_get (bs : List UInt8) (i : Nat) (hi : i < 64) : (partW bs i)[i / 4]'(by rw [partW_length]; omega) = wordN bs (i / 4) (i % 4) := by
  simp only [partW, List.getElem_map, List.getElem_range]
  congr 1
  omega
theorem partW_set (bs : List UInt8) (i : Nat) (hi : i < 64) : (partW bs i).set (i / 4) (wordN bs (i / 4) (i % 4 + 1)) = partW bs (i + 1) := by
  apply List.ext_getElem
  · simp [partW]
  · intro j h1 h2
    rw [List.getElem_set]
    split
    · rename_i e
      subst e
      simp only [partW, List.getElem_map, List.getElem_range]
      congr 1
      omega
    · simp only [partW, List.getElem_map, List.getElem_range]
      congr 1
      omega
/-- The words so far, and zeros behind them. -/
def padW (bs : List UInt8) (m : Nat) : List Nat := schedM bs m ++ List.replicate (48 - m) 0
theorem padW_length (bs : List UInt8) (m : Nat) (h : m ≤ 48) : (padW bs m).length = 64 := by simp [padW, schedM_length]; omega
theorem partW_end (bs : List UInt8) : partW bs 64 = padW bs 0 := by
  apply List.ext_getElem
  · rw [partW_length, padW_length _ _ (by omega)]
  · intro j h1 h2
    rw [partW_length] at h1
    simp only [partW, padW, schedM_zero, List.getElem_map, List.getElem_range]
    by_cases hj : j < 16
    · rw [List.getElem_append_left (by rw [first16_length]; exact hj)]
      simp only [first16, List.getElem_map, List.getElem_range]
      congr 1
      omega
    · rw [List.getElem_append_right (by rw [first16_length]; omega), List.getElem_replicate, show min 4 (64 - 4 * j) = 0 from by omega, wordN_zero]
theorem padW_end (bs : List UInt8) : padW bs 48 = sched bs := by simp [padW, sched]
theorem padW_get (bs : List UInt8) (m k : Nat) (hm : m ≤ 48) (h : k < 16 + m) : (padW bs m)[k]'(by rw [padW_length _ _ hm]; omega) = (schedM bs m)[k]'(by rw [schedM_length]; exact h) := by
  simp only [padW]
  rw [List.getElem_append_left]
theorem padW_set (bs : List UInt8) (m x : Nat) (h : m < 48) (hx : schedM bs (m + 1) = schedM bs m ++ [x]) : (padW bs m).set (16 + m) x = padW bs (m + 1) := by
  have hl := schedM_length bs m
  rw [padW, padW, hx, show 48 - m = (48 - (m + 1)) + 1 from by omega, List.replicate_succ, List.set_append_right _ _ (by omega), show 16 + m - (schedM bs m).length = 0 from by omega, List.set_cons_zero]
  simp
/-- The next word, of the words so far. -/
def nextOf (x15 x6 x14 x1 : Nat) : Nat := (((x15 + x6) % 4294967296 + small0 x14) % 4294967296 + small1 x1) % 4294967296
theorem sched_next (bs : List UInt8) (m : Nat) (hm : m < 48) : ∃ x15 x6 x14 x1 : Nat,
    (numsC (padW bs m))[m]? = some (.int .u32 (x15 : Int)) ∧ (numsC (padW bs m))[9 + m]? = some (.int .u32 (x6 : Int)) ∧ (numsC (padW bs m))[1 + m]? = some (.int .u32 (x14 : Int)) ∧ (numsC (padW bs m))[14 + m]? = some (.int .u32 (x1 : Int)) ∧
    x15 < 4294967296 ∧ x6 < 4294967296 ∧ x14 < 4294967296 ∧ x1 < 4294967296 ∧ (numsC (padW bs m)).setIfInBounds (16 + m) (.int .u32 ((nextOf x15 x6 x14 x1 : Nat) : Int)) = numsC (padW bs (m + 1)) := by
  have hl := schedM_length bs m
  have hp := padW_length bs m (by omega)
  refine ⟨(schedM bs m)[m]'(by omega), (schedM bs m)[9 + m]'(by omega), (schedM bs m)[1 + m]'(by omega), (schedM bs m)[14 + m]'(by omega), ?_, ?_, ?_, ?_, schedM_lt bs m _ (List.getElem_mem _), schedM_lt bs m _ (List.getElem_mem _), schedM_lt bs m _ (List.getElem_mem _), schedM_lt bs m _ (List.getElem_mem _), ?_⟩
  · rw [numsC_get _ _ (by omega), padW_get _ _ _ (by omega) (by omega)]
  · rw [numsC_get _ _ (by omega), padW_get _ _ _ (by omega) (by omega)]
  · rw [numsC_get _ _ (by omega), padW_get _ _ _ (by omega) (by omega)]
  · rw [numsC_get _ _ (by omega), padW_get _ _ _ (by omega) (by omega)]
  · rw [numsC_set]
    exact congrArg numsC (padW_set bs m _ hm (schedM_succ bs m))

theorem word_put (x : Nat) (c : UInt8) (hx : x < 16777216) : bits .or .u32 ((x : Int) * 256) ((c.toNat : Int) % 4294967296) = ((x * 256 + c.toNat : Nat) : Int) := by
  have hc := c.toNat_lt
  have h := u32_or_nat (x * 256) c.toNat (by omega) (by omega)
  have e : x * 256 ||| c.toNat = x * 256 + c.toNat := by
    rw [Nat.mul_comm, show (256 : Nat) = 2 ^ 8 from rfl, ← Nat.two_pow_add_eq_or_of_lt (by omega)]
  rw [show ((x : Int) * 256) = ((x * 256 : Nat) : Int) from by omega, show ((c.toNat : Int) % 4294967296) = (c.toNat : Int) from by omega, h, e]

theorem small0_put (x : Nat) (h : x < 4294967296) : bits .xor .u32 ((rotN x 7 : Nat) : Int) ((rotN x 18 : Nat) : Int) = ((rotN x 7 ^^^ rotN x 18 : Nat) : Int) ∧ bits .xor .u32 ((rotN x 7 ^^^ rotN x 18 : Nat) : Int) ((x : Int) / 8) = ((small0 x : Nat) : Int) := by
  have ra : rotN x 7 < 4294967296 := rotN_lt x 7 h (by decide)
  have rb : rotN x 18 < 4294967296 := rotN_lt x 18 h (by decide)
  refine ⟨u32_xor_nat _ _ ra rb, ?_⟩
  exact u32_xor_nat _ (x / 8) (xor32 ra rb) (by omega)
theorem small1_put (x : Nat) (h : x < 4294967296) : bits .xor .u32 ((rotN x 17 : Nat) : Int) ((rotN x 19 : Nat) : Int) = ((rotN x 17 ^^^ rotN x 19 : Nat) : Int) ∧ bits .xor .u32 ((rotN x 17 ^^^ rotN x 19 : Nat) : Int) ((x : Int) / 1024) = ((small1 x : Nat) : Int) := by
  have ra : rotN x 17 < 4294967296 := rotN_lt x 17 h (by decide)
  have rb : rotN x 19 < 4294967296 := rotN_lt x 19 h (by decide)
  refine ⟨u32_xor_nat _ _ ra rb, ?_⟩
  exact u32_xor_nat _ (x / 1024) (xor32 ra rb) (by omega)
theorem next_put (x15 x6 x14 x1 : Nat) : ((((x15 : Int) + x6) % 4294967296 + (small0 x14 : Nat)) % 4294967296 + (small1 x1 : Nat)) % 4294967296 = ((nextOf x15 x6 x14 x1 : Nat) : Int) := by
  unfold nextOf; omega

/-- The rows while the words are made. -/
def SchedRel (w : World) (g1 g2 : Nat) (Z : Array Value) (T : List Nat) (wr : World) : Prop :=
  wr.heap[g1]? = some (.cells Z 46 (0, 0)) ∧ wr.heap[g2]? = some (.cells (numsC T) 46 (0, 0)) ∧ Fr [] w wr
set_option maxRecDepth 100000 in
theorem schedule_any (bs : List UInt8) (w : World) (hb : bs.length = 64) :
    Calls Tryd.prog 34 #[.agg (cellsB bs).toArray] w fun e w' => e = .returned (.agg (numsC (sched bs))) ∧ Fr [] w w' := by
  obtain ⟨B, hB⟩ : ∃ B, B = (cellsB bs).toArray := ⟨_, rfl⟩
  obtain ⟨Z, hZ⟩ : ∃ Z, Z = numsC (List.replicate 64 0) := ⟨_, rfl⟩
  have hiz := infoN64
  rw [← hB]
  rw [← hZ] at hiz
  have hszB : (Tryd.prog.info? 50).map (·.size) = some B.size := by rw [hB, bytesC_size, hb]; exact sizeB64
  have hget : ∀ (i : Nat) (h : i < bs.length), B[i]? = some (.int .u8 ((bs[i]'h).toNat : Int)) := fun i h => by rw [hB]; exact bytesC_get bs i h
  have HB := Lib.hid hB
  have HZ := Lib.hid hZ
  have HI := Lib.hid hiz
  have HSB := Lib.hid hszB
  have HG := Lib.hid hget
  clear hB hZ hiz hszB hget
  go_enter Tryd.func34, Tryd.ntmps34
  go_wp2_with (first
    | (refine wpL_boxArr rfl _ _ rfl B rfl ?_; intro w1 hh1 hf1 hs1; refine wpL_newArr rfl 46 rfl Z HI.out ?_; intro w2 hh2 hf2 hs2)
    | (refine wpL_newArr rfl 46 rfl Z HI.out ?_; intro w3 hh3 hf3 hs3)
    | (refine wpList_load_row rfl 50 _ rfl w.heap.size rfl 50 B (0, 0) _ ((hf2.trans hf3 (by simp) (n := []) (by simp)).heap hh1.out (by simp)) Tryd.underlying50 rfl HSB.out ?_))
  have hfr : Fr [] w w3 := (hf1.trans hf2 (by simp) (n := []) (by simp)).trans hf3 (by simp) (by simp)
  have hg1 := hf3.heap hh2.out (by simp)
  have hg2 := hh3.out
  have hn1 : w1.heap.size ≠ w2.heap.size := by have := hs2.out; omega
  have hn2 : w.heap.size ≤ w2.heap.size := by have := hs2.out; have := hs1.out; omega
  have hn3 : w.heap.size ≤ w1.heap.size := by have := hs1.out; omega
  clear hh1 hh2 hh3 hf1 hf2 hf3 hs1 hs2 hs3
  obtain ⟨g1, hg1e⟩ : ∃ g, g = w1.heap.size := ⟨_, rfl⟩
  obtain ⟨g2, hg2e⟩ : ∃ g, g = w2.heap.size := ⟨_, rfl⟩
  rw [← hg1e] at hg1 hn1 hn3 ⊢
  rw [← hg2e] at hg2 hn1 hn2 ⊢
  clear hg1e hg2e
  go_loopw [12] (fun i wr => ∃ k : Nat, k ≤ 64 ∧ i = .int .i64 (k : Int) ∧ SchedRel w g1 g2 Z (partW bs k) wr) (fun i _ => 64 - (intOf i).toNat)
  case atStart => exact ⟨0, by omega, rfl, hg1, by rw [partW_zero, ← HZ.out]; exact hg2, hfr⟩
  case round =>
    clear hg1 hg2 hfr
    obtain ⟨k, hk, rfl, hr1, hr2, hf⟩ := hrel
    by_cases hk64 : k < 64
    · have hd : decide ((k : Int) < 64) = true := decide_eq_true (by omega)
      have hc := HG.out k (by omega)
      obtain ⟨c, hcc⟩ : ∃ c, c = bs[k]'(by omega) := ⟨_, rfl⟩
      obtain ⟨x, hx⟩ : ∃ x, x = wordN bs (k / 4) (k % 4) := ⟨_, rfl⟩
      have hcell : wr.cell? ⟨g2, k / 4, none⟩ = some (.int .u32 (x : Int)) := by
        rw [cell_of_heap hr2, numsC_get _ _ (by rw [partW_length]; omega), partW_get bs k hk64, hx]
      have hfree := free_of_heap hr2 (k / 4)
      have hx24 : x < 16777216 := by
        rw [hx]
        exact Nat.lt_of_lt_of_le (wordN_lt bs (k / 4) (k % 4)) (Nat.pow_le_pow_right (n := 256) (i := k % 4) (j := 3) (by decide) (by omega))
      have hput := word_put x c hx24
      have hnew : (numsC (partW bs k)).setIfInBounds (k / 4) (.int .u32 ((x * 256 + c.toNat : Nat) : Int)) = numsC (partW bs (k + 1)) := by
        rw [numsC_set, ← partW_set bs k hk64, hx, hcc, wordN_succ bs (k / 4) (k % 4) (by omega)]
        congr 6
        omega
      have h1 : ∀ v, (wr.setCell ⟨g2, k / 4, none⟩ v).heap[g1]? = some (.cells Z 46 (0, 0)) := fun v => (Fr.set0 wr g2 (k / 4) v).heap hr1 (by simpa using hn1)
      have h2 : (wr.setCell ⟨g2, k / 4, none⟩ (.int .u32 ((x * 256 + c.toNat : Nat) : Int))).heap[g2]? = some (.cells (numsC (partW bs (k + 1))) 46 (0, 0)) := by rw [heap_setCell_same hr2, hnew]
      have h3 : ∀ v, Fr [] w (wr.setCell ⟨g2, k / 4, none⟩ v) := fun v => hf.trans (Fr.set0 wr g2 (k / 4) v) (by simp) (by simp; omega)
      rw [← hcc] at hc
      have hidx := run_index_agg wr 50 5 64 .u8 B k _ Tryd.underlying50 Tryd.underlying5 size8 hk64 hc
      clear hc
      have H1 := Lib.hid h1
      have H2 := Lib.hid h2
      have H3 := Lib.hid h3
      clear h1 h2 h3 hnew hcc hx hr1 hr2
      go_wp2_with fail
      exact ⟨⟨k + 1, by omega, by go_num, H1.out _, H2.out, H3.out _⟩, by simp [intOf]; omega⟩
    · have hd : decide ((k : Int) < 64) = false := decide_eq_false (by omega)
      rw [show k = 64 from by omega, partW_end] at hr2
      go_wp2_with fail
      go_loopw [6] (fun i wr => ∃ j : Nat, 16 ≤ j ∧ j ≤ 64 ∧ i = .int .i64 (j : Int) ∧ SchedRel w g1 g2 Z (padW bs (j - 16)) wr) (fun i _ => 64 - (intOf i).toNat)
      case atStart => exact ⟨16, by omega, by omega, rfl, hr1, hr2, hf⟩
      case round =>
        clear hr1 hr2 hf
        obtain ⟨j, hj16, hj, rfl, hr1, hr2, hf⟩ := hrel
        by_cases hj64 : j < 64
        · have hd : decide ((j : Int) < 64) = true := decide_eq_true (by omega)
          obtain ⟨x15, x6, x14, x1, c15, c6, c14, c1, l15, l6, l14, l1, hset⟩ := sched_next bs (j - 16) (by omega)
          rw [show j - 16 = j - 16 from rfl] at c15
          rw [show 9 + (j - 16) = j - 7 from by omega] at c6
          rw [show 1 + (j - 16) = j - 15 from by omega] at c14
          rw [show 14 + (j - 16) = j - 2 from by omega] at c1
          rw [show 16 + (j - 16) = j from by omega, show j - 16 + 1 = j + 1 - 16 from by omega] at hset
          rw [← cell_of_heap hr2] at c15 c6 c14 c1
          have hfree := free_of_heap hr2 j
          have h1 : ∀ v, (wr.setCell ⟨g2, j, none⟩ v).heap[g1]? = some (.cells Z 46 (0, 0)) := fun v => (Fr.set0 wr g2 j v).heap hr1 (by simpa using hn1)
          have h2 : ∀ z : Int, z = ((nextOf x15 x6 x14 x1 : Nat) : Int) → (wr.setCell ⟨g2, j, none⟩ (.int .u32 z)).heap[g2]? = some (.cells (numsC (padW bs (j + 1 - 16))) 46 (0, 0)) := by
            rintro z rfl
            rw [heap_setCell_same hr2, hset]
          have hcj : wr.cell? ⟨g2, j, none⟩ = some (.int .u32 (((padW bs (j - 16))[j]'(by rw [padW_length _ _ (by omega)]; omega) : Nat) : Int)) := by rw [cell_of_heap hr2, numsC_get]
          have hnx := next_put x15 x6 x14 x1
          have h3 : ∀ v, Fr [] w (wr.setCell ⟨g2, j, none⟩ v) := fun v => hf.trans (Fr.set0 wr g2 j v) (by simp) (by simp; omega)
          obtain ⟨a1, a2⟩ := small0_put x14 l14
          obtain ⟨b1, b2⟩ := small1_put x1 l1
          have HNX := Lib.hid hnx
          clear hnx
          have r1 : ∀ wx, Calls Tryd.prog 39 #[.int .u32 x14, .int .i64 7] wx fun e w' => e = .returned (.int .u32 (rotN x14 7 : Nat)) ∧ wx = w' := fun wx => rotate_any x14 7 wx l14 (by decide) (by decide)
          have r2 : ∀ wx, Calls Tryd.prog 39 #[.int .u32 x14, .int .i64 18] wx fun e w' => e = .returned (.int .u32 (rotN x14 18 : Nat)) ∧ wx = w' := fun wx => rotate_any x14 18 wx l14 (by decide) (by decide)
          have r3 : ∀ wx, Calls Tryd.prog 39 #[.int .u32 x1, .int .i64 17] wx fun e w' => e = .returned (.int .u32 (rotN x1 17 : Nat)) ∧ wx = w' := fun wx => rotate_any x1 17 wx l1 (by decide) (by decide)
          have r4 : ∀ wx, Calls Tryd.prog 39 #[.int .u32 x1, .int .i64 19] wx fun e w' => e = .returned (.int .u32 (rotN x1 19 : Nat)) ∧ wx = w' := fun wx => rotate_any x1 19 wx l1 (by decide) (by decide)
          have H1 := Lib.hid h1
          have H2 := Lib.hid h2
          have H3 := Lib.hid h3
          have R1 := Lib.hid r1
          have R2 := Lib.hid r2
          have R3 := Lib.hid r3
          have R4 := Lib.hid r4
          clear h1 h2 h3 r1 r2 r3 r4 hset hr1 hr2
          go_wp2_with fail
          go_region
          go_wp2_with (first
            | (go_at_call 39; with_reducible refine (R1.out _).mono ?_; rintro e w2 ⟨rfl, rfl⟩)
            | (go_at_call 39; with_reducible refine (R2.out _).mono ?_; rintro e w2 ⟨rfl, rfl⟩)
            | (go_at_call 39; with_reducible refine (R3.out _).mono ?_; rintro e w2 ⟨rfl, rfl⟩)
            | (go_at_call 39; with_reducible refine (R4.out _).mono ?_; rintro e w2 ⟨rfl, rfl⟩))
          go_region
          go_wp2_with fail
          go_roundw
          case rel => exact ⟨j + 1, by omega, by omega, by go_num, H1.out _, H2.out _ (by rw [← HNX.out]; omega), (H3.out _).andDrew.andDrew⟩
          case measure => simp [intOf]; omega
        · have hd : decide ((j : Int) < 64) = false := decide_eq_false (by omega)
          rw [show j - 16 = 48 from by omega, padW_end] at hr2
          have hsz : (Tryd.prog.info? 46).map (·.size) = some (numsC (sched bs)).size := by rw [numsC_size, sched_length]; exact sizeN64
          have hold : Z.size = (numsC (sched bs)).size := by rw [HZ.out, numsC_size, numsC_size, sched_length, List.length_replicate]
          have hone := numsC_one (sched bs)
          have H1 := Lib.hid hr1
          have H2 := Lib.hid hr2
          have HS := Lib.hid hsz
          have HO := Lib.hid hold
          have HN := Lib.hid hone
          clear hr1 hr2 hsz hold hone
          obtain ⟨L, hL⟩ : ∃ L, L = numsC (sched bs) := ⟨_, rfl⟩
          rw [← hL] at H2 HS HO HN
          go_wp2_with (refine wpList_load_row rfl 46 _ rfl g2 rfl 46 L (0, 0) _ H2.out Tryd.underlying46 rfl HS.out ?_; refine wpL_storeArr rfl 46 (.tmp 2) (.tmp 71) rfl g1 L Z rfl rfl 46 H1.out HS.out HO.out HN.out ?_; intro w4 hh4 hf4 hs4)
          refine bodyPost_ret (v := .agg L) ?_ rfl ⟨by rw [hL], hf.trans hf4 (by simp) (by simp; omega)⟩
          exact results_cell_row rfl _ _ g1 46 L (0, 0) _ rfl hh4.out Tryd.underlying46 rfl HS.out
end Go.Proofs.YtjiighgabfkmpaaDoor
