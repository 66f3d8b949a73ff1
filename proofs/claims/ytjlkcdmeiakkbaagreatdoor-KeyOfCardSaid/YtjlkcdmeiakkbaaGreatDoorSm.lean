/- Several texts in one: ShaA, ShaB, ShaC, ShaEn, ShaF. -/
import Derived.BigRegion
import Derived.BigQuiet
import Derived.Deep.MidRow
import Derived.Test.YtjlkcdmeiakkbaaGreatDoorBs
import Derived.Test.YtjlkcdmeiakkbaaGreatDoorArr
import Derived.Test.YtjlkcdmeiakkbaaGreatDoorShaMath
import Derived.Test.YtjlkcdmeiakkbaaGreatDoorProg
set_option linter.unusedVariables false
set_option linter.unusedSimpArgs false
/-! Contracts of package sha: rotate, rotations, choose, majority. -/
namespace Go.Proofs.YtjlkcdmeiakkbaaGreatDoor
open Go.RowKit

theorem wrap_neg (n : Nat) (h0 : 0 < n) (hn : n < 32) : IntKind.u64.wrap (-(n : Int)) = 18446744073709551616 - (n : Int) := by
  rw [IntKind.wrap_u64]; omega
theorem rot_and (n : Nat) (h0 : 0 < n) (hn : n < 32) : bits .and .u64 (IntKind.u64.wrap (-(n : Int))) 31 = ((32 - n : Nat) : Int) := by
  rw [wrap_neg n h0 hn]
  have h := u64_and_nat (18446744073709551616 - n) 31 (by omega) (by decide)
  have e : (18446744073709551616 - n) &&& 31 = (18446744073709551616 - n) % 32 := Nat.and_two_pow_sub_one_eq_mod _ 5
  rw [e] at h
  rw [show (18446744073709551616 - (n : Int)) = ((18446744073709551616 - n : Nat) : Int) from by omega]
  refine h.trans ?_
  omega
theorem rot_or (v n : Nat) (hv : v < 4294967296) (hn : n < 32) : bits .or .u32 (((v * 2 ^ (32 - n) % 4294967296 : Nat)) : Int) ((v / 2 ^ n : Nat) : Int) = ((rotN v n : Nat) : Int) := by
  have e : 2 ^ n * 2 ^ (32 - n) = 4294967296 := by rw [← Nat.pow_add, Nat.add_sub_cancel' (by omega)]
  have hp : 0 < 2 ^ n := Nat.pow_pos (by decide)
  have h1 : v / 2 ^ n < 2 ^ (32 - n) := by rw [Nat.div_lt_iff_lt_mul hp, Nat.mul_comm, e]; exact hv
  have h2 : v * 2 ^ (32 - n) % 4294967296 = 2 ^ (32 - n) * (v % 2 ^ n) := by
    rw [← e, Nat.mul_mod_mul_right, Nat.mul_comm]
  have h3 := u32_or_nat (v * 2 ^ (32 - n) % 4294967296) (v / 2 ^ n) (Nat.mod_lt _ (by decide)) (Nat.lt_of_le_of_lt (Nat.div_le_self _ _) hv)
  rw [h3, h2, ← Nat.two_pow_add_eq_or_of_lt h1, rotN, Nat.add_comm, Nat.mul_comm (2 ^ (32 - n))]

theorem rot_or' (v n m : Nat) (hv : v < 4294967296) (hn : n < 32) (hm : m = 32 - n) : bits .or .u32 ((v : Int) * 2 ^ m % 4294967296) ((v : Int) / 2 ^ (32 - m)) = ((rotN v n : Nat) : Int) := by
  have h := rot_or v n hv hn
  rw [← hm, show n = 32 - m from by omega] at h
  rw [show n = 32 - m from by omega, ← h]
  congr 1

theorem rotleft_any (v n : Nat) (w : World) (hv : v < 4294967296) (h0 : 0 < n) (hn : n < 32) :
    Calls Tryz.prog 141 #[.int .u32 v, .int .i64 (-(n : Int))] w fun e w' => e = .returned (.int .u32 (rotN v n : Nat)) ∧ w = w' := by
  have hand := rot_and n h0 hn
  obtain ⟨m, hm⟩ : ∃ m, m = 32 - n := ⟨_, rfl⟩
  have hor := rot_or' v n m hv hn hm
  have hm32 : m ≤ 32 := by omega
  rw [← hm] at hand
  clear hm
  go_enter Tryz.func141, Tryz.ntmps141
  go_wp2_with fail
  go_ret
  exact ⟨rfl, rfl⟩

theorem rotate_any (v n : Nat) (w : World) (hv : v < 4294967296) (h0 : 0 < n) (hn : n < 32) :
    Calls Tryz.prog 123 #[.int .u32 v, .int .i64 n] w fun e w' => e = .returned (.int .u32 (rotN v n : Nat)) ∧ w = w' := by
  go_enter Tryz.func123, Tryz.ntmps123
  go_wp2_with (go_at_call 141; refine (rotleft_any v n _ hv h0 hn).mono ?_; rintro e w2 ⟨rfl, rfl⟩)
  go_ret
  exact ⟨rfl, rfl⟩

theorem rotations_any (v a b c : Nat) (w : World) (hv : v < 4294967296) (ha : 0 < a ∧ a < 32) (hb : 0 < b ∧ b < 32) (hc : 0 < c ∧ c < 32) :
    Calls Tryz.prog 97 #[.int .u32 v, .int .i64 a, .int .i64 b, .int .i64 c] w fun e w' => e = .returned (.int .u32 ((rotN v a ^^^ rotN v b ^^^ rotN v c : Nat) : Int)) ∧ w = w' := by
  have ra : rotN v a < 4294967296 := rotN_lt v a hv (by omega)
  have rb : rotN v b < 4294967296 := rotN_lt v b hv (by omega)
  have rc : rotN v c < 4294967296 := rotN_lt v c hv (by omega)
  have h1 := u32_xor_nat (rotN v a) (rotN v b) ra rb
  have h2 := u32_xor_nat (rotN v a ^^^ rotN v b) (rotN v c) (xor32 ra rb) rc
  clear ra rb rc
  go_enter Tryz.func97, Tryz.ntmps97
  go_wp2_with (first
    | (go_at_call 123; with_reducible refine (rotate_any v a _ hv ha.1 ha.2).mono ?_; rintro e w2 ⟨rfl, rfl⟩)
    | (go_at_call 123; with_reducible refine (rotate_any v b _ hv hb.1 hb.2).mono ?_; rintro e w2 ⟨rfl, rfl⟩)
    | (go_at_call 123; with_reducible refine (rotate_any v c _ hv hc.1 hc.2).mono ?_; rintro e w2 ⟨rfl, rfl⟩))
  go_ret
  exact ⟨rfl, rfl⟩

theorem xor_ones (r : Nat) (h : r < 4294967296) : r ^^^ 4294967295 = 4294967295 - r := by
  apply Nat.eq_of_testBit_eq
  intro i
  have e : (4294967295 : Nat) = 2 ^ 32 - 1 := rfl
  rw [Nat.testBit_xor, show 4294967295 - r = 2 ^ 32 - (r + 1) from by omega, Nat.testBit_two_pow_sub_succ h, e, Nat.testBit_two_pow_sub_one]
  by_cases hi : i < 32
  · simp [hi]
  · have hp : (2 : Nat) ^ 32 ≤ 2 ^ i := Nat.pow_le_pow_right (by decide) (by omega)
    have : r.testBit i = false := Nat.testBit_lt_two_pow (by omega)
    simp [hi, this]
theorem u32_not (r : Nat) (hr : r < 4294967296) : bits .xor .u32 IntKind.u32.max (r : Int) = ((4294967295 - r : Nat) : Int) := by
  have h := u32_xor_nat 4294967295 r (by decide) hr
  rw [Nat.xor_comm, xor_ones r hr] at h
  exact h
theorem choose_any (e f g : Nat) (w : World) (he : e < 4294967296) (hf : f < 4294967296) (hg : g < 4294967296) :
    Calls Tryz.prog 98 #[.int .u32 e, .int .u32 f, .int .u32 g] w fun r w' => r = .returned (.int .u32 (chN e f g : Nat)) ∧ w = w' := by
  have hs : ¬ (IntKind.u32.signed = true) := by decide
  have h0 := u32_not e he
  have h1 := u32_and_nat e f he hf
  have h2 := u32_and_nat (4294967295 - e) g (by omega) hg
  have h3 := u32_or_nat (e &&& f) ((4294967295 - e) &&& g) (and32 hf) (and32 hg)
  go_enter Tryz.func98, Tryz.ntmps98
  go_wp2_with fail
  go_ret
  exact ⟨rfl, rfl⟩
theorem majority_any (a b c : Nat) (w : World) (ha : a < 4294967296) (hb : b < 4294967296) (hc : c < 4294967296) :
    Calls Tryz.prog 99 #[.int .u32 a, .int .u32 b, .int .u32 c] w fun r w' => r = .returned (.int .u32 (majN a b c : Nat)) ∧ w = w' := by
  have h1 := u32_and_nat a b ha hb
  have h2 := u32_and_nat a c ha hc
  have h3 := u32_and_nat b c hb hc
  have h4 := u32_or_nat (a &&& b) (a &&& c) (and32 hb) (and32 hc)
  have h5 := u32_or_nat ((a &&& b) ||| (a &&& c)) (b &&& c) (or32 (and32 hb) (and32 hc)) (and32 hc)
  go_enter Tryz.func99, Tryz.ntmps99
  go_wp2_with fail
  go_ret
  exact ⟨rfl, rfl⟩
end Go.Proofs.YtjlkcdmeiakkbaaGreatDoor

/-! Contract of package sha's schedule. -/
namespace Go.Proofs.YtjlkcdmeiakkbaaGreatDoor
open Go.RowKit

/-- Numbers of 32 bits as cells. -/
def numsC (l : List Nat) : Array Value := (l.map fun (x : Nat) => Value.int .u32 (x : Int)).toArray
theorem numsC_size (l : List Nat) : (numsC l).size = l.length := by simp [numsC]
theorem numsC_get (l : List Nat) (i : Nat) (h : i < l.length) : (numsC l)[i]? = some (.int .u32 ((l[i]'h : Nat) : Int)) := by simp [numsC, h]
theorem numsC_one (l : List Nat) : (numsC l).all (·.oneCell') = true := by
  rw [Array.all_eq_true_iff_forall_mem]
  intro x hx
  simp [numsC] at hx
  obtain ⟨j, _, rfl⟩ := hx
  rfl
theorem numsC_set (l : List Nat) (i x : Nat) : (numsC l).setIfInBounds i (.int .u32 (x : Int)) = numsC (l.set i x) := by
  simp [numsC, List.map_set]

theorem size32 : (Tryz.prog.info? 64).map (·.size) = some 1 := by kernel_rfl
theorem infoN64 : (Tryz.prog.info? 116).map (fun i => i.zero) = some (some (.agg (numsC (List.replicate 64 0)))) := by kernel_rfl
theorem sizeN64 : (Tryz.prog.info? 116).map (·.size) = some 64 := by kernel_rfl
theorem sizeB64 : (Tryz.prog.info? 88).map (·.size) = some 64 := by kernel_rfl

/-- The words when i bytes have been taken. -/
def partW (bs : List UInt8) (i : Nat) : List Nat := (List.range 64).map fun j => wordN bs j (min 4 (i - 4 * j))
theorem partW_length (bs : List UInt8) (i : Nat) : (partW bs i).length = 64 := by simp [partW]
theorem partW_zero (bs : List UInt8) : partW bs 0 = List.replicate 64 0 := by
  apply List.ext_getElem
  · simp [partW]
  · intro j h1 h2
    rw [List.getElem_replicate]
    simp [partW, wordN_zero]
theorem partW_get (bs : List UInt8) (i : Nat) (hi : i < 64) : (partW bs i)[i / 4]'(by rw [partW_length]; omega) = wordN bs (i / 4) (i % 4) := by
  simp only [partW, List.getElem_map, List.getElem_range]
  congr 1
  omega
theorem partW_set (bs : List UInt8) (i : Nat) (hi : i < 64) : (partW bs i).set (i / 4) (wordN bs (i / 4) (i % 4 + 1)) = partW bs (i + 1) := by
  apply List.ext_getElem
  · simp [partW]
  · intro j h1 h2
    rw [List.getElem_set]
    split
    · rename_i e
      subst e
      simp only [partW, List.getElem_map, List.getElem_range]
      congr 1
      omega
    · simp only [partW, List.getElem_map, List.getElem_range]
      congr 1
      omega
/-- The words so far, and zeros behind them. -/
def padW (bs : List UInt8) (m : Nat) : List Nat := schedM bs m ++ List.replicate (48 - m) 0
theorem padW_length (bs : List UInt8) (m : Nat) (h : m ≤ 48) : (padW bs m).length = 64 := by simp [padW, schedM_length]; omega
theorem partW_end (bs : List UInt8) : partW bs 64 = padW bs 0 := by
  apply List.ext_getElem
  · rw [partW_length, padW_length _ _ (by omega)]
  · intro j h1 h2
    rw [partW_length] at h1
    simp only [partW, padW, schedM_zero, List.getElem_map, List.getElem_range]
    by_cases hj : j < 16
    · rw [List.getElem_append_left (by rw [first16_length]; exact hj)]
      simp only [first16, List.getElem_map, List.getElem_range]
      congr 1
      omega
    · rw [List.getElem_append_right (by rw [first16_length]; omega), List.getElem_replicate, show min 4 (64 - 4 * j) = 0 from by omega, wordN_zero]
theorem padW_end (bs : List UInt8) : padW bs 48 = sched bs := by simp [padW, sched]
theorem padW_get (bs : List UInt8) (m k : Nat) (hm : m ≤ 48) (h : k < 16 + m) : (padW bs m)[k]'(by rw [padW_length _ _ hm]; omega) = (schedM bs m)[k]'(by rw [schedM_length]; exact h) := by
  simp only [padW]
  rw [List.getElem_append_left]
theorem padW_set (bs : List UInt8) (m x : Nat) (h : m < 48) (hx : schedM bs (m + 1) = schedM bs m ++ [x]) : (padW bs m).set (16 + m) x = padW bs (m + 1) := by
  have hl := schedM_length bs m
  rw [padW, padW, hx, show 48 - m = (48 - (m + 1)) + 1 from by omega, List.replicate_succ, List.set_append_right _ _ (by omega), show 16 + m - (schedM bs m).length = 0 from by omega, List.set_cons_zero]
  simp
/-- The next word, of the words so far. -/
def nextOf (x15 x6 x14 x1 : Nat) : Nat := (((x15 + x6) % 4294967296 + small0 x14) % 4294967296 + small1 x1) % 4294967296
theorem sched_next (bs : List UInt8) (m : Nat) (hm : m < 48) : ∃ x15 x6 x14 x1 : Nat,
    (numsC (padW bs m))[m]? = some (.int .u32 (x15 : Int)) ∧ (numsC (padW bs m))[9 + m]? = some (.int .u32 (x6 : Int)) ∧ (numsC (padW bs m))[1 + m]? = some (.int .u32 (x14 : Int)) ∧ (numsC (padW bs m))[14 + m]? = some (.int .u32 (x1 : Int)) ∧
    x15 < 4294967296 ∧ x6 < 4294967296 ∧ x14 < 4294967296 ∧ x1 < 4294967296 ∧ (numsC (padW bs m)).setIfInBounds (16 + m) (.int .u32 ((nextOf x15 x6 x14 x1 : Nat) : Int)) = numsC (padW bs (m + 1)) := by
  have hl := schedM_length bs m
  have hp := padW_length bs m (by omega)
  refine ⟨(schedM bs m)[m]'(by omega), (schedM bs m)[9 + m]'(by omega), (schedM bs m)[1 + m]'(by omega), (schedM bs m)[14 + m]'(by omega), ?_, ?_, ?_, ?_, schedM_lt bs m _ (List.getElem_mem _), schedM_lt bs m _ (List.getElem_mem _), schedM_lt bs m _ (List.getElem_mem _), schedM_lt bs m _ (List.getElem_mem _), ?_⟩
  · rw [numsC_get _ _ (by omega), padW_get _ _ _ (by omega) (by omega)]
  · rw [numsC_get _ _ (by omega), padW_get _ _ _ (by omega) (by omega)]
  · rw [numsC_get _ _ (by omega), padW_get _ _ _ (by omega) (by omega)]
  · rw [numsC_get _ _ (by omega), padW_get _ _ _ (by omega) (by omega)]
  · rw [numsC_set]
    exact congrArg numsC (padW_set bs m _ hm (schedM_succ bs m))

theorem word_put (x : Nat) (c : UInt8) (hx : x < 16777216) : bits .or .u32 ((x : Int) * 256) ((c.toNat : Int) % 4294967296) = ((x * 256 + c.toNat : Nat) : Int) := by
  have hc := c.toNat_lt
  have h := u32_or_nat (x * 256) c.toNat (by omega) (by omega)
  have e : x * 256 ||| c.toNat = x * 256 + c.toNat := by
    rw [Nat.mul_comm, show (256 : Nat) = 2 ^ 8 from rfl, ← Nat.two_pow_add_eq_or_of_lt (by omega)]
  rw [show ((x : Int) * 256) = ((x * 256 : Nat) : Int) from by omega, show ((c.toNat : Int) % 4294967296) = (c.toNat : Int) from by omega, h, e]

theorem small0_put (x : Nat) (h : x < 4294967296) : bits .xor .u32 ((rotN x 7 : Nat) : Int) ((rotN x 18 : Nat) : Int) = ((rotN x 7 ^^^ rotN x 18 : Nat) : Int) ∧ bits .xor .u32 ((rotN x 7 ^^^ rotN x 18 : Nat) : Int) ((x : Int) / 8) = ((small0 x : Nat) : Int) := by
  have ra : rotN x 7 < 4294967296 := rotN_lt x 7 h (by decide)
  have rb : rotN x 18 < 4294967296 := rotN_lt x 18 h (by decide)
  refine ⟨u32_xor_nat _ _ ra rb, ?_⟩
  exact u32_xor_nat _ (x / 8) (xor32 ra rb) (by omega)
theorem small1_put (x : Nat) (h : x < 4294967296) : bits .xor .u32 ((rotN x 17 : Nat) : Int) ((rotN x 19 : Nat) : Int) = ((rotN x 17 ^^^ rotN x 19 : Nat) : Int) ∧ bits .xor .u32 ((rotN x 17 ^^^ rotN x 19 : Nat) : Int) ((x : Int) / 1024) = ((small1 x : Nat) : Int) := by
  have ra : rotN x 17 < 4294967296 := rotN_lt x 17 h (by decide)
  have rb : rotN x 19 < 4294967296 := rotN_lt x 19 h (by decide)
  refine ⟨u32_xor_nat _ _ ra rb, ?_⟩
  exact u32_xor_nat _ (x / 1024) (xor32 ra rb) (by omega)
theorem next_put (x15 x6 x14 x1 : Nat) : ((((x15 : Int) + x6) % 4294967296 + (small0 x14 : Nat)) % 4294967296 + (small1 x1 : Nat)) % 4294967296 = ((nextOf x15 x6 x14 x1 : Nat) : Int) := by
  unfold nextOf; omega

/-- The rows while the words are made. -/
def SchedRel (w : World) (g1 g2 : Nat) (Z : Array Value) (T : List Nat) (wr : World) : Prop :=
  wr.heap[g1]? = some (.cells Z 116 (0, 0)) ∧ wr.heap[g2]? = some (.cells (numsC T) 116 (0, 0)) ∧ Fr [] w wr
set_option maxRecDepth 100000 in
theorem schedule_any (bs : List UInt8) (w : World) (hb : bs.length = 64) :
    Calls Tryz.prog 96 #[.agg (cellsB bs).toArray] w fun e w' => e = .returned (.agg (numsC (sched bs))) ∧ Fr [] w w' := by
  obtain ⟨B, hB⟩ : ∃ B, B = (cellsB bs).toArray := ⟨_, rfl⟩
  obtain ⟨Z, hZ⟩ : ∃ Z, Z = numsC (List.replicate 64 0) := ⟨_, rfl⟩
  have hiz := infoN64
  rw [← hB]
  rw [← hZ] at hiz
  have hszB : (Tryz.prog.info? 88).map (·.size) = some B.size := by rw [hB, bytesC_size, hb]; exact sizeB64
  have hget : ∀ (i : Nat) (h : i < bs.length), B[i]? = some (.int .u8 ((bs[i]'h).toNat : Int)) := fun i h => by rw [hB]; exact bytesC_get bs i h
  have HB := Lib.hid hB
  have HZ := Lib.hid hZ
  have HI := Lib.hid hiz
  have HSB := Lib.hid hszB
  have HG := Lib.hid hget
  clear hB hZ hiz hszB hget
  go_enter Tryz.func96, Tryz.ntmps96
  go_wp2_with (first
    | (refine wpL_boxArr rfl _ _ rfl B rfl ?_; intro w1 hh1 hf1 hs1; refine wpL_newArr rfl 116 rfl Z HI.out ?_; intro w2 hh2 hf2 hs2)
    | (refine wpL_newArr rfl 116 rfl Z HI.out ?_; intro w3 hh3 hf3 hs3)
    | (refine wpList_load_row rfl 88 _ rfl w.heap.size rfl 88 B (0, 0) _ ((hf2.trans hf3 (by simp) (n := []) (by simp)).heap hh1.out (by simp)) Tryz.underlying88 rfl HSB.out ?_))
  have hfr : Fr [] w w3 := (hf1.trans hf2 (by simp) (n := []) (by simp)).trans hf3 (by simp) (by simp)
  have hg1 := hf3.heap hh2.out (by simp)
  have hg2 := hh3.out
  have hn1 : w1.heap.size ≠ w2.heap.size := by have := hs2.out; omega
  have hn2 : w.heap.size ≤ w2.heap.size := by have := hs2.out; have := hs1.out; omega
  have hn3 : w.heap.size ≤ w1.heap.size := by have := hs1.out; omega
  clear hh1 hh2 hh3 hf1 hf2 hf3 hs1 hs2 hs3
  obtain ⟨g1, hg1e⟩ : ∃ g, g = w1.heap.size := ⟨_, rfl⟩
  obtain ⟨g2, hg2e⟩ : ∃ g, g = w2.heap.size := ⟨_, rfl⟩
  rw [← hg1e] at hg1 hn1 hn3 ⊢
  rw [← hg2e] at hg2 hn1 hn2 ⊢
  clear hg1e hg2e
  go_loopw [12] (fun i wr => ∃ k : Nat, k ≤ 64 ∧ i = .int .i64 (k : Int) ∧ SchedRel w g1 g2 Z (partW bs k) wr) (fun i _ => 64 - (intOf i).toNat)
  case atStart => exact ⟨0, by omega, rfl, hg1, by rw [partW_zero, ← HZ.out]; exact hg2, hfr⟩
  case round =>
    clear hg1 hg2 hfr
    obtain ⟨k, hk, rfl, hr1, hr2, hf⟩ := hrel
    by_cases hk64 : k < 64
    · have hd : decide ((k : Int) < 64) = true := decide_eq_true (by omega)
      have hc := HG.out k (by omega)
      obtain ⟨c, hcc⟩ : ∃ c, c = bs[k]'(by omega) := ⟨_, rfl⟩
      obtain ⟨x, hx⟩ : ∃ x, x = wordN bs (k / 4) (k % 4) := ⟨_, rfl⟩
      have hcell : wr.cell? ⟨g2, k / 4, none⟩ = some (.int .u32 (x : Int)) := by
        rw [cell_of_heap hr2, numsC_get _ _ (by rw [partW_length]; omega), partW_get bs k hk64, hx]
      have hfree := free_of_heap hr2 (k / 4)
      have hx24 : x < 16777216 := by
        rw [hx]
        exact Nat.lt_of_lt_of_le (wordN_lt bs (k / 4) (k % 4)) (Nat.pow_le_pow_right (n := 256) (i := k % 4) (j := 3) (by decide) (by omega))
      have hput := word_put x c hx24
      have hnew : (numsC (partW bs k)).setIfInBounds (k / 4) (.int .u32 ((x * 256 + c.toNat : Nat) : Int)) = numsC (partW bs (k + 1)) := by
        rw [numsC_set, ← partW_set bs k hk64, hx, hcc, wordN_succ bs (k / 4) (k % 4) (by omega)]
        congr 6
        omega
      have h1 : ∀ v, (wr.setCell ⟨g2, k / 4, none⟩ v).heap[g1]? = some (.cells Z 116 (0, 0)) := fun v => (Fr.set0 wr g2 (k / 4) v).heap hr1 (by simpa using hn1)
      have h2 : (wr.setCell ⟨g2, k / 4, none⟩ (.int .u32 ((x * 256 + c.toNat : Nat) : Int))).heap[g2]? = some (.cells (numsC (partW bs (k + 1))) 116 (0, 0)) := by rw [heap_setCell_same hr2, hnew]
      have h3 : ∀ v, Fr [] w (wr.setCell ⟨g2, k / 4, none⟩ v) := fun v => hf.trans (Fr.set0 wr g2 (k / 4) v) (by simp) (by simp; omega)
      rw [← hcc] at hc
      have hidx := run_index_agg wr 88 5 64 .u8 B k _ Tryz.underlying88 Tryz.underlying5 size8 hk64 hc
      clear hc
      have H1 := Lib.hid h1
      have H2 := Lib.hid h2
      have H3 := Lib.hid h3
      clear h1 h2 h3 hnew hcc hx hr1 hr2
      go_wp2_with fail
      exact ⟨⟨k + 1, by omega, by go_num, H1.out _, H2.out, H3.out _⟩, by simp [intOf]; omega⟩
    · have hd : decide ((k : Int) < 64) = false := decide_eq_false (by omega)
      rw [show k = 64 from by omega, partW_end] at hr2
      go_wp2_with fail
      go_loopw [6] (fun i wr => ∃ j : Nat, 16 ≤ j ∧ j ≤ 64 ∧ i = .int .i64 (j : Int) ∧ SchedRel w g1 g2 Z (padW bs (j - 16)) wr) (fun i _ => 64 - (intOf i).toNat)
      case atStart => exact ⟨16, by omega, by omega, rfl, hr1, hr2, hf⟩
      case round =>
        clear hr1 hr2 hf
        obtain ⟨j, hj16, hj, rfl, hr1, hr2, hf⟩ := hrel
        by_cases hj64 : j < 64
        · have hd : decide ((j : Int) < 64) = true := decide_eq_true (by omega)
          obtain ⟨x15, x6, x14, x1, c15, c6, c14, c1, l15, l6, l14, l1, hset⟩ := sched_next bs (j - 16) (by omega)
          rw [show j - 16 = j - 16 from rfl] at c15
          rw [show 9 + (j - 16) = j - 7 from by omega] at c6
          rw [show 1 + (j - 16) = j - 15 from by omega] at c14
          rw [show 14 + (j - 16) = j - 2 from by omega] at c1
          rw [show 16 + (j - 16) = j from by omega, show j - 16 + 1 = j + 1 - 16 from by omega] at hset
          rw [← cell_of_heap hr2] at c15 c6 c14 c1
          have hfree := free_of_heap hr2 j
          have h1 : ∀ v, (wr.setCell ⟨g2, j, none⟩ v).heap[g1]? = some (.cells Z 116 (0, 0)) := fun v => (Fr.set0 wr g2 j v).heap hr1 (by simpa using hn1)
          have h2 : ∀ z : Int, z = ((nextOf x15 x6 x14 x1 : Nat) : Int) → (wr.setCell ⟨g2, j, none⟩ (.int .u32 z)).heap[g2]? = some (.cells (numsC (padW bs (j + 1 - 16))) 116 (0, 0)) := by
            rintro z rfl
            rw [heap_setCell_same hr2, hset]
          have hcj : wr.cell? ⟨g2, j, none⟩ = some (.int .u32 (((padW bs (j - 16))[j]'(by rw [padW_length _ _ (by omega)]; omega) : Nat) : Int)) := by rw [cell_of_heap hr2, numsC_get]
          have hnx := next_put x15 x6 x14 x1
          have h3 : ∀ v, Fr [] w (wr.setCell ⟨g2, j, none⟩ v) := fun v => hf.trans (Fr.set0 wr g2 j v) (by simp) (by simp; omega)
          obtain ⟨a1, a2⟩ := small0_put x14 l14
          obtain ⟨b1, b2⟩ := small1_put x1 l1
          have HNX := Lib.hid hnx
          clear hnx
          have r1 : ∀ wx, Calls Tryz.prog 123 #[.int .u32 x14, .int .i64 7] wx fun e w' => e = .returned (.int .u32 (rotN x14 7 : Nat)) ∧ wx = w' := fun wx => rotate_any x14 7 wx l14 (by decide) (by decide)
          have r2 : ∀ wx, Calls Tryz.prog 123 #[.int .u32 x14, .int .i64 18] wx fun e w' => e = .returned (.int .u32 (rotN x14 18 : Nat)) ∧ wx = w' := fun wx => rotate_any x14 18 wx l14 (by decide) (by decide)
          have r3 : ∀ wx, Calls Tryz.prog 123 #[.int .u32 x1, .int .i64 17] wx fun e w' => e = .returned (.int .u32 (rotN x1 17 : Nat)) ∧ wx = w' := fun wx => rotate_any x1 17 wx l1 (by decide) (by decide)
          have r4 : ∀ wx, Calls Tryz.prog 123 #[.int .u32 x1, .int .i64 19] wx fun e w' => e = .returned (.int .u32 (rotN x1 19 : Nat)) ∧ wx = w' := fun wx => rotate_any x1 19 wx l1 (by decide) (by decide)
          have H1 := Lib.hid h1
          have H2 := Lib.hid h2
          have H3 := Lib.hid h3
          have R1 := Lib.hid r1
          have R2 := Lib.hid r2
          have R3 := Lib.hid r3
          have R4 := Lib.hid r4
          clear h1 h2 h3 r1 r2 r3 r4 hset hr1 hr2
          go_wp2_with fail
          go_region
          go_wp2_with (first
            | (go_at_call 123; with_reducible refine (R1.out _).mono ?_; rintro e w2 ⟨rfl, rfl⟩)
            | (go_at_call 123; with_reducible refine (R2.out _).mono ?_; rintro e w2 ⟨rfl, rfl⟩)
            | (go_at_call 123; with_reducible refine (R3.out _).mono ?_; rintro e w2 ⟨rfl, rfl⟩)
            | (go_at_call 123; with_reducible refine (R4.out _).mono ?_; rintro e w2 ⟨rfl, rfl⟩))
          go_region
          go_wp2_with fail
          go_roundw
          case rel => exact ⟨j + 1, by omega, by omega, by go_num, H1.out _, H2.out _ (by rw [← HNX.out]; omega), (H3.out _).andDrew.andDrew⟩
          case measure => simp [intOf]; omega
        · have hd : decide ((j : Int) < 64) = false := decide_eq_false (by omega)
          rw [show j - 16 = 48 from by omega, padW_end] at hr2
          have hsz : (Tryz.prog.info? 116).map (·.size) = some (numsC (sched bs)).size := by rw [numsC_size, sched_length]; exact sizeN64
          have hold : Z.size = (numsC (sched bs)).size := by rw [HZ.out, numsC_size, numsC_size, sched_length, List.length_replicate]
          have hone := numsC_one (sched bs)
          have H1 := Lib.hid hr1
          have H2 := Lib.hid hr2
          have HS := Lib.hid hsz
          have HO := Lib.hid hold
          have HN := Lib.hid hone
          clear hr1 hr2 hsz hold hone
          obtain ⟨L, hL⟩ : ∃ L, L = numsC (sched bs) := ⟨_, rfl⟩
          rw [← hL] at H2 HS HO HN
          go_wp2_with (refine wpList_load_row rfl 116 _ rfl g2 rfl 116 L (0, 0) _ H2.out Tryz.underlying116 rfl HS.out ?_; refine wpL_storeArr rfl 116 (.tmp 2) (.tmp 71) rfl g1 L Z rfl rfl 116 H1.out HS.out HO.out HN.out ?_; intro w4 hh4 hf4 hs4)
          refine bodyPost_ret (v := .agg L) ?_ rfl ⟨by rw [hL], hf.trans hf4 (by simp) (by simp; omega)⟩
          exact results_cell_row rfl _ _ g1 116 L (0, 0) _ rfl hh4.out Tryz.underlying116 rfl HS.out
end Go.Proofs.YtjlkcdmeiakkbaaGreatDoor

/-! Contract of package sha's process. -/
namespace Go.Proofs.YtjlkcdmeiakkbaaGreatDoor
open Go.RowKit

theorem run_index_nums (w : World) (l : List Nat) (hl : l.length = 64) (k : Nat) (hk : k < 64) : (Instr.index 116 (.agg (numsC l)) (.int .i64 k)).run Tryz.prog w = .ok (.int .u32 ((l[k]'(by omega) : Nat) : Int)) w :=
  run_index_agg w 116 64 64 .u32 (numsC l) k _ Tryz.underlying116 Tryz.underlying64 size32 hk (numsC_get l k (by omega))
theorem x_put (a b c k w : Nat) (h : Nat) : (((((h : Int) + (a : Nat)) % 4294967296 + (b : Nat)) % 4294967296 + (k : Nat)) % 4294967296 + (w : Nat)) % 4294967296 = (((((h + a) % 4294967296 + b) % 4294967296 + k) % 4294967296 + w) % 4294967296 : Nat) := by omega
/-- The table of round constants lies where the program's text lays it. -/
def rootsAt (w : World) : Prop := ∀ i (h : i < kk.length), w.cell? ⟨1, i, none⟩ = some (.int .u32 ((kk[i]'h : Nat) : Int))
theorem rootsAt.kept {w w' : World} {l : List Nat} (h : rootsAt w) (hf : Fr l w w') (hl : 1 ∉ l) : rootsAt w' := fun i hi => hf.cell (h i hi) hl
theorem rootsAt.below {w w' : World} (h : rootsAt w) (hf : Fr [] w w') : rootsAt w' := h.kept hf (by simp)
theorem rootsAt.pos {w : World} (h : rootsAt w) : 1 < w.heap.size := World.block_lt_of_cell? w _ (h 0 (by rw [kk_length]; decide))

/-- A state as cells. -/
def stC (s : St) : Array Value := #[.int .u32 (s.a : Int), .int .u32 (s.b : Int), .int .u32 (s.c : Int), .int .u32 (s.d : Int), .int .u32 (s.e : Int), .int .u32 (s.f : Int), .int .u32 (s.g : Int), .int .u32 (s.h : Int)]
theorem stC_size (s : St) : (stC s).size = 8 := rfl
theorem stC_one (s : St) : (stC s).all (·.oneCell') = true := by simp [stC, Value.oneCell']
def zeroSt : St := ⟨0, 0, 0, 0, 0, 0, 0, 0⟩
theorem infoN8 : (Tryz.prog.info? 65).map (fun i => i.zero) = some (some (.agg (stC zeroSt))) := by kernel_rfl
theorem sizeN8 (s : St) : (Tryz.prog.info? 65).map (·.size) = some (stC s).size := by rw [stC_size]; kernel_rfl

def RoundRel (w : World) (ws : List Nat) (s : St) (va vb vc vd ve vf vg vh vi : Value) (wr : World) : Prop :=
  ∃ n a b c d e f g h : Nat, n ≤ 64 ∧ rnds ws n s = ⟨a, b, c, d, e, f, g, h⟩ ∧ vi = .int .i64 (n : Int) ∧ va = .int .u32 (a : Int) ∧ vb = .int .u32 (b : Int) ∧ vc = .int .u32 (c : Int) ∧ vd = .int .u32 (d : Int) ∧ ve = .int .u32 (e : Int) ∧ vf = .int .u32 (f : Int) ∧ vg = .int .u32 (g : Int) ∧ vh = .int .u32 (h : Int) ∧ Fr [] w wr
set_option maxRecDepth 100000 in
theorem process_any (s : St) (bs : List UInt8) (w : World) (hs : s.ok) (hb : bs.length = 64) (hr : rootsAt w) :
    Calls Tryz.prog 58 #[.agg (stC s), .agg (cellsB bs).toArray] w fun e w' => e = .returned (.agg (stC (blockSt s bs))) ∧ Fr [] w w' := by
  have HC := Lib.hid (fun wx => schedule_any bs wx hb)
  have hszB : (Tryz.prog.info? 88).map (·.size) = some (cellsB bs).toArray.size := by rw [bytesC_size, hb]; exact sizeB64
  obtain ⟨B, hB⟩ : ∃ B, B = (cellsB bs).toArray := ⟨_, rfl⟩
  obtain ⟨S, hS⟩ : ∃ S, S = stC s := ⟨_, rfl⟩
  obtain ⟨Z, hZ⟩ : ∃ Z, Z = stC zeroSt := ⟨_, rfl⟩
  have hiz := infoN8
  rw [← hB, ← hS]
  rw [← hB] at HC hszB
  rw [← hZ] at hiz
  have HB := Lib.hid hB
  have HZ := Lib.hid hZ
  have HS := Lib.hid hS
  have HI := Lib.hid hiz
  have HSB := Lib.hid hszB
  clear hB hZ hiz hS hszB
  go_enter Tryz.func58, Tryz.ntmps58
  go_wp2_with (first
    | (refine wpL_boxArr rfl 65 _ rfl S rfl ?_; intro w1 hh1 hf1 hs1; refine wpL_boxArr rfl 88 _ rfl B rfl ?_; intro w2 hh2 hf2 hs2; refine wpL_newArr rfl 65 rfl Z HI.out ?_; intro w3 hh3 hf3 hs3))
  have hfr : Fr [] w w3 := (hf1.trans hf2 (by simp) (n := []) (by simp)).trans hf3 (by simp) (by simp)
  have hg0 := (hf2.trans hf3 (by simp) (n := []) (by simp)).heap hh1.out (by simp)
  have hg1 := hf3.heap hh2.out (by simp)
  have hg2 := hh3.out
  have hn2 : w.heap.size ≤ w2.heap.size := by have := hs2.out; have := hs1.out; omega
  have hs1' := hs1.out
  have hs2' := hs2.out
  clear hh1 hh2 hh3 hf1 hf2 hf3 hs1 hs2 hs3
  obtain ⟨g0, hg0e⟩ : ∃ g, g = w.heap.size := ⟨_, rfl⟩
  obtain ⟨g1, hg1e⟩ : ∃ g, g = w1.heap.size := ⟨_, rfl⟩
  obtain ⟨g2, hg2e⟩ : ∃ g, g = w2.heap.size := ⟨_, rfl⟩
  rw [← hg0e] at hg0 hs1' hn2 ⊢
  rw [← hg1e] at hg1 hs1' hs2' ⊢
  rw [← hg2e] at hg2 hs2' hn2 ⊢
  have hne : g0 ≠ g2 := by omega
  have hx0 := cell_of_heap hg0
  have HG0E := Lib.hid hg0e
  clear hg1e hg2e hs1' hs2' hg0e
  rw [HS.out] at hx0
  obtain ⟨sa, sb, sc, sd, se, sf, sg, sh⟩ := s
  have hc0 : w3.cell? ⟨g0, 0, none⟩ = some (.int .u32 (sa : Int)) := hx0 0
  have hc1 : w3.cell? ⟨g0, 1, none⟩ = some (.int .u32 (sb : Int)) := hx0 1
  have hc2 : w3.cell? ⟨g0, 2, none⟩ = some (.int .u32 (sc : Int)) := hx0 2
  have hc3 : w3.cell? ⟨g0, 3, none⟩ = some (.int .u32 (sd : Int)) := hx0 3
  have hc4 : w3.cell? ⟨g0, 4, none⟩ = some (.int .u32 (se : Int)) := hx0 4
  have hc5 : w3.cell? ⟨g0, 5, none⟩ = some (.int .u32 (sf : Int)) := hx0 5
  have hc6 : w3.cell? ⟨g0, 6, none⟩ = some (.int .u32 (sg : Int)) := hx0 6
  have hc7 : w3.cell? ⟨g0, 7, none⟩ = some (.int .u32 (sh : Int)) := hx0 7
  clear hx0
  go_quiet (fail)

  go_wp2_with (first
    | (refine wpList_load_row rfl 88 _ rfl g1 rfl 88 B (0, 0) _ hg1 Tryz.underlying88 rfl HSB.out ?_)
    | (go_at_call 96; refine (HC.out _).mono ?_; rintro e w4 ⟨rfl, hf4⟩))
  have hf34 : Fr [] w w4 := (hfr.andDrewN nq).trans hf4 (by simp) (by simp)
  have hg0' : w4.heap[g0]? = some (.cells S 65 (0, 0)) := (((Fr.refl [] w3).andDrewN nq).trans hf4 (by simp) (n := []) (by simp)).heap hg0 (by simp)
  have hg2' : w4.heap[g2]? = some (.cells Z 65 (0, 0)) := (((Fr.refl [] w3).andDrewN nq).trans hf4 (by simp) (n := []) (by simp)).heap hg2 (by simp)
  have hr4 := hr.below hf34
  have hsl := sched_length bs
  obtain ⟨ws, hws⟩ : ∃ ws, ws = sched bs := ⟨_, rfl⟩
  rw [← hws] at hsl
  have HWS := Lib.hid hws
  have hidx0 := fun wx => run_index_nums wx ws hsl
  obtain ⟨T, hT⟩ : ∃ T, T = numsC ws := ⟨_, rfl⟩
  rw [← hws, ← hT]
  rw [← hT] at hidx0
  have HIX := Lib.hid hidx0
  clear hidx0 hT hws hc0 hc1 hc2 hc3 hc4 hc5 hc6 hc7 hg0 hg1 hg2 hfr hf4 hr
  go_loopw [5, 6, 7, 8, 9, 10, 11, 12, 35] (RoundRel w4 ws ⟨sa, sb, sc, sd, se, sf, sg, sh⟩) (fun _ _ _ _ _ _ _ _ i _ => 64 - (intOf i).toNat)
  case atStart => exact ⟨0, sa, sb, sc, sd, se, sf, sg, sh, by omega, rfl, rfl, rfl, rfl, rfl, rfl, rfl, rfl, rfl, rfl, Fr.refl _ _⟩
  case round =>
    obtain ⟨n, a, b, c, d, e, f, g, h, hn, hrn, rfl, rfl, rfl, rfl, rfl, rfl, rfl, rfl, rfl, hf⟩ := hrel
    by_cases hn64 : n < 64
    · have hd : decide ((n : Int) < 64) = true := decide_eq_true (by omega)
      have hok : (⟨a, b, c, d, e, f, g, h⟩ : St).ok := by rw [← hrn]; exact rnds_ok ws hsl _ hs n (by omega)
      have hnext := rnds_succ ws hsl n hn64 ⟨sa, sb, sc, sd, se, sf, sg, sh⟩
      rw [hrn, turnSt_eq] at hnext
      have hidx := HIX.out wr n hn64
      have hk := hr4.below hf n (by rw [kk_length]; exact hn64)
      obtain ⟨k, hkk⟩ : ∃ k, k = kk[n]'(by rw [kk_length]; exact hn64) := ⟨_, rfl⟩
      obtain ⟨x, hx⟩ : ∃ x, x = ws[n]'(by omega) := ⟨_, rfl⟩
      rw [← hkk, ← hx] at hnext
      rw [← hkk] at hk
      rw [← hx] at hidx
      have hn64i : (n : Int) < 64 := by omega
      have Q1 : ∀ wx, Calls Tryz.prog 97 #[.int .u32 e, .int .i64 6, .int .i64 11, .int .i64 25] wx fun r w' => r = .returned (.int .u32 (bigE e : Nat)) ∧ w' = wx := fun wx => flip_same (rotations_any e 6 11 25 wx hok.e (by decide) (by decide) (by decide))
      have Q2 : ∀ wx, Calls Tryz.prog 98 #[.int .u32 e, .int .u32 f, .int .u32 g] wx fun r w' => r = .returned (.int .u32 (chN e f g : Nat)) ∧ w' = wx := fun wx => flip_same (choose_any e f g wx hok.e hok.f hok.g)
      have Q3 : ∀ wx, Calls Tryz.prog 97 #[.int .u32 a, .int .i64 2, .int .i64 13, .int .i64 22] wx fun r w' => r = .returned (.int .u32 (bigA a : Nat)) ∧ wx = w' := fun wx => rotations_any a 2 13 22 wx hok.a (by decide) (by decide) (by decide)
      have Q4 : ∀ wx, Calls Tryz.prog 99 #[.int .u32 a, .int .u32 b, .int .u32 c] wx fun r w' => r = .returned (.int .u32 (majN a b c : Nat)) ∧ wx = w' := fun wx => majority_any a b c wx hok.a hok.b hok.c
      have Q1 := Lib.hid Q1
      have Q2 := Lib.hid Q2
      have Q3 := Lib.hid Q3
      have Q4 := Lib.hid Q4
      have HN := Lib.hid hnext
      clear hnext hkk hx hrn hok
      go_wp2_with fail
      go_quiet (first | (go_at_call 97; with_reducible refine Calls.quiet_of_same (Q1.out _)) | (go_at_call 98; with_reducible refine Calls.quiet_of_same (Q2.out _)))
      go_wp2_with (first
        | (go_at_call 97; with_reducible refine (Q3.out _).mono ?_; rintro r w5 ⟨rfl, rfl⟩)
        | (go_at_call 99; with_reducible refine (Q4.out _).mono ?_; rintro r w5 ⟨rfl, rfl⟩))
      go_roundw
      case rel => exact ⟨n + 1, _, _, _, _, _, _, _, _, by omega, HN.out, by go_num, by unfold xN yN; go_num, rfl, rfl, rfl, by unfold xN; go_num, rfl, rfl, rfl, hf.andDrewN nq⟩
      case measure => simp [intOf]; omega
    · have hd : decide ((n : Int) < 64) = false := decide_eq_false (by omega)
      have hx0 := cell_of_heap (hf.heap hg0' (by simp))
      rw [HS.out] at hx0
      have hc0 : wr.cell? ⟨g0, 0, none⟩ = some (.int .u32 (sa : Int)) := hx0 0
      have hc1 : wr.cell? ⟨g0, 1, none⟩ = some (.int .u32 (sb : Int)) := hx0 1
      have hc2 : wr.cell? ⟨g0, 2, none⟩ = some (.int .u32 (sc : Int)) := hx0 2
      have hc3 : wr.cell? ⟨g0, 3, none⟩ = some (.int .u32 (sd : Int)) := hx0 3
      have hc4 : wr.cell? ⟨g0, 4, none⟩ = some (.int .u32 (se : Int)) := hx0 4
      have hc5 : wr.cell? ⟨g0, 5, none⟩ = some (.int .u32 (sf : Int)) := hx0 5
      have hc6 : wr.cell? ⟨g0, 6, none⟩ = some (.int .u32 (sg : Int)) := hx0 6
      have hc7 : wr.cell? ⟨g0, 7, none⟩ = some (.int .u32 (sh : Int)) := hx0 7
      have hend : blockSt ⟨sa, sb, sc, sd, se, sf, sg, sh⟩ bs = combSt ⟨sa, sb, sc, sd, se, sf, sg, sh⟩ ⟨a, b, c, d, e, f, g, h⟩ := by
        rw [blockSt, ← HWS.out, ← hrn, show n = 64 from by omega]
      have hold : Z.size = (stC (blockSt ⟨sa, sb, sc, sd, se, sf, sg, sh⟩ bs)).size := by rw [HZ.out, stC_size, stC_size]
      have HG2 := Lib.hid (hf.heap hg2' (by simp))
      have HEND := Lib.hid hend
      have HOLD := Lib.hid hold
      have HSZ := Lib.hid (sizeN8 (blockSt ⟨sa, sb, sc, sd, se, sf, sg, sh⟩ bs))
      have HON := Lib.hid (stC_one (blockSt ⟨sa, sb, sc, sd, se, sf, sg, sh⟩ bs))
      clear hx0 hend hold hg0' hg2' hrn
      go_wp2_with (refine wpL_storeArr rfl 65 (.tmp 4) (.tmp 106) rfl g2 (stC (blockSt ⟨sa, sb, sc, sd, se, sf, sg, sh⟩ bs)) Z rfl (by rw [HEND.out]; rfl) 65 HG2.out HSZ.out HOLD.out HON.out ?_; intro w5 hh5 hf5 hs5)
      refine bodyPost_ret (v := .agg (stC (blockSt ⟨sa, sb, sc, sd, se, sf, sg, sh⟩ bs))) ?_ rfl ⟨rfl, (hf34.trans hf (by simp) (n := []) (by simp)).trans hf5 (by simp) (by simp; have := HG0E.out; omega)⟩
      exact results_cell_row rfl _ _ g2 65 (stC (blockSt ⟨sa, sb, sc, sd, se, sf, sg, sh⟩ bs)) (0, 0) _ rfl hh5.out Tryz.underlying65 rfl HSZ.out
end Go.Proofs.YtjlkcdmeiakkbaaGreatDoor

/-! Contracts of package sha: Begin, encode (split out of ShaD). -/
namespace Go.Proofs.YtjlkcdmeiakkbaaGreatDoor
open Go.RowKit

theorem begin_any (w : World) : Calls Tryz.prog 57 #[] w fun e w' => e = .returned (.agg (stC beginSt)) ∧ Fr [] w w' := by
  obtain ⟨Z, hZ⟩ : ∃ Z, Z = stC zeroSt := ⟨_, rfl⟩
  have hiz := infoN8
  rw [← hZ] at hiz
  have HI := Lib.hid hiz
  have HO := Lib.hid (show Z.size = (stC beginSt).size by rw [hZ, stC_size, stC_size])
  clear hiz hZ
  go_enter Tryz.func57, Tryz.ntmps57
  go_wp2_with (first
    | (refine wpL_newArr rfl 65 rfl Z HI.out ?_; intro w1 hh1 hf1 hs1)
    | (refine wpL_storeArr rfl 65 (.tmp 0) (.tmp 1) rfl w.heap.size (stC beginSt) Z rfl rfl 65 hh1.out (sizeN8 beginSt) HO.out (stC_one beginSt) ?_; intro w2 hh2 hf2 hs2))
  refine bodyPost_ret (v := .agg (stC beginSt)) ?_ rfl ⟨rfl, hf1.trans hf2 (by simp) (by simp)⟩
  exact results_cell_row rfl _ _ w.heap.size 65 (stC beginSt) (0, 0) _ rfl hh2.out Tryz.underlying65 rfl (sizeN8 beginSt)

theorem infoB32 : (Tryz.prog.info? 28).map (fun i => i.zero) = some (some (.agg (cellsB (List.replicate 32 0)).toArray)) := by kernel_rfl
theorem sizeB32 : (Tryz.prog.info? 28).map (·.size) = some 32 := by kernel_rfl
/-- The bytes of a state, k of them, and zeros behind them. -/
def encK (s : St) (k : Nat) : List UInt8 := (encSt s).take k ++ List.replicate (32 - k) 0
theorem encK_length (s : St) (k : Nat) (h : k ≤ 32) : (encK s k).length = 32 := by simp [encK, encSt_length]; omega
theorem encK_set (s : St) (k : Nat) (h : k < 32) : (encK s k).set k ((encSt s)[k]'(by rw [encSt_length]; exact h)) = encK s (k + 1) := by
  have hl : ((encSt s).take k).length = k := by rw [List.length_take, encSt_length]; omega
  rw [encK, encK, show 32 - k = (32 - (k + 1)) + 1 from by omega, List.replicate_succ, List.set_append_right _ _ (by omega), hl, Nat.sub_self, List.set_cons_zero, List.take_succ_eq_append_getElem (by rw [encSt_length]; exact h), List.append_assoc]
  rfl
theorem encK_end (s : St) : encK s 32 = encSt s := by
  rw [encK, List.take_of_length_le (by rw [encSt_length]; exact Nat.le_refl _)]
  simp
theorem stC_list (s : St) (i : Nat) (h : i < 8) : (stC s)[i]? = some (.int .u32 ((s.list[i]'(by rw [St.list_length]; exact h) : Nat) : Int)) := by
  match i, h with
  | 0, _ | 1, _ | 2, _ | 3, _ | 4, _ | 5, _ | 6, _ | 7, _ => rfl
theorem enc_put (s : St) (k : Nat) (h : k < 32) (x : Nat) (hx : x = s.list[k / 4]'(by rw [St.list_length]; omega)) : (((encSt s)[k]'(by rw [encSt_length]; exact h)).toNat : Int) = (x : Int) / 2 ^ (24 - 8 * (k % 4)) % 256 := by
  rw [encSt_get s k h, ← hx]
  have e : 256 ^ (3 - k % 4) = 2 ^ (24 - 8 * (k % 4)) := by
    have hr : k % 4 < 4 := Nat.mod_lt _ (by decide)
    rw [show (256 : Nat) = 2 ^ 8 from rfl, ← Nat.pow_mul]
    congr 1
    omega
  rw [e, UInt8.toNat_ofNat']
  simp

def EncRel (w : World) (g0 g1 g2 : Nat) (S Z : Array Value) (L : List UInt8) (wr : World) : Prop :=
  wr.heap[g0]? = some (.cells S 65 (0, 0)) ∧ wr.heap[g1]? = some (.cells Z 28 (0, 0)) ∧ wr.heap[g2]? = some (.cells (cellsB L).toArray 28 (0, 0)) ∧ Fr [] w wr
set_option maxRecDepth 100000 in
theorem encode_any (s : St) (w : World) :
    Calls Tryz.prog 60 #[.agg (stC s)] w fun e w' => e = .returned (.agg (cellsB (encSt s)).toArray) ∧ Fr [] w w' := by
  obtain ⟨S, hS⟩ : ∃ S, S = stC s := ⟨_, rfl⟩
  obtain ⟨Z, hZ⟩ : ∃ Z, Z = (cellsB (List.replicate 32 0)).toArray := ⟨_, rfl⟩
  have hiz := infoB32
  have hZ0 : Z = (cellsB (encK s 0)).toArray := by rw [hZ]; simp [encK]
  have hZs : Z.size = (cellsB (encSt s)).toArray.size := by rw [hZ]; simp [cellsB, encSt_length]
  rw [← hS]
  rw [← hZ] at hiz
  have HZ := Lib.hid hZ0
  have HZS := Lib.hid hZs
  have HS := Lib.hid hS
  have HI := Lib.hid hiz
  have HL := Lib.hid (stC_list s)
  clear hZ hiz hS hZ0 hZs
  go_enter Tryz.func60, Tryz.ntmps60
  go_wp2_with (first
    | (refine wpL_boxArr rfl 65 _ rfl S rfl ?_; intro w1 hh1 hf1 hs1; refine wpL_newArr rfl 28 rfl Z HI.out ?_; intro w2 hh2 hf2 hs2)
    | (refine wpL_newArr rfl 28 rfl Z HI.out ?_; intro w3 hh3 hf3 hs3))
  have hfr : Fr [] w w3 := (hf1.trans hf2 (by simp) (n := []) (by simp)).trans hf3 (by simp) (by simp)
  have hg0 := (hf2.trans hf3 (by simp) (n := []) (by simp)).heap hh1.out (by simp)
  have hg1 := hf3.heap hh2.out (by simp)
  have hg2 := hh3.out
  have hn1 : w.heap.size ≤ w1.heap.size := by have := hs1.out; omega
  have hn2 : w.heap.size ≤ w2.heap.size := by have := hs2.out; have := hs1.out; omega
  have hne1 : w1.heap.size ≠ w2.heap.size := by have := hs2.out; omega
  have hne0 : w.heap.size ≠ w2.heap.size := by have := hs2.out; have := hs1.out; omega
  clear hh1 hh2 hh3 hf1 hf2 hf3 hs1 hs2 hs3
  obtain ⟨g0, hg0e⟩ : ∃ g, g = w.heap.size := ⟨_, rfl⟩
  obtain ⟨g1, hg1e⟩ : ∃ g, g = w1.heap.size := ⟨_, rfl⟩
  obtain ⟨g2, hg2e⟩ : ∃ g, g = w2.heap.size := ⟨_, rfl⟩
  rw [← hg0e] at hg0 hn1 hn2 hne0 ⊢
  rw [← hg1e] at hg1 hn1 hne1 ⊢
  rw [← hg2e] at hg2 hn2 hne0 hne1 ⊢
  have HG0E := Lib.hid hg0e
  clear hg1e hg2e hg0e
  go_loopw [5] (fun i wr => ∃ k : Nat, k ≤ 32 ∧ i = .int .i64 (k : Int) ∧ EncRel w g0 g1 g2 S Z (encK s k) wr) (fun i _ => 32 - (intOf i).toNat)
  case atStart => exact ⟨0, by omega, rfl, hg0, hg1, by rw [← HZ.out]; exact hg2, hfr⟩
  case round =>
    clear hg0 hg1 hg2 hfr
    obtain ⟨k, hk, rfl, hr0, hr1, hr2, hf⟩ := hrel
    by_cases hk32 : k < 32
    · have hd : decide ((k : Int) < 32) = true := decide_eq_true (by omega)
      have hc := HL.out (k / 4) (by omega)
      obtain ⟨x, hx⟩ : ∃ x, x = s.list[k / 4]'(by rw [St.list_length]; omega) := ⟨_, rfl⟩
      rw [← hx, ← HS.out, ← cell_of_heap hr0] at hc
      have hput := enc_put s k hk32 x hx
      have hset := encK_set s k hk32
      obtain ⟨c, hcc⟩ : ∃ c, c = (encSt s)[k]'(by rw [encSt_length]; exact hk32) := ⟨_, rfl⟩
      rw [← hcc] at hput hset
      have hck : wr.cell? ⟨g2, k, none⟩ = some (.int .u8 (((encK s k)[k]'(by rw [encK_length _ _ hk]; exact hk32)).toNat : Int)) := by rw [cell_of_heap hr2, bytesC_get]
      have hfree := free_of_heap hr2 k
      have h0 : ∀ v, (wr.setCell ⟨g2, k, none⟩ v).heap[g0]? = some (.cells S 65 (0, 0)) := fun v => (Fr.set0 wr g2 k v).heap hr0 (by simpa using hne0)
      have h1 : ∀ v, (wr.setCell ⟨g2, k, none⟩ v).heap[g1]? = some (.cells Z 28 (0, 0)) := fun v => (Fr.set0 wr g2 k v).heap hr1 (by simpa using hne1)
      have h2 : ∀ z : Int, z = (c.toNat : Int) → (wr.setCell ⟨g2, k, none⟩ (.int .u8 z)).heap[g2]? = some (.cells (cellsB (encK s (k + 1))).toArray 28 (0, 0)) := by
        rintro z rfl
        rw [heap_setCell_same hr2, bytesC_set, hset]
      have h3 : ∀ v, Fr [] w (wr.setCell ⟨g2, k, none⟩ v) := fun v => hf.trans (Fr.set0 wr g2 k v) (by simp) (by simp; have := HG0E.out; omega)
      have hsh : 8 * (k % 4) ≤ 24 := by omega
      have H0 := Lib.hid h0
      have H1 := Lib.hid h1
      have H2 := Lib.hid h2
      have H3 := Lib.hid h3
      have HP := Lib.hid hput
      clear h0 h1 h2 h3 hset hcc hx hr0 hr1 hr2 hput
      go_wp2_with fail
      exact ⟨⟨k + 1, by omega, by go_num, H0.out _, H1.out _, H2.out _ (by rw [HP.out]), H3.out _⟩, by simp [intOf]; omega⟩
    · have hd : decide ((k : Int) < 32) = false := decide_eq_false (by omega)
      rw [show k = 32 from by omega, encK_end] at hr2
      have hsz : (Tryz.prog.info? 28).map (·.size) = some (cellsB (encSt s)).toArray.size := by rw [bytesC_size, encSt_length]; exact sizeB32
      have hone := bytesC_one (encSt s)
      obtain ⟨L, hL⟩ : ∃ L, L = (cellsB (encSt s)).toArray := ⟨_, rfl⟩
      rw [← hL] at hr2 hsz hone HZS
      have H1 := Lib.hid hr1
      have H2 := Lib.hid hr2
      have HSZ := Lib.hid hsz
      have HON := Lib.hid hone
      clear hr0 hr1 hr2 hsz hone
      go_wp2_with (refine wpList_load_row rfl 28 _ rfl g2 rfl 28 L (0, 0) _ H2.out Tryz.underlying28 rfl HSZ.out ?_; refine wpL_storeArr rfl 28 (.tmp 2) (.tmp 21) rfl g1 L Z rfl rfl 28 H1.out HSZ.out HZS.out HON.out ?_; intro w4 hh4 hf4 hs4)
      refine bodyPost_ret (v := .agg L) ?_ rfl ⟨by rw [hL], hf.trans hf4 (by simp) (by simp; have := HG0E.out; omega)⟩
      exact results_cell_row rfl _ _ g1 28 L (0, 0) _ rfl hh4.out Tryz.underlying28 rfl HSZ.out
end Go.Proofs.YtjlkcdmeiakkbaaGreatDoor

/-! Contract of package sha's Fill. -/
namespace Go.Proofs.YtjlkcdmeiakkbaaGreatDoor
open Go.RowKit

/-- The padding when t bytes of the length have been written, the last one first. -/
def fillT (x z t : Nat) : List UInt8 := 128 :: (List.replicate z 0 ++ (List.range 8).map fun i => if 8 - t ≤ i then UInt8.ofNat (x / 256 ^ (7 - i) % 256) else 0)
theorem fillT_length (x z t : Nat) : (fillT x z t).length = z + 9 := by simp [fillT]
theorem fillT_zero (x z : Nat) : fillT x z 0 = (List.replicate (z + 9) (0 : UInt8)).set 0 128 := by
  have e : ((List.range 8).map fun i => if 8 - 0 ≤ i then UInt8.ofNat (x / 256 ^ (7 - i) % 256) else 0) = List.replicate 8 (0 : UInt8) := by
    apply List.ext_getElem
    · simp
    · intro i h1 h2
      have : i < 8 := by simpa using h1
      rw [List.getElem_replicate, List.getElem_map, List.getElem_range, if_neg (by omega)]
  rw [fillT, e, List.replicate_append_replicate]
  rfl
theorem fillT_set (x z t : Nat) (ht : t < 8) : (fillT x z t).set (z + 8 - t) (UInt8.ofNat (x / 256 ^ t % 256)) = fillT x z (t + 1) := by
  rw [fillT, fillT, show z + 8 - t = (z + (7 - t)) + 1 from by omega, List.set_cons_succ, List.set_append_right _ _ (by simp), List.length_replicate, show z + (7 - t) - z = 7 - t from by omega]
  congr 2
  apply List.ext_getElem
  · simp
  · intro i h1 h2
    have h8 : i < 8 := by simpa using h1
    rw [List.getElem_set]
    simp only [List.getElem_map, List.getElem_range]
    by_cases e : 7 - t = i
    · subst e
      rw [if_pos rfl, if_pos (by omega), show 7 - (7 - t) = t from by omega]
    · rw [if_neg e]
      by_cases h : 8 - t ≤ i
      · rw [if_pos h, if_pos (by omega)]
      · rw [if_neg h, if_neg (by omega)]
theorem fillT_end (n t : Nat) (h0 : n * 8 % 18446744073709551616 / 256 ^ t = 0) : fillT (n * 8 % 18446744073709551616) (zerosN n) t = fillN n := by
  rw [fillT, fillN, be8]
  congr 2
  apply List.map_congr_left
  intro i hi
  rw [List.mem_range] at hi
  by_cases h : 8 - t ≤ i
  · rw [if_pos h]
  · rw [if_neg h]
    have hle : 256 ^ t ≤ 256 ^ (7 - i) := Nat.pow_le_pow_right (by decide) (by omega)
    have : n * 8 % 18446744073709551616 / 256 ^ (7 - i) = 0 := by
      rw [Nat.div_eq_zero_iff_lt (Nat.pow_pos (by decide))] at h0 ⊢
      omega
    rw [this]
    rfl

def FillRel (w : World) (g x z : Nat) (vs vi : Value) (wr : World) : Prop :=
  ∃ t y : Nat, t ≤ 8 ∧ y = x / 256 ^ t ∧ vs = .int .u64 (y : Int) ∧ vi = .int .i64 ((z + 8 - t : Nat) : Int) ∧ wr.heap[g]? = some (.cells (cellsB (fillT x z t)).toArray 5 (0, 0)) ∧ Fr [] w wr
set_option maxRecDepth 100000 in
theorem fill_any (n : Nat) (w : World) (hn : n < 1000000000000) :
    Calls Tryz.prog 59 #[.int .i64 n] w fun e w' => e = .returned (.slice (some ⟨w.heap.size, 0, none⟩) (zerosN n + 9) (zerosN n + 9)) ∧ w'.heap[w.heap.size]? = some (.cells (cellsB (fillN n)).toArray 5 (0, 0)) ∧ Fr [] w w' := by
  obtain ⟨i, hi, hz0, hz1, hz2⟩ := info_parts infoB
  have hd : decide ((n : Int) < 0) = false := decide_eq_false (by omega)
  obtain ⟨z, hz⟩ : ∃ z, z = zerosN n := ⟨_, rfl⟩
  have hz64 : z < 64 := by rw [hz, zerosN]; exact Nat.mod_lt _ (by decide)
  have hlen : (1 + (128 - ((n : Int) % 64 + 1 + 8)) % 64 + 8) = ((z + 9 : Nat) : Int) := by rw [hz, zerosN]; omega
  rw [← hz]
  have HZ := Lib.hid hz
  have HLEN := Lib.hid hlen
  clear hz hlen
  go_enter Tryz.func59, Tryz.ntmps59
  go_wp2_with (refine wpL_make rfl (.tmp 19) (.tmp 19) 45 rfl 5 i (.int .u8 0) 1 Tryz.underlying45 hi hz0 hz1 hz2 rfl (z + 9) (congrArg (Value.int IntKind.i64) HLEN.out) (congrArg (Value.int IntKind.i64) HLEN.out) (by omega) (by simp [maxLen]; omega) ?_; intro w1 hh1 hf1 hs1; have hc0 : w1.cell? ⟨w.heap.size, 0, none⟩ = some (.int .u8 0) := (by rw [cell_of_heap hh1.out]; simp); have hfree0 := free_of_heap hh1.out 0)
  clear hc0 hfree0
  obtain ⟨g, hg⟩ : ∃ g, g = w.heap.size := ⟨_, rfl⟩
  have hh2 : (w1.setCell ⟨g, 0, none⟩ (.int .u8 128)).heap[g]? = some (.cells (cellsB (fillT (n * 8 % 18446744073709551616) z 0)).toArray 5 (0, 0)) := by
    have e : List.replicate (z + 9) (Value.int .u8 0) = cellsB (List.replicate (z + 9) 0) := by simp [cellsB]
    rw [hg, heap_setCell_same hh1.out, fillT_zero, e, ← bytesC_set]
    rfl
  have hf2 : Fr [] w (w1.setCell ⟨g, 0, none⟩ (.int .u8 128)) := hf1.trans (Fr.set0 w1 g 0 _) (by simp) (by simp; omega)
  have hx : n * 8 % 18446744073709551616 = n * 8 := Nat.mod_eq_of_lt (by omega)
  have HE := Lib.hid (fillT_end n)
  rw [hx] at hh2 HE
  rw [← HZ.out] at HE
  rw [← hg] at ⊢
  have HG := Lib.hid hg
  clear hx hh1 hf1 hs1 hg
  go_loopw [6, 7] (FillRel w g (n * 8) z) (fun _ i _ => (intOf i).toNat)
  case atStart => exact ⟨0, n * 8, by omega, by simp, by go_num, by go_num, hh2, hf2⟩
  case round =>
    clear hh2 hf2
    obtain ⟨t, y, ht, hy, rfl, rfl, hr, hf⟩ := hrel
    by_cases hy0 : 0 < y
    · have hd2 : decide (0 < (y : Int)) = true := decide_eq_true (by omega)
      have ht8 : t < 8 := by
        rcases Nat.lt_or_ge t 8 with q | q
        · exact q
        · obtain rfl : t = 8 := by omega
          rw [Nat.div_eq_of_lt (by omega)] at hy
          omega
      have hset := fillT_set (n * 8) z t ht8
      rw [← hy] at hset
      have hnext : y / 256 = n * 8 / 256 ^ (t + 1) := by rw [hy, Nat.pow_succ, Nat.div_div_eq_div_mul]
      obtain ⟨k, hk⟩ : ∃ k, k = z + 8 - t := ⟨_, rfl⟩
      rw [← hk] at hset ⊢
      have hk1 : k < z + 9 := by omega
      have hk0 : 0 < k := by omega
      have hkn : k - 1 = z + 8 - (t + 1) := by omega
      have hcell : wr.cell? ⟨g, k, none⟩ = some (.int .u8 (((fillT (n * 8) z t)[k]'(by rw [fillT_length]; exact hk1)).toNat : Int)) := by rw [cell_of_heap hr, bytesC_get]
      have hfree := free_of_heap hr k
      have h2 : ∀ v : Int, v = ((y % 256 : Nat) : Int) → (wr.setCell ⟨g, k, none⟩ (.int .u8 v)).heap[g]? = some (.cells (cellsB (fillT (n * 8) z (t + 1))).toArray 5 (0, 0)) := by
        rintro v rfl
        have e : ((y % 256 : Nat) : Int) = ((UInt8.ofNat (y % 256)).toNat : Int) := by rw [UInt8.toNat_ofNat']; omega
        rw [heap_setCell_same hr, e, bytesC_set, hset]
      have h3 : ∀ v, Fr [] w (wr.setCell ⟨g, k, none⟩ v) := fun v => hf.trans (Fr.set0 wr g k v) (by simp) (by simp; have := HG.out; omega)
      have H2 := Lib.hid h2
      have H3 := Lib.hid h3
      have HN := Lib.hid hnext
      have HKN := Lib.hid hkn
      clear h2 h3 hset hnext hy hk hr hkn
      go_wp2_with fail
      exact ⟨⟨t + 1, y / 256, by omega, HN.out, by go_num, by rw [← HKN.out]; go_num, H2.out _ (by go_num), H3.out _⟩, by simp [intOf]; omega⟩
    · have hd2 : decide (0 < (y : Int)) = false := decide_eq_false (by omega)
      have HR := Lib.hid hr
      have HY := Lib.hid hy
      clear hr hy
      go_wp2_with fail
      go_ret
      refine ⟨by rw [← HG.out]; rfl, ?_, hf⟩
      rw [← HE.out t (by rw [← HY.out]; omega)]
      have hout := HR.out
      rw [HG.out] at hout
      exact hout
end Go.Proofs.YtjlkcdmeiakkbaaGreatDoor
