/- The document's answers turn, move, first, known, words. -/
import Derived.Test.YtjiighgabfkmpaaDoorShaJ
namespace Go.Proofs.YtjiighgabfkmpaaDoor
open Go.RowKit

theorem ref_turn_any (v n : Nat) (w : World) (hv : v < 4294967296) (hn : n ≤ 32) :
    Calls Tryd.prog 27 #[.int .u32 v, .int .i64 n] w fun e w' => e = .returned (.int .u32 (rotN v n : Nat)) ∧ w = w' := by
  go_enter Tryd.func27, Tryd.ntmps27
  go_wp2_with fail
  go_loop [0, 5] (fun s i => ∃ k x : Nat, k ≤ n ∧ i = .int .i64 (k : Int) ∧ s = .int .u32 (x : Int) ∧ x = rotN v k) (fun _ i => n - (intOf i).toNat)
  case atStart => exact ⟨0, v, Nat.zero_le _, rfl, rfl, (rotN_zero v).symm⟩
  case round =>
    obtain ⟨k, x, hk, rfl, rfl, hx⟩ := hrel
    by_cases hkn : k < n
    · have hd : decide (k < n) = true := decide_eq_true hkn
      have hnext := rotN_succ v k (by omega)
      have hlt := rotN_lt v (k + 1) hv (by omega)
      have hxl := rotN_lt v k hv (by omega)
      rw [← hx] at hnext hxl
      rw [← hnext] at hlt
      have HN := Lib.hid hnext
      clear hnext hx
      go_wp2_with fail
      go_round
      case rel => exact ⟨k + 1, x / 2 + x % 2 * 2147483648, by omega, by go_num, by go_num, HN.out⟩
      case measure => simp [intOf]; omega
    · have hd : decide (k < n) = false := decide_eq_false hkn
      have HX := Lib.hid hx
      clear hx
      go_wp2_with fail
      go_ret
      exact ⟨by rw [HX.out, show k = n from by omega]; rfl, rfl⟩

theorem ref_move_any (v n : Nat) (w : World) (hv : v < 4294967296) (hn : n ≤ 32) :
    Calls Tryd.prog 38 #[.int .u32 v, .int .i64 n] w fun e w' => e = .returned (.int .u32 ((v / 2 ^ n : Nat) : Int)) ∧ w = w' := by
  go_enter Tryd.func38, Tryd.ntmps38
  go_wp2_with fail
  go_loop [0, 5] (fun s i => ∃ k x : Nat, k ≤ n ∧ i = .int .i64 (k : Int) ∧ s = .int .u32 (x : Int) ∧ x = v / 2 ^ k) (fun _ i => n - (intOf i).toNat)
  case atStart => exact ⟨0, v, Nat.zero_le _, rfl, rfl, by simp⟩
  case round =>
    obtain ⟨k, x, hk, rfl, rfl, hx⟩ := hrel
    by_cases hkn : k < n
    · have hd : decide (k < n) = true := decide_eq_true hkn
      have hnext : x / 2 = v / 2 ^ (k + 1) := by rw [hx, Nat.pow_succ, Nat.div_div_eq_div_mul]
      have hxl : x < 4294967296 := by rw [hx]; exact Nat.lt_of_le_of_lt (Nat.div_le_self _ _) hv
      have HN := Lib.hid hnext
      clear hnext hx
      go_wp2_with fail
      go_round
      case rel => exact ⟨k + 1, x / 2, by omega, by go_num, by go_num, HN.out⟩
      case measure => simp [intOf]; omega
    · have hd : decide (k < n) = false := decide_eq_false hkn
      have HX := Lib.hid hx
      clear hx
      go_wp2_with fail
      go_ret
      exact ⟨by rw [HX.out, show k = n from by omega]; rfl, rfl⟩

theorem ref_first_any (w : World) : Calls Tryd.prog 21 #[] w fun e w' => e = .returned (.agg (stC beginSt)) ∧ Fr [] w w' := by
  obtain ⟨Z, hZ⟩ : ∃ Z, Z = stC zeroSt := ⟨_, rfl⟩
  have hiz := infoN8
  rw [← hZ] at hiz
  have HI := Lib.hid hiz
  have HO := Lib.hid (show Z.size = (stC beginSt).size by rw [hZ, stC_size, stC_size])
  clear hiz hZ
  go_enter Tryd.func21, Tryd.ntmps21
  go_wp2_with (first
    | (refine wpL_newArr rfl 29 rfl Z HI.out ?_; intro w1 hh1 hf1 hs1)
    | (refine wpL_storeArr rfl 29 (.tmp 0) (.tmp 1) rfl w.heap.size (stC beginSt) Z rfl rfl 29 hh1.out (sizeN8 beginSt) HO.out (stC_one beginSt) ?_; intro w2 hh2 hf2 hs2))
  refine bodyPost_ret (v := .agg (stC beginSt)) ?_ rfl ⟨rfl, hf1.trans hf2 (by simp) (by simp)⟩
  exact results_cell_row rfl _ _ w.heap.size 29 (stC beginSt) (0, 0) _ rfl hh2.out Tryd.underlying29 rfl (sizeN8 beginSt)

theorem sizeKK : (Tryd.prog.info? 46).map (·.size) = some (numsC kk).size := by rw [numsC_size, kk_length]; exact sizeN64
set_option maxRecDepth 100000 in
theorem ref_known_any (w : World) : Calls Tryd.prog 26 #[] w fun e w' => e = .returned (.agg (numsC kk)) ∧ Fr [] w w' := by
  obtain ⟨Z, hZ⟩ : ∃ Z, Z = numsC (List.replicate 64 0) := ⟨_, rfl⟩
  have hiz := infoN64
  rw [← hZ] at hiz
  have HI := Lib.hid hiz
  have hO : Z.size = (numsC kk).size := by rw [hZ, numsC_size, numsC_size, kk_length, List.length_replicate]
  have hS := sizeKK
  have hN := numsC_one kk
  obtain ⟨K, hK⟩ : ∃ K, K = numsC kk := ⟨_, rfl⟩
  rw [← hK] at hO hS hN ⊢
  have HO := Lib.hid hO
  have HS := Lib.hid hS
  have HN := Lib.hid hN
  have HK := Lib.hid hK
  clear hiz hZ hO hS hN hK
  go_enter Tryd.func26, Tryd.ntmps26
  go_wp2_with (first
    | (refine wpL_newArr rfl 46 rfl Z HI.out ?_; intro w1 hh1 hf1 hs1)
    | (refine wpL_val rfl (.agg (numsC kk)) (by kernel_rfl) ?_; rw [← HK.out]; refine wpL_storeArr rfl 46 (.tmp 0) (.tmp 1) rfl w.heap.size K Z rfl rfl 46 hh1.out HS.out HO.out HN.out ?_; intro w2 hh2 hf2 hs2))
  refine bodyPost_ret (v := .agg K) ?_ rfl ⟨rfl, hf1.trans hf2 (by simp) (by simp)⟩
  exact results_cell_row rfl _ _ w.heap.size 46 K (0, 0) _ rfl hh2.out Tryd.underlying46 rfl HS.out
end Go.Proofs.YtjiighgabfkmpaaDoor
