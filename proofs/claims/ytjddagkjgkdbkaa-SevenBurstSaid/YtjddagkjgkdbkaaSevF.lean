/- The document's answer Pack. -/
import Derived.Test.YtjddagkjgkdbkaaSevE
namespace Go.Proofs.Ytjddagkjgkdbkaa
open Go.RowKit

theorem group_next (N i r : Nat) : N / 2 ^ i % 2 ^ (r + 1) = N / 2 ^ i % 2 ^ r + N / 2 ^ (i + r) % 2 * 2 ^ r := by
  have := mod_pow_split (N / 2 ^ i) 1 r
  simp only [Nat.one_mul, Nat.pow_one] at this
  rw [this, Nat.div_div_eq_div_mul, ← Nat.pow_add]
theorem pack_cell (N q c : Nat) (h : c = 128 + N / 2 ^ (7 * q) % 2 ^ 7) : cellsB (packN N q) ++ [.int .u8 (c : Int)] = cellsB (packN N (q + 1)) := by
  rw [packN_succ, cellsB_append]
  congr 1
  have h2 : N / 2 ^ (7 * q) % 128 < 128 := Nat.mod_lt _ (by decide)
  have h3 : ((UInt8.ofNat (N / 2 ^ (7 * q) % 128 + 128)).toNat : Int) = (c : Int) := by
    rw [UInt8.toNat_ofNat']
    simp only [show (2 : Nat) ^ 7 = 128 from rfl] at h
    omega
  show _ = [Value.int .u8 ((UInt8.ofNat (N / 2 ^ (7 * q) % 128 + 128)).toNat : Int)]
  rw [h3]
def RPOut (w : World) (N n : Nat) (s i : Value) (wr : World) : Prop :=
  ∃ q x : Nat, q ≤ lenP n ∧ i = .int .i64 (x : Int) ∧ x = 7 * q ∧ wr.ownsRow w.heap.size 5 1 s q (cellsB (packN N q)) ∧ Fr [] w wr
def RPIn (N i : Nat) (c p k : Value) : Prop :=
  ∃ r x y z : Nat, r ≤ 7 ∧ c = .int .i64 (x : Int) ∧ p = .int .i64 (y : Int) ∧ k = .int .i64 (z : Int) ∧ z = i + r ∧ x = 128 + N / 2 ^ i % 2 ^ r ∧ y = 2 ^ r
set_option maxRecDepth 100000 in
theorem ref_pack_any (bs : List UInt8) (sv : Value) (w : World) (h : bytesAt w sv bs) (hl : bs.length ≤ 1000000) :
    Calls Try.prog 7 #[sv] w (Ret fun v w' => bytesAt w' v (packOf bs) ∧ Fr [] w w') := by
  obtain ⟨ti, hi, hz0, hz1, hz2⟩ := info_parts infoB
  have HB := Lib.hid (bits_any bs sv w h hl)
  obtain ⟨a0, c0, rfl, hle, hmx⟩ := h.form
  simp only [maxLen] at hmx
  have hN := le_lt2 bs
  have HPK := Lib.hid (show packOf bs = packN (le bs) (lenP bs.length) from rfl)
  obtain ⟨N, hNN⟩ : ∃ N, N = le bs := ⟨_, rfl⟩
  rw [← hNN] at HB hN HPK
  obtain ⟨n, hn⟩ : ∃ n, n = bs.length := ⟨_, rfl⟩
  rw [← hn] at HB hN HPK hl ⊢
  clear hNN
  have HNN := Lib.hid hn
  have HN := Lib.hid hN
  clear h hN hle hn
  go_enter Try.func7, Try.ntmps7
  go_wp2_with (go_at_call 14; refine HB.out.mono ?_; rintro e w1 ⟨v, rfl, hb, hf1⟩)
  obtain ⟨T, hT⟩ : ∃ T, T = 8 * n := ⟨_, rfl⟩
  rw [← hT] at hb
  have HT := Lib.hid hT
  have HNT := Lib.hid (show N < 2 ^ T by rw [hT]; exact HN.out)
  have hTl : T ≤ 8000000 := by omega
  clear hT
  obtain ⟨a3, c3, rfl, hle3, hmx3⟩ := hb.form
  simp only [maxLen] at hmx3
  rw [bitsN_length] at hle3 ⊢
  have HBT := Lib.hid hb
  clear hb
  go_loopw [4, 5] (RPOut w1 N n) (fun _ s _ => 8000007 - (intOf s).toNat)
  case atStart => exact ⟨0, 0, Nat.zero_le _, rfl, rfl, World.ownsRow_nil _ _ _ _, Fr.refl _ _⟩
  case round =>
    obtain ⟨q, x, hq, rfl, hx, hrow, hf⟩ := hrel
    obtain ⟨a4, c4, rfl⟩ := owns_slice hrow
    have HR := Lib.hid hrow
    have HX := Lib.hid hx
    have HFR := Lib.hid hf
    by_cases hxT : x < T
    · have hd : decide (x < T) = true := decide_eq_true hxT
      have hq1 : q + 1 ≤ lenP n := by have := HT.out; simp only [lenP]; omega
      have hql : q ≤ 8000000 := by omega
      have HQ1 := Lib.hid hq1
      clear hrow hx hf hq1 hq
      go_wp2_with fail
      go_loop [6, 7, 8] (RPIn N x) (fun _ _ s => x + 7 - (intOf s).toNat)
      case atStart => exact ⟨0, 128, 1, x, by omega, rfl, rfl, rfl, rfl, by simp [Nat.mod_one], rfl⟩
      case round =>
        obtain ⟨r, cc, y, z, hr, rfl, rfl, rfl, hz, hc, hy⟩ := hrel
        have HZ := Lib.hid hz
        have HC := Lib.hid hc
        have HY := Lib.hid hy
        have hnext := group_next N x r
        rw [← hz] at hnext
        have HN2 := Lib.hid hnext
        have hy128 : y ≤ 128 := by rw [hy]; exact Nat.le_trans (pow_le2 hr) (by decide)
        have hc256 : cc < 256 := by
          have : N / 2 ^ x % 2 ^ r < 2 ^ r := Nat.mod_lt _ (Nat.pow_pos (by decide))
          omega
        clear hz hc hy hnext
        by_cases hr7 : r < 7
        · have hd2 : decide ((z : Int) < (x : Int) + 7) = true := decide_eq_true (by have := HZ.out; omega)
          have hz9 : z ≤ 9000000 := by have := HZ.out; omega
          by_cases hzT : z < T
          · have hd3 : decide (z < T) = true := decide_eq_true hzT
            obtain ⟨b, off, rfl, hcell⟩ := byteAt (HBT.out.below HFR.out) z (by rw [bitsN_length]; exact hzT)
            rw [bitsN_get N T z hzT, UInt8.toNat_ofNat'] at hcell
            have hbl := Nat.mod_lt (N / 2 ^ z) (show 2 > 0 by decide)
            obtain ⟨B, hB⟩ : ∃ B, B = N / 2 ^ z % 2 := ⟨_, rfl⟩
            have HB := Lib.hid hB
            rw [← hB] at hbl
            rw [← hB, Nat.mod_eq_of_lt (by omega)] at hcell
            clear hB
            by_cases hb1 : B = 1
            · have hd4 : ((B : Int) == 1) = true := by rw [beq_iff_eq]; omega
              have HB1 := Lib.hid hb1
              clear hb1
              go_wp2_with fail
              exact ⟨⟨r + 1, cc + y, 2 * y, z + 1, by omega, by go_num, by go_num, by go_num, by rw [HZ.out]; omega, by rw [HN2.out, ← HB.out, HB1.out, HC.out, HY.out, Nat.one_mul, Nat.add_assoc], by rw [HY.out, Nat.pow_succ, Nat.mul_comm]⟩, by have := HZ.out; simp [intOf]; omega⟩
            · have hb0 : B = 0 := by omega
              have hd4 : ((B : Int) == 1) = false := by rw [beq_eq_false_iff_ne]; omega
              have HB1 := Lib.hid hb0
              clear hb1 hb0
              go_wp2_with fail
              exact ⟨⟨r + 1, cc, 2 * y, z + 1, by omega, by go_num, by go_num, by go_num, by rw [HZ.out]; omega, by rw [HN2.out, ← HB.out, HB1.out, HC.out, Nat.zero_mul, Nat.add_zero], by rw [HY.out, Nat.pow_succ, Nat.mul_comm]⟩, by have := HZ.out; simp [intOf]; omega⟩
          · have hd3 : decide (z < T) = false := decide_eq_false hzT
            have hB0 : N / 2 ^ z % 2 = 0 := by rw [Nat.div_eq_of_lt (Nat.lt_of_lt_of_le HNT.out (pow_le2 (by omega)))]
            have HB1 := Lib.hid hB0
            clear hB0
            go_wp2_with fail
            exact ⟨⟨r + 1, cc, 2 * y, z + 1, by omega, by go_num, by go_num, by go_num, by rw [HZ.out]; omega, by rw [HN2.out, HB1.out, HC.out, Nat.zero_mul, Nat.add_zero], by rw [HY.out, Nat.pow_succ, Nat.mul_comm]⟩, by have := HZ.out; simp [intOf]; omega⟩
        · obtain rfl : r = 7 := by omega
          have hd2 : decide ((z : Int) < (x : Int) + 7) = false := decide_eq_false (by have := HZ.out; omega)
          have hpc := pack_cell N q cc (by rw [HC.out, HX.out])
          have HPC := Lib.hid hpc
          have hsz := HFR.out.size
          clear hpc
          go_wp2_with (at_builtin; refine wpL_append1 rfl (.tmp 40) (.tmp 43) 22 rfl w1.heap.size 5 ti (.int .u8 0) 1 Try.underlying22 hi hz0 hz1 hz2 rfl (.slice a4 q c4) q (cellsB (packN N q)) rfl HR.out _ rfl rfl (by omega) (by simp [maxLen]; omega) hsz ?_; intro v' w5 hown5 hf5 hb5; rw [HPC.out] at hown5)
          exact ⟨⟨q + 1, x + 7, HQ1.out, by go_num, by rw [HX.out]; omega, hown5, HFR.out.own HR.out hf5⟩, by simp [intOf]; omega⟩
    · have hd : decide (x < T) = false := decide_eq_false hxT
      have hqe : q = lenP n := by have := HT.out; have := HX.out; simp only [lenP] at *; omega
      have hby := bytesAt_of_owns (bs := packN N q) (by rw [packN_length]; exact HR.out)
      have hpe : packN N q = packOf bs := by rw [HPK.out, hqe]
      rw [hpe] at hby
      have HBY := Lib.hid hby
      have hbf := HFR.out
      clear hby hqe hpe hrow hx hf hq
      go_wp2_with fail
      go_ret
      exact Ret.mk ⟨HBY.out, hf1.trans hbf (by simp) (by simp)⟩
end Go.Proofs.Ytjddagkjgkdbkaa
