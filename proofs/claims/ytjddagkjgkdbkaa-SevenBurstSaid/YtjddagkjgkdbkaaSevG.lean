/- The document's answer Unpack. -/
import Derived.Test.YtjddagkjgkdbkaaSevF
namespace Go.Proofs.Ytjddagkjgkdbkaa
open Go.RowKit

theorem down_next (N q r : Nat) (hr : 0 < r) (hr8 : r ≤ 8) : N / 2 ^ (8 * q + (r - 1)) % 2 ^ (8 - (r - 1)) = 2 * (N / 2 ^ (8 * q + r) % 2 ^ (8 - r)) + N / 2 ^ (8 * q + (r - 1)) % 2 := by
  have e1 : 2 ^ (8 - (r - 1)) = 2 * 2 ^ (8 - r) := by rw [show 8 - (r - 1) = (8 - r) + 1 from by omega, Nat.pow_succ, Nat.mul_comm]
  have e2 : N / 2 ^ (8 * q + r) = N / 2 ^ (8 * q + (r - 1)) / 2 := by rw [Nat.div_div_eq_div_mul, ← Nat.pow_succ]; congr 2; omega
  rw [e1, Nat.mod_mul, e2]
  omega
theorem byte_cell (N q c : Nat) (h : c = N / 2 ^ (8 * q) % 2 ^ 8) : cellsB (grp 8 N q) ++ [.int .u8 (c : Int)] = cellsB (grp 8 N (q + 1)) := by
  rw [grp_succ, cellsB_append, ← h]
  congr 1
  have h2 : c < 2 ^ 8 := by rw [h]; exact Nat.mod_lt _ (by decide)
  have h3 : ((UInt8.ofNat c).toNat : Int) = (c : Int) := by
    rw [UInt8.toNat_ofNat', Nat.mod_eq_of_lt h2]
  show _ = [Value.int .u8 ((UInt8.ofNat c).toNat : Int)]
  rw [h3]
theorem rest_zero (N a b : Nat) (hN : N < 2 ^ b) (h : ∀ q, a ≤ q → q < b → N / 2 ^ q % 2 = 0) : N / 2 ^ a = 0 := by
  apply Nat.eq_of_testBit_eq
  intro j
  rw [Nat.testBit_div_two_pow, Nat.zero_testBit]
  rcases Nat.lt_or_ge (j + a) b with hj | hj
  · rw [Nat.testBit_eq_decide_div_mod_eq, h (j + a) (by omega) hj]
    rfl
  · exact Nat.testBit_lt_two_pow (Nat.lt_of_lt_of_le hN (pow_le2 hj))
theorem rest_some (N a q : Nat) (h : a ≤ q) (hb : N / 2 ^ q % 2 = 1) : N / 2 ^ a ≠ 0 := by
  intro e
  have e2 : N / 2 ^ q = 0 := by
    rw [show q = a + (q - a) from by omega, Nat.pow_add, ← Nat.div_div_eq_div_mul, e, Nat.zero_div]
  rw [e2] at hb
  cases hb
def UBOut (w : World) (b : List UInt8) (s i : Value) (wr : World) : Prop :=
  ∃ k : Nat, k ≤ b.length ∧ i = .int .i64 (k : Int) ∧ (∀ j, j < k → ∀ h : j < b.length, 128 ≤ (b[j]'h).toNat) ∧ bitRow w wr (le7 b) (7 * k) s ∧ Fr [] w wr
def UBIn (w : World) (b : List UInt8) (c : Nat) (i : Nat) (s d j : Value) (wr : World) : Prop :=
  ∃ k y : Nat, k ≤ 7 ∧ j = .int .i64 (k : Int) ∧ d = .int .u8 (y : Int) ∧ y = c / 2 ^ k ∧ bitRow w wr (le7 b) (7 * i + k) s ∧ Fr [] w wr
def UOOut (w2 : World) (N n : Nat) (s i : Value) (wr : World) : Prop :=
  ∃ q : Nat, q ≤ n ∧ i = .int .i64 (q : Int) ∧ wr.ownsRow w2.heap.size 5 1 s q (cellsB (grp 8 N q)) ∧ Fr [] w2 wr
def UOIn (N q : Nat) (c k : Value) : Prop :=
  ∃ r x : Nat, r ≤ 8 ∧ c = .int .i64 (x : Int) ∧ k = .int .i64 ((r : Int) - 1) ∧ x = N / 2 ^ (8 * q + r) % 2 ^ (8 - r)
def UERel (N a T : Nat) (i : Value) : Prop := ∃ x : Nat, a ≤ x ∧ x ≤ T ∧ i = .int .i64 (x : Int) ∧ ∀ q, a ≤ q → q < x → N / 2 ^ q % 2 = 0
set_option maxRecDepth 100000 in
theorem ref_unpack_any (b : List UInt8) (sv : Value) (w : World) (h : bytesAt w sv b) (hl : b.length ≤ 1000000) :
    Calls Try.prog 12 #[sv] w (Unpacked w b) := by
  obtain ⟨ti, hi, hz0, hz1, hz2⟩ := info_parts infoB
  obtain ⟨a0, c0, rfl, hle, hmx⟩ := h.form
  simp only [maxLen] at hmx
  have HP := Lib.hid h
  clear h
  obtain ⟨n, hn⟩ : ∃ n, n = 7 * b.length / 8 := ⟨_, rfl⟩
  have hn1 : (b.length : Int) * 7 / 8 = (n : Int) := by omega
  have hnl : n ≤ 1000000 := by omega
  have HUO := Lib.hid (show unpackOf b = grp 8 (le7 b) n by rw [hn]; rfl)
  have HOKP := Lib.hid (show okU b = (wholeB b && (decide (7 * b.length % 8 < 7) && decide (le7 b / 2 ^ (8 * n) = 0))) by rw [hn]; rfl)
  by_cases hm : 7 * b.length % 8 < 7
  · have hm1 : ((8 * (n : Int) + 6) / 7 != (b.length : Int)) = false := by rw [bne_eq_false_iff_eq]; omega
    have HN := Lib.hid hn
    have HM := Lib.hid hm
    clear hn hm
    go_enter Try.func12, Try.ntmps12
    go_wp2_with fail
    rw [hn1]
    have HN1 := Lib.hid hn1
    clear hn1
    go_loopw [5, 6] (UBOut w b) (fun _ s _ => b.length - (intOf s).toNat)
    case atStart => exact ⟨0, Nat.zero_le _, rfl, fun j hj => by omega, World.ownsRow_nil _ _ _ _, Fr.refl _ _⟩
    case round =>
      obtain ⟨i, hi', rfl, hall, hrow, hf⟩ := hrel
      obtain ⟨a3, c3, rfl⟩ := hrow.slice
      have HR := Lib.hid hrow
      have HF := Lib.hid hf
      have HA := Lib.hid hall
      clear hrow hf hall
      by_cases hin : i < b.length
      · have hd : decide (i < b.length) = true := decide_eq_true hin
        obtain ⟨bb, off, rfl, hc⟩ := byteAt (HP.out.below HF.out) i hin
        have hbit := fun k hk => byte7_bit b i k hin hk
        have hcl := (b[i]'hin).toNat_lt
        by_cases h128 : (b[i]'hin).toNat < 128
        · have hd2 : decide (((b[i]'hin).toNat : Int) < 128) = true := decide_eq_true (by omega)
          have HK := Lib.hid (show okU b = false by rw [HOKP.out, wholeB_false b i hin h128]; rfl)
          clear h128 hbit
          go_wp2_with fail
          go_ret2
          exact ⟨.inr ⟨HK.out, rfl⟩, HF.out⟩
        · have hd2 : decide (((b[i]'hin).toNat : Int) < 128) = false := decide_eq_false (by omega)
          obtain ⟨c, hcc⟩ : ∃ c, c = (b[i]'hin).toNat % 128 := ⟨_, rfl⟩
          have hsub : ((b[i]'hin).toNat : Int) - 128 = (c : Int) := by omega
          rw [← hcc] at hbit
          have hc128 : c < 128 := by omega
          have HBIT := Lib.hid hbit
          have H128 := Lib.hid h128
          obtain ⟨ci, hci⟩ : ∃ ci, ci = (b[i]'hin).toNat := ⟨_, rfl⟩
          rw [← hci] at hc hd2 hsub hcl
          have hci2 : 128 ≤ ci := by omega
          clear h128 hbit hcc hci
          go_wp2_with fail
          go_loopw [5, 7, 8] (UBIn w b c i) (fun _ _ s _ => 7 - (intOf s).toNat)
          case atStart => exact ⟨0, c, by omega, rfl, by go_num, by simp, HR.out, HF.out⟩
          case round =>
            obtain ⟨k, y, hk, rfl, rfl, hy, hrow, hf⟩ := hrel
            obtain ⟨a4, c4, rfl⟩ := hrow.slice
            by_cases hk7 : k < 7
            · have hd3 : decide ((k : Int) < 7) = true := decide_eq_true (by omega)
              have hb := HBIT.out k hk7
              rw [← hy] at hb
              have hyl : y < 256 := by rw [hy]; exact Nat.lt_of_le_of_lt (Nat.div_le_self _ _) (by omega)
              have hhalf : y / 2 = c / 2 ^ (k + 1) := by rw [hy, Nat.pow_succ, Nat.div_div_eq_div_mul]
              have HHALF := Lib.hid hhalf
              have HBC := Lib.hid (bit_cell (le7 b) (7 * i + k) y hb)
              clear hhalf hy hb
              have hsz := hf.size
              have HRW := Lib.hid hrow
              clear hrow
              go_wp2_with (at_builtin; refine wpL_append1 rfl (.tmp 45) (.tmp 48) 22 rfl w.heap.size 5 ti (.int .u8 0) 1 Try.underlying22 hi hz0 hz1 hz2 rfl (.slice a4 (7 * i + k) c4) (7 * i + k) (cellsB (bitsN (le7 b) (7 * i + k))) rfl HRW.out _ rfl rfl (by omega) (by simp [maxLen]; omega) hsz ?_; intro v' w5 hown5 hf5 hb5; rw [HBC.out] at hown5)
              exact ⟨⟨k + 1, y / 2, by omega, by go_num, by go_num, HHALF.out, hown5, hf.own HRW.out hf5⟩, by simp [intOf]; omega⟩
            · have hd3 : decide ((k : Int) < 7) = false := decide_eq_false (by omega)
              obtain rfl : k = 7 := by omega
              have HRW := Lib.hid hrow
              clear hrow hy
              go_wp2_with fail
              refine ⟨⟨i + 1, by omega, by go_num, fun j hj hjl => ?_, HRW.out, hf⟩, by simp [intOf]; omega⟩
              by_cases e : j = i
              · subst e; have := H128.out; omega
              · exact HA.out j (by omega) hjl
      · have hd : decide (i < b.length) = false := decide_eq_false hin
        obtain rfl : i = b.length := by omega
        have hwb : wholeB b = true := (wholeB_iff b).2 (fun i h => HA.out i h h)
        have hok : okU b = decide (le7 b / 2 ^ (8 * n) = 0) := by rw [HOKP.out, hwb, decide_eq_true HM.out]; rfl
        have hN := le7_lt b
        obtain ⟨T, hT⟩ : ∃ T, T = 7 * b.length := ⟨_, rfl⟩
        have hn8 : 8 * n ≤ T := by have := HN.out; omega
        have hTl : T ≤ 7000000 := by omega
        have hby := bytesAt_of_owns (bs := bitsN (le7 b) (7 * b.length)) (by rw [bitsN_length]; exact HR.out)
        rw [← hT] at hN hby ⊢
        obtain ⟨N, hNN⟩ : ∃ N, N = le7 b := ⟨_, rfl⟩
        have huo : unpackOf b = grp 8 N n := by rw [HUO.out, hNN]
        rw [← hNN] at hN hby hok
        have hby' : bytesAt wr (.slice a3 (bitsN N T).length c3) (bitsN N T) := by rw [bitsN_length]; exact hby
        have HBY := Lib.hid hby'
        have HOK := Lib.hid hok
        have HNT := Lib.hid hN
        have HUO2 := Lib.hid huo
        have hfw := HF.out
        clear hwb hok hN hT hby hby' hNN huo HOKP HUO HA HR HN HM HF
        obtain ⟨w2, hw2⟩ : ∃ w2, w2 = wr := ⟨_, rfl⟩
        rw [← hw2] at HBY hfw ⊢
        clear hw2
        go_wp2_with fail
        go_loopw [9, 10] (UOOut w2 N n) (fun _ s _ => n - (intOf s).toNat)
        case atStart => exact ⟨0, Nat.zero_le _, rfl, World.ownsRow_nil _ _ _ _, Fr.refl _ _⟩
        case round =>
          obtain ⟨q, hq, rfl, hrow, hf⟩ := hrel
          obtain ⟨a4, c4, rfl⟩ := owns_slice hrow
          have HR := Lib.hid hrow
          have HF := Lib.hid hf
          clear hrow hf
          by_cases hqn : q < n
          · have hd2 : decide (q < n) = true := decide_eq_true hqn
            go_wp2_with fail
            go_loop [11, 12] (UOIn N q) (fun _ s => (intOf s + 1).toNat)
            case atStart => exact ⟨8, 0, by omega, rfl, rfl, by simp [Nat.mod_one]⟩
            case round =>
              obtain ⟨r, x, hr, rfl, rfl, hx⟩ := hrel
              have HX := Lib.hid hx
              have hx256 : x < 256 := by
                have h1 : N / 2 ^ (8 * q + r) % 2 ^ (8 - r) < 2 ^ (8 - r) := Nat.mod_lt _ (Nat.pow_pos (by decide))
                have h2 : (2 : Nat) ^ (8 - r) ≤ 2 ^ 8 := pow_le2 (by omega)
                omega
              clear hx
              by_cases hr0 : 0 < r
              · obtain ⟨j, rfl⟩ : ∃ j, r = j + 1 := ⟨r - 1, by omega⟩
                have hd3 : decide ((0 : Int) ≤ ((j + 1 : Nat) : Int) - 1) = true := decide_eq_true (by omega)
                have hdn := down_next N q (j + 1) hr0 hr
                rw [show j + 1 - 1 = j from rfl, ← HX.out] at hdn
                have hidx : 8 * q + j < T := by omega
                obtain ⟨bb, off, rfl, hcell⟩ := byteAt (HBY.out.below HF.out) (8 * q + j) (by rw [bitsN_length]; exact hidx)
                rw [bitsN_get N T (8 * q + j) hidx, UInt8.toNat_ofNat'] at hcell
                have hbl := Nat.mod_lt (N / 2 ^ (8 * q + j)) (show 2 > 0 by decide)
                obtain ⟨B, hB⟩ : ∃ B, B = N / 2 ^ (8 * q + j) % 2 := ⟨_, rfl⟩
                rw [← hB] at hbl hdn
                rw [← hB, Nat.mod_eq_of_lt (by omega)] at hcell
                have HD := Lib.hid hdn
                clear hB hdn
                rw [show ((j + 1 : Nat) : Int) - 1 = (j : Int) from by omega] at hd3 ⊢
                go_wp2_with fail
                exact ⟨⟨j, 2 * x + B, by omega, by go_num, by go_num, HD.out.symm⟩, by simp [intOf]⟩
              · obtain rfl : r = 0 := by omega
                have hd3 : decide ((0 : Int) ≤ ((0 : Nat) : Int) - 1) = false := by decide
                have hpc := byte_cell N q x (by rw [HX.out]; rfl)
                have HPC := Lib.hid hpc
                have hsz := HF.out.size
                clear hpc
                go_wp2_with (at_builtin; refine wpL_append1 rfl (.tmp 72) (.tmp 75) 22 rfl w2.heap.size 5 ti (.int .u8 0) 1 Try.underlying22 hi hz0 hz1 hz2 rfl (.slice a4 q c4) q (cellsB (grp 8 N q)) rfl HR.out (.int .u8 (x : Int)) rfl rfl (by omega) (by simp [maxLen]; omega) hsz ?_; intro v' w5 hown5 hf5 hb5; rw [HPC.out] at hown5)
                exact ⟨⟨q + 1, by omega, by go_num, hown5, HF.out.own HR.out hf5⟩, by simp [intOf]; omega⟩
          · have hd2 : decide (q < n) = false := decide_eq_false hqn
            obtain rfl : n = q := by omega
            have hby2 := bytesAt_of_owns (bs := grp 8 N n) (by rw [grp_length]; exact HR.out)
            rw [← HUO2.out] at hby2
            have HBY2 := Lib.hid hby2
            have hfr := hfw.trans HF.out (by simp) (n := []) (by simp)
            clear hby2
            go_wp2_with fail
            go_loop [13] (UERel N (8 * n) T) (fun s => T - (intOf s).toNat)
            case atStart => exact ⟨8 * n, Nat.le_refl _, hn8, by go_num, fun q h1 h2 => by omega⟩
            case round =>
              obtain ⟨x, hx1, hx2, rfl, hz⟩ := hrel
              have HZ := Lib.hid hz
              clear hz
              by_cases hxT : x < T
              · have hd3 : decide (x < T) = true := decide_eq_true hxT
                obtain ⟨bb, off, rfl, hcell⟩ := byteAt (HBY.out.below HF.out) x (by rw [bitsN_length]; exact hxT)
                rw [bitsN_get N T x hxT, UInt8.toNat_ofNat'] at hcell
                have hbl := Nat.mod_lt (N / 2 ^ x) (show 2 > 0 by decide)
                obtain ⟨B, hB⟩ : ∃ B, B = N / 2 ^ x % 2 := ⟨_, rfl⟩
                rw [← hB] at hbl
                rw [← hB, Nat.mod_eq_of_lt (by omega)] at hcell
                have HB := Lib.hid hB
                clear hB
                by_cases hb1 : B = 1
                · have hd4 : ((B : Int) == 1) = true := by rw [beq_iff_eq]; omega
                  have HK := Lib.hid (show okU b = false by rw [HOK.out]; exact decide_eq_false (rest_some N (8 * n) x hx1 (by rw [← HB.out]; exact hb1)))
                  clear hb1
                  go_wp2_with fail
                  go_ret2
                  exact ⟨.inr ⟨HK.out, rfl⟩, hfr⟩
                · have hd4 : ((B : Int) == 1) = false := by rw [beq_eq_false_iff_ne]; omega
                  have HB0 := Lib.hid (show B = 0 by omega)
                  clear hb1
                  go_wp2_with fail
                  refine ⟨⟨x + 1, by omega, by omega, by go_num, fun q h1 h2 => ?_⟩, by simp [intOf]; omega⟩
                  by_cases e : q = x
                  · subst e; rw [← HB.out]; exact HB0.out
                  · exact HZ.out q h1 (by omega)
              · have hd3 : decide (x < T) = false := decide_eq_false hxT
                obtain rfl : T = x := by omega
                have HK := Lib.hid (show okU b = true by rw [HOK.out]; exact decide_eq_true (rest_zero N (8 * n) T HNT.out HZ.out))
                go_wp2_with fail
                go_ret2
                exact ⟨.inl ⟨HK.out, _, rfl, HBY2.out⟩, hfr⟩
  · have hm1 : ((8 * (n : Int) + 6) / 7 != (b.length : Int)) = true := by rw [bne_iff_ne]; omega
    have HK := Lib.hid (show okU b = false by rw [HOKP.out, decide_eq_false hm, Bool.false_and, Bool.and_false])
    clear hn hm
    go_enter Try.func12, Try.ntmps12
    go_wp2_with fail
    go_ret2
    exact ⟨.inr ⟨HK.out, rfl⟩, Fr.refl _ _⟩
end Go.Proofs.Ytjddagkjgkdbkaa
