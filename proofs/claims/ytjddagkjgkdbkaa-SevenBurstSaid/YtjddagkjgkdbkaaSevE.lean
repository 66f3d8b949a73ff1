/- The document's answer Bits. -/
import Derived.Test.YtjddagkjgkdbkaaSevD
namespace Go.Proofs.Ytjddagkjgkdbkaa
open Go.RowKit

theorem bit_cell (N t d : Nat) (h : d % 2 = N / 2 ^ t % 2) : cellsB (bitsN N t) ++ [.int .u8 ((d : Int) % 2)] = cellsB (bitsN N (t + 1)) := by
  rw [bitsN_succ, cellsB_append]
  congr 1
  have h2 : N / 2 ^ t % 2 < 256 := by omega
  have h3 : ((UInt8.ofNat (N / 2 ^ t % 2)).toNat : Int) = (d : Int) % 2 := by
    rw [UInt8.toNat_ofNat', Nat.mod_eq_of_lt h2, ← h]
    omega
  show _ = [Value.int .u8 ((UInt8.ofNat (N / 2 ^ t % 2)).toNat : Int)]
  rw [h3]
def bitRow (w wr : World) (N t : Nat) (s : Value) : Prop := wr.ownsRow w.heap.size 5 1 s t (cellsB (bitsN N t))
theorem bitRow.slice {w wr : World} {N t : Nat} {s : Value} (h : bitRow w wr N t s) : ∃ a cap, s = .slice a t cap := owns_slice h
def BitsOut (w : World) (bs : List UInt8) (s i : Value) (wr : World) : Prop :=
  ∃ k : Nat, k ≤ bs.length ∧ i = .int .i64 (k : Int) ∧ bitRow w wr (le bs) (8 * k) s ∧ Fr [] w wr
def BitsIn (w : World) (bs : List UInt8) (c : UInt8) (i : Nat) (s d j : Value) (wr : World) : Prop :=
  ∃ k y : Nat, k ≤ 8 ∧ j = .int .i64 (k : Int) ∧ d = .int .u8 (y : Int) ∧ y = c.toNat / 2 ^ k ∧ bitRow w wr (le bs) (8 * i + k) s ∧ Fr [] w wr
set_option maxRecDepth 100000 in
theorem bits_any (bs : List UInt8) (sv : Value) (w : World) (h : bytesAt w sv bs) (hl : bs.length ≤ 1000000) :
    Calls Try.prog 14 #[sv] w (Ret fun v w' => bytesAt w' v (bitsN (le bs) (8 * bs.length)) ∧ Fr [] w w') := by
  obtain ⟨ti, hi, hz0, hz1, hz2⟩ := info_parts infoB
  obtain ⟨a0, c0, rfl, hle, hmx⟩ := h.form
  simp only [maxLen] at hmx
  have HP := Lib.hid h
  clear h
  go_enter Try.func14, Try.ntmps14
  go_wp2_with fail
  go_loopw [3, 4] (BitsOut w bs) (fun _ s _ => bs.length - (intOf s).toNat)
  case atStart => exact ⟨0, Nat.zero_le _, rfl, World.ownsRow_nil _ _ _ _, Fr.refl _ _⟩
  case round =>
    obtain ⟨i, hi', rfl, hrow, hf⟩ := hrel
    by_cases hin : i < bs.length
    · have hd : decide (i < bs.length) = true := decide_eq_true hin
      obtain ⟨b, off, rfl, hc⟩ := byteAt (HP.out.below hf) i hin
      have hbit := fun k hk => byte_bit bs i k hin hk
      obtain ⟨c, hcc⟩ : ∃ c, c = bs[i]'hin := ⟨_, rfl⟩
      rw [← hcc] at hc
      rw [← hcc] at hbit
      have hcl := c.toNat_lt
      have HBIT := Lib.hid hbit
      have HR := Lib.hid hrow
      have HF := Lib.hid hf
      clear hbit hcc hrow hf
      obtain ⟨a3, c3, hs3⟩ := HR.out.slice
      subst hs3
      go_wp2_with fail
      go_loopw [3, 5, 6] (BitsIn w bs c i) (fun _ _ s _ => 8 - (intOf s).toNat)
      case atStart => exact ⟨0, c.toNat, by omega, rfl, rfl, by simp, HR.out, HF.out⟩
      case round =>
        obtain ⟨k, y, hk, rfl, rfl, hy, hrow, hf⟩ := hrel
        by_cases hk8 : k < 8
        · have hd2 : decide ((k : Int) < 8) = true := decide_eq_true (by omega)
          have hb := HBIT.out k hk8
          rw [← hy] at hb
          have hyl : y < 256 := by rw [hy]; exact Nat.lt_of_le_of_lt (Nat.div_le_self _ _) hcl
          have hhalf : y / 2 = c.toNat / 2 ^ (k + 1) := by rw [hy, Nat.pow_succ, Nat.div_div_eq_div_mul]
          have HHALF := Lib.hid hhalf
          have HBC := Lib.hid (bit_cell (le bs) (8 * i + k) y hb)
          clear hhalf hy hb
          obtain ⟨a4, c4, rfl⟩ := hrow.slice
          have hsz := hf.size
          have HRW := Lib.hid hrow
          clear hrow
          go_wp2_with (at_builtin; refine wpL_append1 rfl (.tmp 21) (.tmp 24) 22 rfl w.heap.size 5 ti (.int .u8 0) 1 Try.underlying22 hi hz0 hz1 hz2 rfl (.slice a4 (8 * i + k) c4) (8 * i + k) (cellsB (bitsN (le bs) (8 * i + k))) rfl HRW.out _ rfl rfl (by omega) (by simp [maxLen]; omega) hsz ?_; intro v' w5 hown5 hf5 hb5; rw [HBC.out] at hown5)
          exact ⟨⟨k + 1, y / 2, by omega, by go_num, by go_num, HHALF.out, hown5, hf.own HRW.out hf5⟩, by simp [intOf]; omega⟩
        · have hd2 : decide ((k : Int) < 8) = false := decide_eq_false (by omega)
          obtain rfl : k = 8 := by omega
          have HRW := Lib.hid hrow
          clear hrow hy
          go_wp2_with fail
          exact ⟨⟨i + 1, by omega, by go_num, HRW.out, hf⟩, by simp [intOf]; omega⟩
    · have hd : decide (i < bs.length) = false := decide_eq_false hin
      obtain rfl : i = bs.length := by omega
      obtain ⟨a4, c4, rfl⟩ := hrow.slice
      have hby := bytesAt_of_owns (bs := bitsN (le bs) (8 * bs.length)) (by rw [bitsN_length]; exact hrow)
      clear hrow
      go_wp2_with fail
      go_ret
      exact Ret.mk ⟨hby, hf⟩
end Go.Proofs.Ytjddagkjgkdbkaa
