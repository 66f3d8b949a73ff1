/- Contracts of inode's Flip. -/
import Derived.Test.YtmchnaojlnjmjaaInoA
import Derived.Laws.BitsAllLaws
namespace Go.Proofs.Ytmchnaojlnjmjaa
open Go.RowKit

theorem turn_value (c : UInt8) (p : Nat) : bits .xor .u8 (c.toNat : Int) ((2 : Int) ^ (p % 8) % 256) = ((UInt8.ofNat (c.toNat ^^^ 2 ^ (p % 8))).toNat : Int) := by
  have h8 : 2 ^ (p % 8) < 256 := by
    have : (2 : Nat) ^ (p % 8) ≤ 2 ^ 7 := Nat.pow_le_pow_right (by decide) (by omega)
    omega
  have h := u8_xor_nat c.toNat (2 ^ (p % 8)) c.toNat_lt h8
  have e : (2 : Int) ^ (p % 8) % 256 = ((2 ^ (p % 8) : Nat) : Int) := by
    obtain ⟨z, hz⟩ : ∃ z, z = 2 ^ (p % 8) := ⟨_, rfl⟩
    have h2 : (2 : Int) ^ (p % 8) = (z : Int) := by rw [hz]; simp
    rw [h2, ← hz]; rw [← hz] at h8; omega
  rw [e, h, UInt8.toNat_ofNat', Nat.mod_eq_of_lt (Nat.xor_lt_two_pow (n := 8) c.toNat_lt h8)]
theorem flipC_yes (b : List UInt8) (q : Nat) (h : q / 8 < b.length) : flipC b (q : Int) = b.set (q / 8) (UInt8.ofNat ((b[q / 8]'h).toNat ^^^ 2 ^ (q % 8))) := by
  unfold flipC
  rw [dif_pos (by omega)]
  simp
theorem flipC_no (b : List UInt8) (bit : Int) (h : bit < 0 ∨ 8 * (b.length : Int) ≤ bit) : flipC b bit = b := by
  unfold flipC
  rw [dif_neg (by omega)]
theorem set_take {α : Type} (l : List α) (i n : Nat) (v : α) : (l.set i v).take n = (l.take n).set i v := by
  rw [List.take_set]
theorem isF.turn {w : World} {p g s : Nat} {now : List UInt8} (h : isF w p g now s) (i : Nat) (hi : i < now.length) (c : UInt8) : isF (w.setCell ⟨g, i, none⟩ (.int .u8 (c.toNat : Int))) p g (now.set i c) s := by
  obtain ⟨cap, cur, h1, h2, h3, h4, h5, h6, h7, h8⟩ := h
  refine ⟨cap, cur.set i (.int .u8 (c.toNat : Int)), ?_, ?_, by simpa using h3, by simpa using h4, h5, ?_, h7, by simpa using h8⟩
  · rw [List.length_set]; exact (Fr.set0 w g i _).heap h1 (by simpa using Ne.symm h7)
  · rw [heap_setCell_same h2]; simp
  · rw [List.length_set, List.take_set, h6]; simp [cellsB, List.map_set]
theorem isF.cell {w : World} {p g s : Nat} {now : List UInt8} (h : isF w p g now s) (i : Nat) (hi : i < now.length) : w.cell? ⟨g, i, none⟩ = some (.int .u8 ((now[i]'hi).toNat : Int)) ∧ w.frozen? ⟨g, i, none⟩ = false := by
  obtain ⟨cap, cur, h1, h2, h3, h4, h5, h6, h7, h8⟩ := h
  refine ⟨?_, free_of_heap h2 i⟩
  rw [cell_of_heap h2, ← cellsB_get now i hi, ← h6, List.getElem?_take, if_pos hi]; simp

def inB (n : Nat) (bit : Int) : Bool := decide (0 ≤ bit ∧ bit < 8 * (n : Int))
set_option maxRecDepth 100000 in
theorem iflip_no (p g s : Nat) (now : List UInt8) (bit : Int) (w : World) (h : isF w p g now s) (hb : bit < 0 ∨ 8 * (now.length : Int) ≤ bit) (h64 : bit ≤ 9223372036854775807) :
    Calls Try.prog 56 #[.pointer (some ⟨p, 0, none⟩), .int .i64 bit] w fun e w' => e = .returned (.bool false) ∧ w = w' := by
  have HL := Lib.hid (ilen_any p g s now w h)
  by_cases hn : bit < 0
  · have hd : decide (bit < 0) = true := decide_eq_true hn
    clear h hb
    go_enter Try.func56, Try.ntmps56
    go_wp2_with fail
    go_ret
    exact ⟨rfl, rfl⟩
  · obtain ⟨q, rfl⟩ := Int.eq_ofNat_of_zero_le (show 0 ≤ bit by omega)
    have hd : decide ((q : Int) < 0) = false := decide_eq_false hn
    have hd2 : decide ((now.length : Int) ≤ (q : Int) / 8) = true := decide_eq_true (by omega)
    obtain ⟨n, hnn⟩ : ∃ n, n = now.length := ⟨_, rfl⟩
    rw [← hnn] at HL hd2
    clear h hb hn hnn
    go_enter Try.func56, Try.ntmps56
    go_wp2_with (go_at_call 29; refine HL.out.mono ?_; rintro e w2 ⟨rfl, rfl⟩)
    go_ret
    exact ⟨rfl, rfl⟩
set_option maxRecDepth 100000 in
theorem iflip_yes (p g s q : Nat) (now : List UInt8) (w : World) (h : isF w p g now s) (hq : q / 8 < now.length) (hl : now.length ≤ 1048576) :
    Calls Try.prog 56 #[.pointer (some ⟨p, 0, none⟩), .int .i64 (q : Int)] w fun e w' => e = .returned (.bool true) ∧ isF w' p g (flipC now (q : Int)) s ∧ Fr [g] w w' := by
  have HL := Lib.hid (ilen_any p g s now w h)
  have HF := Lib.hid h
  obtain ⟨cap, hle, hmx, hc0, hc1, hf0, hf1, -⟩ := h.open
  obtain ⟨hcq, hfq⟩ := h.cell (q / 8) hq
  have hd : decide ((q : Int) < 0) = false := decide_eq_false (by omega)
  have hd2 : decide (now.length ≤ q / 8) = false := decide_eq_false (by omega)
  have HV := Lib.hid (turn_value (now[q / 8]'hq) q)
  obtain ⟨c, hc⟩ : ∃ c, c = now[q / 8]'hq := ⟨_, rfl⟩
  rw [← hc] at hcq HV
  have HC := Lib.hid hc
  clear h hc
  go_enter Try.func56, Try.ntmps56
  go_wp2_with (go_at_call 29; refine HL.out.mono ?_; rintro e w2 ⟨rfl, rfl⟩)
  go_region
  go_wp2_with fail
  go_ret
  rw [HV.out]
  refine ⟨rfl, ?_, (Fr.set0 w g (q / 8) _).andDrew⟩
  have := (HF.out.turn (q / 8) hq (UInt8.ofNat (c.toNat ^^^ 2 ^ (q % 8)))).below (Fr.drew _)
  rw [flipC_yes now q hq, ← HC.out]
  exact this

/-- Flip of a file, in one. -/
theorem iflip_any (p g s : Nat) (now : List UInt8) (bit : Int) (w : World) (h : isF w p g now s) (hl : now.length ≤ 1048576) (h64 : bit ≤ 9223372036854775807) :
    Calls Try.prog 56 #[.pointer (some ⟨p, 0, none⟩), .int .i64 bit] w fun e w' => e = .returned (.bool (inB now.length bit)) ∧ isF w' p g (flipC now bit) s ∧ Fr [g] w w' := by
  by_cases hb : bit < 0 ∨ 8 * (now.length : Int) ≤ bit
  · refine (iflip_no p g s now bit w h hb h64).mono ?_
    rintro e w' ⟨rfl, rfl⟩
    rw [flipC_no now bit hb]
    refine ⟨by rw [show inB now.length bit = false from decide_eq_false (by omega)], h, Fr.refl _ _⟩
  · obtain ⟨q, rfl⟩ := Int.eq_ofNat_of_zero_le (show 0 ≤ bit by omega)
    refine (iflip_yes p g s q now w h (by omega) hl).mono ?_
    rintro e w' ⟨rfl, h1, h2⟩
    exact ⟨by rw [show inB now.length (q : Int) = true from decide_eq_true (by omega)], h1, h2⟩
end Go.Proofs.Ytmchnaojlnjmjaa
