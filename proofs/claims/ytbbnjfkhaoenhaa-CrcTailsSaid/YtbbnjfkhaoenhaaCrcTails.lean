/- CrcTails: bytes with their sum behind them have one sum for all, and with another one behind them have not. -/
import Derived.Test.YtbbnjfkhaoenhaaCrcLaw
namespace Go.Proofs.Ytbbnjfkhaoenhaa
open Go.RowKit

/-- The number in four bytes, the least first. -/
def tail4 (o : Nat) : List UInt8 := [UInt8.ofNat (o % 256), UInt8.ofNat (o / 256 % 256), UInt8.ofNat (o / 65536 % 256), UInt8.ofNat (o / 16777216)]
theorem ofNat_small (c : Nat) (h : c < 256) : (UInt8.ofNat c).toNat = c := by rw [UInt8.toNat_ofNat']; omega
theorem tail4_cells (o : Nat) (h : o < 4294967296) : (#[.int .u8 ((o : Int) % 256), .int .u8 ((o : Int) / 256 % 256), .int .u8 ((o : Int) / 65536 % 256), .int .u8 ((o : Int) / 16777216)] : Array Value) = (cellsB (tail4 o)).toArray := by
  simp only [cellsB, tail4, List.map_cons, List.map_nil]
  rw [ofNat_small _ (by omega), ofNat_small _ (by omega), ofNat_small _ (by omega), ofNat_small _ (by omega)]
  simp
theorem of_tail (bs : List UInt8) (o : Nat) (h : o < 4294967296) : crcOf [bs, tail4 o].flatten = 558161692 ↔ o = crcOf [bs].flatten := by
  have e : [bs, tail4 o].flatten = bs ++ tail4 o := by simp
  have e1 : [bs].flatten = bs := by simp
  rw [e, e1]
  unfold crcOf
  rw [crcS_append]
  have hr := crcS_ones bs
  generalize crcS 4294967295 bs = R at *
  unfold tail4
  rw [crc_tail R o _ _ _ _ (by rw [ofNat_small _ (by omega), ofNat_small _ (by omega), ofNat_small _ (by omega), ofNat_small _ (by omega)]; omega)]
  exact crc_tails R o hr h

set_option maxRecDepth 100000 in
theorem tails_any (v0 : Value) (bs : List UInt8) (o : Nat) (w : World) (h0 : bytesAt w v0 bs) (ho : o < 4294967296) :
    Calls Try.prog 6 #[v0, .int .u32 o] w fun e w' => e = .returned (.bool true) ∧ Fr [] w w' := by
  obtain ⟨a0, c0, rfl, -, -⟩ := h0.form
  by_cases hb : 500 < bs.length
  · have hb1 : decide (500 < (bs.length : Int)) = true := decide_eq_true (by omega)
    go_enter Try.func6, Try.ntmps6
    go_wp2_with (go_at_call 7; refine (awake_any _).mono ?_; rintro e w' ⟨rfl, hf⟩)
    go_ret
    exact ⟨rfl, hf⟩
  · have hb1 : decide (500 < (bs.length : Int)) = false := decide_eq_false (by omega)
    go_enter Try.func6, Try.ntmps6
    go_wp2_with fail
    refine (of_any [bs] _ _ (partsAt_new1 w _ bs 24 h0)).mono ?_
    rintro e w1 ⟨rfl, hf1⟩
    have hsl : crcOf [bs].flatten < 4294967296 := by unfold crcOf; omega
    obtain ⟨s, hs⟩ : ∃ s, s = crcOf [bs].flatten := ⟨_, rfl⟩
    rw [← hs] at hsl ⊢
    have h1 := of_tail bs s hsl
    have h2 := of_tail bs o ho
    rw [← hs] at h1 h2
    have h3 := h1.2 rfl
    obtain ⟨z, hz⟩ : ∃ z, z = crcOf [bs, tail4 o].flatten := ⟨_, rfl⟩
    rw [← hz] at h2
    have hf01 : Fr [] w w1 := (Fr.alloc w _).trans hf1 (by simp) (by simp)
    have hx := bytesAt_new w1 (tail4 o) 5 4 rfl (by simp [maxLen, tail4]) _ (tail4_cells o ho)
    have hy := bytesAt_new (w1.alloc (.cells #[.int .u8 ((o : Int) % 256), .int .u8 ((o : Int) / 256 % 256), .int .u8 ((o : Int) / 65536 % 256), .int .u8 ((o : Int) / 16777216)] 5)) (tail4 s) 5 4 rfl (by simp [maxLen, tail4]) _ (tail4_cells s hsl)
    have hb := h0.below hf01
    have hp1 := partsAt_new2 _ _ _ bs (tail4 s) 24 ((hb.below (Fr.alloc _ _)).below (Fr.alloc _ _)) hy
    simp only [World.size_alloc] at hp1
    have HP1 := Lib.hid hp1
    have HX := Lib.hid ((hx.below (Fr.alloc _ (.cells #[.int .u8 ((s : Int) % 256), .int .u8 ((s : Int) / 256 % 256), .int .u8 ((s : Int) / 65536 % 256), .int .u8 ((s : Int) / 16777216)] 5))).below (Fr.alloc _ (.cells #[.slice a0 bs.length c0, .slice (some ⟨w1.heap.size + 1, 0, none⟩) 4 4] 24)))
    have HZ := Lib.hid hz
    have H3 := Lib.hid h3
    clear hs hx hy hp1 hz h3 h1
    by_cases hos : o = s
    · have hz2 := h2.2 hos
      obtain rfl := hos
      have H4 := Lib.hid hz2
      clear h2 hz2
      go_wp2_with fail
      refine (of_any _ _ _ HP1.out).mono ?_
      rintro e w2 ⟨rfl, hf2⟩
      rw [H3.out]
      go_wp2_with fail
      refine (of_any _ _ _ (partsAt_new2 w2 _ _ bs (tail4 o) 24 (((((hb.below (Fr.alloc _ _)).below (Fr.alloc _ _)).below (Fr.alloc _ _)).below hf2)) (HX.out.below hf2))).mono ?_
      rintro e w3 ⟨rfl, hf3⟩
      rw [← HZ.out, H4.out]
      go_wp2_with (go_at_call 7; refine (awake_any _).mono ?_; rintro e w4 ⟨rfl, hf4⟩)
      go_ret
      exact ⟨rfl, ((((((hf01.trans (Fr.alloc _ _) (by simp) (n := []) (by simp)).trans (Fr.alloc _ _) (by simp) (n := []) (by simp)).trans (Fr.alloc _ _) (by simp) (n := []) (by simp)).trans hf2 (by simp) (n := []) (by simp)).trans (Fr.alloc _ _) (by simp) (n := []) (by simp)).trans hf3 (by simp) (n := []) (by simp)).trans hf4 (by simp) (by simp)⟩
    · have hz2 : ((z : Int) == 558161692) = false := by rw [beq_eq_false_iff_ne]; intro q; exact hos (h2.1 (by omega))
      have hos2 : ((o : Int) == (s : Int)) = false := by rw [beq_eq_false_iff_ne]; omega
      clear h2 hos
      go_wp2_with fail
      refine (of_any _ _ _ HP1.out).mono ?_
      rintro e w2 ⟨rfl, hf2⟩
      rw [H3.out]
      go_wp2_with fail
      refine (of_any _ _ _ (partsAt_new2 w2 _ _ bs (tail4 o) 24 (((((hb.below (Fr.alloc _ _)).below (Fr.alloc _ _)).below (Fr.alloc _ _)).below hf2)) (HX.out.below hf2))).mono ?_
      rintro e w3 ⟨rfl, hf3⟩
      rw [← HZ.out]
      go_wp2_with (go_at_call 7; refine (awake_any _).mono ?_; rintro e w4 ⟨rfl, hf4⟩)
      go_ret
      exact ⟨rfl, ((((((hf01.trans (Fr.alloc _ _) (by simp) (n := []) (by simp)).trans (Fr.alloc _ _) (by simp) (n := []) (by simp)).trans (Fr.alloc _ _) (by simp) (n := []) (by simp)).trans hf2 (by simp) (n := []) (by simp)).trans (Fr.alloc _ _) (by simp) (n := []) (by simp)).trans hf3 (by simp) (n := []) (by simp)).trans hf4 (by simp) (by simp)⟩
end Go.Proofs.Ytbbnjfkhaoenhaa
