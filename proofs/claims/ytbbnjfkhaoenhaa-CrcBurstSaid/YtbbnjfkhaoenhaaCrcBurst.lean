/- CrcBurst: bytes of which bits are turned that stand within 32 in a row have another sum. -/
import Derived.Test.YtbbnjfkhaoenhaaCrcLaw
namespace Go.Proofs.Ytbbnjfkhaoenhaa
open Go.RowKit

theorem of_burst (l bs : List UInt8) (a turn : Nat) (hl : l.length = bs.length) (ht : turn < 4294967296) (ha : a + 32 ≤ 8 * bs.length) (h : le l = le bs ^^^ (turn * 2 ^ a)) : crcOf [l].flatten = crcOf [bs].flatten ↔ turn = 0 := by
  have e1 : [l].flatten = l := by simp
  have e2 : [bs].flatten = bs := by simp
  rw [e1, e2]
  unfold crcOf
  have h1 := crcS_ones l
  have h2 := crcS_ones bs
  rw [← crc_burst 4294967295 a turn l bs hl ht ha h]
  omega

set_option maxRecDepth 100000 in
theorem burst_small (v0 : Value) (bs : List UInt8) (a turn : Nat) (w : World) (h0 : bytesAt w v0 bs) (ht : turn < 4294967296) (hb : ¬ 1000 < bs.length) (ha : a + 32 ≤ 8 * bs.length) :
    Calls Try.prog 5 #[v0, .int .i64 a, .int .u32 turn] w fun e w' => e = .returned (.bool true) ∧ Fr [] w w' := by
  obtain ⟨a0, c0, rfl, -, -⟩ := h0.form
  have hb1 : decide (1000 < (bs.length : Int)) = false := decide_eq_false (by omega)
  have hb2 : decide ((a : Int) < 0) = false := decide_eq_false (by omega)
  have hb3 : decide (8 * (bs.length : Int) - 32 < (a : Int)) = false := decide_eq_false (by omega)
  go_enter Try.func5, Try.ntmps5
  go_wp2_with fail
  refine (ref_turned_any bs a turn _ w h0 (by omega) ha ht).mono ?_
  rintro e w1 ⟨v1, rfl, l, hl1, hll, hle, hf1⟩
  have hfrm := hl1.form
  obtain ⟨a1, c1, rfl, -, -⟩ := hfrm
  have hburst := of_burst l bs a turn hll ht ha hle
  rw [hll] at hl1 ⊢
  have hl1' := hl1
  have hb0 := h0.below hf1
  obtain ⟨z1, hz1⟩ : ∃ z, z = crcOf [l].flatten := ⟨_, rfl⟩
  obtain ⟨z2, hz2⟩ : ∃ z, z = crcOf [bs].flatten := ⟨_, rfl⟩
  rw [← hz1, ← hz2] at hburst
  have H1 := Lib.hid hz1
  have H2 := Lib.hid hz2
  have HB := Lib.hid hburst
  clear hz1 hz2 hburst hle hll
  by_cases h0t : turn = 0
  · subst h0t
    obtain rfl := HB.out.2 rfl
    go_wp2_with fail
    refine (of_any _ _ _ (partsAt_new1 w1 _ l 24 hl1)).mono ?_
    rintro e w2 ⟨rfl, hf2⟩
    rw [← H1.out]
    have hb2 := (hb0.below (Fr.alloc _ (.cells #[.slice a1 bs.length c1] 24))).below hf2
    go_wp2_with fail
    refine (of_any _ _ _ (partsAt_new1 w2 _ bs 24 hb2)).mono ?_
    rintro e w3 ⟨rfl, hf3⟩
    rw [← H2.out]
    go_wp2_with (go_at_call 7; refine (awake_any _).mono ?_; rintro e w4 ⟨rfl, hf4⟩)
    go_ret
    exact ⟨rfl, ((((hf1.trans (Fr.alloc _ _) (by simp) (n := []) (by simp)).trans hf2 (by simp) (n := []) (by simp)).trans (Fr.alloc _ _) (by simp) (n := []) (by simp)).trans hf3 (by simp) (n := []) (by simp)).trans hf4 (by simp) (by simp)⟩
  · have hz : z1 ≠ z2 := fun q => h0t (HB.out.1 q)
    have hne : ((z1 : Int) == (z2 : Int)) = false := by rw [beq_eq_false_iff_ne]; omega
    have hnt : ((turn : Int) == 0) = false := by rw [beq_eq_false_iff_ne]; omega
    clear hz h0t
    go_wp2_with fail
    refine (of_any _ _ _ (partsAt_new1 w1 _ l 24 hl1)).mono ?_
    rintro e w2 ⟨rfl, hf2⟩
    rw [← H1.out]
    have hb2 := (hb0.below (Fr.alloc _ (.cells #[.slice a1 bs.length c1] 24))).below hf2
    go_wp2_with fail
    refine (of_any _ _ _ (partsAt_new1 w2 _ bs 24 hb2)).mono ?_
    rintro e w3 ⟨rfl, hf3⟩
    rw [← H2.out]
    go_wp2_with (go_at_call 7; refine (awake_any _).mono ?_; rintro e w4 ⟨rfl, hf4⟩)
    go_ret
    exact ⟨rfl, ((((hf1.trans (Fr.alloc _ _) (by simp) (n := []) (by simp)).trans hf2 (by simp) (n := []) (by simp)).trans (Fr.alloc _ _) (by simp) (n := []) (by simp)).trans hf3 (by simp) (n := []) (by simp)).trans hf4 (by simp) (by simp)⟩

set_option maxRecDepth 100000 in
theorem burst_any (v0 : Value) (bs : List UInt8) (n : Int) (turn : Nat) (w : World) (h0 : bytesAt w v0 bs) (hn : -9223372036854775808 ≤ n ∧ n ≤ 9223372036854775807) (ht : turn < 4294967296) :
    Calls Try.prog 5 #[v0, .int .i64 n, .int .u32 turn] w fun e w' => e = .returned (.bool true) ∧ Fr [] w w' := by
  by_cases hb : 1000 < bs.length
  · obtain ⟨a0, c0, rfl, -, -⟩ := h0.form
    have hb1 : decide (1000 < (bs.length : Int)) = true := decide_eq_true (by omega)
    go_enter Try.func5, Try.ntmps5
    go_wp2_with (go_at_call 7; refine (awake_any _).mono ?_; rintro e w' ⟨rfl, hf⟩)
    go_ret
    exact ⟨rfl, hf⟩
  · by_cases hn0 : n < 0
    · obtain ⟨a0, c0, rfl, -, -⟩ := h0.form
      have hb1 : decide (1000 < (bs.length : Int)) = false := decide_eq_false (by omega)
      have hb2 : decide (n < 0) = true := decide_eq_true hn0
      go_enter Try.func5, Try.ntmps5
      go_wp2_with (go_at_call 7; refine (awake_any _).mono ?_; rintro e w' ⟨rfl, hf⟩)
      go_ret
      exact ⟨rfl, hf⟩
    · by_cases hn1 : 8 * (bs.length : Int) - 32 < n
      · obtain ⟨a0, c0, rfl, -, -⟩ := h0.form
        have hb1 : decide (1000 < (bs.length : Int)) = false := decide_eq_false (by omega)
        have hb2 : decide (n < 0) = false := decide_eq_false hn0
        have hb3 : decide (8 * (bs.length : Int) - 32 < n) = true := decide_eq_true hn1
        go_enter Try.func5, Try.ntmps5
        go_wp2_with (go_at_call 7; refine (awake_any _).mono ?_; rintro e w' ⟨rfl, hf⟩)
        go_ret
        exact ⟨rfl, hf⟩
      · obtain ⟨a, rfl⟩ := Int.eq_ofNat_of_zero_le (show 0 ≤ n by omega)
        exact burst_small v0 bs a turn w h0 ht hb (by omega)
end Go.Proofs.Ytbbnjfkhaoenhaa
