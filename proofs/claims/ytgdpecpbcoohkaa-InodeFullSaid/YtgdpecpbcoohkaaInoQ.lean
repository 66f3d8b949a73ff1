/- InodeFull: a file takes no more than its limit. -/
import Derived.Test.YtgdpecpbcoohkaaInoF
namespace Go.Proofs.Ytgdpecpbcoohkaa
open Go.RowKit

theorem cells_zeros (n : Nat) : (List.replicate n (Value.int .u8 0)) = cellsB (List.replicate n 0) := by simp [cellsB]
set_option maxRecDepth 100000 in
theorem full_any (n : Int) (b : List UInt8) (bv : Value) (w : World) (hb : bytesAt w bv b) :
    Calls Try.prog 5 #[.int .i64 n, bv] w fun e w' => e = .returned (.bool true) ∧ Fr [] w w' := by
  obtain ⟨i, hi, hz0, hz1, hz2⟩ := info_parts infoB
  have HAW := Lib.hid (fun wx => awake_any wx)
  obtain ⟨a0, c0, rfl, hle, hmx⟩ := hb.form
  by_cases h1 : n < 1048000
  · have hd1 : decide (n < 1048000) = true := decide_eq_true h1
    clear hb h1
    go_enter Try.func5, Try.ntmps5
    go_wp2_with (go_at_call 7; refine (HAW.out _).mono ?_; rintro e w' ⟨rfl, hf⟩)
    go_ret
    exact ⟨rfl, hf⟩
  have hd1 : decide (n < 1048000) = false := decide_eq_false h1
  by_cases h2 : 1048576 < n
  · have hd2 : decide (1048576 < n) = true := decide_eq_true h2
    clear hb h1 h2
    go_enter Try.func5, Try.ntmps5
    go_wp2_with (go_at_call 7; refine (HAW.out _).mono ?_; rintro e w' ⟨rfl, hf⟩)
    go_ret
    exact ⟨rfl, hf⟩
  have hd2 : decide (1048576 < n) = false := decide_eq_false h2
  by_cases h3 : 1000 < b.length
  · have hd3 : decide (1000 < (b.length : Int)) = true := decide_eq_true (by omega)
    clear hb h1 h2 h3
    go_enter Try.func5, Try.ntmps5
    go_wp2_with (go_at_call 7; refine (HAW.out _).mono ?_; rintro e w' ⟨rfl, hf⟩)
    go_ret
    exact ⟨rfl, hf⟩
  have hd3 : decide (1000 < (b.length : Int)) = false := decide_eq_false (by omega)
  obtain ⟨m, rfl⟩ := Int.eq_ofNat_of_zero_le (show 0 ≤ n by omega)
  have hm : m ≤ 1048576 := by omega
  have hbl : b.length ≤ 1000 := by omega
  have HB := Lib.hid hb
  have HLT := Lib.hid hb.lt
  obtain ⟨z, hz⟩ : ∃ z : List UInt8, z = List.replicate m 0 := ⟨_, rfl⟩
  have hzl : z.length = m := by rw [hz]; simp
  have HZ := Lib.hid hz
  have HZL := Lib.hid hzl
  have hmm : m ≤ maxLen := by simp [maxLen]; omega
  clear hb h1 h2 h3 hz hzl
  by_cases h4 : 1048576 < m + b.length
  · have hd4 : decide (1048576 < (m : Int) + (b.length : Int)) = true := decide_eq_true (by omega)
    go_enter Try.func5, Try.ntmps5
    go_wp2_with (first
      | (at_make; refine wpL_make rfl _ _ 22 rfl 5 i (.int .u8 0) 1 Try.underlying22 hi hz0 hz1 hz2 rfl m rfl rfl (by omega) hmm ?_; intro w1 hh1 hf1 hs1; have hb1 : bytesAt w1 (.slice (some ⟨w.heap.size, 0, none⟩) m m) z := (bytesAt_of_heap (by have := hh1.out; rwa [cells_zeros, ← HZ.out] at this) (by rw [HZL.out]; exact hmm) m HZL.out.symm))
      | (go_at_call 8; refine (inew_any z _ _ hb1 (by rw [HZL.out]; omega)).mono ?_; rintro e w2 ⟨p, g, rfl, hF2, hf2, hp2, hg2⟩; have hf02 : Fr [] w w2 := (hf1.trans hf2 (by simp) (by simp)))
      | (go_at_call 15; refine (iappend_no p g z.length z b _ w2 hF2 (HB.out.below hf02) (by rw [HZL.out]; exact hm) (by rw [HZL.out]; exact h4)).mono ?_; rintro e w3 ⟨rfl, rfl⟩; have HL := Lib.hid (ilen_any p g z.length z w2 hF2); rw [HZL.out] at HL)
      | (go_at_call 11; refine HL.out.mono ?_; rintro e w4 ⟨rfl, rfl⟩)
      | (go_at_call 7; refine (HAW.out _).mono ?_; rintro e w5 ⟨rfl, hf5⟩))
    go_ret
    exact ⟨rfl, hf02.trans hf5 (by simp) (by simp)⟩
  · have hd4 : decide (1048576 < (m : Int) + (b.length : Int)) = false := decide_eq_false (by omega)
    go_enter Try.func5, Try.ntmps5
    go_wp2_with (first
      | (at_make; refine wpL_make rfl _ _ 22 rfl 5 i (.int .u8 0) 1 Try.underlying22 hi hz0 hz1 hz2 rfl m rfl rfl (by omega) hmm ?_; intro w1 hh1 hf1 hs1; have hb1 : bytesAt w1 (.slice (some ⟨w.heap.size, 0, none⟩) m m) z := (bytesAt_of_heap (by have := hh1.out; rwa [cells_zeros, ← HZ.out] at this) (by rw [HZL.out]; exact hmm) m HZL.out.symm))
      | (go_at_call 8; refine (inew_any z _ _ hb1 (by rw [HZL.out]; omega)).mono ?_; rintro e w2 ⟨p, g, rfl, hF2, hf2, hp2, hg2⟩; have hf02 : Fr [] w w2 := (hf1.trans hf2 (by simp) (by simp)); have hs1' := hf1.size)
      | (go_at_call 15; refine (iappend_yes p g z.length z b _ w2 hF2 (HB.out.below hf02) (by rw [HZL.out]; omega) (fun hne k hk => by have := HLT.out hne k hk; omega)).mono ?_; rintro e w3 ⟨g3, rfl, hF3, hf3, hg3⟩; have HL := Lib.hid (ilen_any p g3 z.length (z ++ b) w3 hF3); rw [List.length_append, HZL.out, Int.natCast_add] at HL; have HS := Lib.hid (isafe_any p g3 z.length (z ++ b) w3 hF3); rw [HZL.out] at HS)
      | (go_at_call 11; refine HL.out.mono ?_; rintro e w4 ⟨rfl, rfl⟩)
      | (go_at_call 12; refine HS.out.mono ?_; rintro e w4 ⟨rfl, rfl⟩)
      | (go_at_call 7; refine (HAW.out _).mono ?_; rintro e w5 ⟨rfl, hf5⟩))
    go_ret
    exact ⟨rfl, (hf02.trans hf3 (by simp) (n := []) (by simp; omega)).trans hf5 (by simp) (by simp)⟩
end Go.Proofs.Ytgdpecpbcoohkaa
