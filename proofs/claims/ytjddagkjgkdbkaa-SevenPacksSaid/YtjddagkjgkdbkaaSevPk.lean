/- SevenPacks: Pack and Len return the specified results, and Unpack restores the bytes. -/
import Derived.Test.YtjddagkjgkdbkaaSevLaw
import Derived.Deep.DeepCutAuto
namespace Go.Proofs.Ytjddagkjgkdbkaa
open Go.RowKit

theorem cut_bytes {w : World} {a A1 : Option Addr} {cap n : Nat} {q : List UInt8} (h : (if cap = n then a else a.map fun x => x.add n) = A1) (hn : n ≤ q.length) (hb : bytesAt w (.slice a q.length cap) q) : bytesAt w (.slice A1 (q.length - n) (cap - n)) (q.drop n) := by
  have := hb.cut (lo := n) (hi := q.length) hn (Nat.le_refl _)
  rw [List.take_length] at this
  simp only [Nat.mul_one] at this
  rwa [h] at this
set_option maxHeartbeats 1600000 in
set_option maxRecDepth 100000 in
theorem packs_any (b : List UInt8) (cut n : Int) (sv : Value) (w : World) (h : bytesAt w sv b) (hcut : -9223372036854775808 ≤ cut ∧ cut ≤ 9223372036854775807) (hn : -9223372036854775808 ≤ n ∧ n ≤ 9223372036854775807) :
    Calls Try.prog 3 #[sv, .int .i64 cut, .int .i64 n] w fun e w' => e = .returned (.bool true) ∧ Fr [] w w' := by
  obtain ⟨a0, c0, rfl, hle, hmx⟩ := h.form
  simp only [maxLen] at hmx
  by_cases hl : 300 < b.length
  · have hb1 : decide (300 < (b.length : Int)) = true := decide_eq_true (by omega)
    go_enter Try.func3, Try.ntmps3
    go_wp2_with (go_at_call 6; refine (awake_any _).mono ?_; rintro e w' ⟨rfl, hf⟩)
    go_ret
    exact ⟨rfl, hf⟩
  have hb1 : decide (300 < (b.length : Int)) = false := decide_eq_false (by omega)
  have HB := Lib.hid h
  have HRP := Lib.hid (ref_pack_any b _ w h (by omega))
  have HUP := Lib.hid (fun v wx (hx : bytesAt wx v (packOf b)) => unpack_yes (packOf b) v wx hx (by rw [packOf_length]; simp only [lenP]; omega) (okU_pack b))
  have HPA := Lib.hid (fun parts v wx (hx : partsAt wx v parts) (hp : parts.flatten = b) => pack_any parts v wx hx (by rw [hp]; omega))
  have HWH := Lib.hid (fun v wx (hx : bytesAt wx v (packOf b)) => whole_any (packOf b) v wx hx)
  have hwb := (okU_parts (okU_pack b)).1
  have hlen := len_any (b.length : Int) 
  have hl7 : len7 (b.length : Int) = (packOf b).length := by rw [packOf_length, len7, if_pos (by omega), Int.toNat_natCast]
  rw [unpack_pack] at HUP
  rw [hwb] at HWH
  rw [hl7] at hlen
  have HLE := Lib.hid hlen
  have hpl : (packOf b).length ≤ 343 := by rw [packOf_length]; simp only [lenP]; omega
  obtain ⟨X, hX⟩ : ∃ X, X = packOf b := ⟨_, rfl⟩
  have HX := Lib.hid hX
  rw [← hX] at HRP HUP HWH HLE hpl
  clear h hwb hlen hl7 hX
  go_enter Try.func3, Try.ntmps3
  go_wp2_with (first
    | (go_at_call 7; refine HRP.out.mono ?_; rintro e w1 ⟨v7, rfl, hx7, hf1⟩; obtain ⟨a7, c7, rfl, hle7, hmx7⟩ := hx7.form)
    | (go_at_call 8; refine (HUP.out _ _ hx7).mono ?_; rintro e w2 ⟨⟨v8, rfl, hx8⟩, hf2⟩; obtain ⟨a8, c8, rfl, hle8, hmx8⟩ := hx8.form))
  have hf02 : Fr [] w w2 := hf1.trans hf2 (by simp) (by simp)
  have HX7 := Lib.hid (hx7.below hf2)
  have HX8 := Lib.hid hx8
  have HB2 := Lib.hid (HB.out.below hf02)
  have HF := Lib.hid hf02
  clear hx7 hx8 hf1 hf2 hf02 HRP HUP HB
  refine wp_region_G [] [(0, false), (4, false), (5, false), (1, true), (2, true), (3, false), (6, false), (7, false), (8, false), (9, false), (11, false), (12, false), (10, true), (13, false), (14, false), (15, false), (16, false), (17, false), (18, false), (19, false), (20, false), (21, false), (22, false), (23, false), (24, false), (25, false), (26, false), (27, false), (28, true), (29, false), (30, false)] 92 rfl (by kernel_rfl) (by kernel_rfl) (by kernel_rfl) (fun c a d v w h => by cases d <;> exact h) (fun w3 hf3 => ?_)
  simp only [List.map_cons, List.map_nil, List.getElem?_toArray, List.getElem?_cons_succ, List.getElem?_cons_zero, Option.getD_some]
  have hA : Later [] w3 _ := Later.conv (P := Try.prog) (HX7.out.below hf3) (by simp) 22 5 9 Try.underlying22 Try.underlying5 Try.underlying9
  have hB : Later [] w3 _ := Later.conv (P := Try.prog) (HX8.out.below hf3) (by simp) 22 5 9 Try.underlying22 Try.underlying5 Try.underlying9
  have hC : Later [] w3 _ := Later.conv (P := Try.prog) (HB2.out.below hf3) (by simp) 22 5 9 Try.underlying22 Try.underlying5 Try.underlying9
  have HA := Lib.hid hA
  have HBB := Lib.hid hB
  have HC := Lib.hid hC
  have hp := partsAt_new1 w3 _ _ 22 (HB2.out.below hf3)
  have hpk := HPA.out [b] _ _ hp (by simp)
  rw [show ([b] : List (List UInt8)).flatten = b from by simp, ← HX.out] at hpk
  have HPK := Lib.hid hpk
  clear hA hB hC hp hpk
  repeat (apply wpG_t; · (intro w' hf'; have c1 := HA.out w' hf'; have c2 := HBB.out w' hf'; have c3 := HC.out w' hf'; go_wp2_with fail; exact ⟨rfl, rfl⟩))
  refine wpG_x ?_
  go_wp2_with fail
  refine ⟨Fr.alloc _ _, rfl, ?_⟩
  refine wpG_x ?_
  go_wp2_with (go_at_call 9; refine HPK.out.mono ?_; rintro e w5 ⟨v5, rfl, hb5, hf5⟩)
  have hf35 : Fr [] w3 w5 := (Fr.alloc _ _).trans hf5 (by simp) (by simp)
  refine ⟨hf5, rfl, ?_⟩
  have hA : Later [] w5 _ := Later.conv (P := Try.prog) hb5 (by simp) 22 5 9 Try.underlying22 Try.underlying5 Try.underlying9
  have HD := Lib.hid hA
  have HA5 := Lib.hid (Later.next HA.out hf35)
  have HB5 := Lib.hid (Later.next HBB.out hf35)
  have HC5 := Lib.hid (Later.next HC.out hf35)
  have hwh := HWH.out _ _ (HX7.out.below (hf3.trans hf35 (by simp) (n := []) (by simp)))
  have HWQ := Lib.hid hwh
  clear hA hwh HA HBB HC HPK
  repeat (apply wpG_t; · (intro w' hf'; have c1 := HA5.out w' hf'; have c2 := HB5.out w' hf'; have c3 := HC5.out w' hf'; have c4 := HD.out w' hf'; go_wp2_with fail; exact ⟨rfl, rfl⟩))
  refine wpG_x ?_
  go_wp2_with (go_at_call 10; refine (HLE.out _).mono ?_; rintro e w6 ⟨rfl, rfl⟩)
  refine ⟨Fr.refl _ _, rfl, ?_⟩
  repeat (apply wpG_t; · (intro w' hf'; have c1 := HA5.out w' hf'; have c2 := HB5.out w' hf'; have c3 := HC5.out w' hf'; have c4 := HD.out w' hf'; go_wp2_with fail; exact ⟨rfl, rfl⟩))
  refine wpG_x ?_
  go_wp2_with (go_at_call 11; refine HWQ.out.mono ?_; rintro e w6 ⟨rfl, rfl⟩)
  refine ⟨Fr.refl _ _, rfl, ?_⟩
  repeat (apply wpG_t; · (intro w' hf'; go_wp2_with fail; exact ⟨rfl, rfl⟩))
  refine wpG_end ?_
  have hf05 : Fr [] w w5 := (HF.out.trans hf3 (by simp) (n := []) (by simp)).trans hf35 (by simp) (by simp)
  have HX75 := Lib.hid (HX7.out.below (hf3.trans hf35 (by simp) (n := []) (by simp)))
  have HB5' := Lib.hid (HB2.out.below (hf3.trans hf35 (by simp) (n := []) (by simp)))
  clear HA5 HB5 HC5 HD HWQ HX7 HX8 HB2 HF hb5 hf3 hf35 hf5 HWH HLE
  go_wp2_with fail
  go_cut [74] (fun s74 wx => s74 = .bool false ∧ Fr [] w wx)
  case first =>
    by_cases hc0 : 0 ≤ cut
    · have hd0 : decide (0 ≤ cut) = true := decide_eq_true hc0
      by_cases hc1 : cut ≤ (b.length : Int)
      · obtain ⟨k, rfl⟩ := Int.eq_ofNat_of_zero_le hc0
        have hk : k ≤ b.length := by omega
        have hd1 : decide (k ≤ b.length) = true := decide_eq_true hk
        obtain ⟨A1, hA1⟩ : ∃ A1, (if c0 = k then a0 else a0.map fun x => x.add k) = A1 := ⟨_, rfl⟩
        have HA1 := Lib.hid hA1
        refine wp_region_G [] [(0, false), (1, false), (2, false), (3, false), (4, false), (5, false), (6, false), (7, false), (8, false), (9, false), (10, false), (11, false), (12, false), (13, false), (14, false), (18, false), (19, false), (15, true), (16, true), (17, false), (20, false), (21, false)] 92 rfl (by kernel_rfl) (by kernel_rfl) (by kernel_rfl) (fun c a d v w h => by cases d <;> exact h) (fun w6 hf6 => ?_)
        simp only [List.map_cons, List.map_nil, List.getElem?_toArray, List.getElem?_cons_succ, List.getElem?_cons_zero, Option.getD_some]
        have hA : Later [] w6 _ := Later.conv (P := Try.prog) (HX75.out.below hf6) (by simp) 22 5 9 Try.underlying22 Try.underlying5 Try.underlying9
        have HA := Lib.hid hA
        clear hA
        repeat (apply wpG_t; · (intro w' hf'; have c1 := HA.out w' hf'; go_wp2_with fail; exact ⟨rfl, rfl⟩))
        refine wpG_x ?_
        go_wp2_with fail
        refine ⟨Fr.alloc _ _, rfl, ?_⟩
        have hp := partsAt_new2 w6 _ _ _ _ 22 ((HB5'.out.below hf6).take hk) (cut_bytes HA1.out hk (HB5'.out.below hf6))
        have hpk := HPA.out [b.take k, b.drop k] _ _ hp (by simp)
        rw [show ([b.take k, b.drop k] : List (List UInt8)).flatten = b from by simp, ← HX.out] at hpk
        have HPK := Lib.hid hpk
        clear hp hpk
        refine wpG_x ?_
        go_wp2_with (go_at_call 9; refine HPK.out.mono ?_; rintro e w7 ⟨v9, rfl, hb9, hf7⟩)
        have hf67 : Fr [] w6 w7 := (Fr.alloc _ _).trans hf7 (by simp) (by simp)
        refine ⟨hf7, rfl, ?_⟩
        have hA : Later [] w7 _ := Later.conv (P := Try.prog) hb9 (by simp) 22 5 9 Try.underlying22 Try.underlying5 Try.underlying9
        have HD := Lib.hid hA
        clear hA
        repeat (apply wpG_t; · (intro w' hf'; have c1 := HD.out w' hf'; go_wp2_with fail; exact ⟨rfl, rfl⟩))
        refine wpG_end ?_
        go_wp2_with fail
        go_meet
        exact ⟨rfl, (hf05.trans hf6 (by simp) (n := []) (by simp)).trans hf67 (by simp) (by simp)⟩
      · have hd1 : decide (cut ≤ (b.length : Int)) = false := decide_eq_false hc1
        clear hc0 hc1 hcut hn
        refine wp_region_G [] [(0, false), (1, false), (2, false), (3, false), (4, false), (5, false), (6, false), (7, false), (8, false), (9, false), (10, false), (11, false), (12, false), (13, false), (14, false), (18, false), (19, false), (15, true), (16, true), (17, false), (20, false), (21, false)] 92 rfl (by kernel_rfl) (by kernel_rfl) (by kernel_rfl) (fun c a d v w h => by cases d <;> exact h) (fun w6 hf6 => ?_)
        simp only [List.map_cons, List.map_nil, List.getElem?_toArray, List.getElem?_cons_succ, List.getElem?_cons_zero, Option.getD_some]
        repeat (apply wpG_t; · (intro w' hf'; go_wp2_with fail; exact ⟨rfl, rfl⟩))
        refine wpG_x ?_
        go_wp2_with fail
        refine ⟨Fr.refl _ _, rfl, ?_⟩
        refine wpG_x ?_
        go_wp2_with fail
        refine ⟨Fr.refl _ _, rfl, ?_⟩
        repeat (apply wpG_t; · (intro w' hf'; go_wp2_with fail; exact ⟨rfl, rfl⟩))
        refine wpG_end ?_
        go_wp2_with fail
        go_meet
        exact ⟨rfl, hf05.trans hf6 (by simp) (by simp)⟩
    · have hd0 : decide (0 ≤ cut) = false := decide_eq_false hc0
      clear hc0 hcut hn
      refine wp_region_G [] [(0, false), (1, false), (2, false), (3, false), (4, false), (5, false), (6, false), (7, false), (8, false), (9, false), (10, false), (11, false), (12, false), (13, false), (14, false), (18, false), (19, false), (15, true), (16, true), (17, false), (20, false), (21, false)] 92 rfl (by kernel_rfl) (by kernel_rfl) (by kernel_rfl) (fun c a d v w h => by cases d <;> exact h) (fun w6 hf6 => ?_)
      simp only [List.map_cons, List.map_nil, List.getElem?_toArray, List.getElem?_cons_succ, List.getElem?_cons_zero, Option.getD_some]
      repeat (apply wpG_t; · (intro w' hf'; go_wp2_with fail; exact ⟨rfl, rfl⟩))
      refine wpG_x ?_
      go_wp2_with fail
      refine ⟨Fr.refl _ _, rfl, ?_⟩
      refine wpG_x ?_
      go_wp2_with fail
      refine ⟨Fr.refl _ _, rfl, ?_⟩
      repeat (apply wpG_t; · (intro w' hf'; go_wp2_with fail; exact ⟨rfl, rfl⟩))
      refine wpG_end ?_
      go_wp2_with fail
      go_meet
      exact ⟨rfl, hf05.trans hf6 (by simp) (by simp)⟩
  case rest =>
    obtain ⟨rfl, hf6⟩ := hcut
    clear HX75 HB5' HPA HX hcut
    have HAW := Lib.hid (fun wx => awake_any wx)
    by_cases h0 : 0 ≤ n
    · have hd0 : decide (0 ≤ n) = true := decide_eq_true h0
      by_cases h1 : n ≤ 1048576
      · have hd1 : decide (n ≤ 1048576) = true := decide_eq_true h1
        obtain ⟨k, rfl⟩ := Int.eq_ofNat_of_zero_le h0
        have hln := len_any (k : Int) wc
        have h7 : ((len7 (k : Int) : Nat) : Int) = (8 * (k : Int) + 6) / 7 := by
          rw [len7, if_pos ⟨h0, h1⟩, Int.toNat_natCast, lenP]; omega
        rw [h7] at hln
        have HL := Lib.hid hln
        have hk : k ≤ 1048576 := by omega
        clear hln h7 h0 h1 hn
        go_wp2_with (first
          | (go_at_call 10; refine HL.out.mono ?_; rintro e w8 ⟨rfl, rfl⟩)
          | (go_at_call 6; refine (HAW.out _).mono ?_; rintro e w9 ⟨rfl, hf9⟩))
        go_ret
        exact ⟨rfl, hf6.trans hf9 (by simp) (by simp)⟩
      · have hd1 : decide (n ≤ 1048576) = false := decide_eq_false h1
        have hln := len_any n wc
        rw [show len7 n = 0 from if_neg (by omega)] at hln
        have HL := Lib.hid hln
        clear hln h0 h1 hn
        go_wp2_with (first
          | (go_at_call 10; refine HL.out.mono ?_; rintro e w8 ⟨rfl, rfl⟩)
          | (go_at_call 6; refine (HAW.out _).mono ?_; rintro e w9 ⟨rfl, hf9⟩))
        go_ret
        exact ⟨rfl, hf6.trans hf9 (by simp) (by simp)⟩
    · have hd0 : decide (0 ≤ n) = false := decide_eq_false h0
      have hln := len_any n wc
      rw [show len7 n = 0 from if_neg (by omega)] at hln
      have HL := Lib.hid hln
      clear hln h0 hn
      go_wp2_with (first
        | (go_at_call 10; refine HL.out.mono ?_; rintro e w8 ⟨rfl, rfl⟩)
        | (go_at_call 6; refine (HAW.out _).mono ?_; rintro e w9 ⟨rfl, hf9⟩))
      go_ret
      exact ⟨rfl, hf6.trans hf9 (by simp) (by simp)⟩
end Go.Proofs.Ytjddagkjgkdbkaa
