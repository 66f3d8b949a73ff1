/- SevenBurst: bits turned within 32 in a row of what is packed are, if that is unpacked as something, bits turned within 32 in a row of it, and some. -/
import Derived.Test.YtjddagkjgkdbkaaSevLaw
namespace Go.Proofs.Ytjddagkjgkdbkaa
open Go.RowKit

/-- Where the two lists differ so far: nowhere, or from f to e. -/
def DiffTo (x b : List UInt8) (i : Nat) (f e : Value) : Prop :=
  (f = .int .i64 (-1) ∧ e = .int .i64 (-1) ∧ ∀ q, q < i → bitOf x q = bitOf b q) ∨
    ∃ fn en : Nat, f = .int .i64 (fn : Int) ∧ e = .int .i64 (en : Int) ∧ fn ≤ en ∧ en < i ∧ bitOf x fn ≠ bitOf b fn ∧ bitOf x en ≠ bitOf b en
def BurstRel (x b : List UInt8) (T : Nat) (w : World) (f e i : Value) (wr : World) : Prop :=
  ∃ k : Nat, k ≤ T ∧ i = .int .i64 (k : Int) ∧ DiffTo x b k f e ∧ Fr [] w wr
set_option maxHeartbeats 1600000 in
set_option maxRecDepth 100000 in
theorem burst_yes (b : List UInt8) (a turn : Nat) (sv : Value) (w : World) (h : bytesAt w sv b) (hl : ¬ 300 < b.length) (ht : turn < 4294967296) (ht0 : turn ≠ 0) (ha : a + 32 ≤ 8 * (packOf b).length) :
    Calls Try.prog 5 #[sv, .int .i64 a, .int .u32 turn] w fun e w' => e = .returned (.bool true) ∧ Fr [] w w' := by
  obtain ⟨a0, c0, rfl, hle, hmx⟩ := h.form
  simp only [maxLen] at hmx
  have hb1 : decide (300 < (b.length : Int)) = false := decide_eq_false (by omega)
  have hb2 : ((turn : Int) == 0) = false := by rw [beq_eq_false_iff_ne]; omega
  have hpl : (packOf b).length ≤ 343 := by rw [packOf_length]; simp only [lenP]; omega
  have hd1 : decide ((a : Int) < 0) = false := decide_eq_false (by omega)
  have hd2 : decide (8 * ((packOf b).length : Int) - 32 < (a : Int)) = false := decide_eq_false (by omega)
  have HB := Lib.hid h
  have HPA := Lib.hid (fun v wx (hx : partsAt wx v [b]) => pack_any [b] v wx hx (by simp; omega))
  rw [show ([b] : List (List UInt8)).flatten = b from by simp] at HPA
  have HTU := Lib.hid (fun v wx (hx : bytesAt wx v (packOf b)) => ref_turned_any (packOf b) a turn v wx hx (by omega) ha ht)
  have HF1 := Lib.hid (fun l (hok : okU l = true) (hll : l.length = (packOf b).length) (hle : le l = le (packOf b) ^^^ (turn * 2 ^ a)) => burst_some b l a turn hok hll hle ht0)
  have HF2 := Lib.hid (fun l (hok : okU l = true) (hle : le l = le (packOf b) ^^^ (turn * 2 ^ a)) => burst_near b l a turn hok hle ht)
  have HF3 := Lib.hid (fun l (hll : l.length = (packOf b).length) => burst_len b l hll)
  obtain ⟨X, hX⟩ : ∃ X, X = packOf b := ⟨_, rfl⟩
  rw [← hX] at HPA HTU HF1 HF2 HF3 hpl hd2
  clear h ht0 ha hX
  go_enter Try.func5, Try.ntmps5
  go_wp2_with fail
  have hp := partsAt_new1 w _ _ 22 HB.out
  refine (HPA.out _ _ hp).mono ?_
  rintro e w1 ⟨v1, rfl, hx1, hf1⟩
  obtain ⟨a1, c1, rfl, hle1, hmx1⟩ := hx1.form
  have hf01 : Fr [] w w1 := (Fr.alloc w _).trans hf1 (by simp) (by simp)
  clear hp hf1 HPA
  go_wp2_with fail
  refine (HTU.out _ _ hx1).mono ?_
  rintro e w2 ⟨v2, rfl, l, hx2, hll, hlel, hf2⟩
  have hf02 : Fr [] w w2 := hf01.trans hf2 (by simp) (by simp)
  cases hok : okU l with
  | false =>
    have HU := Lib.hid (unpack_no l v2 w2 hx2 (by omega) hok)
    clear hok hx1 hx2 hf01 hf2 HTU HF1 HF2 HF3 hlel
    go_wp2_with (first
      | (go_at_call 8; refine HU.out.mono ?_; rintro e w3 ⟨rfl, hf3⟩)
      | (go_at_call 6; refine (awake_any _).mono ?_; rintro e w4 ⟨rfl, hf4⟩))
    go_ret
    exact ⟨rfl, (hf02.trans hf3 (by simp) (n := []) (by simp)).trans hf4 (by simp) (by simp)⟩
  | true =>
    have HU := Lib.hid (unpack_yes l v2 w2 hx2 (by omega) hok)
    have hsome := HF1.out l hok hll hlel
    have hnear := HF2.out l hok hlel
    have hlen := HF3.out l hll
    obtain ⟨x, hx⟩ : ∃ x, x = unpackOf l := ⟨_, rfl⟩
    rw [← hx] at HU hsome hnear hlen
    have HSO := Lib.hid hsome
    have HNE := Lib.hid hnear
    have HLX := Lib.hid hlen
    have hxl : x.length ≤ 300 := by omega
    have hdl : ((x.length : Int) != (b.length : Int)) = false := by rw [bne_eq_false_iff_eq]; omega
    clear hok hx1 hx2 hf01 hf2 HTU HF1 HF2 HF3 hlel hx hsome hnear hll hlen
    go_wp2_with (first
      | (go_at_call 8; refine HU.out.mono ?_; rintro e w3 ⟨⟨v3, rfl, hx3⟩, hf3⟩; obtain ⟨a3, c3, rfl, hle3, hmx3⟩ := hx3.form))
    have hf03 : Fr [] w w3 := hf02.trans hf3 (by simp) (by simp)
    refine (bits_any x _ w3 hx3 (by omega)).mono ?_
    rintro e w4 ⟨v4, rfl, hu4, hf4⟩
    have hf04 : Fr [] w w4 := hf03.trans hf4 (by simp) (by simp)
    have HBI := Lib.hid (bits_any b _ w4 (HB.out.below hf04) (by omega))
    rw [HLX.out] at hu4
    obtain ⟨T, hT⟩ : ∃ T, T = 8 * b.length := ⟨_, rfl⟩
    rw [← hT] at hu4 HBI
    have HSO' : Hid (¬ ∀ q, q < T → bitOf x q = bitOf b q) := by rw [hT]; exact HSO.out
    have hTl : T ≤ 2400 := by omega
    obtain ⟨a4, c4, rfl, hle4, hmx4⟩ := hu4.form
    rw [bitsN_length] at hle4 ⊢
    clear hx3 hf3 hf03 hf02 HU hT HB HSO
    go_wp2_with (go_at_call 14; refine HBI.out.mono ?_; rintro e w5 ⟨v5, rfl, hu5, hf5⟩)
    have hf05 : Fr [] w w5 := hf04.trans hf5 (by simp) (by simp)
    obtain ⟨a5, c5, rfl, hle5, hmx5⟩ := hu5.form
    rw [bitsN_length] at hle5 ⊢
    have HU4 := Lib.hid (hu4.below hf5)
    have HU5 := Lib.hid hu5
    clear hu4 hu5 hf4 hf5 hf04 HBI
    go_loopw [12, 13, 14] (BurstRel x b T w5) (fun _ _ s _ => T - (intOf s).toNat)
    case atStart => exact ⟨0, Nat.zero_le _, rfl, .inl ⟨rfl, rfl, fun q hq => by omega⟩, Fr.refl _ _⟩
    case round =>
      obtain ⟨k, hk, rfl, hdiff, hf⟩ := hrel
      by_cases hkT : k < T
      · have hd3 : decide (k < T) = true := decide_eq_true hkT
        obtain ⟨b4, o4, rfl, hc4⟩ := byteAt (HU4.out.below hf) k (by rw [bitsN_length]; exact hkT)
        obtain ⟨b5, o5, rfl, hc5⟩ := byteAt (HU5.out.below hf) k (by rw [bitsN_length]; exact hkT)
        rw [bitsN_get _ T k hkT, UInt8.toNat_ofNat'] at hc4 hc5
        have hA2 := bitOf_lt x k
        have hB2 := bitOf_lt b k
        obtain ⟨A, hA⟩ : ∃ A, A = bitOf x k := ⟨_, rfl⟩
        obtain ⟨B, hB⟩ : ∃ B, B = bitOf b k := ⟨_, rfl⟩
        rw [← hA] at hA2
        rw [← hB] at hB2
        rw [show le x / 2 ^ k % 2 = A from hA.symm, Nat.mod_eq_of_lt (by omega)] at hc4
        rw [show le b / 2 ^ k % 2 = B from hB.symm, Nat.mod_eq_of_lt (by omega)] at hc5
        by_cases hAB : A = B
        · have hne : ((A : Int) != (B : Int)) = false := by rw [bne_eq_false_iff_eq]; omega
          have HDF : Hid (∀ f e, DiffTo x b k f e → DiffTo x b (k + 1) f e) := by
            intro f e hd
            rcases hd with ⟨rfl, rfl, h3⟩ | ⟨fn, en, rfl, rfl, h3, h4, h5, h6⟩
            · refine .inl ⟨rfl, rfl, fun q hq => ?_⟩
              by_cases e : q = k
              · subst e; rw [← hA, ← hB]; exact hAB
              · exact h3 q (by omega)
            · exact .inr ⟨fn, en, rfl, rfl, h3, by omega, h5, h6⟩
          have HDD := Lib.hid hdiff
          clear hAB hA hB hdiff
          go_wp2_with fail
          go_region
          go_wp2_with fail
          exact ⟨⟨k + 1, by omega, by go_num, HDF.out _ _ HDD.out, hf.andDrew⟩, by simp [intOf]; omega⟩
        · have hne : ((A : Int) != (B : Int)) = true := by rw [bne_iff_ne]; omega
          have HAB := Lib.hid (show bitOf x k ≠ bitOf b k by rw [← hA, ← hB]; exact hAB)
          clear hAB hA hB
          rcases hdiff with ⟨rfl, rfl, h3⟩ | ⟨fn, en, rfl, rfl, h3, h4, h5, h6⟩
          · clear h3
            go_wp2_with fail
            go_region
            go_wp2_with fail
            exact ⟨⟨k + 1, by omega, by go_num, .inr ⟨k, k, rfl, rfl, Nat.le_refl _, by omega, HAB.out, HAB.out⟩, hf.andDrew⟩, by simp [intOf]; omega⟩
          · have hd4 : decide ((fn : Int) < 0) = false := decide_eq_false (by omega)
            have H5 := Lib.hid h5
            clear h5 h6
            go_wp2_with fail
            go_region
            go_wp2_with fail
            exact ⟨⟨k + 1, by omega, by go_num, .inr ⟨fn, k, rfl, rfl, by omega, by omega, H5.out, HAB.out⟩, hf.andDrew⟩, by simp [intOf]; omega⟩
      · have hd3 : decide (k < T) = false := decide_eq_false hkT
        obtain rfl : k = T := by omega
        rcases hdiff with ⟨rfl, rfl, h3⟩ | ⟨fn, en, rfl, rfl, h3, h4, h5, h6⟩
        · exact (HSO'.out h3).elim
        · have hn := HNE.out fn en h5 h6 h3
          have hd4 : decide ((0 : Int) ≤ (fn : Int)) = true := decide_eq_true (by omega)
          have hd5 : decide ((en : Int) - (fn : Int) < 32) = true := decide_eq_true (by omega)
          clear h5 h6 HU4 HU5 HSO' HNE
          go_wp2_with (go_at_call 6; refine (awake_any _).mono ?_; rintro e w7 ⟨rfl, hf7⟩)
          go_ret
          exact ⟨rfl, (hf05.trans hf (by simp) (n := []) (by simp)).trans hf7 (by simp) (by simp)⟩
set_option maxRecDepth 100000 in
theorem burst_any (b : List UInt8) (a : Int) (turn : Nat) (sv : Value) (w : World) (h : bytesAt w sv b) (ha : -9223372036854775808 ≤ a ∧ a ≤ 9223372036854775807) (ht : turn < 4294967296) :
    Calls Try.prog 5 #[sv, .int .i64 a, .int .u32 turn] w fun e w' => e = .returned (.bool true) ∧ Fr [] w w' := by
  by_cases hin : 0 ≤ a ∧ a + 32 ≤ 8 * ((packOf b).length : Int) ∧ turn ≠ 0 ∧ ¬ 300 < b.length
  · obtain ⟨k, rfl⟩ := Int.eq_ofNat_of_zero_le hin.1
    exact burst_yes b k turn sv w h hin.2.2.2 ht hin.2.2.1 (by omega)
  obtain ⟨a0, c0, rfl, hle, hmx⟩ := h.form
  simp only [maxLen] at hmx
  by_cases hl : 300 < b.length
  · have hb1 : decide (300 < (b.length : Int)) = true := decide_eq_true (by omega)
    clear hin
    go_enter Try.func5, Try.ntmps5
    go_wp2_with (go_at_call 6; refine (awake_any _).mono ?_; rintro e w' ⟨rfl, hf⟩)
    go_ret
    exact ⟨rfl, hf⟩
  have hb1 : decide (300 < (b.length : Int)) = false := decide_eq_false (by omega)
  by_cases ht0 : turn = 0
  · subst ht0
    clear hin
    go_enter Try.func5, Try.ntmps5
    go_wp2_with (go_at_call 6; refine (awake_any _).mono ?_; rintro e w' ⟨rfl, hf⟩)
    go_ret
    exact ⟨rfl, hf⟩
  have hb2 : ((turn : Int) == 0) = false := by rw [beq_eq_false_iff_ne]; omega
  have hpl : (packOf b).length ≤ 343 := by rw [packOf_length]; simp only [lenP]; omega
  have HB := Lib.hid h
  have HPA := Lib.hid (fun v wx (hx : partsAt wx v [b]) => pack_any [b] v wx hx (by simp; omega))
  rw [show ([b] : List (List UInt8)).flatten = b from by simp] at HPA
  obtain ⟨X, hX⟩ : ∃ X, X = packOf b := ⟨_, rfl⟩
  rw [← hX] at HPA hpl hin
  by_cases ha0 : a < 0
  · have hd1 : decide (a < 0) = true := decide_eq_true ha0
    clear h hX hin ha0 ha ht0
    go_enter Try.func5, Try.ntmps5
    go_wp2_with fail
    refine (HPA.out _ _ (partsAt_new1 w _ _ 22 HB.out)).mono ?_
    rintro e w1 ⟨v1, rfl, hx1, hf1⟩
    obtain ⟨a1, c1, rfl, hle1, hmx1⟩ := hx1.form
    go_wp2_with (go_at_call 6; refine (awake_any _).mono ?_; rintro e w' ⟨rfl, hf⟩)
    go_ret
    exact ⟨rfl, ((Fr.alloc w _).trans hf1 (by simp) (n := []) (by simp)).trans hf (by simp) (by simp)⟩
  · have hd1 : decide (a < 0) = false := decide_eq_false ha0
    have hd2 : decide (8 * (X.length : Int) - 32 < a) = true := decide_eq_true (by omega)
    clear h hX hin ha0 ha ht0
    go_enter Try.func5, Try.ntmps5
    go_wp2_with fail
    refine (HPA.out _ _ (partsAt_new1 w _ _ 22 HB.out)).mono ?_
    rintro e w1 ⟨v1, rfl, hx1, hf1⟩
    obtain ⟨a1, c1, rfl, hle1, hmx1⟩ := hx1.form
    go_wp2_with (go_at_call 6; refine (awake_any _).mono ?_; rintro e w' ⟨rfl, hf⟩)
    go_ret
    exact ⟨rfl, ((Fr.alloc w _).trans hf1 (by simp) (n := []) (by simp)).trans hf (by simp) (by simp)⟩
end Go.Proofs.Ytjddagkjgkdbkaa
