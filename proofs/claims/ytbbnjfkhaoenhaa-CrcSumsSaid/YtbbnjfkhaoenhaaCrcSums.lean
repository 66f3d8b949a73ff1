/- CrcSums: the sum of any parts, and the register behind each of them. -/
import Derived.Test.YtbbnjfkhaoenhaaCrcLaw
namespace Go.Proofs.Ytbbnjfkhaoenhaa
open Go.RowKit

def SumsRel (parts : List (List UInt8)) (w : World) (sa sr si : Value) (wr : World) : Prop :=
  ∃ k x : Nat, k ≤ parts.length ∧ si = .int .i64 (k : Int) ∧ sr = .int .u32 (x : Int) ∧ x = crcS 4294967295 (parts.take k).flatten ∧ (parts.take k).flatten.length ≤ 500 * k ∧
    wr.ownsRow w.heap.size 5 1 sa (parts.take k).flatten.length (cellsB (parts.take k).flatten) ∧ Fr [] w wr
set_option maxRecDepth 100000 in
theorem sums_any (v0 : Value) (parts : List (List UInt8)) (w : World) (h0 : partsAt w v0 parts) :
    Calls Try.prog 3 #[v0] w fun e w' => e = .returned (.bool true) ∧ Fr [] w w' := by
  obtain ⟨a0, c0, rfl, hle, hmx⟩ := h0.form
  by_cases hb : 20 < parts.length
  · have hb1 : decide (20 < (parts.length : Int)) = true := decide_eq_true (by omega)
    go_enter Try.func3, Try.ntmps3
    go_wp2_with (go_at_call 7; refine (awake_any _).mono ?_; rintro e w' ⟨rfl, hf⟩)
    go_ret
    exact ⟨rfl, hf⟩
  · have hb1 : decide (20 < (parts.length : Int)) = false := decide_eq_false (by omega)
    obtain ⟨i, hi, hz0, hz1, hz2⟩ := info_parts infoB
    simp only [maxLen] at hmx
    go_enter Try.func3, Try.ntmps3
    go_wp2_with (go_at_call 8; refine (begin_any _).mono ?_; rintro e w2 ⟨rfl, rfl⟩)
    go_loopw [3, 4, 5] (SumsRel parts w) (fun _ _ i _ => parts.length - (intOf i).toNat)
    case atStart => exact ⟨0, 4294967295, by omega, rfl, rfl, rfl, by simp, World.ownsRow_nil _ _ _ _, Fr.refl _ _⟩
    case round =>
      obtain ⟨k, x, hk, rfl, rfl, hx, hlen, hown, hf⟩ := hrel
      by_cases hkn : k < parts.length
      · have hd : decide (k < parts.length) = true := decide_eq_true hkn
        obtain ⟨b, off, v, rfl, hcw, hpb⟩ := h0.get hkn
        have hc := hf.cell hcw (by simp)
        have hflat := flat_take_succ parts k hkn
        obtain ⟨p, hp⟩ : ∃ p, p = parts[k]'hkn := ⟨_, rfl⟩
        rw [← hp] at hpb hflat
        have hxl : x < 4294967296 := by rw [hx]; exact crcS_lt _ _ (by decide)
        obtain ⟨q, hq⟩ : ∃ q, q = (parts.take k).flatten := ⟨_, rfl⟩
        rw [← hq] at hx hlen hown hflat
        have hpf := hpb.form
        obtain ⟨ap, cp, rfl, hpl, hpm⟩ := hpf
        have hpw := hpb.below hf
        by_cases hbig : 500 < p.length
        · have hb2 : decide (500 < (p.length : Int)) = true := decide_eq_true (by omega)
          clear hflat hq hp hx hcw
          go_wp2_with (go_at_call 7; refine (awake_any _).mono ?_; rintro e w3 ⟨rfl, hf3⟩)
          go_ret
          exact ⟨rfl, hf.trans hf3 (by simp) (by simp)⟩
        · have hb2 : decide (500 < (p.length : Int)) = false := decide_eq_false (by omega)
          have hreg : crcS x p = crcS 4294967295 (q ++ p) := by rw [hx, crcS_append]
          have hsl := crcS_lt p x hxl
          have hsum : crcOf (q ++ p) = 4294967295 - crcS x p := by rw [crcOf, hreg]
          have HR := Lib.hid hreg
          have HF := Lib.hid hflat
          have HS := Lib.hid hsum
          have HC := Lib.hid hcw
          have HPB := Lib.hid hpb
          obtain ⟨y, hy⟩ : ∃ y, y = crcS x p := ⟨_, rfl⟩
          rw [← hy] at hsl HS HR
          have HY := Lib.hid hy
          have hsz := hf.size
          clear hreg hflat hsum hcw hpb hq hp hx hy
          go_wp2_with (first
            | (at_builtin; refine wpL_append rfl (.tmp 24) (.tmp 28) 24 rfl w.heap.size 5 i (.int .u8 0) Try.underlying24 hi hz0 hz1 hz2 rfl _ q rfl hown _ p rfl hpw (by omega) hsz ?_; intro v2 w2 hown2 hf2 hb2; have hfw2 := hf.own hown hf2; have hc2 := hfw2.cell HC.out (by simp))
            | (go_at_call 9; refine (step_any x p _ _ (HPB.out.below hfw2) hxl).mono ?_; rintro e w3 ⟨rfl, hf3⟩; rw [← HY.out])
            | (go_at_call 10; refine (end_any y _ hsl).mono ?_; rintro e w4 ⟨rfl, rfl⟩)
            | (go_at_call 11; refine (ref_sum_any (q ++ p) _ _ ((bytesAt_of_owns hown2).below hf3)).mono ?_; rintro e w4 ⟨rfl, rfl⟩; rw [HS.out]))
          refine ⟨⟨k + 1, y, by omega, by go_num, rfl, by rw [HF.out]; exact HR.out, ?_, ?_, hfw2.trans hf3 (by simp) (by simp)⟩, by simp [intOf]; omega⟩
          · rw [HF.out, List.length_append]; omega
          · rw [HF.out]; exact owns_kept hown2 hf3 (by simp)
      · obtain rfl : k = parts.length := by omega
        rw [List.take_length] at hx hlen hown
        have hpw := h0.below hf
        have hall := bytesAt_of_owns hown
        obtain ⟨q, hq⟩ : ∃ q, q = parts.flatten := ⟨_, rfl⟩
        rw [← hq] at hall
        obtain ⟨z, hz⟩ : ∃ z, z = crcOf q := ⟨_, rfl⟩
        have hz1 : crcOf parts.flatten = z := by rw [hz, hq]
        have hz2 : crcOf [q].flatten = z := by rw [hz]; simp
        have HZ := Lib.hid hz.symm
        have HZ1 := Lib.hid hz1
        have HZ2 := Lib.hid hz2
        clear hz hz1 hz2 hq hx hlen hown hkn hk
        obtain ⟨aq, cq, rfl, -, -⟩ := hall.form
        go_wp2_with fail
        refine (of_any parts _ _ hpw).mono ?_
        rintro e w2 ⟨rfl, hf2⟩
        rw [HZ1.out]
        have hall2 := hall.below hf2
        go_wp2_with (go_at_call 11; refine (ref_sum_any q _ _ hall2).mono ?_; rintro e w4 ⟨rfl, rfl⟩; rw [HZ.out])
        refine (of_any _ _ _ (partsAt_new1 w2 _ q 24 hall2)).mono ?_
        rintro e w3 ⟨rfl, hf3⟩
        rw [HZ2.out]
        have hall3 := (hall2.below (Fr.alloc _ (.cells #[.slice aq q.length cq] 24))).below hf3
        go_wp2_with (first
          | (go_at_call 11; refine (ref_sum_any q _ _ hall3).mono ?_; rintro e w4 ⟨rfl, rfl⟩; rw [HZ.out])
          | (go_at_call 7; refine (awake_any _).mono ?_; rintro e w5 ⟨rfl, hf5⟩))
        go_ret
        exact ⟨rfl, (((hf.trans hf2 (by simp) (n := []) (by simp)).trans (Fr.alloc _ _) (by simp) (n := []) (by simp)).trans hf3 (by simp) (n := []) (by simp)).trans hf5 (by simp) (by simp)⟩
end Go.Proofs.Ytbbnjfkhaoenhaa
