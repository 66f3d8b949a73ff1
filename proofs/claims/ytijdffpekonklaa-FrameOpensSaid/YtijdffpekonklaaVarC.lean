/- Contracts of package varint that read. -/
import Derived.Test.YtijdffpekonklaaOctC
import Derived.Test.YtijdffpekonklaaVarB
import Derived.WalkMore
import Derived.Deep.DeepCutAuto
namespace Go.Proofs.Ytijdffpekonklaa
open Go.RowKit

/-- What takeDigits gives: a number and the reader behind its encoding, or nothing. -/
def Digits (p : Nat) (g : Option Nat) (bs : List UInt8) (w : World) (v : Value) (w' : World) : Prop :=
  (∃ x n : Nat, front bs = some (x, n) ∧ v = .tuple #[.int .u64 (x : Int), .bool true] ∧ isR w' p g (bs.drop n) false ∧ Fr [p] w w') ∨
  (front bs = none ∧ v = .tuple #[.int .u64 0, .bool false] ∧ (∃ rest sp, isR w' p g rest sp) ∧ Fr [p] w w')

def DigRel (p : Nat) (g : Option Nat) (bs : List UInt8) (w : World) (sv si : Value) (wr : World) : Prop :=
  ∃ (i acc : Nat) (sp : Bool), i ≤ 10 ∧ si = .int .i64 (i : Int) ∧ sv = .int .u64 (acc : Int) ∧ acc < 128 ^ i ∧ front bs = dec i acc (bs.drop i) ∧ isR wr p g (bs.drop i) sp ∧ Fr [p] w wr

theorem dec_ten (acc : Nat) (l : List UInt8) : dec 10 acc l = none := by cases l <;> simp [dec]

theorem pow7 (i : Nat) : (2 : Nat) ^ (7 * i) = 128 ^ i := by rw [Nat.pow_mul]
theorem dig_big (i c : Nat) (hi : i < 10) (hc : c < 256) (h : (18446744073709551615 : Int) / 2 ^ (7 * i) < (c : Int) % 128) : i = 9 ∧ 1 < c := by
  have hh : i = 0 ∨ i = 1 ∨ i = 2 ∨ i = 3 ∨ i = 4 ∨ i = 5 ∨ i = 6 ∨ i = 7 ∨ i = 8 ∨ i = 9 := by omega
  rcases hh with rfl | rfl | rfl | rfl | rfl | rfl | rfl | rfl | rfl | rfl <;> simp at h <;> omega
theorem dig_fits (i c : Nat) (hi : i < 10) (hc : c < 256) (h : (c : Int) % 128 ≤ (18446744073709551615 : Int) / 2 ^ (7 * i)) : c % 128 * 128 ^ i < 18446744073709551616 ∧ (i = 9 → c % 128 ≤ 1) := by
  have hh : i = 0 ∨ i = 1 ∨ i = 2 ∨ i = 3 ∨ i = 4 ∨ i = 5 ∨ i = 6 ∨ i = 7 ∨ i = 8 ∨ i = 9 := by omega
  rcases hh with rfl | rfl | rfl | rfl | rfl | rfl | rfl | rfl | rfl | rfl <;> simp at h <;> omega
theorem dig_or (i acc c : Nat) (hi : i < 10) (hacc : acc < 128 ^ i) (h : c % 128 * 128 ^ i < 18446744073709551616) :
    bits .or .u64 (acc : Int) (IntKind.u64.wrap ((c : Int) % 128 * 2 ^ (7 * i))) = ((acc + c % 128 * 128 ^ i : Nat) : Int) := by
  have e1 : ((c : Int) % 128 * 2 ^ (7 * i)) = ((c % 128 * 128 ^ i : Nat) : Int) := by
    rw [← pow7, Int.natCast_mul, Int.natCast_pow, Int.natCast_emod]; rfl
  have e2 : IntKind.u64.wrap ((c % 128 * 128 ^ i : Nat) : Int) = ((c % 128 * 128 ^ i : Nat) : Int) := IntWalk.u64_in _ ⟨by omega, by omega⟩
  have hacc64 : acc < 18446744073709551616 := by
    have : (128 : Nat) ^ i ≤ 128 ^ 9 := Nat.pow_le_pow_right (by decide) (by omega)
    omega
  rw [e1, e2, u64_or_nat _ _ hacc64 h]
  congr 1
  have := Nat.two_pow_add_eq_or_of_lt (i := 7 * i) (b := acc) (by rw [pow7]; exact hacc) (c % 128)
  rw [pow7] at this
  rw [Nat.or_comm, Nat.mul_comm (c % 128), ← this, Nat.add_comm]

set_option maxRecDepth 100000 in
theorem takeDigits_any (p : Nat) (g : Option Nat) (bs : List UInt8) (sp : Bool) (w : World) (h : isR w p g bs sp) :
    Calls Try.prog 50 #[.pointer (some ⟨p, 0, none⟩)] w (Ret (Digits p g bs w)) := by
  go_enter Try.func50, Try.ntmps50
  go_wp2_with fail
  go_step3
  go_wp2_with fail
  go_step3
  go_wp2_with fail
  go_loopw [4, 7] (DigRel p g bs w) (fun _ i _ => 10 - (intOf i).toNat)
  case atStart => exact ⟨0, 0, sp, by omega, rfl, rfl, by simp, rfl, h, Fr.refl _ _⟩
  case round =>
    obtain ⟨i, acc, sp1, hi, rfl, rfl, hacc, hfr, hr, hf⟩ := hrel
    by_cases h10 : i = 10
    · subst h10
      rw [dec_ten] at hfr
      go_wp2_with fail
      rw [Exit.noGoto_ret]
      go_ret2
      exact Ret.mk (.inr ⟨hfr, rfl, ⟨_, _, hr⟩, hf⟩)
    · have hi9 : i < 10 := by omega
      clear h10 hi
      cases hd : bs.drop i with
      | nil =>
        rw [hd] at hr hfr
        have HF := Lib.hid hfr
        clear hfr hd
        go_wp2_with (first
          | (go_at_call 54; refine (rnum_none p g [] sp1 1 _ hr (.inr (.inr (.inr (by simp))))).mono ?_; rintro e w2 ⟨rfl, hr2, hf2⟩)
          | (go_at_call 47; refine (spent_any p g _ _ _ hr2).mono ?_; rintro e w3 ⟨rfl, rfl⟩))
        rw [Exit.noGoto_ret]
        go_ret2
        exact Ret.mk (.inr ⟨HF.out, rfl, ⟨_, _, hr2⟩, hf.trans hf2 (by simp) (by simp)⟩)
      | cons b r =>
        rw [hd] at hr hfr
        have hsp : sp1 = false := by
          cases sp1
          · rfl
          · obtain ⟨_, _, _, _, _, hs⟩ := hr
            cases hs rfl
        subst hsp
        have hrn := rnum_some p g (b :: r) 1 wr hr (by simp) (by omega) (by omega)
        have hdr : bs.drop (i + 1) = r := by rw [← List.drop_drop, hd]; rfl
        obtain ⟨c, hc⟩ : ∃ c, c = b.toNat := ⟨_, rfl⟩
        have hv : val (List.take 1 (b :: r)) = c := by rw [hc]; simp [val]
        rw [hv, show List.drop 1 (b :: r) = r from rfl] at hrn
        have hc256 : c < 256 := by rw [hc]; exact b.toNat_lt
        unfold dec at hfr
        rw [← hc] at hfr
        have HR := Lib.hid hrn
        have HF := Lib.hid hfr
        have HD := Lib.hid hdr
        clear hrn hfr hdr hd hv hc hr
        by_cases hA : c = 0 ∧ 0 < i
        · obtain ⟨rfl, hpos⟩ := hA
          have hp : decide (0 < (i : Int)) = true := decide_eq_true (by omega)
          go_wp2_with (first
            | (go_at_call 54; refine HR.out.mono ?_; rintro e w2 ⟨rfl, hr2, hf2⟩)
            | (go_at_call 47; refine (spent_any p g _ _ _ hr2).mono ?_; rintro e w3 ⟨rfl, rfl⟩))
          rw [Exit.noGoto_ret]
          go_ret2
          refine Ret.mk (.inr ⟨?_, rfl, ⟨_, _, hr2⟩, hf.trans hf2 (by simp) (by simp)⟩)
          rw [HF.out, if_pos (.inr (.inl ⟨by trivial, hpos⟩))]
        · by_cases hc0 : c = 0
          · obtain rfl : i = 0 := by omega
            subst hc0
            obtain rfl : acc = 0 := by simpa using hacc
            go_wp2_with (first
              | (go_at_call 54; refine HR.out.mono ?_; rintro e w2 ⟨rfl, hr2, hf2⟩)
              | (go_at_call 47; refine (spent_any p g _ _ _ hr2).mono ?_; rintro e w3 ⟨rfl, rfl⟩))
            rw [Exit.noGoto_ret]
            go_ret2
            refine Ret.mk (.inl ⟨0, 1, ?_, rfl, ?_, hf.trans hf2 (by simp) (by simp)⟩)
            · rw [HF.out]; rfl
            · rw [← HD.out] at hr2; exact hr2
          · have e0 : ((c : Int) == 0) = false := by rw [beq_eq_false_iff_ne]; omega
            go_wp2_with (first
              | (go_at_call 54; refine HR.out.mono ?_; rintro e w2 ⟨rfl, hr2, hf2⟩)
              | (go_at_call 47; refine (spent_any p g _ _ _ hr2).mono ?_; rintro e w3 ⟨rfl, rfl⟩))
            · have hbig : (18446744073709551615 : Int) / 2 ^ (7 * i) < (c : Int) % 128 := by assumption
              rw [Exit.noGoto_ret]
              go_ret2
              refine Ret.mk (.inr ⟨?_, rfl, ⟨_, _, hr2⟩, hf.trans hf2 (by simp) (by simp)⟩)
              rw [HF.out, if_pos (.inr (.inr (dig_big i c hi9 hc256 hbig)))]
            · have hfit : (c : Int) % 128 ≤ (18446744073709551615 : Int) / 2 ^ (7 * i) := by assumption
              have hlt : (c : Int) < 128 := by assumption
              have hd := dig_fits i c hi9 hc256 hfit
              have hcm : c % 128 = c := by omega
              rw [Exit.noGoto_ret]
              go_ret2
              refine Ret.mk (.inl ⟨acc + c % 128 * 128 ^ i, i + 1, ?_, ?_, ?_, hf.trans hf2 (by simp) (by simp)⟩)
              · rw [HF.out, if_neg (by omega), if_pos (by omega), hcm]
              · exact congrArg (fun n => Value.tuple #[.int .u64 n, .bool true]) (dig_or i acc c hi9 hacc hd.1)
              · rw [HD.out]; exact hr2
            · have hfit : (c : Int) % 128 ≤ (18446744073709551615 : Int) / 2 ^ (7 * i) := by assumption
              have hge : 128 ≤ (c : Int) := by assumption
              have hd := dig_fits i c hi9 hc256 hfit
              have hcm : c % 128 = c - 128 := by omega
              refine ⟨⟨i + 1, acc + c % 128 * 128 ^ i, false, by omega, by go_num, by rw [dig_or i acc c hi9 hacc hd.1], ?_, ?_, by rw [HD.out]; exact hr2, hf.trans hf2 (by simp) (by simp)⟩, by simp [intOf]; omega⟩
              · have hm : c % 128 * 128 ^ i ≤ 127 * 128 ^ i := Nat.mul_le_mul_right _ (by omega)
                rw [Nat.pow_succ]
                omega
              · rw [HD.out, HF.out, if_neg (c := c < 128) (by omega), ← hcm]
                by_cases h9 : i = 9
                · subst h9
                  rw [if_pos (.inr (.inr ⟨rfl, by omega⟩)), dec_ten]
                · rw [if_neg (by omega)]

theorem vspend_any (p : Nat) (g : Option Nat) (rest : List UInt8) (sp : Bool) (w : World) (h : isR w p g rest sp) :
    Calls Try.prog 51 #[.pointer (some ⟨p, 0, none⟩)] w fun e w' => e = .returned (.tuple #[]) ∧ isR w' p g [] true ∧ Fr [p] w w' := by
  go_enter Try.func51, Try.ntmps51
  go_wp2_with (go_at_call 55; refine (take_none p g rest sp (-1) _ h (.inr (.inl (by omega)))).mono ?_; rintro e w2 ⟨rfl, hr2, hf2⟩)
  go_end0
  exact ⟨rfl, hr2, hf2⟩

/-- The number that Take takes, and how many bytes it has; nothing where it is too great. -/
def taken (bs : List UInt8) (most : Nat) : Option (Nat × Nat) := (front bs).filter fun x => x.1 ≤ most
def Taken (p : Nat) (g : Option Nat) (bs : List UInt8) (most : Nat) (w : World) (v : Value) (w' : World) : Prop :=
  (∃ x n : Nat, taken bs most = some (x, n) ∧ v = .int .u64 (x : Int) ∧ isR w' p g (bs.drop n) false ∧ Fr [p] w w') ∨
  (taken bs most = none ∧ v = .int .u64 0 ∧ isR w' p g [] true ∧ Fr [p] w w')
theorem vtake_any (p : Nat) (g : Option Nat) (bs : List UInt8) (sp : Bool) (most : Nat) (w : World) (h : isR w p g bs sp) :
    Calls Try.prog 46 #[.pointer (some ⟨p, 0, none⟩), .int .u64 most] w (Ret (Taken p g bs most w)) := by
  go_enter Try.func46, Try.ntmps46
  go_wp2_with fail
  refine (takeDigits_any p g bs sp _ h).mono ?_
  rintro e w1 ⟨v, rfl, hD⟩
  rcases hD with ⟨x, n, hfr, rfl, hr, hf⟩ | ⟨hfr, rfl, ⟨rest, sp2, hr⟩, hf⟩
  · have HF := Lib.hid hfr
    clear hfr
    by_cases hx : x ≤ most
    · have hd : decide ((most : Int) < (x : Int)) = false := decide_eq_false (by omega)
      have hd' : decide (most < x) = false := decide_eq_false (by omega)
      go_wp2_with fail
      go_ret
      exact Ret.mk (.inl ⟨x, n, by rw [taken, HF.out]; simp [hx], rfl, hr, hf⟩)
    · have hd : decide ((most : Int) < (x : Int)) = true := decide_eq_true (by omega)
      have hd' : decide (most < x) = true := decide_eq_true (by omega)
      go_wp2_with (go_at_call 51; refine (vspend_any p g _ _ _ hr).mono ?_; rintro e w2 ⟨rfl, hr2, hf2⟩)
      go_ret
      exact Ret.mk (.inr ⟨by rw [taken, HF.out]; simp; omega, rfl, hr2, hf.trans hf2 (by simp) (by simp)⟩)
  · have HF := Lib.hid hfr
    clear hfr
    go_wp2_with (go_at_call 51; refine (vspend_any p g _ _ _ hr).mono ?_; rintro e w2 ⟨rfl, hr2, hf2⟩)
    go_ret
    exact Ret.mk (.inr ⟨by rw [taken, HF.out]; rfl, rfl, hr2, hf.trans hf2 (by simp) (by simp)⟩)

theorem vtake_some (p : Nat) (g : Option Nat) (bs : List UInt8) (sp : Bool) (most x n : Nat) (w : World) (h : isR w p g bs sp) (hf : front bs = some (x, n)) (hx : x ≤ most) :
    Calls Try.prog 46 #[.pointer (some ⟨p, 0, none⟩), .int .u64 most] w fun e w' => e = .returned (.int .u64 (x : Int)) ∧ isR w' p g (bs.drop n) false ∧ Fr [p] w w' := by
  have ht : taken bs most = some (x, n) := by rw [taken, hf]; simp [hx]
  refine (vtake_any p g bs sp most w h).mono ?_
  rintro e w' ⟨v, rfl, ⟨x', n', h1, rfl, h2, h3⟩ | ⟨h1, _⟩⟩
  · rw [ht] at h1
    simp only [Option.some.injEq, Prod.mk.injEq] at h1
    obtain ⟨rfl, rfl⟩ := h1
    exact ⟨rfl, h2, h3⟩
  · rw [ht] at h1; cases h1
theorem vtake_none (p : Nat) (g : Option Nat) (bs : List UInt8) (sp : Bool) (most : Nat) (w : World) (h : isR w p g bs sp) (ht : taken bs most = none) :
    Calls Try.prog 46 #[.pointer (some ⟨p, 0, none⟩), .int .u64 most] w fun e w' => e = .returned (.int .u64 0) ∧ isR w' p g [] true ∧ Fr [p] w w' := by
  refine (vtake_any p g bs sp most w h).mono ?_
  rintro e w' ⟨v, rfl, ⟨x', n', h1, rfl, h2, h3⟩ | ⟨h1, rfl, h2, h3⟩⟩
  · rw [ht] at h1; cases h1
  · exact ⟨rfl, h2, h3⟩

end Go.Proofs.Ytijdffpekonklaa
