/- The document's answers root, Root, Begin. -/
import Derived.Test.YtjiighgabfkmpaaDoorShaU
namespace Go.Proofs.YtjiighgabfkmpaaDoor
open Go.RowKit

theorem mem_of_digits {out : List Nat} {n V : Nat} (h : DigitsAt out n n V) : ∀ x ∈ out, x < 65536 := by
  intro x hx
  obtain ⟨i, hi, rfl⟩ := List.getElem_of_mem hx
  exact h.small i hi (by have := h.len; omega)
theorem pow_three (a : Nat) : a ^ 3 = a * a * a := by rw [Nat.pow_succ a 2, Nat.pow_two]
def RootRel (p k r : Nat) (w : World) (vv vb : Value) (wr : World) : Prop :=
  ∃ n v : Nat, n ≤ 37 ∧ vv = .int .u64 (v : Int) ∧ vb = .int .i64 ((n : Int) - 1) ∧ v + 2 ^ n ≤ 2 ^ 37 ∧ rootF p k n v = r ∧ Fr [] w wr
theorem rootF_lt (p k : Nat) : ∀ (n v : Nat), v + 2 ^ n ≤ 2 ^ 37 → rootF p k n v < 2 ^ 37
  | 0, v, h => by rw [rootF]; simp at h; omega
  | n + 1, v, h => by
    rw [rootF]
    rw [Nat.pow_succ] at h
    split
    · exact rootF_lt p k n v (by omega)
    · exact rootF_lt p k n (v + 2 ^ n) (by omega)
set_option maxRecDepth 100000 in
theorem ref_root_any (p k : Nat) (w : World) (hp : p < 65536) (hk : k = 2 ∨ k = 3) :
    Calls Tryd.prog 22 #[.int .i64 p, .int .i64 k] w fun e w' => e = .returned (.int .u32 ((rootN p k : Nat) : Int)) ∧ Fr [] w w' := by
  obtain ⟨r, hr⟩ : ∃ r, r = rootF p k 37 0 := ⟨_, rfl⟩
  have hrn : rootN p k = r % 4294967296 := by rw [hr]; rfl
  rw [hrn]
  have hk4 : k ≤ 3 := by omega
  have HR := Lib.hid hr
  have HK := Lib.hid hk
  clear hr hrn hk
  go_enter Tryd.func22, Tryd.ntmps22
  go_wp2_with fail
  go_loopw [5, 6] (RootRel p k r w) (fun _ vb _ => (intOf vb + 1).toNat)
  case atStart => exact ⟨37, 0, by omega, rfl, rfl, by omega, HR.out.symm, Fr.refl _ _⟩
  case round =>
    obtain ⟨n, v, hn, rfl, hvb, hv, hroot, hf⟩ := hrel
    cases n with
    | zero =>
      obtain rfl := show _ = Value.int .i64 (-1) from hvb
      have hr' : v = r := hroot
      have hvl : v < 137438953472 := by simp at hv; omega
      have HQ := Lib.hid hr'
      clear hroot hr' hvb hv
      go_wp2_with fail
      go_ret
      exact ⟨by rw [← HQ.out]; rfl, hf⟩
    | succ m =>
      obtain rfl := show _ = Value.int .i64 (m : Int) from hvb.trans (congrArg (Value.int .i64) (by omega))
      have hdm : decide ((0 : Int) ≤ (m : Int)) = true := decide_eq_true (by omega)
      obtain ⟨t, ht⟩ : ∃ t, t = 2 ^ m := ⟨_, rfl⟩
      rw [rootF, ← ht] at hroot
      rw [Nat.pow_succ, ← ht] at hv
      have hv2 : v + t * 2 ≤ 137438953472 := hv
      have HP := Lib.hid (fun wx => ref_pow_any m wx (by omega))
      rw [← ht] at HP
      have HDG := Lib.hid (fun wx => ref_digits_any (v + t) wx (by omega))
      have HVAL := Lib.hid (digN_val (v + t) (by omega))
      have HLT := Lib.hid (digN_lt (v + t))
      have HT1 := Lib.hid (fun wx x hx => ref_times_any (digN (v + t)) (digN (v + t)) x x wx hx hx HLT.out HLT.out (by simp [digN]) (by simp [digN]))
      have HROOT := Lib.hid hroot
      have HT := Lib.hid ht
      clear hroot hvb hv ht
      rcases HK.out with hk' | hk'
      · have hk3 : ((k : Int) == 3) = false := by rw [beq_eq_false_iff_ne]; omega
        have HKK := Lib.hid hk'
        clear hk'
        go_wp2_with (first
          | (go_at_call 29; refine (HP.out _).mono ?_; rintro e w1 ⟨rfl, rfl⟩)
          | (go_at_call 30; refine (HDG.out _).mono ?_; rintro e w2 ⟨x, rfl, hx2, hf2⟩)
          | (go_at_call 31; refine (HT1.out w2 x hx2).mono ?_; rintro e w3 ⟨y, o2, rfl, hy3, hD3, hf3⟩; have hl3 : o2.length = 6 := hD3.len; have hv3 : valD o2 = (v + t) * (v + t) := (by rw [hD3.val, HVAL.out]); have hm3 := mem_of_digits hD3))
        have habv : aboveN o2 p (2 * k) = decide (p * 65536 ^ (2 * k) < (v + t) ^ k) := by rw [aboveN, HKK.out, hv3, Nat.pow_two]
        have HAB := Lib.hid (ref_above_any o2 p (2 * k) y w3 hy3 (by rw [hl3, HKK.out]; decide) hm3 hp (by rw [hl3]; decide))
        rw [habv] at HAB
        have hfr : Fr [] w w3 := (hf.trans hf2 (by simp) (n := []) (by simp)).trans hf3 (by simp) (by simp)
        by_cases hlt : p * 65536 ^ (2 * k) < (v + t) ^ k
        · rw [decide_eq_true hlt] at HAB
          have hroot := HROOT.out
          rw [if_pos hlt] at hroot
          have HRT := Lib.hid hroot
          clear hroot hlt habv
          go_wp2_with (go_at_call 32; refine HAB.out.mono ?_; rintro e wz ⟨rfl, rfl⟩)
          exact ⟨⟨m, v, by omega, rfl, rfl, by rw [← HT.out]; omega, HRT.out, hfr⟩, by simp [intOf]⟩
        · rw [decide_eq_false hlt] at HAB
          have hroot := HROOT.out
          rw [if_neg hlt] at hroot
          have HRT := Lib.hid hroot
          clear hroot hlt habv
          go_wp2_with (go_at_call 32; refine HAB.out.mono ?_; rintro e wz ⟨rfl, rfl⟩)
          exact ⟨⟨m, v + t, by omega, by go_num, rfl, by rw [← HT.out]; omega, HRT.out, hfr⟩, by simp [intOf]⟩
      · have hk3 : ((k : Int) == 3) = true := by rw [beq_iff_eq]; omega
        have HKK := Lib.hid hk'
        clear hk'
        go_wp2_with (first
          | (go_at_call 29; refine (HP.out _).mono ?_; rintro e w1 ⟨rfl, rfl⟩)
          | (go_at_call 30; refine (HDG.out _).mono ?_; rintro e w2 ⟨x, rfl, hx2, hf2⟩)
          | (go_at_call 31; refine (ref_times_any o2 (digN (v + t)) y x w3 hy3 (hx2.below hf3) hm3 HLT.out (by omega) (by simp [digN])).mono ?_; rintro e w4 ⟨y4, o3, rfl, hy4, hD4, hf4⟩; have hl4 : o3.length = 9 := hD4.len.trans (by rw [hl3]; rfl); have hv4 : valD o3 = (v + t) * (v + t) * (v + t) := (by rw [hD4.val, hv3, HVAL.out]); have hm4 := mem_of_digits hD4)
          | (go_at_call 31; refine (HT1.out w2 x hx2).mono ?_; rintro e w3 ⟨y, o2, rfl, hy3, hD3, hf3⟩; have hl3 : o2.length = 6 := hD3.len; have hv3 : valD o2 = (v + t) * (v + t) := (by rw [hD3.val, HVAL.out]); have hm3 := mem_of_digits hD3))
        have habv : aboveN o3 p (2 * k) = decide (p * 65536 ^ (2 * k) < (v + t) ^ k) := by rw [aboveN, HKK.out, hv4, pow_three]
        have HAB := Lib.hid (ref_above_any o3 p (2 * k) y4 w4 hy4 (by rw [hl4, HKK.out]; decide) hm4 hp (by rw [hl4]; decide))
        rw [habv] at HAB
        have hfr : Fr [] w w4 := ((hf.trans hf2 (by simp) (n := []) (by simp)).trans hf3 (by simp) (n := []) (by simp)).trans hf4 (by simp) (by simp)
        by_cases hlt : p * 65536 ^ (2 * k) < (v + t) ^ k
        · rw [decide_eq_true hlt] at HAB
          have hroot := HROOT.out
          rw [if_pos hlt] at hroot
          have HRT := Lib.hid hroot
          clear hroot hlt habv
          go_wp2_with (go_at_call 32; refine HAB.out.mono ?_; rintro e wz ⟨rfl, rfl⟩)
          exact ⟨⟨m, v, by omega, rfl, rfl, by rw [← HT.out]; omega, HRT.out, hfr⟩, by simp [intOf]⟩
        · rw [decide_eq_false hlt] at HAB
          have hroot := HROOT.out
          rw [if_neg hlt] at hroot
          have HRT := Lib.hid hroot
          clear hroot hlt habv
          go_wp2_with (go_at_call 32; refine HAB.out.mono ?_; rintro e wz ⟨rfl, rfl⟩)
          exact ⟨⟨m, v + t, by omega, by go_num, rfl, by rw [← HT.out]; omega, HRT.out, hfr⟩, by simp [intOf]⟩
end Go.Proofs.YtjiighgabfkmpaaDoor
