/- Layer 18, the program's and the document's: Cut, allBelow, Valid. -/
import Derived.Test.YtoijlmbnkmhamaaWrdMath
import Derived.Test.YtoijlmbnkmhamaaKyS
import Derived.LoopTactic
import Derived.WalkMore
import Derived.Deep.DeepCutAuto
namespace Go.Proofs.Ytoijlmbnkmhamaa
open Go.RowKit

theorem cutW_neg {s : List UInt8} {k : Int} (h : k ≤ 0) : cutW s k = [] := by
  unfold cutW
  rw [show k.toNat = 0 by omega, List.take_zero]
theorem cutW_all {s : List UInt8} {k : Int} (h : (s.length : Int) ≤ k) : cutW s k = s := by
  unfold cutW
  exact List.take_of_length_le (by omega)
set_option maxRecDepth 100000 in
theorem wcut_any (s : List UInt8) (k : Int) (w : World) :
    Calls Try.prog 7 #[.string ⟨s.toArray⟩, .int .i64 k] w fun e w' => e = .returned (.string ⟨(cutW s k).toArray⟩) ∧ w = w' := by
  go_enter Try.func7, Try.ntmps7
  go_wp2_with fail
  · rename_i h1
    go_ret
    rw [cutW_all (by omega), ext_k, List.take_length, List.drop_zero]
    exact ⟨rfl, rfl⟩
  · rename_i h1
    go_ret
    rw [ext_k, List.drop_zero]
    exact ⟨rfl, rfl⟩
  · rename_i h1
    go_ret
    rw [if_pos h] at h1
    obtain rfl : s = [] := List.eq_nil_of_length_eq_zero (by omega)
    rw [show cutW [] k = [] by simp [cutW]]
    exact ⟨rfl, rfl⟩
  · rename_i h1
    go_ret
    rw [cutW_neg (by split at h1 <;> omega)]
    exact ⟨rfl, rfl⟩
set_option maxRecDepth 100000 in
theorem rcut_any (s : List UInt8) (k : Int) (w : World) :
    Calls Try.prog 8 #[.string ⟨s.toArray⟩, .int .i64 k] w fun e w' => e = .returned (.string ⟨(cutW s k).toArray⟩) ∧ w = w' := by
  by_cases h1 : k < 0
  · have hd1 : decide (k < 0) = true := decide_eq_true h1
    rw [cutW_neg (by omega)]
    clear h1
    go_enter Try.func8, Try.ntmps8
    go_wp2_with fail
    go_ret
    exact ⟨rfl, rfl⟩
  · have hd1 : decide (k < 0) = false := decide_eq_false h1
    by_cases h2 : (s.length : Int) ≤ k
    · have hd2 : decide ((s.length : Int) ≤ k) = true := decide_eq_true h2
      rw [cutW_all h2]
      clear h1 h2
      go_enter Try.func8, Try.ntmps8
      go_wp2_with fail
      go_ret
      exact ⟨rfl, rfl⟩
    · obtain ⟨n, rfl⟩ := Int.eq_ofNat_of_zero_le (show 0 ≤ k by omega)
      have hd2 : decide ((s.length : Int) ≤ (n : Int)) = false := decide_eq_false h2
      have hd3 : decide (s.length ≤ n) = false := decide_eq_false (by omega)
      have ht := fun wx => take_k (P := Try.prog) wx 9 s n Try.underlying9 (by omega)
      have HE := Lib.hid (show cutW s (n : Int) = s.take n from rfl)
      clear h1 h2
      go_enter Try.func8, Try.ntmps8
      go_wp2_with fail
      go_ret
      exact ⟨rfl, rfl⟩
theorem belowW_false {s : List UInt8} {n : Int} (k : Nat) (hk : k < s.length) (h : n ≤ ((s[k]'hk).toNat : Int)) : belowW s n = false := by
  cases hq : belowW s n with
  | false => rfl
  | true =>
    unfold belowW at hq
    rw [List.all_eq_true] at hq
    have := of_decide_eq_true (hq _ (List.getElem_mem hk))
    omega
theorem belowW_true {s : List UInt8} {n : Int} (h : ∀ k (hk : k < s.length), ((s[k]'hk).toNat : Int) < n) : belowW s n = true := by
  unfold belowW
  rw [List.all_eq_true]
  intro b hb
  obtain ⟨i, hi, rfl⟩ := List.getElem_of_mem hb
  exact decide_eq_true (h i hi)
def BelRel (s : List UInt8) (n : Int) (i : Value) : Prop := ∃ k : Nat, k ≤ s.length ∧ i = .int .i64 (k : Int) ∧ ∀ j, j < k → ∀ h : j < s.length, ((s[j]'h).toNat : Int) < n
set_option maxRecDepth 100000 in
theorem below_any (s : List UInt8) (n : Int) (hl : s.length ≤ 9223372036854775807) (w : World) :
    Calls Try.prog 18 #[.string ⟨s.toArray⟩, .int .i64 n] w fun e w' => e = .returned (.bool (belowW s n)) ∧ w = w' := by
  go_enter Try.func18, Try.ntmps18
  go_wp2_with fail
  go_loop [8] (BelRel s n) (fun i => s.length - (intOf i).toNat)
  case atStart => exact ⟨0, Nat.zero_le _, rfl, fun j hj => by omega⟩
  case round =>
    obtain ⟨k, hk, rfl, hall⟩ := hrel
    have HA := Lib.hid hall
    clear hall
    by_cases hkn : k < s.length
    · have hd : decide (k < s.length) = true := decide_eq_true hkn
      have hix := fun wx => run_index_str (P := Try.prog) wx 9 s (k : Int) k (s[k]'hkn) Try.underlying9 rfl (List.getElem?_eq_getElem hkn)
      have h8 : (s[k]'hkn).toNat < 256 := (s[k]'hkn).toNat_lt
      by_cases hb : n ≤ ((s[k]'hkn).toNat : Int)
      · have hd2 : decide (n ≤ ((s[k]'hkn).toNat : Int)) = true := decide_eq_true hb
        have HW := Lib.hid (belowW_false k hkn hb)
        clear hb
        go_wp2_with fail
        go_ret
        exact ⟨by rw [HW.out]; rfl, rfl⟩
      · have hd2 : decide (n ≤ ((s[k]'hkn).toNat : Int)) = false := decide_eq_false hb
        have HBB := Lib.hid hb
        clear hb
        go_wp2_with fail
        refine ⟨⟨k + 1, by omega, by go_num, fun j hj hjl => ?_⟩, by simp [intOf]; omega⟩
        by_cases e : j = k
        · subst e; have := HBB.out; omega
        · exact HA.out j (by omega) hjl
    · have hd : decide (k < s.length) = false := decide_eq_false hkn
      obtain rfl : k = s.length := by omega
      have HW := Lib.hid (belowW_true (fun i hi => HA.out i hi hi))
      go_wp2_with fail
      go_ret
      exact ⟨by rw [HW.out]; rfl, rfl⟩
set_option maxRecDepth 100000 in
theorem wvalid_any (s : List UInt8) (t k : Int) (hl : s.length ≤ 9223372036854775807) (w : World) :
    Calls Try.prog 10 #[.string ⟨s.toArray⟩, .int .i64 t, .int .i64 k] w fun e w' => e = .returned (.bool (validW s t k)) ∧ w = w' := by
  have HB := Lib.hid (fun wx => below_any s t hl wx)
  by_cases h1 : (s.length : Int) ≤ k
  · have hd1 : decide ((s.length : Int) ≤ k) = true := decide_eq_true h1
    have HV := Lib.hid (show validW s t k = belowW s t by unfold validW; rw [hd1, Bool.true_and])
    clear h1 hl
    go_enter Try.func10, Try.ntmps10
    go_wp2_with (go_at_call 18; refine (HB.out _).mono ?_; rintro e w1 ⟨rfl, rfl⟩)
    go_ret
    exact ⟨by rw [HV.out]; rfl, rfl⟩
  · have hd1 : decide ((s.length : Int) ≤ k) = false := decide_eq_false h1
    have HV := Lib.hid (show validW s t k = false by unfold validW; rw [hd1, Bool.false_and])
    clear h1 hl
    go_enter Try.func10, Try.ntmps10
    go_wp2_with fail
    go_ret
    exact ⟨by rw [HV.out]; rfl, rfl⟩
set_option maxRecDepth 100000 in
theorem rvalid_any (s : List UInt8) (n m : Int) (hl : s.length ≤ 9223372036854775807) (w : World) :
    Calls Try.prog 11 #[.string ⟨s.toArray⟩, .int .i64 n, .int .i64 m] w fun e w' => e = .returned (.bool (validW s n m)) ∧ w = w' := by
  by_cases h1 : m < (s.length : Int)
  · have hd1 : decide (m < (s.length : Int)) = true := decide_eq_true h1
    have HV := Lib.hid (show validW s n m = false by unfold validW; rw [decide_eq_false (by omega), Bool.false_and])
    clear h1 hl
    go_enter Try.func11, Try.ntmps11
    go_wp2_with fail
    go_ret
    exact ⟨by rw [HV.out]; rfl, rfl⟩
  · have hd1 : decide (m < (s.length : Int)) = false := decide_eq_false h1
    have HV := Lib.hid (show validW s n m = belowW s n by unfold validW; rw [decide_eq_true (by omega), Bool.true_and])
    clear h1
    go_enter Try.func11, Try.ntmps11
    go_wp2_with fail
    go_loop [7] (BelRel s n) (fun i => s.length - (intOf i).toNat)
    case atStart => exact ⟨0, Nat.zero_le _, rfl, fun j hj => by omega⟩
    case round =>
      obtain ⟨k, hk, rfl, hall⟩ := hrel
      have HA := Lib.hid hall
      clear hall
      by_cases hkn : k < s.length
      · have hd : decide (k < s.length) = true := decide_eq_true hkn
        have hix := fun wx => run_index_str (P := Try.prog) wx 9 s (k : Int) k (s[k]'hkn) Try.underlying9 rfl (List.getElem?_eq_getElem hkn)
        have h8 : (s[k]'hkn).toNat < 256 := (s[k]'hkn).toNat_lt
        by_cases hb : n ≤ ((s[k]'hkn).toNat : Int)
        · have hd2 : decide (n ≤ ((s[k]'hkn).toNat : Int)) = true := decide_eq_true hb
          have HW := Lib.hid (belowW_false k hkn hb)
          clear hb
          go_wp2_with fail
          go_ret
          exact ⟨by rw [HV.out, HW.out]; rfl, rfl⟩
        · have hd2 : decide (n ≤ ((s[k]'hkn).toNat : Int)) = false := decide_eq_false hb
          have HBB := Lib.hid hb
          clear hb
          go_wp2_with fail
          refine ⟨⟨k + 1, by omega, by go_num, fun j hj hjl => ?_⟩, by simp [intOf]; omega⟩
          by_cases e : j = k
          · subst e; have := HBB.out; omega
          · exact HA.out j (by omega) hjl
      · have hd : decide (k < s.length) = false := decide_eq_false hkn
        obtain rfl : k = s.length := by omega
        have HW := Lib.hid (belowW_true (fun i hi => HA.out i hi hi))
        go_wp2_with fail
        go_ret
        exact ⟨by rw [HV.out, HW.out]; rfl, rfl⟩
end Go.Proofs.Ytoijlmbnkmhamaa
