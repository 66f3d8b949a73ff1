/- WordAll (layer 18): the law. -/
import Derived.Test.YtoijlmbnkmhamaaWoF
import Derived.Test.YtoijlmbnkmhamaaWoD
import Derived.Test.YtoijlmbnkmhamaaRegion
namespace Go.Proofs.Ytoijlmbnkmhamaa
open Go.RowKit

theorem wall_any (t k : Int) (w : World) : Calls Try.prog 12 #[.int .i64 t, .int .i64 k] w (AllAt t k w) := by
  by_cases h : k < 0 ∨ t < 0 ∨ 256 < t
  · exact wall_bad t k h w
  · obtain ⟨T, rfl⟩ := Int.eq_ofNat_of_zero_le (show 0 ≤ t by omega)
    obtain ⟨K, rfl⟩ := Int.eq_ofNat_of_zero_le (show 0 ≤ k by omega)
    exact wall_good T K (by omega) w
theorem rall_any (t k : Int) (hk : k ≤ 1000000) (w : World) : Calls Try.prog 13 #[.int .i64 t, .int .i64 k] w (AllAt t k w) := by
  by_cases h : k < 0 ∨ t < 0 ∨ 256 < t
  · exact rall_bad t k h w
  · obtain ⟨T, rfl⟩ := Int.eq_ofNat_of_zero_le (show 0 ≤ t by omega)
    obtain ⟨K, rfl⟩ := Int.eq_ofNat_of_zero_le (show 0 ≤ k by omega)
    exact rall_good T K (by omega) (by omega) w
theorem allV_short {t k : Int} {l : List (List UInt8)} (h : AllV t k l) : ∀ x ∈ l, x.length ≤ 4096 := by
  rcases h with ⟨-, rfl⟩ | ⟨h0, h1, h2, r, ⟨j, hj, hr⟩, rfl⟩
  · simp
  · rcases hr with ⟨-, rfl⟩ | ⟨-, -, rfl⟩
    · intro x hx
      have a := wordsW_short t.toNat j x hx
      have b := all_le hj
      omega
    · simp
theorem alls_long (t k : Int) (h : 20 < k ∨ 300 < t) (w : World) :
    Calls Try.prog 4 #[.int .i64 t, .int .i64 k] w fun e w' => e = .returned (.bool true) ∧ Fr [] w w' := by
  by_cases h1 : 20 < k
  · have d1 : decide (20 < k) = true := decide_eq_true h1
    clear h h1
    go_enter Try.func4, Try.ntmps4
    go_wp2_with (go_at_call 6; refine (wawake_any _).mono ?_; rintro e w1 ⟨rfl, hf1⟩)
    go_ret
    exact ⟨rfl, hf1⟩
  · have d1 : decide (20 < k) = false := decide_eq_false h1
    have d2 : decide (300 < t) = true := decide_eq_true (by omega)
    clear h h1
    go_enter Try.func4, Try.ntmps4
    go_wp2_with (go_at_call 6; refine (wawake_any _).mono ?_; rintro e w1 ⟨rfl, hf1⟩)
    go_ret
    exact ⟨rfl, hf1⟩
def SmR (w2 : World) (n : Nat) (iv : Value) (wx : World) : Prop := ∃ i : Nat, i ≤ n ∧ iv = .int .i64 (i : Int) ∧ Fr [] w2 wx
set_option maxRecDepth 100000 in
set_option maxHeartbeats 4000000 in
theorem alls_good (t k : Int) (h1 : k ≤ 20) (h2 : t ≤ 300) (b : Bool) (hb : (t == 1) = b) (w : World) :
    Calls Try.prog 4 #[.int .i64 t, .int .i64 k] w fun e w' => e = .returned (.bool true) ∧ Fr [] w w' := by
  have d1 : decide (20 < k) = false := decide_eq_false (by omega)
  have d2 : decide (300 < t) = false := decide_eq_false (by omega)
  have HA := Lib.hid (fun wx => wall_any t k wx)
  have HR := Lib.hid (fun wx => rall_any t k (by omega) wx)
  clear h1 h2
  cases b <;>
  · go_enter Try.func4, Try.ntmps4
    go_upto_region 5 with (first
      | (go_at_call 12; refine (HA.out _).mono ?_; rintro e w1 ⟨l1, v1, rfl, ha1, hs1, hf1⟩)
      | (go_at_call 13; refine (HR.out _).mono ?_; rintro e w2 ⟨l2, v2, rfl, ha2, hs2, hf2⟩))
    obtain rfl := ha1.one ha2
    obtain ⟨a1, c1, rfl, hc1, hm1⟩ := hs1.form
    obtain ⟨a2, c2, rfl, hc2, hm2⟩ := hs2.form
    have HS1 := Lib.hid (hs1.below hf2)
    have HS2 := Lib.hid hs2
    have HV := Lib.hid (all_valid ha1)
    have HSH := Lib.hid (allV_short ha1)
    have HF := Lib.hid (hf1.trans hf2 (by simp) (n := []) (by simp))
    obtain ⟨n, hn⟩ : ∃ n, n = l1.length := ⟨_, rfl⟩
    rw [← hn] at hc1 hc2 HS1 HS2 ⊢
    have HN := Lib.hid hn
    clear ha1 ha2 hs1 hs2 hf1 hf2 hn hb d1 d2
    have hn' : n ≤ 9223372036854775807 := by omega
    go_wp2_with fail
    go_loopw [7] (SmR w2 n) (fun iv _ => n - (intOf iv).toNat)
    case atStart => exact ⟨0, Nat.zero_le _, rfl, Fr.refl _ _⟩
    case round =>
      obtain ⟨i, hi, rfl, hfr⟩ := hrel
      by_cases hin : i < n
      · have hd : decide (i < n) = true := decide_eq_true hin
        have hil : i < l1.length := by rw [← HN.out]; exact hin
        obtain ⟨b1, off1, rfl, k1⟩ := str_cell (HS1.out.below hfr) i hil
        obtain ⟨b2, off2, rfl, k2⟩ := str_cell (HS2.out.below hfr) i hil
        have hv := HV.out _ (List.getElem_mem hil)
        have hsh := HSH.out _ (List.getElem_mem hil)
        obtain ⟨x, hx⟩ : ∃ x, x = l1[i]'hil := ⟨_, rfl⟩
        rw [← hx] at k1 k2 hv hsh
        have HVA := Lib.hid (fun wx => wvalid_any x t k (by omega) wx)
        rw [hv] at HVA
        obtain ⟨X, hX⟩ : ∃ X, X = x.toArray := ⟨_, rfl⟩
        rw [show encStr x = .string ⟨X⟩ by rw [hX]] at k1 k2
        rw [← hX] at HVA
        have x1 : (X == X) = true := by simp
        have HFR := Lib.hid hfr
        clear hx hX hv hfr hsh
        go_upto_region 10 with fail
        refine wp_region_G [] [(0, false), (1, false), (2, false), (3, false), (4, false), (5, false), (6, false), (7, false), (8, false), (9, false), (10, false), (11, false), (12, false), (13, false), (14, false), (15, false), (16, true), (17, false), (18, false)] 60 rfl (by kernel_rfl) (by kernel_rfl) (by kernel_rfl) (fun c a d v w h => by cases d <;> exact h) (fun wd hfd => ?_)
        simp only [List.map_cons, List.map_nil, List.getElem?_toArray, List.getElem?_cons_succ, List.getElem?_cons_zero, Option.getD_some]
        have L1 : Hid (Later [] wd (fun w' => w'.cell? ⟨b1, off1 + i, none⟩ = some (.string ⟨X⟩))) := Lib.hid (fun w' hf' => hf'.cell (hfd.cell k1 (by simp)) (by simp))
        have L2 : Hid (Later [] wd (fun w' => w'.cell? ⟨b2, off2 + i, none⟩ = some (.string ⟨X⟩))) := Lib.hid (fun w' hf' => hf'.cell (hfd.cell k2 (by simp)) (by simp))
        have HFD := Lib.hid (HFR.out.trans hfd (by simp) (n := []) (by simp))
        clear k1 k2 hfd
        repeat (apply wpG_t; · (intro w' hf'; have c1 := L1.out w' hf'; have c2 := L2.out w' hf'; go_wp2_with fail; exact ⟨rfl, rfl⟩))
        refine wpG_x ?_
        go_wp2_with (go_at_call 10; refine (HVA.out _).mono ?_; rintro e w5 ⟨rfl, rfl⟩)
        refine ⟨Fr.refl _ _, rfl, ?_⟩
        repeat (apply wpG_t; · (intro w' hf'; go_wp2_with fail; exact ⟨rfl, rfl⟩))
        refine wpG_end ?_
        go_wp2_with fail
        go_roundw
        case rel => exact ⟨i + 1, by omega, by go_num, HFD.out⟩
        case measure => simp [intOf]; omega
      · have hd : decide (i < n) = false := decide_eq_false hin
        have HFR := Lib.hid hfr
        clear hfr
        go_wp2_with (go_at_call 6; refine (wawake_any _).mono ?_; rintro e w9 ⟨rfl, hf9⟩)
        go_ret
        exact ⟨rfl, (HF.out.trans HFR.out (by simp) (n := []) (by simp)).trans hf9 (by simp) (by simp)⟩
theorem alls_any (t k : Int) (w : World) :
    Calls Try.prog 4 #[.int .i64 t, .int .i64 k] w fun e w' => e = .returned (.bool true) ∧ Fr [] w w' := by
  by_cases h : 20 < k ∨ 300 < t
  · exact alls_long t k h w
  · exact alls_good t k (by omega) (by omega) _ rfl w
end Go.Proofs.Ytoijlmbnkmhamaa
