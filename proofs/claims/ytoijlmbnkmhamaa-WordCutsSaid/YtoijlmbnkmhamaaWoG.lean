/- WordCuts (layer 18): the law. -/
import Derived.Test.YtoijlmbnkmhamaaWoF
namespace Go.Proofs.Ytoijlmbnkmhamaa
open Go.RowKit

set_option maxRecDepth 100000 in
theorem cuts_long (a b c : List UInt8) (k t : Int) (h : 200 < a.length ∨ 200 < b.length ∨ 200 < c.length) (w : World) :
    Calls Try.prog 3 #[.string ⟨a.toArray⟩, .string ⟨b.toArray⟩, .string ⟨c.toArray⟩, .int .i64 k, .int .i64 t] w fun e w' => e = .returned (.bool true) ∧ Fr [] w w' := by
  by_cases h1 : 200 < a.length
  · have d1 : decide (200 < (a.length : Int)) = true := decide_eq_true (by omega)
    clear h h1
    go_enter Try.func3, Try.ntmps3
    go_wp2_with (go_at_call 6; refine (wawake_any _).mono ?_; rintro e w1 ⟨rfl, hf1⟩)
    go_ret
    exact ⟨rfl, hf1⟩
  · have d1 : decide (200 < (a.length : Int)) = false := decide_eq_false (by omega)
    by_cases h2 : 200 < b.length
    · have d2 : decide (200 < (b.length : Int)) = true := decide_eq_true (by omega)
      clear h h1 h2
      go_enter Try.func3, Try.ntmps3
      go_wp2_with (go_at_call 6; refine (wawake_any _).mono ?_; rintro e w1 ⟨rfl, hf1⟩)
      go_ret
      exact ⟨rfl, hf1⟩
    · have d2 : decide (200 < (b.length : Int)) = false := decide_eq_false (by omega)
      have d3 : decide (200 < (c.length : Int)) = true := decide_eq_true (by omega)
      clear h h1 h2
      go_enter Try.func3, Try.ntmps3
      go_wp2_with (go_at_call 6; refine (wawake_any _).mono ?_; rintro e w1 ⟨rfl, hf1⟩)
      go_ret
      exact ⟨rfl, hf1⟩
theorem three_strs (w : World) (x y z : List UInt8) : strsAt (w.alloc (.cells #[.string ⟨x.toArray⟩, .string ⟨y.toArray⟩, .string ⟨z.toArray⟩] 9)) (.slice (some ⟨w.heap.size, 0, none⟩) 3 3) [x, y, z] :=
  cellsAt_new w [encStr x, encStr y, encStr z] 9 3 rfl (by simp [maxLen])
set_option maxRecDepth 100000 in
set_option maxHeartbeats 4000000 in
theorem cuts_any (a b c : List UInt8) (k t : Int) (hk1 : -9223372036854775808 ≤ k) (hk2 : k ≤ 9223372036854775807) (w : World) :
    Calls Try.prog 3 #[.string ⟨a.toArray⟩, .string ⟨b.toArray⟩, .string ⟨c.toArray⟩, .int .i64 k, .int .i64 t] w fun e w' => e = .returned (.bool true) ∧ Fr [] w w' := by
  by_cases h : 200 < a.length ∨ 200 < b.length ∨ 200 < c.length
  · exact cuts_long a b c k t h w
  · have ha : a.length ≤ 200 := by omega
    have hb : b.length ≤ 200 := by omega
    have hc : c.length ≤ 200 := by omega
    have d1 : decide (200 < (a.length : Int)) = false := decide_eq_false (by omega)
    have d2 : decide (200 < (b.length : Int)) = false := decide_eq_false (by omega)
    have d3 : decide (200 < (c.length : Int)) = false := decide_eq_false (by omega)
    obtain ⟨X, hX⟩ : ∃ X, X = (cutW a k).toArray := ⟨_, rfl⟩
    obtain ⟨Y, hY⟩ : ∃ Y, Y = (cutW (a ++ b ++ c) k).toArray := ⟨_, rfl⟩
    obtain ⟨AB, hAB⟩ : ∃ X, X = (a ++ b).toArray := ⟨_, rfl⟩
    obtain ⟨AC, hAC⟩ : ∃ X, X = (a ++ b ++ c).toArray := ⟨_, rfl⟩
    obtain ⟨V, hV⟩ : ∃ V, V = validW a t k := ⟨_, rfl⟩
    have hfl : [a, b, c].flatten = a ++ b ++ c := by simp
    have HC1 := Lib.hid (fun wx => wcut_any a k wx)
    have HC2 := Lib.hid (fun wx => rcut_any a k wx)
    have HC3 := Lib.hid (fun wx => rcut_any (a ++ b ++ c) k wx)
    have HCA := Lib.hid (fun wx q h => wcat_any k hk1 hk2 [a, b, c] (by rw [hfl]; simp; omega) (.slice (some ⟨q, 0, none⟩) 3 3) wx h)
    have HC0 := Lib.hid (fun wx => wcat_any k hk1 hk2 [] (by simp) (.slice none 0 0) wx (cellsAt.nil wx))
    have HV1 := Lib.hid (fun wx => wvalid_any a t k (by omega) wx)
    have HV2 := Lib.hid (fun wx => rvalid_any a t k (by omega) wx)
    have ca := fun wx => cat_w (P := Try.prog) (A := a.toArray) (B := b.toArray) (C := AB) rfl rfl hAB (by simp; omega) wx
    have cb := fun wx => cat_w (P := Try.prog) (A := AB) (B := c.toArray) (C := AC) hAB rfl hAC (by simp; omega) wx
    rw [hfl, ← hY] at HCA
    rw [← hX] at HC1 HC2
    rw [← hY, ← hAC] at HC3
    rw [← hV] at HV1 HV2
    rw [show (cutW ([] : List (List UInt8)).flatten k).toArray = #[] by simp [cutW]] at HC0
    have x1 : (X == X) = true := by simp
    have x2 : (Y == Y) = true := by simp
    have x3 : (V == V) = true := by simp
    clear hX hY hAB hAC hV hfl h ha hb hc hk1 hk2
    go_enter Try.func3, Try.ntmps3
    go_wp2_with (first
      | (go_at_call 6; refine (wawake_any _).mono ?_; rintro e w9 ⟨rfl, hf9⟩)
      | (go_at_call 7; refine (HC1.out _).mono ?_; rintro e w1 ⟨rfl, rfl⟩)
      | (go_at_call 8; with_reducible refine (HC2.out _).mono ?_; rintro e w1 ⟨rfl, rfl⟩)
      | (go_at_call 9; with_reducible refine (HC0.out _).mono ?_; rintro e w4 ⟨rfl, hf4⟩)
      | (go_at_call 9; refine (HCA.out _ _ (three_strs w a b c)).mono ?_; rintro e w3 ⟨rfl, hf3⟩)
      | (go_at_call 8; refine (HC3.out _).mono ?_; rintro e w1 ⟨rfl, rfl⟩)
      | (go_at_call 10; refine (HV1.out _).mono ?_; rintro e w1 ⟨rfl, rfl⟩)
      | (go_at_call 11; refine (HV2.out _).mono ?_; rintro e w1 ⟨rfl, rfl⟩))
    go_ret
    exact ⟨rfl, (((Fr.alloc w (.cells #[.string ⟨a.toArray⟩, .string ⟨b.toArray⟩, .string ⟨c.toArray⟩] 9)).trans hf3 (by simp) (n := []) (by simp)).trans hf4 (by simp) (n := []) (by simp)).trans hf9 (by simp) (by simp)⟩
end Go.Proofs.Ytoijlmbnkmhamaa
