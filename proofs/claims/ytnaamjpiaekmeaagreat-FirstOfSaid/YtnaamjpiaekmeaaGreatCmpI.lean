/- The program's sets of words (layer 19): words compared by their lengths. -/
import Derived.Test.YtnaamjpiaekmeaaGreatSt
set_option linter.unusedVariables false
set_option linter.unusedSimpArgs false
namespace Go.Proofs.YtnaamjpiaekmeaaGreat
open Go.RowKit
theorem pnan (x : Int) (w : World) : Calls Tryz.prog 110 #[.int .i64 x] w fun e w' => e = .returned (.bool false) ∧ w' = w := by
 have d1 : (x == x) = true := by simp
 have d2 : (x != x) = false := by simp
 go_enter Tryz.func110, Tryz.ntmps110
 go_wp2_with fail
 go_ret
 exact ⟨by simp, rfl⟩
set_option maxRecDepth 100000 in
theorem pcmp (x y : Int) (w : World) : Calls Tryz.prog 73 #[.int .i64 x, .int .i64 y] w fun e w' => e = .returned (.int .i64 (if x < y then -1 else if y < x then 1 else 0)) ∧ w' = w := by
 have HN := Lib.hid pnan
 obtain ⟨R, hR⟩ : ∃ R : Int, R = if x < y then -1 else if y < x then 1 else 0 := ⟨_, rfl⟩
 rw [← hR]
 by_cases h1 : x < y
 ·have d1 : decide (x < y) = true := decide_eq_true h1
  have HR := Lib.hid (show R = -1 by rw [hR, if_pos h1])
  clear hR h1
  go_enter Tryz.func73, Tryz.ntmps73
  go_wp2_with (go_at_call 110; refine (HN.out _ _).mono ?_; rintro e w1 ⟨rfl, rfl⟩)
  go_ret
  exact ⟨by rw [HR.out]; rfl, rfl⟩
 ·have d1 : decide (x < y) = false := decide_eq_false h1
  by_cases h2 : y < x
  ·have d2 : decide (y < x) = true := decide_eq_true h2
   have HR := Lib.hid (show R = 1 by rw [hR, if_neg h1, if_pos h2])
   clear hR h1 h2
   go_enter Tryz.func73, Tryz.ntmps73
   go_wp2_with (go_at_call 110; refine (HN.out _ _).mono ?_; rintro e w1 ⟨rfl, rfl⟩)
   go_ret
   exact ⟨by rw [HR.out]; rfl, rfl⟩
  ·have d2 : decide (y < x) = false := decide_eq_false h2
   have HR := Lib.hid (show R = 0 by rw [hR, if_neg h1, if_neg h2])
   clear hR h1 h2
   go_enter Tryz.func73, Tryz.ntmps73
   go_wp2_with (go_at_call 110; refine (HN.out _ _).mono ?_; rintro e w1 ⟨rfl, rfl⟩)
   go_ret
   exact ⟨by rw [HR.out]; rfl, rfl⟩
set_option maxRecDepth 100000 in
theorem plen_cmp : CmpP Tryz.prog 72 := by
 intro x y
 refine ⟨if (x.length : Int) < (y.length : Int) then -1 else if (y.length : Int) < (x.length : Int) then 1 else 0, ?_, fun w => ?_⟩
 ·split
  ·omega
  ·split <;> omega
 ·have HC := Lib.hid (pcmp (x.length : Int) (y.length : Int) w)
  obtain ⟨R, hR⟩ : ∃ R : Int, R = if (x.length : Int) < (y.length : Int) then -1 else if (y.length : Int) < (x.length : Int) then 1 else 0 := ⟨_, rfl⟩
  rw [← hR] at HC ⊢
  clear hR
  go_enter Tryz.func72, Tryz.ntmps72
  go_wp2_with (go_at_call 73; refine HC.out.mono ?_; rintro e w' ⟨rfl, rfl⟩)
  go_ret
  exact ⟨rfl, rfl⟩
end Go.Proofs.YtnaamjpiaekmeaaGreat
