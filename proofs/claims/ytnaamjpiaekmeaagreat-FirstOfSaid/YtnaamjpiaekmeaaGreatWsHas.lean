/- Layer 19, the document's Has. -/
import Derived.Test.YtnaamjpiaekmeaaGreatMm
import Derived.Test.YtnaamjpiaekmeaaGreatDt
import Derived.Test.YtnaamjpiaekmeaaGreatBs
import Derived.LoopTactic
import Derived.BigQuiet
import Derived.WalkMore
import Derived.BigRegion
import Derived.Deep.DeepCutAuto
set_option linter.unusedVariables false
set_option linter.unusedSimpArgs false
namespace Go.Proofs.YtnaamjpiaekmeaaGreat
open Go.RowKit
def WHasRel (w : World) (l : Words) (x : List UInt8) (i : Value) (wx : World) : Prop := ∃ k : Nat, k ≤ l.length ∧ i = .int .i64 (k : Int) ∧ w = wx ∧ ∀ j (_ : j < k) (h : j < l.length), (l[j]'h) ≠ x
set_option maxRecDepth 100000 in
theorem rhas_any (l : Words) (x : List UInt8) (v : Value) (w : World) (h : strsAt w v l) :
  Calls Tryz.prog 16 #[v, encStr x] w fun e w' => e = .returned (.bool (decide (x ∈ l))) ∧ w = w' := by
 obtain ⟨a0, c0, rfl, hle, hmx⟩ := h.form
 have HL := Lib.hid h
 obtain ⟨R, hR⟩ : ∃ R, R = decide (x ∈ l) := ⟨_, rfl⟩
 rw [← hR]
 have HR := Lib.hid hR
 clear h hR
 go_enter Tryz.func16, Tryz.ntmps16
 go_wp2_with fail
 go_loopw [5] (WHasRel w l x) (fun i _ => l.length - (intOf i).toNat)
 case atStart => exact ⟨0, Nat.zero_le _, rfl, rfl, fun j hj => by omega⟩
 case round =>
  obtain ⟨k, hk, rfl, rfl, hall⟩ := hrel
  have HA := Lib.hid hall
  clear hall
  by_cases hkn : k < l.length
  ·have hd : decide (k < l.length) = true := decide_eq_true hkn
   obtain ⟨b, off, rfl, hc⟩ := str_cell HL.out k hkn
   obtain ⟨y, hy⟩ : ∃ y, y = l[k]'hkn := ⟨_, rfl⟩
   rw [← hy] at hc
   by_cases hxy : y = x
   ·have hb : (y == x) = true := by rw [hxy]; simp
    have hRt : R = true := by rw [HR.out, ← hxy, hy]; exact decide_eq_true (List.getElem_mem hkn)
    subst hRt
    clear hxy hy
    go_wp2_with fail
    go_ret
    exact ⟨rfl, rfl⟩
   ·have hb : (y == x) = false := by rw [beq_eq_false_iff_ne]; exact hxy
    have HNE := Lib.hid (show ∀ j (_ : j < k + 1) (h : j < l.length), (l[j]'h) ≠ x from fun j hj hjl => by
     by_cases e : j = k
     ·subst e; rw [← hy]; exact hxy
     ·exact HA.out j (by omega) hjl)
    clear hxy hy
    go_wp2_with fail
    go_roundw
    case rel => exact ⟨k + 1, by omega, by go_num, rfl, HNE.out⟩
    case measure => simp [intOf]; omega
  ·have hd : decide (k < l.length) = false := decide_eq_false hkn
   have hRf : R = false := by
    rw [HR.out]
    refine decide_eq_false (fun hm => ?_)
    obtain ⟨j, hj, e⟩ := List.getElem_of_mem hm
    exact HA.out j (by omega) hj e
   subst hRf
   go_wp2_with fail
   go_ret
   exact ⟨rfl, rfl⟩
end Go.Proofs.YtnaamjpiaekmeaaGreat
