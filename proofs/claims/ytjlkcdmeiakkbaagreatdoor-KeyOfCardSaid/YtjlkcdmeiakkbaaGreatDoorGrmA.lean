/- The document's Find, SameRight (layer 14). -/
import Derived.Test.YtjlkcdmeiakkbaaGreatDoorDt
import Derived.LoopTactic
import Derived.BigQuiet
import Derived.WalkMore
import Derived.Deep.DeepCutAuto
set_option linter.unusedVariables false
set_option linter.unusedSimpArgs false
namespace Go.Proofs.YtjlkcdmeiakkbaaGreatDoor
open Go.RowKit

theorem encStr_beq (a b : List UInt8) : a = b ∨ (a == b) = false := by
  by_cases h : a = b
  · exact .inl h
  · exact .inr (by rw [beq_eq_false_iff_ne]; exact h)
def FindRel (w : World) (l : List (List UInt8)) (s : List UInt8) (iv : Value) (wx : World) : Prop := ∃ k : Nat, k ≤ l.length ∧ iv = .int .i64 (k : Int) ∧ (∀ j (_ : j < k) (h' : j < l.length), l[j]'h' ≠ s) ∧ w = wx
set_option maxRecDepth 100000 in
set_option maxHeartbeats 1000000 in
theorem rfind_any (l : List (List UInt8)) (lv : Value) (s : List UInt8) (w : World) (h : strsAt w lv l) : Calls Tryz.prog 33 #[lv, encStr s] w fun e w' => e = .returned (.int .i64 (findG l s)) ∧ w = w' := by
  obtain ⟨a0, c0, rfl, hle, hmx⟩ := h.form
  have HE := Lib.hid h
  clear h
  obtain ⟨R, hR⟩ : ∃ R, R = findG l s := ⟨_, rfl⟩
  rw [← hR]
  have HR := Lib.hid hR
  clear hR
  go_enter Tryz.func33, Tryz.ntmps33
  go_wp2_with fail
  go_loopw [5] (FindRel w l s) (fun iv _ => l.length - (intOf iv).toNat)
  case atStart => exact ⟨0, Nat.zero_le _, rfl, fun j hj => by omega, rfl⟩
  case round =>
    obtain ⟨k, hk, rfl, hall, rfl⟩ := hrel
    have HA := Lib.hid hall
    clear hall
    by_cases hkn : k < l.length
    · have hd1 : decide (k < l.length) = true := decide_eq_true hkn
      obtain ⟨b, off, rfl, hc⟩ := str_cell HE.out k hkn
      obtain ⟨x, hx⟩ : ∃ x, x = l[k]'hkn := ⟨_, rfl⟩
      rw [← hx] at hc
      have HX := Lib.hid hx
      clear hx
      by_cases he : x = s
      · subst he
        have hfi : R = (k : Int) := by rw [HR.out]; exact find_at hkn HX.out.symm (fun j h => HA.out j h (by omega))
        have HF := Lib.hid hfi
        have heq : (x == x) = true := by simp
        clear hfi
        go_wp2_with fail
        go_ret
        exact ⟨by rw [HF.out]; rfl, rfl⟩
      · have heq : (x == s) = false := by rw [beq_eq_false_iff_ne]; exact he
        have HN := Lib.hid he
        clear he
        go_wp2_with fail
        refine ⟨⟨k + 1, by omega, by go_num, fun j hj hjl => ?_, rfl⟩, by simp [intOf]; omega⟩
        by_cases e : j = k
        · subst e; rw [← HX.out]; exact HN.out
        · exact HA.out j (by omega) hjl
    · have hd1 : decide (k < l.length) = false := decide_eq_false hkn
      have hfi : R = -1 := by
        rw [HR.out]
        refine find_no (fun hm => ?_)
        obtain ⟨j, hj, he⟩ := List.getElem_of_mem hm
        exact HA.out j (by omega) hj he
      have HF := Lib.hid hfi
      clear hfi
      go_wp2_with fail
      go_ret
      exact ⟨by rw [HF.out]; rfl, rfl⟩
/-- Two lists of numbers agree up to a place. -/
def EqRel (w : World) (a b : List Int) (iv : Value) (wx : World) : Prop := ∃ k : Nat, k ≤ a.length ∧ iv = .int .i64 (k : Int) ∧ (∀ j (_ : j < k) (h1 : j < a.length) (h2 : j < b.length), a[j]'h1 = b[j]'h2) ∧ ∃ m, wx = w.drewN m
set_option maxRecDepth 100000 in
set_option maxHeartbeats 1000000 in
theorem rright_q (a b : List Int) (va vb : Value) (w : World) (h1 : intsAt w va a) (h2 : intsAt w vb b) : Calls Tryz.prog 75 #[va, vb] w fun e w' => e = .returned (.bool (decide (a = b))) ∧ ∃ m, w' = w.drewN m := by
  obtain ⟨a0, c0, rfl, hle, hmx⟩ := h1.form
  obtain ⟨a1, c1, rfl, hle1, hmx1⟩ := h2.form
  have H1 := Lib.hid h1
  have H2 := Lib.hid h2
  clear h1 h2
  obtain ⟨R, hR⟩ : ∃ R, R = decide (a = b) := ⟨_, rfl⟩
  rw [← hR]
  have HR := Lib.hid hR
  clear hR
  by_cases hl : a.length = b.length
  · have hx : ((a.length : Int) != (b.length : Int)) = false := by rw [hl]; simp
    have HL := Lib.hid hl
    have hl1 : a.length ≤ b.length := by omega
    have hl2 : b.length ≤ a.length := by omega
    clear hl
    go_enter Tryz.func75, Tryz.ntmps75
    go_wp2_with fail
    go_loopw [5] (EqRel w a b) (fun iv _ => a.length - (intOf iv).toNat)
    case atStart => exact ⟨0, Nat.zero_le _, rfl, fun j hj => by omega, 0, rfl⟩
    case round =>
      obtain ⟨k, hk, rfl, hall, m, rfl⟩ := hrel
      have HA := Lib.hid hall
      have hf : Fr [] w (w.drewN m) := (Fr.refl [] w).andDrewN m
      clear hall
      by_cases hkn : k < a.length
      · have hd1 : decide (k < a.length) = true := decide_eq_true hkn
        have hkb : k < b.length := by omega
        obtain ⟨p, off, rfl, hc⟩ := int_cell H1.out k hkn
        obtain ⟨q, off2, rfl, hc2⟩ := int_cell H2.out k hkb
        obtain ⟨x, hx⟩ : ∃ x, x = a[k]'hkn := ⟨_, rfl⟩
        obtain ⟨y, hy⟩ : ∃ y, y = b[k]'hkb := ⟨_, rfl⟩
        rw [← hx] at hc
        rw [← hy] at hc2
        have HX := Lib.hid hx
        have HY := Lib.hid hy
        clear hx hy hf
        by_cases he : x = y
        · have hne : (x != y) = false := by rw [he]; simp
          have HE := Lib.hid he
          clear he
          go_upto_region 6 with fail
          go_quiet (fail)
          go_wp2_with fail
          refine ⟨⟨k + 1, by omega, by go_num, fun j hj g1 g2 => ?_, ⟨m + nq, by first | rfl | rw [World.drewN_drewN]⟩⟩, by simp [intOf]; omega⟩
          by_cases e : j = k
          · subst e; rw [← HX.out, ← HY.out]; exact HE.out
          · exact HA.out j (by omega) g1 g2
        · have hne : (x != y) = true := by rw [bne_iff_ne]; exact he
          have HRF := Lib.hid (show R = false by
            rw [HR.out]; exact decide_eq_false (fun e => he (by rw [HX.out, HY.out]; simp [e])))
          clear he
          go_upto_region 6 with fail
          go_quiet (fail)
          go_wp2_with fail
          go_ret
          exact ⟨by rw [HRF.out]; rfl, ⟨m + nq, by first | rfl | rw [World.drewN_drewN]⟩⟩
      · have hd1 : decide (k < a.length) = false := decide_eq_false hkn
        have HRT := Lib.hid (show R = true by
          rw [HR.out]
          exact decide_eq_true (List.ext_getElem HL.out (fun j g1 g2 => HA.out j (by omega) g1 g2)))
        clear hf
        go_wp2_with fail
        go_ret
        exact ⟨by rw [HRT.out]; rfl, ⟨m, rfl⟩⟩
  · have hx : ((a.length : Int) != (b.length : Int)) = true := by rw [bne_iff_ne]; omega
    have HRF := Lib.hid (show R = false by rw [HR.out]; exact decide_eq_false (fun e => hl (by rw [e])))
    clear hl
    go_enter Tryz.func75, Tryz.ntmps75
    go_wp2_with fail
    go_ret
    exact ⟨by rw [HRF.out]; rfl, ⟨0, rfl⟩⟩
theorem rright_any (a b : List Int) (va vb : Value) (w : World) (h1 : intsAt w va a) (h2 : intsAt w vb b) : Calls Tryz.prog 75 #[va, vb] w fun e w' => e = .returned (.bool (decide (a = b))) ∧ Fr [] w w' :=
  (rright_q a b va vb w h1 h2).mono fun _ _ ⟨he, m, hm⟩ => ⟨he, by rw [hm]; exact (Fr.refl [] w).andDrewN m⟩
end Go.Proofs.YtjlkcdmeiakkbaaGreatDoor
