/- Several texts in one: GrmA, GrmB, LexA, LexBl, LexB, GrmC. -/
import Derived.LoopTactic
import Derived.BigQuiet
import Derived.WalkMore
import Derived.Deep.DeepCutAuto
import Derived.Test.YtnaamjpiaekmeaaGreatDt
import Derived.Test.YtnaamjpiaekmeaaGreatBs
import Derived.Test.YtnaamjpiaekmeaaGreatMm
set_option linter.unusedVariables false
set_option linter.unusedSimpArgs false
namespace Go.Proofs.YtnaamjpiaekmeaaGreat
open Go.RowKit
def FindRel (w : World) (l : List (List UInt8)) (s : List UInt8) (iv : Value) (wx : World) : Prop := ∃ k : Nat, k ≤ l.length ∧ iv = .int .i64 (k : Int) ∧ (∀ j (_ : j < k) (h' : j < l.length), l[j]'h' ≠ s) ∧ w = wx
set_option maxRecDepth 100000 in
set_option maxHeartbeats 1000000 in
theorem rfind_any (l : List (List UInt8)) (lv : Value) (s : List UInt8) (w : World) (h : strsAt w lv l) : Calls Tryz.prog 64 #[lv, encStr s] w fun e w' => e = .returned (.int .i64 (findG l s)) ∧ w = w' := by
 obtain ⟨a0, c0, rfl, hle, hmx⟩ := h.form
 have HE := Lib.hid h
 clear h
 obtain ⟨R, hR⟩ : ∃ R, R = findG l s := ⟨_, rfl⟩
 rw [← hR]
 have HR := Lib.hid hR
 clear hR
 go_enter Tryz.func64, Tryz.ntmps64
 go_wp2_with fail
 go_loopw [5] (FindRel w l s) (fun iv _ => l.length - (intOf iv).toNat)
 case atStart => exact ⟨0, Nat.zero_le _, rfl, fun j hj => by omega, rfl⟩
 case round =>
  obtain ⟨k, hk, rfl, hall, rfl⟩ := hrel
  have HA := Lib.hid hall
  clear hall
  by_cases hkn : k < l.length
  ·have hd1 : decide (k < l.length) = true := decide_eq_true hkn
   obtain ⟨b, off, rfl, hc⟩ := str_cell HE.out k hkn
   obtain ⟨x, hx⟩ : ∃ x, x = l[k]'hkn := ⟨_, rfl⟩
   rw [← hx] at hc
   have HX := Lib.hid hx
   clear hx
   by_cases he : x = s
   ·subst he
    have hfi : R = (k : Int) := by rw [HR.out]; exact find_at hkn HX.out.symm (fun j h => HA.out j h (by omega))
    have HF := Lib.hid hfi
    have heq : (x == x) = true := by simp
    clear hfi
    go_wp2_with fail
    go_ret
    exact ⟨by rw [HF.out]; rfl, rfl⟩
   ·have heq : (x == s) = false := by rw [beq_eq_false_iff_ne]; exact he
    have HN := Lib.hid he
    clear he
    go_wp2_with fail
    refine ⟨⟨k + 1, by omega, by go_num, fun j hj hjl => ?_, rfl⟩, by simp [intOf]; omega⟩
    by_cases e : j = k
    ·subst e; rw [← HX.out]; exact HN.out
    ·exact HA.out j (by omega) hjl
  ·have hd1 : decide (k < l.length) = false := decide_eq_false hkn
   have hfi : R = -1 := by
    rw [HR.out]
    refine find_no (fun hm => ?_)
    obtain ⟨j, hj, he⟩ := List.getElem_of_mem hm
    exact HA.out j (by omega) hj he
   have HF := Lib.hid hfi
   clear hfi
   go_wp2_with fail
   go_ret
   exact ⟨by rw [HF.out]; rfl, rfl⟩
def EqRel (w : World) (a b : List Int) (iv : Value) (wx : World) : Prop := ∃ k : Nat, k ≤ a.length ∧ iv = .int .i64 (k : Int) ∧ (∀ j (_ : j < k) (h1 : j < a.length) (h2 : j < b.length), a[j]'h1 = b[j]'h2) ∧ ∃ m, wx = w.drewN m
set_option maxRecDepth 100000 in
set_option maxHeartbeats 1000000 in
theorem rright_q (a b : List Int) (va vb : Value) (w : World) (h1 : intsAt w va a) (h2 : intsAt w vb b) : Calls Tryz.prog 105 #[va, vb] w fun e w' => e = .returned (.bool (decide (a = b))) ∧ ∃ m, w' = w.drewN m := by
 obtain ⟨a0, c0, rfl, hle, hmx⟩ := h1.form
 obtain ⟨a1, c1, rfl, hle1, hmx1⟩ := h2.form
 have H1 := Lib.hid h1
 have H2 := Lib.hid h2
 clear h1 h2
 obtain ⟨R, hR⟩ : ∃ R, R = decide (a = b) := ⟨_, rfl⟩
 rw [← hR]
 have HR := Lib.hid hR
 clear hR
 by_cases hl : a.length = b.length
 ·have hx : ((a.length : Int) != (b.length : Int)) = false := by rw [hl]; simp
  have HL := Lib.hid hl
  have hl1 : a.length ≤ b.length := by omega
  have hl2 : b.length ≤ a.length := by omega
  clear hl
  go_enter Tryz.func105, Tryz.ntmps105
  go_wp2_with fail
  go_loopw [5] (EqRel w a b) (fun iv _ => a.length - (intOf iv).toNat)
  case atStart => exact ⟨0, Nat.zero_le _, rfl, fun j hj => by omega, 0, rfl⟩
  case round =>
   obtain ⟨k, hk, rfl, hall, m, rfl⟩ := hrel
   have HA := Lib.hid hall
   have hf : Fr [] w (w.drewN m) := (Fr.refl [] w).andDrewN m
   clear hall
   by_cases hkn : k < a.length
   ·have hd1 : decide (k < a.length) = true := decide_eq_true hkn
    have hkb : k < b.length := by omega
    obtain ⟨p, off, rfl, hc⟩ := int_cell H1.out k hkn
    obtain ⟨q, off2, rfl, hc2⟩ := int_cell H2.out k hkb
    obtain ⟨x, hx⟩ : ∃ x, x = a[k]'hkn := ⟨_, rfl⟩
    obtain ⟨y, hy⟩ : ∃ y, y = b[k]'hkb := ⟨_, rfl⟩
    rw [← hx] at hc
    rw [← hy] at hc2
    have HX := Lib.hid hx
    have HY := Lib.hid hy
    clear hx hy hf
    by_cases he : x = y
    ·have hne : (x != y) = false := by rw [he]; simp
     have HE := Lib.hid he
     clear he
     go_upto_region 6 with fail
     go_quiet (fail)
     go_wp2_with fail
     refine ⟨⟨k + 1, by omega, by go_num, fun j hj g1 g2 => ?_, ⟨m + nq, by first | rfl | rw [World.drewN_drewN]⟩⟩, by simp [intOf]; omega⟩
     by_cases e : j = k
     ·subst e; rw [← HX.out, ← HY.out]; exact HE.out
     ·exact HA.out j (by omega) g1 g2
    ·have hne : (x != y) = true := by rw [bne_iff_ne]; exact he
     have HRF := Lib.hid (show R = false by
      rw [HR.out]; exact decide_eq_false (fun e => he (by rw [HX.out, HY.out]; simp [e])))
     clear he
     go_upto_region 6 with fail
     go_quiet (fail)
     go_wp2_with fail
     go_ret
     exact ⟨by rw [HRF.out]; rfl, ⟨m + nq, by first | rfl | rw [World.drewN_drewN]⟩⟩
   ·have hd1 : decide (k < a.length) = false := decide_eq_false hkn
    have HRT := Lib.hid (show R = true by
     rw [HR.out]
     exact decide_eq_true (List.ext_getElem HL.out (fun j g1 g2 => HA.out j (by omega) g1 g2)))
    clear hf
    go_wp2_with fail
    go_ret
    exact ⟨by rw [HRT.out]; rfl, ⟨m, rfl⟩⟩
 ·have hx : ((a.length : Int) != (b.length : Int)) = true := by rw [bne_iff_ne]; omega
  have HRF := Lib.hid (show R = false by rw [HR.out]; exact decide_eq_false (fun e => hl (by rw [e])))
  clear hl
  go_enter Tryz.func105, Tryz.ntmps105
  go_wp2_with fail
  go_ret
  exact ⟨by rw [HRF.out]; rfl, ⟨0, rfl⟩⟩
theorem rright_any (a b : List Int) (va vb : Value) (w : World) (h1 : intsAt w va a) (h2 : intsAt w vb b) : Calls Tryz.prog 105 #[va, vb] w fun e w' => e = .returned (.bool (decide (a = b))) ∧ Fr [] w w' :=
 (rright_q a b va vb w h1 h2).mono fun _ _ ⟨he, m, hm⟩ => ⟨he, by rw [hm]; exact (Fr.refl [] w).andDrewN m⟩
end Go.Proofs.YtnaamjpiaekmeaaGreat
namespace Go.Proofs.YtnaamjpiaekmeaaGreat
open Go.RowKit
noncomputable def twiceB (l : List RuleG) : Bool := boolOf (¬ l.Nodup)
def Apart (l : List RuleG) (n : Nat) : Prop := ∀ i (h : i < l.length), i < n → ∀ j (hj : j < i), l[j]'(by omega) ≠ l[i]
def OutRel (w : World) (l : List RuleG) (iv : Value) (wx : World) : Prop := ∃ k : Nat, k ≤ l.length ∧ iv = .int .i64 (k : Int) ∧ Apart l k ∧ Fr [] w wx
def InRel (w : World) (l : List RuleG) (i : Nat) (hi : i < l.length) (iv : Value) (wx : World) : Prop := ∃ k : Nat, k ≤ i ∧ iv = .int .i64 (k : Int) ∧ (∀ j (hj : j < k) (hj' : j < l.length), l[j] ≠ l[i]) ∧ Fr [] w wx
theorem apart_all {l : List RuleG} (h : Apart l l.length) : l.Nodup := nodup_iff.2 (fun i hi j hj => h i hi hi j hj)
set_option maxRecDepth 100000 in
set_option maxHeartbeats 4000000 in
theorem rtwice_any (l : List RuleG) (lv : Value) (w : World) (h : rulesAt w lv l) : Calls Tryz.prog 66 #[lv] w fun e w' => e = .returned (.bool (twiceB l)) ∧ Fr [] w w' := by
 obtain ⟨a0, c0, rfl, hle, hmx⟩ := h.form
 have H1 := Lib.hid h
 clear h
 obtain ⟨R, hR⟩ : ∃ R, R = twiceB l := ⟨_, rfl⟩
 rw [← hR]
 have HR := Lib.hid hR
 clear hR
 go_enter Tryz.func66, Tryz.ntmps66
 go_wp2_with fail
 go_loopw [3] (OutRel w l) (fun iv _ => l.length - (intOf iv).toNat)
 case atStart => exact ⟨0, Nat.zero_le _, rfl, fun i h1 h2 => by omega, Fr.refl _ _⟩
 case round =>
  obtain ⟨i, hi, rfl, hall, hf⟩ := hrel
  have HA := Lib.hid hall
  have HF := Lib.hid hf
  clear hall hf
  by_cases hin : i < l.length
  ·have hd1 : decide (i < l.length) = true := decide_eq_true hin
   go_wp2_with fail
   go_loopw [4] (InRel w l i hin) (fun iv _ => i - (intOf iv).toNat)
   case atStart => exact ⟨0, Nat.zero_le _, rfl, fun j hj => by omega, HF.out⟩
   case round =>
    clear HF
    obtain ⟨k, hk, rfl, hall2, hf⟩ := hrel
    have HA2 := Lib.hid hall2
    have HF := Lib.hid hf
    clear hall2
    by_cases hkn : k < i
    ·have hd2 : decide (k < i) = true := decide_eq_true hkn
     have hkl : k < l.length := by omega
     obtain ⟨b1, o1, v1, rfl, p0, p1, hv1⟩ := rule_cells H1.out i hin
     obtain ⟨b2, o2, v2, hb2, q0, q1, hv2⟩ := rule_cells H1.out k hkl
     simp only [Option.some.injEq, Addr.mk.injEq, and_true] at hb2
     obtain ⟨rfl, rfl⟩ := hb2
     obtain ⟨x, hx⟩ : ∃ x, x = l[i]'hin := ⟨_, rfl⟩
     obtain ⟨y, hy⟩ : ∃ y, y = l[k]'hkl := ⟨_, rfl⟩
     rw [← hx] at p0 hv1
     rw [← hy] at q0 hv2
     have HX := Lib.hid hx
     have HY := Lib.hid hy
     obtain ⟨xl, xr⟩ := x
     obtain ⟨yl, yr⟩ := y
     simp only at p0 hv1 q0 hv2
     obtain ⟨a3, c3, rfl, hc3, hm3⟩ := hv1.form
     obtain ⟨a4, c4, rfl, hc4, hm4⟩ := hv2.form
     have HP0 := Lib.hid p0
     have HP1 := Lib.hid p1
     have HQ0 := Lib.hid q0
     have HQ1 := Lib.hid q1
     have HV1 := Lib.hid hv1
     have HV2 := Lib.hid hv2
     clear hx hy p0 p1 q0 q1 hv1 hv2
     by_cases he : xl = yl
     ·have hne : (xl == yl) = true := by rw [he]; simp
      by_cases hr : xr = yr
      ·have HRT := Lib.hid (show R = true by
        rw [HR.out]
        refine boolOf_true (fun hn => nodup_iff.1 hn i hin k hkn ?_)
        rw [← HX.out, ← HY.out, he, hr])
       have hsr := fun wx (hfx : Fr [] w wx) => rright_any xr yr _ _ wx (HV1.out.below hfx) (HV2.out.below hfx)
       rw [decide_eq_true hr] at hsr
       have HSR := Lib.hid hsr
       clear hsr he hr
       go_upto_region 7 with fail
       refine wp_region_G [] [(0, false), (1, false), (2, false), (3, false), (4, false), (5, false), (6, false), (7, false), (8, false), (9, false), (10, false), (11, false), (12, false), (13, false), (14, false), (15, false), (16, false), (17, false), (18, false), (19, false), (20, false), (21, false), (22, true), (23, false)] 40 rfl (by kernel_rfl) (by kernel_rfl) (by kernel_rfl) (fun c a d v w h => by cases d <;> exact h) (fun w2 hf2 => ?_)
       simp only [List.map_cons, List.map_nil, List.getElem?_toArray, List.getElem?_cons_succ, List.getElem?_cons_zero, Option.getD_some]
       have HF2 := Lib.hid (HF.out.trans hf2 (by simp) (n := []) (by simp))
       clear hf2 hf
       repeat (apply wpG_t; · (intro w' hf'; have e0 := (HF2.out.trans hf' (by simp) (n := []) (by simp)).cell HP0.out (by simp); have e1 := (HF2.out.trans hf' (by simp) (n := []) (by simp)).cell HP1.out (by simp); have e2 := (HF2.out.trans hf' (by simp) (n := []) (by simp)).cell HQ0.out (by simp); have e3 := (HF2.out.trans hf' (by simp) (n := []) (by simp)).cell HQ1.out (by simp); go_wp2_with fail; exact ⟨rfl, rfl⟩))
       refine wpG_x ?_
       go_wp2_with (go_at_call 105; refine (HSR.out _ HF2.out).mono ?_; rintro e w3 ⟨rfl, hf3⟩)
       refine ⟨hf3, rfl, ?_⟩
       repeat (apply wpG_t; · (intro w' hf'; go_wp2_with fail; exact ⟨rfl, rfl⟩))
       refine wpG_end ?_
       go_wp2_with fail
       go_ret
       exact ⟨by rw [HRT.out]; rfl, HF2.out.trans hf3 (by simp) (by simp)⟩
      ·have hsr := fun wx (hfx : Fr [] w wx) => rright_any xr yr _ _ wx (HV1.out.below hfx) (HV2.out.below hfx)
       rw [decide_eq_false hr] at hsr
       have HSR := Lib.hid hsr
       have HNE := Lib.hid hr
       clear hsr he hr
       go_upto_region 7 with fail
       refine wp_region_G [] [(0, false), (1, false), (2, false), (3, false), (4, false), (5, false), (6, false), (7, false), (8, false), (9, false), (10, false), (11, false), (12, false), (13, false), (14, false), (15, false), (16, false), (17, false), (18, false), (19, false), (20, false), (21, false), (22, true), (23, false)] 40 rfl (by kernel_rfl) (by kernel_rfl) (by kernel_rfl) (fun c a d v w h => by cases d <;> exact h) (fun w2 hf2 => ?_)
       simp only [List.map_cons, List.map_nil, List.getElem?_toArray, List.getElem?_cons_succ, List.getElem?_cons_zero, Option.getD_some]
       have HF2 := Lib.hid (HF.out.trans hf2 (by simp) (n := []) (by simp))
       clear hf2 hf
       repeat (apply wpG_t; · (intro w' hf'; have e0 := (HF2.out.trans hf' (by simp) (n := []) (by simp)).cell HP0.out (by simp); have e1 := (HF2.out.trans hf' (by simp) (n := []) (by simp)).cell HP1.out (by simp); have e2 := (HF2.out.trans hf' (by simp) (n := []) (by simp)).cell HQ0.out (by simp); have e3 := (HF2.out.trans hf' (by simp) (n := []) (by simp)).cell HQ1.out (by simp); go_wp2_with fail; exact ⟨rfl, rfl⟩))
       refine wpG_x ?_
       go_wp2_with (go_at_call 105; refine (HSR.out _ HF2.out).mono ?_; rintro e w3 ⟨rfl, hf3⟩)
       refine ⟨hf3, rfl, ?_⟩
       repeat (apply wpG_t; · (intro w' hf'; go_wp2_with fail; exact ⟨rfl, rfl⟩))
       refine wpG_end ?_
       go_wp2_with fail
       refine ⟨⟨k + 1, by omega, by go_num, fun j hj hj' => ?_, HF2.out.trans hf3 (by simp) (by simp)⟩, by simp [intOf]; omega⟩
       by_cases e : j = k
       ·subst e; rw [← HX.out, ← HY.out]; exact fun q => HNE.out (by injection q with _ q2; exact q2.symm)
       ·exact HA2.out j (by omega) hj'
     ·have hne : (xl == yl) = false := by rw [beq_eq_false_iff_ne]; exact he
      have HNE := Lib.hid he
      have e0 := hf.cell HP0.out (by simp)
      have e1 := hf.cell HP1.out (by simp)
      have e2 := hf.cell HQ0.out (by simp)
      have e3 := hf.cell HQ1.out (by simp)
      clear he hf
      go_upto_region 7 with fail
      go_quiet (fail)
      go_wp2_with fail
      refine ⟨⟨k + 1, by omega, by go_num, fun j hj hj' => ?_, HF.out.andDrewN _⟩, by simp [intOf]; omega⟩
      by_cases e : j = k
      ·subst e; rw [← HX.out, ← HY.out]; exact fun q => HNE.out (by injection q with q2 _; exact q2.symm)
      ·exact HA2.out j (by omega) hj'
    ·have hd2 : decide (k < i) = false := decide_eq_false hkn
     obtain rfl : k = i := by omega
     clear hf
     go_wp2_with fail
     refine ⟨⟨k + 1, by omega, by go_num, fun a ha han j hj => ?_, HF.out⟩, by simp [intOf]; omega⟩
     by_cases e : a = k
     ·subst e; exact HA2.out j hj (by omega)
     ·exact HA.out a ha (by omega) j hj
  ·have hd1 : decide (i < l.length) = false := decide_eq_false hin
   obtain rfl : i = l.length := by omega
   have HRF := Lib.hid (show R = false by rw [HR.out]; exact boolOf_false (fun hn => hn (apart_all HA.out)))
   go_wp2_with fail
   go_ret
   exact ⟨by rw [HRF.out]; rfl, HF.out⟩
end Go.Proofs.YtnaamjpiaekmeaaGreat
namespace Go.Proofs.YtnaamjpiaekmeaaGreat
open Go.RowKit
set_option maxRecDepth 100000 in
theorem rletter_any (c : UInt8) (w : World) : Calls Tryz.prog 103 #[.int .u8 (c.toNat : Int)] w fun e w' => e = .returned (.bool (letterB c)) ∧ w = w' := by
 obtain ⟨n, hn⟩ : ∃ n, n = c.toNat := ⟨_, rfl⟩
 rw [← hn]
 have HN := Lib.hid hn
 clear hn
 rcases (show (n < 65) ∨ (65 ≤ n ∧ n < 91) ∨ (91 ≤ n ∧ n < 97) ∨ (97 ≤ n ∧ n < 123) ∨ (123 ≤ n) by omega) with hw | hw | hw | hw | hw
 ·-- n < 65
  have q0 : decide (97 ≤ (n : Int)) = false := decide_eq_false (by omega)
  have q1 : decide ((n : Int) ≤ 122) = true := decide_eq_true (by omega)
  have q2 : decide (65 ≤ (n : Int)) = false := decide_eq_false (by omega)
  have q3 : decide ((n : Int) ≤ 90) = true := decide_eq_true (by omega)
  have ho : letterB c = false := by unfold letterB; rw [← HN.out]; simp; omega
  rw [ho]
  clear ho hw
  go_enter Tryz.func103, Tryz.ntmps103
  go_wp2_with fail
  go_ret
  exact ⟨rfl, rfl⟩
 ·-- 65 ≤ n ∧ n < 91
  have q0 : decide (97 ≤ (n : Int)) = false := decide_eq_false (by omega)
  have q1 : decide ((n : Int) ≤ 122) = true := decide_eq_true (by omega)
  have q2 : decide (65 ≤ (n : Int)) = true := decide_eq_true (by omega)
  have q3 : decide ((n : Int) ≤ 90) = true := decide_eq_true (by omega)
  have ho : letterB c = true := by unfold letterB; rw [← HN.out]; simp; omega
  rw [ho]
  clear ho hw
  go_enter Tryz.func103, Tryz.ntmps103
  go_wp2_with fail
  go_ret
  exact ⟨rfl, rfl⟩
 ·-- 91 ≤ n ∧ n < 97
  have q0 : decide (97 ≤ (n : Int)) = false := decide_eq_false (by omega)
  have q1 : decide ((n : Int) ≤ 122) = true := decide_eq_true (by omega)
  have q2 : decide (65 ≤ (n : Int)) = true := decide_eq_true (by omega)
  have q3 : decide ((n : Int) ≤ 90) = false := decide_eq_false (by omega)
  have ho : letterB c = false := by unfold letterB; rw [← HN.out]; simp; omega
  rw [ho]
  clear ho hw
  go_enter Tryz.func103, Tryz.ntmps103
  go_wp2_with fail
  go_ret
  exact ⟨rfl, rfl⟩
 ·-- 97 ≤ n ∧ n < 123
  have q0 : decide (97 ≤ (n : Int)) = true := decide_eq_true (by omega)
  have q1 : decide ((n : Int) ≤ 122) = true := decide_eq_true (by omega)
  have q2 : decide (65 ≤ (n : Int)) = true := decide_eq_true (by omega)
  have q3 : decide ((n : Int) ≤ 90) = false := decide_eq_false (by omega)
  have ho : letterB c = true := by unfold letterB; rw [← HN.out]; simp; omega
  rw [ho]
  clear ho hw
  go_enter Tryz.func103, Tryz.ntmps103
  go_wp2_with fail
  go_ret
  exact ⟨rfl, rfl⟩
 ·-- 123 ≤ n
  have q0 : decide (97 ≤ (n : Int)) = true := decide_eq_true (by omega)
  have q1 : decide ((n : Int) ≤ 122) = false := decide_eq_false (by omega)
  have q2 : decide (65 ≤ (n : Int)) = true := decide_eq_true (by omega)
  have q3 : decide ((n : Int) ≤ 90) = false := decide_eq_false (by omega)
  have ho : letterB c = false := by unfold letterB; rw [← HN.out]; simp; omega
  rw [ho]
  clear ho hw
  go_enter Tryz.func103, Tryz.ntmps103
  go_wp2_with fail
  go_ret
  exact ⟨rfl, rfl⟩
set_option maxRecDepth 100000 in
theorem rmore_any (c : UInt8) (w : World) : Calls Tryz.prog 104 #[.int .u8 (c.toNat : Int)] w fun e w' => e = .returned (.bool (moreB c)) ∧ w = w' := by
 have hle := rletter_any c w
 obtain ⟨n, hn⟩ : ∃ n, n = c.toNat := ⟨_, rfl⟩
 rw [← hn] at hle ⊢
 have HN := Lib.hid hn
 clear hn
 cases hlt : letterB c with
 | true =>
   rw [hlt] at hle
   have HL := Lib.hid hle
   have ho : moreB c = true := by unfold moreB; rw [hlt]; rfl
   rw [ho]
   clear ho hlt hle
   go_enter Tryz.func104, Tryz.ntmps104
   go_wp2_with (go_at_call 103; refine HL.out.mono ?_; rintro e w1 ⟨rfl, rfl⟩)
   go_ret
   exact ⟨rfl, rfl⟩
 | false =>
   rw [hlt] at hle
   have HL := Lib.hid hle
   have HLT := Lib.hid hlt
   clear hle hlt
   rcases (show (n < 48) ∨ (48 ≤ n ∧ n < 58) ∨ (58 ≤ n ∧ n < 95) ∨ (n = 95) ∨ (96 ≤ n) by omega) with hw | hw | hw | hw | hw
   ·-- n < 48
    have q0 : decide (48 ≤ (n : Int)) = false := decide_eq_false (by omega)
    have q1 : decide ((n : Int) ≤ 57) = true := decide_eq_true (by omega)
    have r0 : ((n : Int) == 95) = false := by rw [beq_eq_false_iff_ne]; omega
    have ho : moreB c = false := by unfold moreB; rw [HLT.out, ← HN.out]; simp; omega
    rw [ho]
    clear ho hw
    go_enter Tryz.func104, Tryz.ntmps104
    go_wp2_with (go_at_call 103; refine HL.out.mono ?_; rintro e w1 ⟨rfl, rfl⟩)
    go_ret
    exact ⟨rfl, rfl⟩
   ·-- 48 ≤ n ∧ n < 58
    have q0 : decide (48 ≤ (n : Int)) = true := decide_eq_true (by omega)
    have q1 : decide ((n : Int) ≤ 57) = true := decide_eq_true (by omega)
    have r0 : ((n : Int) == 95) = false := by rw [beq_eq_false_iff_ne]; omega
    have ho : moreB c = true := by unfold moreB; rw [HLT.out, ← HN.out]; simp; omega
    rw [ho]
    clear ho hw
    go_enter Tryz.func104, Tryz.ntmps104
    go_wp2_with (go_at_call 103; refine HL.out.mono ?_; rintro e w1 ⟨rfl, rfl⟩)
    go_ret
    exact ⟨rfl, rfl⟩
   ·-- 58 ≤ n ∧ n < 95
    have q0 : decide (48 ≤ (n : Int)) = true := decide_eq_true (by omega)
    have q1 : decide ((n : Int) ≤ 57) = false := decide_eq_false (by omega)
    have r0 : ((n : Int) == 95) = false := by rw [beq_eq_false_iff_ne]; omega
    have ho : moreB c = false := by unfold moreB; rw [HLT.out, ← HN.out]; simp; omega
    rw [ho]
    clear ho hw
    go_enter Tryz.func104, Tryz.ntmps104
    go_wp2_with (go_at_call 103; refine HL.out.mono ?_; rintro e w1 ⟨rfl, rfl⟩)
    go_ret
    exact ⟨rfl, rfl⟩
   ·-- n = 95
    have q0 : decide (48 ≤ (n : Int)) = true := decide_eq_true (by omega)
    have q1 : decide ((n : Int) ≤ 57) = false := decide_eq_false (by omega)
    have r0 : ((n : Int) == 95) = true := by rw [hw]; rfl
    have ho : moreB c = true := by unfold moreB; rw [HLT.out, ← HN.out]; simp; omega
    rw [ho]
    clear ho hw
    go_enter Tryz.func104, Tryz.ntmps104
    go_wp2_with (go_at_call 103; refine HL.out.mono ?_; rintro e w1 ⟨rfl, rfl⟩)
    go_ret
    exact ⟨rfl, rfl⟩
   ·-- 96 ≤ n
    have q0 : decide (48 ≤ (n : Int)) = true := decide_eq_true (by omega)
    have q1 : decide ((n : Int) ≤ 57) = false := decide_eq_false (by omega)
    have r0 : ((n : Int) == 95) = false := by rw [beq_eq_false_iff_ne]; omega
    have ho : moreB c = false := by unfold moreB; rw [HLT.out, ← HN.out]; simp; omega
    rw [ho]
    clear ho hw
    go_enter Tryz.func104, Tryz.ntmps104
    go_wp2_with (go_at_call 103; refine HL.out.mono ?_; rintro e w1 ⟨rfl, rfl⟩)
    go_ret
    exact ⟨rfl, rfl⟩
end Go.Proofs.YtnaamjpiaekmeaaGreat
namespace Go.Proofs.YtnaamjpiaekmeaaGreat
open Go.RowKit
def AllRel (p : UInt8 → Bool) (w : World) (m : List UInt8) (iv : Value) (wx : World) : Prop := ∃ k : Nat, k ≤ m.length ∧ iv = .int .i64 (k : Int) ∧ (∀ j, j < k → ∀ h : j < m.length, p (m[j]'h) = true) ∧ w = wx
theorem all_next {p : UInt8 → Bool} {m : List UInt8} {k : Nat} (h : ∀ j, j < k → ∀ h : j < m.length, p (m[j]'h) = true) (hk : k < m.length) (ho : p (m[k]'hk) = true) : ∀ j, j < k + 1 → ∀ h : j < m.length, p (m[j]'h) = true := by
 intro j hj hl
 by_cases e : j = k
 ·subst e; exact ho
 ·exact h j (by omega) hl
theorem all_no {p : UInt8 → Bool} {m : List UInt8} {k : Nat} (hk : k < m.length) (ho : p (m[k]'hk) = false) : m.all p = false := by
 rw [List.all_eq_false]
 exact ⟨_, List.getElem_mem hk, by rw [ho]; simp⟩
theorem all_yes {p : UInt8 → Bool} {m : List UInt8} (h : ∀ j (h : j < m.length), p (m[j]'h) = true) : m.all p = true := by
 refine List.all_eq_true.2 (fun x hx => ?_)
 obtain ⟨j, hj, rfl⟩ := List.getElem_of_mem hx
 exact h j hj
end Go.Proofs.YtnaamjpiaekmeaaGreat
namespace Go.Proofs.YtnaamjpiaekmeaaGreat
open Go.RowKit
set_option maxRecDepth 100000 in
set_option maxHeartbeats 1000000 in
theorem rname_any (m : List UInt8) (hm : m.length ≤ maxLen) (w : World) : Calls Tryz.prog 63 #[encStr m] w fun e w' => e = .returned (.bool (nameB m)) ∧ w = w' := by
 have hm' : m.length ≤ 9223372036854775807 := by simpa [maxLen] using hm
 obtain ⟨R, hR⟩ : ∃ R, R = nameB m := ⟨_, rfl⟩
 rw [← hR]
 have HR := Lib.hid hR
 clear hR hm
 by_cases h1 : m.length < 1
 ·have hd1 : decide ((m.length : Int) < 1) = true := decide_eq_true (by omega)
  have HRF := Lib.hid (show R = false by rw [HR.out]; unfold nameB; rw [decide_eq_false (by omega)]; rfl)
  clear h1
  go_enter Tryz.func63, Tryz.ntmps63
  go_wp2_with fail
  go_ret
  exact ⟨by rw [HRF.out]; rfl, rfl⟩
 ·have hd1 : decide ((m.length : Int) < 1) = false := decide_eq_false (by omega)
  by_cases h2 : 32 < m.length
  ·have hd2 : decide (32 < (m.length : Int)) = true := decide_eq_true (by omega)
   have HRF := Lib.hid (show R = false by rw [HR.out]; unfold nameB; rw [decide_eq_false (by omega)]; rfl)
   clear h1 h2
   go_enter Tryz.func63, Tryz.ntmps63
   go_wp2_with fail
   go_ret
   exact ⟨by rw [HRF.out]; rfl, rfl⟩
  ·have hd2 : decide (32 < (m.length : Int)) = false := decide_eq_false (by omega)
   obtain ⟨c, hc⟩ : ∃ c, m[0]? = some c := ⟨m[0]'(by omega), List.getElem?_eq_getElem _⟩
   have hix0 := fun wx => run_index_str (P := Tryz.prog) wx 9 m 0 0 c Tryz.underlying9 rfl hc
   have hnb : nameB m = (letterB c && m.all moreB) := by
    unfold nameB
    rw [decide_eq_true (by omega)]
    cases m with
    | nil => cases hc
    | cons x t =>
      have : x = c := by simpa using hc
      rw [this]
      rfl
   have hle := rletter_any c
   cases hlt : letterB c with
   | false =>
     rw [hlt] at hle
     have HLE := Lib.hid hle
     have HRF := Lib.hid (show R = false by rw [HR.out, hnb, hlt]; rfl)
     clear hle hlt hnb hc
     go_enter Tryz.func63, Tryz.ntmps63
     go_wp2_with (go_at_call 103; refine (HLE.out _).mono ?_; rintro e w1 ⟨rfl, rfl⟩)
     go_ret
     exact ⟨by rw [HRF.out]; rfl, rfl⟩
   | true =>
     rw [hlt] at hle
     have HLE := Lib.hid hle
     have HRA := Lib.hid (show R = m.all moreB by rw [HR.out, hnb, hlt]; rfl)
     clear hle hlt hnb hc
     go_enter Tryz.func63, Tryz.ntmps63
     go_wp2_with (go_at_call 103; refine (HLE.out _).mono ?_; rintro e w1 ⟨rfl, rfl⟩)
     go_loopw [3] (AllRel moreB _ m) (fun iv _ => m.length - (intOf iv).toNat)
     case atStart => exact ⟨0, Nat.zero_le _, rfl, fun j hj => by omega, rfl⟩
     case round =>
      obtain ⟨k, hk, rfl, hall, rfl⟩ := hrel
      have HA := Lib.hid hall
      clear hall
      by_cases hkn : k < m.length
      ·have hd3 : decide (k < m.length) = true := decide_eq_true hkn
       obtain ⟨d, hd⟩ : ∃ d, d = m[k]'hkn := ⟨_, rfl⟩
       have hix := fun wx => run_index_str (P := Tryz.prog) wx 9 m (k : Int) k d Tryz.underlying9 rfl (by rw [hd, List.getElem?_eq_getElem])
       have HC := Lib.hid hd
       have hin := rmore_any d
       clear hd
       cases ho : moreB d with
       | false =>
         rw [ho] at hin
         have HI := Lib.hid hin
         have HO := Lib.hid ho
         clear ho hin
         go_wp2_with (go_at_call 104; refine (HI.out _).mono ?_; rintro e w1 ⟨rfl, rfl⟩)
         go_ret
         exact ⟨by rw [HRA.out, all_no hkn (by rw [← HC.out]; exact HO.out)]; rfl, rfl⟩
       | true =>
         rw [ho] at hin
         have HI := Lib.hid hin
         have HO := Lib.hid ho
         clear ho hin
         go_wp2_with (go_at_call 104; refine (HI.out _).mono ?_; rintro e w1 ⟨rfl, rfl⟩)
         exact ⟨⟨k + 1, by omega, by go_num, all_next HA.out hkn (by rw [← HC.out]; exact HO.out), rfl⟩, by simp [intOf]; omega⟩
      ·have hd3 : decide (k < m.length) = false := decide_eq_false hkn
       have HRT := Lib.hid (show R = true by rw [HRA.out]; exact all_yes (fun j hj => HA.out j (by omega) hj))
       go_wp2_with fail
       go_ret
       exact ⟨by rw [HRT.out]; rfl, rfl⟩
set_option maxRecDepth 100000 in
set_option maxHeartbeats 1000000 in
theorem rterm_any (m : List UInt8) (hm : m.length ≤ maxLen) (w : World) : Calls Tryz.prog 65 #[encStr m] w fun e w' => e = .returned (.bool (termB m)) ∧ w = w' := by
 have hm' : m.length ≤ 9223372036854775807 := by simpa [maxLen] using hm
 obtain ⟨R, hR⟩ : ∃ R, R = termB m := ⟨_, rfl⟩
 rw [← hR]
 have HR := Lib.hid hR
 clear hR hm
 by_cases h1 : m.length < 1
 ·have hd1 : decide ((m.length : Int) < 1) = true := decide_eq_true (by omega)
  have HRF := Lib.hid (show R = false by rw [HR.out]; unfold termB; rw [decide_eq_false (by omega)]; rfl)
  clear h1
  go_enter Tryz.func65, Tryz.ntmps65
  go_wp2_with fail
  go_ret
  exact ⟨by rw [HRF.out]; rfl, rfl⟩
 ·have hd1 : decide ((m.length : Int) < 1) = false := decide_eq_false (by omega)
  by_cases h2 : 32 < m.length
  ·have hd2 : decide (32 < (m.length : Int)) = true := decide_eq_true (by omega)
   have HRF := Lib.hid (show R = false by rw [HR.out]; unfold termB; rw [decide_eq_false (by omega)]; rfl)
   clear h1 h2
   go_enter Tryz.func65, Tryz.ntmps65
   go_wp2_with fail
   go_ret
   exact ⟨by rw [HRF.out]; rfl, rfl⟩
  ·have hd2 : decide (32 < (m.length : Int)) = false := decide_eq_false (by omega)
   have HRA := Lib.hid (show R = m.all termC by rw [HR.out]; unfold termB; rw [decide_eq_true (by omega)]; rfl)
   go_enter Tryz.func65, Tryz.ntmps65
   go_wp2_with fail
   go_loopw [3] (AllRel termC w m) (fun iv _ => m.length - (intOf iv).toNat)
   case atStart => exact ⟨0, Nat.zero_le _, rfl, fun j hj => by omega, rfl⟩
   case round =>
    obtain ⟨k, hk, rfl, hall, rfl⟩ := hrel
    have HA := Lib.hid hall
    clear hall
    by_cases hkn : k < m.length
    ·have hd3 : decide (k < m.length) = true := decide_eq_true hkn
     obtain ⟨d, hd⟩ : ∃ d, d = m[k]'hkn := ⟨_, rfl⟩
     have hix := fun wx => run_index_str (P := Tryz.prog) wx 9 m (k : Int) k d Tryz.underlying9 rfl (by rw [hd, List.getElem?_eq_getElem])
     have HC := Lib.hid hd
     clear hd
     obtain ⟨n, hn⟩ : ∃ n, n = d.toNat := ⟨_, rfl⟩
     rw [← hn] at hix
     have HN := Lib.hid hn
     clear hn
     rcases (show (n < 32) ∨ (32 ≤ n ∧ n < 39) ∨ (n = 39) ∨ (40 ≤ n ∧ n < 92) ∨ (n = 92) ∨ (93 ≤ n ∧ n < 127) ∨ (127 ≤ n) by omega) with hw | hw | hw | hw | hw | hw | hw
     ·-- n < 32
      have q0 : decide ((n : Int) < 32) = true := decide_eq_true (by omega)
      have q1 : decide (126 < (n : Int)) = false := decide_eq_false (by omega)
      have r0 : ((n : Int) == 39) = false := by rw [beq_eq_false_iff_ne]; omega
      have r1 : ((n : Int) == 92) = false := by rw [beq_eq_false_iff_ne]; omega
      have ho : termC d = false := by unfold termC; rw [← HN.out]; simp; omega
      have HO := Lib.hid ho
      clear ho hw
      go_wp2_with fail
      go_ret
      exact ⟨by rw [HRA.out, all_no hkn (by rw [← HC.out]; exact HO.out)]; rfl, rfl⟩
     ·-- 32 ≤ n ∧ n < 39
      have q0 : decide ((n : Int) < 32) = false := decide_eq_false (by omega)
      have q1 : decide (126 < (n : Int)) = false := decide_eq_false (by omega)
      have r0 : ((n : Int) == 39) = false := by rw [beq_eq_false_iff_ne]; omega
      have r1 : ((n : Int) == 92) = false := by rw [beq_eq_false_iff_ne]; omega
      have ho : termC d = true := by unfold termC; rw [← HN.out]; simp; omega
      have HO := Lib.hid ho
      clear ho hw
      go_wp2_with fail
      exact ⟨⟨k + 1, by omega, by go_num, all_next HA.out hkn (by rw [← HC.out]; exact HO.out), rfl⟩, by simp [intOf]; omega⟩
     ·-- n = 39
      have q0 : decide ((n : Int) < 32) = false := decide_eq_false (by omega)
      have q1 : decide (126 < (n : Int)) = false := decide_eq_false (by omega)
      have r0 : ((n : Int) == 39) = true := by rw [hw]; rfl
      have r1 : ((n : Int) == 92) = false := by rw [beq_eq_false_iff_ne]; omega
      have ho : termC d = false := by unfold termC; rw [← HN.out]; simp; omega
      have HO := Lib.hid ho
      clear ho hw
      go_wp2_with fail
      go_ret
      exact ⟨by rw [HRA.out, all_no hkn (by rw [← HC.out]; exact HO.out)]; rfl, rfl⟩
     ·-- 40 ≤ n ∧ n < 92
      have q0 : decide ((n : Int) < 32) = false := decide_eq_false (by omega)
      have q1 : decide (126 < (n : Int)) = false := decide_eq_false (by omega)
      have r0 : ((n : Int) == 39) = false := by rw [beq_eq_false_iff_ne]; omega
      have r1 : ((n : Int) == 92) = false := by rw [beq_eq_false_iff_ne]; omega
      have ho : termC d = true := by unfold termC; rw [← HN.out]; simp; omega
      have HO := Lib.hid ho
      clear ho hw
      go_wp2_with fail
      exact ⟨⟨k + 1, by omega, by go_num, all_next HA.out hkn (by rw [← HC.out]; exact HO.out), rfl⟩, by simp [intOf]; omega⟩
     ·-- n = 92
      have q0 : decide ((n : Int) < 32) = false := decide_eq_false (by omega)
      have q1 : decide (126 < (n : Int)) = false := decide_eq_false (by omega)
      have r0 : ((n : Int) == 39) = false := by rw [beq_eq_false_iff_ne]; omega
      have r1 : ((n : Int) == 92) = true := by rw [hw]; rfl
      have ho : termC d = false := by unfold termC; rw [← HN.out]; simp; omega
      have HO := Lib.hid ho
      clear ho hw
      go_wp2_with fail
      go_ret
      exact ⟨by rw [HRA.out, all_no hkn (by rw [← HC.out]; exact HO.out)]; rfl, rfl⟩
     ·-- 93 ≤ n ∧ n < 127
      have q0 : decide ((n : Int) < 32) = false := decide_eq_false (by omega)
      have q1 : decide (126 < (n : Int)) = false := decide_eq_false (by omega)
      have r0 : ((n : Int) == 39) = false := by rw [beq_eq_false_iff_ne]; omega
      have r1 : ((n : Int) == 92) = false := by rw [beq_eq_false_iff_ne]; omega
      have ho : termC d = true := by unfold termC; rw [← HN.out]; simp; omega
      have HO := Lib.hid ho
      clear ho hw
      go_wp2_with fail
      exact ⟨⟨k + 1, by omega, by go_num, all_next HA.out hkn (by rw [← HC.out]; exact HO.out), rfl⟩, by simp [intOf]; omega⟩
     ·-- 127 ≤ n
      have q0 : decide ((n : Int) < 32) = false := decide_eq_false (by omega)
      have q1 : decide (126 < (n : Int)) = true := decide_eq_true (by omega)
      have r0 : ((n : Int) == 39) = false := by rw [beq_eq_false_iff_ne]; omega
      have r1 : ((n : Int) == 92) = false := by rw [beq_eq_false_iff_ne]; omega
      have ho : termC d = false := by unfold termC; rw [← HN.out]; simp; omega
      have HO := Lib.hid ho
      clear ho hw
      go_wp2_with fail
      go_ret
      exact ⟨by rw [HRA.out, all_no hkn (by rw [← HC.out]; exact HO.out)]; rfl, rfl⟩
    ·have hd3 : decide (k < m.length) = false := decide_eq_false hkn
     have HRT := Lib.hid (show R = true by rw [HRA.out]; exact all_yes (fun j hj => HA.out j (by omega) hj))
     go_wp2_with fail
     go_ret
     exact ⟨by rw [HRT.out]; rfl, rfl⟩
end Go.Proofs.YtnaamjpiaekmeaaGreat
namespace Go.Proofs.YtnaamjpiaekmeaaGreat
open Go.RowKit
def NamesUp (g : GramG) (i : Nat) : Prop := ∀ j (h : j < g.names.length), j < i → nameB g.names[j] = true ∧ (∀ b (hb : b < j), g.names[b]'(by omega) ≠ g.names[j]) ∧ ∃ r ∈ g.rules, r.left = (j : Int)
def TermsUp (g : GramG) (i : Nat) : Prop := ∀ j (h : j < g.terms.length), j < i → termB g.terms[j] = true ∧ (∀ b (hb : b < j), g.terms[b]'(by omega) ≠ g.terms[j])
def RuleOkG (g : GramG) (r : RuleG) : Prop := 0 ≤ r.left ∧ r.left < (g.names.length : Int) ∧ r.right.length ≤ 64 ∧ ∀ s ∈ r.right, -(g.terms.length : Int) ≤ s ∧ s < (g.names.length : Int)
def RulesUp (g : GramG) (i : Nat) : Prop := ∀ j (h : j < g.rules.length), j < i → RuleOkG g g.rules[j]
def RightUp (g : GramG) (r : RuleG) (k : Nat) : Prop := ∀ j (h : j < r.right.length), j < k → -(g.terms.length : Int) ≤ r.right[j] ∧ r.right[j] < (g.names.length : Int)
theorem valid_up {g : GramG} (h1 : 1 ≤ g.names.length) (h2 : g.names.length + g.terms.length ≤ 256) (h3 : g.rules.length ≤ 4096) (hn : NamesUp g g.names.length) (ht : TermsUp g g.terms.length) (hr : RulesUp g g.rules.length) : validB g = !twiceB g.rules := by
 have key : ValidG g ↔ g.rules.Nodup := by
  refine ⟨fun h => h.nodupR, fun h => ⟨h1, h2, h3, ?_, ?_, ?_, ?_, ?_, ?_, h⟩⟩
  ·intro n hm
   obtain ⟨j, hj, rfl⟩ := List.getElem_of_mem hm
   exact (hn j hj hj).1
  ·exact nodup_iff.2 (fun i hi j hj => (hn i hi hi).2.1 j hj)
  ·exact fun i hi => (hn i hi hi).2.2
  ·intro n hm
   obtain ⟨j, hj, rfl⟩ := List.getElem_of_mem hm
   exact (ht j hj hj).1
  ·exact nodup_iff.2 (fun i hi j hj => (ht i hi hi).2 j hj)
  ·intro r hm
   obtain ⟨j, hj, rfl⟩ := List.getElem_of_mem hm
   exact hr j hj hj
 unfold validB twiceB
 rw [boolOf_congr key]
 rcases boolOf_cases g.rules.Nodup with ⟨h, e⟩ | ⟨h, e⟩
 ·rw [e, boolOf_false (fun q => q h)]; rfl
 ·rw [e, boolOf_true h]; rfl
theorem two_three {w : World} {q : Nat} {a b c : Value} {t : TypeId} (h : w.heap[q]? = some (.cells #[a, b, c] t (0, 0))) : w.cell? ⟨q, 0, none⟩ = some a ∧ w.cell? ⟨q, 1, none⟩ = some b ∧ w.cell? ⟨q, 2, none⟩ = some c := by
 obtain ⟨h0, h1, h2, -⟩ := three_of_heap h
 exact ⟨h0, h1, h2⟩
theorem pair_of_heap {w : World} {q : Nat} {a b : Value} {t : TypeId} (h : w.heap[q]? = some (.cells #[a, b] t (0, 0))) : w.cell? ⟨q, 0, none⟩ = some a ∧ w.cell? ⟨q, 1, none⟩ = some b := ⟨by rw [cell_of_heap h]; rfl, by rw [cell_of_heap h]; rfl⟩
def NmRel (w : World) (g : GramG) (iv : Value) (wx : World) : Prop := ∃ k : Nat, k ≤ g.names.length ∧ iv = .int .i64 (k : Int) ∧ NamesUp g k ∧ Fr [] w wx
def HasRel (w : World) (g : GramG) (i : Nat) (hv iv : Value) (wx : World) : Prop := ∃ (k : Nat) (b : Bool), k ≤ g.rules.length ∧ iv = .int .i64 (k : Int) ∧ hv = .bool b ∧ (b = true → ∃ r ∈ g.rules, r.left = (i : Int)) ∧ (b = false → ∀ j (h : j < g.rules.length), j < k → g.rules[j].left ≠ (i : Int)) ∧ Fr [] w wx
def TmRel (w : World) (g : GramG) (iv : Value) (wx : World) : Prop := ∃ k : Nat, k ≤ g.terms.length ∧ iv = .int .i64 (k : Int) ∧ TermsUp g k ∧ Fr [] w wx
def RlRel (w : World) (g : GramG) (iv : Value) (wx : World) : Prop := ∃ k : Nat, k ≤ g.rules.length ∧ iv = .int .i64 (k : Int) ∧ RulesUp g k ∧ Fr [] w wx
def RtRel (w : World) (g : GramG) (r : RuleG) (iv : Value) (wx : World) : Prop := ∃ k : Nat, k ≤ r.right.length ∧ iv = .int .i64 (k : Int) ∧ RightUp g r k ∧ Fr [] w wx
set_option maxRecDepth 100000 in
set_option maxHeartbeats 8000000 in
theorem rvalid_any (g : GramG) (gv : Value) (w : World) (h : gramAt w gv g) (hz : SizeG g) : Calls Tryz.prog 30 #[gv] w fun e w' => e = .returned (.bool (validB g)) ∧ Fr [] w w' := by
 obtain ⟨sa, sb, sc, rfl, h1, h2, h3⟩ := h
 obtain ⟨a1, c1, rfl, hc1, hm1⟩ := h1.form
 obtain ⟨a2, c2, rfl, hc2, hm2⟩ := h2.form
 obtain ⟨a3, c3, rfl, hc3, hm3⟩ := h3.form
 have hn1 := hz.names
 have hn2 := hz.terms
 have hn3 := hz.rules
 obtain ⟨R, hR⟩ : ∃ R, R = validB g := ⟨_, rfl⟩
 rw [← hR]
 have HR := Lib.hid hR
 have hbad : ¬ ValidG g → R = false := fun hn => by rw [HR.out]; exact boolOf_false hn
 have HBAD := Lib.hid hbad
 have hb := heap_alloc_new w (.cells #[.slice a1 g.names.length c1, .slice a2 g.terms.length c2, .slice a3 g.rules.length c3] 25)
 have hf := Fr.alloc w (.cells #[.slice a1 g.names.length c1, .slice a2 g.terms.length c2, .slice a3 g.rules.length c3] 25)
 obtain ⟨w0, hw0⟩ : ∃ w0, w0 = w.alloc (.cells #[.slice a1 g.names.length c1, .slice a2 g.terms.length c2, .slice a3 g.rules.length c3] 25) := ⟨_, rfl⟩
 obtain ⟨q, hq⟩ : ∃ q, q = w.heap.size := ⟨_, rfl⟩
 rw [← hw0] at hb hf
 rw [← hq] at hb
 have H1 := Lib.hid (h1.below hf)
 have H2 := Lib.hid (h2.below hf)
 have H3 := Lib.hid (h3.below hf)
 have HB := Lib.hid hb
 have HF := Lib.hid hf
 have HW := Lib.hid hw0
 have HQ := Lib.hid hq
 have HZ := Lib.hid hz
 clear hR hbad hb hf hw0 hq h1 h2 h3 hz
 go_enter Tryz.func30, Tryz.ntmps30
 go_upto_region 1 with fail
 rw [← HW.out, ← HQ.out]
 clear HW HQ
 obtain ⟨y0, y1, y2⟩ := two_three HB.out
 by_cases t1 : g.names.length < 1
 ·have d1 : decide ((g.names.length : Int) < 1) = true := decide_eq_true (by omega)
  have HX := Lib.hid (HBAD.out (fun hv => by have := hv.one; omega))
  clear t1
  go_wp2_with fail
  go_ret
  exact ⟨by rw [HX.out]; rfl, HF.out⟩
 have d1 : decide ((g.names.length : Int) < 1) = false := decide_eq_false (by omega)
 by_cases t2 : 256 < g.names.length + g.terms.length
 ·have d2 : decide (256 < (g.names.length : Int) + (g.terms.length : Int)) = true := decide_eq_true (by omega)
  have HX := Lib.hid (HBAD.out (fun hv => by have := hv.syms; omega))
  clear t1 t2
  go_wp2_with fail
  go_ret
  exact ⟨by rw [HX.out]; rfl, HF.out⟩
 have d2 : decide (256 < (g.names.length : Int) + (g.terms.length : Int)) = false := decide_eq_false (by omega)
 by_cases t3 : 4096 < g.rules.length
 ·have d3 : decide (4096 < (g.rules.length : Int)) = true := decide_eq_true (by omega)
  have HX := Lib.hid (HBAD.out (fun hv => by have := hv.few; omega))
  clear t1 t2 t3
  go_wp2_with fail
  go_ret
  exact ⟨by rw [HX.out]; rfl, HF.out⟩
 have d3 : decide (4096 < (g.rules.length : Int)) = false := decide_eq_false (by omega)
 have HT1 := Lib.hid (show 1 ≤ g.names.length by omega)
 have HT2 := Lib.hid (show g.names.length + g.terms.length ≤ 256 by omega)
 have HT3 := Lib.hid (show g.rules.length ≤ 4096 by omega)
 clear t1 t2 t3
 go_wp2_with fail
 clear y0 y1 y2 d1 d2 d3
 go_loopw [3] (NmRel w0 g) (fun iv _ => g.names.length - (intOf iv).toNat)
 case atStart => exact ⟨0, Nat.zero_le _, rfl, fun j h1 h2 => by omega, Fr.refl _ _⟩
 case round =>
  obtain ⟨i, hi, rfl, hall, hfw⟩ := hrel
  have HA := Lib.hid hall
  have HFW := Lib.hid hfw
  obtain ⟨y0, y1, y2⟩ := two_three (hfw.heap HB.out (by simp))
  clear hall hfw
  by_cases hin : i < g.names.length
  ·have hd1 : decide (i < g.names.length) = true := decide_eq_true hin
   obtain ⟨b1, o1, rfl, p0⟩ := str_cell H1.out i hin
   obtain ⟨x, hx⟩ : ∃ x, x = g.names[i]'hin := ⟨_, rfl⟩
   rw [← hx] at p0
   have p1 := HFW.out.cell p0 (by simp)
   have hxm : x ∈ g.names := by rw [hx]; exact List.getElem_mem hin
   have hxl : x.length ≤ maxLen := by have := HZ.out.name x hxm; simp [maxLen]; omega
   obtain ⟨kf, hkf, hkle, hkiff⟩ := find_le hin
   rw [← hx] at hkf
   have hnm := fun wx => flip_same (rname_any x hxl wx)
   have hfd := fun wx (hfx : Fr [] w0 wx) => flip_same (rfind_any g.names _ x wx (H1.out.below hfx))
   rw [hkf] at hfd
   have HX0 := Lib.hid hx
   have HIFF := Lib.hid hkiff
   clear hx hkf hxm hxl p0 hkiff
   cases hnb : nameB x with
   | false =>
     rw [hnb] at hnm
     have HNM := Lib.hid hnm
     have HX := Lib.hid (HBAD.out (fun hv => by
      have := hv.names (g.names[i]'hin) (List.getElem_mem hin)
      rw [← HX0.out, hnb] at this; cases this))
     clear hnm hnb hfd
     go_upto_region 6 with fail
     go_quiet (first | (go_at_call 63; with_reducible refine Calls.quiet_of_same (HNM.out _)))
     go_wp2_with fail
     go_ret
     exact ⟨by rw [HX.out]; rfl, HF.out.trans (HFW.out.andDrewN _) (by simp) (by simp)⟩
   | true =>
     rw [hnb] at hnm
     have HNM := Lib.hid hnm
     have HNB := Lib.hid hnb
     clear hnm hnb
     by_cases hki : kf = i
     ·have e1 : ((kf : Int) != (i : Int)) = false := by rw [hki]; simp
      have hnew := HIFF.out.1 hki
      have HNEW := Lib.hid hnew
      have HFD := Lib.hid hfd
      clear hki hnew hfd
      go_upto_region 6 with fail
      go_quiet (first | (go_at_call 63; with_reducible refine Calls.quiet_of_same (HNM.out _)) | (go_at_call 64; with_reducible refine Calls.quiet_of_same (HFD.out _ (HFW.out.andDrewN _))))
      have HFQ := Lib.hid (HFW.out.andDrewN nq)
      generalize hwq : wr.drewN nq = wq at HFQ ⊢
      clear hwq y0 y1 y2 p1 e1
      go_wp2_with fail
      go_loopw [4, 5] (HasRel w0 g i) (fun _ iv _ => g.rules.length - (intOf iv).toNat)
      case atStart => exact ⟨0, false, Nat.zero_le _, rfl, rfl, (fun h => by cases h), (fun _ j h1 h2 => by omega), HFQ.out⟩
      case round =>
       clear HFQ
       obtain ⟨k, b, hk, rfl, rfl, hyes, hno, hfw⟩ := hrel
       have HYES := Lib.hid hyes
       have HNO := Lib.hid hno
       have HFV := Lib.hid hfw
       obtain ⟨y0, y1, y2⟩ := two_three (hfw.heap HB.out (by simp))
       clear hyes hno hfw
       by_cases hkn : k < g.rules.length
       ·have hd2 : decide (k < g.rules.length) = true := decide_eq_true hkn
        obtain ⟨b2, o2, v2, rfl, p0, -, -⟩ := rule_cells H3.out k hkn
        obtain ⟨r, hr⟩ : ∃ r, r = g.rules[k]'hkn := ⟨_, rfl⟩
        rw [← hr] at p0
        have p1 := HFV.out.cell p0 (by simp)
        have HR0 := Lib.hid hr
        obtain ⟨rl, rr⟩ := r
        simp only at p1
        clear p0 hr
        by_cases he : rl = (i : Int)
        ·have e1 : (rl == (i : Int)) = true := by rw [he]; simp
         have HE := Lib.hid he
         clear he
         go_wp2_with fail
         refine ⟨⟨k + 1, true, by omega, by go_num, rfl, (fun _ => ⟨g.rules[k]'hkn, List.getElem_mem hkn, by rw [← HR0.out]; exact HE.out⟩), (fun h => by cases h), HFV.out⟩, by simp [intOf]; omega⟩
        ·have e1 : (rl == (i : Int)) = false := by rw [beq_eq_false_iff_ne]; exact he
         have HE := Lib.hid he
         clear he
         go_wp2_with fail
         refine ⟨⟨k + 1, b, by omega, by go_num, rfl, HYES.out, (fun h j g1 g2 => ?_), HFV.out⟩, by simp [intOf]; omega⟩
         by_cases e : j = k
         ·subst e; rw [← HR0.out]; exact HE.out
         ·exact HNO.out h j g1 (by omega)
       ·have hd2 : decide (k < g.rules.length) = false := decide_eq_false hkn
        cases b with
        | false =>
          have HX := Lib.hid (HBAD.out (fun hv => by
           obtain ⟨r, hr, hl⟩ := hv.has i hin
           obtain ⟨j, hj, rfl⟩ := List.getElem_of_mem hr
           exact HNO.out rfl j hj (by omega) hl))
          go_wp2_with fail
          go_ret
          exact ⟨by rw [HX.out]; rfl, HF.out.trans HFV.out (by simp) (by simp)⟩
        | true =>
          go_wp2_with fail
          refine ⟨⟨i + 1, by omega, by go_num, (fun j g1 g2 => ?_), HFV.out⟩, by simp [intOf]; omega⟩
          by_cases e : j = i
          ·subst e; exact ⟨by rw [← HX0.out]; exact HNB.out, HNEW.out, HYES.out rfl⟩
          ·exact HA.out j g1 (by omega)
     ·have e1 : ((kf : Int) != (i : Int)) = true := by rw [bne_iff_ne]; omega
      have HX := Lib.hid (HBAD.out (fun hv => hki (HIFF.out.2 (fun j hj => nodup_iff.1 hv.nodupN i hin j hj))))
      have HFD := Lib.hid hfd
      clear hki hfd
      go_upto_region 6 with fail
      go_quiet (first | (go_at_call 63; with_reducible refine Calls.quiet_of_same (HNM.out _)) | (go_at_call 64; with_reducible refine Calls.quiet_of_same (HFD.out _ (HFW.out.andDrewN _))))
      go_wp2_with fail
      go_ret
      exact ⟨by rw [HX.out]; rfl, HF.out.trans (HFW.out.andDrewN _) (by simp) (by simp)⟩
  ·have hd1 : decide (i < g.names.length) = false := decide_eq_false hin
   obtain rfl : i = g.names.length := by omega
   have HNU := Lib.hid HA.out
   go_wp2_with fail
   clear y0 y1 y2 HA hd1 hin
   go_loopw [6] (TmRel w0 g) (fun iv _ => g.terms.length - (intOf iv).toNat)
   case atStart => exact ⟨0, Nat.zero_le _, rfl, fun j h1 h2 => by omega, HFW.out⟩
   case round =>
    clear HFW
    obtain ⟨i, hi, rfl, hall, hfw⟩ := hrel
    have HA := Lib.hid hall
    have HFW := Lib.hid hfw
    obtain ⟨y0, y1, y2⟩ := two_three (hfw.heap HB.out (by simp))
    clear hall hfw
    by_cases hin : i < g.terms.length
    ·have hd1 : decide (i < g.terms.length) = true := decide_eq_true hin
     obtain ⟨b1, o1, rfl, p0⟩ := str_cell H2.out i hin
     obtain ⟨x, hx⟩ : ∃ x, x = g.terms[i]'hin := ⟨_, rfl⟩
     rw [← hx] at p0
     have p1 := HFW.out.cell p0 (by simp)
     have hxm : x ∈ g.terms := by rw [hx]; exact List.getElem_mem hin
     have hxl : x.length ≤ maxLen := by have := HZ.out.term x hxm; simp [maxLen]; omega
     obtain ⟨kf, hkf, hkle, hkiff⟩ := find_le hin
     rw [← hx] at hkf
     have hnm := fun wx => flip_same (rterm_any x hxl wx)
     have hfd := fun wx (hfx : Fr [] w0 wx) => flip_same (rfind_any g.terms _ x wx (H2.out.below hfx))
     rw [hkf] at hfd
     have HX0 := Lib.hid hx
     have HIFF := Lib.hid hkiff
     clear hx hkf hxm hxl p0 hkiff
     cases hnb : termB x with
     | false =>
       rw [hnb] at hnm
       have HNM := Lib.hid hnm
       have HX := Lib.hid (HBAD.out (fun hv => by
        have := hv.terms (g.terms[i]'hin) (List.getElem_mem hin)
        rw [← HX0.out, hnb] at this; cases this))
       clear hnm hnb hfd
       go_upto_region 19 with fail
       go_quiet (first | (go_at_call 65; with_reducible refine Calls.quiet_of_same (HNM.out _)))
       go_wp2_with fail
       go_ret
       exact ⟨by rw [HX.out]; rfl, HF.out.trans (HFW.out.andDrewN _) (by simp) (by simp)⟩
     | true =>
       rw [hnb] at hnm
       have HNM := Lib.hid hnm
       have HNB := Lib.hid hnb
       have HFD := Lib.hid hfd
       clear hnm hnb hfd
       by_cases hki : kf = i
       ·have e1 : ((kf : Int) != (i : Int)) = false := by rw [hki]; simp
        have HNEW := Lib.hid (HIFF.out.1 hki)
        clear hki
        go_upto_region 19 with fail
        go_quiet (first | (go_at_call 65; with_reducible refine Calls.quiet_of_same (HNM.out _)) | (go_at_call 64; with_reducible refine Calls.quiet_of_same (HFD.out _ (HFW.out.andDrewN _))))
        have HFQ := Lib.hid (HFW.out.andDrewN nq)
        generalize hwq : wr.drewN nq = wq at HFQ ⊢
        clear hwq y0 y1 y2 p1 e1
        go_wp2_with fail
        refine ⟨⟨i + 1, by omega, by go_num, (fun j g1 g2 => ?_), HFQ.out⟩, by simp [intOf]; omega⟩
        by_cases e : j = i
        ·subst e; exact ⟨by rw [← HX0.out]; exact HNB.out, HNEW.out⟩
        ·exact HA.out j g1 (by omega)
       ·have e1 : ((kf : Int) != (i : Int)) = true := by rw [bne_iff_ne]; omega
        have HX := Lib.hid (HBAD.out (fun hv => hki (HIFF.out.2 (fun j hj => nodup_iff.1 hv.nodupT i hin j hj))))
        clear hki
        go_upto_region 19 with fail
        go_quiet (first | (go_at_call 65; with_reducible refine Calls.quiet_of_same (HNM.out _)) | (go_at_call 64; with_reducible refine Calls.quiet_of_same (HFD.out _ (HFW.out.andDrewN _))))
        go_wp2_with fail
        go_ret
        exact ⟨by rw [HX.out]; rfl, HF.out.trans (HFW.out.andDrewN _) (by simp) (by simp)⟩
    ·have hd1 : decide (i < g.terms.length) = false := decide_eq_false hin
     obtain rfl : i = g.terms.length := by omega
     have HTU := Lib.hid HA.out
     go_wp2_with fail
     clear y0 y1 y2 HA hd1 hin
     go_loopw [7] (RlRel w0 g) (fun iv _ => g.rules.length - (intOf iv).toNat)
     case atStart => exact ⟨0, Nat.zero_le _, rfl, fun j h1 h2 => by omega, HFW.out⟩
     case round =>
      clear HFW
      obtain ⟨i, hi, rfl, hall, hfw⟩ := hrel
      have HA := Lib.hid hall
      have HFW := Lib.hid hfw
      obtain ⟨y0, y1, y2⟩ := two_three (hfw.heap HB.out (by simp))
      clear hall hfw
      by_cases hin : i < g.rules.length
      ·have hd1 : decide (i < g.rules.length) = true := decide_eq_true hin
       obtain ⟨b1, o1, v1, rfl, p0, p1, hv1⟩ := rule_cells H3.out i hin
       obtain ⟨r, hr⟩ : ∃ r, r = g.rules[i]'hin := ⟨_, rfl⟩
       have hrl := HZ.out.right _ (List.getElem_mem hin)
       have hrm : r ∈ g.rules := by rw [hr]; exact List.getElem_mem hin
       rw [← hr] at p0 hv1 hrl
       have HRM := Lib.hid hrm
       have HR0 := Lib.hid hr
       obtain ⟨a4, c4, rfl, hc4, hm4⟩ := hv1.form
       have q0 := HFW.out.cell p0 (by simp)
       have q1 := HFW.out.cell p1 (by simp)
       have HV1 := Lib.hid hv1
       clear hr hv1 p0 p1 hrm
       go_upto_region 25 with fail
       have hb2 := heap_alloc_new wr (.cells #[.int .i64 r.left, .slice a4 r.right.length c4] 46)
       have hf2 := Fr.alloc wr (.cells #[.int .i64 r.left, .slice a4 r.right.length c4] 46)
       obtain ⟨w2, hw2⟩ : ∃ w2, w2 = wr.alloc (.cells #[.int .i64 r.left, .slice a4 r.right.length c4] 46) := ⟨_, rfl⟩
       obtain ⟨p, hp⟩ : ∃ p, p = wr.heap.size := ⟨_, rfl⟩
       rw [← hw2] at hb2 hf2 ⊢
       rw [← hp] at hb2 ⊢
       have HF2 := Lib.hid (HFW.out.trans hf2 (by simp) (n := []) (by simp))
       have HB2 := Lib.hid hb2
       obtain ⟨z0, z1⟩ := pair_of_heap hb2
       obtain ⟨y0, y1, y2⟩ := two_three (HF2.out.heap HB.out (by simp))
       clear hw2 hp hb2 hf2 q0 q1
       obtain ⟨rl, rr⟩ := r
       simp only at z0 z1 HV1 HB2 hrl hc4 hm4 ⊢
       have hokr : RuleOkG g ⟨rl, rr⟩ → ValidG g → True := fun _ _ => trivial
       have hbd : ¬ RuleOkG g ⟨rl, rr⟩ → R = false := fun hn => HBAD.out (fun hv => hn (hv.rules _ HRM.out))
       have HBD := Lib.hid hbd
       clear hokr hbd
       by_cases tt1 : rl < 0
       ·have d1 : decide (rl < 0) = true := decide_eq_true tt1
        have HX := Lib.hid (HBD.out (fun h => by have := h.1; simp only at this; omega))
        clear tt1
        go_wp2_with fail
        go_ret
        exact ⟨by rw [HX.out]; rfl, HF.out.trans HF2.out (by simp) (by simp)⟩
       have d1 : decide (rl < 0) = false := decide_eq_false tt1
       by_cases tt2 : (g.names.length : Int) ≤ rl
       ·have d2 : decide ((g.names.length : Int) ≤ rl) = true := decide_eq_true tt2
        have HX := Lib.hid (HBD.out (fun h => by have := h.2.1; simp only at this; omega))
        clear tt1 tt2
        go_wp2_with fail
        go_ret
        exact ⟨by rw [HX.out]; rfl, HF.out.trans HF2.out (by simp) (by simp)⟩
       have d2 : decide ((g.names.length : Int) ≤ rl) = false := decide_eq_false tt2
       by_cases tt3 : 64 < rr.length
       ·have d3 : decide (64 < (rr.length : Int)) = true := decide_eq_true (by omega)
        have HX := Lib.hid (HBD.out (fun h => by have := h.2.2.1; simp only at this; omega))
        clear tt1 tt2 tt3
        go_wp2_with fail
        go_ret
        exact ⟨by rw [HX.out]; rfl, HF.out.trans HF2.out (by simp) (by simp)⟩
       have d3 : decide (64 < (rr.length : Int)) = false := decide_eq_false (by omega)
       have HU1 := Lib.hid (show 0 ≤ rl by omega)
       have HU2 := Lib.hid (show rl < (g.names.length : Int) by omega)
       have HU3 := Lib.hid (show rr.length ≤ 64 by omega)
       clear tt1 tt2 tt3
       go_wp2_with fail
       clear y0 y1 y2 z0 z1 d1 d2 d3
       go_loopw [9] (RtRel w2 g ⟨rl, rr⟩) (fun iv _ => rr.length - (intOf iv).toNat)
       case atStart => exact ⟨0, Nat.zero_le _, rfl, fun j h1 h2 => by omega, Fr.refl _ _⟩
       case round =>
        obtain ⟨k, hk, rfl, hall, hfv⟩ := hrel
        simp only at hk
        have HA3 := Lib.hid hall
        have HFV0 := Lib.hid hfv
        have HF3 := Lib.hid (HF2.out.trans hfv (by simp) (n := []) (by simp))
        obtain ⟨z0, z1⟩ := pair_of_heap (hfv.heap HB2.out (by simp))
        obtain ⟨y0, y1, y2⟩ := two_three (HF3.out.heap HB.out (by simp))
        clear hall hfv
        by_cases hkn : k < rr.length
        ·have hd2 : decide (k < rr.length) = true := decide_eq_true hkn
         obtain ⟨b4, o4, rfl, p0⟩ := int_cell HV1.out k hkn
         obtain ⟨x, hx⟩ : ∃ x, x = rr[k]'hkn := ⟨_, rfl⟩
         rw [← hx] at p0
         have p1 := HF3.out.cell p0 (by simp)
         have HX0 := Lib.hid hx
         have hxm : x ∈ rr := by rw [hx]; exact List.getElem_mem hkn
         have HXM := Lib.hid hxm
         clear hx p0 hxm
         by_cases tt1 : (g.names.length : Int) ≤ x
         ·have d1 : decide ((g.names.length : Int) ≤ x) = true := decide_eq_true tt1
          have HX := Lib.hid (HBD.out (fun h => by have := (h.2.2.2 x HXM.out).2; omega))
          clear tt1
          go_upto_region 30 with fail
          go_quiet (fail)
          go_wp2_with fail
          go_ret
          exact ⟨by rw [HX.out]; rfl, HF.out.trans (HF3.out.andDrewN _) (by simp) (by simp)⟩
         have d1 : decide ((g.names.length : Int) ≤ x) = false := decide_eq_false tt1
         by_cases tt2 : x < -(g.terms.length : Int)
         ·have d2 : decide (x < -(g.terms.length : Int)) = true := decide_eq_true tt2
          have HX := Lib.hid (HBD.out (fun h => by have := (h.2.2.2 x HXM.out).1; omega))
          clear tt1 tt2
          go_upto_region 30 with fail
          go_quiet (fail)
          go_wp2_with fail
          go_ret
          exact ⟨by rw [HX.out]; rfl, HF.out.trans (HF3.out.andDrewN _) (by simp) (by simp)⟩
         have d2 : decide (x < -(g.terms.length : Int)) = false := decide_eq_false tt2
         have HU4 := Lib.hid (show -(g.terms.length : Int) ≤ x ∧ x < (g.names.length : Int) by omega)
         clear tt1 tt2
         go_upto_region 30 with fail
         go_quiet (fail)
         have HFQ := Lib.hid (HFV0.out.andDrewN nq)
         go_wp2_with fail
         refine ⟨⟨k + 1, by simp only; omega, by go_num, (fun j g1 g2 => ?_), HFQ.out⟩, by simp [intOf]; omega⟩
         by_cases e : j = k
         ·subst e
          have := HU4.out
          rw [HX0.out] at this
          exact this
         ·exact HA3.out j g1 (by omega)
        ·have hd2 : decide (k < rr.length) = false := decide_eq_false hkn
         go_wp2_with fail
         refine ⟨⟨i + 1, by omega, by go_num, (fun j g1 g2 => ?_), HF3.out⟩, by simp [intOf]; omega⟩
         by_cases e : j = i
         ·subst e
          rw [← HR0.out]
          refine ⟨HU1.out, HU2.out, HU3.out, fun s hs => ?_⟩
          obtain ⟨a, ha, rfl⟩ := List.getElem_of_mem hs
          exact HA3.out a ha (by simp only at ha; omega)
         ·exact HA.out j g1 (by omega)
      ·have hd1 : decide (i < g.rules.length) = false := decide_eq_false hin
       obtain rfl : i = g.rules.length := by omega
       have hfin := valid_up HT1.out HT2.out HT3.out HNU.out HTU.out HA.out
       rw [← HR.out] at hfin
       have htw := fun wx (hfx : Fr [] w0 wx) => rtwice_any g.rules _ wx (H3.out.below hfx)
       obtain ⟨b, hb⟩ : ∃ b, b = twiceB g.rules := ⟨_, rfl⟩
       rw [← hb] at hfin htw
       have HFIN := Lib.hid hfin
       have HTW := Lib.hid htw
       clear hfin htw hb
       go_wp2_with (go_at_call 66; refine (HTW.out _ HFW.out).mono ?_; rintro e w3 ⟨rfl, hf3⟩)
       go_ret
       exact ⟨by rw [HFIN.out]; rfl, HF.out.trans (HFW.out.trans hf3 (by simp) (n := []) (by simp)) (by simp) (by simp)⟩
end Go.Proofs.YtnaamjpiaekmeaaGreat
