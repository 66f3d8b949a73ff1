/- The document's twice (layer 14). -/
import Derived.Test.YtcmgnhjffhaajaaGrmA
import Derived.Test.YtcmgnhjffhaajaaBs
namespace Go.Proofs.Ytcmgnhjffhaajaa
open Go.RowKit

noncomputable def twiceB (l : List RuleG) : Bool := boolOf (¬ l.Nodup)
/-- No two of the first n are the same. -/
def Apart (l : List RuleG) (n : Nat) : Prop := ∀ i (h : i < l.length), i < n → ∀ j (hj : j < i), l[j]'(by omega) ≠ l[i]
def OutRel (w : World) (l : List RuleG) (iv : Value) (wx : World) : Prop := ∃ k : Nat, k ≤ l.length ∧ iv = .int .i64 (k : Int) ∧ Apart l k ∧ Fr [] w wx
def InRel (w : World) (l : List RuleG) (i : Nat) (hi : i < l.length) (iv : Value) (wx : World) : Prop := ∃ k : Nat, k ≤ i ∧ iv = .int .i64 (k : Int) ∧ (∀ j (hj : j < k) (hj' : j < l.length), l[j] ≠ l[i]) ∧ Fr [] w wx
theorem apart_all {l : List RuleG} (h : Apart l l.length) : l.Nodup := nodup_iff.2 (fun i hi j hj => h i hi hi j hj)
set_option maxRecDepth 100000 in
set_option maxHeartbeats 4000000 in
theorem rtwice_any (l : List RuleG) (lv : Value) (w : World) (h : rulesAt w lv l) : Calls Try.prog 29 #[lv] w fun e w' => e = .returned (.bool (twiceB l)) ∧ Fr [] w w' := by
  obtain ⟨a0, c0, rfl, hle, hmx⟩ := h.form
  have H1 := Lib.hid h
  clear h
  obtain ⟨R, hR⟩ : ∃ R, R = twiceB l := ⟨_, rfl⟩
  rw [← hR]
  have HR := Lib.hid hR
  clear hR
  go_enter Try.func29, Try.ntmps29
  go_wp2_with fail
  go_loopw [3] (OutRel w l) (fun iv _ => l.length - (intOf iv).toNat)
  case atStart => exact ⟨0, Nat.zero_le _, rfl, fun i h1 h2 => by omega, Fr.refl _ _⟩
  case round =>
    obtain ⟨i, hi, rfl, hall, hf⟩ := hrel
    have HA := Lib.hid hall
    have HF := Lib.hid hf
    clear hall hf
    by_cases hin : i < l.length
    · have hd1 : decide (i < l.length) = true := decide_eq_true hin
      go_wp2_with fail
      go_loopw [4] (InRel w l i hin) (fun iv _ => i - (intOf iv).toNat)
      case atStart => exact ⟨0, Nat.zero_le _, rfl, fun j hj => by omega, HF.out⟩
      case round =>
        clear HF
        obtain ⟨k, hk, rfl, hall2, hf⟩ := hrel
        have HA2 := Lib.hid hall2
        have HF := Lib.hid hf
        clear hall2
        by_cases hkn : k < i
        · have hd2 : decide (k < i) = true := decide_eq_true hkn
          have hkl : k < l.length := by omega
          obtain ⟨b1, o1, v1, rfl, p0, p1, hv1⟩ := rule_cells H1.out i hin
          obtain ⟨b2, o2, v2, hb2, q0, q1, hv2⟩ := rule_cells H1.out k hkl
          simp only [Option.some.injEq, Addr.mk.injEq, and_true] at hb2
          obtain ⟨rfl, rfl⟩ := hb2
          obtain ⟨x, hx⟩ : ∃ x, x = l[i]'hin := ⟨_, rfl⟩
          obtain ⟨y, hy⟩ : ∃ y, y = l[k]'hkl := ⟨_, rfl⟩
          rw [← hx] at p0 hv1
          rw [← hy] at q0 hv2
          have HX := Lib.hid hx
          have HY := Lib.hid hy
          obtain ⟨xl, xr⟩ := x
          obtain ⟨yl, yr⟩ := y
          simp only at p0 hv1 q0 hv2
          obtain ⟨a3, c3, rfl, hc3, hm3⟩ := hv1.form
          obtain ⟨a4, c4, rfl, hc4, hm4⟩ := hv2.form
          have HP0 := Lib.hid p0
          have HP1 := Lib.hid p1
          have HQ0 := Lib.hid q0
          have HQ1 := Lib.hid q1
          have HV1 := Lib.hid hv1
          have HV2 := Lib.hid hv2
          clear hx hy p0 p1 q0 q1 hv1 hv2
          by_cases he : xl = yl
          · have hne : (xl == yl) = true := by rw [he]; simp
            by_cases hr : xr = yr
            · have HRT := Lib.hid (show R = true by
                rw [HR.out]
                refine boolOf_true (fun hn => nodup_iff.1 hn i hin k hkn ?_)
                rw [← HX.out, ← HY.out, he, hr])
              have hsr := fun wx (hfx : Fr [] w wx) => rright_any xr yr _ _ wx (HV1.out.below hfx) (HV2.out.below hfx)
              rw [decide_eq_true hr] at hsr
              have HSR := Lib.hid hsr
              clear hsr he hr
              go_upto_region 7 with fail
              refine wp_region_G [] [(0, false), (1, false), (2, false), (3, false), (4, false), (5, false), (6, false), (7, false), (8, false), (9, false), (10, false), (11, false), (12, false), (13, false), (14, false), (15, false), (16, false), (17, false), (18, false), (19, false), (20, false), (21, false), (22, true), (23, false)] 40 rfl (by kernel_rfl) (by kernel_rfl) (by kernel_rfl) (fun c a d v w h => by cases d <;> exact h) (fun w2 hf2 => ?_)
              simp only [List.map_cons, List.map_nil, List.getElem?_toArray, List.getElem?_cons_succ, List.getElem?_cons_zero, Option.getD_some]
              have HF2 := Lib.hid (HF.out.trans hf2 (by simp) (n := []) (by simp))
              clear hf2 hf
              repeat (apply wpG_t; · (intro w' hf'; have e0 := (HF2.out.trans hf' (by simp) (n := []) (by simp)).cell HP0.out (by simp); have e1 := (HF2.out.trans hf' (by simp) (n := []) (by simp)).cell HP1.out (by simp); have e2 := (HF2.out.trans hf' (by simp) (n := []) (by simp)).cell HQ0.out (by simp); have e3 := (HF2.out.trans hf' (by simp) (n := []) (by simp)).cell HQ1.out (by simp); go_wp2_with fail; exact ⟨rfl, rfl⟩))
              refine wpG_x ?_
              go_wp2_with (go_at_call 33; refine (HSR.out _ HF2.out).mono ?_; rintro e w3 ⟨rfl, hf3⟩)
              refine ⟨hf3, rfl, ?_⟩
              repeat (apply wpG_t; · (intro w' hf'; go_wp2_with fail; exact ⟨rfl, rfl⟩))
              refine wpG_end ?_
              go_wp2_with fail
              go_ret
              exact ⟨by rw [HRT.out]; rfl, HF2.out.trans hf3 (by simp) (by simp)⟩
            · have hsr := fun wx (hfx : Fr [] w wx) => rright_any xr yr _ _ wx (HV1.out.below hfx) (HV2.out.below hfx)
              rw [decide_eq_false hr] at hsr
              have HSR := Lib.hid hsr
              have HNE := Lib.hid hr
              clear hsr he hr
              go_upto_region 7 with fail
              refine wp_region_G [] [(0, false), (1, false), (2, false), (3, false), (4, false), (5, false), (6, false), (7, false), (8, false), (9, false), (10, false), (11, false), (12, false), (13, false), (14, false), (15, false), (16, false), (17, false), (18, false), (19, false), (20, false), (21, false), (22, true), (23, false)] 40 rfl (by kernel_rfl) (by kernel_rfl) (by kernel_rfl) (fun c a d v w h => by cases d <;> exact h) (fun w2 hf2 => ?_)
              simp only [List.map_cons, List.map_nil, List.getElem?_toArray, List.getElem?_cons_succ, List.getElem?_cons_zero, Option.getD_some]
              have HF2 := Lib.hid (HF.out.trans hf2 (by simp) (n := []) (by simp))
              clear hf2 hf
              repeat (apply wpG_t; · (intro w' hf'; have e0 := (HF2.out.trans hf' (by simp) (n := []) (by simp)).cell HP0.out (by simp); have e1 := (HF2.out.trans hf' (by simp) (n := []) (by simp)).cell HP1.out (by simp); have e2 := (HF2.out.trans hf' (by simp) (n := []) (by simp)).cell HQ0.out (by simp); have e3 := (HF2.out.trans hf' (by simp) (n := []) (by simp)).cell HQ1.out (by simp); go_wp2_with fail; exact ⟨rfl, rfl⟩))
              refine wpG_x ?_
              go_wp2_with (go_at_call 33; refine (HSR.out _ HF2.out).mono ?_; rintro e w3 ⟨rfl, hf3⟩)
              refine ⟨hf3, rfl, ?_⟩
              repeat (apply wpG_t; · (intro w' hf'; go_wp2_with fail; exact ⟨rfl, rfl⟩))
              refine wpG_end ?_
              go_wp2_with fail
              refine ⟨⟨k + 1, by omega, by go_num, fun j hj hj' => ?_, HF2.out.trans hf3 (by simp) (by simp)⟩, by simp [intOf]; omega⟩
              by_cases e : j = k
              · subst e; rw [← HX.out, ← HY.out]; exact fun q => HNE.out (by injection q with _ q2; exact q2.symm)
              · exact HA2.out j (by omega) hj'
          · have hne : (xl == yl) = false := by rw [beq_eq_false_iff_ne]; exact he
            have HNE := Lib.hid he
            have e0 := hf.cell HP0.out (by simp)
            have e1 := hf.cell HP1.out (by simp)
            have e2 := hf.cell HQ0.out (by simp)
            have e3 := hf.cell HQ1.out (by simp)
            clear he hf
            go_upto_region 7 with fail
            go_quiet (fail)
            go_wp2_with fail
            refine ⟨⟨k + 1, by omega, by go_num, fun j hj hj' => ?_, HF.out.andDrewN _⟩, by simp [intOf]; omega⟩
            by_cases e : j = k
            · subst e; rw [← HX.out, ← HY.out]; exact fun q => HNE.out (by injection q with q2 _; exact q2.symm)
            · exact HA2.out j (by omega) hj'
        · have hd2 : decide (k < i) = false := decide_eq_false hkn
          obtain rfl : k = i := by omega
          clear hf
          go_wp2_with fail
          refine ⟨⟨k + 1, by omega, by go_num, fun a ha han j hj => ?_, HF.out⟩, by simp [intOf]; omega⟩
          by_cases e : a = k
          · subst e; exact HA2.out j hj (by omega)
          · exact HA.out a ha (by omega) j hj
    · have hd1 : decide (i < l.length) = false := decide_eq_false hin
      obtain rfl : i = l.length := by omega
      have HRF := Lib.hid (show R = false by rw [HR.out]; exact boolOf_false (fun hn => hn (apart_all HA.out)))
      go_wp2_with fail
      go_ret
      exact ⟨by rw [HRF.out]; rfl, HF.out⟩
end Go.Proofs.Ytcmgnhjffhaajaa
