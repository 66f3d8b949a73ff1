/- VarintRises: the encoding of the smaller of two numbers is not longer, and none is a prefix of another one. -/
import Derived.Test.YtajfjjcdkfhknaaVarLaw
import Derived.Test.YtajfjjcdkfhknaaRegion
namespace Go.Proofs.Ytajfjjcdkfhknaa
open Go.RowKit

set_option maxRecDepth 100000 in
theorem rises_any (a b : Nat) (w : World) (ha : a ≤ 18446744073709551615) (hb : b ≤ 18446744073709551615) :
    Calls Try.prog 7 #[.int .u64 a, .int .u64 b] w fun e w' => e = .returned (.bool true) ∧ Fr [] w w' := by
  have hl1 := form_pos a
  have hl2 := form_len10 a ha
  have hpre := form_prefix a b ha hb
  have hmono := form_len_mono b a b (Nat.le_refl _)
  obtain ⟨x, hx⟩ : ∃ x, x = form a := ⟨_, rfl⟩
  obtain ⟨y, hy⟩ : ∃ y, y = form b := ⟨_, rfl⟩
  rw [← hx] at hl1 hl2 hpre hmono
  rw [← hy] at hpre hmono
  have HPRE := Lib.hid hpre
  have HMONO := Lib.hid hmono
  have HX := Lib.hid hx
  have HY := Lib.hid hy
  clear hpre hmono hx hy
  go_enter Try.func7, Try.ntmps7
  go_wp2_with fail
  refine (list_any [a] _ _ (numsAt_new w [a] 28 1 rfl (by simp [maxLen]) _ rfl) (by simpa using ha) (by simp)).mono ?_
  rintro e w1 ⟨v1, rfl, hown1, hf1⟩
  rw [forms_one, ← HX.out] at hown1
  go_wp2_with fail
  refine (list_any [b] _ _ (numsAt_new w1 [b] 28 1 rfl (by simp [maxLen]) _ rfl) (by simpa using hb) (by simp)).mono ?_
  rintro e w2 ⟨v2, rfl, hown2, hf2⟩
  rw [forms_one, ← HY.out] at hown2
  have hf12 : Fr [] w1 w2 := (Fr.alloc w1 _).trans hf2 (by simp) (by simp)
  have hf02 : Fr [] w w2 := ((Fr.alloc w _).trans hf1 (by simp) (n := []) (by simp)).trans hf12 (by simp) (by simp)
  have hb1 := (bytesAt_of_owns hown1).below hf12
  have hb2 := bytesAt_of_owns hown2
  have hfr1 := hb1.form
  have hfr2 := hb2.form
  obtain ⟨a1, c1, rfl, -, -⟩ := hfr1
  obtain ⟨a2, c2, rfl, hc2, hm2⟩ := hfr2
  have hm2' : c2 ≤ 9223372036854775807 := by simpa [maxLen] using hm2
  clear hown1 hown2 hf1 hf2 hf12 hm2
  have e3 : decide (1 ≤ x.length) = true := decide_eq_true hl1
  have e4 : decide ((1 : Int) ≤ (x.length : Int)) = true := decide_eq_true (by omega)
  have e5 : decide (x.length ≤ 10) = true := decide_eq_true hl2
  have e6 : decide ((x.length : Int) ≤ 10) = true := decide_eq_true (by omega)
  by_cases hab : a = b
  · subst hab
    have f0 : decide (a ≤ a) = true := decide_eq_true (Nat.le_refl _)
    have hle := HMONO.out (Nat.le_refl _)
    have f3 : decide (y.length < x.length) = false := decide_eq_false (by omega)
    have f1 : ((a : Int) != (a : Int)) = false := by simp
    clear hb1 hb2 hle
    go_wp2_with fail
    refine wp_region_G [] [(0, false), (1, false), (2, false), (3, false), (4, false), (5, false), (6, false), (7, false), (8, false), (9, false), (10, false), (11, false), (12, false), (13, false), (14, false), (15, false), (16, false), (17, false), (18, false), (19, false)] 54 rfl (by kernel_rfl) (by kernel_rfl) (by kernel_rfl) (fun c a d v w h => by cases d <;> exact h) (fun wd hfd => ?_)
    simp only [List.map_cons, List.map_nil, List.getElem?_toArray, List.getElem?_cons_succ, List.getElem?_cons_zero, Option.getD_some]
    repeat (apply wpG_t; · (intro w' hf; go_wp2; exact ⟨rfl, rfl⟩))
    refine wpG_end ?_
    go_wp2_with (go_at_call 8; refine (awake_any _).mono ?_; rintro e w3 ⟨rfl, hf3⟩)
    go_ret
    exact ⟨rfl, (hf02.trans hfd (by simp) (n := []) (by simp)).trans hf3 (by simp) (by simp)⟩
  · have f1 : ((a : Int) != (b : Int)) = true := by rw [bne_iff_ne]; omega
    by_cases hlen : x.length ≤ y.length
    · have f2 : decide (x.length ≤ y.length) = true := decide_eq_true hlen
      have f3 : decide (y.length < x.length) = false := decide_eq_false (by omega)
      have ht := hb2.take hlen
      have hne : x ≠ y.take x.length := fun e => hab (HPRE.out e)
      obtain ⟨z, hz⟩ : ∃ z, z = y.take x.length := ⟨_, rfl⟩
      rw [← hz] at ht hne
      have hlc : x.length ≤ c2 := by omega
      have hxz : (x == z) = false := by rw [beq_eq_false_iff_ne]; exact hne
      clear hz hab hlen hne hb2
      by_cases hle : a ≤ b
      · have g1 : decide (a ≤ b) = true := decide_eq_true hle
        go_wp2_with fail
        refine wp_region_G [] [(0, false), (1, false), (2, false), (3, false), (4, false), (5, false), (6, false), (7, false), (8, false), (9, false), (10, false), (11, false), (12, false), (13, false), (14, false), (15, false), (16, false), (17, false), (18, false), (19, false)] 54 rfl (by kernel_rfl) (by kernel_rfl) (by kernel_rfl) (fun c a d v w h => by cases d <;> exact h) (fun wd hfd => ?_)
        simp only [List.map_cons, List.map_nil, List.getElem?_toArray, List.getElem?_cons_succ, List.getElem?_cons_zero, Option.getD_some]
        have hA : Later [] wd _ := Later.conv (P := Try.prog) (hb1.below hfd) (by simp) 24 5 9 Try.underlying24 Try.underlying5 Try.underlying9
        have hC : Later [] wd _ := Later.conv (P := Try.prog) (ht.below hfd) (by simp) 24 5 9 Try.underlying24 Try.underlying5 Try.underlying9
        repeat (apply wpG_t; · (intro w' hf; have cA := hA w' hf; have cC := hC w' hf; go_wp2; exact ⟨rfl, rfl⟩))
        refine wpG_end ?_
        go_wp2_with (go_at_call 8; refine (awake_any _).mono ?_; rintro e w3 ⟨rfl, hf3⟩)
        go_ret
        exact ⟨rfl, (hf02.trans hfd (by simp) (n := []) (by simp)).trans hf3 (by simp) (by simp)⟩
      · have g1 : decide (a ≤ b) = false := decide_eq_false hle
        go_wp2_with fail
        refine wp_region_G [] [(0, false), (1, false), (2, false), (3, false), (4, false), (5, false), (6, false), (7, false), (8, false), (9, false), (10, false), (11, false), (12, false), (13, false), (14, false), (15, false), (16, false), (17, false), (18, false), (19, false)] 54 rfl (by kernel_rfl) (by kernel_rfl) (by kernel_rfl) (fun c a d v w h => by cases d <;> exact h) (fun wd hfd => ?_)
        simp only [List.map_cons, List.map_nil, List.getElem?_toArray, List.getElem?_cons_succ, List.getElem?_cons_zero, Option.getD_some]
        have hA : Later [] wd _ := Later.conv (P := Try.prog) (hb1.below hfd) (by simp) 24 5 9 Try.underlying24 Try.underlying5 Try.underlying9
        have hC : Later [] wd _ := Later.conv (P := Try.prog) (ht.below hfd) (by simp) 24 5 9 Try.underlying24 Try.underlying5 Try.underlying9
        repeat (apply wpG_t; · (intro w' hf; have cA := hA w' hf; have cC := hC w' hf; go_wp2; exact ⟨rfl, rfl⟩))
        refine wpG_end ?_
        go_wp2_with (go_at_call 8; refine (awake_any _).mono ?_; rintro e w3 ⟨rfl, hf3⟩)
        go_ret
        exact ⟨rfl, (hf02.trans hfd (by simp) (n := []) (by simp)).trans hf3 (by simp) (by simp)⟩
    · have f2 : decide (x.length ≤ y.length) = false := decide_eq_false hlen
      have hle : ¬ a ≤ b := fun q => hlen (HMONO.out q)
      have g1 : decide (a ≤ b) = false := decide_eq_false hle
      clear hb1 hb2
      go_wp2_with fail
      refine wp_region_G [] [(0, false), (1, false), (2, false), (3, false), (4, false), (5, false), (6, false), (7, false), (8, false), (9, false), (10, false), (11, false), (12, false), (13, false), (14, false), (15, false), (16, false), (17, false), (18, false), (19, false)] 54 rfl (by kernel_rfl) (by kernel_rfl) (by kernel_rfl) (fun c a d v w h => by cases d <;> exact h) (fun wd hfd => ?_)
      simp only [List.map_cons, List.map_nil, List.getElem?_toArray, List.getElem?_cons_succ, List.getElem?_cons_zero, Option.getD_some]
      repeat (apply wpG_t; · (intro w' hf; go_wp2; exact ⟨rfl, rfl⟩))
      refine wpG_end ?_
      go_wp2_with (go_at_call 8; refine (awake_any _).mono ?_; rintro e w3 ⟨rfl, hf3⟩)
      go_ret
      exact ⟨rfl, (hf02.trans hfd (by simp) (n := []) (by simp)).trans hf3 (by simp) (by simp)⟩
end Go.Proofs.Ytajfjjcdkfhknaa
