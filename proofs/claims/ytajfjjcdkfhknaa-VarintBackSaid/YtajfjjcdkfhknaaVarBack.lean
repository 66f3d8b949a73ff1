/- VarintBack: encodings, one behind the other, are read as their numbers. -/
import Derived.Test.YtajfjjcdkfhknaaVarLaw
import Derived.Test.YtajfjjcdkfhknaaRegion
namespace Go.Proofs.Ytajfjjcdkfhknaa
open Go.RowKit

def BackRel (l : List Nat) (w2 : World) (si : Value) (wr : World) : Prop := ∃ k : Nat, k ≤ l.length ∧ si = .int .i64 (k : Int) ∧ Fr [] w2 wr
set_option maxRecDepth 100000 in
theorem vback_small (v0 v2 : Value) (l : List Nat) (n : Int) (more : List UInt8) (w : World) (h0 : numsAt w v0 l) (h2 : bytesAt w v2 more) (hbnd : ∀ v ∈ l, v ≤ 18446744073709551615) (hs0 : l.length ≤ 40) (hs2 : more.length ≤ 40) (hn1 : n ≤ 9223372036854775807) :
    Calls Try.prog 5 #[v0, .int .i64 n, v2] w fun e w' => e = .returned (.bool true) ∧ Fr [] w w' := by
  obtain ⟨i, hi, hz0, hz1, hz2⟩ := info_parts infoB
  obtain ⟨a0, c0, rfl, -, -⟩ := h0.form
  obtain ⟨a2, c2, rfl, -, -⟩ := h2.form
  have hfl := forms_len l hbnd
  have hb1 : decide (40 < (l.length : Int)) = false := decide_eq_false (by omega)
  have hb2 : decide (40 < (more.length : Int)) = false := decide_eq_false (by omega)
  have HB := Lib.hid hbnd
  clear hbnd
  go_enter Try.func5, Try.ntmps5
  go_wp2_with fail
  refine (list_any l _ _ h0 HB.out (by omega)).mono ?_
  rintro e w1 ⟨v1, rfl, hown1, hf1⟩
  go_wp2_with fail
  refine (parse_yes l.length _ l _ _ (bytesAt_of_owns hown1) (by omega) (by omega) (parse_forms l HB.out)).mono ?_
  rintro e w2 ⟨rv, rfl, hownr, hf2⟩
  have hn2 := numsAt_of_owns hownr
  have hfrm := hn2.form
  obtain ⟨ar, cr, rfl, hler, -⟩ := hfrm
  have hf02 : Fr [] w w2 := hf1.trans hf2 (by simp) (by simp)
  clear hownr hown1 hf1 hf2 hb1 hb2
  have hne : ((l.length : Int) != (l.length : Int)) = false := by simp
  go_wp2_with fail
  go_loopw [9] (BackRel l w2) (fun i _ => l.length - (intOf i).toNat)
  case atStart => exact ⟨0, Nat.zero_le _, rfl, Fr.refl _ _⟩
  case round =>
    obtain ⟨k, hk, rfl, hf⟩ := hrel
    have hf0r : Fr [] w wr := hf02.trans hf (by simp) (by simp)
    by_cases hkl : k < l.length
    · have hd1 : decide (k < l.length) = true := decide_eq_true hkl
      obtain ⟨b0, o0, rfl, hcell0⟩ := h0.cell hkl
      obtain ⟨br, or, rfl, hcellr⟩ := hn2.cell hkl
      have hc0 := hcell0 k hkl
      have hcr := hcellr k hkl
      obtain ⟨x, hx⟩ : ∃ x, x = l[k]'hkl := ⟨_, rfl⟩
      rw [← hx] at hc0 hcr
      clear hcell0 hcellr hx h0 hn2 h2
      go_wp2_with fail
      refine wp_region_G [] [(0, false), (1, false), (2, false), (3, false), (4, false), (5, false), (6, false), (7, false), (8, false)] 90 rfl (by kernel_rfl) (by kernel_rfl) (by kernel_rfl) (fun c a d v w h => by cases d <;> exact h) (fun wd hfd => ?_)
      simp only [List.map_cons, List.map_nil, List.getElem?_toArray, List.getElem?_cons_succ, List.getElem?_cons_zero, Option.getD_some]
      have hc0d : Later [] wd (fun w' => w'.cell? ⟨b0, o0 + k, none⟩ = some (.int .u64 (x : Int))) := fun w' hf' => hf'.cell (hfd.cell (hf0r.cell hc0 (by simp)) (by simp)) (by simp)
      have hcrd : Later [] wd (fun w' => w'.cell? ⟨br, or + k, none⟩ = some (.int .u64 (x : Int))) := fun w' hf' => hf'.cell (hfd.cell (hf.cell hcr (by simp)) (by simp)) (by simp)
      repeat (apply wpG_t; · (intro w' hf'; have c1 := hc0d w' hf'; have c2 := hcrd w' hf'; go_wp2; exact ⟨rfl, rfl⟩))
      refine wpG_end ?_
      have hxx : ((x : Int) != (x : Int)) = false := by simp
      clear hc0d hcrd
      go_wp2_with fail
      exact ⟨⟨k + 1, by omega, by go_num, hf.trans hfd (by simp) (by simp)⟩, by simp [intOf]; omega⟩
    · obtain rfl : k = l.length := by omega
      clear hne
      have hnr : n ≠ (l.length : Int) ∨ n = (l.length : Int) := by omega
      rcases hnr with hnn | rfl
      · have hne : (n != (l.length : Int)) = true := by rw [bne_iff_ne]; exact hnn
        have hpn := parse_no n (forms l) (hn := hn1) (hl := by omega) (hp := fun _ => parse_other n.toNat l HB.out (by omega))
        have HP := Lib.hid hpn
        clear hpn hnn
        go_wp2_with fail
        refine (list_any l _ _ (h0.below hf0r) HB.out (by omega)).mono ?_
        rintro e w3 ⟨v3, rfl, hown3, hf3⟩
        go_wp2_with fail
        refine (HP.out _ _ (bytesAt_of_owns hown3)).mono ?_
        rintro e w4 ⟨rfl, hf4⟩
        have hfin : Fr [] w w4 := (hf0r.trans hf3 (by simp) (n := []) (by simp)).trans hf4 (by simp) (by simp)
        clear hown3 hf3 hf4 hne HP
        go_wp2_with fail
        refine (list_any l _ _ (h0.below hfin) HB.out (by omega)).mono ?_
        rintro e w5 ⟨v5, rfl, hown5, hf5⟩
        have hm5 := (h2.below hfin).below hf5
        have hb5 : w4.heap.size ≤ w5.heap.size := hf5.size
        go_wp2_with (at_builtin; refine wpL_append rfl (.tmp 74) (.tmp 75) 24 rfl _ 5 i (.int .u8 0) Try.underlying24 hi hz0 hz1 hz2 rfl v5 (forms l) rfl hown5 _ more rfl hm5 (by omega) hb5 ?_; intro v6 w6 hown6 hf6 hb6)
        have hf06 : Fr [] w w6 := Fr.own (hfin.trans hf5 (by simp) (by simp)) (owns_base hown5 (fun k hk => Nat.le_trans hfin.size (hown5.lt k hk).1)) hf6
        by_cases hme : more = []
        · subst hme
          rw [List.append_nil] at hown6
          refine (parse_yes l.length _ l _ _ (bytesAt_of_owns hown6) (by omega) (by omega) (parse_forms l HB.out)).mono ?_
          rintro e w7 ⟨rv7, rfl, -, hf7⟩
          have hf07 : Fr [] w w7 := hf06.trans hf7 (by simp) (by simp)
          clear hown6 hf6 hb6 hm5 hown5 hf5
          go_wp2_with (go_at_call 8; refine (awake_any _).mono ?_; rintro e w8 ⟨rfl, hf8⟩)
          go_ret
          exact ⟨rfl, hf07.trans hf8 (by simp) (by simp)⟩
        · have hmp : 0 < more.length := List.length_pos_iff.2 hme
          have hm0 : ((more.length : Int) == 0) = false := by rw [beq_eq_false_iff_ne]; omega
          refine (parse_no (l.length : Int) _ _ _ (bytesAt_of_owns hown6) (by simp; omega) (by omega) (fun _ => by rw [Int.toNat_natCast]; exact parse_more l more HB.out hme)).mono ?_
          rintro e w7 ⟨rfl, hf7⟩
          have hf07 : Fr [] w w7 := hf06.trans hf7 (by simp) (by simp)
          clear hown6 hf6 hb6 hm5 hown5 hf5
          go_wp2_with (go_at_call 8; refine (awake_any _).mono ?_; rintro e w8 ⟨rfl, hf8⟩)
          go_ret
          exact ⟨rfl, hf07.trans hf8 (by simp) (by simp)⟩
      · have hne : ((l.length : Int) != (l.length : Int)) = false := by simp
        have hfin : Fr [] w wr := hf0r
        go_wp2_with fail
        refine (list_any l _ _ (h0.below hfin) HB.out (by omega)).mono ?_
        rintro e w5 ⟨v5, rfl, hown5, hf5⟩
        have hm5 := (h2.below hfin).below hf5
        have hb5 : wr.heap.size ≤ w5.heap.size := hf5.size
        go_wp2_with (at_builtin; refine wpL_append rfl (.tmp 74) (.tmp 75) 24 rfl _ 5 i (.int .u8 0) Try.underlying24 hi hz0 hz1 hz2 rfl v5 (forms l) rfl hown5 _ more rfl hm5 (by omega) hb5 ?_; intro v6 w6 hown6 hf6 hb6)
        have hf06 : Fr [] w w6 := Fr.own (hfin.trans hf5 (by simp) (by simp)) (owns_base hown5 (fun k hk => Nat.le_trans hfin.size (hown5.lt k hk).1)) hf6
        by_cases hme : more = []
        · subst hme
          rw [List.append_nil] at hown6
          refine (parse_yes l.length _ l _ _ (bytesAt_of_owns hown6) (by omega) (by omega) (parse_forms l HB.out)).mono ?_
          rintro e w7 ⟨rv7, rfl, -, hf7⟩
          have hf07 : Fr [] w w7 := hf06.trans hf7 (by simp) (by simp)
          clear hown6 hf6 hb6 hm5 hown5 hf5
          go_wp2_with (go_at_call 8; refine (awake_any _).mono ?_; rintro e w8 ⟨rfl, hf8⟩)
          go_ret
          exact ⟨rfl, hf07.trans hf8 (by simp) (by simp)⟩
        · have hmp : 0 < more.length := List.length_pos_iff.2 hme
          have hm0 : ((more.length : Int) == 0) = false := by rw [beq_eq_false_iff_ne]; omega
          refine (parse_no (l.length : Int) _ _ _ (bytesAt_of_owns hown6) (by simp; omega) (by omega) (fun _ => by rw [Int.toNat_natCast]; exact parse_more l more HB.out hme)).mono ?_
          rintro e w7 ⟨rfl, hf7⟩
          have hf07 : Fr [] w w7 := hf06.trans hf7 (by simp) (by simp)
          clear hown6 hf6 hb6 hm5 hown5 hf5
          go_wp2_with (go_at_call 8; refine (awake_any _).mono ?_; rintro e w8 ⟨rfl, hf8⟩)
          go_ret
          exact ⟨rfl, hf07.trans hf8 (by simp) (by simp)⟩

theorem vback_big (v0 v2 : Value) (l : List Nat) (n : Int) (more : List UInt8) (w : World) (h0 : numsAt w v0 l) (h2 : bytesAt w v2 more) (hbig : 40 < l.length ∨ 40 < more.length) :
    Calls Try.prog 5 #[v0, .int .i64 n, v2] w fun e w' => e = .returned (.bool true) ∧ Fr [] w w' := by
  obtain ⟨a0, c0, rfl, -, -⟩ := h0.form
  obtain ⟨a2, c2, rfl, -, -⟩ := h2.form
  by_cases hb : 40 < l.length
  · have hb1 : decide (40 < (l.length : Int)) = true := decide_eq_true (by omega)
    go_enter Try.func5, Try.ntmps5
    go_wp2_with (go_at_call 8; refine (awake_any _).mono ?_; rintro e w' ⟨rfl, hf⟩)
    go_ret
    exact ⟨rfl, hf⟩
  · have hb1 : decide (40 < (l.length : Int)) = false := decide_eq_false (by omega)
    have hb2 : decide (40 < (more.length : Int)) = true := decide_eq_true (by omega)
    clear hbig
    go_enter Try.func5, Try.ntmps5
    go_wp2_with (go_at_call 8; refine (awake_any _).mono ?_; rintro e w' ⟨rfl, hf⟩)
    go_ret
    exact ⟨rfl, hf⟩
theorem vback_any (v0 v2 : Value) (l : List Nat) (n : Int) (more : List UInt8) (w : World) (h0 : numsAt w v0 l) (h2 : bytesAt w v2 more) (hbnd : ∀ v ∈ l, v ≤ 18446744073709551615) (hn1 : n ≤ 9223372036854775807) :
    Calls Try.prog 5 #[v0, .int .i64 n, v2] w fun e w' => e = .returned (.bool true) ∧ Fr [] w w' := by
  by_cases h : 40 < l.length ∨ 40 < more.length
  · exact vback_big v0 v2 l n more w h0 h2 h
  · exact vback_small v0 v2 l n more w h0 h2 hbnd (by omega) (by omega) hn1
end Go.Proofs.Ytajfjjcdkfhknaa
