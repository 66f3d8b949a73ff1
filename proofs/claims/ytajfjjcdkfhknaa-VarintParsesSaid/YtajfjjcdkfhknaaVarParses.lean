/- VarintParses: whatever bytes are read as numbers are just these numbers' encodings. -/
import Derived.Test.YtajfjjcdkfhknaaVarLaw
import Derived.Test.YtajfjjcdkfhknaaRegion
namespace Go.Proofs.Ytajfjjcdkfhknaa
open Go.RowKit

theorem parses_big (v0 : Value) (bs : List UInt8) (n : Int) (w : World) (h0 : bytesAt w v0 bs) (hb : 100 < bs.length) :
    Calls Try.prog 6 #[v0, .int .i64 n] w fun e w' => e = .returned (.bool true) ∧ Fr [] w w' := by
  obtain ⟨a0, c0, rfl, -, -⟩ := h0.form
  have hb1 : decide (100 < (bs.length : Int)) = true := decide_eq_true (by omega)
  go_enter Try.func6, Try.ntmps6
  go_wp2_with (go_at_call 8; refine (awake_any _).mono ?_; rintro e w' ⟨rfl, hf⟩)
  go_ret
  exact ⟨rfl, hf⟩

set_option maxRecDepth 100000 in
theorem parses_none (v0 : Value) (bs : List UInt8) (n : Int) (w : World) (h0 : bytesAt w v0 bs) (hb : bs.length ≤ 100) (hn1 : n ≤ 9223372036854775807) (hp : 0 ≤ n → parse n.toNat bs = none) :
    Calls Try.prog 6 #[v0, .int .i64 n] w fun e w' => e = .returned (.bool true) ∧ Fr [] w w' := by
  obtain ⟨a0, c0, rfl, -, -⟩ := h0.form
  have hb1 : decide (100 < (bs.length : Int)) = false := decide_eq_false (by omega)
  have HP := Lib.hid (parse_no n bs _ w h0 (by omega) hn1 hp)
  have hnz : n ≠ 0 ∨ (n = 0 ∧ 0 < bs.length) := by
    by_cases h : n = 0
    · subst h
      right
      refine ⟨rfl, List.length_pos_iff.2 ?_⟩
      rintro rfl
      have := hp (by omega)
      simp [parse] at this
    · exact .inl h
  clear hp
  rcases hnz with h | ⟨rfl, h⟩
  · have e1 : (n != 0) = true := by rw [bne_iff_ne]; exact h
    clear h
    go_enter Try.func6, Try.ntmps6
    go_wp2_with (first
      | (go_at_call 20; refine HP.out.mono ?_; rintro e w1 ⟨rfl, hf1⟩)
      | (go_at_call 8; refine (awake_any _).mono ?_; rintro e w' ⟨rfl, hf⟩))
    go_ret
    exact ⟨rfl, hf1.trans hf (by simp) (by simp)⟩
  · have e1 : decide (0 < bs.length) = true := decide_eq_true h
    have e2 : decide ((0 : Int) < (bs.length : Int)) = true := decide_eq_true (by omega)
    go_enter Try.func6, Try.ntmps6
    go_wp2_with (first
      | (go_at_call 20; refine HP.out.mono ?_; rintro e w1 ⟨rfl, hf1⟩)
      | (go_at_call 8; refine (awake_any _).mono ?_; rintro e w' ⟨rfl, hf⟩))
    go_ret
    exact ⟨rfl, hf1.trans hf (by simp) (by simp)⟩

theorem parse_len_le (n : Nat) (bs : List UInt8) (l : List Nat) (h : parse n bs = some l) : l.length ≤ bs.length := by
  obtain ⟨h1, -, -⟩ := parse_some n bs l h
  rw [h1]
  clear h1 h
  induction l with
  | nil => simp
  | cons x l ih =>
    rw [forms_cons, List.length_append, List.length_cons]
    have := form_pos x
    omega

set_option maxRecDepth 100000 in
theorem parses_some (v0 : Value) (bs : List UInt8) (l : List Nat) (w : World) (h0 : bytesAt w v0 bs) (hb : bs.length ≤ 100) (hp : parse l.length bs = some l) :
    Calls Try.prog 6 #[v0, .int .i64 l.length] w fun e w' => e = .returned (.bool true) ∧ Fr [] w w' := by
  obtain ⟨hbs, -, hbnd⟩ := parse_some _ _ _ hp
  have hll := parse_len_le _ _ _ hp
  obtain ⟨a0, c0, rfl, -, -⟩ := h0.form
  have hb1 : decide (100 < (bs.length : Int)) = false := decide_eq_false (by omega)
  have HB := Lib.hid hbnd
  have HBS := Lib.hid hbs
  clear hbnd hbs
  go_enter Try.func6, Try.ntmps6
  go_wp2_with fail
  refine (parse_yes l.length bs l _ _ h0 (by omega) (by omega) hp).mono ?_
  rintro e w1 ⟨rv, rfl, hown, hf1⟩
  have hn1 := numsAt_of_owns hown
  have hfrm := hn1.form
  obtain ⟨a1, c1, rfl, -, -⟩ := hfrm
  have hb2 := h0.below hf1
  clear hown hp hb1 h0
  have hee : ((l.length : Int) == (l.length : Int)) = true := by simp
  go_wp2_with fail
  refine wp_region_G [] [(0, false), (1, false), (2, false), (3, false), (4, false), (5, false), (8, false), (9, false), (6, true), (7, false), (10, false), (11, false), (12, false), (13, true), (14, false), (15, false)] 49 rfl (by kernel_rfl) (by kernel_rfl) (by kernel_rfl) (fun c a d v w h => by cases d <;> exact h) (fun wd hfd => ?_)
  simp only [List.map_cons, List.map_nil, List.getElem?_toArray, List.getElem?_cons_succ, List.getElem?_cons_zero, Option.getD_some]
  have hA : Later [] wd _ := Later.conv (P := Try.prog) (hb2.below hfd) (by simp) 24 5 9 Try.underlying24 Try.underlying5 Try.underlying9
  repeat (apply wpG_t; · (intro w' hf; have cA := hA w' hf; go_wp2; exact ⟨rfl, rfl⟩))
  refine wpG_x ?_
  go_wp2_with fail
  refine (list_any l _ _ (hn1.below hfd) HB.out (by omega)).mono ?_
  rintro e w2 ⟨v2, rfl, hown2, hf2⟩
  rw [← HBS.out] at hown2
  have hC : Later [] w2 _ := Later.conv (P := Try.prog) (bytesAt_of_owns hown2) (by simp) 24 5 9 Try.underlying24 Try.underlying5 Try.underlying9
  go_wp2
  refine ⟨hf2, rfl, ?_⟩
  repeat (apply wpG_t; · (intro w' hf; have cC := hC w' hf; go_wp2; exact ⟨rfl, rfl⟩))
  refine wpG_x ?_
  go_wp2_with (go_at_call 8; refine (awake_any _).mono ?_; rintro e w3 ⟨rfl, hf3⟩)
  refine ⟨hf3, rfl, ?_⟩
  repeat (apply wpG_t; · (intro w' hf; go_wp2; exact ⟨rfl, rfl⟩))
  refine wpG_end ?_
  have hfin : Fr [] w w3 := ((hf1.trans hfd (by simp) (n := []) (by simp)).trans hf2 (by simp) (n := []) (by simp)).trans hf3 (by simp) (by simp)
  go_wp2
  go_ret
  exact ⟨rfl, hfin⟩

theorem parses_any (v0 : Value) (bs : List UInt8) (n : Int) (w : World) (h0 : bytesAt w v0 bs) (hn1 : n ≤ 9223372036854775807) :
    Calls Try.prog 6 #[v0, .int .i64 n] w fun e w' => e = .returned (.bool true) ∧ Fr [] w w' := by
  by_cases hb : 100 < bs.length
  · exact parses_big v0 bs n w h0 hb
  · by_cases h0n : 0 ≤ n
    · obtain ⟨m, rfl⟩ := Int.eq_ofNat_of_zero_le h0n
      cases hp : parse m bs with
      | none => exact parses_none v0 bs m w h0 (by omega) hn1 (fun _ => by rw [Int.toNat_natCast]; exact hp)
      | some l =>
        obtain ⟨-, rfl, -⟩ := parse_some _ _ _ hp
        exact parses_some v0 bs l w h0 (by omega) hp
    · exact parses_none v0 bs n w h0 (by omega) hn1 (fun q => absurd q h0n)
end Go.Proofs.Ytajfjjcdkfhknaa
