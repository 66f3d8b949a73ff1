/- LexNames (layer 12), whatever the program's lexer is, so long as it does what the document's does. Written by wip/tools/gen_lh.py. -/
import Derived.Test.YteeojnbmkapjiaaLexF
import Derived.Test.YteeojnbmkapjiaaLexB
import Derived.Laws.Concat
namespace Go.Proofs.Yteeojnbmkapjiaa
open Go.RowKit

/-- The program's IsName and IsTerm do what the document's do. -/
def ProgIs : Prop := (∀ (m : List UInt8) (w : World), m.length ≤ maxLen → Calls Try.prog 11 #[encStr m] w fun e w' => e = .returned (.bool (nameB m)) ∧ Fr [] w w') ∧
  ∀ (m : List UInt8) (w : World), m.length ≤ maxLen → Calls Try.prog 12 #[encStr m] w fun e w' => e = .returned (.bool (termB m)) ∧ Fr [] w w'
theorem all_name {m : List UInt8} (h : nameB m = true) (hl : m.length ≤ 100) : allD m = ⟨[⟨1, m, 0⟩], 0, 0⟩ := by
  unfold allD; rw [if_neg (by omega), name_one h]
theorem all_term {m : List UInt8} (h : termB m = true) (hl : m.length ≤ 100) : allD (39 :: (m ++ [39])) = ⟨[⟨2, m, 0⟩], 0, 0⟩ := by
  unfold allD; rw [if_neg (by simp; omega), term_one h]
set_option maxRecDepth 100000 in
set_option maxHeartbeats 2000000 in
theorem lexnames_any (hA : ProgAll) (hI : ProgIs) (m : List UInt8) (hm : m.length ≤ maxLen) (w : World) : Calls Try.prog 4 #[encStr m] w fun e w' => e = .returned (.bool true) ∧ Fr [] w w' := by
  have HAW := Lib.hid (fun wx => lexawake_any hA wx)
  have hm' : m.length ≤ 9223372036854775807 := by simpa [maxLen] using hm
  by_cases hl : m.length ≤ 100
  · have hd : decide (100 < (m.length : Int)) = false := decide_eq_false (by omega)
    have HP := Lib.hid (fun wx => hA m wx (by omega))
    have HQ := Lib.hid (fun wx => hA (39 :: (m ++ [39])) wx (by simp; omega))
    have hc1 : ∀ wx : World, (Op.stringOp .add { data := #[39] } { data := m.toArray }).run Try.prog wx = .ok (.string { data := (39 :: m).toArray }) wx := fun wx => run_string_add_lists wx [39] m (by simp) (by omega)
    have hc2 : ∀ wx : World, (Op.stringOp .add { data := (39 :: m).toArray } { data := #[39] }).run Try.prog wx = .ok (.string { data := (39 :: (m ++ [39])).toArray }) wx := fun wx => run_string_add_lists wx (39 :: m) [39] (by simp; omega) (by simp)
    have hn := fun wx => hI.1 m wx hm
    have ht := fun wx => hI.2 m wx hm
    have hrn := fun wx => rname_any m hm wx
    have hrt := fun wx => rterm_any m hm wx
    have hone := fun h => all_name (m := m) h hl
    have htwo := fun h => all_term (m := m) h hl
    cases hnb : nameB m with
    | false =>
      rw [hnb] at hn hrn
      have HN := Lib.hid hn
      have HRN := Lib.hid hrn
      cases htb : termB m with
      | false =>
        rw [htb] at ht hrt
        have HT := Lib.hid ht
        have HRT := Lib.hid hrt
        clear hn ht hrn hrt hone htwo hnb htb hA hI 
        go_enter Try.func4, Try.ntmps4
        go_upto_region 7 with (first
          | (go_at_call 9; refine (HRN.out _).mono ?_; rintro e w1 ⟨rfl, rfl⟩)
          | (go_at_call 10; refine (HRT.out _).mono ?_; rintro e w2 ⟨rfl, rfl⟩)
          | (go_at_call 11; refine (HN.out _).mono ?_; rintro e w3 ⟨rfl, hf3⟩)
          | (go_at_call 12; refine (HT.out _).mono ?_; rintro e w4 ⟨rfl, hf4⟩))
        go_upto_region 8 with (go_at_call 7; refine (HP.out _).mono ?_; rintro e w5 ⟨v5, rfl, ht5, hf5⟩)
        obtain ⟨a5, c5, rfl, hc5, hm5⟩ := ht5.form
        have HF5 := Lib.hid ((hf3.trans hf4 (by simp) (n := []) (by simp)).trans hf5 (by simp) (n := []) (by simp))
        clear ht5 hf3 hf4 hf5
        go_upto_region 11 with fail
        go_upto_region 12 with (go_at_call 7; refine (HQ.out _).mono ?_; rintro e w6 ⟨v6, rfl, ht6, hf6⟩)
        obtain ⟨a6, c6, rfl, hc6, hm6⟩ := ht6.form
        clear ht6
        go_wp2_with (go_at_call 6; refine (HAW.out _).mono ?_; rintro e w7 ⟨rfl, hf7⟩)
        go_ret
        exact ⟨rfl, (HF5.out.trans hf6 (by simp) (n := []) (by simp)).trans hf7 (by simp) (by simp)⟩
      | true =>
        rw [htb] at ht hrt
        have HT := Lib.hid ht
        have HRT := Lib.hid hrt
        have hallq := htwo htb
        rw [hallq] at HQ
        clear hn ht hrn hrt hone htwo hnb htb hA hI hallq
        go_enter Try.func4, Try.ntmps4
        go_upto_region 7 with (first
          | (go_at_call 9; refine (HRN.out _).mono ?_; rintro e w1 ⟨rfl, rfl⟩)
          | (go_at_call 10; refine (HRT.out _).mono ?_; rintro e w2 ⟨rfl, rfl⟩)
          | (go_at_call 11; refine (HN.out _).mono ?_; rintro e w3 ⟨rfl, hf3⟩)
          | (go_at_call 12; refine (HT.out _).mono ?_; rintro e w4 ⟨rfl, hf4⟩))
        go_upto_region 8 with (go_at_call 7; refine (HP.out _).mono ?_; rintro e w5 ⟨v5, rfl, ht5, hf5⟩)
        obtain ⟨a5, c5, rfl, hc5, hm5⟩ := ht5.form
        have HF5 := Lib.hid ((hf3.trans hf4 (by simp) (n := []) (by simp)).trans hf5 (by simp) (n := []) (by simp))
        clear ht5 hf3 hf4 hf5
        go_upto_region 11 with fail
        go_upto_region 12 with (go_at_call 7; refine (HQ.out _).mono ?_; rintro e w6 ⟨v6, rfl, ht6, hf6⟩)
        obtain ⟨a6, c6, rfl, hc6, hm6⟩ := ht6.form
        obtain ⟨b6, off6, rfl, l0, l1, l2⟩ := tok_cells ht6 0 (by simp)
        have l0' : w6.cell? ⟨b6, off6, none⟩ = some (.int .i64 2) := l0
        have l1' : w6.cell? ⟨b6, off6 + 1, none⟩ = some (encStr m) := by have := l1; simp only [Nat.zero_mul, Nat.add_zero] at this; exact this
        clear l0 l1 l2
        clear ht6
        go_wp2_with (go_at_call 6; refine (HAW.out _).mono ?_; rintro e w7 ⟨rfl, hf7⟩)
        go_ret
        exact ⟨rfl, (HF5.out.trans hf6 (by simp) (n := []) (by simp)).trans hf7 (by simp) (by simp)⟩
    | true =>
      rw [hnb] at hn hrn
      have HN := Lib.hid hn
      have HRN := Lib.hid hrn
      have hall := hone hnb
      rw [hall] at HP
      cases htb : termB m with
      | false =>
        rw [htb] at ht hrt
        have HT := Lib.hid ht
        have HRT := Lib.hid hrt
        clear hn ht hrn hrt hone htwo hnb htb hA hI hall 
        go_enter Try.func4, Try.ntmps4
        go_upto_region 7 with (first
          | (go_at_call 9; refine (HRN.out _).mono ?_; rintro e w1 ⟨rfl, rfl⟩)
          | (go_at_call 10; refine (HRT.out _).mono ?_; rintro e w2 ⟨rfl, rfl⟩)
          | (go_at_call 11; refine (HN.out _).mono ?_; rintro e w3 ⟨rfl, hf3⟩)
          | (go_at_call 12; refine (HT.out _).mono ?_; rintro e w4 ⟨rfl, hf4⟩))
        go_upto_region 8 with (go_at_call 7; refine (HP.out _).mono ?_; rintro e w5 ⟨v5, rfl, ht5, hf5⟩)
        obtain ⟨a5, c5, rfl, hc5, hm5⟩ := ht5.form
        obtain ⟨b5, off5, rfl, k0, k1, k2⟩ := tok_cells ht5 0 (by simp)
        have k0' : w5.cell? ⟨b5, off5, none⟩ = some (.int .i64 1) := k0
        have k1' : w5.cell? ⟨b5, off5 + 1, none⟩ = some (encStr m) := by have := k1; simp only [Nat.zero_mul, Nat.add_zero] at this; exact this
        clear k0 k1 k2
        have HF5 := Lib.hid ((hf3.trans hf4 (by simp) (n := []) (by simp)).trans hf5 (by simp) (n := []) (by simp))
        clear ht5 hf3 hf4 hf5
        go_upto_region 11 with fail
        go_upto_region 12 with (go_at_call 7; refine (HQ.out _).mono ?_; rintro e w6 ⟨v6, rfl, ht6, hf6⟩)
        obtain ⟨a6, c6, rfl, hc6, hm6⟩ := ht6.form
        clear ht6
        go_wp2_with (go_at_call 6; refine (HAW.out _).mono ?_; rintro e w7 ⟨rfl, hf7⟩)
        go_ret
        exact ⟨rfl, (HF5.out.trans hf6 (by simp) (n := []) (by simp)).trans hf7 (by simp) (by simp)⟩
      | true =>
        rw [htb] at ht hrt
        have HT := Lib.hid ht
        have HRT := Lib.hid hrt
        have hallq := htwo htb
        rw [hallq] at HQ
        clear hn ht hrn hrt hone htwo hnb htb hA hI hall hallq
        go_enter Try.func4, Try.ntmps4
        go_upto_region 7 with (first
          | (go_at_call 9; refine (HRN.out _).mono ?_; rintro e w1 ⟨rfl, rfl⟩)
          | (go_at_call 10; refine (HRT.out _).mono ?_; rintro e w2 ⟨rfl, rfl⟩)
          | (go_at_call 11; refine (HN.out _).mono ?_; rintro e w3 ⟨rfl, hf3⟩)
          | (go_at_call 12; refine (HT.out _).mono ?_; rintro e w4 ⟨rfl, hf4⟩))
        go_upto_region 8 with (go_at_call 7; refine (HP.out _).mono ?_; rintro e w5 ⟨v5, rfl, ht5, hf5⟩)
        obtain ⟨a5, c5, rfl, hc5, hm5⟩ := ht5.form
        obtain ⟨b5, off5, rfl, k0, k1, k2⟩ := tok_cells ht5 0 (by simp)
        have k0' : w5.cell? ⟨b5, off5, none⟩ = some (.int .i64 1) := k0
        have k1' : w5.cell? ⟨b5, off5 + 1, none⟩ = some (encStr m) := by have := k1; simp only [Nat.zero_mul, Nat.add_zero] at this; exact this
        clear k0 k1 k2
        have HF5 := Lib.hid ((hf3.trans hf4 (by simp) (n := []) (by simp)).trans hf5 (by simp) (n := []) (by simp))
        clear ht5 hf3 hf4 hf5
        go_upto_region 11 with fail
        go_upto_region 12 with (go_at_call 7; refine (HQ.out _).mono ?_; rintro e w6 ⟨v6, rfl, ht6, hf6⟩)
        obtain ⟨a6, c6, rfl, hc6, hm6⟩ := ht6.form
        obtain ⟨b6, off6, rfl, l0, l1, l2⟩ := tok_cells ht6 0 (by simp)
        have l0' : w6.cell? ⟨b6, off6, none⟩ = some (.int .i64 2) := l0
        have l1' : w6.cell? ⟨b6, off6 + 1, none⟩ = some (encStr m) := by have := l1; simp only [Nat.zero_mul, Nat.add_zero] at this; exact this
        clear l0 l1 l2
        clear ht6
        go_wp2_with (go_at_call 6; refine (HAW.out _).mono ?_; rintro e w7 ⟨rfl, hf7⟩)
        go_ret
        exact ⟨rfl, (HF5.out.trans hf6 (by simp) (n := []) (by simp)).trans hf7 (by simp) (by simp)⟩
  · have hd : decide (100 < (m.length : Int)) = true := decide_eq_true (by omega)
    clear hA hI hm
    go_enter Try.func4, Try.ntmps4
    go_wp2_with (go_at_call 6; refine (HAW.out _).mono ?_; rintro e w4 ⟨rfl, hf4⟩)
    go_ret
    exact ⟨rfl, hf4⟩
end Go.Proofs.Yteeojnbmkapjiaa
