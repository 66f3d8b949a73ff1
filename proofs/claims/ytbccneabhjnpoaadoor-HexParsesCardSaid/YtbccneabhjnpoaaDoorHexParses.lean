/- HexParses: Parse accepts exactly the strings that are the Text of some bytes. -/
import Derived.Test.YtbccneabhjnpoaaDoorHexLaw
namespace Go.Proofs.YtbccneabhjnpoaaDoor
open Go.RowKit

def IsRel (w : World) (s : List UInt8) (E : Bool) (vb i : Value) (wr : World) : Prop :=
  wr = w ∧ ∃ k : Nat, k ≤ s.length ∧ i = .int .i64 (k : Int) ∧ vb = .bool (E && (s.take k).all isD)
theorem is_step (s : List UInt8) (k : Nat) (h : k < s.length) (E : Bool) : (E && (s.take (k + 1)).all isD) = ((E && (s.take k).all isD) && isD (s[k]'h)) := by
  rw [List.take_add_one, List.getElem?_eq_getElem h, List.all_append]
  cases E <;> simp
theorem isD_yes (c : UInt8) (h : (48 ≤ c.toNat ∧ c.toNat ≤ 57) ∨ (97 ≤ c.toNat ∧ c.toNat ≤ 102)) : isD c = true := by
  simp only [isD, Bool.or_eq_true, Bool.and_eq_true, decide_eq_true_eq]; exact h
theorem isD_no (c : UInt8) (h : ¬ ((48 ≤ c.toNat ∧ c.toNat ≤ 57) ∨ (97 ≤ c.toNat ∧ c.toNat ≤ 102))) : isD c = false := by
  cases hq : isD c with
  | false => rfl
  | true => simp only [isD, Bool.or_eq_true, Bool.and_eq_true, decide_eq_true_eq] at hq; exact (h hq).elim
/-- Everything that the walk wants of the calls. -/
structure ParsesAt (w : World) (s : List UInt8) (C : ByteArray) : Prop where
  awake : ∀ wx, Fr [] w wx → Calls Tryd.prog 5 #[] wx fun e w' => e = .returned (.bool true) ∧ Fr [] wx w'
  yes : goodD s = true → Calls Tryd.prog 7 #[.string C] w (Bytes2 w (unhex s))
  no : goodD s = false → Calls Tryd.prog 7 #[.string C] w fun e w' => e = .returned (.tuple #[.slice none 0 0, .bool false]) ∧ Fr [] w w'
  is : ∀ b, goodD s = b → ∀ wx, Fr [] w wx → Calls Tryd.prog 9 #[.string C] wx fun e w' => e = .returned (.bool b) ∧ Fr [] wx w'
  text : goodD s = true → ∀ v wx, Fr [] w wx → bytesAt wx v (unhex s) → Calls Tryd.prog 8 #[v] wx fun e w' => e = .returned (.string C) ∧ Fr [] wx w'
theorem parses_at (s : List UInt8) (w : World) (hr : digsAt w) (hl : s.length ≤ 400) : ParsesAt w s ⟨s.toArray⟩ where
  awake wx hf := awake_any wx (hr.below hf)
  yes hg := parse_yes s w hr (by omega) hg
  no hg := parse_no s w hr (by omega) hg
  is b hg wx hf := by
    subst hg
    exact is_any s wx (hr.below hf) (by omega)
  text hg v wx hf hb := by
    have := text_any (unhex s) v wx hb (hr.below hf) (by rw [unhex_length]; omega)
    rwa [hexOf_unhex s hg] at this
set_option maxRecDepth 100000 in
theorem parses_any (s : List UInt8) (w : World) (hr : digsAt w) :
    Calls Tryd.prog 4 #[.string ⟨s.toArray⟩] w fun e w' => e = .returned (.bool true) ∧ Fr [] w w' := by
  by_cases hl : 400 < s.length
  · have hb1 : decide (400 < (s.length : Int)) = true := decide_eq_true (by omega)
    have HA := Lib.hid (awake_any w hr)
    go_enter Tryd.func4, Tryd.ntmps4
    go_wp2_with (go_at_call 5; refine HA.out.mono ?_; rintro e w' ⟨rfl, hf⟩)
    go_ret
    exact ⟨rfl, hf⟩
  · have hb1 : decide (400 < (s.length : Int)) = false := decide_eq_false (by omega)
    have HP := Lib.hid (parses_at s w hr (by omega))
    obtain ⟨E, hE⟩ : ∃ E, E = decide (s.length % 2 = 0) := ⟨_, rfl⟩
    have he : ((s.length : Int) % 2 == 0) = E := by
      rw [hE]
      by_cases h2 : s.length % 2 = 0
      · rw [decide_eq_true h2, beq_iff_eq]; omega
      · rw [decide_eq_false h2, beq_eq_false_iff_ne]; omega
    have HE := Lib.hid hE
    have hir : ∀ k (h : k < s.length) wx, (Instr.index 9 (.string ⟨s.toArray⟩) (.int .i64 (k : Int))).run Tryd.prog wx = .ok (.int .u8 ((s[k]'h).toNat : Int)) wx := fun k h wx => run_index_str wx _ s _ k _ Tryd.underlying9 rfl (List.getElem?_eq_getElem h)
    have HIR := Lib.hid hir
    clear hE hr hir
    go_enter Tryd.func4, Tryd.ntmps4
    go_wp2_with fail
    go_loopw [3, 4] (IsRel w s E) (fun _ i _ => s.length - (intOf i).toNat)
    case atStart => exact ⟨rfl, 0, by omega, rfl, by simp⟩
    case round =>
      clear he
      obtain ⟨rfl, k, hk, rfl, rfl⟩ := hrel
      by_cases hkl : k < s.length
      · have hd : decide ((k : Int) < (s.length : Int)) = true := decide_eq_true (by omega)
        have hidx := HIR.out k hkl
        have hstep := is_step s k hkl E
        obtain ⟨c, hcc⟩ : ∃ c, c = s[k]'hkl := ⟨_, rfl⟩
        rw [← hcc] at hidx hstep
        obtain ⟨B, hB⟩ : ∃ B, B = (E && (s.take k).all isD) := ⟨_, rfl⟩
        rw [← hB] at hstep ⊢
        clear hcc hB
        by_cases g0 : c.toNat < 48
        · have q0 : decide (48 ≤ (c.toNat : Int)) = false := decide_eq_false (by omega)
          have q2 : decide (97 ≤ (c.toNat : Int)) = false := decide_eq_false (by omega)
          rw [isD_no c (by omega), Bool.and_false] at hstep
          have HST := Lib.hid hstep
          clear hstep
          go_wp2_with fail
          exact ⟨⟨rfl, k + 1, by omega, by go_num, by rw [HST.out]⟩, by simp [intOf]; omega⟩
        · skip
          by_cases g1 : c.toNat ≤ 57
          · have q0 : decide (48 ≤ (c.toNat : Int)) = true := decide_eq_true (by omega)
            have q1 : decide ((c.toNat : Int) ≤ 57) = true := decide_eq_true (by omega)
            rw [isD_yes c (by omega), Bool.and_true] at hstep
            have HST := Lib.hid hstep
            clear hstep
            go_wp2_with fail
            exact ⟨⟨rfl, k + 1, by omega, by go_num, by rw [HST.out]⟩, by simp [intOf]; omega⟩
          · skip
            by_cases g2 : c.toNat < 97
            · have q0 : decide (48 ≤ (c.toNat : Int)) = true := decide_eq_true (by omega)
              have q1 : decide ((c.toNat : Int) ≤ 57) = false := decide_eq_false (by omega)
              have q2 : decide (97 ≤ (c.toNat : Int)) = false := decide_eq_false (by omega)
              rw [isD_no c (by omega), Bool.and_false] at hstep
              have HST := Lib.hid hstep
              clear hstep
              go_wp2_with fail
              exact ⟨⟨rfl, k + 1, by omega, by go_num, by rw [HST.out]⟩, by simp [intOf]; omega⟩
            · skip
              by_cases g3 : c.toNat ≤ 102
              · have q0 : decide (48 ≤ (c.toNat : Int)) = true := decide_eq_true (by omega)
                have q1 : decide ((c.toNat : Int) ≤ 57) = false := decide_eq_false (by omega)
                have q2 : decide (97 ≤ (c.toNat : Int)) = true := decide_eq_true (by omega)
                have q3 : decide ((c.toNat : Int) ≤ 102) = true := decide_eq_true (by omega)
                rw [isD_yes c (by omega), Bool.and_true] at hstep
                have HST := Lib.hid hstep
                clear hstep
                go_wp2_with fail
                exact ⟨⟨rfl, k + 1, by omega, by go_num, by rw [HST.out]⟩, by simp [intOf]; omega⟩
              · skip
                have q0 : decide (48 ≤ (c.toNat : Int)) = true := decide_eq_true (by omega)
                have q1 : decide ((c.toNat : Int) ≤ 57) = false := decide_eq_false (by omega)
                have q2 : decide (97 ≤ (c.toNat : Int)) = true := decide_eq_true (by omega)
                have q3 : decide ((c.toNat : Int) ≤ 102) = false := decide_eq_false (by omega)
                rw [isD_no c (by omega), Bool.and_false] at hstep
                have HST := Lib.hid hstep
                clear hstep
                go_wp2_with fail
                exact ⟨⟨rfl, k + 1, by omega, by go_num, by rw [HST.out]⟩, by simp [intOf]; omega⟩
      · have hd : decide ((k : Int) < (s.length : Int)) = false := decide_eq_false (by omega)
        obtain rfl : s.length = k := by omega
        have hg : goodD s = (E && s.all isD) := by rw [HE.out]; rfl
        rw [List.take_length, ← hg]
        clear hg
        obtain ⟨C, hC⟩ : ∃ C : ByteArray, C = ⟨s.toArray⟩ := ⟨_, rfl⟩
        have hcs : C.size = s.length := by rw [hC]; simp [ByteArray.size]
        rw [← hC] at HP ⊢
        clear hC HIR
        cases hgd : goodD s with
        | true =>
          have hY := Lib.hid (HP.out.yes hgd)
          have hI := Lib.hid (HP.out.is true hgd)
          have hT := Lib.hid (HP.out.text hgd)
          have hln : (2 * ((unhex s).length : Int)) = (s.length : Int) := by
            rw [unhex_length]
            simp only [goodD, Bool.and_eq_true, decide_eq_true_eq] at hgd
            omega
          have hu1 : (unhex s).length ≤ 400 := by rw [unhex_length]; omega
          go_wp2_with (go_at_call 7; refine hY.out.mono ?_; rintro e w2 ⟨⟨v, rfl, hb2⟩, hf2⟩)
          refine (hI.out w2 hf2).mono ?_
          rintro e w3 ⟨rfl, hf3⟩
          have hf03 : Fr [] wr w3 := hf2.trans hf3 (by simp) (by simp)
          have hb3 := hb2.below hf3
          have HTT := Lib.hid (hT.out v w3 hf03 hb3)
          obtain ⟨av, cv, rfl, -, -⟩ := hb3.form
          clear hb2 hb3
          go_wp2_with (first
            | (go_at_call 8; with_reducible refine HTT.out.mono ?_; rintro e w4 ⟨rfl, hf4⟩; have hf04 : Fr [] wr w4 := hf03.trans hf4 (by simp) (by simp))
            | (go_at_call 5; with_reducible refine (HP.out.awake w4 hf04).mono ?_; rintro e w5 ⟨rfl, hf5⟩))
          go_ret
          exact ⟨rfl, hf04.trans hf5 (by simp) (by simp)⟩
        | false =>
          have hN := Lib.hid (HP.out.no hgd)
          have hI := Lib.hid (HP.out.is false hgd)
          go_wp2_with (go_at_call 7; refine hN.out.mono ?_; rintro e w2 ⟨rfl, hf2⟩)
          refine (hI.out w2 hf2).mono ?_
          rintro e w3 ⟨rfl, hf3⟩
          have hf03 : Fr [] wr w3 := hf2.trans hf3 (by simp) (by simp)
          go_wp2_with (go_at_call 5; with_reducible refine (HP.out.awake w3 hf03).mono ?_; rintro e w5 ⟨rfl, hf5⟩)
          go_ret
          exact ⟨rfl, hf03.trans hf5 (by simp) (by simp)⟩
end Go.Proofs.YtbccneabhjnpoaaDoor
