/- HexTexts: Text returns the specified string, and Parse restores the bytes. -/
import Derived.Test.YtbccneabhjnpoaaDoorHexLaw
namespace Go.Proofs.YtbccneabhjnpoaaDoor
open Go.RowKit

def WantRel (w : World) (bs : List UInt8) (vs i : Value) (wr : World) : Prop :=
  ∃ k : Nat, k ≤ bs.length ∧ i = .int .i64 (k : Int) ∧ vs = .string ⟨(hexOf (bs.take k)).toArray⟩ ∧ Fr [] w wr
theorem str_add3 (S : List UInt8) (a b : UInt8) : ((⟨S.toArray⟩ : ByteArray) ++ ⟨#[a]⟩ ++ ⟨#[b]⟩) = ⟨(S ++ [a, b]).toArray⟩ := by
  apply ByteArray.ext
  simp [ByteArray.data_append]
set_option maxRecDepth 100000 in
theorem texts_any (bs : List UInt8) (sv : Value) (w : World) (h : bytesAt w sv bs) (hr : digsAt w) :
    Calls Tryd.prog 3 #[sv] w fun e w' => e = .returned (.bool true) ∧ Fr [] w w' := by
  have hc := cellsAt_bytes h
  obtain ⟨a, cap, rfl, -, -⟩ := h.form
  have HA := Lib.hid (fun wx (hf : Fr [] w wx) => awake_any wx (hr.below hf))
  by_cases hl : 400 < bs.length
  · have hb1 : decide (400 < (bs.length : Int)) = true := decide_eq_true (by omega)
    go_enter Tryd.func3, Tryd.ntmps3
    go_wp2_with (go_at_call 5; refine (HA.out _ (Fr.refl _ _)).mono ?_; rintro e w' ⟨rfl, hf⟩)
    go_ret
    exact ⟨rfl, hf⟩
  · have hb1 : decide (400 < (bs.length : Int)) = false := decide_eq_false (by omega)
    have HB := Lib.hid h
    have HC := Lib.hid hc
    have HR := Lib.hid hr
    clear h hc hr
    go_enter Tryd.func3, Tryd.ntmps3
    go_wp2_with fail
    go_loopw [3, 4] (WantRel w bs) (fun _ i _ => bs.length - (intOf i).toNat)
    case atStart => exact ⟨0, by omega, rfl, rfl, Fr.refl _ _⟩
    case round =>
      obtain ⟨k, hk, rfl, rfl, hf⟩ := hrel
      by_cases hkl : k < bs.length
      · have hd : decide ((k : Int) < (bs.length : Int)) = true := decide_eq_true (by omega)
        obtain ⟨b, off, rfl, -, hcell⟩ := HC.out.get (i := k) (by rw [cellsB_length]; exact hkl)
        have hck := hf.cell (hcell k (by rw [cellsB_length]; exact hkl)) (by simp)
        have hcg := cellsB_get bs k hkl
        rw [List.getElem?_eq_getElem (by rw [cellsB_length]; exact hkl)] at hcg
        rw [Option.some.inj hcg] at hck
        obtain ⟨c, hcc⟩ : ∃ c, c = bs[k]'hkl := ⟨_, rfl⟩
        have hstep := text_step bs k hkl
        rw [← hcc] at hstep hck
        have hcl := c.toNat_lt
        have hsl := hexOf_take bs k hk
        obtain ⟨S, hS⟩ : ∃ S, S = hexOf (bs.take k) := ⟨_, rfl⟩
        rw [← hS] at hsl hstep ⊢
        have hsl' : S.length ≤ 800 := by omega
        have Q1 : ∀ wx, Calls Tryd.prog 6 #[.int .i64 ((c.toNat : Int) / 16)] wx fun e w' => e = .returned (.string ⟨#[hxd (c.toNat / 16)]⟩) ∧ w' = wx := fun wx => flip_same (digit_any (c.toNat / 16) wx (by omega))
        have Q2 : ∀ wx, Calls Tryd.prog 6 #[.int .i64 ((c.toNat : Int) % 16)] wx fun e w' => e = .returned (.string ⟨#[hxd (c.toNat % 16)]⟩) ∧ w' = wx := fun wx => flip_same (digit_any (c.toNat % 16) wx (by omega))
        have Q1 := Lib.hid Q1
        have Q2 := Lib.hid Q2
        have HS := Lib.hid hstep
        clear hcell hcg hcc hstep hsl hS
        go_wp2_with fail
        go_quiet (first | (go_at_call 6; with_reducible refine Calls.quiet_of_same (Q1.out _)) | (go_at_call 6; with_reducible refine Calls.quiet_of_same (Q2.out _)))
        go_wp2_with fail
        exact ⟨⟨k + 1, by omega, by go_num, by rw [str_add3, HS.out], hf.andDrewN nq⟩, by simp [intOf]; omega⟩
      · have hd : decide ((k : Int) < (bs.length : Int)) = false := decide_eq_false (by omega)
        obtain rfl : bs.length = k := by omega
        rw [List.take_length]
        have hlen := hexOf_length bs
        have hP := parse_yes (hexOf bs) wr (HR.out.below hf) (by omega) (goodD_hexOf bs)
        have hI := fun w3 (hf3 : Fr [] w w3) => is_any (hexOf bs) w3 (HR.out.below hf3) (by omega)
        rw [unhex_hexOf] at hP
        rw [goodD_hexOf] at hI
        have hT := fun w3 (hf3 : Fr [] w w3) => text_any bs _ w3 (HB.out.below hf3) (HR.out.below hf3) (by omega)
        obtain ⟨S, hS⟩ : ∃ S, S = (hexOf bs).toArray := ⟨_, rfl⟩
        rw [← hS] at hP hI hT ⊢
        have HP := Lib.hid hP
        have HI := Lib.hid hI
        have HT := Lib.hid hT
        clear hS hlen hP hI hT
        go_wp2_with (go_at_call 7; refine HP.out.mono ?_; rintro e w2 ⟨⟨v, rfl, hb2⟩, hf2⟩)
        have hf02 : Fr [] w w2 := hf.trans hf2 (by simp) (by simp)
        refine (HT.out w2 hf02).mono ?_
        rintro e w3 ⟨rfl, hf3⟩
        have hf03 : Fr [] w w3 := hf02.trans hf3 (by simp) (by simp)
        have hcv := run_conv_bytes (P := Tryd.prog) (hb2.below hf3) 22 5 9 Tryd.underlying22 Tryd.underlying5 Tryd.underlying9
        have hcv2 := run_conv_bytes (P := Tryd.prog) (HB.out.below hf03) 22 5 9 Tryd.underlying22 Tryd.underlying5 Tryd.underlying9
        clear hb2
        go_wp2_with (first
          | (go_at_call 9; with_reducible refine (HI.out w3 hf03).mono ?_; rintro e w4 ⟨rfl, hf4⟩; have hf04 : Fr [] w w4 := hf03.trans hf4 (by simp) (by simp))
          | (go_at_call 5; with_reducible refine (HA.out w4 hf04).mono ?_; rintro e w5 ⟨rfl, hf5⟩))
        go_ret
        exact ⟨rfl, hf04.trans hf5 (by simp) (by simp)⟩
end Go.Proofs.YtbccneabhjnpoaaDoor
