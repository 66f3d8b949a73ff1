/- FrameStreams: Next and Left return all frames in a byte sequence, and the specified error at the end. -/
import Derived.Test.YtijdffpekonklaaFraOpens
namespace Go.Proofs.Ytijdffpekonklaa
open Go.RowKit

/-- How far the stream has come. -/
def StrRel (bs : List UInt8) (p : Nat) (g : Option Nat) (w w1 : World) (sat si : Value) (wr : World) : Prop :=
  ∃ q i : Nat, i ≤ q ∧ q ≤ bs.length ∧ sat = .int .i64 (q : Int) ∧ si = .int .i64 (i : Int) ∧ isS wr p g (bs.drop q) ∧ Fr [p] w1 wr ∧ Fr [] w wr
set_option maxRecDepth 100000 in
theorem streams_in (bs : List UInt8) (sv : Value) (w : World) (h : bytesAt w sv bs) (hl : ¬ 1000 < bs.length) :
    Calls Try.prog 5 #[sv] w fun e w' => e = .returned (.bool true) ∧ Fr [] w w' := by
  obtain ⟨a0, c0, rfl, hle, hmx⟩ := h.form
  simp only [maxLen] at hmx
  have hb1 : decide (1000 < (bs.length : Int)) = false := decide_eq_false (by omega)
  have HB := Lib.hid h
  have HRD := Lib.hid (sread_any bs _ w h (by omega))
  clear h
  go_enter Try.func5, Try.ntmps5
  go_wp2_with (first
    | (go_at_call 14; refine HRD.out.mono ?_; rintro e w1 ⟨p, g, rfl, hs1, hf1, hp1, hg1⟩))
  go_loopw [4, 5] (StrRel bs p g w w1) (fun _ i _ => bs.length + 1 - (intOf i).toNat)
  case atStart => exact ⟨0, 0, Nat.le_refl _, Nat.zero_le _, rfl, rfl, hs1, Fr.refl _ _, hf1⟩
  case round =>
    clear hs1 hf1
    obtain ⟨q, i, hiq, hqn, rfl, rfl, hs, hfp, hf⟩ := hrel
    have hd0 : decide (i ≤ bs.length) = true := decide_eq_true (by omega)
    have hd0' : decide ((i : Int) ≤ (bs.length : Int)) = true := decide_eq_true (by omega)
    have hlen : ((bs.drop q).length : Int) = (bs.length : Int) - (q : Int) := by simp; omega
    have HLF := Lib.hid (fun wx (hx : isS wx p g (bs.drop q)) => sleft_any p g (bs.drop q) wx hx)
    rw [hlen] at HLF
    by_cases hqe : q = bs.length
    · have hnil : bs.drop q = [] := List.drop_of_length_le (by omega)
      rw [hnil] at hs HLF
      have he : ((q : Int) == (bs.length : Int)) = true := by rw [beq_iff_eq]; omega
      have hz : (bs.length : Int) - (q : Int) = 0 := by omega
      rw [hz] at HLF
      have hz2 : ((0 : Int) != (bs.length : Int) - (q : Int)) = false := by rw [bne_eq_false_iff_eq]; omega
      have HNX := Lib.hid (next_end p g wr hs)
      clear hqe hnil hz hlen
      go_wp2_with (first
        | (go_at_call 15; refine (HLF.out _ hs).mono ?_; rintro e w2 ⟨rfl, rfl⟩)
        | (go_at_call 16; refine HNX.out.mono ?_; rintro e w2 ⟨rfl, rfl⟩; unfold no3)
        | (go_at_call 7; refine (awake_any _).mono ?_; rintro e w4 ⟨rfl, hf4⟩))
      go_ret
      exact ⟨rfl, hf.trans hf4 (by simp) (by simp)⟩
    · have hql : q < bs.length := by omega
      have he : ((q : Int) == (bs.length : Int)) = false := by rw [beq_eq_false_iff_ne]; omega
      have hcq : ¬ c0 = q := by omega
      have HCUT : Hid (∀ wx, Fr [] w wx → bytesAt wx (.slice (a0.map fun x => x.add q) (bs.length - q) (c0 - q)) (bs.drop q)) := Lib.hid (fun wx hx => by
        have hc := (HB.out.below hx).cut (lo := q) (hi := bs.length) hqn (Nat.le_refl _)
        rwa [List.take_length, Nat.mul_one, if_neg hcq] at hc)
      have hdl : (bs.drop q).length = bs.length - q := by simp
      obtain ⟨R, hR⟩ : ∃ R, R = bs.drop q := ⟨_, rfl⟩
      rw [← hR] at hs HLF HCUT hdl
      have hRp : 0 < R.length := by omega
      by_cases hy : whyF R = 0
      · have hen := endF_rest hy
        have HNX := Lib.hid (next_yes p g R wr hs (by omega) hy)
        have HFR := Lib.hid (fun wx (hx : Fr [] w wx) => rfr_yes R _ wx (HCUT.out wx hx) (by omega) hy)
        have hrest : restF R = bs.drop (q + (endF R + 4)) := by rw [restF, hR, List.drop_drop]
        unfold Front7 at HFR
        unfold Nexted at HNX
        obtain ⟨f, hf'⟩ : ∃ f, f = endF R + 4 := ⟨_, rfl⟩
        rw [← hf'] at HFR hrest hen
        have hf5 : 4 ≤ f := by omega
        rw [hrest] at HNX
        have hfe := hen.1
        obtain ⟨k, hk⟩ : ∃ k, k = kindF R := ⟨_, rfl⟩
        obtain ⟨X, hX⟩ : ∃ X, X = loadF R := ⟨_, rfl⟩
        rw [← hk, ← hX] at HNX HFR
        have hfq : q + f ≤ bs.length := by omega
        clear hy hen hrest hR hk hX hqe hlen hf' hcq hRp hdl hfe
        go_wp2_with (first
          | (go_at_call 15; refine (HLF.out _ hs).mono ?_; rintro e w2 ⟨rfl, rfl⟩)
          | (go_at_call 16; refine HNX.out.mono ?_; rintro e w2 ⟨v2, rfl, hx2, hs2, hf2⟩; obtain ⟨a2, n2, c2, rfl⟩ := hx2.slice; have hf02 := hf.trans hf2 (by simp) (n := []) (by simp; omega))
          | (go_at_call 13; refine (HFR.out _ hf02).mono ?_; rintro e w3 ⟨v3, rfl, hx3, hf3⟩; obtain ⟨a3, n3, c3, rfl⟩ := hx3.slice; have d1 := run_conv_bytes (P := Try.prog) (hx2.below hf3) 22 5 9 Try.underlying22 Try.underlying5 Try.underlying9; have d2 := run_conv_bytes (P := Try.prog) hx3 22 5 9 Try.underlying22 Try.underlying5 Try.underlying9))
        refine ⟨⟨q + f, i + 1, by omega, hfq, by go_num, by go_num, hs2.below hf3, (hfp.trans hf2 (by simp) (n := [p]) (by simp)).trans hf3 (by simp) (by simp), hf02.trans hf3 (by simp) (by simp)⟩, by simp [intOf]; omega⟩
      · obtain ⟨y, hye⟩ : ∃ y, whyF R = y := ⟨_, rfl⟩
        have hy0 : 0 < y := by omega
        have HNX := Lib.hid (fun wx (hx : isS wx p g R) => next_no p g R y wx hx (by omega) hRp hye hy0)
        have HFR := Lib.hid (fun wx (hx : Fr [] w wx) => rfr_no R y _ wx (HCUT.out wx hx) (by omega) hye hy0)
        have hne : ((y : Int) != 0) = true := by rw [bne_iff_ne]; omega
        have HS := Lib.hid hs
        clear hy hye hy0 hR hqe hlen hcq hRp hdl hs
        go_wp2_with (first
          | (go_at_call 16; refine (HNX.out _ (HS2.out.below hf3)).mono ?_; rintro e w4 ⟨rfl, hf4⟩; unfold no3; have HS4 := Lib.hid ((HS2.out.below hf3).below hf4))
          | (go_at_call 15; refine (HLF.out _ HS4.out).mono ?_; rintro e w5 ⟨rfl, rfl⟩)
          | (go_at_call 15; refine (HLF.out _ HS.out).mono ?_; rintro e w5 ⟨rfl, rfl⟩)
          | (go_at_call 16; refine (HNX.out _ HS.out).mono ?_; rintro e w2 ⟨rfl, hf2⟩; unfold no3; have HS2 := Lib.hid (HS.out.below hf2); have hf02 := hf.trans hf2 (by simp) (n := []) (by simp))
          | (go_at_call 13; refine (HFR.out _ hf02).mono ?_; rintro e w3 ⟨rfl, hf3⟩; unfold bad4)
          | (go_at_call 7; refine (awake_any _).mono ?_; rintro e w6 ⟨rfl, hf6⟩))
        go_ret
        exact ⟨rfl, ((hf02.trans hf3 (by simp) (n := []) (by simp)).trans hf4 (by simp) (n := []) (by simp)).trans hf6 (by simp) (by simp)⟩
theorem streams_any (bs : List UInt8) (sv : Value) (w : World) (h : bytesAt w sv bs) :
    Calls Try.prog 5 #[sv] w fun e w' => e = .returned (.bool true) ∧ Fr [] w w' := by
  by_cases hl : 1000 < bs.length
  · obtain ⟨a0, c0, rfl, hle, hmx⟩ := h.form
    simp only [maxLen] at hmx
    have hb1 : decide (1000 < (bs.length : Int)) = true := decide_eq_true (by omega)
    clear h
    go_enter Try.func5, Try.ntmps5
    go_wp2_with (go_at_call 7; refine (awake_any _).mono ?_; rintro e w' ⟨rfl, hf⟩)
    go_ret
    exact ⟨rfl, hf⟩
  · exact streams_in bs sv w h hl
end Go.Proofs.Ytijdffpekonklaa
