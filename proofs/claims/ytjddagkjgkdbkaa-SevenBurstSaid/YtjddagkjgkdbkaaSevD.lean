/- Contract of package seven's Unpack. -/
import Derived.Test.YtjddagkjgkdbkaaSevC
namespace Go.Proofs.Ytjddagkjgkdbkaa
open Go.RowKit

theorem le7_put (xs : List UInt8) (c : UInt8) : le7 xs + c.toNat % 2 ^ 7 * 2 ^ (7 * xs.length) = le7 (xs ++ [c]) := by
  rw [le7_append, le7_one]
def UnRel (w : World) (p base : Nat) (b : List UInt8) (s : Value) (wr : World) : Prop :=
  ∃ i : Nat, i ≤ b.length ∧ s = .int .i64 (i : Int) ∧ isC wr p 8 (le7 (b.take i)) (7 * (b.take i).length) base ∧ Below base w wr
def Unpacked (w : World) (b : List UInt8) (e : Ending) (w' : World) : Prop :=
  ((okU b = true ∧ ∃ v, e = .returned (.tuple #[v, .bool true]) ∧ bytesAt w' v (unpackOf b)) ∨ (okU b = false ∧ e = .returned (.tuple #[.slice none 0 0, .bool false]))) ∧ Fr [] w w'
set_option maxRecDepth 100000 in
theorem unpack_any (b : List UInt8) (sv : Value) (w : World) (h : bytesAt w sv b) (hl : b.length ≤ 1000000) :
    Calls Try.prog 8 #[sv] w (Unpacked w b) := by
  obtain ⟨i, hi, hz0, hz1, hz2⟩ := info_parts infoB
  obtain ⟨a0, c0, rfl, hle, hmx⟩ := h.form
  simp only [maxLen] at hmx
  have HP := Lib.hid h
  have hwh := whole_any b _ w h
  clear h
  cases hwb : wholeB b with
  | false =>
    rw [hwb] at hwh
    have HW := Lib.hid hwh
    have HK := Lib.hid (show okU b = false by rw [okU, hwb]; rfl)
    clear hwh hwb
    go_enter Try.func8, Try.ntmps8
    go_wp2_with (go_at_call 11; refine HW.out.mono ?_; rintro e w1 ⟨rfl, rfl⟩)
    go_ret2
    exact ⟨.inr ⟨HK.out, rfl⟩, Fr.refl _ _⟩
  | true =>
    rw [hwb] at hwh
    have HW := Lib.hid hwh
    have HWB := Lib.hid hwb
    clear hwh hwb
    go_enter Try.func8, Try.ntmps8
    go_wp2_with (first
      | (go_at_call 11; refine HW.out.mono ?_; rintro e w1 ⟨rfl, rfl⟩)
      | (refine wpL_makeCap rfl _ _ 22 rfl 5 i (.int .u8 0) 1 Try.underlying22 hi hz0 hz1 hz2 rfl 0 b.length rfl rfl (by omega) (by omega) (by simp [maxLen]; omega) ?_; intro w1 hown1 hf1 hs1))
    have hst : isC (w1.alloc (.cells (colC 8 (.slice (some ⟨w.heap.size, 0, none⟩) 0 b.length) 0 0) 35)) w1.heap.size 8 (le7 (b.take 0)) (7 * (b.take 0).length) w.heap.size := by
      rw [List.take_zero]
      refine ⟨.slice (some ⟨w.heap.size, 0, none⟩) 0 b.length, ?_, owns_kept (n := 0) (xs := []) hown1 (Fr.alloc _ _) (by simp), ?_⟩
      · rw [heap_alloc_new]; rfl
      · intro j' hj'
        have e : w.heap.size = j' := Option.some.inj hj'
        have := hs1.out
        omega
    have hbel1 : Below w.heap.size w (w1.alloc (.cells (colC 8 (.slice (some ⟨w.heap.size, 0, none⟩) 0 b.length) 0 0) 35)) := (hf1.below (Nat.le_refl _) (by simp)).alloc hf1.size _
    have hbp : w.heap.size ≤ w1.heap.size := hf1.size
    obtain ⟨p, hp⟩ : ∃ p, p = w1.heap.size := ⟨_, rfl⟩
    rw [← hp] at hst hbp ⊢
    obtain ⟨base, hbase⟩ : ∃ base, base = w.heap.size := ⟨_, rfl⟩
    rw [← hbase] at hst hbp hbel1 ⊢
    have HB := Lib.hid hbase
    clear hp hown1 hs1 hf1 hbase
    go_loopw [16] (UnRel w p base b) (fun s _ => b.length - (intOf s).toNat)
    case atStart => exact ⟨0, Nat.zero_le _, rfl, hst, hbel1⟩
    case round =>
      clear hst hbel1
      obtain ⟨k, hk, rfl, hC, hbel⟩ := hrel
      by_cases hkn : k < b.length
      · have hd : decide (k < b.length) = true := decide_eq_true hkn
        obtain ⟨b2, off2, rfl, hc2⟩ := byteAt (HP.out.below (Fr.of_below (HB.out ▸ hbel))) k hkn
        have hstep : b.take (k + 1) = b.take k ++ [b[k]'hkn] := List.take_succ_eq_append_getElem hkn
        obtain ⟨c, hcc⟩ : ∃ c, c = b[k]'hkn := ⟨_, rfl⟩
        rw [← hcc] at hstep hc2
        have hxl : (b.take k).length ≤ 1000000 := by rw [List.length_take]; omega
        have hput := put_any p 8 (le7 (b.take k)) (7 * (b.take k).length) base 7 c _ hC hbp (le7_lt _) (by decide) (by decide) (by decide) (by omega)
        rw [le7_put, ← hstep] at hput
        have hlen2 : 7 * (b.take k).length + 7 = 7 * (b.take (k + 1)).length := by rw [hstep, List.length_append (bs := [c])]; rfl
        rw [hlen2] at hput
        have HPUT := Lib.hid hput
        clear hput hlen2 hxl hstep hcc hC
        go_wp2_with (go_at_call 15; refine HPUT.out.mono ?_; rintro e w3 ⟨rfl, hC3, hbel3⟩)
        exact ⟨⟨k + 1, by omega, by go_num, hC3, hbel.trans hbel3⟩, by simp [intOf]; omega⟩
      · have hd : decide (k < b.length) = false := decide_eq_false hkn
        obtain rfl : k = b.length := by omega
        rw [List.take_length] at hC
        obtain ⟨v, hh, hown, hvp⟩ := hC
        have hok : okU b = (decide (7 * b.length % 8 < 7) && decide (colL 8 (le7 b) (7 * b.length) = 0)) := by rw [okU, HWB.out]; rfl
        have hcw : colW 8 (le7 b) (7 * b.length) = unpackOf b := rfl
        have hul : 7 * b.length / 8 = (unpackOf b).length := (unpackOf_length b).symm
        rw [hcw, hul] at hown
        obtain ⟨L, hLL⟩ : ∃ L, L = colL 8 (le7 b) (7 * b.length) := ⟨_, rfl⟩
        obtain ⟨U, hUU⟩ : ∃ U, U = 7 * b.length % 8 := ⟨_, rfl⟩
        rw [← hLL, ← hUU] at hh hok
        have hc1 : wr.cell? ⟨p, 1, none⟩ = some v := by rw [cell_of_heap hh]; rfl
        have hc2 : wr.cell? ⟨p, 2, none⟩ = some (.int .u8 (L : Int)) := by rw [cell_of_heap hh]; rfl
        have hc3 : wr.cell? ⟨p, 3, none⟩ = some (.int .i64 (U : Int)) := by rw [cell_of_heap hh]; rfl
        obtain ⟨a8, c8, rfl⟩ := owns_slice hown
        have HO := Lib.hid (bytesAt_of_owns hown)
        have HOK := Lib.hid hok
        clear hh hown hLL hUU hok hcw hul hvp
        by_cases hU : 7 ≤ U
        · have hdu : decide ((7 : Int) ≤ (U : Int)) = true := decide_eq_true (by omega)
          have HK := Lib.hid (show okU b = false by rw [HOK.out, decide_eq_false (by omega), Bool.false_and])
          clear hU
          go_wp2_with fail
          go_ret2
          exact ⟨.inr ⟨HK.out, rfl⟩, Fr.of_below (HB.out ▸ hbel)⟩
        · have hdu : decide ((7 : Int) ≤ (U : Int)) = false := decide_eq_false (by omega)
          by_cases hL : L = 0
          · have hdl : ((L : Int) != 0) = false := by rw [bne_eq_false_iff_eq]; omega
            have HK := Lib.hid (show okU b = true by rw [HOK.out, decide_eq_true (by omega), decide_eq_true hL]; rfl)
            clear hU hL
            go_wp2_with fail
            go_ret2
            exact ⟨.inl ⟨HK.out, _, rfl, HO.out⟩, Fr.of_below (HB.out ▸ hbel)⟩
          · have hdl : ((L : Int) != 0) = true := by rw [bne_iff_ne]; omega
            have HK := Lib.hid (show okU b = false by rw [HOK.out, decide_eq_false hL, Bool.and_false])
            clear hU hL
            go_wp2_with fail
            go_ret2
            exact ⟨.inr ⟨HK.out, rfl⟩, Fr.of_below (HB.out ▸ hbel)⟩
def Unpack2 (w : World) (bs : List UInt8) (e : Ending) (w' : World) : Prop := (∃ v, e = .returned (.tuple #[v, .bool true]) ∧ bytesAt w' v bs) ∧ Fr [] w w'
theorem unpack_yes (b : List UInt8) (sv : Value) (w : World) (h : bytesAt w sv b) (hl : b.length ≤ 1000000) (hok : okU b = true) :
    Calls Try.prog 8 #[sv] w (Unpack2 w (unpackOf b)) :=
  (unpack_any b sv w h hl).mono fun e w' ⟨h, hf⟩ => by
    rcases h with ⟨_, h⟩ | ⟨h, _⟩
    · exact ⟨h, hf⟩
    · rw [hok] at h; cases h
theorem unpack_no (b : List UInt8) (sv : Value) (w : World) (h : bytesAt w sv b) (hl : b.length ≤ 1000000) (hok : okU b = false) :
    Calls Try.prog 8 #[sv] w fun e w' => e = .returned (.tuple #[.slice none 0 0, .bool false]) ∧ Fr [] w w' :=
  (unpack_any b sv w h hl).mono fun e w' ⟨h, hf⟩ => by
    rcases h with ⟨h, _⟩ | ⟨_, h⟩
    · rw [hok] at h; cases h
    · exact ⟨h, hf⟩
end Go.Proofs.Ytjddagkjgkdbkaa
