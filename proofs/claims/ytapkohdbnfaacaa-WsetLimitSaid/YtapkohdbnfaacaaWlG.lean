/- The program's sets of words (layer 19): cut, behind. -/
import Derived.Test.YtapkohdbnfaacaaWlC
import Derived.Test.YtapkohdbnfaacaaWoCt
import Derived.Test.YtapkohdbnfaacaaCatW
import Derived.Test.YtapkohdbnfaacaaFill
set_option linter.unusedVariables false
set_option linter.unusedSimpArgs false
namespace Go.Proofs.Ytapkohdbnfaacaa
open Go.RowKit Go.Maps Go.Sort

theorem Fr.set_newW {W w : World} {b i : Nat} {v : Value} (h : Fr [] W w) (hb : W.heap.size ≤ b) : Fr [] W (w.setCell ⟨b, i, none⟩ v) := h.trans (Fr.set0 w b i v) (by simp) (fun j hj hlt => by simp at hj; omega)
/-- Put in place b. -/
def FilRel (w : World) (b : Nat) (L : Words) (iv : Value) (wx : World) : Prop := ∃ k : Nat, k ≤ L.length ∧ iv = .int .i64 (k : Int) ∧ fillAt wx b 9 (.string ⟨#[]⟩) (L.map encStr) k ∧ Fr [] w wx
/-- A new list. -/
def NewL (L : Words) (w : World) (e : Ending) (w' : World) : Prop := ∃ b c, e = .returned (.slice (some ⟨b, 0, none⟩) L.length c) ∧ L.length ≤ c ∧ c ≤ maxLen ∧ w.heap.size ≤ b ∧ strsAt w' (.slice (some ⟨b, 0, none⟩) L.length c) L ∧ (∀ i, w'.frozen? ⟨b, i, none⟩ = false) ∧ b < w'.heap.size ∧ Fr [] w w'
set_option maxRecDepth 100000 in
set_option maxHeartbeats 1000000 in
theorem pbehind (x : List UInt8) (l : Words) (v : Value) (w : World) (h : strsAt w v l) (hl : l.length ≤ 2000000000) (hx : ∀ y ∈ l, x.length + y.length ≤ 9223372036854775807) :
    Calls Try.prog 32 #[encStr x, v] w (NewL (l.map fun y => x ++ y) w) := by
  obtain ⟨iS, hiS, hS0, hS1, hS2⟩ := info_parts infoStrW
  obtain ⟨a0, c0, rfl, hc0, hm0⟩ := h.form
  have HE := Lib.hid h
  have HX := Lib.hid hx
  clear h hx
  obtain ⟨L, hL⟩ : ∃ L, L = l.map fun y => x ++ y := ⟨_, rfl⟩
  have hLl : L.length = l.length := by rw [hL, List.length_map]
  rw [← hL]
  have HL := Lib.hid hL
  have HLL := Lib.hid hLl
  obtain ⟨b, hb⟩ : ∃ b, b = w.heap.size := ⟨_, rfl⟩
  have HB := Lib.hid hb
  clear hL hLl hb
  go_enter Try.func32, Try.ntmps32
  go_wp2_with (at_make; refine wpL_make rfl _ _ 22 rfl 9 iS (.string ⟨#[]⟩) 16 Try.underlying22 hiS hS0 hS1 hS2 rfl l.length rfl rfl (by omega) (by simp only [maxLen]; omega) ?_; intro w1 hrow1 hf1 hs1; rw [← HB.out] at hrow1 ⊢)
  have hfill : fillAt w1 b 9 (.string ⟨#[]⟩) (L.map encStr) 0 := fill_zero (by rw [List.length_map]; exact HLL.out.symm) hrow1.out
  have HFI := Lib.hid hfill
  have HF1 := Lib.hid hf1
  clear hfill hrow1 hf1 hs1
  go_loopw [13] (FilRel w b L) (fun iv _ => l.length - (intOf iv).toNat)
  case atStart => exact ⟨0, Nat.zero_le _, rfl, HFI.out, HF1.out⟩
  case round =>
    obtain ⟨k, hk, rfl, hfi, hF⟩ := hrel
    by_cases hkn : k < l.length
    · have hd1 : decide (k < l.length) = true := decide_eq_true hkn
      obtain ⟨b0, off, rfl, hc⟩ := str_cell (HE.out.below hF) k hkn
      have hkL : k < L.length := by have := HLL.out; omega
      have hy := HX.out _ (List.getElem_mem hkn)
      have hz : L[k]'hkL = x ++ l[k]'hkn := by simp only [HL.out, List.getElem_map]
      obtain ⟨y, hye⟩ : ∃ y, y = l[k]'hkn := ⟨_, rfl⟩
      rw [← hye] at hc hy hz
      obtain ⟨XY, hXY⟩ : ∃ X, X = (x ++ y).toArray := ⟨_, rfl⟩
      have hcat := fun wx => cat_w (P := Try.prog) (A := x.toArray) (B := y.toArray) (C := XY) rfl rfl hXY (by rw [List.length_append]; omega) wx
      have f1 := fill_free hfi k
      have c1 := fill_cell hfi (by rw [List.length_map]; exact hkL)
      have hnext := fill_next (v := .string ⟨XY⟩) hfi (by rw [List.length_map]; exact hkL) (by rw [List.getElem_map, hz, hXY])
      have hfn := Fr.set_newW hF (b := b) (i := k) (v := .string ⟨XY⟩) (by have := HB.out; omega)
      have HN := Lib.hid hnext
      have HFN := Lib.hid hfn
      clear hye hy hz hXY hnext hfn hfi hF
      go_wp2_with fail
      exact ⟨⟨k + 1, by omega, by go_num, HN.out, HFN.out⟩, by simp [intOf]; omega⟩
    · have hd1 : decide (k < l.length) = false := decide_eq_false hkn
      have hkL : k = L.length := by have := HLL.out; omega
      have hend := fill_end hfi (by rw [List.length_map]; exact hkL) (by rw [List.length_map, HLL.out]; simp only [maxLen]; omega)
      rw [List.length_map] at hend
      have HN := Lib.hid hend
      have HF := Lib.hid hF
      have HFZ := Lib.hid (fun i => fill_free hfi i)
      have HLT := Lib.hid (fill_lt hfi)
      clear hend hfi hF
      go_wp2_with fail
      go_ret
      refine ⟨b, L.length, by rw [HLL.out]; rfl, Nat.le_refl _, by rw [HLL.out]; simp only [maxLen]; omega, by have := HB.out; omega, HN.out, HFZ.out, HLT.out, HF.out⟩
end Go.Proofs.Ytapkohdbnfaacaa
