/- The program's sets of words (layer 19): cut. -/
import Derived.Test.YtnaamjpiaekmeaaGreatWlG
import Derived.Test.YtnaamjpiaekmeaaGreatSfW
set_option linter.unusedVariables false
set_option linter.unusedSimpArgs false
namespace Go.Proofs.YtnaamjpiaekmeaaGreat
open Go.RowKit Go.Maps Go.Sort Go.Lib
theorem holds_strs {w : World} {b cap : Nat} {l : Words} (hc : strsAt w (.slice (some ⟨b, 0, none⟩) l.length cap) l) (hf : ∀ i, w.frozen? ⟨b, i, none⟩ = false) : Holds encStr w b 0 l.toArray := fun j hj => by
 have hj' : j < l.length := by simpa using hj
 obtain ⟨b', off', e, h1⟩ := str_cell hc j hj'
 cases e
 refine ⟨?_, hf _⟩
 rw [h1, getElem!_pos l.toArray j hj]
 simp
theorem strs_holds {w : World} {b cap m : Nat} {l : Words} {r : Words} (h : Holds encStr w b 0 (l ++ r).toArray) (hm : m = l.length) (hl : l.length ≤ cap) (hc : cap ≤ maxLen) : strsAt w (.slice (some ⟨b, 0, none⟩) m cap) l := by
 subst hm
 refine .inr ⟨b, 0, cap, by simp, by simpa using hl, hc, fun i hi => ?_⟩
 have hi' : i < l.length := by simpa using hi
 have hlr : i < (l ++ r).toArray.size := by simp; omega
 have := (h i hlr).1
 rw [getElem!_pos _ i hlr] at this
 rw [this, List.getElem_map]
 simp [List.getElem_append_left hi']
theorem pcompact (zs : Words) (b cap : Nat) (w : World) (hH : Holds encStr w b 0 zs.toArray) (h1 : zs.length ≤ cap) (h2 : cap ≤ maxLen) :
  Calls Tryz.prog 108 #[.slice (some ⟨b, 0, none⟩) zs.length cap] w fun e w' => e = .returned (.slice (some ⟨b, 0, none⟩) (compact zs).length cap) ∧ strsAt w' (.slice (some ⟨b, 0, none⟩) (compact zs).length cap) (compact zs) ∧ (∀ i, w'.frozen? ⟨b, i, none⟩ = w.frozen? ⟨b, i, none⟩) ∧ Fr [b] w w' := by
 have h2' : cap ≤ 9223372036854775807 := by simpa [maxLen] using h2
 have := Tryz.slices_Compact_string b 0 cap zs w hH (by omega) h1
 refine this.mono ?_
 rintro e w' ⟨rfl, q, rfl⟩
 have hle : (compact zs).length ≤ zs.length := by
  unfold compact compactUpTo
  rw [List.length_map]
  exact Nat.le_trans (List.length_filter_le _ _) (by simp)
 have hh := holds_putRow encStr (Sort.ahead w q) b 0 zs.toArray (compact zs ++ List.replicate (zs.length - (compact zs).length) []).toArray (holds_ahead encStr w q b 0 _ hH) (by simp; omega)
 exact ⟨rfl, strs_holds hh rfl (by omega) h2, fun i => frozen?_putRow _ _ _ _ _ _, fr_putRow encStr w b 0 q _⟩
set_option maxRecDepth 100000 in
set_option maxHeartbeats 1000000 in
theorem pcuts (l : Words) (k : Int) (v : Value) (w : World) (h : strsAt w v l) (hs : setW l) (hl : l.length ≤ 2000000000) :
  Calls Tryz.prog 70 #[v, .int .i64 k] w (NewL (cutsW l k) w) := by
 obtain ⟨iS, hiS, hS0, hS1, hS2⟩ := info_parts infoStrW
 obtain ⟨a0, c0, rfl, hc0, hm0⟩ := h.form
 have HE := Lib.hid h
 obtain ⟨L, hL⟩ : ∃ L, L = l.map fun y => cutW y k := ⟨_, rfl⟩
 have hLl : L.length = l.length := by rw [hL, List.length_map]
 have hcl : (cutsW l k).length ≤ l.length := cutsW_len l k
 have hcc : compact L = cutsW l k := by rw [hL]; exact compact_cut hs k
 obtain ⟨R, hR⟩ : ∃ R, R = cutsW l k := ⟨_, rfl⟩
 rw [← hR] at hcc hcl ⊢
 have HL := Lib.hid hL
 have HLL := Lib.hid hLl
 have HCL := Lib.hid hcl
 have HCC := Lib.hid hcc
 obtain ⟨b, hb⟩ : ∃ b, b = w.heap.size := ⟨_, rfl⟩
 have HB := Lib.hid hb
 clear h hs hL hLl hcl hcc hR hb
 go_enter Tryz.func70, Tryz.ntmps70
 go_wp2_with (at_make; refine wpL_make rfl _ _ 22 rfl 9 iS (.string ⟨#[]⟩) 16 Tryz.underlying22 hiS hS0 hS1 hS2 rfl l.length rfl rfl (by omega) (by simp only [maxLen]; omega) ?_; intro w1 hrow1 hf1 hs1; rw [← HB.out] at hrow1 ⊢)
 have hfill : fillAt w1 b 9 (.string ⟨#[]⟩) (L.map encStr) 0 := fill_zero (by rw [List.length_map]; exact HLL.out.symm) hrow1.out
 have HFI := Lib.hid hfill
 have HF1 := Lib.hid hf1
 clear hfill hrow1 hf1 hs1
 go_loopw [13] (FilRel w b L) (fun iv _ => l.length - (intOf iv).toNat)
 case atStart => exact ⟨0, Nat.zero_le _, rfl, HFI.out, HF1.out⟩
 case round =>
  obtain ⟨q, hq, rfl, hfi, hF⟩ := hrel
  by_cases hkn : q < l.length
  ·have hd1 : decide (q < l.length) = true := decide_eq_true hkn
   obtain ⟨b0, off, rfl, hc⟩ := str_cell (HE.out.below hF) q hkn
   have hkL : q < L.length := by have := HLL.out; omega
   have hz : L[q]'hkL = cutW (l[q]'hkn) k := by simp only [HL.out, List.getElem_map]
   obtain ⟨y, hye⟩ : ∃ y, y = l[q]'hkn := ⟨_, rfl⟩
   rw [← hye] at hc hz
   have HCUT := Lib.hid (fun wx => wcut_any y k wx)
   obtain ⟨z, hze⟩ : ∃ z, z = cutW y k := ⟨_, rfl⟩
   rw [← hze] at HCUT hz
   have f1 := fill_free hfi q
   have c1 := fill_cell hfi (by rw [List.length_map]; exact hkL)
   have hnext := fill_next (v := .string ⟨z.toArray⟩) hfi (by rw [List.length_map]; exact hkL) (by rw [List.getElem_map, hz])
   have hfn := Fr.set_newW hF (b := b) (i := q) (v := .string ⟨z.toArray⟩) (by have := HB.out; omega)
   have HN := Lib.hid hnext
   have HFN := Lib.hid hfn
   clear hye hz hze hnext hfn hfi hF
   go_wp2_with (go_at_call 107; refine (HCUT.out _).mono ?_; rintro e w5 ⟨rfl, rfl⟩)
   exact ⟨⟨q + 1, by omega, by go_num, HN.out, HFN.out⟩, by simp [intOf]; omega⟩
  ·have hd1 : decide (q < l.length) = false := decide_eq_false hkn
   have hkL : q = L.length := by have := HLL.out; omega
   have hmx : L.length ≤ maxLen := by rw [HLL.out]; simp only [maxLen]; omega
   have hend := fill_end hfi (by rw [List.length_map]; exact hkL) (by rw [List.length_map]; exact hmx)
   rw [List.length_map] at hend
   have hfr := fun i => fill_free hfi i
   have hcomp := pcompact L b L.length wr (holds_strs hend hfr) (Nat.le_refl _) hmx
   rw [HCC.out] at hcomp
   have HC := Lib.hid hcomp
   have HF := Lib.hid hF
   have HM := Lib.hid hmx
   have HFZ := Lib.hid hfr
   have HLT := Lib.hid (fill_lt hfi)
   obtain ⟨m, hm⟩ : ∃ m, m = R.length := ⟨_, rfl⟩
   have HMM := Lib.hid hm
   rw [← hm] at HC
   rw [HLL.out] at HC
   clear hend hfi hF hfr hcomp hmx hm
   go_wp2_with (go_at_call 108; refine HC.out.mono ?_; rintro e w5 ⟨rfl, hs5, hz5, hf5⟩)
   go_ret
   refine ⟨b, l.length, by rw [← HMM.out]; rfl, HCL.out, by have := HM.out; rw [HLL.out] at this; exact this, by have := HB.out; omega, by rw [← HMM.out]; exact hs5, fun i => by rw [hz5, HFZ.out], Nat.lt_of_lt_of_le HLT.out hf5.size, HF.out.trans hf5 (by simp) (fun i hi hlt => by simp at hi; have := HB.out; omega)⟩
end Go.Proofs.YtnaamjpiaekmeaaGreat
