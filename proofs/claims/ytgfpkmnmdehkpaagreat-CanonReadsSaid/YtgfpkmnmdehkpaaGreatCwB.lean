/- CanonBack (layer 16), over any program that does what it must. -/
import Derived.Test.YtgfpkmnmdehkpaaGreatCwA
import Derived.Test.YtgfpkmnmdehkpaaGreatMm
import Derived.Test.YtgfpkmnmdehkpaaGreatGrmD
import Derived.Test.YtgfpkmnmdehkpaaGreatDt
set_option linter.unusedVariables false
set_option linter.unusedSimpArgs false
namespace Go.Proofs.YtgfpkmnmdehkpaaGreat
open Go.RowKit

theorem res_ok {ls : List LineD} (h : (resolveG ls).err = 0) : (resolveG ls).g = gramOf ls ∧ ∀ i ∈ itemsOf ls, i.term = false → i.text ∈ ls.map (·.name) := by
  unfold resolveG at h ⊢
  by_cases h1 : boolOf (BoundL ls) = true
  · rw [if_pos h1] at h; simp at h
  rw [if_neg h1] at h ⊢
  by_cases h2 : boolOf ((ls.map (·.name)).Nodup) = false
  · rw [if_pos h2] at h; simp at h
  rw [if_neg h2] at h ⊢
  by_cases h3 : boolOf (UndefL ls) = true
  · rw [if_pos h3] at h; simp at h
  rw [if_neg h3] at h ⊢
  split at h
  · simp at h
  · next h4 =>
    rw [if_neg h4]
    split at h
    · simp at h
    · next h5 =>
      rw [if_neg h5]
      refine ⟨rfl, fun i hi ht => ?_⟩
      rcases Classical.em (i.text ∈ ls.map (·.name)) with q | q
      · exact q
      · exact absurd (boolOf_true ⟨i, hi, ht, q⟩) h3
/-- What is read of a text up to 2000 bytes long, is read of its canonical text. -/
theorem back_read {m : List UInt8} (hm : m.length ≤ 2000) (he : (readO m).err = 0) : ∃ C, readO m = ⟨C, 0, 0⟩ ∧ ValidG C ∧ textO C = textD (linesG C) ∧ (textD (linesG C)).length ≤ 10000 ∧ readO (textD (linesG C)) = ⟨C, 0, 0⟩ ∧ parD (textD (linesG C)) = ⟨linesG C, 0, 0⟩ := by
  unfold readO at he ⊢
  by_cases h1 : (parD m).err ≠ 0
  · rw [if_pos h1] at he; exact absurd he h1
  rw [if_neg h1] at he ⊢
  by_cases h2 : (resolveG (parD m).lines).err ≠ 0
  · rw [if_pos h2] at he; exact absurd he h2
  rw [if_neg h2] at he ⊢
  have h1' : (parD m).err = 0 := by simpa using h1
  have h2' : (resolveG (parD m).lines).err = 0 := by simpa using h2
  obtain ⟨hok, hne, hlen⟩ := par_lines hm h1'
  obtain ⟨hg, hdef⟩ := res_ok h2'
  have hv : ValidG (gramOf (parD m).lines) := by
    rcases res_valid hok hne with ⟨-, h⟩ | ⟨h, -⟩
    · rwa [hg] at h
    · exact absurd h2' h
  have hu : UsedX (gramOf (parD m).lines) := used_gramOf hdef
  have hw : weightG (gramOf (parD m).lines) ≤ 10000 := by
    have := text_weight (ls := (parD m).lines) (fun l hl => (hok l hl).2.1)
    have e : weightG (gramOf (parD m).lines) = (textD (parD m).lines).length := by
      rw [this]
      unfold weightG
      rw [rulesX_gramOf hdef]
      rfl
    omega
  rw [hg]
  obtain ⟨k1, k2, k3, k4⟩ := canon_read hv hu (by omega)
  have hc := canon_valid hv
  refine ⟨canonG (gramOf (parD m).lines), rfl, hc, ?_, ?_, ?_, k1⟩
  · unfold textO
    rw [if_pos (show validB _ = true from boolOf_true hc), canon_twice hv]
  · rw [canon_weight hv]; exact hw
  · rw [k1]
    simp only
    rw [k2]
    simp only
    rw [if_neg (by simp), if_neg (by simp), k4]
set_option maxRecDepth 100000 in
set_option maxHeartbeats 2000000 in
theorem cback_any (hR : ProgCanRead) (hT : ProgCanText) (hI : ProgCanIs) (hP : ProgPar) (hX : ProgTxt) (m : List UInt8) (hm : m.length ≤ maxLen) (w : World) : Calls Tryz.prog 6 #[encStr m] w fun e w' => e = .returned (.bool true) ∧ Fr [] w w' := by
  have HAW := Lib.hid (fun wx => cawake_any hR hT hI wx)
  obtain ⟨n, hn⟩ : ∃ n, n = m.length := ⟨_, rfl⟩
  have hm' : n ≤ 9223372036854775807 := by rw [hn]; simpa [maxLen] using hm
  by_cases hbig : 2000 < n
  · have hd : decide (2000 < (n : Int)) = true := decide_eq_true (by omega)
    rw [show encStr m = .string ⟨m.toArray⟩ from rfl]
    have hsz : (⟨m.toArray⟩ : ByteArray).size = n := by rw [hn]; simp [ByteArray.size]
    have hsz2 : m.toArray.size = n := by rw [hn]; simp
    obtain ⟨T, hTT⟩ : ∃ T, T = m.toArray := ⟨_, rfl⟩
    rw [← hTT] at hsz hsz2 ⊢
    clear hTT hR hT hI hP hX hm hbig hn
    go_enter Tryz.func6, Tryz.ntmps6
    go_wp2_with (go_at_call 9; refine (HAW.out _).mono ?_; rintro e w7 ⟨rfl, hf7⟩)
    go_ret
    exact ⟨rfl, hf7⟩
  · have hlen : m.length ≤ 2000 := by omega
    have hd : decide (2000 < (n : Int)) = false := decide_eq_false (by omega)
    have hrd := fun wx => hR m wx (by omega)
    by_cases he : (readO m).err = 0
    · obtain ⟨C, hro, hv, htx, htl, hr2, hp2⟩ := back_read hlen he
      rw [hro] at hrd
      have ht := fun gv wx h => hT C gv wx h (valid_size hv) (valid_int hv)
      rw [htx] at ht
      have hrd2 := fun wx => hR (textD (linesG C)) wx (by omega)
      rw [hr2] at hrd2
      have hpa := fun wx => hP (textD (linesG C)) wx (by omega)
      rw [hp2] at hpa
      have hxt := fun lv wx hl => hX (linesG C) lv wx hl (by omega)
      have hln : (linesG C).length = C.names.length := by simp [linesG]
      have hsm := fun gv hv wx hg hh => rsame_any C C gv hv wx hg hh
      rw [show sameB C C = true from boolOf_true rfl] at hsm
      obtain ⟨T, hTT⟩ : ∃ T, T = (textD (linesG C)).toArray := ⟨_, rfl⟩
      have hTe : encStr (textD (linesG C)) = .string ⟨T⟩ := by rw [hTT]
      rw [hTe] at hrd2 hpa
      simp only [hTe] at ht hxt
      have HRD := Lib.hid hrd
      have HT := Lib.hid ht
      have HRD2 := Lib.hid hrd2
      have HPA := Lib.hid hpa
      have HXT := Lib.hid hxt
      have HSM := Lib.hid hsm
      have HLN := Lib.hid hln
      obtain ⟨N, hN⟩ : ∃ N, N = C.names.length := ⟨_, rfl⟩
      have HN := Lib.hid hN
      have x3 : ((N : Int) == (N : Int)) = true := by simp
      rw [show encStr m = .string ⟨m.toArray⟩ from rfl]
      rw [show encStr m = .string ⟨m.toArray⟩ from rfl] at HRD
      have hsz : (⟨m.toArray⟩ : ByteArray).size = n := by rw [hn]; simp [ByteArray.size]
      have hsz2 : m.toArray.size = n := by rw [hn]; simp
      obtain ⟨M, hM⟩ : ∃ M, M = m.toArray := ⟨_, rfl⟩
      rw [← hM] at hsz hsz2 HRD ⊢
      clear hM hR hT hI hP hX hm hbig hn hrd ht hrd2 hpa hxt hsm hln hN hTe hTT hro hv htx htl hr2 hp2 he hlen
      go_enter Tryz.func6, Tryz.ntmps6
      go_upto_region 4 with (go_at_call 17; refine (HRD.out _).mono ?_; rintro e w1 ⟨v1, rfl, hg1, hf1⟩; obtain ⟨a1, c1, a2, c2, a3, c3, rfl, -, -, -⟩ := hg1.parts)
      have hb1 := heap_alloc_new w1 (.cells #[.slice a1 C.names.length c1, .slice a2 C.terms.length c2, .slice a3 C.rules.length c3] 25)
      have hf2 := Fr.alloc w1 (.cells #[.slice a1 C.names.length c1, .slice a2 C.terms.length c2, .slice a3 C.rules.length c3] 25)
      obtain ⟨w2, hw2⟩ : ∃ w2, w2 = w1.alloc (.cells #[.slice a1 C.names.length c1, .slice a2 C.terms.length c2, .slice a3 C.rules.length c3] 25) := ⟨_, rfl⟩
      obtain ⟨q1, hq1⟩ : ∃ q1, q1 = w1.heap.size := ⟨_, rfl⟩
      rw [← hw2] at hb1 hf2
      rw [← hq1] at hb1
      rw [← hw2, ← hq1]
      have HB1 := Lib.hid hb1
      have HG2 := Lib.hid (hg1.below hf2)
      have HF2 := Lib.hid (hf1.trans hf2 (by simp) (n := []) (by simp))
      obtain ⟨z0, z1, z2, -⟩ := three_of_heap hb1
      clear hb1 hf2 hw2 hq1 hg1 hf1
      go_upto_region 7 with (go_at_call 14; refine (HT.out _ _ HG2.out).mono ?_; rintro e w3 ⟨rfl, hf3⟩)
      clear z0 z1 z2
      have HF3 := Lib.hid hf3
      clear hf3
      go_upto_region 8 with (go_at_call 17; refine (HRD2.out _).mono ?_; rintro e w4 ⟨v4, rfl, hg4, hf4⟩; obtain ⟨b1, d1, b2, d2, b3, d3, rfl, -, -, -⟩ := hg4.parts)
      have hb5 := heap_alloc_new w4 (.cells #[.slice b1 C.names.length d1, .slice b2 C.terms.length d2, .slice b3 C.rules.length d3] 25)
      have hf5 := Fr.alloc w4 (.cells #[.slice b1 C.names.length d1, .slice b2 C.terms.length d2, .slice b3 C.rules.length d3] 25)
      obtain ⟨w5, hw5⟩ : ∃ w5, w5 = w4.alloc (.cells #[.slice b1 C.names.length d1, .slice b2 C.terms.length d2, .slice b3 C.rules.length d3] 25) := ⟨_, rfl⟩
      obtain ⟨q2, hq2⟩ : ∃ q2, q2 = w4.heap.size := ⟨_, rfl⟩
      rw [← hw5] at hb5 hf5
      rw [← hq2] at hb5
      rw [← hw5, ← hq2]
      have HB5 := Lib.hid hb5
      have HG5 := Lib.hid (hg4.below hf5)
      have HF25 := Lib.hid ((HF3.out.trans hf4 (by simp) (n := []) (by simp)).trans hf5 (by simp) (n := []) (by simp))
      clear hb5 hf5 hw5 hq2 hg4 hf4
      go_upto_region 9 with (go_at_call 21; refine (HPA.out _).mono ?_; rintro e w6 ⟨lv, rfl, hl6, hf6⟩; obtain ⟨fa, ca, rfl, -, -⟩ := hl6.form)
      have HF56 := Lib.hid hf6
      have HF26 := Lib.hid (HF25.out.trans hf6 (by simp) (n := []) (by simp))
      have HL6 := Lib.hid hl6
      clear hf6 hl6
      obtain ⟨z0, z1, z2, -⟩ := three_of_heap (HF26.out.heap HB1.out (by simp))
      obtain ⟨y0, y1, y2, -⟩ := three_of_heap (HF56.out.heap HB5.out (by simp))
      have HSM6 := Lib.hid (HSM.out _ _ w6 (HG2.out.below HF26.out) (HG5.out.below HF56.out))
      rw [HLN.out, ← HN.out] at HL6 ⊢
      rw [← HN.out] at z0 y0 HB1 HB5 HSM6 HG5 HG2
      go_wp2_with (first
        | (go_at_call 9; refine (HAW.out _).mono ?_; rintro e w10 ⟨rfl, hf10⟩)
        | (go_at_call 22; refine (HXT.out _ _ ((HL6.out.below hf7).below hf8)).mono ?_; rintro e w9 ⟨rfl, hf9⟩)
        | (go_at_call 14; refine (HT.out _ _ ((HG5.out.below HF56.out).below hf7)).mono ?_; rintro e w8 ⟨rfl, hf8⟩; obtain ⟨z0, z1, z2, -⟩ := three_of_heap (((HF26.out.trans hf7 (by simp) (n := []) (by simp)).trans hf8 (by simp) (n := []) (by simp)).heap HB1.out (by simp)))
        | (go_at_call 12; refine HSM6.out.mono ?_; rintro e w7 ⟨rfl, hf7⟩; obtain ⟨y0, y1, y2, -⟩ := three_of_heap ((HF56.out.trans hf7 (by simp) (n := []) (by simp)).heap HB5.out (by simp))))
      go_ret
      exact ⟨rfl, (((((HF2.out.trans HF26.out (by simp) (n := []) (by simp)).trans hf7 (by simp) (n := []) (by simp)).trans hf8 (by simp) (n := []) (by simp)).trans hf9 (by simp) (n := []) (by simp))).trans hf10 (by simp) (by simp)⟩
    · have hrr : ∃ R, R = readO m := ⟨_, rfl⟩
      obtain ⟨R, hR2⟩ := hrr
      rw [← hR2] at hrd he
      obtain ⟨g, at_, er⟩ := R
      simp only at he
      have e1 : (er == 0) = false := by rw [beq_eq_false_iff_ne]; exact he
      have HRD := Lib.hid hrd
      rw [show encStr m = .string ⟨m.toArray⟩ from rfl]
      rw [show encStr m = .string ⟨m.toArray⟩ from rfl] at HRD
      have hsz : (⟨m.toArray⟩ : ByteArray).size = n := by rw [hn]; simp [ByteArray.size]
      have hsz2 : m.toArray.size = n := by rw [hn]; simp
      obtain ⟨M, hM⟩ : ∃ M, M = m.toArray := ⟨_, rfl⟩
      rw [← hM] at hsz hsz2 HRD ⊢
      clear hM hR hT hI hP hX hm hbig hn hrd hR2 he hlen
      go_enter Tryz.func6, Tryz.ntmps6
      go_wp2_with (first
        | (go_at_call 9; refine (HAW.out _).mono ?_; rintro e w7 ⟨rfl, hf7⟩)
        | (go_at_call 17; refine (HRD.out _).mono ?_; rintro e w1 ⟨v1, rfl, hg1, hf1⟩; obtain ⟨a1, c1, a2, c2, a3, c3, rfl, -, -, -⟩ := hg1.parts))
      go_ret
      exact ⟨rfl, (hf1.trans (Fr.alloc _ _) (by simp) (n := []) (by simp)).trans hf7 (by simp) (by simp)⟩
end Go.Proofs.YtgfpkmnmdehkpaaGreat
