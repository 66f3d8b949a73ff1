/- The document's Check (layer 15). -/
import Derived.Test.YtnaamjpiaekmeaaGreatWr
import Derived.Test.YtnaamjpiaekmeaaGreatGr
set_option linter.unusedVariables false
set_option linter.unusedSimpArgs false
namespace Go.Proofs.YtnaamjpiaekmeaaGreat
open Go.RowKit
theorem check_marks {g : GramG} (hv : ValidG g) : checkG g = if false ∈ prodL g then 18 else if false ∈ reachL g then 17 else if false ∈ usedL g then 17 else 0 := by
 rw [check_is hv]
 have : ((-1 : Int) ∈ lensP g) = (false ∈ prodL g) := by
  rw [prodL_is hv, List.mem_map]
  apply propext
  constructor
  ·intro h; exact ⟨-1, h, rfl⟩
  ·rintro ⟨v, h, e⟩
   have : v = -1 := by simpa using e
   rwa [← this]
 simp only [this]
def AllMRel (o : List Bool) (w1 : World) (iv : Value) (wx : World) : Prop := ∃ k : Nat, k ≤ o.length ∧ iv = .int .i64 (k : Int) ∧ (∀ j (_ : j < k) (h : j < o.length), o[j]'h = true) ∧ wx = w1
def AllURel (g : GramG) (w1 : World) (iv : Value) (wx : World) : Prop := ∃ k : Nat, k ≤ g.terms.length ∧ iv = .int .i64 (k : Int) ∧ (∀ j, j < k → UsedG g j) ∧ Fr [] w1 wx
theorem not_false_mem {o : List Bool} (h : ∀ j (h : j < o.length), o[j]'h = true) : ¬ false ∈ o := fun hm => by
 obtain ⟨j, hj, e⟩ := List.getElem_of_mem hm
 rw [h j hj] at e
 cases e
set_option maxRecDepth 100000 in
set_option maxHeartbeats 4000000 in
theorem rcheck_any (g : GramG) (gv : Value) (w : World) (hg : gramAt w gv g) (hz : SizeG g) : Calls Tryz.prog 12 #[gv] w fun e w' => e = .returned (.int .i64 (checkG g)) ∧ Fr [] w w' := by
 obtain ⟨a1, c1, a2, c2, a3, c3, rfl, HF0, HB⟩ := box_gram hg
 obtain ⟨w0, hw0⟩ : ∃ w0, w0 = w.alloc (.cells #[.slice a1 g.names.length c1, .slice a2 g.terms.length c2, .slice a3 g.rules.length c3] 25) := ⟨_, rfl⟩
 obtain ⟨q0, hq0⟩ : ∃ q0, q0 = w.heap.size := ⟨_, rfl⟩
 rw [← hw0] at HF0 HB
 rw [← hq0] at HB
 have HV := Lib.hid (rvalid_any g _ w0 (hg.below HF0.out) hz)
 have HP := Lib.hid (fun wx (hf : Fr [] w wx) (hv : ValidG g) => rprod_any g _ wx (hg.below hf) hv)
 have HR := Lib.hid (fun wx (hf : Fr [] w wx) (hv : ValidG g) => rreach_any g _ wx (hg.below hf) hv)
 have HU := Lib.hid (fun wx rv t (hf : Fr [] w wx) (hv : ValidG g) (hrv : boolsAt wx rv (reachL g)) (ht : t ≤ 256) => rused_any g _ rv t wx (hg.below hf) hv hrv ht)
 have hle2 : g.terms.length ≤ c2 := by obtain ⟨_, _, _, _, _, _, e, -, ⟨-, q, -⟩, -⟩ := hg.parts; simp at e; omega
 have HTS := Lib.hid hz.terms
 obtain ⟨R, hR⟩ : ∃ R, R = checkG g := ⟨_, rfl⟩
 rw [← hR]
 obtain ⟨N, hN⟩ : ∃ n, n = g.names.length := ⟨_, rfl⟩
 obtain ⟨n2, hn2⟩ : ∃ n, n = g.terms.length := ⟨_, rfl⟩
 obtain ⟨n3, hn3⟩ : ∃ n, n = g.rules.length := ⟨_, rfl⟩
 rw [← hN, ← hn2, ← hn3] at HB hw0 HV HP HR HU
 rw [← hn2] at hle2 HTS
 rw [← hN, ← hn2, ← hn3]
 have HW0 := Lib.hid hw0
 have HQ0 := Lib.hid hq0
 have HN2 := Lib.hid hn2
 clear hw0 hq0 hN hn2 hn3 hg hz
 obtain ⟨x0, x1, x2, -⟩ := three_of_heap HB.out
 cases hvb : validB g with
 | false =>
   rw [hvb] at HV
   have HX := Lib.hid (show R = 1 by rw [hR]; unfold checkG; rw [if_pos hvb])
   clear hvb hR
   go_enter Tryz.func12, Tryz.ntmps12
   go_upto_region 1 with fail
   rw [← HW0.out, ← HQ0.out]
   go_wp2_with (go_at_call 30; refine HV.out.mono ?_; rintro e w1 ⟨rfl, hf1⟩)
   go_ret
   exact ⟨by rw [HX.out]; rfl, HF0.out.trans hf1 (by simp) (by simp)⟩
 | true =>
   rw [hvb] at HV
   have HVG := Lib.hid (of_boolOf hvb)
   rw [check_marks (of_boolOf hvb)] at hR
   have HRR := Lib.hid hR
   obtain ⟨P, hP⟩ : ∃ P, P = prodL g := ⟨_, rfl⟩
   obtain ⟨O, hO⟩ : ∃ O, O = reachL g := ⟨_, rfl⟩
   rw [← hP] at HRR HP
   rw [← hO] at HRR HR HU
   have HPL := Lib.hid (show P.length ≤ 256 by rw [hP, prodL_len]; have := (of_boolOf hvb).syms; omega)
   have HOLL := Lib.hid (show O.length ≤ 256 by rw [hO, reachL_len]; have := (of_boolOf hvb).syms; omega)
   have HTL := Lib.hid (show n2 ≤ 256 by rw [HN2.out]; have := (of_boolOf hvb).syms; omega)
   have HUL := Lib.hid (show (∀ t, t < n2 → UsedG g t) → ¬ false ∈ usedL g from fun h q => (marks_mem (p := fun t => UsedG g t)).1 q (by rw [← HN2.out]; exact h))
   have HUF := Lib.hid (show ∀ t, t < n2 → ¬ UsedG g t → false ∈ usedL g from fun t ht h => (marks_mem (p := fun t => UsedG g t)).2 (fun q => h (q t (by rw [← HN2.out]; exact ht))))
   clear hvb hR hP hO
   go_enter Tryz.func12, Tryz.ntmps12
   go_upto_region 1 with fail
   rw [← HW0.out, ← HQ0.out]
   go_wp2_with (first
    | (go_at_call 31; have := w1; refine (HP.out w1 HF1.out HVG.out).mono ?_; rintro e w2 ⟨b, hb, rfl, hrow, hf2⟩)
    | (go_at_call 30; refine HV.out.mono ?_; rintro e w1 ⟨rfl, hf1⟩; have HF1 := Lib.hid (HF0.out.trans hf1 (by simp) (n := []) (by simp)); have HB1 := Lib.hid (hf1.heap HB.out (by simp)); obtain ⟨x0, x1, x2, -⟩ := three_of_heap HB1.out; clear hf1))
   have HROW := Lib.hid hrow
   have HF2 := Lib.hid (HF1.out.trans hf2 (by simp) (n := []) (by simp))
   have HB2 := Lib.hid (hf2.heap HB1.out (by simp))
   obtain ⟨pl, hpl⟩ : ∃ n, n = P.length := ⟨_, rfl⟩
   rw [← hpl]
   have hpl2 : pl ≤ 256 := by rw [hpl]; exact HPL.out
   have HPN := Lib.hid hpl
   clear hrow hf2 hb x0 x1 x2 hpl
   go_loopw [4] (AllMRel P w2) (fun iv _ => pl - (intOf iv).toNat)
   case atStart => exact ⟨0, Nat.zero_le _, rfl, fun j hj => by omega, rfl⟩
   case round =>
    obtain ⟨k, hk, rfl, hall, hwx⟩ := hrel
    rw [hwx]
    have HALL := Lib.hid hall
    clear hall hwx
    by_cases hkn : k < pl
    ·have hd1 : decide (k < pl) = true := decide_eq_true hkn
     have hkp : k < P.length := by have := HPN.out; omega
     have y0 := HROW.out.cell hkp
     obtain ⟨u, hu⟩ : ∃ u, u = P[k]'hkp := ⟨_, rfl⟩
     rw [← hu] at y0
     have HUU := Lib.hid hu
     clear hu
     cases u with
     | true =>
       go_wp2_with fail
       refine ⟨⟨k + 1, by omega, by go_num, fun j hj hjl => ?_, rfl⟩, by simp [intOf]; omega⟩
       by_cases e : j = k
       ·subst e; exact HUU.out.symm
       ·exact HALL.out j (by omega) hjl
     | false =>
       have HX := Lib.hid (show R = 18 by rw [HRR.out, if_pos (by rw [HUU.out]; exact List.getElem_mem _)])
       go_wp2_with fail
       go_ret
       exact ⟨by rw [HX.out]; rfl, HF2.out⟩
    ·have hd1 : decide (k < pl) = false := decide_eq_false hkn
     have HNP := Lib.hid (not_false_mem (o := P) (fun j hj => HALL.out j (by have := HPN.out; omega) hj))
     obtain ⟨x0, x1, x2, -⟩ := three_of_heap HB2.out
     clear hkn
     go_wp2_with (go_at_call 32; have := w2; refine (HR.out w2 HF2.out HVG.out).mono ?_; rintro e w3 ⟨b3, hb3, rfl, hrow3, hf3⟩)
     have HROW3 := Lib.hid hrow3
     have HF3 := Lib.hid (HF2.out.trans hf3 (by simp) (n := []) (by simp))
     have HB3 := Lib.hid (hf3.heap HB2.out (by simp))
     obtain ⟨ol, hol⟩ : ∃ n, n = O.length := ⟨_, rfl⟩
     rw [← hol]
     have hol2 : ol ≤ 256 := by rw [hol]; exact HOLL.out
     have HON := Lib.hid hol
     clear hrow3 hf3 hb3 x0 x1 x2 hol
     go_loopw [6] (AllMRel O w3) (fun iv _ => ol - (intOf iv).toNat)
     case atStart => exact ⟨0, Nat.zero_le _, rfl, fun j hj => by omega, rfl⟩
     case round =>
      obtain ⟨k, hk, rfl, hall, hwx⟩ := hrel
      rw [hwx]
      have HALL3 := Lib.hid hall
      clear hall hwx
      by_cases hkn : k < ol
      ·have hd1 : decide (k < ol) = true := decide_eq_true hkn
       have hkp : k < O.length := by have := HON.out; omega
       have y0 := HROW3.out.cell hkp
       obtain ⟨u, hu⟩ : ∃ u, u = O[k]'hkp := ⟨_, rfl⟩
       rw [← hu] at y0
       have HUU := Lib.hid hu
       clear hu
       cases u with
       | true =>
         go_wp2_with fail
         refine ⟨⟨k + 1, by omega, by go_num, fun j hj hjl => ?_, rfl⟩, by simp [intOf]; omega⟩
         by_cases e : j = k
         ·subst e; exact HUU.out.symm
         ·exact HALL3.out j (by omega) hjl
       | false =>
         have HX := Lib.hid (show R = 17 by rw [HRR.out, if_neg HNP.out, if_pos (by rw [HUU.out]; exact List.getElem_mem _)])
         go_wp2_with fail
         go_ret
         exact ⟨by rw [HX.out]; rfl, HF3.out⟩
      ·have hd1 : decide (k < ol) = false := decide_eq_false hkn
       have HNO := Lib.hid (not_false_mem (o := O) (fun j hj => HALL3.out j (by have := HON.out; omega) hj))
       have hOl : O.length ≤ maxLen := by have := HOLL.out; simp [maxLen]; omega
       have HOB := Lib.hid (show boolsAt w3 (.slice (some ⟨b3, 0, none⟩) ol ol) O from HROW3.out.at hOl ol HON.out)
       clear hkn hOl
       go_wp2_with fail
       go_loopw [7] (AllURel g w3) (fun iv _ => n2 - (intOf iv).toNat)
       case atStart => exact ⟨0, Nat.zero_le _, rfl, fun j hj => by omega, Fr.refl _ _⟩
       case round =>
        obtain ⟨t, ht, rfl, hall, hf⟩ := hrel
        have HALL4 := Lib.hid hall
        have HF := Lib.hid hf
        have ht2 : t ≤ n2 := by have := HN2.out; omega
        have htl2 : n2 ≤ 256 := HTL.out
        obtain ⟨x0, x1, x2, -⟩ := three_of_heap (hf.heap HB3.out (by simp))
        have hcall := HU.out wr _ t (HF3.out.trans hf (by simp) (by simp)) HVG.out (cellsAt.below HOB.out hf) (by have := HTL.out; omega)
        have HC := Lib.hid hcall
        clear hall hf hcall
        by_cases htn : t < n2
        ·have hd1 : decide (t < n2) = true := decide_eq_true htn
         obtain ⟨u, hu⟩ : ∃ u, u = boolOf (UsedG g t) := ⟨_, rfl⟩
         rw [← hu] at HC
         cases u with
         | true =>
           have HUU := Lib.hid (of_boolOf hu.symm)
           clear hu
           go_wp2_with (go_at_call 33; refine HC.out.mono ?_; rintro e w4 ⟨rfl, hf4⟩)
           refine ⟨⟨t + 1, by have := HN2.out; omega, by go_num, fun j hj => ?_, HF.out.trans hf4 (by simp) (by simp)⟩, by simp [intOf]; omega⟩
           by_cases e : j = t
           ·subst e; exact HUU.out
           ·exact HALL4.out j (by omega)
         | false =>
           have HUU := Lib.hid (show ¬ UsedG g t from fun q => by rw [boolOf_true q] at hu; cases hu)
           have HX := Lib.hid (show R = 17 by rw [HRR.out, if_neg HNP.out, if_neg HNO.out, if_pos (HUF.out t htn HUU.out)])
           clear hu
           go_wp2_with (go_at_call 33; refine HC.out.mono ?_; rintro e w4 ⟨rfl, hf4⟩)
           go_ret
           exact ⟨by rw [HX.out]; rfl, HF3.out.trans (HF.out.trans hf4 (by simp) (n := []) (by simp)) (by simp) (by simp)⟩
        ·have hd1 : decide (t < n2) = false := decide_eq_false htn
         have HX := Lib.hid (show R = 0 by rw [HRR.out, if_neg HNP.out, if_neg HNO.out, if_neg (HUL.out (fun j hj => HALL4.out j (by omega)))])
         clear htn
         go_wp2_with fail
         go_ret
         exact ⟨by rw [HX.out]; rfl, HF3.out.trans HF.out (by simp) (by simp)⟩
end Go.Proofs.YtnaamjpiaekmeaaGreat
