/- Several texts in one: WrA, WrB, WrC. -/
import Derived.LoopTactic
import Derived.BigQuiet
import Derived.WalkMore
import Derived.Deep.DeepCutAuto
import Derived.Laws.EntriesVeiled
import Derived.Test.YtnaamjpiaekmeaaGreatMm
import Derived.Test.YtnaamjpiaekmeaaGreatTb
import Derived.Test.YtnaamjpiaekmeaaGreatGa
import Derived.Test.YtnaamjpiaekmeaaGreatBs
set_option linter.unusedVariables false
set_option linter.unusedSimpArgs false
namespace Go.Proofs.YtnaamjpiaekmeaaGreat
open Go.RowKit
def RMarks (l : List Bool) (w : World) (e : Ending) (w' : World) : Prop := ∃ b, w.heap.size ≤ b ∧ e = .returned (.slice (some ⟨b, 0, none⟩) l.length l.length) ∧ boolRow w' b l ∧ Fr [] w w'
def Pr1Rel (g : GramG) (b N : Nat) (w1 : World) (iv : Value) (wx : World) : Prop := ∃ (k : Nat) (o : List Bool), k ≤ N + 1 ∧ iv = .int .i64 (k : Int) ∧ boolRow wx b o ∧ o.length = N ∧ o = iterL (prodR g) k (List.replicate N false) ∧ Fr [b] w1 wx
def Pr2Rel (g : GramG) (b N : Nat) (o0 : List Bool) (w1 : World) (iv : Value) (wx : World) : Prop := ∃ (k : Nat) (o : List Bool), k ≤ g.rules.length ∧ iv = .int .i64 (k : Int) ∧ boolRow wx b o ∧ o.length = N ∧ prodR g o0 = (g.rules.drop k).foldl prodS o ∧ Fr [b] w1 wx
def Pr3Rel (right : List Int) (o : List Bool) (w1 : World) (av iv : Value) (wx : World) : Prop := ∃ (k : Nat) (m : Bool), k ≤ right.length ∧ av = .bool m ∧ iv = .int .i64 (k : Int) ∧ (m = true ↔ ∀ j (_ : j < k) (h : j < right.length), 0 ≤ right[j]'h → marked o (right[j]'h).toNat) ∧ wx = w1
set_option maxRecDepth 100000 in
set_option maxHeartbeats 4000000 in
theorem rprod_any (g : GramG) (gv : Value) (w : World) (hg : gramAt w gv g) (hv : ValidG g) : Calls Tryz.prog 31 #[gv] w (RMarks (prodL g) w) := by
 obtain ⟨iB, hiB, hz0, hz1, hz2⟩ := info_parts infoBool
 obtain ⟨a1, c1, a2, c2, a3, c3, rfl, ⟨-, q1, p1⟩, ⟨-, q2, p2⟩, ⟨h3, q3, p3⟩⟩ := hg.parts
 have hb := heap_alloc_new w (.cells #[.slice a1 g.names.length c1, .slice a2 g.terms.length c2, .slice a3 g.rules.length c3] 25)
 have hf0 := Fr.alloc w (.cells #[.slice a1 g.names.length c1, .slice a2 g.terms.length c2, .slice a3 g.rules.length c3] 25)
 obtain ⟨w0, hw0⟩ : ∃ w1, w1 = w.alloc (.cells #[.slice a1 g.names.length c1, .slice a2 g.terms.length c2, .slice a3 g.rules.length c3] 25) := ⟨_, rfl⟩
 have hs0 : w0.heap.size = w.heap.size + 1 := by rw [hw0, World.size_alloc]
 obtain ⟨q0, hq0⟩ : ∃ q0, q0 = w.heap.size := ⟨_, rfl⟩
 rw [← hw0] at hb hf0
 rw [← hq0] at hb
 have hsm : g.names.length ≤ 256 := by have := hv.syms; omega
 have hrs : g.rules.length ≤ 4096 := hv.few
 have HVR := Lib.hid hv.rules
 have HPR := Lib.hid (prod_rounds hv (g.names.length + 1) (by omega))
 have HPL := Lib.hid (prodL_len g)
 unfold RMarks
 rw [HPL.out]
 obtain ⟨N, hN⟩ : ∃ n, n = g.names.length := ⟨_, rfl⟩
 obtain ⟨n2, hn2⟩ : ∃ n, n = g.terms.length := ⟨_, rfl⟩
 obtain ⟨n3, hn3⟩ : ∃ n, n = g.rules.length := ⟨_, rfl⟩
 rw [← hN, ← hn2, ← hn3] at hb hw0
 rw [← hN] at hsm q1 HPR HVR ⊢
 rw [← hn3] at hrs q3 h3
 rw [← hn2, ← hn3]
 have HB := Lib.hid hb
 have HF0 := Lib.hid hf0
 have HW0 := Lib.hid hw0
 have HQ0 := Lib.hid hq0
 have HS0 := Lib.hid hs0
 have H3 := Lib.hid h3
 have HN3 := Lib.hid hn3
 obtain ⟨x0, x1, x2, -⟩ := three_of_heap HB.out
 clear hb hf0 hw0 hq0 hs0 h3 hg hv hN hn2 hn3 q2 p2
 go_enter Tryz.func31, Tryz.ntmps31
 go_upto_region 1 with fail
 rw [← HW0.out, ← HQ0.out]
 go_upto_region 2 with (refine wpL_make rfl _ _ 50 rfl 4 iB (.bool false) 1 Tryz.underlying50 hiB hz0 hz1 hz2 rfl N rfl rfl (by omega) (by simp [maxLen]; omega) ?_; intro w1 hh1 hf1 hs1)
 obtain ⟨b, hbb⟩ : ∃ b, b = w0.heap.size := ⟨_, rfl⟩
 have HQB := Lib.hid (show q0 ∉ [b] by have := HS0.out; have := HQ0.out; simp; omega)
 have HWB := Lib.hid (show w.heap.size ≤ b by have := HS0.out; omega)
 rw [← hbb] at hh1
 rw [← hbb]
 have HROW := Lib.hid (show boolRow w1 b (List.replicate N false) by unfold boolRow; rw [List.map_replicate]; exact hh1.out)
 have HB1 := Lib.hid (hf1.heap HB.out (by simp))
 have HF1 := Lib.hid (HF0.out.trans hf1 (by simp) (n := []) (by simp))
 have HW := Lib.hid (show ∀ wx, Fr [b] w1 wx → Fr [] w wx from fun wx hfx => HF1.out.trans hfx (by simp) (fun i hi hlt => by have := HWB.out; simp at hi; omega))
 clear hh1 hf1 hs1 hbb x0 x1 x2
 go_wp2_with fail
 go_loopw [4] (Pr1Rel g b N w1) (fun iv _ => N + 1 - (intOf iv).toNat)
 case atStart => exact ⟨0, _, Nat.zero_le _, rfl, HROW.out, by simp, rfl, Fr.refl _ _⟩
 case round =>
  obtain ⟨k, o, hk, rfl, hro, hol, hit, hf⟩ := hrel
  have HF := Lib.hid hf
  have HRO := Lib.hid hro
  have HOL := Lib.hid hol
  have HIT := Lib.hid hit
  obtain ⟨x0, x1, x2, -⟩ := three_of_heap (hf.heap HB1.out HQB.out)
  clear hf hro hol hit
  by_cases hkn : k ≤ N
  ·have hd1 : decide (k ≤ N) = true := decide_eq_true hkn
   go_wp2_with fail
   clear x0 x1 x2
   obtain ⟨wo, hwo⟩ : ∃ wo, wo = wr := ⟨_, rfl⟩
   rw [← hwo] at HF HRO ⊢
   clear hwo
   go_loopw [5] (Pr2Rel g b N o w1) (fun iv _ => n3 - (intOf iv).toNat)
   case atStart => exact ⟨0, o, Nat.zero_le _, rfl, HRO.out, HOL.out, rfl, HF.out⟩
   case round =>
    clear HF HRO HOL
    obtain ⟨i, oi, hi, rfl, hroi, holi, hfo, hfi⟩ := hrel
    have hi3 : i ≤ n3 := by have := HN3.out; omega
    have HF := Lib.hid hfi
    have HRO := Lib.hid hroi
    have HOL := Lib.hid holi
    have HFO := Lib.hid hfo
    obtain ⟨x0, x1, x2, -⟩ := three_of_heap (hfi.heap HB1.out HQB.out)
    by_cases hin : i < n3
    ·have hd2 : decide (i < n3) = true := decide_eq_true hin
     have hir : i < g.rules.length := by have := HN3.out; omega
     obtain ⟨b1, o1, v1, rfl, z0, z1, hv1⟩ := rule_cells (H3.out.below (HW.out _ hfi)) i hir
     have HVM := Lib.hid (HVR.out _ (List.getElem_mem hir))
     have HDR := Lib.hid (List.drop_eq_getElem_cons hir)
     obtain ⟨r, hr⟩ : ∃ r, r = g.rules[i]'hir := ⟨_, rfl⟩
     rw [← hr] at z0 hv1 HVM HDR
     obtain ⟨lf, rg⟩ := r
     simp only at z0 hv1 HVM
     obtain ⟨li, hli⟩ : ∃ li : Nat, lf = (li : Int) := ⟨lf.toNat, by have := HVM.out.1; omega⟩
     subst hli
     have hlN : li < N := by have := HVM.out.2.1; omega
     have hlo : li < oi.length := by have := HOL.out; omega
     obtain ⟨a4, c4, rfl, hle4, hmx4⟩ := hv1.form
     have hrl : rg.length ≤ 64 := HVM.out.2.2.1
     have HV1 := Lib.hid hv1
     have HZ0 := Lib.hid z0
     have HZ1 := Lib.hid z1
     obtain ⟨rn, hrn⟩ : ∃ n, n = rg.length := ⟨_, rfl⟩
     rw [← hrn] at HZ1 z1 hle4 hrl
     have HRN := Lib.hid hrn
     clear hfi hroi holi hfo hr hv1 hmx4 hrn z0
     go_wp2_with fail
     clear x0 x1 x2 z1
     obtain ⟨wi, hwi⟩ : ∃ wi, wi = wr := ⟨_, rfl⟩
     rw [← hwi] at HF HRO HV1 HZ0 HZ1 ⊢
     clear hwi
     go_loopw [6, 7] (Pr3Rel rg oi wi) (fun _ iv _ => rn - (intOf iv).toNat)
     case atStart => exact ⟨0, true, Nat.zero_le _, rfl, rfl, ⟨fun _ j hj => by omega, fun _ => rfl⟩, rfl⟩
     case round =>
      obtain ⟨j, m, hj, rfl, rfl, hall, hwx⟩ := hrel
      rw [hwx]
      have hj3 : j ≤ rn := by have := HRN.out; omega
      have HALL := Lib.hid hall
      have z0 := HZ0.out
      have z1 := HZ1.out
      obtain ⟨x0, x1, x2, -⟩ := three_of_heap (HF.out.heap HB1.out HQB.out)
      clear hall hwx
      by_cases hjn : j < rn
      ·have hd3 : decide (j < rn) = true := decide_eq_true hjn
       have hjr : j < rg.length := by have := HRN.out; omega
       have hv2 := HV1.out
       rw [← HRN.out] at hv2
       obtain ⟨b2, o2, rfl, y0⟩ := int_cell hv2 j hjr
       have hm := HVM.out.2.2.2 _ (List.getElem_mem hjr)
       obtain ⟨x, hx⟩ : ∃ x, x = rg[j]'hjr := ⟨_, rfl⟩
       rw [← hx] at y0 hm
       have HX := Lib.hid hx
       have hstep : ∀ m', (m' = true ↔ (m = true ∧ (0 ≤ x → marked oi x.toNat))) → Pr3Rel rg oi wi (.bool m') (.int .i64 ((j + 1 : Nat) : Int)) wi := fun m' hm' => by
        refine ⟨j + 1, m', by omega, rfl, rfl, ?_, rfl⟩
        rw [hm', HALL.out]
        constructor
        ·rintro ⟨h1, h2⟩ u hu hul h0
         by_cases e : u = j
         ·subst e; rw [← HX.out] at h0 ⊢; exact h2 h0
         ·exact h1 u (by omega) hul h0
        ·intro h1
         exact ⟨fun u hu hul h0 => h1 u (by omega) hul h0, fun h0 => by have := h1 j (by omega) hjr (by rw [← HX.out]; exact h0); rwa [← HX.out] at this⟩
       have HSTEP := Lib.hid hstep
       clear hx hstep hv2
       by_cases h0 : 0 ≤ x
       ·have hd4 : decide (0 ≤ x) = true := decide_eq_true h0
        obtain ⟨xi, rfl⟩ : ∃ xi : Nat, x = (xi : Int) := ⟨x.toNat, by omega⟩
        have hxN : xi < N := by omega
        have hxo : xi < oi.length := by have := HOL.out; omega
        have y1 := HRO.out.cell hxo
        obtain ⟨u, hu⟩ : ∃ u, u = oi[xi]'hxo := ⟨_, rfl⟩
        rw [← hu] at y1
        have HU := Lib.hid (show marked oi ((xi : Int)).toNat ↔ u = true by unfold marked; rw [Int.toNat_natCast, List.getElem?_eq_getElem hxo, ← hu]; simp)
        clear hu h0 hm
        cases u with
        | true =>
          go_wp2_with fail
          refine ⟨?_, by simp [intOf]; omega⟩
          exact HSTEP.out m ⟨fun h => ⟨h, fun _ => HU.out.2 rfl⟩, fun h => h.1⟩
        | false =>
          go_wp2_with fail
          refine ⟨?_, by simp [intOf]; omega⟩
          exact HSTEP.out false ⟨fun h => (by cases h), fun h => by have := HU.out.1 (h.2 (by omega)); cases this⟩
       ·have hd4 : decide (0 ≤ x) = false := decide_eq_false h0
        have HNEG := Lib.hid h0
        clear h0 hm
        go_wp2_with fail
        refine ⟨?_, by simp [intOf]; omega⟩
        exact HSTEP.out m ⟨fun h => ⟨h, fun q => (HNEG.out q).elim⟩, fun h => h.1⟩
      ·have hd3 : decide (j < rn) = false := decide_eq_false hjn
       have HAM := Lib.hid (show m = true ↔ allM oi rg by
        rw [HALL.out]
        constructor
        ·intro h s hs h0
         obtain ⟨u, hu, rfl⟩ := List.getElem_of_mem hs
         exact h u (by have := HRN.out; omega) hu h0
        ·exact fun h u hu hul h0 => h _ (List.getElem_mem hul) h0)
       clear hjn
       have hlN2 : ((li : Int)).toNat = li := Int.toNat_natCast li
       have HLN := Lib.hid hlN2
       clear hlN2
       cases m with
       | true =>
         have HS := Lib.hid (show prodS oi ⟨(li : Int), rg⟩ = oi.set li true by unfold prodS; rw [if_pos (HAM.out.1 rfl), HLN.out])
         have y1 := HRO.out.cell hlo
         have y2 := HRO.out.free li
         go_wp2_with fail
         refine ⟨⟨i + 1, oi.set li true, by omega, by go_num, HRO.out.set _ _, by rw [List.length_set]; exact HOL.out, ?_, HF.out.trans (Fr.set0 _ _ _ _) (fun i hi _ => hi) (by simp)⟩, by simp [intOf]; omega⟩
         rw [HFO.out, HDR.out, List.foldl_cons, HS.out]
       | false =>
         have HS := Lib.hid (show prodS oi ⟨(li : Int), rg⟩ = oi by unfold prodS; rw [if_neg (fun q => by have := HAM.out.2 q; cases this)])
         go_wp2_with fail
         refine ⟨⟨i + 1, oi, by omega, by go_num, HRO.out, HOL.out, ?_, HF.out⟩, by simp [intOf]; omega⟩
         rw [HFO.out, HDR.out, List.foldl_cons, HS.out]
    ·have hd2 : decide (i < n3) = false := decide_eq_false hin
     have HE := Lib.hid (show prodR g o = oi by rw [hfo, List.drop_eq_nil_of_le (by have := HN3.out; omega), List.foldl_nil])
     clear hfi hroi holi hfo hin
     go_wp2_with fail
     refine ⟨⟨k + 1, oi, by omega, by go_num, HRO.out, HOL.out, by rw [iterL, ← HIT.out, HE.out], HF.out⟩, by simp [intOf]; omega⟩
  ·have hd1 : decide (k ≤ N) = false := decide_eq_false hkn
   have HE := Lib.hid (show k = N + 1 by omega)
   clear hkn
   go_wp2_with fail
   go_ret
   refine ⟨b, HWB.out, rfl, ?_, HW.out _ HF.out⟩
   have := HIT.out
   rw [HE.out, HPR.out] at this
   rw [← this]
   exact HRO.out
end Go.Proofs.YtnaamjpiaekmeaaGreat
namespace Go.Proofs.YtnaamjpiaekmeaaGreat
open Go.RowKit
noncomputable def ruleM (o : List Bool) (r : RuleG) : List Bool := (r.right.map fun s => (r.left, s)).foldl reachS o
theorem reachR_rules (g : GramG) (o : List Bool) : reachR g o = g.rules.foldl ruleM o := by
 unfold reachR pairsG
 rw [List.foldl_flatMap]
 rfl
def Rr1Rel (g : GramG) (b N : Nat) (w1 : World) (iv : Value) (wx : World) : Prop := ∃ (k : Nat) (o : List Bool), k ≤ N + 1 ∧ iv = .int .i64 (k : Int) ∧ boolRow wx b o ∧ o.length = N ∧ o = iterL (reachR g) k (firstM N) ∧ Fr [b] w1 wx
def Rr2Rel (g : GramG) (b N : Nat) (o0 : List Bool) (w1 : World) (iv : Value) (wx : World) : Prop := ∃ (k : Nat) (o : List Bool), k ≤ g.rules.length ∧ iv = .int .i64 (k : Int) ∧ boolRow wx b o ∧ o.length = N ∧ reachR g o0 = (g.rules.drop k).foldl ruleM o ∧ Fr [b] w1 wx
def Rr3Rel (lf : Int) (right : List Int) (o0 : List Bool) (b N : Nat) (w1 : World) (iv : Value) (wx : World) : Prop := ∃ (k : Nat) (o : List Bool), k ≤ right.length ∧ iv = .int .i64 (k : Int) ∧ boolRow wx b o ∧ o.length = N ∧ ruleM o0 ⟨lf, right⟩ = ((right.drop k).map fun s => (lf, s)).foldl reachS o ∧ Fr [b] w1 wx
set_option maxRecDepth 100000 in
set_option maxHeartbeats 4000000 in
theorem rreach_any (g : GramG) (gv : Value) (w : World) (hg : gramAt w gv g) (hv : ValidG g) : Calls Tryz.prog 32 #[gv] w (RMarks (reachL g) w) := by
 obtain ⟨iB, hiB, hz0, hz1, hz2⟩ := info_parts infoBool
 obtain ⟨a1, c1, a2, c2, a3, c3, rfl, ⟨-, q1, p1⟩, ⟨-, q2, p2⟩, ⟨h3, q3, p3⟩⟩ := hg.parts
 have hb := heap_alloc_new w (.cells #[.slice a1 g.names.length c1, .slice a2 g.terms.length c2, .slice a3 g.rules.length c3] 25)
 have hf0 := Fr.alloc w (.cells #[.slice a1 g.names.length c1, .slice a2 g.terms.length c2, .slice a3 g.rules.length c3] 25)
 obtain ⟨w0, hw0⟩ : ∃ w1, w1 = w.alloc (.cells #[.slice a1 g.names.length c1, .slice a2 g.terms.length c2, .slice a3 g.rules.length c3] 25) := ⟨_, rfl⟩
 have hs0 : w0.heap.size = w.heap.size + 1 := by rw [hw0, World.size_alloc]
 obtain ⟨q0, hq0⟩ : ∃ q0, q0 = w.heap.size := ⟨_, rfl⟩
 rw [← hw0] at hb hf0
 rw [← hq0] at hb
 have hone : 1 ≤ g.names.length := hv.one
 have hsm : g.names.length ≤ 256 := by have := hv.syms; omega
 have hrs : g.rules.length ≤ 4096 := hv.few
 have HVR := Lib.hid hv.rules
 have HPR := Lib.hid (reach_rounds hv (g.names.length + 1) (by omega))
 have HPL := Lib.hid (reachL_len g)
 unfold RMarks
 rw [HPL.out]
 obtain ⟨N, hN⟩ : ∃ n, n = g.names.length := ⟨_, rfl⟩
 obtain ⟨n2, hn2⟩ : ∃ n, n = g.terms.length := ⟨_, rfl⟩
 obtain ⟨n3, hn3⟩ : ∃ n, n = g.rules.length := ⟨_, rfl⟩
 rw [← hN, ← hn2, ← hn3] at hb hw0
 rw [← hN] at hsm hone q1 HPR HVR ⊢
 rw [← hn3] at hrs q3 h3
 rw [← hn2, ← hn3]
 have HB := Lib.hid hb
 have HF0 := Lib.hid hf0
 have HW0 := Lib.hid hw0
 have HQ0 := Lib.hid hq0
 have HS0 := Lib.hid hs0
 have H3 := Lib.hid h3
 have HN3 := Lib.hid hn3
 obtain ⟨x0, x1, x2, -⟩ := three_of_heap HB.out
 clear hb hf0 hw0 hq0 hs0 h3 hg hv hN hn2 hn3 q2 p2
 go_enter Tryz.func32, Tryz.ntmps32
 go_upto_region 1 with fail
 rw [← HW0.out, ← HQ0.out]
 go_upto_region 2 with (refine wpL_make rfl _ _ 50 rfl 4 iB (.bool false) 1 Tryz.underlying50 hiB hz0 hz1 hz2 rfl N rfl rfl (by omega) (by simp [maxLen]; omega) ?_; intro w1 hh1 hf1 hs1)
 obtain ⟨b, hbb⟩ : ∃ b, b = w0.heap.size := ⟨_, rfl⟩
 have HQB := Lib.hid (show q0 ∉ [b] by have := HS0.out; have := HQ0.out; simp; omega)
 have HWB := Lib.hid (show w.heap.size ≤ b by have := HS0.out; omega)
 rw [← hbb] at hh1
 rw [← hbb]
 have hrow0 : boolRow w1 b (List.replicate N false) := by unfold boolRow; rw [List.map_replicate]; exact hh1.out
 have hfx := Fr.set0 w1 b 0 (.bool true)
 have hb1 := hf1.heap HB.out (by simp)
 have hf1w := HF0.out.trans hf1 (by simp) (n := []) (by simp)
 have hb2 := hfx.heap hb1 (by have := HQB.out; simpa using this)
 have hf2w := hf1w.trans hfx (by simp) (n := []) (fun i hi hlt => by have := HWB.out; simp at hi; omega)
 have hr1 := hrow0.set 0 true
 have c01 := hrow0.cell (i := 0) (by rw [List.length_replicate]; omega)
 have f01 := hrow0.free 0
 have hb1' := hb1
 clear hh1 hf1 hs1 hbb x0 x1 x2 hb1 hf1w
 go_upto_region 4 with fail
 obtain ⟨w2, hw2⟩ : ∃ w2, w2 = w1.setCell ⟨b, 0, none⟩ (.bool true) := ⟨_, rfl⟩
 rw [← hw2] at hfx hb2 hf2w hr1 ⊢
 have HROW := Lib.hid (show boolRow w2 b (firstM N) from hr1)
 have HB1 := Lib.hid hb2
 have HF1 := Lib.hid hf2w
 have HW := Lib.hid (show ∀ wx, Fr [b] w2 wx → Fr [] w wx from fun wx hfx => HF1.out.trans hfx (by simp) (fun i hi hlt => by have := HWB.out; simp at hi; omega))
 clear hrow0 hfx hb2 hf2w hr1 c01 f01 hb1' hw2
 try go_wp2_with fail
 go_loopw [4] (Rr1Rel g b N w2) (fun iv _ => N + 1 - (intOf iv).toNat)
 case atStart => exact ⟨0, _, Nat.zero_le _, rfl, HROW.out, first_len N, rfl, Fr.refl _ _⟩
 case round =>
  obtain ⟨k, o, hk, rfl, hro, hol, hit, hf⟩ := hrel
  have HF := Lib.hid hf
  have HRO := Lib.hid hro
  have HOL := Lib.hid hol
  have HIT := Lib.hid hit
  obtain ⟨x0, x1, x2, -⟩ := three_of_heap (hf.heap HB1.out HQB.out)
  clear hf hro hol hit
  by_cases hkn : k ≤ N
  ·have hd1 : decide (k ≤ N) = true := decide_eq_true hkn
   go_wp2_with fail
   clear x0 x1 x2
   obtain ⟨wo, hwo⟩ : ∃ wo, wo = wr := ⟨_, rfl⟩
   rw [← hwo] at HF HRO ⊢
   clear hwo
   go_loopw [5] (Rr2Rel g b N o w2) (fun iv _ => n3 - (intOf iv).toNat)
   case atStart => exact ⟨0, o, Nat.zero_le _, rfl, HRO.out, HOL.out, reachR_rules g o, HF.out⟩
   case round =>
    clear HF HRO HOL
    obtain ⟨i, oi, hi, rfl, hroi, holi, hfo, hfi⟩ := hrel
    have hi3 : i ≤ n3 := by have := HN3.out; omega
    have HF := Lib.hid hfi
    have HRO := Lib.hid hroi
    have HOL := Lib.hid holi
    have HFO := Lib.hid (show reachR g o = (g.rules.drop i).foldl ruleM oi from hfo)
    obtain ⟨x0, x1, x2, -⟩ := three_of_heap (hfi.heap HB1.out HQB.out)
    by_cases hin : i < n3
    ·have hd2 : decide (i < n3) = true := decide_eq_true hin
     have hir : i < g.rules.length := by have := HN3.out; omega
     obtain ⟨b1, o1, v1, rfl, z0, z1, hv1⟩ := rule_cells (H3.out.below (HW.out _ hfi)) i hir
     have HVM := Lib.hid (HVR.out _ (List.getElem_mem hir))
     have HDR := Lib.hid (List.drop_eq_getElem_cons hir)
     obtain ⟨r, hr⟩ : ∃ r, r = g.rules[i]'hir := ⟨_, rfl⟩
     rw [← hr] at z0 hv1 HVM HDR
     have HRR := Lib.hid hr
     obtain ⟨lf, rg⟩ := r
     simp only at z0 hv1 HVM
     obtain ⟨li, hli⟩ : ∃ li : Nat, lf = (li : Int) := ⟨lf.toNat, by have := HVM.out.1; omega⟩
     subst hli
     have hlN : li < N := by have := HVM.out.2.1; omega
     have hlo : li < oi.length := by have := HOL.out; omega
     obtain ⟨a4, c4, rfl, hle4, hmx4⟩ := hv1.form
     have hrl : rg.length ≤ 64 := HVM.out.2.2.1
     have HV1 := Lib.hid hv1
     have HZ0 := Lib.hid z0
     have HZ1 := Lib.hid z1
     obtain ⟨rn, hrn⟩ : ∃ n, n = rg.length := ⟨_, rfl⟩
     rw [← hrn] at HZ1 z1 hle4 hrl
     have HRN := Lib.hid hrn
     clear hfi hroi holi hfo hr hv1 hmx4 hrn z0
     go_wp2_with fail
     clear x0 x1 x2 z1
     obtain ⟨wi, hwi⟩ : ∃ wi, wi = wr := ⟨_, rfl⟩
     rw [← hwi] at HF HRO HV1 HZ0 HZ1 ⊢
     clear hwi
     go_loopw [6] (Rr3Rel (li : Int) rg oi b N w2) (fun iv _ => rn - (intOf iv).toNat)
     case atStart => exact ⟨0, oi, Nat.zero_le _, rfl, HRO.out, HOL.out, rfl, HF.out⟩
     case round =>
      clear HRO HOL HF
      obtain ⟨j, oj, hj, rfl, hroj, holj, hrm, hfj⟩ := hrel
      have hj3 : j ≤ rn := by have := HRN.out; omega
      have HF := Lib.hid hfj
      have HRO := Lib.hid hroj
      have HOL := Lib.hid holj
      have HRM := Lib.hid hrm
      obtain ⟨b1', o1', v1', e1', z0, z1, hv2⟩ := rule_cells (H3.out.below (HW.out _ hfj)) i hir
      rw [← HRR.out] at z0 hv2
      simp only at z0 hv2
      have e2 := HZ1.out
      injection e1' with e1'
      injection e1' with eb eo
      subst eb eo
      obtain ⟨x0, x1, x2, -⟩ := three_of_heap (hfj.heap HB1.out HQB.out)
      obtain ⟨a5, c5, rfl, hle5, hmx5⟩ := hv2.form
      have hlo : li < oj.length := by have := HOL.out; omega
      have HV2 := Lib.hid hv2
      rw [← HRN.out] at z1
      clear hfj hroj holj hrm e2 hv2
      by_cases hjn : j < rn
      ·have hd3 : decide (j < rn) = true := decide_eq_true hjn
       have hjr : j < rg.length := by have := HRN.out; omega
       have HDJ := Lib.hid (List.drop_eq_getElem_cons hjr)
       have hv3 := HV2.out
       obtain ⟨b2, o2, rfl, y0⟩ := int_cell hv3 j hjr
       have hm := HVM.out.2.2.2 _ (List.getElem_mem hjr)
       obtain ⟨x, hx⟩ : ∃ x, x = rg[j]'hjr := ⟨_, rfl⟩
       rw [← hx] at y0 hm
       have HX := Lib.hid hx
       have hstep : ∀ o' wx, boolRow wx b o' → o'.length = N → reachS oj ((li : Int), x) = o' → Fr [b] w2 wx → Rr3Rel (li : Int) rg oi b N w2 (.int .i64 ((j + 1 : Nat) : Int)) wx := fun o' wx h1 h2 h3 h4 =>
        ⟨j + 1, o', by omega, rfl, h1, h2, by rw [HRM.out, HDJ.out, List.map_cons, List.foldl_cons, ← HX.out, h3], h4⟩
       have HSTEP := Lib.hid hstep
       rw [HRN.out] at hle4
       clear hx hstep hv3
       by_cases h0 : 0 ≤ x
       ·have hd4 : decide (0 ≤ x) = true := decide_eq_true h0
        obtain ⟨xi, rfl⟩ : ∃ xi : Nat, x = (xi : Int) := ⟨x.toNat, by omega⟩
        have hxN : xi < N := by omega
        have hxo : xi < oj.length := by have := HOL.out; omega
        have y1 := HRO.out.cell hlo
        have y2 := HRO.out.cell hxo
        have y3 := HRO.out.free xi
        obtain ⟨u, hu⟩ : ∃ u, u = oj[li]'hlo := ⟨_, rfl⟩
        rw [← hu] at y1
        have HU := Lib.hid (show marked oj ((li : Int)).toNat ↔ u = true by unfold marked; rw [Int.toNat_natCast, List.getElem?_eq_getElem hlo, ← hu]; simp)
        have HXI := Lib.hid (Int.toNat_natCast xi)
        clear hu h0 hm
        cases u with
        | true =>
          have HS := Lib.hid (show reachS oj ((li : Int), (xi : Int)) = oj.set xi true by unfold reachS; rw [if_pos ⟨by simp only; omega, HU.out.2 rfl⟩]; simp only; rw [HXI.out])
          go_wp2_with fail
          refine ⟨?_, by simp [intOf]; omega⟩
          exact HSTEP.out _ _ (HRO.out.set _ _) (by rw [List.length_set]; exact HOL.out) HS.out (HF.out.trans (Fr.set0 _ _ _ _) (fun i hi _ => hi) (by simp))
        | false =>
          have HS := Lib.hid (show reachS oj ((li : Int), (xi : Int)) = oj by unfold reachS; rw [if_neg (fun q => by have := HU.out.1 q.2; cases this)])
          go_wp2_with fail
          refine ⟨?_, by simp [intOf]; omega⟩
          exact HSTEP.out _ _ HRO.out HOL.out HS.out HF.out
       ·have hd4 : decide (0 ≤ x) = false := decide_eq_false h0
        have HS := Lib.hid (show reachS oj ((li : Int), x) = oj by unfold reachS; rw [if_neg (fun q => h0 q.1)])
        clear h0 hm
        go_wp2_with fail
        refine ⟨?_, by simp [intOf]; omega⟩
        exact HSTEP.out _ _ HRO.out HOL.out HS.out HF.out
      ·have hd3 : decide (j < rn) = false := decide_eq_false hjn
       have HE := Lib.hid (show ruleM oi ⟨(li : Int), rg⟩ = oj by rw [HRM.out, List.drop_eq_nil_of_le (by have := HRN.out; omega)]; rfl)
       clear hjn
       go_wp2_with fail
       refine ⟨⟨i + 1, oj, by omega, by go_num, HRO.out, HOL.out, ?_, HF.out⟩, by simp [intOf]; omega⟩
       rw [HFO.out, HDR.out, List.foldl_cons, HE.out]
    ·have hd2 : decide (i < n3) = false := decide_eq_false hin
     have HE := Lib.hid (show reachR g o = oi by rw [hfo, List.drop_eq_nil_of_le (by have := HN3.out; omega), List.foldl_nil])
     clear hfi hroi holi hfo hin
     go_wp2_with fail
     refine ⟨⟨k + 1, oi, by omega, by go_num, HRO.out, HOL.out, by rw [iterL, ← HIT.out, HE.out], HF.out⟩, by simp [intOf]; omega⟩
  ·have hd1 : decide (k ≤ N) = false := decide_eq_false hkn
   have HE := Lib.hid (show k = N + 1 by omega)
   clear hkn
   go_wp2_with fail
   go_ret
   refine ⟨b, HWB.out, rfl, ?_, HW.out _ HF.out⟩
   have := HIT.out
   rw [HE.out, HPR.out] at this
   rw [← this]
   exact HRO.out
end Go.Proofs.YtnaamjpiaekmeaaGreat
namespace Go.Proofs.YtnaamjpiaekmeaaGreat
open Go.RowKit
def Us1Rel (g : GramG) (t : Nat) (o : List Bool) (w1 : World) (iv : Value) (wx : World) : Prop := ∃ k : Nat, k ≤ g.rules.length ∧ iv = .int .i64 (k : Int) ∧ (∀ j (_ : j < k) (h : j < g.rules.length), ¬ ((-1 - (t : Int)) ∈ (g.rules[j]'h).right ∧ marked o (g.rules[j]'h).left.toNat)) ∧ wx = w1
def Us2Rel (right : List Int) (t : Nat) (m : Prop) (w1 : World) (iv : Value) (wx : World) : Prop := ∃ k : Nat, k ≤ right.length ∧ iv = .int .i64 (k : Int) ∧ (∀ j (_ : j < k) (h : j < right.length), ¬ (right[j]'h = -1 - (t : Int) ∧ m)) ∧ wx = w1
theorem used_iff {g : GramG} (hv : ValidG g) {t : Nat} : UsedG g t ↔ ∃ r ∈ g.rules, (-1 - (t : Int)) ∈ r.right ∧ marked (reachL g) r.left.toNat := by
 constructor
 ·rintro ⟨r, hr, ⟨i, he, hi⟩, hm⟩
  have := hv.rules r hr
  exact ⟨r, hr, hm, (reach_marked (by omega)).2 (by rw [show r.left.toNat = i by omega]; exact hi)⟩
 ·rintro ⟨r, hr, hm, hi⟩
  have := hv.rules r hr
  exact ⟨r, hr, ⟨r.left.toNat, by omega, (reach_marked (by omega)).1 hi⟩, hm⟩
set_option maxRecDepth 100000 in
set_option maxHeartbeats 4000000 in
theorem rused_any (g : GramG) (gv rv : Value) (t : Nat) (w : World) (hg : gramAt w gv g) (hv : ValidG g) (hrv : boolsAt w rv (reachL g)) (ht : t ≤ 256) : Calls Tryz.prog 33 #[gv, rv, .int .i64 (t : Int)] w fun e w' => e = .returned (.bool (boolOf (UsedG g t))) ∧ Fr [] w w' := by
 obtain ⟨a1, c1, a2, c2, a3, c3, rfl, ⟨-, q1, p1⟩, ⟨-, q2, p2⟩, ⟨h3, q3, p3⟩⟩ := hg.parts
 have HOL := Lib.hid (reachL_len g)
 obtain ⟨o, ho⟩ : ∃ o, o = reachL g := ⟨_, rfl⟩
 have HUS := Lib.hid (used_iff hv (t := t))
 rw [← ho] at hrv HOL HUS
 obtain ⟨a0, c0, rfl, hle0, hmx0⟩ := hrv.form
 have hb := heap_alloc_new w (.cells #[.slice a1 g.names.length c1, .slice a2 g.terms.length c2, .slice a3 g.rules.length c3] 25)
 have hf0 := Fr.alloc w (.cells #[.slice a1 g.names.length c1, .slice a2 g.terms.length c2, .slice a3 g.rules.length c3] 25)
 obtain ⟨w0, hw0⟩ : ∃ w1, w1 = w.alloc (.cells #[.slice a1 g.names.length c1, .slice a2 g.terms.length c2, .slice a3 g.rules.length c3] 25) := ⟨_, rfl⟩
 obtain ⟨q0, hq0⟩ : ∃ q0, q0 = w.heap.size := ⟨_, rfl⟩
 rw [← hw0] at hb hf0
 rw [← hq0] at hb
 have hrs : g.rules.length ≤ 4096 := hv.few
 have hsm : g.names.length ≤ 256 := by have := hv.syms; omega
 have HVR := Lib.hid hv.rules
 obtain ⟨R, hR⟩ : ∃ R, R = boolOf (UsedG g t) := ⟨_, rfl⟩
 have HYES := Lib.hid (show UsedG g t → R = true from fun h => by rw [hR]; exact boolOf_true h)
 have HNO := Lib.hid (show ¬ UsedG g t → R = false from fun h => by rw [hR]; exact boolOf_false h)
 rw [← hR]
 obtain ⟨N, hN⟩ : ∃ n, n = g.names.length := ⟨_, rfl⟩
 obtain ⟨n2, hn2⟩ : ∃ n, n = g.terms.length := ⟨_, rfl⟩
 obtain ⟨n3, hn3⟩ : ∃ n, n = g.rules.length := ⟨_, rfl⟩
 obtain ⟨on, hon⟩ : ∃ n, n = o.length := ⟨_, rfl⟩
 rw [← hN, ← hn2, ← hn3] at hb hw0
 rw [← hN] at hsm q1 HVR HOL
 rw [← hn3] at hrs q3 h3
 rw [← hon] at hle0 hrv
 rw [← hN, ← hn2, ← hn3, ← hon]
 have HB := Lib.hid hb
 have HF0 := Lib.hid hf0
 have HW0 := Lib.hid hw0
 have HQ0 := Lib.hid hq0
 have H3 := Lib.hid (h3.below hf0)
 have HRV := Lib.hid (hrv.below hf0)
 have HN3 := Lib.hid hn3
 have hoN : on = N := by rw [hon]; exact HOL.out
 have HON := Lib.hid hoN
 clear hb hf0 hw0 hq0 h3 hg hv hN hn2 hn3 q2 p2 hrv hR ho hmx0 hon hoN
 go_enter Tryz.func33, Tryz.ntmps33
 go_upto_region 1 with fail
 rw [← HW0.out, ← HQ0.out]
 go_wp2_with fail
 go_loopw [7] (Us1Rel g t o w0) (fun iv _ => n3 - (intOf iv).toNat)
 case atStart => exact ⟨0, Nat.zero_le _, rfl, fun j hj => by omega, rfl⟩
 case round =>
  obtain ⟨i, hi, rfl, hall, hwx⟩ := hrel
  rw [hwx]
  have hi3 : i ≤ n3 := by have := HN3.out; omega
  have HALL := Lib.hid hall
  obtain ⟨x0, x1, x2, -⟩ := three_of_heap HB.out
  clear hall hwx
  by_cases hin : i < n3
  ·have hd2 : decide (i < n3) = true := decide_eq_true hin
   have hir : i < g.rules.length := by have := HN3.out; omega
   obtain ⟨b1, o1, v1, rfl, z0, z1, hv1⟩ := rule_cells H3.out i hir
   have HVM := Lib.hid (HVR.out _ (List.getElem_mem hir))
   have HMEM := Lib.hid (List.getElem_mem hir)
   obtain ⟨r, hr⟩ : ∃ r, r = g.rules[i]'hir := ⟨_, rfl⟩
   rw [← hr] at z0 hv1 HVM HMEM
   have HRR := Lib.hid hr
   obtain ⟨lf, rg⟩ := r
   simp only at z0 hv1 HVM
   obtain ⟨li, hli⟩ : ∃ li : Nat, lf = (li : Int) := ⟨lf.toNat, by have := HVM.out.1; omega⟩
   subst hli
   have hlN : li < N := by have := HVM.out.2.1; omega
   have hlon : li < on := by have := HON.out; omega
   have hlo : li < o.length := by have := HOL.out; omega
   obtain ⟨a4, c4, rfl, hle4, hmx4⟩ := hv1.form
   have hrl : rg.length ≤ 64 := HVM.out.2.2.1
   have HV1 := Lib.hid hv1
   obtain ⟨rn, hrn⟩ : ∃ n, n = rg.length := ⟨_, rfl⟩
   rw [← hrn] at z1 hle4 hrl
   have HRN := Lib.hid hrn
   have HZ0 := Lib.hid z0
   have HZ1 := Lib.hid z1
   clear hr hv1 hmx4 hrn z0
   go_wp2_with fail
   clear x0 x1 x2 z1
   go_loopw [8] (Us2Rel rg t (marked o li) w0) (fun iv _ => rn - (intOf iv).toNat)
   case atStart => exact ⟨0, Nat.zero_le _, rfl, fun j hj => by omega, rfl⟩
   case round =>
    obtain ⟨j, hj, rfl, hall2, hwx⟩ := hrel
    rw [hwx]
    have hj3 : j ≤ rn := by have := HRN.out; omega
    have HALL2 := Lib.hid hall2
    have z0 := HZ0.out
    have z1 := HZ1.out
    obtain ⟨x0, x1, x2, -⟩ := three_of_heap HB.out
    clear hall2 hwx
    by_cases hjn : j < rn
    ·have hd3 : decide (j < rn) = true := decide_eq_true hjn
     have hjr : j < rg.length := by have := HRN.out; omega
     have hv2 := HV1.out
     rw [← HRN.out] at hv2
     obtain ⟨b2, o2, rfl, y0⟩ := int_cell hv2 j hjr
     have HJM := Lib.hid (List.getElem_mem hjr)
     obtain ⟨x, hx⟩ : ∃ x, x = rg[j]'hjr := ⟨_, rfl⟩
     rw [← hx] at y0 HJM
     have HX := Lib.hid hx
     have HSTEP := Lib.hid (show ¬ (x = -1 - (t : Int) ∧ marked o li) → Us2Rel rg t (marked o li) w0 (.int .i64 ((j + 1 : Nat) : Int)) w0 from fun hn => ⟨j + 1, by omega, rfl, fun u hu hul => by
      by_cases e : u = j
      ·subst e; rw [← HX.out]; exact hn
      ·exact HALL2.out u (by omega) hul, rfl⟩)
     clear hx hv2
     by_cases he : x = -1 - (t : Int)
     ·have e1 : (x == -1 - (t : Int)) = true := by rw [he]; simp
      have HE := Lib.hid he
      obtain ⟨br, orr, rfl, y1⟩ := bool_cell HRV.out li hlo
      obtain ⟨u, hu⟩ : ∃ u, u = o[li]'hlo := ⟨_, rfl⟩
      rw [← hu] at y1
      have HU := Lib.hid (show marked o li ↔ u = true by unfold marked; rw [List.getElem?_eq_getElem hlo, ← hu]; simp)
      clear hu he
      cases u with
      | true =>
        have HX2 := Lib.hid (HYES.out (HUS.out.2 ⟨_, HMEM.out, by rw [← HE.out]; exact HJM.out, by rw [show ((li : Int)).toNat = li from Int.toNat_natCast li]; exact HU.out.2 rfl⟩))
        go_wp2_with fail
        go_ret
        exact ⟨by rw [HX2.out]; rfl, HF0.out⟩
      | false =>
        go_wp2_with fail
        refine ⟨?_, by simp [intOf]; omega⟩
        exact HSTEP.out (fun q => by have := HU.out.1 q.2; cases this)
     ·have e1 : (x == -1 - (t : Int)) = false := by rw [beq_eq_false_iff_ne]; exact he
      have HE := Lib.hid he
      clear he
      go_wp2_with fail
      refine ⟨?_, by simp [intOf]; omega⟩
      exact HSTEP.out (fun q => HE.out q.1)
    ·have hd3 : decide (j < rn) = false := decide_eq_false hjn
     have HN2 := Lib.hid (show ¬ ((-1 - (t : Int)) ∈ rg ∧ marked o ((li : Int)).toNat) by
      rintro ⟨hm, hk⟩
      rw [Int.toNat_natCast] at hk
      obtain ⟨u, hu, e⟩ := List.getElem_of_mem hm
      exact HALL2.out u (by have := HRN.out; omega) hu ⟨e, hk⟩)
     clear hjn
     go_wp2_with fail
     refine ⟨⟨i + 1, by omega, by go_num, fun u hu hul => ?_, rfl⟩, by simp [intOf]; omega⟩
     by_cases e : u = i
     ·subst e; rw [← HRR.out]; exact HN2.out
     ·exact HALL.out u (by omega) hul
  ·have hd2 : decide (i < n3) = false := decide_eq_false hin
   have HX2 := Lib.hid (HNO.out (fun q => by
    obtain ⟨r, hr, h1, h2⟩ := HUS.out.1 q
    obtain ⟨u, hu, e⟩ := List.getElem_of_mem hr
    refine HALL.out u (by have := HN3.out; omega) hu ?_
    rw [e]
    exact ⟨h1, h2⟩))
   clear hin
   go_wp2_with fail
   go_ret
   exact ⟨by rw [HX2.out]; rfl, HF0.out⟩
end Go.Proofs.YtnaamjpiaekmeaaGreat
