/- FirstOf (layer 20), over any program that does what it must: the good case, the whole. Written by wip/tools/gen_frsd.py. -/
import Derived.Test.YtnaamjpiaekmeaaGreatFrsD
set_option linter.unusedVariables false
set_option linter.unusedSimpArgs false
namespace Go.Proofs.YtnaamjpiaekmeaaGreat
open Go.RowKit
def FO1 (w : World) (ss : List Int) (n1 n2 : Nat) (iv : Value) (wx : World) : Prop := ∃ i : Nat, i ≤ ss.length ∧ iv = .int .i64 (i : Int) ∧ (∀ j (h : j < ss.length), j < i → -(n2 : Int) ≤ ss[j]'h ∧ ss[j]'h < (n1 : Int)) ∧ Fr [] w wx
def FO2 (w : World) (l : Words) (A : Words) (nv iv : Value) (wx : World) : Prop := ∃ i : Nat, i ≤ A.length ∧ iv = .int .i64 (i : Int) ∧ nv = .int .i64 ((cntW [l] (A.take i) : Nat) : Int) ∧ Fr [] w wx
theorem wrap_neg3 (n : Nat) (h : n ≤ 3) : IntKind.i64.wrap (-(n : Int)) = -(n : Int) := by
 rcases (by omega : n = 0 ∨ n = 1 ∨ n = 2 ∨ n = 3) with rfl | rfl | rfl | rfl <;> rfl
theorem hits_one (l : Words) (x : List UInt8) : hitsW [l] x = (decide (x ∈ l)).toNat := by unfold hitsW; by_cases c : x ∈ l <;> simp [c]
theorem cnt_one (l A : Words) : cntW [l] A ≤ A.length := by have := cnt_le [l] A; simpa using this
set_option maxRecDepth 100000 in
set_option maxHeartbeats 8000000 in
theorem lfo_good (hC : ProgFirst) (hO : ProgFof) (g : GramG) (gv : Value) (k : Int) (ss : List Int) (sv : Value) (w : World) (hg : gramAt w gv g) (hi : IntG g) (gn : ∀ n ∈ g.names, n.length ≤ maxLen) (gt : ∀ n ∈ g.terms, n.length ≤ maxLen) (hs : intsAt w sv ss) (hsi : IntS ss) (hf : fewB g = 1) (ht : g.terms.length ≤ 3) (hl : ss.length ≤ 6) (hk1 : 1 ≤ k) (hk4 : k ≤ 4) (hk : checkG g = 0) :
  Calls Tryz.prog 4 #[gv, .int .i64 k, sv] w fun e w' => e = .returned (.bool true) ∧ Fr [] w w' := by
 obtain ⟨a1, c1, a2, c2, a3, c3, rfl, HF0, HB⟩ := box_gram hg
 obtain ⟨a8, c8, rfl, hc8, hm8⟩ := hs.form
 obtain ⟨w0, hw0⟩ : ∃ w0, w0 = w.alloc (.cells #[.slice a1 g.names.length c1, .slice a2 g.terms.length c2, .slice a3 g.rules.length c3] 25) := ⟨_, rfl⟩
 obtain ⟨q0, hq0⟩ : ∃ q0, q0 = w.heap.size := ⟨_, rfl⟩
 rw [← hw0] at HF0 HB
 rw [← hq0] at HB
 have HFEW := Lib.hid (rfew_any g _ w0 (hg.below HF0.out) gn gt)
 have HAW := Lib.hid (fun wx => lfawake_any hC wx)
 have HW0 := Lib.hid hw0
 have HQ0 := Lib.hid hq0
 rw [hf] at HFEW
 have hsz := few_size (g := g) (by rw [hf]; decide)
 have HRC := Lib.hid (fun wx (hx : Fr [] w wx) => rcheck_any g _ wx (hg.below hx) hsz)
 have hm2 : g.terms.length ≤ 100000 := by obtain ⟨-, h2, -⟩ := hsz; omega
 obtain ⟨n2, hn2⟩ : ∃ n, n = g.terms.length := ⟨_, rfl⟩
 obtain ⟨n1, hn1⟩ : ∃ n, n = g.names.length := ⟨_, rfl⟩
 obtain ⟨n3, hn3⟩ : ∃ n, n = g.rules.length := ⟨_, rfl⟩
 obtain ⟨n8, hn8⟩ : ∃ n, n = ss.length := ⟨_, rfl⟩
 have hv := check_valid hk
 have HFS := Lib.hid (fun wx (hx : Fr [] w wx) => hC g _ k wx (hg.below hx) hsz hi)
 have HOUT := Lib.hid (fun ls c (h : FirstOut g k ls c) => (show c = 0 ∧ FirstSets g k ls ∧ ls.length = g.names.length from ⟨(out_sets h ht hk1 hk4 hk hv).1, (out_sets h ht hk1 hk4 hk hv).2, (out_sets h ht hk1 hk4 hk hv).2.1⟩))
 have HSH := Lib.hid (fun ls (h : FirstSets g k ls) => sets_short hv ht hk4 h)
 have HMK := Lib.hid (fun W wx (hx : Fr [] w wx) (hW : W.length ≤ 1000) => rmake_any g _ W wx (hg.below hx) hv (check_prod hk) hW)
 have HAL := Lib.hid (fun wx => rall_any (g.terms.length : Int) k (by omega) wx)
 have HALV := Lib.hid (fun l (h : AllV (g.terms.length : Int) k l) => allV_is h (by omega) (by omega) hk1 hk4)
 have HOF := Lib.hid (fun ls lv wx (h1 : setsAt wx lv ls) (h2 : Fr [] w wx) (h3 : ∀ l ∈ ls, setW l ∧ ShortW l) => hO ls lv k ss _ wx hk1 hk4 h1 (hs.below h2) h3 hsi (by omega))
 have HFW := Lib.hid (fun ls (hF : FirstSets g k ls) (hr : ∀ s ∈ ss, -(g.terms.length : Int) ≤ s ∧ s < (g.names.length : Int)) => fofG_few hv ht hk1 hk4 hF hr)
 have HSUB := Lib.hid (fun (l : Words) (A : Words) (hl : IsFirst g k ss l) (hr : ∀ s ∈ ss, -(g.terms.length : Int) ≤ s ∧ s < (g.names.length : Int)) (hA : ∀ u : List UInt8, (u.length : Int) ≤ k → (∀ b ∈ u, (b.toNat : Int) < (g.terms.length : Int)) → u ∈ A) => show l.Nodup ∧ ∀ x ∈ l, x ∈ A from by
  refine ⟨hl.1.nodup, fun x hx => ?_⟩
  obtain ⟨b1, b2⟩ := firstP_below (rules_syms hv) ((hl.2 x).1 hx) (fun s hs => (hr s hs).1)
  exact hA x (by omega) (fun b hb => by have := b1 b hb; omega))
 have HFB := Lib.hid (fun (W : List UInt8) T F (h1 : SoundT g W T) (h2 : SoundF g W F) (h3 : ClosedT g W T F) (hW : (W.length : Int) ≤ k) (l : Words) (hl : IsFirst g k ss l) (hr : ∀ s ∈ ss, -(g.terms.length : Int) ≤ s ∧ s < (g.names.length : Int)) => show firstB T F W k ss = decide (W ∈ l) from by
  have h4 := firstB_iff h1 h2 h3 hW ss (fun s hs => ders_sym hv (check_prod hk) (by have := (hr s hs).1; omega) (hr s hs).2)
  rw [Bool.eq_iff_iff, h4, decide_eq_true_eq]
  exact ((hl.2 W).symm))
 have hN256 : g.names.length ≤ 256 := by have := hv.syms; omega
 have HSS := Lib.hid hs
 have HSI := Lib.hid hsi
 rw [← hn1, ← hn2, ← hn3] at HB HW0 HFEW HFS HRC HMK ⊢
 rw [← hn1] at HOUT
 rw [← hn8] at hc8 HSS HOF hl ⊢
 rw [← hn2] at HAL HALV HSUB HFW HFB ht
 rw [← hn1] at HSUB HFW HFB hN256
 rw [hk] at HRC
 have hd : decide ((3 : Int) < (n2 : Int)) = false := decide_eq_false (by omega)
 have hd1 : decide ((6 : Int) < (n8 : Int)) = false := decide_eq_false (by omega)
 have hd2 : decide (k < 1) = false := decide_eq_false (by omega)
 have hd3 : decide (4 < k) = false := decide_eq_false (by omega)
 have HN1 := Lib.hid hn1
 have HN8 := Lib.hid hn8
 clear hw0 hq0 hg hi gn gt hC hO hf hk hs hsi hsz hn1 hn2 hn3 hn8 hv
 obtain ⟨x0, x1, x2, -⟩ := three_of_heap HB.out
 go_enter Tryz.func4, Tryz.ntmps4
 go_upto_region 1 with fail
 rw [← HW0.out, ← HQ0.out]
 go_upto_region 6 with (first
  | (go_at_call 9; refine HFEW.out.mono ?_; rintro e w1 ⟨rfl, hf1⟩; have HF1 := Lib.hid (HF0.out.tr0 hf1); have HB1 := Lib.hid (hf1.heap HB.out (by simp)); clear hf1; clear x0 x1 x2; obtain ⟨x0, x1, x2, -⟩ := three_of_heap HB1.out)
  | (go_at_call 12; have := HB1; refine (HRC.out _ HF1.out).mono ?_; rintro e w3 ⟨rfl, hf3⟩; have HF3 := Lib.hid (HF1.out.tr0 hf3); have HB3 := Lib.hid (hf3.heap HB1.out (by simp)); clear hf3 x0 x1 x2; obtain ⟨x0, x1, x2, -⟩ := three_of_heap HB3.out)
  | (go_at_call 11; have := HB3; refine (HFS.out _ HF3.out).mono ?_; rintro e w2 ⟨v2, ls, c, rfl, hs2, ho, hf2⟩; obtain ⟨rfl, hFS, hll⟩ := HOUT.out _ _ ho; have HF2 := Lib.hid (HF3.out.tr0 hf2); have HB2 := Lib.hid (hf2.heap HB3.out (by simp)); have HS2 := Lib.hid hs2; have HFI := Lib.hid hFS; obtain ⟨a4, c4, rfl, hc4, hm4⟩ := hs2.form; rw [hll] at hc4 HS2 ⊢; have HLL := Lib.hid hll; clear hs2 hf2 ho hFS hll x0 x1 x2; obtain ⟨x0, x1, x2, -⟩ := three_of_heap HB2.out))
 go_wp2_with fail
 clear x0 x1 x2
 go_loopw [9] (FO1 w2 ss n1 n2) (fun iv _ => n8 - (intOf iv).toNat)
 case atStart => exact ⟨0, Nat.zero_le _, rfl, fun j h hj => by omega, Fr.refl _ _⟩
 case round =>
  obtain ⟨i, hi, rfl, hall, hF⟩ := hrel
  by_cases hin : i < n8
  ·have hdi : decide (i < n8) = true := decide_eq_true hin
   have hil : i < ss.length := by rw [← HN8.out]; exact hin
   have hsw := HSS.out.below (HF2.out.tr0 hF)
   obtain ⟨b8, o8, e8, hcell⟩ := int_cell hsw i hil
   subst e8
   have hsr := HSI.out _ (List.getElem_mem hil)
   have hbd : ((n1 : Int) ≤ ss[i]'hil ∨ ss[i]'hil < -256) → fofG ls k ss = none := fun h => by
    refine fofF_bad ls k ss _ ⟨_, List.getElem_mem hil, ?_⟩
    rcases h with h | h
    ·exact sym_over (by rw [HLL.out]; exact h)
    ·exact sym_under h
   have hnx : -(n2 : Int) ≤ ss[i]'hil → ss[i]'hil < (n1 : Int) → ∀ j (h : j < ss.length), j < i + 1 → -(n2 : Int) ≤ ss[j]'h ∧ ss[j]'h < (n1 : Int) := fun h1 h2 j h hj => by
    by_cases e : j = i
    ·subst e; exact ⟨h1, h2⟩
    ·exact hall j h (by omega)
   obtain ⟨s, hs⟩ : ∃ s, s = ss[i]'hil := ⟨_, rfl⟩
   rw [← hs] at hcell hsr hbd hnx
   have HBD := Lib.hid hbd
   have HNX := Lib.hid hnx
   have HF := Lib.hid hF
   have HBR := Lib.hid (hF.heap HB2.out (by simp))
   have HCELL := Lib.hid hcell
   obtain ⟨hsr1, hsr2⟩ := hsr
   have hi8 : i < 1000 := by omega
   obtain ⟨x0, x1, x2, -⟩ := three_of_heap HBR.out
   clear hs hbd hnx hall hsw hF
   by_cases hs1 : s < (n1 : Int)
   ·have e1 : decide ((n1 : Int) ≤ s) = false := decide_eq_false (by omega)
    have hwn := wrap_neg3 n2 ht
    by_cases hs2 : s < -(n2 : Int)
    ·have e2 : decide (s < IntKind.i64.wrap (-(n2 : Int))) = true := by rw [hwn]; exact decide_eq_true hs2
     clear hwn
     have e3 : decide (s < 0) = true := decide_eq_true (by omega)
     by_cases hs3 : s < -256
     ·have e4 : decide (s < -256) = true := decide_eq_true hs3
      have HNO := Lib.hid (HBD.out (.inr hs3))
      go_upto_region 9 with fail
      go_quiet (fail)
      have hfq : Fr [] wr (wr.drewN nq) := (Fr.refl [] wr).andDrewN _
      generalize wr.drewN nq = wq at hfq ⊢
      have HFQ := Lib.hid (HF.out.tr0 hfq)
      clear x0 x1 x2
      have hcq := hfq.cell HCELL.out (by simp)
      clear hfq hcell
      go_wp2_with (first
       | (go_at_call 17; refine ((HOF.out _ _ _ (HS2.out.below HFQ.out) (HF2.out.tr0 HFQ.out) (HSH.out _ HFI.out)).mono fun _ _ h => h.no HNO.out).mono ?_; rintro e w5 ⟨v5, rfl, hs5, hf5⟩; obtain ⟨a5, c5, rfl, -, -⟩ := hs5.form; have hcr := hf5.cell hcq (by simp); have HF5 := Lib.hid (HFQ.out.tr0 hf5); clear hs5 hf5)
       | (go_at_call 10; refine (HAW.out _).mono ?_; rintro e w9 ⟨rfl, hf9⟩))
      go_ret
      exact ⟨rfl, (HF2.out.tr0 HF5.out).tr0 hf9⟩
     ·have e4 : decide (s < -256) = false := decide_eq_false hs3
      go_upto_region 9 with fail
      go_quiet (fail)
      have hfq : Fr [] wr (wr.drewN nq) := (Fr.refl [] wr).andDrewN _
      generalize wr.drewN nq = wq at hfq ⊢
      have HFQ := Lib.hid (HF.out.tr0 hfq)
      clear x0 x1 x2
      have hcq := hfq.cell HCELL.out (by simp)
      clear hfq hcell
      go_wp2_with (first
       | (go_at_call 17; refine (HOF.out _ _ _ (HS2.out.below HFQ.out) (HF2.out.tr0 HFQ.out) (HSH.out _ HFI.out)).mono ?_; rintro e w5 ⟨v5, rfl, hs5, hf5⟩; obtain ⟨a5, c5, rfl, -, -⟩ := hs5.form; have hcr := hf5.cell hcq (by simp); have HF5 := Lib.hid (HFQ.out.tr0 hf5); clear hs5 hf5)
       | (go_at_call 10; refine (HAW.out _).mono ?_; rintro e w9 ⟨rfl, hf9⟩))
      go_ret
      exact ⟨rfl, (HF2.out.tr0 HF5.out).tr0 hf9⟩
    ·have e2 : decide (s < IntKind.i64.wrap (-(n2 : Int))) = false := by rw [hwn]; exact decide_eq_false hs2
     clear hwn
     go_upto_region 9 with fail
     go_quiet (fail)
     have hfq : Fr [] wr (wr.drewN nq) := (Fr.refl [] wr).andDrewN _
     generalize wr.drewN nq = wq at hfq ⊢
     have HFQ := Lib.hid (HF.out.tr0 hfq)
     clear x0 x1 x2
     have hcq := hfq.cell HCELL.out (by simp)
     clear hfq hcell
     go_wp2_with fail
     go_roundw
     case rel => exact ⟨i + 1, by omega, by go_num, HNX.out (by omega) hs1, HFQ.out⟩
     case measure => simp [intOf]; omega
   ·have e1 : decide ((n1 : Int) ≤ s) = true := decide_eq_true (by omega)
    have e3 : decide (s < 0) = false := decide_eq_false (by omega)
    have HNO := Lib.hid (HBD.out (.inl (by omega)))
    go_upto_region 9 with fail
    go_quiet (fail)
    have hfq : Fr [] wr (wr.drewN nq) := (Fr.refl [] wr).andDrewN _
    generalize wr.drewN nq = wq at hfq ⊢
    have HFQ := Lib.hid (HF.out.tr0 hfq)
    clear x0 x1 x2
    have hcq := hfq.cell HCELL.out (by simp)
    clear hfq hcell
    go_wp2_with (first
     | (go_at_call 17; refine ((HOF.out _ _ _ (HS2.out.below HFQ.out) (HF2.out.tr0 HFQ.out) (HSH.out _ HFI.out)).mono fun _ _ h => h.no HNO.out).mono ?_; rintro e w5 ⟨v5, rfl, hs5, hf5⟩; obtain ⟨a5, c5, rfl, -, -⟩ := hs5.form; have hcr := hf5.cell hcq (by simp); have HF5 := Lib.hid (HFQ.out.tr0 hf5); clear hs5 hf5)
     | (go_at_call 10; refine (HAW.out _).mono ?_; rintro e w9 ⟨rfl, hf9⟩))
    go_ret
    exact ⟨rfl, (HF2.out.tr0 HF5.out).tr0 hf9⟩
  ·have hdi : decide (i < n8) = false := decide_eq_false hin
   have hr : ∀ s ∈ ss, -(n2 : Int) ≤ s ∧ s < (n1 : Int) := fun s hs => by
    obtain ⟨j, hj, rfl⟩ := List.getElem_of_mem hs
    exact hall j hj (by have := HN8.out; omega)
   have HR := Lib.hid hr
   have HF := Lib.hid hF
   clear hall hr hF
   obtain ⟨l, hl1, hFl⟩ := HFW.out ls HFI.out HR.out
   have HL := Lib.hid hl1
   have HFL := Lib.hid hFl
   have HBE := Lib.hid (HF.out.heap HB2.out (by simp))
   clear hl1 hFl
   go_upto_region 17 with (first
    | (go_at_call 17; refine ((HOF.out _ _ _ (HS2.out.below HF.out) (HF2.out.tr0 HF.out) (HSH.out _ HFI.out)).mono fun _ _ h => h.yes HL.out).mono ?_; rintro e w5 ⟨v5, rfl, hs5, hf5⟩; obtain ⟨a5, c5, rfl, hc5, hm5⟩ := hs5.form; have HF5 := Lib.hid (HF.out.tr0 hf5); have HG5 := Lib.hid hs5; have HB5 := Lib.hid (hf5.heap HBE.out (by simp)); obtain ⟨x0, x1, x2, -⟩ := three_of_heap HB5.out; clear hs5 hf5)
    | (go_at_call 13; refine (HAL.out _).mono ?_; rintro e w6 ⟨A, v6, rfl, hav, hs6, hf6⟩; have HAI := Lib.hid (HALV.out A hav); have HA := Lib.hid hs6; have HF6 := Lib.hid (HF5.out.tr0 hf6); have HB6 := Lib.hid (hf6.heap HB5.out (by simp)); have HG6 := Lib.hid (HG5.out.below hf6); clear hav hs6 hf6))
   clear x0 x1 x2
   obtain ⟨a6, c6, rfl, hc6, hm6⟩ := HA.out.form
   obtain ⟨hAn, hAk, hAl, hAall⟩ := HAI.out
   have HCNT := Lib.hid (cnt_all A hAn [l] (fun m hm => by have e : m = l := (by simpa using hm); rw [e]; exact HSUB.out l A HFL.out HR.out hAall))
   have HCLE := Lib.hid (fun i => Nat.le_trans (cnt_one l (A.take i)) (show (A.take i).length ≤ A.length by rw [List.length_take]; omega))
   have HAK := Lib.hid hAk
   have HMKE := Lib.hid (fun x wx (hf : Fr [] w6 wx) (hW : x.length ≤ 1000) => HMK.out x wx ((HF2.out.tr0 HF6.out).tr0 hf) hW)
   have HSE := Lib.hid (HSS.out.below (HF2.out.tr0 HF6.out))
   have hn1b : n1 ≤ 256 := hN256
   clear hAn hAk hAall HAI HSUB HALV HAL HOUT HFS HRC HFEW HF1 HF3 HB1 HB3 HFW HSH HOF HMK
   obtain ⟨na, hna⟩ : ∃ na, na = A.length := ⟨_, rfl⟩
   rw [← hna] at hc6 hAl HCLE ⊢
   have HNA := Lib.hid hna
   clear hna
   go_wp2_with fail
   go_loopw [14, 16] (FO2 w6 l A) (fun _ iv _ => na - (intOf iv).toNat)
   case atStart => exact ⟨0, Nat.zero_le _, rfl, rfl, Fr.refl _ _⟩
   case round =>
    obtain ⟨i, hi, rfl, rfl, hfr⟩ := hrel
    have hcle := HCLE.out i
    by_cases hin2 : i < na
    ·have hd5 : decide (i < na) = true := decide_eq_true hin2
     have hil : i < A.length := by rw [← HNA.out]; exact hin2
     obtain ⟨b5, o5, e5, hcell⟩ := str_cell (HA.out.below hfr) i hil
     subst e5
     have hxk := HAK.out (A[i]'hil) (List.getElem_mem hil)
     have hct := cnt_take [l] A i hil
     obtain ⟨x, hx⟩ : ∃ x, x = A[i]'hil := ⟨_, rfl⟩
     rw [← hx] at hcell hxk hct
     rw [hits_one] at hct
     obtain ⟨cn, hcn⟩ : ∃ cn, cn = cntW [l] (A.take i) := ⟨_, rfl⟩
     rw [← hcn] at hct hcle ⊢
     have HFBx := Lib.hid (fun T F h1 h2 h3 => HFB.out x T F h1 h2 h3 hxk l HFL.out HR.out)
     have HHAS := Lib.hid (fun v wx (h : strsAt wx v l) => rhas_any l x v wx h)
     obtain ⟨D, hD⟩ : ∃ D, D = decide (x ∈ l) := ⟨_, rfl⟩
     rw [← hD] at hct HFBx HHAS
     have HCT := Lib.hid hct
     have HFR := Lib.hid hfr
     have HSYM := Lib.hid (show SymsK n1 ss from fun s hs => ⟨by have := (HR.out s hs).1; omega, (HR.out s hs).2⟩)
     have hx4 : x.length ≤ 4 := by omega
     have HCELL := Lib.hid hcell
     have HBR := Lib.hid (hfr.heap HB6.out (by simp))
     have hcn2 : cn ≤ 5000 := by omega
     clear hxk hct hx hcn hD hfr hcle hcell
     go_upto_region 20 with fail
     refine wp_region_G [] [(0, false), (1, false), (2, false), (3, false), (4, false), (6, false), (7, false), (5, true), (8, true), (9, false)] 157 rfl (by kernel_rfl) (by kernel_rfl) (by kernel_rfl) (fun c a d v w h => by cases d <;> exact h) (fun wd hfd => ?_)
     simp only [List.map_cons, List.map_nil, List.getElem?_toArray, List.getElem?_cons_succ, List.getElem?_cons_zero, Option.getD_some]
     have L1 : Hid (Later [] wd (fun w' => w'.heap[q0]? = some (.cells #[.slice a1 n1 c1, .slice a2 n2 c2, .slice a3 n3 c3] 25 (0, 0)))) := Lib.hid (fun w' hf' => hf'.heap (hfd.heap HBR.out (by simp)) (by simp))
     have L2 : Hid (Later [] wd (fun w' => w'.cell? ⟨b5, o5 + i, none⟩ = some (encStr x))) := Lib.hid (fun w' hf' => hf'.cell (hfd.cell HCELL.out (by simp)) (by simp))
     have HFD := Lib.hid (HFR.out.tr0 hfd)
     have HWD := Lib.hid hfd
     clear hfd
     repeat (apply wpG_t; · (intro w' hf'; obtain ⟨x0, x1, x2, -⟩ := three_of_heap (L1.out w' hf'); have c1 := L2.out w' hf'; go_wp2_with fail; exact ⟨rfl, rfl⟩))
     refine wpG_x ?_
     go_wp2_with (go_at_call 14; refine (HMKE.out x _ HFD.out (by omega)).mono ?_; rintro e w7 ⟨C, T, F, rfl, hCo, hTK, hT, hFr, hcl, hf7⟩)
     refine ⟨hf7, rfl, ?_⟩
     have HFD7 := Lib.hid (HFD.out.tr0 hf7)
     have HWD7 := Lib.hid (HWD.out.tr0 hf7)
     have hfst := rfirst_any C x n1 T F ss (.slice a8 n8 c8) k w7 HSYM.out (by omega) (by omega) (HSE.out.below HFD7.out) (hTK [] w7 (by simp) (Fr.refl _ _))
     rw [HFBx.out T F hT hFr hcl] at hfst
     have HFST := Lib.hid hfst
     clear hCo hTK hT hFr hcl hf7 hfst
     refine wpG_x ?_
     go_wp2_with (go_at_call 15; refine HFST.out.mono ?_; rintro e w8 ⟨rfl, hf8⟩)
     refine ⟨hf8, rfl, ?_⟩
     have HF8 := Lib.hid (HFD7.out.tr0 hf8)
     have hc8' := (HWD7.out.tr0 hf8).cell HCELL.out (by simp)
     have HG8 := Lib.hid (HG6.out.below HF8.out)
     clear hf8
     repeat (apply wpG_t; · (intro w' hf'; go_wp2_with fail; exact ⟨rfl, rfl⟩))
     refine wpG_end ?_
     cases D with
     | true =>
       go_wp2_with (go_at_call 16; refine (HHAS.out _ _ HG8.out).mono ?_; rintro e w9 ⟨rfl, rfl⟩)
       go_roundw
       case rel => exact ⟨i + 1, by omega, by go_num, by rw [HCT.out]; rfl, HF8.out⟩
       case measure => simp [intOf]; omega
     | false =>
       go_wp2_with (go_at_call 16; refine (HHAS.out _ _ HG8.out).mono ?_; rintro e w9 ⟨rfl, rfl⟩)
       go_roundw
       case rel => exact ⟨i + 1, by omega, by go_num, by rw [HCT.out]; rfl, HF8.out⟩
       case measure => simp [intOf]; omega
    ·have hd5 : decide (i < na) = false := decide_eq_false hin2
     have hfull : cntW [l] (A.take i) = l.length := by rw [List.take_of_length_le (by rw [← HNA.out]; omega), HCNT.out]; simp [sumW]
     rw [hfull]
     obtain ⟨nl, hnl⟩ : ∃ nl, nl = l.length := ⟨_, rfl⟩
     rw [← hnl] at hc5 ⊢
     have heq : ((nl : Int) == (nl : Int)) = true := beq_self_eq_true _
     have HFR := Lib.hid hfr
     clear hfull hnl hcle hfr
     go_wp2_with (go_at_call 10; refine (HAW.out _).mono ?_; rintro e w9 ⟨rfl, hf9⟩)
     go_ret
     exact ⟨rfl, ((HF2.out.tr0 HF6.out).tr0 HFR.out).tr0 hf9⟩
theorem lfirstof_any (hC : ProgFirst) (hO : ProgFof) (g : GramG) (gv : Value) (k : Int) (ss : List Int) (sv : Value) (w : World) (hg : gramAt w gv g) (hi : IntG g) (gn : ∀ n ∈ g.names, n.length ≤ maxLen) (gt : ∀ n ∈ g.terms, n.length ≤ maxLen) (hs : intsAt w sv ss) (hsi : IntS ss) :
  Calls Tryz.prog 4 #[gv, .int .i64 k, sv] w fun e w' => e = .returned (.bool true) ∧ Fr [] w w' := by
 rcases few_two g with hf | hf
 ·exact lfo_few hC hO g gv k ss sv w hg hi gn gt hs hsi hf
 by_cases ht : 3 < g.terms.length
 ·exact lfo_terms hC hO g gv k ss sv w hg hi gn gt hs hsi hf ht
 by_cases hl : 6 < ss.length
 ·exact lfo_long hC hO g gv k ss sv w hg hi gn gt hs hsi hf (by omega) hl
 by_cases h1 : k < 1
 ·exact lfo_low hC hO g gv k ss sv w hg hi gn gt hs hsi hf (by omega) (by omega) h1
 by_cases h4 : 4 < k
 ·exact lfo_high hC hO g gv k ss sv w hg hi gn gt hs hsi hf (by omega) (by omega) h4
 by_cases hc : checkG g = 0
 ·exact lfo_good hC hO g gv k ss sv w hg hi gn gt hs hsi hf (by omega) (by omega) (by omega) (by omega) hc
 ·exact lfo_check hC hO g gv k ss sv w hg hi gn gt hs hsi hf (by omega) (by omega) (by omega) (by omega) hc
end Go.Proofs.YtnaamjpiaekmeaaGreat
