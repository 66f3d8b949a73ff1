/- FirstWords (layer 20), over any program that does what it must: the good case. Written by wip/tools/gen_frsc.py. -/
import Derived.Test.YtnaamjpiaekmeaaGreatFrsB
set_option linter.unusedVariables false
set_option linter.unusedSimpArgs false
namespace Go.Proofs.YtnaamjpiaekmeaaGreat
open Go.RowKit
theorem ints_new1 (w : World) (a : Nat) : intsAt (w.alloc (.cells #[.int .i64 (a : Int)] 3)) (.slice (some ⟨w.heap.size, 0, none⟩) 1 1) [(a : Int)] := cells_of_heap (cs := [.int .i64 (a : Int)]) (heap_alloc_new w _) (show 1 ≤ maxLen by decide) 1 rfl
set_option maxRecDepth 100000 in
set_option maxHeartbeats 8000000 in
theorem lfw_good (hC : ProgFirst) (g : GramG) (gv : Value) (k : Int) (w : World) (hg : gramAt w gv g) (hi : IntG g) (gn : ∀ n ∈ g.names, n.length ≤ maxLen) (gt : ∀ n ∈ g.terms, n.length ≤ maxLen) (hf : fewB g = 1) (ht : g.terms.length ≤ 3) (hk1 : 1 ≤ k) (hk4 : k ≤ 4) (hk : checkG g = 0) :
  Calls Tryz.prog 3 #[gv, .int .i64 k] w fun e w' => e = .returned (.bool true) ∧ Fr [] w w' := by
 obtain ⟨a1, c1, a2, c2, a3, c3, rfl, HF0, HB⟩ := box_gram hg
 obtain ⟨w0, hw0⟩ : ∃ w0, w0 = w.alloc (.cells #[.slice a1 g.names.length c1, .slice a2 g.terms.length c2, .slice a3 g.rules.length c3] 25) := ⟨_, rfl⟩
 obtain ⟨q0, hq0⟩ : ∃ q0, q0 = w.heap.size := ⟨_, rfl⟩
 rw [← hw0] at HF0 HB
 rw [← hq0] at HB
 have HFEW := Lib.hid (rfew_any g _ w0 (hg.below HF0.out) gn gt)
 have HAW := Lib.hid (fun wx => lfawake_any hC wx)
 rw [hf] at HFEW
 have hsz := few_size (g := g) (by rw [hf]; decide)
 have HFS := Lib.hid (fun wx (hx : Fr [] w wx) => hC g _ k wx (hg.below hx) hsz hi)
 have HRC := Lib.hid (fun wx (hx : Fr [] w wx) => rcheck_any g _ wx (hg.below hx) hsz)
 have HOUT := Lib.hid (fun ls c (h : FirstOut g k ls c) => out_good h ht hk1 hk4 hk)
 have hm2 : g.terms.length ≤ 3 := by omega
 obtain ⟨n2, hn2⟩ : ∃ n, n = g.terms.length := ⟨_, rfl⟩
 obtain ⟨n1, hn1⟩ : ∃ n, n = g.names.length := ⟨_, rfl⟩
 obtain ⟨n3, hn3⟩ : ∃ n, n = g.rules.length := ⟨_, rfl⟩
 have hd : decide ((3 : Int) < (n2 : Int)) = false := decide_eq_false (by omega)
 have HW0 := Lib.hid hw0
 have HQ0 := Lib.hid hq0
 have hv := check_valid hk
 have HMK := Lib.hid (fun W wx (hx : Fr [] w wx) (hW : W.length ≤ 1000) => rmake_any g _ W wx (hg.below hx) hv (check_prod hk) hW)
 have HAL := Lib.hid (fun wx => rall_any (g.terms.length : Int) k (by omega) wx)
 have HALV := Lib.hid (fun l (h : AllV (g.terms.length : Int) k l) => allV_is h (by omega) (by omega) hk1 hk4)
 have HSUB := Lib.hid (fun (ls : List Words) (A : Words) (hl : ls.length = g.names.length) (hF : ∀ i (h : i < ls.length), IsFirst g k [(i : Int)] (ls[i]'h)) (hA : ∀ u : List UInt8, (u.length : Int) ≤ k → (∀ b ∈ u, (b.toNat : Int) < (g.terms.length : Int)) → u ∈ A) => show ∀ l ∈ ls, l.Nodup ∧ ∀ x ∈ l, x ∈ A from fun l hl2 => by
  obtain ⟨i, hi2, rfl⟩ := List.getElem_of_mem hl2
  refine ⟨(hF i hi2).1.nodup, fun x hx => ?_⟩
  obtain ⟨b1, b2⟩ := firstP_below (rules_syms hv) (((hF i hi2).2 x).1 hx) (fun s hs => by obtain rfl : s = (i : Int) := (by simpa using hs); omega)
  exact hA x (by omega) (fun b hb => by have := b1 b hb; omega))
 have HFB := Lib.hid (fun (W : List UInt8) T F (h1 : SoundT g W T) (h2 : SoundF g W F) (h3 : ClosedT g W T F) (hW : (W.length : Int) ≤ k) (a : Nat) (ha : a < g.names.length) (l : Words) (hl : IsFirst g k [(a : Int)] l) => show firstB T F W k [(a : Int)] = decide (W ∈ l) from by
  have h4 := firstB_iff h1 h2 h3 hW [(a : Int)] (fun s hs => by obtain rfl : s = (a : Int) := (by simpa using hs); exact ders_sym hv (check_prod hk) (by omega) (by omega))
  rw [Bool.eq_iff_iff, h4, decide_eq_true_eq]
  exact ((hl.2 W).symm))
 have hN256 : g.names.length ≤ 256 := by have := hv.syms; omega
 rw [← hn1, ← hn2, ← hn3] at HB HW0 HFEW HFS HRC HMK ⊢
 rw [← hn2] at HAL HALV
 rw [← hn1, ← hn2] at HSUB
 rw [← hn1] at HFB HOUT
 rw [hk] at HRC
 rw [← hn1] at hN256
 have hkd1 : decide (k < 1) = false := decide_eq_false (by omega)
 have hkd2 : decide (4 < k) = false := decide_eq_false (by omega)
 clear hw0 hq0 hg hi gn gt hC hf ht hk hn1 hn2 hn3 hm2 hsz hv
 obtain ⟨x0, x1, x2, -⟩ := three_of_heap HB.out
 go_enter Tryz.func3, Tryz.ntmps3
 go_upto_region 1 with fail
 rw [← HW0.out, ← HQ0.out]
 go_upto_region 6 with (first
  | (go_at_call 9; refine HFEW.out.mono ?_; rintro e w1 ⟨rfl, hf1⟩; have HF1 := Lib.hid (HF0.out.tr0 hf1); have HB1 := Lib.hid (hf1.heap HB.out (by simp)); clear hf1; clear x0 x1 x2; obtain ⟨x0, x1, x2, -⟩ := three_of_heap HB1.out)
  | (go_at_call 11; have := HB1; refine (HFS.out _ HF1.out).mono ?_; rintro e w2 ⟨v2, ls, c, rfl, hs, ho, hf2⟩; obtain ⟨rfl, hll, hFI⟩ := HOUT.out _ _ ho; have HF2 := Lib.hid (HF1.out.tr0 hf2); have HB2 := Lib.hid (hf2.heap HB1.out (by simp)); have HS := Lib.hid hs; obtain ⟨a4, c4, rfl, hc4, hm4⟩ := hs.form; have HFI := Lib.hid hFI; rw [hll] at hc4 ⊢; have HLL := Lib.hid hll; clear hFI hll; clear hs hf2 ho x0 x1 x2; obtain ⟨x0, x1, x2, -⟩ := three_of_heap HB2.out)
  | (go_at_call 12; have := HB2; refine (HRC.out _ HF2.out).mono ?_; rintro e w3 ⟨rfl, hf3⟩; have HF3 := Lib.hid (HF2.out.tr0 hf3); have HS3 := Lib.hid (HS.out.below hf3); have HB3 := Lib.hid (hf3.heap HB2.out (by simp)); clear hf3 x0 x1 x2; obtain ⟨x0, x1, x2, -⟩ := three_of_heap HB3.out))
 go_upto_region 10 with (go_at_call 13; refine (HAL.out _).mono ?_; rintro e w4 ⟨A, v4, rfl, hav, hs4, hf4⟩; have HAI := Lib.hid (HALV.out A hav); have HA := Lib.hid hs4; have HF4 := Lib.hid (HF3.out.tr0 hf4); have HB4 := Lib.hid (hf4.heap HB3.out (by simp)); have HS4 := Lib.hid (HS3.out.below hf4); clear hav hs4 hf4)
 obtain ⟨a5, c5, rfl, hc5, hm5⟩ := HA.out.form
 obtain ⟨hAn, hAk, hAl, hAall⟩ := HAI.out
 have HCNT := Lib.hid (cnt_all A hAn ls (HSUB.out ls A HLL.out HFI.out hAall))
 have HCLE := Lib.hid (fun i => cnt_take_le ls A i)
 have HAK := Lib.hid hAk
 clear hAn hAk hAall HAI HSUB HALV HAL HOUT HFS HRC HFEW HS HS3 HF1 HF2 HF3 HB1 HB2 HB3
 have hMl : A.length * ls.length ≤ 4096 * 256 := Nat.mul_le_mul hAl (by rw [HLL.out]; exact hN256)
 obtain ⟨M, hM⟩ : ∃ M, M = A.length * ls.length := ⟨_, rfl⟩
 rw [← hM] at HCLE hMl
 obtain ⟨na, hna⟩ : ∃ na, na = A.length := ⟨_, rfl⟩
 rw [← hna] at hc5 hAl ⊢
 have HNA := Lib.hid hna
 clear hM hna x0 x1 x2
 go_wp2_with fail
 go_loopw [7, 9] (FW1 w4 ls A) (fun _ iv _ => na - (intOf iv).toNat)
 case atStart => exact ⟨0, Nat.zero_le _, rfl, rfl, Fr.refl _ _⟩
 case round =>
  obtain ⟨i, hi, rfl, rfl, hfr⟩ := hrel
  have HFR := Lib.hid hfr
  have hcle := HCLE.out i
  by_cases hin : i < na
  ·have hd1 : decide (i < na) = true := decide_eq_true hin
   have hil : i < A.length := by rw [← HNA.out]; exact hin
   obtain ⟨b5, o5, e5, hcell⟩ := str_cell (HA.out.below hfr) i hil
   subst e5
   have hxk := HAK.out (A[i]'hil) (List.getElem_mem hil)
   have hct := cnt_take ls A i hil
   obtain ⟨x, hx⟩ : ∃ x, x = A[i]'hil := ⟨_, rfl⟩
   rw [← hx] at hcell hxk hct
   obtain ⟨cn, hcn⟩ : ∃ cn, cn = cntW ls (A.take i) := ⟨_, rfl⟩
   rw [← hcn] at hct hcle ⊢
   have HCT := Lib.hid hct
   have HXK := Lib.hid hxk
   have HWR := Lib.hid (HF4.out.tr0 hfr)
   have HMKx := Lib.hid (fun wx (hf : Fr [] wr wx) => HMK.out x wx (HWR.out.tr0 hf) (by omega))
   have HCELL := Lib.hid hcell
   have HBR := Lib.hid (hfr.heap HB4.out (by simp))
   have hx4 : x.length ≤ 4 := by omega
   clear hfr hcell hxk hct hcn hx
   go_upto_region 13 with fail
   go_cut [10] (fun tv wx => TMid wr g x n1 tv wx)
   case first =>
    obtain ⟨B, hB⟩ : ∃ B, B = wr.heap.size := ⟨_, rfl⟩
    obtain ⟨Z0, hZ0⟩ : ∃ Z0, Z0 = zeroTab := ⟨_, rfl⟩
    have hzt := zero_tab
    rw [← hZ0] at hzt
    have HZZ := Lib.hid hzt
    have HZS := Lib.hid (show Z0.size = 6 by rw [hZ0]; rfl)
    refine wp_region_F (FrB B []) (fun _ => FrB.refl _ _ _) (fun _ _ _ => FrB.trans) [(0, false), (1, false), (2, false), (3, false), (4, false)] 5 6 [(6, true), (7, true)] [(5, true), (7, true)] 122 rfl (by kernel_rfl) (by kernel_rfl) (by kernel_rfl) (fun c a d v w h => by cases d <;> exact h) ?_
    simp only [List.map_cons, List.map_nil, List.getElem?_toArray, List.getElem?_cons_succ, List.getElem?_cons_zero, Option.getD_some]
    obtain ⟨v0, hv0⟩ : ∃ v0, v0 = wr.drew := ⟨_, rfl⟩
    have F0 := Lib.hid (show Fr [] wr v0 by rw [hv0]; exact Fr.drew _)
    have HSZ := Lib.hid (show v0.heap.size = B by rw [hv0, hB]; rfl)
    have HBQ := Lib.hid hB
    have hq0B : q0 < B := by rw [hB]; exact (Array.getElem?_eq_some_iff.1 HBR.out).1
    have hbB : b5 < B := by rw [hB]; exact World.block_lt_of_cell? wr _ HCELL.out
    have HC := Lib.hid (fun w' (hf' : FrB B [] v0 w') => show (w'.heap[q0]? = some (.cells #[.slice a1 n1 c1, .slice a2 n2 c2, .slice a3 n3 c3] 25 (0, 0))) ∧ w'.cell? ⟨b5, o5 + i, none⟩ = some (encStr x) from
     ⟨hf'.heap (F0.out.heap HBR.out (by simp)) hq0B (by simp), hf'.cell (F0.out.cell HCELL.out (by simp)) hbB (by simp)⟩)
    rw [← hv0]
    clear hv0 hB hq0B hbB hzt hZ0
    iterate 5 (apply wpT_t; · (intro w' hf'; obtain ⟨e1, e2⟩ := HC.out w' hf'; obtain ⟨c0, c1, c2, -, -, -⟩ := three_of_heap e1; clear e1; go_wp2_with fail; exact ⟨rfl, rfl⟩))
    refine ⟨?fI, ?fJ⟩
    case' fI =>
     simp only [List.map_cons, List.map_nil, List.getElem?_toArray, List.getElem?_cons_succ, List.getElem?_cons_zero, Option.getD_some]
     refine wpT_x ?_
     go_wp2_with (go_at_call 14; refine (HMKx.out _ F0.out).mono ?_; rintro e w7 ⟨C, T, F, rfl, hCo, hTK, hT, hF, hcl, hf7⟩)
     refine ⟨FrB.of hf7 (by rw [HSZ.out]; exact Nat.le_refl _) (by simp), rfl, ?_⟩
     have hCs := (hTK [] w7 (by simp) (Fr.refl _ _)).size
     have hCz : C.size = 6 := Option.some.inj (hCs.symm.trans sizeTab)
     refine wpT_x ?_
     go_wp2_with (refine wpL_newArr rfl _ rfl Z0 HZZ.out ?_; intro w8 hh8 hf8 hz8)
     refine ⟨FrB.of hf8 (by have := hf7.size; have := HSZ.out; omega) (by simp), rfl, ?_⟩
     refine wpT_x ?_
     go_wp2_with (refine wpL_storeArr rfl _ _ _ rfl w7.heap.size C Z0 rfl rfl _ hh8.out hCs (by rw [HZS.out, hCz]) hCo ?_; intro w9 hh9 hf9 hz9)
     refine ⟨FrB.of hf9 (by have := hf7.size; have := HSZ.out; have := hf8.size; omega) (fun ii hi hlt => by have := hf7.size; have := HSZ.out; have : ii = w7.heap.size := (by simpa using hi); omega), rfl, ?_⟩
     have hf79 : Fr [] w7 w9 := hf8.trans hf9 (by simp) (fun k hk hlt => by have : k = w7.heap.size := (by simpa using hk); omega)
     refine wpT_end ?_
     go_wp2_with fail
     go_meet
     exact ⟨w7.heap.size, C, T, F, rfl, hh9.out, hTK [] w9 (by simp) hf79, hT, hF, hcl, (F0.out.tr0 hf7).tr0 hf79⟩
    case' fJ =>
     simp only [List.map_cons, List.map_nil, List.getElem?_toArray, List.getElem?_cons_succ, List.getElem?_cons_zero, Option.getD_some]
     refine wpT_x ?_
     go_wp2_with (refine wpL_newArr rfl _ rfl Z0 HZZ.out ?_; intro w7 hh7 hf7 hz7)
     refine ⟨FrB.of hf7 (by rw [HSZ.out]; exact Nat.le_refl _) (by simp), rfl, ?_⟩
     refine wpT_x ?_
     go_wp2_with (go_at_call 14; refine (HMKx.out _ (F0.out.tr0 hf7)).mono ?_; rintro e w8 ⟨C, T, F, rfl, hCo, hTK, hT, hF, hcl, hf8⟩)
     refine ⟨FrB.of hf8 (by have := hf7.size; have := HSZ.out; omega) (by simp), rfl, ?_⟩
     have hCs := (hTK [] w8 (by simp) (Fr.refl _ _)).size
     have hCz : C.size = 6 := Option.some.inj (hCs.symm.trans sizeTab)
     refine wpT_x ?_
     go_wp2_with (refine wpL_storeArr rfl _ _ _ rfl v0.heap.size C Z0 rfl rfl _ (hf8.heap hh7.out (by simp)) hCs (by rw [HZS.out, hCz]) hCo ?_; intro w9 hh9 hf9 hz9)
     refine ⟨FrB.of hf9 (by have := hf7.size; have := HSZ.out; have := hf8.size; omega) (fun ii hi hlt => by have := HSZ.out; have : ii = v0.heap.size := (by simpa using hi); omega), rfl, ?_⟩
     have hlt0 : v0.heap.size < w7.heap.size := (Array.getElem?_eq_some_iff.1 hh7.out).1
     refine wpT_end ?_
     go_wp2_with fail
     go_meet
     exact ⟨v0.heap.size, C, T, F, rfl, hh9.out, hTK [v0.heap.size] w9 (fun r hr => by have : r = v0.heap.size := (by simpa using hr); omega) hf9, hT, hF, hcl, ((F0.out.tr0 hf7).tr0 hf8).trans hf9 (by simp) (fun k hk hlt => by have : k = v0.heap.size := (by simpa using hk); have := HSZ.out; have := HBQ.out; omega)⟩
   case rest =>
    obtain ⟨qt, C, T, F, rfl, hbt, hTK, hT, hF, hcl, hfc⟩ := hcut
    have HFX := Lib.hid (fun a ha l hl => HFB.out x T F hT hF hcl HXK.out a ha l hl)
    have HSZ := Lib.hid hTK.size
    have HTK := Lib.hid hTK
    have HBT := Lib.hid hbt
    have HFC := Lib.hid (HFR.out.tr0 hfc)
    have HBC := Lib.hid (hfc.heap HBR.out (by simp))
    have HCC := Lib.hid (hfc.cell HCELL.out (by simp))
    have HSC := Lib.hid (HS4.out.below HFC.out)
    clear hbt hTK hT hF hcl hfc HFR HBR HCELL HWR HMKx
    go_wp2_with fail
    go_loopw [7, 11] (FW2 wc ls cn x) (fun _ av _ => n1 - (intOf av).toNat)
    case atStart => exact ⟨0, Nat.zero_le _, rfl, rfl, Fr.refl _ _⟩
    case round =>
     obtain ⟨a, ha, rfl, rfl, hfa⟩ := hrel
     have HFA := Lib.hid hfa
     obtain ⟨x0, -, -, -⟩ := three_of_heap (hfa.heap HBC.out (by simp))
     have hht := hits_take_le ls x a
     rw [HLL.out] at hht ha
     by_cases hal : a < n1
     ·have hd2 : decide (a < n1) = true := decide_eq_true hal
      have hal' : a < ls.length := by rw [HLL.out]; exact hal
      have hfb := HFX.out a hal _ (HFI.out a hal')
      have hh1 := hits_take ls x a hal'
      obtain ⟨b4, o4, u, e4, hcu, hu⟩ := set_cell (HSC.out.below hfa) a hal'
      obtain ⟨l, hl⟩ : ∃ l, l = ls[a]'hal' := ⟨_, rfl⟩
      rw [← hl] at hfb hh1 hu
      subst e4
      obtain ⟨h0, hh0⟩ : ∃ h0, h0 = hitsW (ls.take a) x := ⟨_, rfl⟩
      rw [← hh0] at hh1 hht ⊢
      have HHAS := Lib.hid (fun v wx (h : strsAt wx v l) => rhas_any l x v wx h)
      have HFST := Lib.hid (fun sv wx (hs : intsAt wx sv [(a : Int)]) (hf : Fr [] wc wx) => rfirst_any C x n1 T F [(a : Int)] sv k wx (fun s hs => by obtain rfl : s = (a : Int) := (by simpa using hs); omega) (by omega) (by omega) hs (HTK.out.below hf))
      rw [hfb] at HFST
      have hh2 : hitsW (ls.take (a + 1)) x = h0 + (decide (x ∈ l)).toNat := by rw [hh1]; by_cases c : x ∈ l <;> simp [c]
      obtain ⟨D, hD⟩ : ∃ D, D = decide (x ∈ l) := ⟨_, rfl⟩
      rw [← hD] at HFST HHAS hh2
      have HH := Lib.hid hh2
      have HU := Lib.hid hu
      have HCU := Lib.hid hcu
      have hbw := hfa.heap HBT.out (by simp)
      have HBW := Lib.hid hbw
      clear hfb hh1 hh2 hu hcu hl hh0 hD hfa hbw
      have hsm : cn + h0 < 9000000 := by omega
      go_upto_region 18 with (first
       | (refine wpL_loadW rfl _ _ rfl qt rfl _ C _ _ HBW.out Tryz.underlying36 rfl HSZ.out ?_)
       | (go_at_call 15; refine (HFST.out _ _ (ints_new1 wr a) (HFA.out.tr0 (Fr.alloc _ _))).mono ?_; rintro e w6 ⟨rfl, hf6⟩; have HF6 := Lib.hid ((Fr.alloc _ _).tr0 hf6); clear hf6))
      have HFA6 := Lib.hid (HFA.out.tr0 HF6.out)
      have HU6 := Lib.hid (HU.out.below HF6.out)
      have HCU6 := Lib.hid (HF6.out.cell HCU.out (by simp))
      have HCX6 := Lib.hid (HFA6.out.cell HCC.out (by simp))
      clear x0 HU HCU HF6 HFST HBW
      obtain ⟨a7, c7, rfl, hc7, hm7⟩ := HU6.out.form
      have L1 : Hid (Later [] w6 (fun w' => w'.cell? ⟨b4, o4 + a, none⟩ = some (.slice a7 l.length c7))) := Lib.hid (fun w' hf' => hf'.cell HCU6.out (by simp))
      have L2 : Hid (Later [] w6 (fun w' => w'.cell? ⟨b5, o5 + i, none⟩ = some (encStr x))) := Lib.hid (fun w' hf' => hf'.cell HCX6.out (by simp))
      cases D with
      | true =>
        go_upto_region 20 with fail
        refine wp_region_G [] [(0, false), (1, false), (2, false), (3, false), (4, false), (5, false), (6, false), (7, false), (9, false), (8, true), (10, false)] 122 rfl (by kernel_rfl) (by kernel_rfl) (by kernel_rfl) (fun c a d v w h => by cases d <;> exact h) (fun wd hfd => ?_)
        simp only [List.map_cons, List.map_nil, List.getElem?_toArray, List.getElem?_cons_succ, List.getElem?_cons_zero, Option.getD_some]
        have HFD := Lib.hid hfd
        clear hfd
        repeat (apply wpG_t; · (intro w' hf'; have d1 := L1.out w' (HFD.out.tr0 hf'); have d2 := L2.out w' (HFD.out.tr0 hf'); go_wp2_with fail; exact ⟨rfl, rfl⟩))
        refine wpG_x ?_
        go_wp2_with (go_at_call 16; refine (HHAS.out _ _ (HU6.out.below HFD.out)).mono ?_; rintro e w7 ⟨rfl, rfl⟩)
        refine ⟨Fr.refl _ _, rfl, ?_⟩
        repeat (apply wpG_t; · (intro w' hf'; go_wp2_with fail; exact ⟨rfl, rfl⟩))
        refine wpG_end ?_
        go_wp2_with fail
        go_roundw
        case rel => exact ⟨a + 1, by rw [HLL.out]; omega, by go_num, by rw [HH.out]; rw [show (true).toNat = 1 from rfl]; go_num, HFA6.out.tr0 HFD.out⟩
        case measure => simp [intOf]; omega
      | false =>
        go_upto_region 20 with fail
        refine wp_region_G [] [(0, false), (1, false), (2, false), (3, false), (4, false), (5, false), (6, false), (7, false), (9, false), (8, true), (10, false)] 122 rfl (by kernel_rfl) (by kernel_rfl) (by kernel_rfl) (fun c a d v w h => by cases d <;> exact h) (fun wd hfd => ?_)
        simp only [List.map_cons, List.map_nil, List.getElem?_toArray, List.getElem?_cons_succ, List.getElem?_cons_zero, Option.getD_some]
        have HFD := Lib.hid hfd
        clear hfd
        repeat (apply wpG_t; · (intro w' hf'; have d1 := L1.out w' (HFD.out.tr0 hf'); have d2 := L2.out w' (HFD.out.tr0 hf'); go_wp2_with fail; exact ⟨rfl, rfl⟩))
        refine wpG_x ?_
        go_wp2_with (go_at_call 16; refine (HHAS.out _ _ (HU6.out.below HFD.out)).mono ?_; rintro e w7 ⟨rfl, rfl⟩)
        refine ⟨Fr.refl _ _, rfl, ?_⟩
        repeat (apply wpG_t; · (intro w' hf'; go_wp2_with fail; exact ⟨rfl, rfl⟩))
        refine wpG_end ?_
        go_wp2_with fail
        go_roundw
        case rel => exact ⟨a + 1, by rw [HLL.out]; omega, by go_num, by rw [HH.out]; rw [show (false).toNat = 0 from rfl]; rfl, HFA6.out.tr0 HFD.out⟩
        case measure => simp [intOf]; omega
     ·have hd2 : decide (a < n1) = false := decide_eq_false hal
      have hfull : hitsW (ls.take a) x = hitsW ls x := by rw [List.take_of_length_le (by rw [HLL.out]; omega)]
      rw [hfull] at hht ⊢
      have HCT2 := Lib.hid HCT.out
      clear hfa hfull
      go_wp2_with fail
      go_roundw
      case rel => exact ⟨i + 1, by omega, by go_num, by rw [HCT2.out], HFC.out.tr0 HFA.out⟩
      case measure => simp [intOf]; omega
  ·have hd1 : decide (i < na) = false := decide_eq_false hin
   have hfull : cntW ls (A.take i) = sumW ls := by rw [List.take_of_length_le (by rw [← HNA.out]; omega)]; exact HCNT.out
   rw [hfull] at hcle ⊢
   have HSR := Lib.hid (HS4.out.below hfr)
   have HLE := Lib.hid (fun a => sum_take_le ls a)
   clear hfull hfr
   obtain ⟨ws, hws⟩ : ∃ ws, ws = wr := ⟨_, rfl⟩
   rw [← hws] at HSR HFR ⊢
   clear hws
   go_wp2_with fail
   go_loopw [7, 13] (FW3 ws ls) (fun _ av _ => n1 - (intOf av).toNat)
   case atStart => exact ⟨0, Nat.zero_le _, rfl, by rw [List.take_zero, show sumW [] = 0 from rfl]; simp, Fr.refl _ _⟩
   case round =>
    obtain ⟨a, ha, rfl, rfl, hfa⟩ := hrel
    have HFA := Lib.hid hfa
    have hle := HLE.out a
    rw [HLL.out] at ha
    by_cases hal : a < n1
    ·have hd2 : decide (a < n1) = true := decide_eq_true hal
     have hal' : a < ls.length := by rw [HLL.out]; exact hal
     obtain ⟨b4, o4, u, e4, hcu, hu⟩ := set_cell (HSR.out.below hfa) a hal'
     have hst := sum_take ls a hal'
     have hle2 := HLE.out (a + 1)
     obtain ⟨l, hl⟩ : ∃ l, l = ls[a]'hal' := ⟨_, rfl⟩
     rw [← hl] at hu hst
     subst e4
     obtain ⟨a7, c7, rfl, hc7, hm7⟩ := hu.form
     obtain ⟨ll, hll⟩ : ∃ ll, ll = l.length := ⟨_, rfl⟩
     rw [← hll] at hcu hst hc7
     obtain ⟨s0, hs0⟩ : ∃ s0, s0 = sumW (ls.take a) := ⟨_, rfl⟩
     rw [← hs0] at hst hle ⊢
     obtain ⟨S, hS⟩ : ∃ S, S = sumW ls := ⟨_, rfl⟩
     rw [← hS] at hle hle2 hcle ⊢
     have HST := Lib.hid hst
     have HSS := Lib.hid hS
     have hlb : s0 + ll ≤ S := by omega
     clear hu hl hll hs0 hS hst hle2 hfa
     go_wp2_with fail
     go_roundw
     case rel => exact ⟨a + 1, by rw [HLL.out]; omega, by go_num, by rw [HST.out, ← HSS.out]; go_num, HFA.out⟩
     case measure => simp [intOf]; omega
    ·have hd2 : decide (a < n1) = false := decide_eq_false hal
     have hz : ((sumW ls : Nat) : Int) - ((sumW (ls.take a) : Nat) : Int) = 0 := by rw [List.take_of_length_le (by rw [HLL.out]; omega)]; omega
     rw [hz]
     clear hz hle hfa
     go_wp2_with (go_at_call 10; refine (HAW.out _).mono ?_; rintro e w9 ⟨rfl, hf9⟩)
     go_ret
     exact ⟨rfl, ((HF4.out.tr0 HFR.out).tr0 HFA.out).tr0 hf9⟩
theorem lfirstwords_any (hC : ProgFirst) (g : GramG) (gv : Value) (k : Int) (w : World) (hg : gramAt w gv g) (hi : IntG g) (gn : ∀ n ∈ g.names, n.length ≤ maxLen) (gt : ∀ n ∈ g.terms, n.length ≤ maxLen) :
  Calls Tryz.prog 3 #[gv, .int .i64 k] w fun e w' => e = .returned (.bool true) ∧ Fr [] w w' := by
 rcases few_two g with hf | hf
 ·exact lfw_few hC g gv k w hg hi gn gt hf
 by_cases ht : 3 < g.terms.length
 ·exact lfw_terms hC g gv k w hg hi gn gt hf ht
 by_cases h1 : k < 1
 ·exact lfw_low hC g gv k w hg hi gn gt hf (by omega) h1
 by_cases h4 : 4 < k
 ·exact lfw_high hC g gv k w hg hi gn gt hf (by omega) h4
 by_cases hc : checkG g = 0
 ·exact lfw_good hC g gv k w hg hi gn gt hf (by omega) (by omega) (by omega) hc
 ·exact lfw_check hC g gv k w hg hi gn gt hf (by omega) (by omega) (by omega) hc
end Go.Proofs.YtnaamjpiaekmeaaGreat
