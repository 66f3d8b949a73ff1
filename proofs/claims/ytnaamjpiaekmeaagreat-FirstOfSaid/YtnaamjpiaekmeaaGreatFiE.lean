/- Layer 20, the document's: Make. -/
import Derived.Test.YtnaamjpiaekmeaaGreatMk
import Derived.Test.YtnaamjpiaekmeaaGreatArr
import Derived.Test.YtnaamjpiaekmeaaGreatGa
set_option linter.unusedVariables false
set_option linter.unusedSimpArgs false
namespace Go.Proofs.YtnaamjpiaekmeaaGreat
open Go.RowKit
theorem infoL : (Tryz.prog.info? 50).map (fun i => (i.zero, i.size, i.bytes)) = some (some (.slice none 0 0), 1, 24) := by kernel_rfl
theorem infoLL : (Tryz.prog.info? 34).map (fun i => (i.zero, i.size, i.bytes)) = some (some (.slice none 0 0), 1, 24) := by kernel_rfl
def zeroTab : Array Value := #[.slice none 0 0, .slice none 0 0, .slice none 0 0, .string ⟨#[]⟩, .slice none 0 0, .slice none 0 0]
theorem zero_tab : (Tryz.prog.info? 36).map (fun i => i.zero) = some (some (.agg zeroTab)) := by kernel_rfl
theorem sizeGm : (Tryz.prog.info? 25).map (·.size) = some 3 := by kernel_rfl
theorem built_tab (a b c : Value) (W : List UInt8) : Tryz.prog.built 36 [(0, .agg #[a, b, c]), (1, encStr W)] = some #[a, b, c, encStr W, .slice none 0 0, .slice none 0 0] := by kernel_rfl
def L1R (w2 : World) (qt : Nat) (g0 g1 g2 : Value) (W : List UInt8) (m n N : Nat) (iv : Value) (wx : World) : Prop :=
 ∃ (d : Nat) (blk : List Nat) (es fs : List Value) (exv frv : Value), d ≤ N ∧ iv = .int .i64 (d : Int) ∧ es.length = d ∧ fs.length = d ∧ blk.length = d * (m + 1) ∧ Fr [] w2 wx ∧ PtrU wx w2.heap.size qt g0 g1 g2 W m blk es fs exv frv ∧ RowsU wx w2.heap.size m blk (U0 m n)
def L2R (w2 ws : World) (m n d : Nat) (blk : List Nat) (ev iv : Value) (wx : World) : Prop :=
 ∃ (p : Nat) (blk' : List Nat) (us : List Value), p ≤ m ∧ iv = .int .i64 (p : Int) ∧ Fr [] ws wx ∧ blk'.length = blk.length + p ∧ (∃ s, blk' = blk ++ s) ∧ RowsU wx w2.heap.size m blk' (U0 m n) ∧ wx.ownsRow ws.heap.size tL 1 ev p us ∧ ∀ p', p' < p → us[p']? = some (rowV (blk'.getD (blk.length + p') 0) m)
set_option maxRecDepth 100000 in
set_option maxHeartbeats 8000000 in
theorem rmakeg_any (g : GramG) (gv : Value) (W : List UInt8) (w : World) (hg : gramAt w gv g) (hv : ValidG g) (hp : ∀ i, i < g.names.length → ProdN g i) (hW : W.length ≤ 1000) :
  Calls Tryz.prog 14 #[gv, encStr W] w (RMakeG g gv W g.names.length w) := by
 obtain ⟨iB, hiB, hB0, hB1, hB2'⟩ := info_parts infoBool
 obtain ⟨iL, hiL, hL0, hL1, hL2⟩ := info_parts infoL
 obtain ⟨iM, hiM, hM0, hM1, hM2⟩ := info_parts infoLL
 obtain ⟨a1, c1, a2, c2, a3, c3, rfl, hgn, hgt, hgr⟩ := hg.parts
 have HG := Lib.hid hg
 obtain ⟨N, hN⟩ : ∃ N, N = g.names.length := ⟨_, rfl⟩
 obtain ⟨N2, hN2⟩ : ∃ N2, N2 = g.terms.length := ⟨_, rfl⟩
 obtain ⟨N3, hN3⟩ : ∃ N3, N3 = g.rules.length := ⟨_, rfl⟩
 rw [← hN3] at hgr
 rw [← hN, ← hN2, ← hN3] at HG ⊢
 obtain ⟨n, hn⟩ : ∃ n, n = W.length := ⟨_, rfl⟩
 rw [← hn] at hW
 obtain ⟨G, hG⟩ : ∃ G : Array Value, G = #[.slice a1 N c1, .slice a2 N2 c2, .slice a3 N3 c3] := ⟨_, rfl⟩
 have hGs : (Tryz.prog.info? 25).map (·.size) = some G.size := by rw [hG]; exact sizeGm
 obtain ⟨C0, hC0⟩ : ∃ C0 : Array Value, C0 = #[.slice a1 N c1, .slice a2 N2 c2, .slice a3 N3 c3, encStr W, .slice none 0 0, .slice none 0 0] := ⟨_, rfl⟩
 have hC0s : (Tryz.prog.info? 36).map (·.size) = some C0.size := by rw [hC0]; exact sizeTab
 have hC0z : zeroTab.size = C0.size := by rw [hC0]; rfl
 have hC0o : C0.all (·.oneCell') = true := by rw [hC0]; simp [Value.oneCell', Go.Proofs.encStr]
 have hbt := built_tab (.slice a1 N c1) (.slice a2 N2 c2) (.slice a3 N3 c3) W
 rw [← hG, ← hC0] at hbt
 rw [← hG]
 obtain ⟨Z0, hZ0⟩ : ∃ Z0, Z0 = zeroTab := ⟨_, rfl⟩
 have hzt := zero_tab
 rw [← hZ0] at hC0z hzt
 have HZZ := Lib.hid hzt
 have HZS := Lib.hid (show Z0.size = 6 by rw [hZ0]; rfl)
 have HGE := Lib.hid hG
 have HCE := Lib.hid hC0
 have HRU := Lib.hid (fun wx (hf : Fr [] w wx) => show rulesAt wx (.slice a3 N3 c3) g.rules from hgr.1.below hf)
 have HSY := Lib.hid (syms_rule hv)
 have HDE := Lib.hid (ders_rule hv hp)
 have HLF := Lib.hid (show ∀ r ∈ g.rules, ∃ a : Nat, r.left = (a : Int) ∧ a < g.names.length from fun r hr => by
  obtain ⟨h1, h2, -⟩ := hv.rules r hr
  obtain ⟨a, ha⟩ := Int.eq_ofNat_of_zero_le h1
  exact ⟨a, ha, by omega⟩)
 have HS0 := Lib.hid (fun m (hm : m = W.length + 1) => sound_U0 (g := g) (N := g.names.length) hm (fun a ha => ders_sym hv hp (show -256 ≤ (a : Int) by omega) (by omega)))
 rw [← hN] at HSY HLF HS0
 have HN3 := Lib.hid hN3
 have hR3 : N3 ≤ 4096 := by rw [hN3]; exact hv.few
 clear hg hgn hgt hgr hG hC0 hZ0 hzt
 go_enter Tryz.func14, Tryz.ntmps14
 go_upto_region 1 with (refine wpL_boxArr rfl _ _ rfl G rfl ?_; intro w1 hh1 hf1 hz1; refine wpL_newArr rfl _ rfl Z0 HZZ.out ?_; intro w2 hh2 hf2 hz2; refine Hid.out ?_)
 refine Lib.hid ?_
 obtain ⟨q0, hq0⟩ : ∃ q, q = w.heap.size := ⟨_, rfl⟩
 have hb1 := hf2.heap hh1.out (by simp)
 rw [← hq0] at hb1
 rw [← hq0]
 obtain ⟨qr, hqr⟩ : ∃ q, q = w1.heap.size := ⟨_, rfl⟩
 have hbr := hh2.out
 rw [← hqr] at hbr
 rw [← hqr]
 have HB1 := Lib.hid hb1
 have HBR := Lib.hid hbr
 have HQ0 := Lib.hid hq0
 have HQR := Lib.hid (show w.heap.size ≤ qr by have := hf1.size; omega)
 have HQR2 := Lib.hid (show qr < w2.heap.size from lt_k hbr)
 have HF2 := Lib.hid (hf1.tr0 hf2)
 clear hb1 hbr hh1 hh2 hf1 hf2 hz1 hz2 hq0 hqr
 go_upto_region 2 with (first
  | (refine wpList_load_row rfl _ _ rfl q0 rfl _ G _ _ HB1.out Tryz.underlying25 rfl hGs ?_)
  | (refine wpL_build rfl _ _ rfl C0 _ rfl hbt ?_; refine wpL_newArr rfl _ rfl Z0 HZZ.out ?_; intro w3 hh3 hf3 hz3; refine wpL_storeArr rfl _ _ _ rfl w2.heap.size C0 Z0 rfl rfl _ hh3.out hC0s hC0z hC0o ?_; intro w4 hh4 hf4 hz4; refine Hid.out ?_))
 refine Lib.hid ?_
 obtain ⟨qt, hqt⟩ : ∃ q, q = w2.heap.size := ⟨_, rfl⟩
 have hb4 := hh4.out
 rw [← hqt] at hb4
 rw [← hqt]
 rw [HCE.out] at hb4
 have HF4 := Lib.hid (show Fr [] w2 w4 from hf3.trans hf4 (by simp) (fun k hk hlt => by have : k = w2.heap.size := (by simpa using hk); omega))
 have HP4 := Lib.hid (show PtrU w4 w2.heap.size qt (.slice a1 N c1) (.slice a2 N2 c2) (.slice a3 N3 c3) W (n + 1) [] [] [] (.slice none 0 0) (.slice none 0 0) from
  ⟨hb4, World.ownsRow_nil _ _ _ _, World.ownsRow_nil _ _ _ _, by simp, fun a h => by simp at h, fun a h => by simp at h⟩)
 have HQT := Lib.hid hqt
 clear hh3 hf3 hz3 hh4 hf4 hz4 hqt hb4 hbt hC0s hC0z hC0o HZZ
 obtain ⟨m, hm⟩ : ∃ m, m = n + 1 := ⟨_, rfl⟩
 rw [← hm] at HP4
 have HM := Lib.hid hm
 have hwl : W.length = n := hn.symm
 have hmle : m ≤ 1001 := by omega
 have hnm : n < m := by omega
 have hN256 : N ≤ 256 := by have := hv.syms; omega
 clear hm
 have hb1' : w4.heap[q0]? = some (.cells G 25 (0, 0)) := HF4.out.heap HB1.out (by simp)
 clear hN hN2 hN3 hn
 go_wp2_with fail
 go_loopw [6] (L1R w2 qt (.slice a1 N c1) (.slice a2 N2 c2) (.slice a3 N3 c3) W m n N) (fun iv _ => N - (intOf iv).toNat)
 case atStart => exact ⟨0, [], [], [], _, _, Nat.zero_le _, rfl, rfl, rfl, by simp, HF4.out, HP4.out, RowsU.nil _ _ _ _⟩
 case round =>
  clear HP4
  obtain ⟨d, blk, es, fs, exv, frv, hd, rfl, hes, hfs, hbl, hfr, hptr, hrows⟩ := hrel
  have hbg : wr.heap[q0]? = some (.cells G 25 (0, 0)) := hfr.heap HB1.out (by simp)
  have x0 : wr.cell? ⟨q0, 0, none⟩ = some (.slice a1 N c1) := by rw [cell_of_heap hbg, HGE.out]; rfl
  have HPTR := Lib.hid hptr
  have HROWS := Lib.hid hrows
  have HFR := Lib.hid hfr
  by_cases hdn : d < N
  ·have hd1 : decide (d < N) = true := decide_eq_true hdn
   have HES := Lib.hid hes
   have HFS := Lib.hid hfs
   have HBL := Lib.hid hbl
   clear hptr hrows hfr hbg hes hfs hbl
   obtain ⟨ws, hws⟩ : ∃ ws, ws = wr := ⟨_, rfl⟩
   rw [← hws] at HPTR HROWS HFR x0 ⊢
   clear hws
   go_wp2_with fail
   clear x0
   go_loopw [7, 8] (L2R w2 ws m n d blk) (fun _ iv _ => m - (intOf iv).toNat)
   case atStart => exact ⟨0, blk, [], Nat.zero_le _, rfl, Fr.refl _ _, rfl, ⟨[], by simp⟩, HROWS.out, World.ownsRow_nil _ _ _ _, fun p' h => by omega⟩
   case round =>
    clear HROWS
    obtain ⟨p, blk', us, hp, rfl, hfr, hbl', hpre, hrows, hown, hus⟩ := hrel
    have HFR2 := Lib.hid hfr
    have HBL' := Lib.hid hbl'
    have HPRE := Lib.hid hpre
    have HROWS := Lib.hid hrows
    have HOWN := Lib.hid hown
    have HUS := Lib.hid hus
    by_cases hpm : p < m
    ·have hd2 : decide (p ≤ n) = true := decide_eq_true (by have := HM.out; omega)
     obtain ⟨a7, c7, rfl, hc7, hm7⟩ := owns_slice hown
     clear hfr hbl' hpre hrows hown hus
     have hB2 : w2.heap.size ≤ wr.heap.size := Nat.le_trans HFR.out.size HFR2.out.size
     have HLEN := Lib.hid (show blk'.length = d * (m + 1) + p by rw [HBL'.out, HBL.out])
     obtain ⟨b, hb⟩ : ∃ b, b = wr.heap.size := ⟨_, rfl⟩
     have HBE := Lib.hid hb
     rw [← hb] at hB2
     clear hb
     go_wp2_with (first
      | (at_builtin; refine wpL_append1 rfl _ _ 34 rfl ws.heap.size 50 iL (.slice none 0 0) 24 Tryz.underlying34 hiL hL0 hL1 hL2 rfl (.slice a7 p c7) p us rfl HOWA.out (rowV b m) rfl rfl (by omega) (by simp only [maxLen]; omega) HFA.out.size ?_; intro v9 w9 hown9 hf9 hb9; have HR9 := Lib.hid (HRA.out.own HOWA.out (by decide) hf9); have HF9 := Lib.hid (HFA.out.own HOWA.out hf9); have HO9 := Lib.hid hown9; clear hown9 hf9 hb9)
      | (refine wpL_make rfl _ _ 50 rfl 4 iB (.bool false) 1 Tryz.underlying50 hiB hB0 hB1 hB2' rfl m (by rw [HM.out]; rfl) (by rw [HM.out]; rfl) (by omega) (by simp only [maxLen]; omega) ?_; intro wa hh hf hz; rw [← HBE.out] at hh ⊢; have HRA := Lib.hid (HROWS.out.push hf (by rw [← HBE.out]; exact hB2) (by rw [← HBE.out]; exact (rowF.new hh.out).congr (fun j _ => by rw [HLEN.out, U0_row hpm]))); have HOWA := Lib.hid (owns_kept HOWN.out hf (by simp)); have HFA := Lib.hid (HFR2.out.tr0 hf); clear hh hf hz))
     rw [← HBE.out] at HR9
     go_roundw
     case rel => exact ⟨p + 1, blk' ++ [b], us ++ [rowV b m], by omega, by go_num, HF9.out, by rw [List.length_append, HBL'.out]; rfl, by obtain ⟨t, ht⟩ := HPRE.out; exact ⟨t ++ [b], by rw [ht, List.append_assoc]⟩, HR9.out, HO9.out, fun p' hp' => by
      have hul : us.length = p := by have := HOWN.out.1; omega
      by_cases e : p' < p
      ·rw [List.getElem?_append_left (by omega), HUS.out p' e]
       congr 2
       rw [List.getD_eq_getElem?_getD, List.getD_eq_getElem?_getD, List.getElem?_append_left (by rw [HBL'.out]; omega)]
      ·have e2 : p' = p := by omega
       subst e2
       rw [List.getElem?_append_right (by omega), hul, Nat.sub_self]
       simp only [List.getElem?_cons_zero]
       congr 2
       rw [List.getD_eq_getElem?_getD, List.getElem?_append_right (by rw [HBL'.out]; exact Nat.le_refl _), HBL'.out, Nat.sub_self]
       rfl⟩
     case measure => simp [intOf]; omega
    ·have hd2 : decide (p ≤ n) = false := decide_eq_false (by have := HM.out; omega)
     have hpe : p = m := by omega
     rw [hpe] at HBL' HOWN HUS
     obtain ⟨a7, c7, rfl, hc7, hm7⟩ := owns_slice HOWN.out
     clear hpe hp hfr hbl' hpre hrows hown hus
     have HLEN := Lib.hid (show blk'.length = d * (m + 1) + m by rw [HBL'.out, HBL.out])
     have HPW := Lib.hid ((HPTR.out.fr HFR2.out).blk (blk' := blk') (by rw [HES.out, HBL.out]; omega) (by rw [HFS.out, HBL.out]; exact Nat.le_refl _) HPRE.out)
     have hB2 : w2.heap.size ≤ wr.heap.size := Nat.le_trans HFR.out.size HFR2.out.size
     have hexo := HPW.out.exo
     rw [HES.out] at hexo
     obtain ⟨ax, cx, rfl, hcx, hmx⟩ := owns_slice hexo
     have HEXO := Lib.hid hexo
     have x4 : wr.cell? ⟨qt, 4, none⟩ = some (.slice ax d cx) := by rw [cell_of_heap HPW.out.box]; rfl
     have HAP := Lib.hid (show ∀ k, frv.ownBlock = some k → (Value.slice a7 m c7).ownBlock ≠ some k from fun k hk he => by
      have h1 := (HPTR.out.fro.lt k hk).2
      have h2 := (HOWN.out.lt k he).1
      omega)
     have HEV := Lib.hid (show wr.ownsRow w2.heap.size tL 1 (.slice a7 m c7) m us from owns_base HOWN.out (fun k hk => Nat.le_trans HFR.out.size (HOWN.out.lt k hk).1))
     have HUS2 := Lib.hid (show ∀ q, q < m → us[q]? = some (rowV (blk'.getD (es.length * (m + 1) + q) 0) m) from fun q hq => by rw [HUS.out q hq, HES.out, HBL.out])
     clear hexo
     go_upto_region 11 with (at_builtin; refine wpL_append1 rfl _ _ 33 rfl w2.heap.size 34 iM (.slice none 0 0) 24 Tryz.underlying33 hiM hM0 hM1 hM2 rfl (.slice ax d cx) d es rfl HEXO.out (.slice a7 m c7) rfl rfl (by omega) (by simp only [maxLen]; omega) hB2 ?_; intro v5 w5 hown5 hf5 hb5; have hbx := hf5.heap HPW.out.box (box_not_own HPW.out.box HEXO.out (by decide)); have z4 : w5.cell? ⟨qt, 4, none⟩ = some (.slice ax d cx) := (by rw [cell_of_heap hbx]; rfl); have z4f := free_of_heap hbx 4; obtain ⟨a9, c9, rfl, hc9, hm9⟩ := owns_slice hown5; have HO5 := Lib.hid hown5; have HF5 := Lib.hid hf5; have HBX := Lib.hid hbx; clear hown5 hf5 hb5 hbx)
     have HP6 := Lib.hid (HPW.out.pushE (by rw [HES.out]; exact HO5.out) HF5.out HEV.out HUS2.out HAP.out)
     have HR6 := Lib.hid ((HROWS.out.own HEXO.out (by decide) HF5.out).box HBX.out (Fr.set0 w5 qt 4 (.slice a9 (d + 1) c9)))
     have HF6 := Lib.hid (show Fr [] w2 (w5.setCell ⟨qt, 4, none⟩ (.slice a9 (d + 1) c9)) from Fr.newer ((HFR.out.tr0 HFR2.out).own HEXO.out HF5.out) (by have := HQT.out; omega))
     obtain ⟨w6, hw6⟩ : ∃ w6, w6 = w5.setCell ⟨qt, 4, none⟩ (.slice a9 (d + 1) c9) := ⟨_, rfl⟩
     rw [← hw6] at HP6 HR6 HF6 ⊢
     clear hw6 x4 z4 z4f HO5 HF5 HBX HPW HEXO HAP HEV HUS2 HOWN HUS
     have hB6 : w2.heap.size ≤ w6.heap.size := HF6.out.size
     obtain ⟨b, hb⟩ : ∃ b, b = w6.heap.size := ⟨_, rfl⟩
     have HBE := Lib.hid hb
     rw [← hb] at hB6
     clear hb
     go_upto_region 12 with (refine wpL_make rfl _ _ 50 rfl 4 iB (.bool false) 1 Tryz.underlying50 hiB hB0 hB1 hB2' rfl m (by rw [HM.out]; rfl) (by rw [HM.out]; rfl) (by omega) (by simp only [maxLen]; omega) ?_; intro w7 hh hf hz; rw [← HBE.out] at hh ⊢; have HN7 := Lib.hid (rowF.new hh.out); have HF7 := Lib.hid hf; clear hh hf hz)
     have y1 := HN7.out.cell hnm
     have y2 := HN7.out.free n
     go_upto_region 13 with fail
     have HN8 := Lib.hid (HN7.out.set hnm)
     have HF8 := Lib.hid (show Fr [] w6 (w7.setCell ⟨b, n, none⟩ (.bool true)) from Fr.newer HF7.out (by rw [← HBE.out]; exact Nat.le_refl _))
     obtain ⟨w8, hw8⟩ : ∃ w8, w8 = w7.setCell ⟨b, n, none⟩ (.bool true) := ⟨_, rfl⟩
     rw [← hw8] at HN8 HF8 ⊢
     clear hw8 y1 y2 HN7 HF7
     have HR8 := Lib.hid (HR6.out.push HF8.out (by rw [← HBE.out]; exact hB6) (by rw [← HBE.out]; exact HN8.out.congr (fun j _ => by rw [HLEN.out, U0_end]; simp)))
     rw [← HBE.out] at HR8
     have HP8 := Lib.hid ((HP6.out.fr HF8.out).blk (blk' := blk' ++ [b]) (by rw [List.length_append, HES.out, HLEN.out]; simp only [List.length_cons, List.length_nil]; rw [Nat.add_mul]; omega) (by rw [HFS.out, HLEN.out]; omega) ⟨[b], rfl⟩)
     have HF28 := Lib.hid (HF6.out.tr0 HF8.out)
     have hfro := HP8.out.fro
     rw [HFS.out] at hfro
     obtain ⟨ay, cy, rfl, hcy, hmy⟩ := owns_slice hfro
     have HFRO := Lib.hid hfro
     have x5 : w8.cell? ⟨qt, 5, none⟩ = some (.slice ay d cy) := by rw [cell_of_heap HP8.out.box]; rfl
     have hB8 : w2.heap.size ≤ w8.heap.size := HF28.out.size
     clear hfro HP6 HR6 HF6 HN8
     go_wp2_with (at_builtin; refine wpL_append1 rfl _ _ 34 rfl w2.heap.size 50 iL (.slice none 0 0) 24 Tryz.underlying34 hiL hL0 hL1 hL2 rfl (.slice ay d cy) d fs rfl HFRO.out (rowV b m) rfl rfl (by omega) (by simp only [maxLen]; omega) hB8 ?_; intro v5 w9 hown5 hf5 hb5; have hbx := hf5.heap HP8.out.box (box_not_own HP8.out.box HFRO.out (by decide)); have z5 : w9.cell? ⟨qt, 5, none⟩ = some (.slice ay d cy) := (by rw [cell_of_heap hbx]; rfl); have z5f := free_of_heap hbx 5; obtain ⟨a10, c10, rfl, hc10, hm10⟩ := owns_slice hown5; have HO5 := Lib.hid hown5; have HF5 := Lib.hid hf5; have HBX := Lib.hid hbx; have HBB := Lib.hid hb5; clear hown5 hf5 hb5 hbx)
     have HP10 := Lib.hid (HP8.out.pushF (by rw [HFS.out]; exact HO5.out) HF5.out HBB.out (show rowV b m = rowV ((blk' ++ [b]).getD (fs.length * (m + 1) + m) 0) m by
      congr 1
      rw [HFS.out, List.getD_eq_getElem?_getD, List.getElem?_append_right (by rw [HLEN.out]; exact Nat.le_refl _), HLEN.out, Nat.sub_self]
      rfl))
     have HR10 := Lib.hid ((HR8.out.own HFRO.out (by decide) HF5.out).box HBX.out (Fr.set0 w9 qt 5 (.slice a10 (d + 1) c10)))
     have HF10 := Lib.hid (show Fr [] w2 (w9.setCell ⟨qt, 5, none⟩ (.slice a10 (d + 1) c10)) from Fr.newer (HF28.out.own HFRO.out HF5.out) (by have := HQT.out; omega))
     go_roundw
     case rel => exact ⟨d + 1, blk' ++ [b], _, _, _, _, by omega, by go_num, by rw [List.length_append, HES.out]; rfl, by rw [List.length_append, HFS.out]; rfl, by rw [List.length_append, HLEN.out, Nat.succ_mul]; simp only [List.length_singleton]; omega, HF10.out, HP10.out, HR10.out⟩
     case measure => simp [intOf]; omega
  ·have hd1 : decide (d < N) = false := decide_eq_false hdn
   have hdN : d = N := by omega
   rw [hdN] at hes hfs hbl
   have HRD := Lib.hid (show RdS w2 wr g W N m qt (.slice a1 N c1) (.slice a2 N2 c2) (.slice a3 N3 c3) blk es fs exv frv (U0 m n) from
    ⟨hfr, hptr, hrows, by rw [← hwl]; exact HS0.out m (by rw [hwl]; exact HM.out)⟩)
   have HES := Lib.hid hes
   have HFS := Lib.hid hfs
   have HBL := Lib.hid hbl
   obtain ⟨CT, hCT⟩ : ∃ CT : Array Value, CT = #[.slice a1 N c1, .slice a2 N2 c2, .slice a3 N3 c3, encStr W, exv, frv] := ⟨_, rfl⟩
   have HCTO := Lib.hid (show CT.all (·.oneCell') = true from by
    obtain ⟨ax, cx, e1, -, -⟩ := owns_slice hptr.exo
    obtain ⟨ay, cy, e2, -, -⟩ := owns_slice hptr.fro
    rw [hCT, e1, e2]
    simp [Value.oneCell', Go.Proofs.encStr])
   have hCTs : (Tryz.prog.info? 36).map (·.size) = some CT.size := by rw [hCT]; exact sizeTab
   have HCT := Lib.hid hCT
   have HBOX := Lib.hid (show ∀ wx U, RdS w2 wx g W N m qt (.slice a1 N c1) (.slice a2 N2 c2) (.slice a3 N3 c3) blk es fs exv frv U → wx.heap[qt]? = some (.cells CT tTab (0, 0)) from fun wx U h => by rw [hCT]; exact h.ptr.box)
   have HTK := Lib.hid (show ∀ wx U, RdS w2 wx g W N m qt (.slice a1 N c1) (.slice a2 N2 c2) (.slice a3 N3 c3) blk es fs exv frv U → TabK wx CT W N (TU N m U) (FU N m U) from fun wx U h => by rw [hCT]; exact h.tab hes hfs hbl (by rw [hwl]; exact HM.out) (by simp only [maxLen]; omega))
   have HGB := Lib.hid (show ∀ wx, Fr [] w2 wx → wx.heap[q0]? = some (.cells G 25 (0, 0)) from fun wx h => h.heap HB1.out (by simp))
   clear hes hfs hbl hfr hptr hrows hbg hCT HPTR HROWS HFR hd hdN
   go_wp2_with fail
   clear x0 hb1'
   go_loopw [10] (R3 w2 g W N m qt (.slice a1 N c1) (.slice a2 N2 c2) (.slice a3 N3 c3) blk es fs exv frv) (fun mv wx => 2 * cW wx blk m + bit mv)
   case atStart => exact ⟨true, _, rfl, HRD.out, fun h => by cases h⟩
   case round =>
    clear HRD
    obtain ⟨f0, Us, rfl, hrd0, hcl0⟩ := hrel
    have HRD0 := Lib.hid hrd0
    cases f0 with
    | false =>
      have HCL := Lib.hid (closed_of (hcl0 rfl))
      have hbt := HBOX.out _ _ hrd0
      have hbr := hrd0.fr.heap HBR.out (by simp)
      have HFE := Lib.hid (HF2.out.tr0 hrd0.fr)
      clear hrd0 hcl0
      go_wp2_with (refine wpList_load_row rfl _ _ rfl qt rfl _ CT _ _ hbt Tryz.underlying36 rfl hCTs ?_; refine wpL_storeArr rfl _ _ _ rfl qr CT Z0 rfl rfl _ hbr hCTs (by rw [HZS.out, HCT.out]; rfl) HCTO.out ?_; intro w9 hh9 hf9 hz9)
      refine bodyPost_ret (v := .agg CT) ?_ rfl ?_
      ·exact results_cell_row rfl _ _ qr 36 CT (0, 0) _ rfl hh9.out Tryz.underlying36 rfl hCTs
      ·exact ⟨CT, _, _, rfl, HCTO.out, fun L wy hL hfy => by rw [HCT.out]; exact HRD0.out.tabLow (L := qr :: L) (hf9.trans hfy (fun i hi => by have : i = qr := (by simpa using hi); simp [this]) (fun i hi _ => List.mem_cons_of_mem _ hi)) (fun r hr => (List.mem_cons.1 hr).elim (fun e => by rw [e]; exact HQR2.out) (fun h => by have h1 := hL r h; have := HQR.out; have := HQR2.out; omega)) (by have := HQT.out; omega) HES.out HFS.out HBL.out (by rw [hwl]; exact HM.out) (by simp only [maxLen]; omega), HRD0.out.snd.t, HRD0.out.snd.f, HCL.out, HFE.out.trans hf9 (by simp) (fun k hk hlt => by have h1 : k = qr := (by simpa using hk); have := HQR.out; omega), _, _, _, _, _, by rw [HGE.out], HCT.out⟩
    | true =>
      clear hcl0
      have HC0 := Lib.hid (cW_eq hrd0.rows)
      obtain ⟨W0, hW0⟩ : ∃ W0, W0 = 2 * cW wr blk m + bit (.bool true) := ⟨_, rfl⟩
      have HW0 := Lib.hid hW0
      clear hrd0 hW0
      go_wp2_with fail
      go_loopw [10, 11] (R4 w2 g W N m qt (.slice a1 N c1) (.slice a2 N2 c2) (.slice a3 N3 c3) blk es fs exv frv Us N3) (fun _ iv _ => N3 - (intOf iv).toNat)
      case atStart => exact ⟨0, false, Us, Nat.zero_le _, rfl, rfl, HRD0.out, (fun h => by cases h), fun _ => ⟨rfl, fun k hk h => by omega⟩⟩
      case round =>
       obtain ⟨i, f, U, hi, rfl, rfl, hrd, hlt, hcl⟩ := hrel
       have x2 : wr.cell? ⟨q0, 2, none⟩ = some (.slice a3 N3 c3) := by rw [cell_of_heap (HGB.out _ hrd.fr), HGE.out]; rfl
       have HRD := Lib.hid hrd
       have HLT := Lib.hid hlt
       have HCL := Lib.hid hcl
       by_cases hin : i < N3
       ·have hd4 : decide (i < N3) = true := decide_eq_true hin
        have hil : i < g.rules.length := by rw [← HN3.out]; exact hin
        obtain ⟨b3, o3, v3, e3, k0, k1, hiv⟩ := rule_cells (HRU.out _ (HF2.out.tr0 hrd.fr)) i hil
        rw [e3] at x2
        have hrm := List.getElem_mem hil
        obtain ⟨r, hr⟩ : ∃ r, r = g.rules[i]'hil := ⟨_, rfl⟩
        rw [← hr] at k0 hrm
        obtain ⟨a, hla, haN⟩ := HLF.out r hrm
        rw [hla] at k0
        have HRE := Lib.hid hr
        have HRM := Lib.hid hrm
        have HLA := Lib.hid hla
        clear hrd hlt hcl k1 hiv hr hrm hla e3
        go_wp2_with fail
        clear x2 k0
        go_loopw [10, 13] (R5 w2 g W N m qt (.slice a1 N c1) (.slice a2 N2 c2) (.slice a3 N3 c3) blk es fs exv frv Us i r) (fun _ pv _ => m - (intOf pv).toNat)
        case atStart => exact ⟨0, f, U, Nat.zero_le _, rfl, rfl, HRD.out, HLT.out, fun h => ⟨(HCL.out h).1, (HCL.out h).2, fun p' hp' => by omega⟩⟩
        case round =>
         clear HRD HLT HCL
         obtain ⟨p, f, U, hp, rfl, rfl, hrd, hlt, hcl⟩ := hrel
         by_cases hpm : p < m
         ·have hd5 : decide (p ≤ n) = true := decide_eq_true (by have := HM.out; omega)
          have x2 : wr.cell? ⟨q0, 2, none⟩ = some (.slice a3 N3 c3) := by rw [cell_of_heap (HGB.out _ hrd.fr), HGE.out]; rfl
          obtain ⟨b3, o3, v3, e3, k0, k1, hiv⟩ := rule_cells (HRU.out _ (HF2.out.tr0 hrd.fr)) i hil
          rw [e3] at x2
          rw [← HRE.out] at hiv
          have HE3 := Lib.hid e3
          have HEN := Lib.hid (fun wx (hf : Fr [] wr wx) => rends_any CT W N (TU N m U) (FU N m U) r.right v3 p wx (HSY.out r HRM.out) (by omega) (by rw [hwl]; omega) (by rw [hwl]; have := HM.out; omega) (hiv.below hf) ((HTK.out _ _ hrd).below hf))
          obtain ⟨a5, c5, hv3, hc5, hm5⟩ := hiv.form
          have HESD := Lib.hid (show ∀ q, q ≤ W.length → atB (endsB (TU N m U) W r.right (unitB W p)) q = true → p ≤ q ∧ DerS g [(a : Int)] (partW W p q) from fun q hq hh => ends_rule hrd.snd.t HRM.out HLA.out hq hh)
          have HEQ := Lib.hid (show f = false → endsB (TU N m U) W r.right (unitB W p) = endsB (TU N m Us) W r.right (unitB W p) from fun e => by rw [(hcl e).1])
          have HEL := Lib.hid (show (endsB (TU N m U) W r.right (unitB W p)).length = m from by rw [ends_len _ _ _ _ (by simp [unitB]), hwl]; exact HM.out.symm)
          obtain ⟨E, hE⟩ : ∃ E, E = endsB (TU N m U) W r.right (unitB W p) := ⟨_, rfl⟩
          rw [← hE] at HEN HESD HEQ HEL
          have HBX := Lib.hid (HBOX.out _ _ hrd)
          have HX2 := Lib.hid x2
          have HK1 := Lib.hid k1
          have HRD := Lib.hid hrd
          have HLT := Lib.hid hlt
          have HCL := Lib.hid hcl
          clear hrd hlt hcl x2 k0 k1 e3 hiv hE hv3
          go_upto_region 24 with fail
          refine wp_region_G [] [(0, false), (1, false), (2, false), (3, false), (4, false), (5, false), (6, false), (7, false), (8, true), (9, false)] 150 rfl (by kernel_rfl) (by kernel_rfl) (by kernel_rfl) (fun c a d v w h => by cases d <;> exact h) (fun wd hfd => ?_)
          simp only [List.map_cons, List.map_nil, List.getElem?_toArray, List.getElem?_cons_succ, List.getElem?_cons_zero, Option.getD_some]
          have HFD := Lib.hid hfd
          clear hfd
          repeat (apply wpG_t; · (intro w' hf'; have hk := HFD.out.tr0 hf'; have d1 := hk.heap HBX.out (by simp); have d2 := hk.cell HX2.out (by simp); have d3 := hk.cell HK1.out (by simp); clear hk; go_wp2_with (refine wpList_load_row rfl _ _ rfl qt rfl _ CT _ _ d1 Tryz.underlying36 rfl hCTs ?_); exact ⟨rfl, rfl⟩))
          refine wpG_x ?_
          go_wp2_with (go_at_call 34; refine (HEN.out _ HFD.out).mono ?_; rintro e w5 ⟨v5, rfl, hs5, hf5, hn5⟩)
          refine ⟨hf5, rfl, ?_⟩
          obtain ⟨ae, ce, rfl, hce, hme⟩ := hs5.form
          rw [HEL.out] at hce hs5 hn5 ⊢
          have HS5 := Lib.hid hs5
          have HF5 := Lib.hid (HFD.out.tr0 hf5)
          have HENW := Lib.hid (show ∀ k, (Value.slice ae m ce).ownBlock = some k → k ∉ blk from fun k hk hm2 => by
           have h1 := hn5 k hk
           obtain ⟨j, hj, rfl⟩ := List.getElem_of_mem hm2
           have h2 := (HRD.out.rows.row j hj).lt
           have h3 := HFD.out.size
           omega)
          have HRD5 := Lib.hid (HRD.out.later HF5.out)
          clear hs5 hf5 hn5 HEN HBX HX2 HK1 HRD HFD
          apply wpG_t
          ·(intro w' hf'; go_wp2_with fail; exact ⟨rfl, rfl⟩)
          refine wpG_end ?_
          go_wp2_with fail
          go_loopw [10, 15] (R6 w2 g W N m qt (.slice a1 N c1) (.slice a2 N2 c2) (.slice a3 N3 c3) blk es fs exv frv Us i p r (.slice ae m ce) E) (fun _ qv _ => m - (intOf qv).toNat)
          case atStart => exact ⟨0, f, U, Nat.zero_le _, rfl, rfl, HRD5.out, HS5.out, HLT.out, fun e => ⟨(HCL.out e).1, (HCL.out e).2.1, (HCL.out e).2.2, HEQ.out e, fun q' hq' => by omega⟩⟩
          case round =>
           clear HRD5 HS5 HLT HCL HEQ
           obtain ⟨q, f, U, hq, rfl, rfl, hrd, hst, hlt, hcl⟩ := hrel
           by_cases hqm : q < m
           ·have hd6 : decide (q ≤ n) = true := decide_eq_true (by have := HM.out; omega)
            have hqE : q < E.length := by rw [HEL.out]; exact hqm
            obtain ⟨be, oe, e6, c0e⟩ := bool_cell hst q hqE
            have hatE : atB E q = E[q]'hqE := by unfold atB; rw [List.getD_eq_getElem?_getD, List.getElem?_eq_getElem hqE]; rfl
            obtain ⟨eb, heb⟩ : ∃ eb, eb = E[q]'hqE := ⟨_, rfl⟩
            rw [← heb] at c0e hatE
            have HRD := Lib.hid hrd
            have HLT := Lib.hid hlt
            have HCL := Lib.hid hcl
            have HST := Lib.hid hst
            cases e6
            cases eb with
            | false =>
              have HNX := Lib.hid (show ∀ q', q' < q + 1 → atB E q' = true → q' < q from fun q' h1 h2 => by
               by_cases hqe : q' = q
               ·subst hqe; rw [hatE] at h2; cases h2
               ·omega)
              clear hrd hlt hcl hst heb hatE
              go_wp2_with fail
              go_roundw
              case rel => exact ⟨q + 1, f, U, by omega, by go_num, rfl, HRD.out, HST.out, HLT.out, fun e => by
               obtain ⟨h1, h2, h3, h4, h5⟩ := HCL.out e
               exact ⟨h1, h2, h3, h4, fun q' hq' hh => h5 q' (HNX.out q' hq' hh) hh⟩⟩
              case measure => simp [intOf]; omega
            | true =>
              obtain ⟨b0, o0, k0', b1, o1, k1', hxe, hk0, hk0'', e0, hk1, hk1'', e1, e2, e3⟩ := hrd.way HES.out HBL.out haN hpm hqm
              simp only [maxLen] at hk0'' hk1''
              have x4 : wr.cell? ⟨qt, 4, none⟩ = some (.slice (some ⟨b0, o0, none⟩) N k0') := by rw [cell_of_heap (HBOX.out _ _ hrd), HCT.out, ← hxe]; rfl
              obtain ⟨j6, hj6⟩ : ∃ j, j = a * (m + 1) + p := ⟨_, rfl⟩
              rw [← hj6] at e1 e2 e3
              have hjl6 : j6 < blk.length := by rw [HBL.out, hj6]; exact idx_lt haN (by omega)
              obtain ⟨r6, hr6⟩ : ∃ r6, r6 = blk.getD j6 0 := ⟨_, rfl⟩
              rw [← hr6] at e1 e2 e3
              have hTU : TU N m U (a : Int) p q = U j6 q := by unfold TU; rw [decide_eq_true (show (a : Int) < (N : Int) by omega), hj6]; rfl
              obtain ⟨ub, hub⟩ : ∃ ub, ub = U j6 q := ⟨_, rfl⟩
              rw [← hub] at e2
              have HUB := Lib.hid hub
              have HTU := Lib.hid hTU
              have HJ6 := Lib.hid hj6
              have HR6 := Lib.hid hr6
              have HJL6 := Lib.hid hjl6
              clear hj6 hr6 hub hTU hjl6
              cases ub with
              | true =>
                clear hrd hlt hcl hst heb hatE hxe
                go_wp2_with fail
                go_roundw
                case rel => exact ⟨q + 1, f, U, by omega, by go_num, rfl, HRD.out, HST.out, HLT.out, fun e => by
                 obtain ⟨h1, h2, h3, h4, h5⟩ := HCL.out e
                 refine ⟨h1, h2, h3, h4, fun q' hq' hh => ?_⟩
                 by_cases hqe : q' = q
                 ·subst hqe; rw [HLA.out, ← h1, HTU.out]; exact HUB.out.symm
                 ·exact h5 q' (by omega) hh⟩
                case measure => simp [intOf]; omega
              | false =>
                have HSN := Lib.hid (show SoundU g W N m (upd U j6 q) from by
                 rw [HJ6.out]
                 exact hrd.snd.updT (by rw [hwl]; exact HM.out) (by rw [hwl]; have := HM.out; omega) (HESD.out q (by rw [hwl]; have := HM.out; omega) hatE).2)
                have HR9 := Lib.hid (hrd.put HJL6.out hqm HSN.out)
                rw [← HR6.out] at HR9
                have HST9 := Lib.hid (show boolsAt (wr.setCell ⟨r6, q, none⟩ (.bool true)) (.slice (some ⟨be, oe, none⟩) m ce) E from cellsAt.kept hst (Fr.set0 _ _ _ _) (fun k hk _ _ hm2 => by
                 have e9 : k = r6 := by simpa using hm2
                 refine HENW.out k hk ?_
                 rw [e9, HR6.out, List.getD_eq_getElem?_getD, List.getElem?_eq_getElem HJL6.out]
                 exact List.getElem_mem HJL6.out))
                have HLT9 := Lib.hid (show cU (upd U j6 q) blk.length m < cU Us blk.length m from by
                 have h1 := cU_upd (U := U) HJL6.out hqm HUB.out.symm
                 cases f with
                 | true => have := hlt rfl; omega
                 | false => rw [(hcl rfl).1] at h1 ⊢; exact h1)
                clear hrd hlt hcl hst heb hatE hxe HLT HCL HST HTU HUB HJ6 HJL6 HR6
                go_wp2_with fail
                go_roundw
                case rel => exact ⟨q + 1, true, _, by omega, by go_num, rfl, HR9.out, HST9.out, fun _ => HLT9.out, fun e => by cases e⟩
                case measure => simp [intOf]; omega
           ·have hd6 : decide (q ≤ n) = false := decide_eq_false (by have := HM.out; omega)
            have hqm' : q = m := by omega
            obtain ⟨b8, o8, k8, hfe8, hk8, hk8', f0, f1, f2⟩ := hrd.wayF HFS.out HBL.out haN hpm
            simp only [maxLen] at hk8'
            have x5 : wr.cell? ⟨qt, 5, none⟩ = some (.slice (some ⟨b8, o8, none⟩) N k8) := by rw [cell_of_heap (HBOX.out _ _ hrd), HCT.out, ← hfe8]; rfl
            obtain ⟨j8, hj8⟩ : ∃ j, j = a * (m + 1) + m := ⟨_, rfl⟩
            rw [← hj8] at f0 f1 f2
            have hjl8 : j8 < blk.length := by rw [HBL.out, hj8]; exact idx_lt haN (by omega)
            obtain ⟨r8, hr8⟩ : ∃ r8, r8 = blk.getD j8 0 := ⟨_, rfl⟩
            rw [← hr8] at f0 f1 f2
            have hFU : FU N m U (a : Int) p = U j8 p := by unfold FU; rw [decide_eq_true (show (a : Int) < (N : Int) by omega), hj8]; rfl
            obtain ⟨fb, hfb⟩ : ∃ fb, fb = U j8 p := ⟨_, rfl⟩
            rw [← hfb] at f1
            have x2 : wr.cell? ⟨q0, 2, none⟩ = some (.slice a3 N3 c3) := by rw [cell_of_heap (HGB.out _ hrd.fr), HGE.out]; rfl
            obtain ⟨b3, o3, v3, e3, k0, k1, hiv⟩ := rule_cells (HRU.out _ (HF2.out.tr0 hrd.fr)) i hil
            rw [e3] at x2
            rw [← HRE.out] at hiv
            have HE3 := Lib.hid e3
            have HK := Lib.hid (show (wr.cell? ⟨qt, 5, none⟩ = some (.slice (some ⟨b8, o8, none⟩) N k8) ∧ wr.cell? ⟨b8, o8 + a, none⟩ = some (.slice (some ⟨r8, 0, none⟩) m m) ∧ wr.cell? ⟨r8, p, none⟩ = some (.bool fb)) ∧ (wr.cell? ⟨q0, 2, none⟩ = some (.slice (some ⟨b3, o3, none⟩) N3 c3) ∧ wr.cell? ⟨b3, o3 + i * 2 + 1, none⟩ = some v3) ∧ wr.heap[qt]? = some (.cells CT tTab (0, 0)) from ⟨⟨x5, f0, f1⟩, ⟨x2, k1⟩, HBOX.out _ _ hrd⟩)
            have HPT := Lib.hid (show f = false → U = Us ∧ UsedTo g W (TU N m Us) (FU N m Us) i ∧ (∀ p', p' < p → UsedAt W (TU N m Us) (FU N m Us) r p') ∧ (∀ q', q' ≤ W.length → atB (endsB (TU N m Us) W r.right (unitB W p)) q' = true → TU N m Us r.left p q' = true) from fun e => by
             obtain ⟨h1, h2, h3, h4, h5⟩ := hcl e
             refine ⟨h1, h2, h3, fun q' hq' hh => h5 q' (by rw [hqm', HM.out, ← hwl]; omega) (by rw [h4]; exact hh)⟩)
            have HRD := Lib.hid hrd
            have HLT := Lib.hid hlt
            have HJ8 := Lib.hid hj8
            have HR8 := Lib.hid hr8
            have HJL8 := Lib.hid hjl8
            have HFU := Lib.hid hFU
            have HFB := Lib.hid hfb
            clear hqm' hfe8 x5 f0 f1 x2 k0 k1 e3 hcl hlt hrd hst hj8 hr8 hjl8 hFU hfb
            cases fb with
            | true =>
              clear f2 hiv
              go_upto_region 31 with fail
              refine wp_region_G [] [(0, false), (1, false), (2, false), (3, false), (4, false), (5, false), (6, false), (7, false), (8, false), (9, false), (10, false), (11, false), (12, false), (13, false), (14, false), (15, false), (16, false), (17, false), (18, true), (19, false)] 150 rfl (by kernel_rfl) (by kernel_rfl) (by kernel_rfl) (fun c a d v w h => by cases d <;> exact h) (fun wd hfd => ?_)
              simp only [List.map_cons, List.map_nil, List.getElem?_toArray, List.getElem?_cons_succ, List.getElem?_cons_zero, Option.getD_some]
              have HFD := Lib.hid hfd
              clear hfd
              repeat (apply wpG_t; · (intro w' hf'; have hk := HFD.out.tr0 hf'; have d1 := hk.cell HK.out.1.1 (by simp); have d2 := hk.cell HK.out.1.2.1 (by simp); have d3 := hk.cell HK.out.1.2.2 (by simp); clear hk; go_wp2_with fail; exact ⟨rfl, rfl⟩))
              refine wpG_x ?_
              go_wp2_with fail
              refine ⟨Fr.refl _ _, rfl, ?_⟩
              repeat (apply wpG_t; · (intro w' hf'; go_wp2_with fail; exact ⟨rfl, rfl⟩))
              refine wpG_end ?_
              go_wp2_with fail
              have HRD' := Lib.hid (HRD.out.later HFD.out)
              go_roundw
              case rel => exact ⟨p + 1, f, U, by omega, by go_num, rfl, HRD'.out, HLT.out, fun e => by
               obtain ⟨h1, h2, h3, h4⟩ := HPT.out e
               refine ⟨h1, h2, fun p' hp' => ?_⟩
               by_cases hpe : p' = p
               ·subst hpe
                exact ⟨h4, fun _ => by rw [HLA.out, ← h1, HFU.out]; exact HFB.out.symm⟩
               ·exact h3 p' (by omega)⟩
              case measure => simp [intOf]; omega
            | false =>
              obtain ⟨Bg, hBg⟩ : ∃ B, B = begB (TU N m U) (FU N m U) W r.right (unitB W p) := ⟨_, rfl⟩
              have HBE := Lib.hid (fun wx (hf : Fr [] wr wx) => rbegs_any CT W N (TU N m U) (FU N m U) r.right v3 p wx (HSY.out r HRM.out) (by omega) (by rw [hwl]; omega) (by rw [hwl]; have := HM.out; omega) (hiv.below hf) ((HTK.out _ _ HRD.out).below hf))
              rw [← hBg] at HBE
              have HBGE := Lib.hid hBg
              obtain ⟨a5, c5, hv3, hc5, hm5⟩ := hiv.form
              have HF2f := Lib.hid f2
              clear f2 hiv hBg hv3
              go_upto_region 31 with fail
              refine wp_region_G [] [(0, false), (1, false), (2, false), (3, false), (4, false), (5, false), (6, false), (7, false), (8, false), (9, false), (10, false), (11, false), (12, false), (13, false), (14, false), (15, false), (16, false), (17, false), (18, true), (19, false)] 150 rfl (by kernel_rfl) (by kernel_rfl) (by kernel_rfl) (fun c a d v w h => by cases d <;> exact h) (fun wd hfd => ?_)
              simp only [List.map_cons, List.map_nil, List.getElem?_toArray, List.getElem?_cons_succ, List.getElem?_cons_zero, Option.getD_some]
              have HFD := Lib.hid hfd
              clear hfd
              repeat (apply wpG_t; · (intro w' hf'; have hk := HFD.out.tr0 hf'; have d1 := hk.cell HK.out.1.1 (by simp); have d2 := hk.cell HK.out.1.2.1 (by simp); have d3 := hk.cell HK.out.1.2.2 (by simp); have d4 := hk.cell HK.out.2.1.1 (by simp); have d5 := hk.cell HK.out.2.1.2 (by simp); have d6 := hk.heap HK.out.2.2 (by simp); clear hk; go_wp2_with (refine wpL_loadW rfl _ _ rfl qt rfl _ CT _ _ d6 Tryz.underlying36 rfl hCTs ?_); exact ⟨rfl, rfl⟩))
              refine wpG_x ?_
              go_wp2_with (go_at_call 35; refine (HBE.out _ HFD.out).mono ?_; rintro e w7 ⟨rfl, hf7⟩)
              refine ⟨hf7, rfl, ?_⟩
              have HF7 := Lib.hid (HFD.out.tr0 hf7)
              clear hf7
              repeat (apply wpG_t; · (intro w' hf'; go_wp2_with fail; exact ⟨rfl, rfl⟩))
              refine wpG_end ?_
              have HRD' := Lib.hid (HRD.out.later HF7.out)
              cases Bg with
              | false =>
                go_wp2_with fail
                go_roundw
                case rel => exact ⟨p + 1, f, U, by omega, by go_num, rfl, HRD'.out, HLT.out, fun e => by
                 obtain ⟨h1, h2, h3, h4⟩ := HPT.out e
                 refine ⟨h1, h2, fun p' hp' => ?_⟩
                 by_cases hpe : p' = p
                 ·subst hpe
                  exact ⟨h4, fun hb => by have := HBGE.out; rw [h1] at this; rw [← this] at hb; cases hb⟩
                 ·exact h3 p' (by omega)⟩
                case measure => simp [intOf]; omega
              | true =>
                have HK7 := Lib.hid (And.intro (HF7.out.cell HK.out.1.1 (by simp)) (And.intro (HF7.out.cell HK.out.1.2.1 (by simp)) (HF7.out.cell HK.out.1.2.2 (by simp))))
                have d1 := HK7.out.1
                have d2 := HK7.out.2.1
                have d3 := HK7.out.2.2
                have d4 : w7.frozen? ⟨r8, p, none⟩ = false := by rw [HR8.out]; exact (HRD'.out.rows.get HJL8.out).free p
                have HSN := Lib.hid (show SoundU g W N m (upd U j8 p) from by
                 rw [HJ8.out]
                 exact HRD'.out.snd.updF (by rw [hwl]; exact HM.out) (begs_rule HRD'.out.snd.t HRD'.out.snd.f HRM.out HLA.out (HDE.out r HRM.out) HBGE.out.symm))
                have HR9 := Lib.hid (HRD'.out.put HJL8.out hpm HSN.out)
                rw [← HR8.out] at HR9
                have HLT9 := Lib.hid (show cU (upd U j8 p) blk.length m < cU Us blk.length m from by
                 have h1 := cU_upd (U := U) HJL8.out hpm HFB.out.symm
                 cases f with
                 | true => have := HLT.out rfl; omega
                 | false => rw [(HPT.out rfl).1] at h1 ⊢; exact h1)
                clear HPT HLT HBE HK HBGE
                go_wp2_with fail
                go_roundw
                case rel => exact ⟨p + 1, true, _, by omega, by go_num, rfl, HR9.out, fun _ => HLT9.out, fun e => by cases e⟩
                case measure => simp [intOf]; omega
         ·have hd5 : decide (p ≤ n) = false := decide_eq_false (by have := HM.out; omega)
          have hpm' : p = m := by omega
          have HNX := Lib.hid (show f = false → U = Us ∧ UsedTo g W (TU N m Us) (FU N m Us) (i + 1) from fun e => by
           obtain ⟨h1, h2, h3⟩ := hcl e
           refine ⟨h1, fun k hk hki p' hp' => ?_⟩
           by_cases hke : k = i
           ·subst hke
            rw [← HRE.out]
            exact h3 p' (by rw [hpm', HM.out, ← hwl]; omega)
           ·exact h2 k hk (by omega) p' hp')
          have HRD := Lib.hid hrd
          have HLT := Lib.hid hlt
          clear hrd hlt hcl hpm'
          go_wp2_with fail
          go_roundw
          case rel => exact ⟨i + 1, f, U, by omega, by go_num, rfl, HRD.out, HLT.out, HNX.out⟩
          case measure => simp [intOf]; omega
       ·have hd4 : decide (i < N3) = false := decide_eq_false hin
        have hie : i = g.rules.length := by rw [← HN3.out]; omega
        have HME := Lib.hid (show 2 * cW wr blk m + bit (.bool f) < W0 from by
         rw [HW0.out, HC0.out, cW_eq hrd.rows]
         cases f with
         | true => have := hlt rfl; simp only [bit]; omega
         | false => rw [(hcl rfl).1]; simp only [bit]; omega)
        have HNX := Lib.hid (show f = false → UsedTo g W (TU N m U) (FU N m U) g.rules.length from fun e => by
         obtain ⟨h1, h2⟩ := hcl e
         rw [h1, ← hie]; exact h2)
        clear hrd hlt hcl hie
        go_wp2_with fail
        go_roundw
        case rel => exact ⟨f, U, rfl, HRD.out, HNX.out⟩
        case measure => rw [← HW0.out]; exact HME.out
theorem rmake_any (g : GramG) (gv : Value) (W : List UInt8) (w : World) (hg : gramAt w gv g) (hv : ValidG g) (hp : ∀ i, i < g.names.length → ProdN g i) (hW : W.length ≤ 1000) :
  Calls Tryz.prog 14 #[gv, encStr W] w (RMake g W g.names.length w) := (rmakeg_any g gv W w hg hv hp hW).mono fun _ _ h => h.less
end Go.Proofs.YtnaamjpiaekmeaaGreat
