/- Several texts in one: CtA, CtB. -/
import Derived.LoopTactic
import Derived.Laws.EntriesVeiled
import Derived.Deep.DeepCutAuto
import Derived.Test.YtnaamjpiaekmeaaGreatDt
import Derived.Test.YtnaamjpiaekmeaaGreatMm
import Derived.Test.YtnaamjpiaekmeaaGreatBs
import Derived.Test.YtnaamjpiaekmeaaGreatWd
import Derived.Test.YtnaamjpiaekmeaaGreatMn
set_option linter.unusedVariables false
set_option linter.unusedSimpArgs false
namespace Go.Proofs.YtnaamjpiaekmeaaGreat
open Go.RowKit
set_option maxRecDepth 100000 in
theorem pal1 (q : Nat) (l : Words) (lv : Value) (x : List UInt8) (w : World) (hq : w.cell? ⟨q, 0, none⟩ = some lv) (h : strsAt w lv l) (h0 : 0 < l.length) (B : Bool) (hB : B = (x.length != (l[0]'h0).length)) :
  Calls Tryz.prog 111 #[encStr x, .pointer (some ⟨q, 0, none⟩)] w fun e w' => e = .returned (.bool B) ∧ w' = w := by
 obtain ⟨a0, c0, rfl, hle, hmx⟩ := h.form
 obtain ⟨b, off, rfl, hc⟩ := str_cell h 0 h0
 obtain ⟨y, hy⟩ : ∃ y, y = l[0]'h0 := ⟨_, rfl⟩
 rw [← hy] at hc hB
 have hc2 : w.cell? ⟨b, off, none⟩ = some (encStr y) := hc
 have HB := Lib.hid hB
 have hd : decide (0 < l.length) = true := decide_eq_true h0
 clear hy hB h hc
 by_cases hl : x.length = y.length
 ·have d1 : ((x.length : Int) == (y.length : Int)) = true := by rw [beq_iff_eq]; omega
  have d2 : ((x.length : Int) != (y.length : Int)) = false := by simp [hl]
  have d3 : (x.length == y.length) = true := by rw [beq_iff_eq]; exact hl
  have HE := Lib.hid (show B = false by rw [HB.out]; simp [hl])
  clear hl
  go_enter Tryz.func111, Tryz.ntmps111
  go_wp2_with fail
  go_ret
  exact ⟨by rw [HE.out]; rfl, rfl⟩
 ·have d1 : ((x.length : Int) == (y.length : Int)) = false := by rw [beq_eq_false_iff_ne]; omega
  have d2 : ((x.length : Int) != (y.length : Int)) = true := by rw [bne_iff_ne]; omega
  have d3 : (x.length == y.length) = false := by rw [beq_eq_false_iff_ne]; exact hl
  have HE := Lib.hid (show B = true by rw [HB.out, bne_iff_ne]; exact hl)
  clear hl
  go_enter Tryz.func111, Tryz.ntmps111
  go_wp2_with fail
  go_ret
  exact ⟨by rw [HE.out]; rfl, rfl⟩
def SameN (l : Words) (m : Nat) : Prop := ∀ c (h : c < l.length) (h0 : 0 < l.length), c < m → (l[c]'h).length = (l[0]'h0).length
def AlkR (w : World) (l : Words) (iv : Value) (wx : World) : Prop := ∃ i : Nat, i ≤ l.length ∧ iv = .int .i64 (i : Int) ∧ SameN l i ∧ w = wx
def AlkI (l : Words) (w : World) (e : Ending) (w' : World) : Prop := w' = w ∧ ∃ r : Int, e = .returned (.int .i64 r) ∧ ((r = -1 ∧ SameN l l.length) ∨ ∃ m : Nat, r = (m : Int) ∧ 0 < m ∧ m < l.length ∧ SameN l m)
set_option maxRecDepth 100000 in
set_option maxHeartbeats 1000000 in
theorem palx (q : Nat) (l : Words) (lv : Value) (w : World) (hq : w.cell? ⟨q, 0, none⟩ = some lv) (h : strsAt w lv l) (h0 : 0 < l.length) :
  Calls Tryz.prog 106 #[lv, .func (.func 111) #[] #[.pointer (some ⟨q, 0, none⟩)]] w (AlkI l w) := by
 obtain ⟨a0, c0, rfl, hle, hmx⟩ := h.form
 have HE := Lib.hid h
 have HQ := Lib.hid hq
 obtain ⟨n, hn⟩ : ∃ n, n = l.length := ⟨_, rfl⟩
 rw [← hn] at HE HQ hle ⊢
 have HN := Lib.hid hn
 have H0 := Lib.hid h0
 clear h hq hn h0
 go_enter Tryz.func106, Tryz.ntmps106
 go_wp2_with fail
 go_loopw [8] (AlkR w l) (fun iv _ => n - (intOf iv).toNat)
 case atStart => exact ⟨0, Nat.zero_le _, rfl, fun c _ _ hc => by omega, rfl⟩
 case round =>
  obtain ⟨i, hi, rfl, hall, rfl⟩ := hrel
  have HA := Lib.hid hall
  clear hall
  rw [← HN.out] at hi
  by_cases hin : i < n
  ·have hd2 : decide (i < n) = true := decide_eq_true hin
   obtain ⟨b, off, rfl, hc⟩ := str_cell HE.out i (by rw [← HN.out]; exact hin)
   have hil : i < l.length := by rw [← HN.out]; exact hin
   obtain ⟨x, hx⟩ : ∃ x, x = l[i]'hil := ⟨_, rfl⟩
   rw [← hx] at hc
   have HX := Lib.hid hx
   obtain ⟨B, hB⟩ : ∃ B, B = (x.length != (l[0]'H0.out).length) := ⟨_, rfl⟩
   have HCL := Lib.hid (pal1 q l _ x w HQ.out HE.out H0.out B hB)
   clear hx
   cases B with
   | true =>
     have HNE := Lib.hid (show 0 < i from by
      rcases Nat.eq_zero_or_pos i with e | e
      ·exfalso
       have h1 : x = l[0]'H0.out := by rw [HX.out]; congr 1
       rw [h1] at hB
       simp at hB
      ·exact e)
     clear hB
     go_wp2_with (go_at_call 111; refine HCL.out.mono ?_; rintro e w1 ⟨rfl, rfl⟩)
     go_ret
     exact ⟨rfl, _, rfl, .inr ⟨i, rfl, HNE.out, by rw [← HN.out]; exact hin, HA.out⟩⟩
   | false =>
     have HSM := Lib.hid (show x.length = (l[0]'H0.out).length from by
      have := hB.symm
      simpa using this)
     clear hB
     go_wp2_with (go_at_call 111; refine HCL.out.mono ?_; rintro e w1 ⟨rfl, rfl⟩)
     refine ⟨⟨i + 1, by rw [← HN.out]; omega, by go_num, fun c hc1 h00 hci => ?_, rfl⟩, by simp [intOf]; omega⟩
     by_cases e : c = i
     ·subst e; rw [← HX.out]; exact HSM.out
     ·exact HA.out c hc1 h00 (by omega)
  ·have hd2 : decide (i < n) = false := decide_eq_false hin
   have hie : i = n := by omega
   have HIE := Lib.hid hie
   clear hin hie
   go_wp2_with fail
   go_ret
   exact ⟨rfl, _, rfl, .inl ⟨rfl, by have := HA.out; rw [HIE.out, HN.out] at this; exact this⟩⟩
def AlkGot (a0 : Option Addr) (c0 : Nat) (l : Words) (w : World) (e : Ending) (w' : World) : Prop := ∃ m, e = .returned (.slice a0 m c0) ∧ 0 < m ∧ m ≤ l.length ∧ SameN l m ∧ Fr [] w w'
set_option maxRecDepth 100000 in
set_option maxHeartbeats 1000000 in
theorem palike (l : Words) (a0 : Option Addr) (c0 n : Nat) (w : World) (hn : n = l.length) (h : strsAt w (.slice a0 n c0) l) (h0 : 0 < l.length) :
  Calls Tryz.prog 75 #[.slice a0 n c0] w (AlkGot a0 c0 l w) := by
 obtain ⟨b, off, rfl, -⟩ := str_cell h 0 h0
 have hle : n ≤ c0 ∧ c0 ≤ 9223372036854775807 := by
  obtain ⟨a, c, e, h1, h2⟩ := h.form
  cases e
  exact ⟨by omega, h2⟩
 obtain ⟨hle, hmx⟩ := hle
 have hf0 := Fr.alloc w (.cells #[.slice (some ⟨b, off, none⟩) n c0] 22)
 have hb0 := heap_alloc_new w (.cells #[.slice (some ⟨b, off, none⟩) n c0] 22)
 obtain ⟨w0, hw0⟩ : ∃ w0, w0 = w.alloc (.cells #[.slice (some ⟨b, off, none⟩) n c0] 22) := ⟨_, rfl⟩
 obtain ⟨q, hq⟩ : ∃ q, q = w.heap.size := ⟨_, rfl⟩
 rw [← hw0] at hf0 hb0
 rw [← hq] at hb0
 have hcell : w0.cell? ⟨q, 0, none⟩ = some (.slice (some ⟨b, off, none⟩) n c0) := by rw [cell_of_heap hb0]; rfl
 have hcon := palx q l _ w0 hcell (h.below hf0) h0
 have HW := Lib.hid hw0
 have HQ := Lib.hid hq
 have HN := Lib.hid hn
 have HF := Lib.hid hf0
 have H0 := Lib.hid h0
 have HCO := Lib.hid hcon
 have HCE := Lib.hid hcell
 clear hcon hcell hw0 hq hn hf0 h0 hb0 h
 go_enter Tryz.func75, Tryz.ntmps75
 go_upto_region 1 with fail
 rw [← HW.out, ← HQ.out]
 have hcell := HCE.out
 go_upto_region 2 with (go_at_call 106; refine HCO.out.mono ?_; rintro e w1 ⟨rfl, r, rfl, hor⟩; have HOR := Lib.hid hor; clear hor)
 rcases HOR.out with ⟨rfl, hs⟩ | ⟨m, rfl, h1, h2, h3⟩
 ·have HS := Lib.hid hs
  clear hs
  go_wp2_with fail
  go_ret
  exact ⟨n, rfl, by rw [HN.out]; exact H0.out, by rw [HN.out]; exact Nat.le_refl _, by rw [HN.out]; exact HS.out, HF.out⟩
 ·have d1 : decide ((m : Int) < 0) = false := decide_eq_false (by omega)
  have hmn : m ≤ n := by have := HN.out; omega
  have hmc : m ≤ c0 := by omega
  have H3 := Lib.hid h3
  have H1 := Lib.hid h1
  have H2 := Lib.hid h2
  clear h1 h2 h3
  go_wp2_with fail
  go_ret
  exact ⟨m, rfl, H1.out, Nat.le_of_lt H2.out, H3.out, HF.out⟩
end Go.Proofs.YtnaamjpiaekmeaaGreat
namespace Go.Proofs.YtnaamjpiaekmeaaGreat
open Go.RowKit
def JnO (w : World) (g t : Words) (v iv : Value) (wx : World) : Prop := ∃ i : Nat, i ≤ g.length ∧ iv = .int .i64 (i : Int) ∧ RowS w wx v (joinedW (g.take i) t)
def JnI (w : World) (acc t : Words) (x : List UInt8) (v jv : Value) (wx : World) : Prop := ∃ j : Nat, j ≤ t.length ∧ jv = .int .i64 (j : Int) ∧ RowS w wx v (acc ++ (t.take j).map fun y => x ++ y)
set_option maxRecDepth 100000 in
set_option maxHeartbeats 4000000 in
theorem pjoined (g t : Words) (gv tv : Value) (w : World) (hg : strsAt w gv g) (ht : strsAt w tv t) (hm : g.length * t.length ≤ 4096) (hg1 : ∀ x ∈ g, x.length ≤ 1000) (ht1 : ∀ x ∈ t, x.length ≤ 1000) :
  Calls Tryz.prog 76 #[gv, tv] w fun e w' => ∃ v, e = .returned v ∧ RowS w w' v (joinedW g t) := by
 obtain ⟨iS, hiS, hS0, hS1, hS2⟩ := info_parts infoStrW
 obtain ⟨a1, c1, rfl, hc1, hm1⟩ := hg.form
 obtain ⟨a2, c2, rfl, hc2, hm2⟩ := ht.form
 have HG := Lib.hid hg
 have HT := Lib.hid ht
 have HG1 := Lib.hid hg1
 have HT1 := Lib.hid ht1
 obtain ⟨m, hmm⟩ : ∃ m, m = g.length * t.length := ⟨_, rfl⟩
 have hmi : (g.length : Int) * (t.length : Int) = (m : Int) := by rw [hmm]; simp
 have hm4 : m ≤ 4096 := by omega
 obtain ⟨n1, hn1⟩ : ∃ n, n = g.length := ⟨_, rfl⟩
 obtain ⟨n2, hn2⟩ : ∃ n, n = t.length := ⟨_, rfl⟩
 rw [← hn1] at HG hmm hmi hc1 ⊢
 rw [← hn2] at HT hmm hmi hc2 ⊢
 have HM := Lib.hid hmm
 have HN1 := Lib.hid hn1
 have HN2 := Lib.hid hn2
 clear hg ht hg1 ht1 hm hmm hn1 hn2
 go_enter Tryz.func76, Tryz.ntmps76
 go_upto_region 2 with (at_make; refine wpL_makeCap rfl _ _ 22 rfl 9 iS (.string ⟨#[]⟩) 16 Tryz.underlying22 hiS hS0 hS1 hS2 rfl 0 m rfl rfl (Nat.zero_le _) (by omega) (by simp only [maxLen]; omega) ?_; intro w1 hrow1 hf1 hs1)
 have HR1 := Lib.hid (show RowS w w1 (.slice (some ⟨w.heap.size, 0, none⟩) 0 m) [] from ⟨by simpa using hrow1, hf1⟩)
 clear hrow1 hf1 hs1 hmi
 go_wp2_with fail
 go_loopw [5, 18] (JnO w g t) (fun _ iv _ => n1 - (intOf iv).toNat)
 case atStart => exact ⟨0, Nat.zero_le _, rfl, by simpa [joinedW] using HR1.out⟩
 case round =>
  clear HR1
  obtain ⟨i, hi, rfl, hrow⟩ := hrel
  have HROW := Lib.hid hrow
  rw [← HN1.out] at hi
  obtain ⟨a5, c5, rfl, hc5, hm5⟩ := hrow.form
  have hfr := hrow.2
  by_cases hin : i < n1
  ·have hd1 : decide (i < n1) = true := decide_eq_true hin
   have hil : i < g.length := by rw [← HN1.out]; exact hin
   obtain ⟨b1, o1, rfl, hcell⟩ := str_cell (HG.out.below hfr) i hil
   obtain ⟨x, hx⟩ : ∃ x, x = g[i]'hil := ⟨_, rfl⟩
   rw [← hx] at hcell
   have hxl := HG1.out x (by rw [hx]; exact List.getElem_mem hil)
   have hnx : joinedW (g.take (i + 1)) t = joinedW (g.take i) t ++ t.map fun y => x ++ y := by rw [List.take_succ_eq_append_getElem hil, joinedW_snoc, hx]
   obtain ⟨acc, hacc⟩ : ∃ acc, acc = joinedW (g.take i) t := ⟨_, rfl⟩
   have hal : acc.length = i * t.length := by rw [hacc, joinedW_len, List.length_take]; congr 1; omega
   rw [← hacc] at HROW hnx ⊢
   have HNX := Lib.hid hnx
   have hal2 : acc.length + t.length ≤ 4096 := by
    have h5 : (i + 1) * t.length ≤ n1 * n2 := by rw [HN2.out]; exact Nat.mul_le_mul_right _ hin
    rw [Nat.succ_mul] at h5
    have := HM.out
    omega
   have HAL := Lib.hid hal2
   clear hx hnx hacc hal hal2 hrow hfr
   go_wp2_with fail
   go_loopw [5, 24] (JnI w acc t x) (fun _ jv _ => n2 - (intOf jv).toNat)
   case atStart => exact ⟨0, Nat.zero_le _, rfl, by simpa using HROW.out⟩
   case round =>
    clear HROW
    obtain ⟨j, hj, rfl, hrow⟩ := hrel
    have HROW := Lib.hid hrow
    rw [← HN2.out] at hj
    have hfr := hrow.2
    by_cases hjn : j < n2
    ·have hd2 : decide (j < n2) = true := decide_eq_true hjn
     have hjl : j < t.length := by rw [← HN2.out]; exact hjn
     obtain ⟨b2, o2, rfl, hcell2⟩ := str_cell (HT.out.below hfr) j hjl
     obtain ⟨y, hy⟩ : ∃ y, y = t[j]'hjl := ⟨_, rfl⟩
     rw [← hy] at hcell2
     have hyl := HT1.out y (by rw [hy]; exact List.getElem_mem hjl)
     have hnx : (acc ++ (t.take (j + 1)).map fun y => x ++ y) = (acc ++ (t.take j).map fun y => x ++ y) ++ [x ++ y] := by
      rw [List.take_succ_eq_append_getElem hjl, List.map_append, ← List.append_assoc, hy]; rfl
     obtain ⟨L, hL⟩ : ∃ L, L = acc ++ (t.take j).map fun y => x ++ y := ⟨_, rfl⟩
     have hLl : L.length < 4096 := by have := HAL.out; rw [hL, List.length_append, List.length_map, List.length_take]; omega
     rw [← hL] at hnx hrow
     obtain ⟨a6, c6, rfl, hc6, hm6⟩ := hrow.form
     have HR := Lib.hid hrow
     have HNX2 := Lib.hid hnx
     obtain ⟨C, hC⟩ : ∃ C, C = (x ++ y).toArray := ⟨_, rfl⟩
     have hcat := fun wx => cat_w (P := Tryz.prog) (A := x.toArray) (B := y.toArray) (C := C) rfl rfl hC (by rw [List.length_append]; omega) wx
     have HC := Lib.hid (show Value.string { data := C } = encStr (x ++ y) by rw [hC])
     obtain ⟨nl, hnl⟩ : ∃ n, n = L.length := ⟨_, rfl⟩
     have HR' := HR
     have hown := HR.out.1
     rw [← hnl] at hown hLl hc6 ⊢
     have HOWN := Lib.hid hown
     have HNL := Lib.hid hnl
     have HSZ := Lib.hid HR.out.2.size
     clear hy hnx hL hrow hfr hC hown hnl HROW
     go_wp2_with (at_builtin; refine wpL_append1 rfl _ _ 22 rfl w.heap.size 9 iS (.string ⟨#[]⟩) 16 Tryz.underlying22 hiS hS0 hS1 hS2 rfl (.slice a6 nl c6) nl (L.map encStr) rfl HOWN.out (.string { data := C }) rfl rfl (by omega) (by simp only [maxLen]; omega) HSZ.out ?_; intro v7 w7 hown7 hf7 hb7)
     have HR7 := Lib.hid (show RowS w w7 v7 (L ++ [x ++ y]) from by
      rw [HC.out] at hown7
      have h9 := HR.out
      rw [← HNL.out] at h9
      exact h9.push (by rw [← HNL.out]; exact hown7) hf7)
     rw [← HNX2.out] at HR7
     clear hown7 hf7 hb7
     exact ⟨⟨j + 1, by rw [← HN2.out]; omega, by go_num, HR7.out⟩, by simp [intOf]; omega⟩
    ·have hd2 : decide (j < n2) = false := decide_eq_false hjn
     have hje : j = t.length := by rw [← HN2.out]; omega
     have HR := Lib.hid (show RowS w wr _ (joinedW (g.take (i + 1)) t) from by
      rw [hje, List.take_length, ← HNX.out] at hrow
      exact hrow)
     clear hrow hfr HROW
     go_wp2_with fail
     exact ⟨⟨i + 1, by rw [← HN1.out]; omega, by go_num, HR.out⟩, by simp [intOf]; omega⟩
  ·have hd1 : decide (i < n1) = false := decide_eq_false hin
   have hie : i = g.length := by rw [← HN1.out]; omega
   have htk : joinedW (g.take i) t = joinedW g t := by rw [hie, List.take_length]
   rw [htk] at hrow ⊢
   have HR := Lib.hid hrow
   clear hrow hfr HROW htk
   go_wp2_with fail
   go_ret
   exact ⟨_, rfl, HR.out⟩
end Go.Proofs.YtnaamjpiaekmeaaGreat
