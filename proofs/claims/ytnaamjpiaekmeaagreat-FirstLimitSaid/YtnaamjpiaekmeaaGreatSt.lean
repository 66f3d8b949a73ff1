/- Several texts in one: StbA, StbB, StbC, StbD, StbE. -/
import Derived.Deep.DeepCutAuto
import Derived.LoopTactic
import Derived.BigRegion
import Derived.BigQuiet
import Derived.Test.YtnaamjpiaekmeaaGreatDt
import Derived.Test.YtnaamjpiaekmeaaGreatMn
import Derived.Test.YtnaamjpiaekmeaaGreatMm
import Derived.Test.YtnaamjpiaekmeaaGreatBs
set_option linter.unusedVariables false
set_option linter.unusedSimpArgs false
namespace Go.Proofs.YtnaamjpiaekmeaaGreat
open Go.RowKit
structure ArrS (w : World) (b : Nat) (l : Words) : Prop where
 lt : b < w.heap.size
 cell : ∀ i (h : i < l.length), w.cell? ⟨b, i, none⟩ = some (encStr (l[i]'h))
 free : ∀ i, w.frozen? ⟨b, i, none⟩ = false
theorem ArrS.get {w : World} {b : Nat} {l : Words} (h : ArrS w b l) {i : Nat} (hi : i < l.length) : w.cell? ⟨b, i, none⟩ = some (encStr (l.getD i [])) := by
 rw [h.cell i hi, List.getD_eq_getElem?_getD, List.getElem?_eq_getElem hi]
 rfl
theorem ArrS.set {w : World} {b : Nat} {l : Words} (h : ArrS w b l) (i : Nat) (hi : i < l.length) (x : List UInt8) : ArrS (w.setCell ⟨b, i, none⟩ (encStr x)) b (l.set i x) := by
 refine ⟨by simpa [World.setCell] using h.lt, fun j hj => ?_, fun j => ?_⟩
 ·rw [List.length_set] at hj
  rw [List.getElem_set]
  by_cases e : i = j
  ·subst e
   rw [if_pos rfl]
   exact World.cell?_setCell_same w _ _ (h.cell i hj)
  ·rw [if_neg e, World.cell?_setCell_other _ _ _ _ (by intro q; simp only [Addr.mk.injEq] at q; omega)]
   exact h.cell j hj
 ·have := h.free j
  rw [← this]
  exact World.frozen?_setCell w _ _ _
theorem ArrS.twoS {w : World} {b : Nat} {l : Words} (h : ArrS w b l) {i j : Nat} (hi : i < l.length) (hj : j < l.length) {X Y : Value} (hX : X = encStr (l.getD i [])) (hY : Y = encStr (l.getD j [])) : ArrS ((w.setCell ⟨b, i, none⟩ Y).setCell ⟨b, j, none⟩ X) b (swp [] l i j) := by
 subst hX hY
 exact (h.set i hi _).set j (by rw [List.length_set]; exact hj) _
theorem ArrS.drew {w : World} {b : Nat} {l : Words} (h : ArrS w b l) : ArrS w.drew b l := ⟨h.lt, h.cell, h.free⟩
theorem fr_swp (w : World) (b i j : Nat) (X Y : Value) : Fr [b] w ((w.setCell ⟨b, i, none⟩ Y).setCell ⟨b, j, none⟩ X) := (Fr.set0 w b i Y).trans (Fr.set0 _ b j X) (fun _ h _ => h) (fun _ h _ => h)
def SwRel (w : World) (b : Nat) (l : Words) (x y n : Nat) (iv : Value) (wx : World) : Prop := ∃ i : Nat, i ≤ n ∧ iv = .int .i64 (i : Int) ∧ ArrS wx b (swpN [] l x y i) ∧ Fr [b] w wx
def ArrGot (w : World) (b : Nat) (m : Words) (e : Ending) (w' : World) : Prop := e = .returned (.tuple #[]) ∧ ArrS w' b m ∧ Fr [b] w w'
set_option maxRecDepth 100000 in
set_option maxHeartbeats 1000000 in
theorem pswap (l : Words) (b cap x y n : Nat) (cv : Value) (w : World) (h : ArrS w b l) (N : Nat) (hN : N = l.length) (h1 : N ≤ cap) (h2 : N ≤ 1000000) (hx : x + n ≤ N) (hy : y + n ≤ N) :
  Calls Tryz.prog 165 #[.slice (some ⟨b, 0, none⟩) N cap, .int .i64 (x : Int), .int .i64 (y : Int), .int .i64 (n : Int), cv] w (ArrGot w b (swpN [] l x y n)) := by
 have HA := Lib.hid h
 have HN := Lib.hid hN
 clear h hN
 go_enter Tryz.func165, Tryz.ntmps165
 go_wp2_with fail
 go_loopw [10] (SwRel w b l x y n) (fun iv _ => n - (intOf iv).toNat)
 case atStart => exact ⟨0, Nat.zero_le _, rfl, HA.out, Fr.refl _ _⟩
 case round =>
  obtain ⟨i, hi, rfl, ha, hf⟩ := hrel
  by_cases hin : i < n
  ·have hd1 : decide (i < n) = true := decide_eq_true hin
   have hlx : (swpN [] l x y i).length = N := by rw [swpN_len, HN.out]
   have cx := ha.get (i := x + i) (by rw [hlx]; omega)
   have cy := ha.get (i := y + i) (by rw [hlx]; omega)
   have fx := ha.free (x + i)
   have fy := ha.free (y + i)
   obtain ⟨X, hX⟩ : ∃ X, Value.string ⟨X⟩ = encStr ((swpN [] l x y i).getD (x + i) []) := ⟨_, rfl⟩
   obtain ⟨Y, hY⟩ : ∃ Y, Value.string ⟨Y⟩ = encStr ((swpN [] l x y i).getD (y + i) []) := ⟨_, rfl⟩
   rw [← hX] at cx
   rw [← hY] at cy
   have hsw := ArrS.drew <| ha.twoS (i := x + i) (j := y + i) (by rw [hlx]; omega) (by rw [hlx]; omega) hX hY
   have h1s := ha.set (x + i) (by rw [hlx]; omega) ((swpN [] l x y i).getD (y + i) [])
   rw [← hY] at h1s
   have c2 := h1s.get (i := y + i) (by rw [List.length_set, hlx]; omega)
   have f2 := h1s.free (y + i)
   obtain ⟨Z, hZ⟩ : ∃ Z, Z = encStr (((swpN [] l x y i).set (x + i) ((swpN [] l x y i).getD (y + i) [])).getD (y + i) []) := ⟨_, rfl⟩
   rw [← hZ] at c2
   have HSW := Lib.hid hsw
   have HF := Lib.hid ((hf.trans (fr_swp wr b (x + i) (y + i) (.string ⟨X⟩) (.string ⟨Y⟩)) (fun _ h _ => h) (fun _ h _ => h)).trans (Fr.drew _)  (fun _ h _ => h) (by simp))
   clear ha hf hlx hX hY hsw h1s hZ
   go_upto_region 3 with fail
   go_region
   go_wp2_with fail
   exact ⟨⟨i + 1, by omega, by go_num, HSW.out, HF.out⟩, by simp [intOf]; omega⟩
  ·have hd1 : decide (i < n) = false := decide_eq_false hin
   obtain rfl : i = n := by omega
   have HG := Lib.hid ha
   have HF := Lib.hid hf
   clear ha hf
   go_wp2_with fail
   go_end0
   exact ⟨rfl, HG.out, HF.out⟩
end Go.Proofs.YtnaamjpiaekmeaaGreat
namespace Go.Proofs.YtnaamjpiaekmeaaGreat
open Go.RowKit
def RoRel (w : World) (b : Nat) (g : Words) (m N : Nat) (iv jv : Value) (wx : World) : Prop := ∃ (i j : Nat) (l : Words), 0 < i ∧ 0 < j ∧ i ≤ m ∧ m + j ≤ N ∧ l.length = N ∧ iv = .int .i64 (i : Int) ∧ jv = .int .i64 (j : Int) ∧ RotK l g m i j ∧ ArrS wx b l ∧ Fr [b] w wx
set_option maxRecDepth 100000 in
set_option maxHeartbeats 1000000 in
theorem prot (l g : Words) (b cap a m e : Nat) (cv : Value) (w : World) (h : ArrS w b l) (N : Nat) (hN : N = l.length) (h1 : N ≤ cap) (h2 : N ≤ 1000000) (ham : a < m) (hme : m < e) (heN : e ≤ N) (hr : RotK l g m (m - a) (e - m)) :
  Calls Tryz.prog 150 #[.slice (some ⟨b, 0, none⟩) N cap, .int .i64 (a : Int), .int .i64 (m : Int), .int .i64 (e : Int), cv] w (ArrGot w b g) := by
 have HA := Lib.hid h
 have HR := Lib.hid hr
 have HN := Lib.hid hN
 have HSW := Lib.hid (fun (l : Words) (x y n : Nat) (wx : World) (h : ArrS wx b l) (hl : N = l.length) (hx : x + n ≤ N) (hy : y + n ≤ N) => pswap l b cap x y n cv wx h N hl h1 h2 hx hy)
 have HAM := Lib.hid ham
 have HME := Lib.hid hme
 have HEN := Lib.hid heN
 have e1 : (m : Int) - (a : Int) = ((m - a : Nat) : Int) := by omega
 have e2 : (e : Int) - (m : Int) = ((e - m : Nat) : Int) := by omega
 have HE1 := Lib.hid e1
 have HE2 := Lib.hid e2
 clear h hr hN e1 e2
 go_enter Tryz.func150, Tryz.ntmps150
 go_wp2_with fail
 go_loopw [10, 11] (RoRel w b g m N) (fun iv jv _ => (intOf iv).toNat + (intOf jv).toNat)
 case atStart => exact ⟨m - a, e - m, l, by omega, by omega, by omega, by omega, HN.out.symm, by rw [HE1.out], by rw [HE2.out], HR.out, HA.out, Fr.refl _ _⟩
 case round =>
  obtain ⟨i, j, l', hi, hj, him, hjm, hl, rfl, rfl, hro, ha, hf⟩ := hrel
  have HRO := Lib.hid hro
  have HA := Lib.hid ha
  have HF := Lib.hid hf
  have HL := Lib.hid hl
  have em : (m : Int) - (i : Int) = ((m - i : Nat) : Int) := by omega
  have EM := Lib.hid em
  clear hro ha hf hl em
  by_cases hij : i = j
  ·subst hij
   have HC := Lib.hid (HSW.out l' (m - i) m i wr HA.out HL.out.symm (by omega) (by omega))
   rw [HRO.out.last []] at HC
   go_wp2_with (go_at_call 165; rw [EM.out]; refine HC.out.mono ?_; rintro e w1 ⟨rfl, ha1, hf1⟩)
   go_end0
   exact ⟨rfl, ha1, HF.out.trans hf1 (fun _ h _ => h) (fun _ h _ => h)⟩
  ·have d1 : ((i : Int) == (j : Int)) = false := by rw [beq_eq_false_iff_ne]; omega
   have d1b : ((i : Int) != (j : Int)) = true := by rw [bne_iff_ne]; omega
   have d1c : (i == j) = false := by rw [beq_eq_false_iff_ne]; exact hij
   have d1d : (i != j) = true := by rw [bne_iff_ne]; exact hij
   by_cases hlt : j < i
   ·have d2 : decide (j < i) = true := decide_eq_true hlt
    have HC := Lib.hid (HSW.out l' (m - i) m j wr HA.out HL.out.symm (by omega) (by omega))
    have HX := Lib.hid (HRO.out.left [] hlt)
    have HLX := Lib.hid (show (swpN [] l' (m - i) m j).length = N by rw [swpN_len, HL.out])
    go_wp2_with (go_at_call 165; rw [EM.out]; refine HC.out.mono ?_; rintro e w1 ⟨rfl, ha1, hf1⟩; have HA1 := Lib.hid ha1; have HF1 := Lib.hid hf1; clear ha1 hf1)
    exact ⟨⟨i - j, j, _, by omega, hj, by omega, hjm, HLX.out, by go_num, rfl, HX.out, HA1.out, HF.out.trans HF1.out (fun _ h _ => h) (fun _ h _ => h)⟩, by simp [intOf]; omega⟩
   ·have d2 : decide (j < i) = false := decide_eq_false hlt
    have hlt2 : i < j := by omega
    have HC := Lib.hid (HSW.out l' (m - i) (m + j - i) i wr HA.out HL.out.symm (by omega) (by omega))
    have HX := Lib.hid (HRO.out.right [] hlt2)
    have HLX := Lib.hid (show (swpN [] l' (m - i) (m + j - i) i).length = N by rw [swpN_len, HL.out])
    have EM2 := Lib.hid (show (m : Int) + (j : Int) - (i : Int) = ((m + j - i : Nat) : Int) by omega)
    go_wp2_with (go_at_call 165; rw [EM.out, EM2.out]; refine HC.out.mono ?_; rintro e w1 ⟨rfl, ha1, hf1⟩; have HA1 := Lib.hid ha1; have HF1 := Lib.hid hf1; clear ha1 hf1)
    exact ⟨⟨i, j - i, _, hi, by omega, him, by omega, HLX.out, rfl, by go_num, HX.out, HA1.out, HF.out.trans HF1.out (fun _ h _ => h) (fun _ h _ => h)⟩, by simp [intOf]; omega⟩
end Go.Proofs.YtnaamjpiaekmeaaGreat
namespace Go.Proofs.YtnaamjpiaekmeaaGreat
open Go.RowKit
abbrev LtW (a b : List UInt8) : Prop := lessB a b = true
abbrev MovW (l m : Words) : Prop := MovK (List.length (α := UInt8)) LtW l m
abbrev SrtW (l : Words) : Prop := SrtK (List.length (α := UInt8)) l
def CmpP (P : Program) (f : FuncId) : Prop := ∀ (x y : List UInt8), ∃ r : Int, (r < 0 ↔ x.length < y.length) ∧ ∀ w, Calls P f #[encStr x, encStr y] w fun e w' => e = .returned (.int .i64 r) ∧ w' = w
theorem CmpP.yes {P : Program} {f : FuncId} (h : CmpP P f) {x y : List UInt8} (hl : x.length < y.length) : ∃ r : Int, decide (r < 0) = true ∧ ∀ w, Calls P f #[encStr x, encStr y] w fun e w' => e = .returned (.int .i64 r) ∧ w' = w := by
 obtain ⟨r, h1, h2⟩ := h x y
 exact ⟨r, decide_eq_true (h1.2 hl), h2⟩
theorem CmpP.no {P : Program} {f : FuncId} (h : CmpP P f) {x y : List UInt8} (hl : ¬ x.length < y.length) : ∃ r : Int, decide (r < 0) = false ∧ ∀ w, Calls P f #[encStr x, encStr y] w fun e w' => e = .returned (.int .i64 r) ∧ w' = w := by
 obtain ⟨r, h1, h2⟩ := h x y
 exact ⟨r, decide_eq_false (fun q => hl (h1.1 q)), h2⟩
def SortGot (w : World) (b : Nat) (p x s : Words) (e : Ending) (w' : World) : Prop := ∃ x', e = .returned (.tuple #[]) ∧ MovW x x' ∧ SrtW x' ∧ ArrS w' b (p ++ x' ++ s) ∧ Fr [b] w w'
theorem ArrS.drewN {w : World} {b : Nat} {l : Words} (h : ArrS w b l) (n : Nat) : ArrS (w.drewN n) b l := ⟨h.lt, h.cell, h.free⟩
theorem ArrS.facts {w : World} {b : Nat} {l : Words} (h : ArrS w b l) {i j : Nat} (hi : i < l.length) (hj : j < l.length) : ∃ (X Y : Array UInt8) (Z : Value), w.cell? ⟨b, i, none⟩ = some (.string ⟨X⟩) ∧ w.cell? ⟨b, j, none⟩ = some (.string ⟨Y⟩) ∧ w.frozen? ⟨b, i, none⟩ = false ∧ w.frozen? ⟨b, j, none⟩ = false ∧
  (w.setCell ⟨b, i, none⟩ (.string ⟨Y⟩)).cell? ⟨b, j, none⟩ = some Z ∧ (w.setCell ⟨b, i, none⟩ (.string ⟨Y⟩)).frozen? ⟨b, j, none⟩ = false ∧
  Hid (ArrS ((w.setCell ⟨b, i, none⟩ (.string ⟨Y⟩)).setCell ⟨b, j, none⟩ (.string ⟨X⟩)).drew b (swp [] l i j) ∧ Fr [b] w ((w.setCell ⟨b, i, none⟩ (.string ⟨Y⟩)).setCell ⟨b, j, none⟩ (.string ⟨X⟩)).drew) := by
 have h2 := h.set i hi (l.getD j [])
 exact ⟨(l.getD i []).toArray, (l.getD j []).toArray, _, h.get hi, h.get hj, h.free i, h.free j, h2.get (i := j) (by rw [List.length_set]; exact hj), h2.free j, Lib.hid ⟨(h.twoS hi hj rfl rfl).drew, (fr_swp w b i j _ _).trans (Fr.drew _) (fun _ h _ => h) (by simp)⟩⟩
theorem getD_mid (A B : Words) (f : List UInt8) {i : Nat} (h : i = A.length) : (A ++ f :: B).getD i [] = f := by
 subst h
 rw [List.getD_eq_getElem?_getD, List.getElem?_append_right (Nat.le_refl _)]
 simp
def InsO (w : World) (b : Nat) (p x s : Words) (a e : Nat) (iv : Value) (wx : World) : Prop := ∃ (i : Nat) (y z : Words), a < i ∧ iv = .int .i64 (i : Int) ∧ z.length = e - i ∧ y.length + z.length = x.length ∧ SrtW y ∧ MovW x (y ++ z) ∧ ArrS wx b (p ++ (y ++ z) ++ s) ∧ Fr [b] w wx
def InsI (w : World) (b : Nat) (p x s : Words) (a n : Nat) (f : List UInt8) (z : Words) (jv : Value) (wx : World) : Prop := ∃ (y1 y2 : Words), jv = .int .i64 ((a + y1.length : Nat) : Int) ∧ y1.length + y2.length = n ∧ SrtW (y1 ++ y2) ∧ (∀ t ∈ y2, f.length < t.length) ∧ MovW x (y1 ++ f :: y2 ++ z) ∧ ArrS wx b (p ++ (y1 ++ f :: y2 ++ z) ++ s) ∧ Fr [b] w wx
set_option maxRecDepth 100000 in
set_option maxHeartbeats 4000000 in
theorem pinsert (hC : CmpP Tryz.prog 72) (p x s : Words) (b cap a e N : Nat) (w : World) (h : ArrS w b (p ++ x ++ s)) (hN : N = p.length + x.length + s.length) (h1 : N ≤ cap) (h2 : N ≤ 1000000) (ha : a = p.length) (he : e = p.length + x.length) :
  Calls Tryz.prog 135 #[.slice (some ⟨b, 0, none⟩) N cap, .int .i64 (a : Int), .int .i64 (e : Int), .func (.func 72) #[] #[]] w (SortGot w b p x s) := by
 have HA := Lib.hid h
 have HN := Lib.hid hN
 have HC := Lib.hid hC
 have HAA := Lib.hid ha
 have HEE := Lib.hid he
 have hb1 : a ≤ 1000000 := by omega
 have hb2 : e ≤ 1000000 := by omega
 have hb3 : a ≤ e := by omega
 clear h hN hC ha he
 go_enter Tryz.func135, Tryz.ntmps135
 go_wp2_with fail
 go_loopw [8] (InsO w b p x s a e) (fun iv _ => e - (intOf iv).toNat)
 case atStart =>
  refine ⟨a + 1, x.take 1, x.drop 1, by omega, by go_num, ?_, ?_, ?_, ?_, ?_, Fr.refl _ _⟩
  ·have h3 := HAA.out; have h4 := HEE.out; rw [List.length_drop]; omega
  ·rw [List.length_take, List.length_drop]; omega
  ·cases x with
   | nil => exact List.Pairwise.nil
   | cons t r => simp [SrtW, SrtK]
  ·rw [List.take_append_drop]; exact MovK.refl _
  ·rw [List.take_append_drop]; exact HA.out
 case round =>
  obtain ⟨i, y, z, hai, rfl, hz, hyz, hs, hm, harr, hf⟩ := hrel
  have HM := Lib.hid hm
  have HR := Lib.hid harr
  have HF := Lib.hid hf
  have HS := Lib.hid hs
  have HZ := Lib.hid hz
  have HYZ := Lib.hid hyz
  clear hm harr hf hs hz hyz
  by_cases hie : i < e
  ·have d1 : decide (i < e) = true := decide_eq_true hie
   obtain ⟨f, z', hzz⟩ : ∃ f z', z = f :: z' := by
    have h3 := HZ.out
    cases z with
    | nil => simp at h3; omega
    | cons f z' => exact ⟨f, z', rfl⟩
   subst hzz
   have hz' : z'.length = e - (i + 1) := by have := HZ.out; simp only [List.length_cons] at this; omega
   obtain ⟨n, hn⟩ : ∃ n, n = y.length := ⟨_, rfl⟩
   have hin : i = a + n := by have h3 := HZ.out; have h4 := HYZ.out; have h5 := HAA.out; have h6 := HEE.out; simp only [List.length_cons] at h3 h4; omega
   have HZ' := Lib.hid hz'
   have HNY := Lib.hid hn
   have HIN := Lib.hid hin
   have HXL := Lib.hid (show n + 1 + z'.length = x.length by have h4 := HYZ.out; simp only [List.length_cons] at h4; omega)
   clear hz' hn hin
   go_wp2_with fail
   go_loopw [9] (InsI w b p x s a n f z') (fun jv _ => (intOf jv).toNat)
   case atStart => exact ⟨y, [], by rw [← HNY.out, HIN.out], by rw [HNY.out]; simp, by rw [List.append_nil]; exact HS.out, (fun t ht => by simp at ht), by simpa using HM.out, by simpa using HR.out, HF.out⟩
   case round =>
    clear HM HR HF HS HZ HYZ
    obtain ⟨y1, y2, rfl, hyl, hs, hy2, hm, harr, hf⟩ := hrel
    have HM := Lib.hid hm
    have HR := Lib.hid harr
    have HF := Lib.hid hf
    have HS := Lib.hid hs
    have HY2 := Lib.hid hy2
    have HYL := Lib.hid hyl
    have hlen : (p ++ (y1 ++ f :: y2 ++ z') ++ s).length = N := by
     have h3 := HN.out; have h4 := HXL.out; have h5 := HYL.out
     simp only [List.length_append, List.length_cons]; omega
    have HLEN := Lib.hid hlen
    obtain ⟨j, hj⟩ : ∃ j, j = a + y1.length := ⟨_, rfl⟩
    rw [← hj]
    have HJ := Lib.hid hj
    have hjn : j < N := by have h3 := HN.out; have h4 := HXL.out; have h5 := HYL.out; have h6 := HAA.out; omega
    clear hm harr hf hs hy2 hyl hlen hj
    rcases List.eq_nil_or_concat y1 with h0 | ⟨y0, g, h0⟩
    ·have d2 : decide (a < j) = false := decide_eq_false (by have := HJ.out; rw [h0] at this; simp at this; omega)
     have HY1 := Lib.hid h0
     clear h0
     go_upto_region 4 with fail
     go_quiet (fail)
     go_wp2_with fail
     refine ⟨⟨i + 1, y1 ++ f :: y2, z', by omega, by go_num, HZ'.out, ?_, ?_, HM.out, HR.out.drewN nq, HF.out.andDrewN nq⟩, by simp [intOf]; omega⟩
     ·have h4 := HXL.out; have h5 := HYL.out; simp only [List.length_append, List.length_cons]; omega
     ·have h6 := HS.out
      rw [HY1.out] at h6 ⊢
      exact List.pairwise_cons.2 ⟨fun t ht => Nat.le_of_lt (HY2.out t ht), h6⟩
    ·rw [List.concat_eq_append] at h0
     have hjy : j = a + y0.length + 1 := by have := HJ.out; rw [h0] at this; simp at this; omega
     have d2 : decide (a < j) = true := decide_eq_true (by omega)
     obtain ⟨q, hq⟩ : ∃ q, q = a + y0.length := ⟨_, rfl⟩
     have hjq : j = q + 1 := by omega
     have HY1 := Lib.hid h0
     have hform : p ++ (y1 ++ f :: y2 ++ z') ++ s = (p ++ y0) ++ g :: f :: (y2 ++ z' ++ s) := by rw [h0]; simp
     have hR := HR.out
     rw [hform] at hR
     have hql : q = (p ++ y0).length := by have := HAA.out; rw [List.length_append]; omega
     have hl2 : ((p ++ y0) ++ g :: f :: (y2 ++ z' ++ s)).length = N := by rw [← hform]; exact HLEN.out
     have cg := hR.get (i := q) (by rw [hl2]; omega)
     rw [getD_mid _ _ _ hql] at cg
     have cf := hR.get (i := q + 1) (by rw [hl2]; omega)
     rw [show (p ++ y0) ++ g :: f :: (y2 ++ z' ++ s) = (p ++ y0 ++ [g]) ++ f :: (y2 ++ z' ++ s) by simp, getD_mid _ _ _ (by rw [List.length_append, ← hql]; rfl)] at cf
     have HQ := Lib.hid hq
     have HQL := Lib.hid hql
     have HFO := Lib.hid hform
     have HL2 := Lib.hid hl2
     have hjz : (j : Int) - 1 = (q : Int) := by omega
     have HJZ := Lib.hid hjz
     have HJQ := Lib.hid hjq
     rw [← hjq] at cf
     have fq := HR.out.free q
     have fj := HR.out.free j
     by_cases hlt : f.length < g.length
     ·obtain ⟨r, d3, hc⟩ := HC.out.yes hlt
      have HCM := Lib.hid hc
      have HLT := Lib.hid hlt
      clear hR hjy hq hql hform hl2 hlt hc h0 hjq
      go_upto_region 4 with fail
      go_quiet (first | (go_at_call 72; with_reducible refine Calls.quiet_of_same (HCM.out _)))
      go_upto_region 6 with fail
      have hA2 := HR.out.drewN nq
      obtain ⟨w2, hw2⟩ : ∃ w2, w2 = wr.drewN nq := ⟨_, rfl⟩
      have hF2 := HF.out.andDrewN nq
      rw [← hw2] at hA2 hF2 ⊢
      have HF2 := Lib.hid hF2
      clear hw2 cf cg fq fj hF2
      obtain ⟨X, Y, Z, k1, k2, k3, k4, k5, k6, HG⟩ := hA2.facts (i := j) (j := q) (by rw [HLEN.out]; exact hjn) (by rw [HLEN.out]; have := HJQ.out; omega)
      clear hA2
      go_region
      go_wp2_with fail
      have hfin := HG.out.1
      have hsw : swp [] (p ++ (y1 ++ f :: y2 ++ z') ++ s) j q = p ++ (y0 ++ f :: (g :: y2) ++ z') ++ s := by
       rw [HFO.out, HJQ.out, swp_adj2 [] (p ++ y0) (y2 ++ z' ++ s) g f HQL.out]
       simp
      rw [hsw] at hfin
      refine ⟨⟨y0, g :: y2, by rw [HQ.out], ?_, ?_, ?_, ?_, hfin, HF2.out.trans HG.out.2 (fun _ h _ => h) (fun _ h _ => h)⟩, by simp [intOf]; have := HJQ.out; omega⟩
      ·have := HYL.out; rw [HY1.out] at this; simp only [List.length_append, List.length_cons, List.length_nil] at this ⊢; omega
      ·have := HS.out; rw [HY1.out] at this; simpa [SrtW] using this
      ·intro t ht
       rcases List.mem_cons.1 ht with rfl | ht
       ·exact HLT.out
       ·exact HY2.out t ht
      ·have h3 := HM.out
       rw [HY1.out] at h3
       have h4 : MovW (y0 ++ [g, f] ++ (y2 ++ z')) (y0 ++ [f, g] ++ (y2 ++ z')) := (MovK.swap HLT.out).frame y0 (y2 ++ z')
       have e1 : y0 ++ [g] ++ f :: y2 ++ z' = y0 ++ [g, f] ++ (y2 ++ z') := by simp
       have e2 : y0 ++ f :: (g :: y2) ++ z' = y0 ++ [f, g] ++ (y2 ++ z') := by simp
       rw [e1] at h3
       rw [e2]
       exact h3.trans h4
     ·obtain ⟨r, d3, hc⟩ := HC.out.no hlt
      have HCM := Lib.hid hc
      have HLT := Lib.hid hlt
      clear hR hjy hq hql hform hl2 hlt hc h0 hjq
      go_upto_region 4 with fail
      go_quiet (first | (go_at_call 72; with_reducible refine Calls.quiet_of_same (HCM.out _)))
      go_wp2_with fail
      refine ⟨⟨i + 1, y1 ++ f :: y2, z', by omega, by go_num, HZ'.out, ?_, ?_, HM.out, HR.out.drewN nq, HF.out.andDrewN nq⟩, by simp [intOf]; omega⟩
      ·have h4 := HXL.out; have h5 := HYL.out; simp only [List.length_append, List.length_cons]; omega
      ·have h6 := HS.out
       rw [HY1.out] at h6 ⊢
       have h7 := SrtK.left h6
       have h8 := SrtK.right h6
       refine SrtK.append h7 (List.pairwise_cons.2 ⟨fun t ht => Nat.le_of_lt (HY2.out t ht), h8⟩) (fun u hu t ht => ?_)
       have hug : u.length ≤ g.length := by
        rcases List.mem_append.1 hu with q1 | q1
        ·exact SrtK.cross h7 u q1 g (by simp)
        ·rw [List.mem_singleton.1 q1]; exact Nat.le_refl _
       have hgf := HLT.out
       rcases List.mem_cons.1 ht with rfl | ht
       ·omega
       ·have := HY2.out t ht; omega
  ·have d1 : decide (i < e) = false := decide_eq_false hie
   have hz0 : z = [] := by have := HZ.out; exact List.eq_nil_of_length_eq_zero (by omega)
   subst hz0
   have HM2 := Lib.hid (show MovW x y by have := HM.out; rwa [List.append_nil] at this)
   have HR2 := Lib.hid (show ArrS wr b (p ++ y ++ s) by have := HR.out; rwa [List.append_nil] at this)
   clear HM HR HZ HYZ
   go_wp2_with fail
   go_end0
   exact ⟨y, rfl, HM2.out, HS.out, HR2.out, HF.out⟩
end Go.Proofs.YtnaamjpiaekmeaaGreat
namespace Go.Proofs.YtnaamjpiaekmeaaGreat
open Go.RowKit
theorem getD_in (A B v : Words) {c i : Nat} (hc : c < v.length) (h : i = A.length + c) : (A ++ v ++ B).getD i [] = v[c]'hc := by
 subst h
 rw [List.getD_eq_getElem?_getD, List.getElem?_append_left (by rw [List.length_append]; omega), List.getElem?_append_right (by omega), Nat.add_sub_cancel_left, List.getElem?_eq_getElem hc]
 rfl
def BinR (w : World) (b : Nat) (l v : Words) (e m : Nat) (iv jv : Value) (wx : World) : Prop := ∃ i j : Nat, iv = .int .i64 ((m + i : Nat) : Int) ∧ jv = .int .i64 ((m + j : Nat) : Int) ∧ BinK (List.length (α := UInt8)) v e i j ∧ ArrS wx b l ∧ Fr [b] w wx
def InsL (w : World) (b : Nat) (p v s : Words) (t : List UInt8) (a I : Nat) (kv : Value) (wx : World) : Prop := ∃ c : Nat, c ≤ I ∧ kv = .int .i64 ((a + c : Nat) : Int) ∧ ArrS wx b (p ++ (v.take c ++ t :: v.drop c) ++ s) ∧ Fr [b] w wx
set_option maxRecDepth 100000 in
set_option maxHeartbeats 4000000 in
theorem psymA (hC : CmpP Tryz.prog 72) (p v s : Words) (t : List UInt8) (b cap a m e N : Nat) (w : World) (h : ArrS w b (p ++ (t :: v) ++ s)) (hN : N = p.length + (v.length + 1) + s.length) (h1 : N ≤ cap) (h2 : N ≤ 1000000) (ha : a = p.length) (hm : m = a + 1) (he : e = m + v.length) (hs : SrtW v) :
  Calls Tryz.prog 136 #[.slice (some ⟨b, 0, none⟩) N cap, .int .i64 (a : Int), .int .i64 (m : Int), .int .i64 (e : Int), .func (.func 72) #[] #[]] w (SortGot w b p (t :: v) s) := by
 have HA := Lib.hid h
 have hlen : (p ++ (t :: v) ++ s).length = N := by rw [hN]; simp only [List.length_append, List.length_cons]
 have HLEN := Lib.hid hlen
 have HC := Lib.hid hC
 have HS := Lib.hid hs
 have HAP := Lib.hid ha
 have HM := Lib.hid hm
 have HE := Lib.hid he
 have HN := Lib.hid hN
 have d0 : ((m : Int) - (a : Int) == 1) = true := by rw [beq_iff_eq]; omega
 have hb : m ≤ 1000000 ∧ e ≤ 1000000 ∧ a ≤ 1000000 := by omega
 obtain ⟨hb1, hb2, hb3⟩ := hb
 clear h hlen hC hs ha hm he hN
 go_enter Tryz.func136, Tryz.ntmps136
 go_wp2_with fail
 go_loopw [10, 11] (BinR w b (p ++ (t :: v) ++ s) v t.length m) (fun iv jv _ => (intOf jv).toNat - (intOf iv).toNat)
 case atStart => exact ⟨0, v.length, rfl, by rw [HE.out], BinK.start _ _, HA.out, Fr.refl _ _⟩
 case round =>
  obtain ⟨i, j, rfl, rfl, hbk, harr, hf⟩ := hrel
  have HB := Lib.hid hbk
  have HR := Lib.hid harr
  have HF := Lib.hid hf
  clear HA
  by_cases hij : i < j
  ·obtain ⟨mi, hmi⟩ : ∃ x, x = m + i := ⟨_, rfl⟩
   obtain ⟨mj, hmj⟩ : ∃ x, x = m + j := ⟨_, rfl⟩
   rw [← hmi, ← hmj]
   have d1 : decide (mi < mj) = true := decide_eq_true (by omega)
   have hjv := hbk.top
   have hle : mi + mj ≤ 2000000 := by have := HE.out; omega
   have HMI := Lib.hid hmi
   have HMJ := Lib.hid hmj
   have HJV := Lib.hid hjv
   clear hbk harr hf hjv hmi hmj
   obtain ⟨c, hc⟩ : ∃ c, m + c = (mi + mj) / 2 := ⟨(mi + mj) / 2 - m, by have h3 := HMI.out; have h4 := HMJ.out; omega⟩
   have hci : i ≤ c := by have h3 := HMI.out; have h4 := HMJ.out; omega
   have hcj : c < j := by have h3 := HMI.out; have h4 := HMJ.out; omega
   obtain ⟨x, hx⟩ : ∃ x, x = m + c := ⟨_, rfl⟩
   have HX := Lib.hid hx
   have HHX := Lib.hid (show ((mi : Int) + (mj : Int)) / 2 = (x : Int) by omega)
   have hcv : c < v.length := by have := HJV.out; omega
   have hxN : x < N := by have h3 := HE.out; have h4 := HN.out; have h5 := HAP.out; have h6 := HM.out; omega
   have haN : a < N := by have h3 := HE.out; have h4 := HN.out; have h5 := HAP.out; have h6 := HM.out; omega
   have ct := HR.out.get (i := a) (by rw [HLEN.out]; exact haN)
   rw [show p ++ (t :: v) ++ s = p ++ t :: (v ++ s) by simp, getD_mid _ _ _ HAP.out] at ct
   have cx := HR.out.get (i := x) (by rw [HLEN.out]; exact hxN)
   rw [show p ++ (t :: v) ++ s = (p ++ [t]) ++ v ++ s by simp, getD_in (p ++ [t]) s v hcv (by have h5 := HAP.out; have h6 := HM.out; simp; omega)] at cx
   obtain ⟨z, hz⟩ : ∃ z, z = v[c]'hcv := ⟨_, rfl⟩
   rw [← hz] at cx
   have HZ := Lib.hid hz
   have HCI := Lib.hid hci
   have HCJ := Lib.hid hcj
   have HCV := Lib.hid hcv
   clear hz hx hc hci hcj
   by_cases hlt : z.length < t.length
   ·obtain ⟨r, d3, hc⟩ := HC.out.yes hlt
    have HCM := Lib.hid hc
    have HBN := Lib.hid (HB.out.up HS.out HCI.out HCJ.out (fun q => by rw [← HZ.out]; exact hlt))
    clear hlt hc
    go_upto_region 5 with fail
    rw [HHX.out]
    go_quiet (first | (go_at_call 72; with_reducible refine Calls.quiet_of_same (HCM.out _)))
    go_wp2_with fail
    exact ⟨⟨c + 1, j, by have h3 := HX.out; simp only [Value.int.injEq, true_and]; omega, by rw [HMJ.out], HBN.out, HR.out.drewN nq, HF.out.andDrewN nq⟩, by simp [intOf]; have h3 := HX.out; have h4 := HMI.out; have h5 := HCI.out; have h6 := HCJ.out; have h7 := HMJ.out; omega⟩
   ·obtain ⟨r, d3, hc⟩ := HC.out.no hlt
    have HCM := Lib.hid hc
    have HBN := Lib.hid (HB.out.down HS.out HCI.out HCJ.out (fun q => by rw [← HZ.out]; omega))
    clear hlt hc
    go_upto_region 5 with fail
    rw [HHX.out]
    go_quiet (first | (go_at_call 72; with_reducible refine Calls.quiet_of_same (HCM.out _)))
    go_wp2_with fail
    exact ⟨⟨i, c, by rw [HMI.out], by rw [HX.out], HBN.out, HR.out.drewN nq, HF.out.andDrewN nq⟩, by simp [intOf]; have h3 := HX.out; have h4 := HMI.out; have h5 := HCI.out; have h6 := HCJ.out; have h7 := HMJ.out; omega⟩
  ·obtain rfl : i = j := by have := hbk.le; omega
   have hins := ins_left (R := LtW) HS.out HB.out
   have hIv := hbk.top
   obtain ⟨mi, hmi⟩ : ∃ x, x = m + i := ⟨_, rfl⟩
   rw [← hmi]
   have hmia : mi = a + i + 1 := by have := HM.out; omega
   obtain ⟨y, hy⟩ : ∃ y, y = a + i := ⟨_, rfl⟩
   have hmi1 : (mi : Int) - 1 = (y : Int) := by omega
   have HY := Lib.hid hy
   have hyb : y ≤ 1000000 := by have h3 := HE.out; have h4 := hbk.top; omega
   have d1 : decide (mi < mi) = false := decide_eq_false (by omega)
   have hmib : mi ≤ 1000000 := by have h3 := HE.out; omega
   have HINS := Lib.hid hins
   have HIV := Lib.hid hIv
   have HMIA := Lib.hid hmia
   clear hbk harr hf hins hIv hmi hmia HB hy
   go_wp2_with fail
   go_loopw [13] (InsL w b p v s t a i) (fun kv _ => mi - (intOf kv).toNat)
   case atStart => exact ⟨0, Nat.zero_le _, rfl, by simpa using HR.out, HF.out⟩
   case round =>
    clear HR HF
    obtain ⟨c, hc, rfl, harr, hf⟩ := hrel
    have HR := Lib.hid harr
    have HF := Lib.hid hf
    have HCI := Lib.hid hc
    obtain ⟨k, hk⟩ : ∃ k, k = a + c := ⟨_, rfl⟩
    rw [← hk]
    have HK := Lib.hid hk
    clear harr hf hk hc
    by_cases hci : c < i
    ·have d2 : decide (k < y) = true := decide_eq_true (by have h3 := HK.out; have h4 := HY.out; omega)
     obtain ⟨k1, hk1⟩ : ∃ k1, k1 = k + 1 := ⟨_, rfl⟩
     have hk1i : (k : Int) + 1 = (k1 : Int) := by omega
     have HK1 := Lib.hid hk1
     have hcv : c < v.length := by have := HIV.out; omega
     have hform : p ++ (v.take c ++ t :: v.drop c) ++ s = (p ++ v.take c) ++ t :: v[c]'hcv :: (v.drop (c + 1) ++ s) := by
      rw [List.drop_eq_getElem_cons hcv]; simp only [List.append_assoc, List.cons_append]
     have hlen2 : (p ++ (v.take c ++ t :: v.drop c) ++ s).length = N := by
      rw [HN.out]; simp only [List.length_append, List.length_cons, List.length_take, List.length_drop]; omega
     have hkl : k = (p ++ v.take c).length := by have h3 := HK.out; have h4 := HAP.out; rw [List.length_append, List.length_take]; omega
     have hsw : swp [] (p ++ (v.take c ++ t :: v.drop c) ++ s) k k1 = p ++ (v.take (c + 1) ++ t :: v.drop (c + 1)) ++ s := by
      rw [hform, hk1, swp_adj [] (p ++ v.take c) (v.drop (c + 1) ++ s) t (v[c]'hcv) hkl, List.take_succ_eq_append_getElem hcv]
      simp only [List.append_assoc, List.cons_append, List.nil_append]
     have hkN : k + 1 < N := by have h3 := HE.out; have h4 := HN.out; have h5 := HAP.out; have h6 := HM.out; have h7 := HK.out; omega
     have hk1N : k1 < N := by omega
     obtain ⟨X, Y, Z, q1, q2, q3, q4, q5, q6, HG⟩ := HR.out.facts (i := k) (j := k1) (by rw [hlen2]; omega) (by rw [hlen2]; omega)
     rw [hsw] at HG
     clear hk1 hform hlen2 hkl hsw
     go_upto_region 11 with fail
     go_region
     go_wp2_with fail
     exact ⟨⟨c + 1, by omega, by have h3 := HK.out; have h4 := HK1.out; simp only [Value.int.injEq, true_and]; omega, HG.out.1, HF.out.trans HG.out.2 (fun _ h _ => h) (fun _ h _ => h)⟩, by simp [intOf]; have h3 := HK.out; have h4 := HK1.out; have h5 := HY.out; have h6 := HMIA.out; omega⟩
    ·have d2 : decide (k < y) = false := decide_eq_false (by have h3 := HK.out; have h4 := HY.out; omega)
     obtain rfl : c = i := by have := HCI.out; omega
     go_wp2_with fail
     go_end0
     exact ⟨_, rfl, HINS.out.1, HINS.out.2, HR.out, HF.out⟩
end Go.Proofs.YtnaamjpiaekmeaaGreat
namespace Go.Proofs.YtnaamjpiaekmeaaGreat
open Go.RowKit
def BinRa (w : World) (b : Nat) (l v : Words) (e m : Nat) (iv jv : Value) (wx : World) : Prop := ∃ i j : Nat, iv = .int .i64 ((m + i : Nat) : Int) ∧ jv = .int .i64 ((m + j : Nat) : Int) ∧ BinK (List.length (α := UInt8)) v e i j ∧ ArrS wx b l ∧ Fr [b] w wx
def InsRt (w : World) (b : Nat) (p v s : Words) (t : List UInt8) (a I : Nat) (kv : Value) (wx : World) : Prop := ∃ c : Nat, I ≤ c ∧ c ≤ v.length ∧ kv = .int .i64 ((a + c : Nat) : Int) ∧ ArrS wx b (p ++ (v.take c ++ t :: v.drop c) ++ s) ∧ Fr [b] w wx
set_option maxRecDepth 100000 in
set_option maxHeartbeats 4000000 in
theorem psymB (hC : CmpP Tryz.prog 72) (p v s : Words) (t : List UInt8) (b cap a m e N : Nat) (w : World) (h : ArrS w b (p ++ (v ++ [t]) ++ s)) (hN : N = p.length + (v.length + 1) + s.length) (h1 : N ≤ cap) (h2 : N ≤ 1000000) (ha : a = p.length) (hm : m = a + v.length) (he : e = m + 1) (hs : SrtW v) (hv2 : 2 ≤ v.length) :
  Calls Tryz.prog 136 #[.slice (some ⟨b, 0, none⟩) N cap, .int .i64 (a : Int), .int .i64 (m : Int), .int .i64 (e : Int), .func (.func 72) #[] #[]] w (SortGot w b p (v ++ [t]) s) := by
 have HA := Lib.hid h
 have hlen : (p ++ (v ++ [t]) ++ s).length = N := by rw [hN]; simp only [List.length_append, List.length_cons, List.length_nil]
 have HLEN := Lib.hid hlen
 have HC := Lib.hid hC
 have HS := Lib.hid hs
 have HAP := Lib.hid ha
 have HM := Lib.hid hm
 have HE := Lib.hid he
 have HN := Lib.hid hN
 have d0 : ((m : Int) - (a : Int) == 1) = false := by rw [beq_eq_false_iff_ne]; omega
 have d00 : ((e : Int) - (m : Int) == 1) = true := by rw [beq_iff_eq]; omega
 have hb : m ≤ 1000000 ∧ e ≤ 1000000 ∧ a ≤ 1000000 := by omega
 obtain ⟨hb1, hb2, hb3⟩ := hb
 clear h hlen hC hs ha hm he hN hv2
 go_enter Tryz.func136, Tryz.ntmps136
 go_wp2_with fail
 go_loopw [14, 15] (BinRa w b (p ++ (v ++ [t]) ++ s) v (t.length + 1) a) (fun iv jv _ => (intOf jv).toNat - (intOf iv).toNat)
 case atStart => exact ⟨0, v.length, rfl, by rw [HM.out], BinK.start _ _, HA.out, Fr.refl _ _⟩
 case round =>
  obtain ⟨i, j, rfl, rfl, hbk, harr, hf⟩ := hrel
  have HB := Lib.hid hbk
  have HR := Lib.hid harr
  have HF := Lib.hid hf
  clear HA
  by_cases hij : i < j
  ·obtain ⟨mi, hmi⟩ : ∃ x, x = a + i := ⟨_, rfl⟩
   obtain ⟨mj, hmj⟩ : ∃ x, x = a + j := ⟨_, rfl⟩
   rw [← hmi, ← hmj]
   have d1 : decide (mi < mj) = true := decide_eq_true (by omega)
   have hjv := hbk.top
   have hle : mi + mj ≤ 2000000 := by have := HE.out; have := HM.out; omega
   have HMI := Lib.hid hmi
   have HMJ := Lib.hid hmj
   have HJV := Lib.hid hjv
   clear hbk harr hf hjv hmi hmj
   obtain ⟨c, hc⟩ : ∃ c, a + c = (mi + mj) / 2 := ⟨(mi + mj) / 2 - a, by have h3 := HMI.out; have h4 := HMJ.out; omega⟩
   have hci : i ≤ c := by have h3 := HMI.out; have h4 := HMJ.out; omega
   have hcj : c < j := by have h3 := HMI.out; have h4 := HMJ.out; omega
   obtain ⟨x, hx⟩ : ∃ x, x = a + c := ⟨_, rfl⟩
   have HX := Lib.hid hx
   have HHX := Lib.hid (show ((mi : Int) + (mj : Int)) / 2 = (x : Int) by omega)
   have hcv : c < v.length := by have := HJV.out; omega
   have hxN : x < N := by have h3 := HE.out; have h4 := HN.out; have h5 := HAP.out; have h6 := HM.out; omega
   have hmN : m < N := by have h3 := HE.out; have h4 := HN.out; have h5 := HAP.out; have h6 := HM.out; omega
   have ct := HR.out.get (i := m) (by rw [HLEN.out]; exact hmN)
   rw [show p ++ (v ++ [t]) ++ s = (p ++ v) ++ t :: s by simp, getD_mid _ _ _ (by rw [List.length_append, HM.out, HAP.out])] at ct
   have cx := HR.out.get (i := x) (by rw [HLEN.out]; exact hxN)
   rw [show p ++ (v ++ [t]) ++ s = p ++ v ++ (t :: s) by simp, getD_in p (t :: s) v hcv (by have h5 := HAP.out; omega)] at cx
   obtain ⟨z, hz⟩ : ∃ z, z = v[c]'hcv := ⟨_, rfl⟩
   rw [← hz] at cx
   have HZ := Lib.hid hz
   have HCI := Lib.hid hci
   have HCJ := Lib.hid hcj
   clear hz hx hc hci hcj
   by_cases hlt : t.length < z.length
   ·obtain ⟨r, d3, hc⟩ := HC.out.yes hlt
    have HCM := Lib.hid hc
    have HBN := Lib.hid (HB.out.down HS.out HCI.out HCJ.out (fun q => by rw [← HZ.out]; omega))
    clear hlt hc
    go_upto_region 17 with fail
    rw [HHX.out]
    go_quiet (first | (go_at_call 72; with_reducible refine Calls.quiet_of_same (HCM.out _)))
    go_wp2_with fail
    exact ⟨⟨i, c, by rw [HMI.out], by rw [HX.out], HBN.out, HR.out.drewN nq, HF.out.andDrewN nq⟩, by simp [intOf]; have h3 := HX.out; have h4 := HMI.out; have h5 := HCI.out; have h6 := HCJ.out; have h7 := HMJ.out; omega⟩
   ·obtain ⟨r, d3, hc⟩ := HC.out.no hlt
    have HCM := Lib.hid hc
    have HBN := Lib.hid (HB.out.up HS.out HCI.out HCJ.out (fun q => by rw [← HZ.out]; omega))
    clear hlt hc
    go_upto_region 17 with fail
    rw [HHX.out]
    go_quiet (first | (go_at_call 72; with_reducible refine Calls.quiet_of_same (HCM.out _)))
    go_wp2_with fail
    exact ⟨⟨c + 1, j, by have h3 := HX.out; simp only [Value.int.injEq, true_and]; omega, by rw [HMJ.out], HBN.out, HR.out.drewN nq, HF.out.andDrewN nq⟩, by simp [intOf]; have h3 := HX.out; have h4 := HMI.out; have h5 := HCI.out; have h6 := HCJ.out; have h7 := HMJ.out; omega⟩
  ·obtain rfl : i = j := by have := hbk.le; omega
   have hins := ins_right (R := LtW) (e := t) HS.out HB.out
   have hIv := hbk.top
   obtain ⟨mi, hmi⟩ : ∃ x, x = a + i := ⟨_, rfl⟩
   rw [← hmi]
   have d1 : decide (mi < mi) = false := decide_eq_false (by omega)
   have hmib : mi ≤ 1000000 := by have h3 := HE.out; have := HM.out; omega
   have HINS := Lib.hid hins
   have HIV := Lib.hid hIv
   have HMIA := Lib.hid hmi
   clear hbk harr hf hins hIv hmi HB
   go_wp2_with fail
   go_loopw [17] (InsRt w b p v s t a i) (fun kv _ => (intOf kv).toNat)
   case atStart => exact ⟨v.length, HIV.out, Nat.le_refl _, by rw [HM.out], by simpa using HR.out, HF.out⟩
   case round =>
    clear HR HF
    obtain ⟨c, hc, hcl, rfl, harr, hf⟩ := hrel
    have HR := Lib.hid harr
    have HF := Lib.hid hf
    have HCI := Lib.hid hc
    have HCL := Lib.hid hcl
    obtain ⟨k, hk⟩ : ∃ k, k = a + c := ⟨_, rfl⟩
    rw [← hk]
    have HK := Lib.hid hk
    clear harr hf hk hc hcl
    by_cases hci : i < c
    ·have d2 : decide (mi < k) = true := decide_eq_true (by have h3 := HK.out; have h4 := HMIA.out; omega)
     obtain ⟨c1, hc1⟩ : ∃ c1, c = c1 + 1 := ⟨c - 1, by omega⟩
     obtain ⟨k1, hk1⟩ : ∃ k1, k1 = a + c1 := ⟨_, rfl⟩
     have hk1i : (k : Int) - 1 = (k1 : Int) := by have := HK.out; omega
     have HK1 := Lib.hid hk1
     have HC1 := Lib.hid hc1
     have hcv : c1 < v.length := by have := HCL.out; omega
     have hform : p ++ (v.take c ++ t :: v.drop c) ++ s = (p ++ v.take c1) ++ v[c1]'hcv :: t :: (v.drop c ++ s) := by
      rw [hc1, List.take_succ_eq_append_getElem hcv]; simp only [List.append_assoc, List.cons_append, List.nil_append]
     have hlen2 : (p ++ (v.take c ++ t :: v.drop c) ++ s).length = N := by
      rw [HN.out]; have := HCL.out; simp only [List.length_append, List.length_cons, List.length_take, List.length_drop]; omega
     have hkl : k1 = (p ++ v.take c1).length := by have h4 := HAP.out; rw [List.length_append, List.length_take]; omega
     have hkk : k = k1 + 1 := by have := HK.out; omega
     have hsw : swp [] (p ++ (v.take c ++ t :: v.drop c) ++ s) k k1 = p ++ (v.take c1 ++ t :: v.drop c1) ++ s := by
      rw [hform, hkk, swp_adj2 [] (p ++ v.take c1) (v.drop c ++ s) (v[c1]'hcv) t hkl, List.drop_eq_getElem_cons hcv, hc1]
      simp only [List.append_assoc, List.cons_append]
     have hkN : k < N := by have h3 := HE.out; have h4 := HN.out; have h5 := HAP.out; have h6 := HM.out; have h7 := HK.out; have := HCL.out; omega
     have hk1N : k1 < N := by omega
     obtain ⟨X, Y, Z, q1, q2, q3, q4, q5, q6, HG⟩ := HR.out.facts (i := k) (j := k1) (by rw [hlen2]; omega) (by rw [hlen2]; omega)
     rw [hsw] at HG
     clear hk1 hform hlen2 hkl hsw hkk hc1
     go_upto_region 23 with fail
     go_region
     go_wp2_with fail
     exact ⟨⟨c1, by have := HC1.out; omega, by have := HC1.out; have := HCL.out; omega, by rw [HK1.out], HG.out.1, HF.out.trans HG.out.2 (fun _ h _ => h) (fun _ h _ => h)⟩, by simp [intOf]; have h3 := HK.out; have h4 := HK1.out; have h6 := HMIA.out; have := HC1.out; omega⟩
    ·have d2 : decide (mi < k) = false := decide_eq_false (by have h3 := HK.out; have h4 := HMIA.out; omega)
     obtain rfl : c = i := by have := HCI.out; omega
     go_wp2_with fail
     go_end0
     exact ⟨_, rfl, HINS.out.1, HINS.out.2, HR.out, HF.out⟩
end Go.Proofs.YtnaamjpiaekmeaaGreat
