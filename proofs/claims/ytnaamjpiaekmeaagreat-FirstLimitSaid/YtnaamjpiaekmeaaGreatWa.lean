/- Several texts in one: WlA, WlB, WlC. -/
import Derived.LoopTactic
import Derived.WalkMore
import Derived.Deep.DeepCutAuto
import Derived.Sort.OwnSorted
import Derived.Test.YtnaamjpiaekmeaaGreatMn
import Derived.Test.YtnaamjpiaekmeaaGreatGb
import Derived.Test.YtnaamjpiaekmeaaGreatDt
import Derived.Test.YtnaamjpiaekmeaaGreatBs
import Derived.Test.YtnaamjpiaekmeaaGreatWd
import Derived.Test.YtnaamjpiaekmeaaGreatShelf
set_option linter.unusedVariables false
set_option linter.unusedSimpArgs false
namespace Go.Proofs.YtnaamjpiaekmeaaGreat
open Go.RowKit Go.Maps
def cntR : Words → DataW Unit
 | [] => .map []
 | x :: r => (cntR r).put (.string x) (.lit (.int .i64 ((r.count x + 1 : Nat) : Int)))
def cntD (ws : Words) : DataW Unit := cntR ws.reverse
theorem cntR_tidy : ∀ r : Words, Tidy (cntR r)
 | [] => tidy_empty
 | x :: r => (cntR_tidy r).put (show WideAt.IsKeyLit (.string x) from trivial) _
theorem cntR_at : ∀ (r : Words) (x : List UInt8), (cntR r).atKey (.string x) (.lit (.int .i64 0)) = .lit (.int .i64 ((r.count x : Nat) : Int))
 | [], x => by simp [cntR, DataW.atKey]
 | y :: r, x => by
   rw [cntR]
   by_cases e : x = y
   ·subst e
    rw [atKey_put_same (cntR_tidy r).isMap (show WideAt.IsKeyLit (.string x) from trivial), List.count_cons_self]
   ·rw [atKey_put_other (fun q => e (by injection q)), cntR_at r x, List.count_cons_of_ne (fun q => e q.symm)]
theorem cntD_at (ws : Words) (x : List UInt8) : (cntD ws).atKey (.string x) (.lit (.int .i64 0)) = .lit (.int .i64 ((ws.count x : Nat) : Int)) := by
 unfold cntD; rw [cntR_at, count_rev]
theorem cntD_snoc (ws : Words) (x : List UInt8) : cntD (ws ++ [x]) = (cntD ws).put (.string x) (.lit (.int .i64 ((ws.count x + 1 : Nat) : Int))) := by
 unfold cntD
 rw [List.reverse_append]
 show cntR (x :: ws.reverse) = _
 rw [cntR, count_rev]
structure TyAt (w : World) (base p mb t : Nat) (ws : Words) (fv : Value) : Prop where
 obj : w.heap[p]? = some (.cells #[.int .i64 (t : Int), .map (some mb), fv] 116 (0, 0))
 map : w.ownsMap Tryz.prog 9 (plainElem Tryz.prog 3) mb ws.length (cntD ws)
 row : w.ownsRow base 9 1 fv (fndW t ws).length ((fndW t ws).map encStr)
 hp : base ≤ p
 hm : base ≤ mb
theorem TyAt.fr {w w' : World} {base p mb t : Nat} {ws : Words} {fv : Value} (h : TyAt w base p mb t ws fv) (hf : Fr [] w w') : TyAt w' base p mb t ws fv :=
 ⟨hf.heap h.obj (by simp), ownsMap_kept h.map hf (by simp), owns_kept h.row hf (by simp), h.hp, h.hm⟩
def tyB (p mb : Nat) (fv : Value) : List Nat := p :: mb :: fv.ownBlock.toList
theorem TyAt.ge {w : World} {base p mb t : Nat} {ws : Words} {fv : Value} (h : TyAt w base p mb t ws fv) : ∀ i ∈ tyB p mb fv, base ≤ i := by
 intro i hi
 unfold tyB at hi
 rcases List.mem_cons.1 hi with rfl | hi
 ·exact h.hp
 rcases List.mem_cons.1 hi with rfl | hi
 ·exact h.hm
 rcases h.row.2 with ⟨rfl, _⟩ | ⟨g, cap, cur, rfl, hb, _⟩
 ·simp [Value.ownBlock] at hi
 ·simp [Value.ownBlock] at hi; omega
theorem TyAt.pm {w : World} {base p mb t : Nat} {ws : Words} {fv : Value} (h : TyAt w base p mb t ws fv) : p ≠ mb := by
 rintro rfl
 obtain ⟨es, c, hh, _⟩ := h.map
 have := h.obj
 rw [hh] at this
 cases this
theorem TyAt.pf {w : World} {base p mb t : Nat} {ws : Words} {fv : Value} (h : TyAt w base p mb t ws fv) : p ∉ fv.ownBlock.toList := by
 rcases h.row.2 with ⟨rfl, _⟩ | ⟨g, cap, cur, rfl, _, hb, _⟩
 ·simp [Value.ownBlock]
 ·simp only [Value.ownBlock, Option.toList_some, List.mem_singleton]
  rintro rfl
  have := h.obj
  rw [hb] at this
  injection this with this
  injection this with _ e _
  exact absurd e (by decide)
theorem TyAt.mf {w : World} {base p mb t : Nat} {ws : Words} {fv : Value} (h : TyAt w base p mb t ws fv) : mb ∉ fv.ownBlock.toList := by
 rcases h.row.2 with ⟨rfl, _⟩ | ⟨g, cap, cur, rfl, _, hb, _⟩
 ·simp [Value.ownBlock]
 ·simp only [Value.ownBlock, Option.toList_some, List.mem_singleton]
  rintro rfl
  obtain ⟨es, c, hh, _⟩ := h.map
  rw [hb] at hh
  cases hh
def TyGot (w : World) (base p mb t : Nat) (ws : Words) (fv : Value) (w' : World) : Prop :=
 ∃ fv', TyAt w' base p mb t ws fv' ∧ Fr (tyB p mb fv) w w' ∧ ∀ i ∈ tyB p mb fv', i ∈ tyB p mb fv ∨ w.heap.size ≤ i
theorem TyGot.refl {w : World} {base p mb t : Nat} {ws : Words} {fv : Value} (h : TyAt w base p mb t ws fv) : TyGot w base p mb t ws fv w := ⟨fv, h, Fr.refl _ _, fun i hi => .inl hi⟩
theorem wpL_lookN {P : Program} {w : World} {ops : Array Oper} {rest : List Oper} {o : Oper} {a : Act} {Q : Exit → Act → World → Prop} (hg : o.guard = none) (m x : Operand) (t : TypeId) (hop : o.op = Op.lookup t m x false)
  (k e : TypeId) (K : Keyed P k) (ht : P.underlying t = some (.map k e)) (he : P.underlying e = some (.int .i64)) (hz : (zeroValue e).run P w = .ok (.int .i64 0) w) (b n : Nat) (D : DataW Unit)
  (hm : a.eval m = .map (some b)) (hown : w.ownsMap P k (plainElem P e) b n D) (key : Value) (kl : Lit) (hx : a.eval x = key) (hkey : keyOf P k key = some kl) (c0 : Int) (hat : D.atKey kl (.lit (.int .i64 0)) = .lit (.int .i64 c0))
  (hK : wpList P ops Q rest (a.put o.dst (.int .i64 c0)) w) : wpList P ops Q (o :: rest) a w :=
 wpList_lookup_own_int w hg m x t hop k e .i64 K ht he hz b n D hm hown key kl hx hkey (fun c h _ => by
  rw [hat] at h
  injection h with h
  injection h with _ h
  subst h
  exact hK)
set_option maxRecDepth 100000 in
theorem look_cnt {w : World} {b n : Nat} {D : DataW Unit} {x : List UInt8} {c0 : Int} (h : w.ownsMap Tryz.prog 9 (plainElem Tryz.prog 3) b n D) (hx : x.length ≤ maxLen) (hat : D.atKey (.string x) (.lit (.int .i64 0)) = .lit (.int .i64 c0)) :
  (Instr.lookup 114 (.map (some b)) (encStr x) false).run Tryz.prog w = .ok (.int .i64 c0) w := by
 obtain ⟨c, hr, ha, -⟩ := h.lookup_int lawKS Tryz.underlying114 Tryz.underlying3 (zeroKI w) (keyOfS x hx)
 rw [hat] at ha
 injection ha with ha
 injection ha with _ ha
 rw [ha]
 exact hr
end Go.Proofs.YtnaamjpiaekmeaaGreat
namespace Go.Proofs.YtnaamjpiaekmeaaGreat
open Go.RowKit Go.Maps
def AddRel (w : World) (base p mb t : Nat) (ws l : Words) (fv : Value) (iv : Value) (wx : World) : Prop :=
 ∃ k : Nat, k ≤ l.length ∧ iv = .int .i64 (k : Int) ∧ TyGot w base p mb t (ws ++ l.take k) fv wx
theorem tyB_sub {p mb : Nat} {fv fv' : Value} {n : Nat} (h : fv'.ownBlock = fv.ownBlock ∨ ∃ k, fv'.ownBlock = some k ∧ n ≤ k) : ∀ i ∈ tyB p mb fv', i ∈ tyB p mb fv ∨ n ≤ i := by
 intro i hi
 unfold tyB at hi ⊢
 rcases List.mem_cons.1 hi with rfl | hi
 ·exact .inl (by simp)
 rcases List.mem_cons.1 hi with rfl | hi
 ·exact .inl (by simp)
 rcases h with h | ⟨k, h, hk⟩
 ·rw [h] at hi; exact .inl (by simp [hi])
 ·rw [h] at hi
  simp at hi
  exact .inr (by omega)
set_option maxRecDepth 100000 in
set_option maxHeartbeats 4000000 in
theorem padd_any (base p mb t : Nat) (ws l : Words) (fv v : Value) (w : World) (ht : 0 < t) (ht2 : t ≤ 1000) (h : TyAt w base p mb t ws fv) (hst : ∀ w', Fr (tyB p mb fv) w w' → strsAt w' v l) (hb : base ≤ w.heap.size) (hn : ws.length + l.length ≤ 2000000000) (hx : ∀ x ∈ l, x.length ≤ maxLen) :
  Calls Tryz.prog 77 #[.pointer (some ⟨p, 0, none⟩), v] w fun e w' => e = .returned (.tuple #[]) ∧ TyGot w base p mb t (ws ++ l) fv w' := by
 obtain ⟨iS, hiS, hS0, hS1, hS2⟩ := info_parts infoStrW
 obtain ⟨a0, c0, rfl, hc0, hm0⟩ := (hst w (Fr.refl _ _)).form
 have HST := Lib.hid hst
 have HX := Lib.hid hx
 have H0 := Lib.hid (TyGot.refl h)
 clear h hst hx
 go_enter Tryz.func77, Tryz.ntmps77
 go_wp2_with fail
 go_loopw [8] (AddRel w base p mb t ws l fv) (fun iv _ => l.length - (intOf iv).toNat)
 case atStart => exact ⟨0, Nat.zero_le _, rfl, by rw [List.take_zero, List.append_nil]; exact H0.out⟩
 case round =>
  obtain ⟨k, hk, rfl, hgot⟩ := hrel
  by_cases hkn : k < l.length
  ·have hd1 : decide (k < l.length) = true := decide_eq_true hkn
   obtain ⟨fr, hT, hF, hsub⟩ := hgot
   obtain ⟨b, off, rfl, hc⟩ := str_cell (HST.out wr hF) k hkn
   have hxl := HX.out _ (List.getElem_mem hkn)
   have hkey := keyOfS (l[k]'hkn) hxl
   have htk : l.take (k + 1) = l.take k ++ [l[k]'hkn] := List.take_succ_eq_append_getElem hkn
   obtain ⟨x, hxe⟩ : ∃ x, x = l[k]'hkn := ⟨_, rfl⟩
   rw [← hxe] at hc hkey hxl htk
   obtain ⟨us, hus⟩ : ∃ us, us = ws ++ l.take k := ⟨_, rfl⟩
   have hul : us.length ≤ 1999999999 := by rw [hus, List.length_append, List.length_take]; omega
   have hnx : ws ++ l.take (k + 1) = us ++ [x] := by rw [htk, ← List.append_assoc, hus]
   rw [← hus] at hT
   obtain ⟨C, hC⟩ : ∃ C, C = us.count x := ⟨_, rfl⟩
   have hCl : C ≤ 1999999999 := by rw [hC]; exact Nat.le_trans List.count_le_length hul
   have hat := cntD_at us x
   have hat2 : ((cntD us).put (.string x) (.lit (.int .i64 ((C : Int) + 1)))).atKey (.string x) (.lit (.int .i64 0)) = .lit (.int .i64 ((C : Int) + 1)) := atKey_put_same (cntR_tidy us.reverse).isMap (show WideAt.IsKeyLit (.string x) from trivial) _ _
   have hsn : cntD (us ++ [x]) = (cntD us).put (.string x) (.lit (.int .i64 ((C : Int) + 1))) := by rw [cntD_snoc, ← hC]; rfl
   have hwf : (Lit.int .i64 ((C : Int) + 1)).wf = true := wf_nat (k := C + 1) (by omega)
   rw [← hC] at hat
   obtain ⟨c1, c2, c3, f1, f2, f3⟩ := three_of_heap hT.obj
   have hbr : base ≤ wr.heap.size := by have := hF.size; omega
   have HKY := Lib.hid hkey
   have HXL := Lib.hid hxl
   have HNX := Lib.hid hnx
   have HC := Lib.hid hC
   have HAT := Lib.hid hat
   have HAT2 := Lib.hid hat2
   have HSN := Lib.hid hsn
   have HWF := Lib.hid hwf
   have HT := Lib.hid hT
   have HF := Lib.hid hF
   have HSUB := Lib.hid hsub
   have HPM := Lib.hid hT.pm
   have HPF := Lib.hid hT.pf
   have HMF := Lib.hid hT.mf
   have HM := Lib.hid hT.map
   have HUL := Lib.hid hul
   have hdt : (((C : Int) + 1) == (t : Int)) = true ∨ (((C : Int) + 1) == (t : Int)) = false := by cases h : (((C : Int) + 1) == (t : Int)) <;> simp
   clear hkey htk hxe hus hnx hC hat hat2 hsn hwf hT hF hsub hul hxl
   go_upto_region 4 with (first
    | (at_lookup; refine wpL_lookN rfl _ _ 114 rfl 9 3 lawKS Tryz.underlying114 Tryz.underlying3 (zeroKI _) mb _ _ rfl HM.out _ _ rfl HKY.out _ HAT.out ?_)
    | (at_mapUpdate; refine wpList_mapUpdate_own _ rfl _ _ _ 114 rfl 9 3 lawKS Tryz.underlying114 (plainElem Tryz.prog 3) mb us.length _ rfl HM.out (by have := HUL.out; unfold maxLen; omega) _ _ _ rfl rfl HKY.out _ [] (plainElem_int Tryz.underlying3 HWF.out) ?_; intro w1 hown1 hgrow1))
   have hgr := Fr.of_grown hgrow1
   have hob := hgr.heap HT.out.obj (by simp; exact HPM.out)
   have hrw := owns_kept HT.out.row hgr (fun i hi q => HMF.out (by rw [Option.mem_toList, hi]; simp at q; rw [q]))
   rw [← HSN.out] at hown1
   refine wp_region_G [] [(0, false), (1, false), (2, false), (3, false), (4, false), (5, false), (6, false), (7, false), (8, false), (9, false), (10, false)] 41 rfl (by kernel_rfl) (by kernel_rfl) (by kernel_rfl) (fun c a d v w h => by cases d <;> exact h) (fun wd hfd => ?_)
   simp only [List.map_cons, List.map_nil, List.getElem?_toArray, List.getElem?_cons_succ, List.getElem?_cons_zero, Option.getD_some]
   have L1 : Hid (Later [] wd (fun w' => w'.heap[p]? = some (.cells #[.int .i64 (t : Int), .map (some mb), fr] 116 (0, 0)))) := Lib.hid (fun w' hf' => hf'.heap (hfd.heap hob (by simp)) (by simp))
   have L2 : Hid (Later [] wd (fun w' => (Instr.lookup 114 (.map (some mb)) (encStr x) false).run Tryz.prog w' = .ok (.int .i64 ((C : Int) + 1)) w')) := Lib.hid (fun w' hf' => look_cnt (ownsMap_kept (ownsMap_kept hown1 hfd (by simp)) hf' (by simp)) HXL.out (by rw [HSN.out]; exact HAT2.out))
   have HMD := Lib.hid (ownsMap_kept hown1 hfd (by simp))
   have HRD := Lib.hid (owns_kept hrw hfd (by simp))
   have HFD := Lib.hid (hgr.trans hfd (fun i hi _ => by simpa using hi) (n := [mb]) (by simp))
   clear hfd hob hrw hown1 hgrow1 hgr c1 c2 c3 f1 f2 f3 hc
   repeat (apply wpG_t; · (intro w' hf'; obtain ⟨c1, c2, c3, f1, f2, f3⟩ := three_of_heap (L1.out w' hf'); have lk := L2.out w' hf'; go_wp2_with fail; exact ⟨rfl, rfl⟩))
   refine wpG_end ?_
   have hwd : wr.heap.size ≤ wd.heap.size := HFD.out.size
   rcases hdt with hdt | hdt
   ·have hCt : C + 1 = t := by have := eq_of_beq hdt; omega
    have hcount : us.count x + 1 = t := by rw [← HC.out]; exact hCt
    have hfn := fndW_yes hcount
    have HFN := Lib.hid hfn
    have hfl : (fndW t us).length ≤ 1999999999 := Nat.le_trans (fndW_len ht us) HUL.out
    have HFL := Lib.hid hfl
    obtain ⟨a2, ca, rfl, hca, hma⟩ := owns_slice HRD.out
    obtain ⟨nf, hnf⟩ : ∃ n, n = (fndW t us).length := ⟨_, rfl⟩
    have HRD2 := Lib.hid HRD.out
    rw [← hnf] at HRD2 HFL hca
    have L1' := L1
    rw [← hnf] at L1'
    obtain ⟨c1, c2, c3, f1, f2, f3⟩ := three_of_heap (L1'.out wd (Fr.refl _ _))
    have HNF := Lib.hid hnf
    rw [← hnf] at HPF HMF HSUB
    rw [hdt]
    clear hcount hfn hfl hnf L1 HRD hdt hCt
    go_wp2_with (at_builtin; refine wpL_append1 rfl _ _ 22 rfl base 9 iS (.string ⟨#[]⟩) 16 Tryz.underlying22 hiS hS0 hS1 hS2 rfl (.slice a2 nf ca) nf _ rfl HRD2.out (encStr x) rfl rfl (by have := HFL.out; omega) (by have := HFL.out; simp only [maxLen]; omega) (by omega) ?_; intro v9 w9 hown9 hf9 hb9; obtain ⟨c1, c2, c3, f1, f2, f3⟩ := three_of_heap (hf9.heap (L1'.out wd (Fr.refl _ _)) HPF.out); obtain ⟨a9, c9, rfl, hc9, hm9⟩ := owns_slice hown9)
    have hob9 := hf9.heap (L1'.out wd (Fr.refl _ _)) HPF.out
    have hs := Fr.set0 w9 p 2 (.slice a9 (nf + 1) c9)
    have hob2 := heap_setCell_same (i := 2) hob9 (.slice a9 (nf + 1) c9)
    have hmm := ownsMap_kept (ownsMap_kept HMD.out hf9 HMF.out) hs (by simp; exact fun e => HPM.out e.symm)
    have hfl9 : ((us ++ [x]).length) = us.length + 1 := by simp
    have hrow9 : w9.ownsRow base 9 1 (.slice a9 (nf + 1) c9) (fndW t (us ++ [x])).length ((fndW t (us ++ [x])).map encStr) := by
     rw [HFN.out, List.length_append, List.map_append, ← HNF.out]
     exact hown9
    refine ⟨⟨k + 1, hkn, by go_num, .slice a9 (nf + 1) c9, ⟨hob2, ?_, ?_, HT.out.hp, HT.out.hm⟩, ?_, ?_⟩, by simp [intOf]; omega⟩
    ·rw [HNX.out, hfl9]; exact hmm
    ·rw [HNX.out]
     refine owns_kept hrow9 hs (fun i hi q => ?_)
     simp at q
     subst q
     rcases hb9 with e | ⟨g, e, hg⟩
     ·exact HPF.out (by rw [Option.mem_toList, ← e]; exact hi)
     ·rw [e] at hi
      injection hi with hi
      have := (Array.getElem?_eq_some_iff.1 (L1'.out wd (Fr.refl _ _))).1
      omega
    ·refine ((HF.out.trans HFD.out (fun _ hi _ => hi) (fun i hi _ => by simp at hi; rw [hi]; simp [tyB])).trans (hf9.trans hs (fun i hi _ => List.mem_append.2 (.inl hi)) (n := (Value.slice a2 nf ca).ownBlock.toList ++ [p]) (fun i hi _ => List.mem_append.2 (.inr hi))) (fun _ hi _ => hi) (n := tyB p mb fv) (fun i hi hlt => ?_))
     have hm : i ∈ tyB p mb (Value.slice a2 nf ca) := by
      unfold tyB
      rcases List.mem_append.1 hi with q | q
      ·simp only [List.mem_cons, q, or_true]
      ·simp at q; rw [q]; simp
     rcases HSUB.out i hm with q | q
     ·exact q
     ·omega
    ·intro i hi
     have hwr : w.heap.size ≤ wr.heap.size := HF.out.size
     rcases tyB_sub (p := p) (mb := mb) hb9 i hi with q | q
     ·exact HSUB.out i q
     ·exact .inr (by omega)
   ·have hcount : ¬ us.count x + 1 = t := fun e => by rw [← HC.out] at e; have := ne_of_beq_false hdt; omega
    have HFN := Lib.hid (fndW_no hcount)
    clear hcount
    rw [hdt]
    clear hdt
    go_wp2_with fail
    refine ⟨⟨k + 1, hkn, by go_num, fr, ⟨L1.out wd (Fr.refl _ _), ?_, ?_, HT.out.hp, HT.out.hm⟩, ?_, HSUB.out⟩, by simp [intOf]; omega⟩
    ·rw [HNX.out, List.length_append]; exact HMD.out
    ·rw [HNX.out, HFN.out]; exact HRD.out
    ·exact HF.out.trans HFD.out (fun _ hi _ => hi) (fun i hi _ => by simp at hi; rw [hi]; simp [tyB])
  ·have hd1 : decide (k < l.length) = false := decide_eq_false hkn
   obtain rfl : k = l.length := by omega
   rw [List.take_length] at hgot
   have HG := Lib.hid hgot
   clear hgot
   go_wp2_with fail
   go_end0
   exact ⟨rfl, HG.out⟩
end Go.Proofs.YtnaamjpiaekmeaaGreat
namespace Go.Proofs.YtnaamjpiaekmeaaGreat
open Go.RowKit Go.Maps Go.Sort
def SetGot (l : Words) (L : List Nat) (w : World) (e : Ending) (w' : World) : Prop := ∃ v, e = .returned v ∧ strsAt w' v l ∧ Fr L w w'
set_option maxRecDepth 100000 in
set_option maxHeartbeats 1000000 in
theorem pset_any (base p mb t : Nat) (ws : Words) (fv : Value) (w : World) (h : TyAt w base p mb t ws fv) (hn : (fndW t ws).length ≤ 2000000000) :
  Calls Tryz.prog 78 #[.pointer (some ⟨p, 0, none⟩)] w (SetGot (sortW (fndW t ws)) (tyB p mb fv) w) := by
 obtain ⟨c1, c2, c3, f1, f2, f3⟩ := three_of_heap h.obj
 have HO := Lib.hid h.obj
 have HPF := Lib.hid h.pf
 have hrow := h.row
 rcases hrow.2 with ⟨rfl, h0⟩ | ⟨g, cap, cur, rfl, hbase, hb, h1, h2, h3, h4⟩
 ·have he : sortW (fndW t ws) = [] := List.length_eq_zero_iff.1 (by rw [sortW_len]; exact h0)
  have HE := Lib.hid he
  have HS := Lib.hid (fun wx => Tryz.slices_Sort_string_none none 0 wx)
  clear h hrow h0 he hn
  go_enter Tryz.func78, Tryz.ntmps78
  go_wp2_with (go_at_call 112; refine (HS.out _).mono ?_; rintro e w' ⟨rfl, rfl⟩)
  go_ret
  exact ⟨_, rfl, by rw [HE.out]; exact cellsAt.nil _, Fr.refl _ _⟩
 ·have hH : Holds encStr w g 0 (fndW t ws).toArray := holds_of_block hb (by simpa using h4)
  have hgl : g < w.heap.size := (Array.getElem?_eq_some_iff.1 hb).1
  have HSO := Lib.hid (Tryz.slices_Sort_string g 0 cap (fndW t ws) w hH hgl (by omega))
  have HROW : Hid (∀ n os, (grow (putRow encStr (Sort.ahead w n) g 0 ((fndW t ws).mergeSort fun x y => decide (x ≤ y)).toArray) os).ownsRow base 9 1 (.slice (some ⟨g, 0, none⟩) (fndW t ws).length cap) (fndW t ws).length (((fndW t ws).mergeSort fun x y => decide (x ≤ y)).map encStr)) := Lib.hid (fun n os => ownsRow_sorted (by simp) hbase hb h1 h2 h3)
  have HFR : Hid (∀ n os, Fr [g] w (grow (putRow encStr (Sort.ahead w n) g 0 ((fndW t ws).mergeSort fun x y => decide (x ≤ y)).toArray) os)) := Lib.hid (fun n os => Fr.of_grown (grownBy_sorted _))
  have HG : Hid (g ∈ tyB p mb (.slice (some ⟨g, 0, none⟩) (fndW t ws).length cap)) := Lib.hid (by simp [tyB, Value.ownBlock])
  obtain ⟨nf, hnf⟩ : ∃ n, n = (fndW t ws).length := ⟨_, rfl⟩
  have hsl : (sortW (fndW t ws)).length = nf := by rw [sortW_len, hnf]
  have HSL := Lib.hid hsl
  rw [← hnf] at HSO HROW HO HPF HG c3 ⊢
  clear h hrow hb h1 h2 h3 h4 hH hn hnf hsl
  go_enter Tryz.func78, Tryz.ntmps78
  go_wp2_with (go_at_call 112; refine HSO.out.mono ?_; rintro e w' ⟨rfl, nn, os, rfl⟩; have HR := Lib.hid (HROW.out nn os); have HF := Lib.hid (HFR.out nn os); obtain ⟨w5, hw5⟩ : ∃ w5, w5 = grow (putRow encStr (Sort.ahead w nn) g 0 ((fndW t ws).mergeSort fun x y => decide (x ≤ y)).toArray) os := ⟨_, rfl⟩; rw [← hw5] at HR HF ⊢; clear hw5; obtain ⟨c1', c2', c3', f1', f2', f3'⟩ := three_of_heap (HF.out.heap HO.out (by intro q; simp at q; exact HPF.out (by rw [q]; simp [Value.ownBlock]))))
  go_ret
  refine ⟨.slice (some ⟨g, 0, none⟩) nf cap, rfl, cellsAt_of_owns (base := base) (e := 9) ?_, HF.out.mono (fun i hi _ => by simp at hi; rw [hi]; exact HG.out)⟩
  rw [List.length_map, HSL.out]
  exact HR.out
theorem run_makeMap0 {P : Program} (t k e : TypeId) (w : World) (ht : P.underlying t = some (.map k e)) : (Instr.makeMap t none).run P w = .ok (.map (some w.heap.size)) (w.alloc (.map #[] 0)) := by
 simp [Instr.makeMap, run_underlying ht, newObj, Result.andThen]
 try rfl
def Counted (t : Nat) (ws : Words) (w : World) (e : Ending) (w' : World) : Prop := ∃ p mb fv, e = .returned (.pointer (some ⟨p, 0, none⟩)) ∧ TyAt w' w.heap.size p mb t ws fv ∧ Fr [] w w'
def CountRel (w : World) (ls : List Words) (p mb t : Nat) (iv : Value) (wx : World) : Prop :=
 ∃ k : Nat, k ≤ ls.length ∧ iv = .int .i64 (k : Int) ∧ ∃ fv, TyAt wx w.heap.size p mb t (ls.take k).flatten fv ∧ Fr [] w wx
theorem flat_take_le (ls : List Words) (k : Nat) : (ls.take k).flatten.length ≤ ls.flatten.length := by
 conv => rhs; rw [← List.take_append_drop k ls, List.flatten_append, List.length_append]
 omega
set_option maxRecDepth 100000 in
set_option maxHeartbeats 4000000 in
theorem pcount_any (t : Nat) (ls : List Words) (v : Value) (w : World) (ht : 0 < t) (ht2 : t ≤ 1000) (h : setsAt w v ls) (hn : ls.flatten.length ≤ 2000000000) (hx : ∀ l ∈ ls, ∀ x ∈ l, x.length ≤ maxLen) :
  Calls Tryz.prog 74 #[.int .i64 (t : Int), v] w (Counted t ls.flatten w) := by
 obtain ⟨a0, c0, rfl, hc0, hm0⟩ := h.form
 obtain ⟨w2, hw2⟩ : ∃ w2, w2 = (w.alloc (.map #[] 0)).alloc (.cells #[.int .i64 (t : Int), .map (some w.heap.size), .slice none 0 0] 116) := ⟨_, rfl⟩
 have hf2 : Fr [] w w2 := by rw [hw2]; exact (Fr.alloc w _).trans (Fr.alloc _ _) (by simp) (by simp)
 have hT : TyAt w2 w.heap.size (w.heap.size + 1) w.heap.size t [] (.slice none 0 0) := by
  refine ⟨?_, ?_, World.ownsRow_nil _ _ _ _, by omega, Nat.le_refl _⟩
  ·rw [hw2]
   have := heap_alloc_new (w.alloc (.map #[] 0)) (.cells #[.int .i64 (t : Int), .map (some w.heap.size), .slice none 0 0] 116)
   rwa [World.size_alloc] at this
  ·have hm : (w.alloc (.map #[] 0)).ownsMap Tryz.prog 9 (plainElem Tryz.prog 3) w.heap.size 0 (.map []) := World.ownsMap_made (H := Unit) w Tryz.prog 9 (plainElem Tryz.prog 3)
   rw [hw2]
   exact ownsMap_kept hm (Fr.alloc _ _) (by simp)
 obtain ⟨p, hp⟩ : ∃ p, p = w.heap.size + 1 := ⟨_, rfl⟩
 obtain ⟨mb, hmb⟩ : ∃ p, p = w.heap.size := ⟨_, rfl⟩
 have HW2 := Lib.hid hw2
 have HF2 := Lib.hid hf2
 have HE := Lib.hid h
 have HX := Lib.hid hx
 have hpe : (w.alloc (.map #[] 0)).heap.size = p := by rw [World.size_alloc, hp]
 have hT' : TyAt w2 w.heap.size p mb t [] (.slice none 0 0) := by rw [hp, hmb]; exact hT
 have HT := Lib.hid hT'
 have hw2' : w2 = (w.alloc (.map #[] 0)).alloc (.cells #[.int .i64 (t : Int), .map (some mb), .slice none 0 0] 116) := by rw [hw2, hmb]
 have HW2' := Lib.hid hw2'
 have HP := Lib.hid hp
 have HMB := Lib.hid hmb
 have HPE := Lib.hid hpe
 have hmm := run_makeMap0 (P := Tryz.prog) 114 9 3 w Tryz.underlying114
 rw [← hmb] at hmm
 clear h hx hw2 hf2 hT hp hmb hpe hT' hw2' HW2
 go_enter Tryz.func74, Tryz.ntmps74
 go_upto_region 2 with fail
 rw [← HW2'.out, ← HP.out]
 clear hmm HW2' HPE
 go_wp2_with fail
 go_loopw [14] (CountRel w ls p mb t) (fun iv _ => ls.length - (intOf iv).toNat)
 case atStart => exact ⟨0, Nat.zero_le _, rfl, _, by rw [List.take_zero]; exact HT.out, HF2.out⟩
 case round =>
  obtain ⟨k, hk, rfl, fv, hT, hF⟩ := hrel
  by_cases hkn : k < ls.length
  ·have hd1 : decide (k < ls.length) = true := decide_eq_true hkn
   obtain ⟨b, off, u, rfl, hc, hu⟩ := set_cell HE.out k hkn
   have hcr := hF.cell hc (by simp)
   have hnx : (ls.take k).flatten ++ ls[k]'hkn = (ls.take (k + 1)).flatten := by
    rw [List.take_succ_eq_append_getElem hkn, List.flatten_append]
    simp
   have hadd := padd_any w.heap.size p mb t (ls.take k).flatten (ls[k]'hkn) fv u wr ht ht2 hT (fun w' hf' => hu.below (Fr.new hF hf' (fun i hi => hT.ge i hi))) hF.size (by
    have := flat_take_le ls (k + 1)
    rw [← hnx, List.length_append] at this
    omega) (HX.out _ (List.getElem_mem hkn))
   rw [hnx] at hadd
   obtain ⟨au, cu, rfl, -, -⟩ := hu.form
   have HA := Lib.hid hadd
   have HT1 := Lib.hid hT
   have HF1 := Lib.hid hF
   clear hadd hnx hu hc hT hF
   go_wp2_with (go_at_call 77; refine HA.out.mono ?_; rintro e w' ⟨rfl, fv', hT', hF', -⟩)
   exact ⟨⟨k + 1, hkn, by go_num, fv', hT', Fr.new HF1.out hF' (fun i hi => HT1.out.ge i hi)⟩, by simp [intOf]; omega⟩
  ·have hd1 : decide (k < ls.length) = false := decide_eq_false hkn
   obtain rfl : k = ls.length := by omega
   rw [List.take_length] at hT
   have HT1 := Lib.hid hT
   have HF1 := Lib.hid hF
   clear hT hF
   go_wp2_with fail
   go_ret
   exact ⟨p, mb, fv, rfl, HT1.out, HF1.out⟩
end Go.Proofs.YtnaamjpiaekmeaaGreat
