/- Several texts in one: GrmPt, BoxG, GpA, RuleV, GpE, GpEn, GpEt, GpEi, GpF, GpEr. -/
import Derived.Deep.DeepCutAuto
import Derived.LoopTactic
import Derived.BigQuiet
import Derived.WalkMore
import Derived.Laws.EntriesVeiled
import Derived.Test.YtnaamjpiaekmeaaGreatDt
import Derived.Test.YtnaamjpiaekmeaaGreatProg
import Derived.Test.YtnaamjpiaekmeaaGreatBs
set_option linter.unusedVariables false
set_option linter.unusedSimpArgs false
namespace Go.Proofs.YtnaamjpiaekmeaaGreat
open Go.RowKit
theorem gramAt.parts {w : World} {gv : Value} {g : GramG} (h : gramAt w gv g) : ∃ a1 c1 a2 c2 a3 c3, gv = .agg #[.slice a1 g.names.length c1, .slice a2 g.terms.length c2, .slice a3 g.rules.length c3] ∧
  (strsAt w (.slice a1 g.names.length c1) g.names ∧ g.names.length ≤ c1 ∧ c1 ≤ 9223372036854775807) ∧ (strsAt w (.slice a2 g.terms.length c2) g.terms ∧ g.terms.length ≤ c2 ∧ c2 ≤ 9223372036854775807) ∧ (rulesAt w (.slice a3 g.rules.length c3) g.rules ∧ g.rules.length ≤ c3 ∧ c3 ≤ 9223372036854775807) := by
 obtain ⟨a, b, c, rfl, h1, h2, h3⟩ := h
 obtain ⟨a1, c1, rfl, x1, y1⟩ := h1.form
 obtain ⟨a2, c2, rfl, x2, y2⟩ := h2.form
 obtain ⟨a3, c3, rfl, x3, y3⟩ := h3.form
 exact ⟨a1, c1, a2, c2, a3, c3, rfl, ⟨h1, x1, y1⟩, ⟨h2, x2, y2⟩, ⟨h3, x3, y3⟩⟩
end Go.Proofs.YtnaamjpiaekmeaaGreat
namespace Go.Proofs.YtnaamjpiaekmeaaGreat
open Go.RowKit
theorem box_gram {g : GramG} {gv : Value} {w : World} (hg : gramAt w gv g) : ∃ a1 c1 a2 c2 a3 c3, gv = .agg #[.slice a1 g.names.length c1, .slice a2 g.terms.length c2, .slice a3 g.rules.length c3] ∧
  Hid (Fr [] w (w.alloc (.cells #[.slice a1 g.names.length c1, .slice a2 g.terms.length c2, .slice a3 g.rules.length c3] 25))) ∧
  Hid ((w.alloc (.cells #[.slice a1 g.names.length c1, .slice a2 g.terms.length c2, .slice a3 g.rules.length c3] 25)).heap[w.heap.size]? = some (.cells #[.slice a1 g.names.length c1, .slice a2 g.terms.length c2, .slice a3 g.rules.length c3] 25 (0, 0))) := by
 obtain ⟨a1, c1, a2, c2, a3, c3, rfl, -, -, -⟩ := hg.parts
 exact ⟨a1, c1, a2, c2, a3, c3, rfl, Fr.alloc _ _, heap_alloc_new _ _⟩
end Go.Proofs.YtnaamjpiaekmeaaGreat
namespace Go.Proofs.YtnaamjpiaekmeaaGreat
open Go.RowKit
theorem pgterm_any : ProgIsT := by
 intro s w
 go_enter Tryz.func55, Tryz.ntmps55
 go_wp2_with fail
 go_ret
 exact ⟨rfl, Fr.refl _ _⟩
def fitsB (g : GramG) : Bool := decide (g.names.length + g.terms.length ≤ 256) && decide (g.rules.length ≤ 4096)
set_option maxRecDepth 100000 in
theorem pfits_any (g : GramG) (gv : Value) (w : World) (h : gramAt w gv g) (z1 : g.names.length ≤ 1000000) (z2 : g.terms.length ≤ 1000000) : Calls Tryz.prog 85 #[gv] w fun e w' => e = .returned (.bool (fitsB g)) ∧ Fr [] w w' := by
 obtain ⟨a1, c1, a2, c2, a3, c3, rfl, ⟨-, q1, p1⟩, ⟨-, q2, p2⟩, ⟨-, q3, p3⟩⟩ := h.parts
 clear h
 have hb := heap_alloc_new w (.cells #[.slice a1 g.names.length c1, .slice a2 g.terms.length c2, .slice a3 g.rules.length c3] 25)
 unfold fitsB
 obtain ⟨n1, hn1⟩ : ∃ n, n = g.names.length := ⟨_, rfl⟩
 obtain ⟨n2, hn2⟩ : ∃ n, n = g.terms.length := ⟨_, rfl⟩
 obtain ⟨n3, hn3⟩ : ∃ n, n = g.rules.length := ⟨_, rfl⟩
 rw [← hn1, ← hn2, ← hn3] at hb ⊢
 rw [← hn1] at q1 z1
 rw [← hn2] at q2 z2
 rw [← hn3] at q3
 obtain ⟨x0, x1, x2, -⟩ := three_of_heap hb
 clear hb hn1 hn2 hn3
 by_cases hc : n1 + n2 ≤ 256
 ·have hd : decide ((n1 : Int) + (n2 : Int) ≤ 256) = true := decide_eq_true (by omega)
  go_enter Tryz.func85, Tryz.ntmps85
  go_wp2_with fail
  go_ret
  exact ⟨by simp [hc]; try omega, Fr.alloc _ _⟩
 ·have hd : decide ((n1 : Int) + (n2 : Int) ≤ 256) = false := decide_eq_false (by omega)
  go_enter Tryz.func85, Tryz.ntmps85
  go_wp2_with fail
  go_ret
  exact ⟨by simp [hc]; try omega, Fr.alloc _ _⟩
def symB (g : GramG) (s : Int) : Bool := if s < 0 then decide (-1 - s < g.terms.length) else decide (s < g.names.length)
set_option maxRecDepth 100000 in
theorem psym_any (g : GramG) (gv : Value) (s : Int) (w : World) (h : gramAt w gv g) (hs : -9223372036854775808 ≤ s) : Calls Tryz.prog 144 #[gv, .int .i64 s] w fun e w' => e = .returned (.bool (symB g s)) ∧ Fr [] w w' := by
 obtain ⟨a1, c1, a2, c2, a3, c3, rfl, ⟨-, q1, p1⟩, ⟨-, q2, p2⟩, ⟨-, q3, p3⟩⟩ := h.parts
 clear h
 have hb := heap_alloc_new w (.cells #[.slice a1 g.names.length c1, .slice a2 g.terms.length c2, .slice a3 g.rules.length c3] 25)
 have hf := Fr.alloc w (.cells #[.slice a1 g.names.length c1, .slice a2 g.terms.length c2, .slice a3 g.rules.length c3] 25)
 unfold symB
 obtain ⟨n1, hn1⟩ : ∃ n, n = g.names.length := ⟨_, rfl⟩
 obtain ⟨n2, hn2⟩ : ∃ n, n = g.terms.length := ⟨_, rfl⟩
 obtain ⟨n3, hn3⟩ : ∃ n, n = g.rules.length := ⟨_, rfl⟩
 rw [← hn1, ← hn2, ← hn3] at hb hf ⊢
 rw [← hn1] at q1
 rw [← hn2] at q2
 rw [← hn3] at q3
 clear hn1 hn2 hn3
 have hI := fun wx => pgterm_any s wx
 obtain ⟨w0, hw0⟩ : ∃ w0, w0 = w.alloc (.cells #[.slice a1 n1 c1, .slice a2 n2 c2, .slice a3 n3 c3] 25) := ⟨_, rfl⟩
 rw [← hw0] at hb hf
 have HW := Lib.hid hw0
 clear hw0
 by_cases hc : s < 0
 ·rw [decide_eq_true hc] at hI
  have HI := Lib.hid hI
  have HF := Lib.hid hf
  have HB := Lib.hid hb
  rw [if_pos hc]
  clear hI hf hb
  go_enter Tryz.func144, Tryz.ntmps144
  go_upto_region 1 with fail
  rw [← HW.out]
  go_wp2_with (go_at_call 55; refine (HI.out _).mono ?_; rintro e w1 ⟨rfl, hf1⟩; obtain ⟨x0, x1, x2, -⟩ := three_of_heap (hf1.heap HB.out (by simp)))
  go_ret
  exact ⟨rfl, HF.out.trans hf1 (by simp) (by simp)⟩
 ·rw [decide_eq_false hc] at hI
  have HI := Lib.hid hI
  have HF := Lib.hid hf
  have HB := Lib.hid hb
  rw [if_neg hc]
  clear hI hf hb
  go_enter Tryz.func144, Tryz.ntmps144
  go_upto_region 1 with fail
  rw [← HW.out]
  go_wp2_with (go_at_call 55; refine (HI.out _).mono ?_; rintro e w1 ⟨rfl, hf1⟩; obtain ⟨x0, x1, x2, -⟩ := three_of_heap (hf1.heap HB.out (by simp)))
  go_ret
  exact ⟨rfl, HF.out.trans hf1 (by simp) (by simp)⟩
end Go.Proofs.YtnaamjpiaekmeaaGreat
namespace Go.Proofs.YtnaamjpiaekmeaaGreat
open Go.RowKit
def ruleV (l : Int) (v : Value) : Value := .agg #[.int .i64 l, v]
theorem two_of_new (w : World) (a b : Value) (t : TypeId) : (w.alloc (.cells #[a, b] t)).heap[w.heap.size]? = some (.cells #[a, b] t (0, 0)) := heap_alloc_new w _
theorem two_cells {w : World} {p : Nat} {a b : Value} {t : TypeId} (h : w.heap[p]? = some (.cells #[a, b] t (0, 0))) : w.cell? ⟨p, 0, none⟩ = some a ∧ w.cell? ⟨p, 1, none⟩ = some b ∧ w.frozen? ⟨p, 0, none⟩ = false ∧ w.frozen? ⟨p, 1, none⟩ = false :=
 ⟨by rw [cell_of_heap h]; rfl, by rw [cell_of_heap h]; rfl, free_of_heap h 0, free_of_heap h 1⟩
end Go.Proofs.YtnaamjpiaekmeaaGreat
namespace Go.Proofs.YtnaamjpiaekmeaaGreat
open Go.RowKit
def IdxRelP {α : Type} (w : World) (l : List α) (p : α → Bool) (iv : Value) (wx : World) : Prop := ∃ k : Nat, k ≤ l.length ∧ iv = .int .i64 (k : Int) ∧ (∀ j (_ : j < k) (h : j < l.length), p (l[j]'h) = true) ∧ Fr [] w wx
def IdxP {α : Type} (l : List α) (p : α → Bool) (w : World) (e : Ending) (w' : World) : Prop := ∃ r : Int, e = .returned (.int .i64 r) ∧ ((r = -1 ∧ l.all p = true) ∨ (0 ≤ r ∧ l.all p = false)) ∧ Fr [] w w'
theorem all_false {α : Type} {l : List α} {p : α → Bool} {k : Nat} (hk : k < l.length) (h : p (l[k]'hk) = false) : l.all p = false := by
 cases ha : l.all p with
 | false => rfl
 | true => rw [List.all_eq_true] at ha; rw [ha _ (List.getElem_mem hk)] at h; cases h
theorem all_true {α : Type} {l : List α} {p : α → Bool} (h : ∀ j (h : j < l.length), p (l[j]'h) = true) : l.all p = true := by
 rw [List.all_eq_true]
 intro x hx
 obtain ⟨j, hj, rfl⟩ := List.getElem_of_mem hx
 exact h j hj
theorem idxP_yes {α : Type} {l : List α} {p : α → Bool} {P : Program} {f : FuncId} {args : Array Value} {w : World} (ha : l.all p = true) (h : Calls P f args w (IdxP l p w)) : Calls P f args w fun e w' => e = .returned (.int .i64 (-1)) ∧ Fr [] w w' :=
 h.mono (by
  rintro e w' ⟨r, rfl, hr, hf⟩
  rcases hr with ⟨rfl, -⟩ | ⟨-, hn⟩
  ·exact ⟨rfl, hf⟩
  ·rw [ha] at hn; cases hn)
theorem idxP_no {α : Type} {l : List α} {p : α → Bool} {P : Program} {f : FuncId} {args : Array Value} {w : World} (ha : l.all p = false) (h : Calls P f args w (IdxP l p w)) : Calls P f args w fun e w' => ∃ r : Int, e = .returned (.int .i64 r) ∧ 0 ≤ r ∧ Fr [] w w' :=
 h.mono (by
  rintro e w' ⟨r, rfl, hr, hf⟩
  rcases hr with ⟨-, hn⟩ | ⟨h0, -⟩
  ·rw [ha] at hn; cases hn
  ·exact ⟨_, rfl, h0, hf⟩)
end Go.Proofs.YtnaamjpiaekmeaaGreat
namespace Go.Proofs.YtnaamjpiaekmeaaGreat
open Go.RowKit
def CLV_name (q : Nat) : Value := .func (.func 140) #[] #[.pointer (some ⟨q, 0, none⟩)]
def FV_name : Value := .func (.func 87) #[] #[]
set_option maxRecDepth 100000 in
theorem pcl_name (x : (List UInt8))  (B : Bool) (q : Nat) (w : World) (hq : w.cell? ⟨q, 0, none⟩ = some FV_name) 
  (hc : Calls Tryz.prog 87 #[encStr x] w fun e w' => e = .returned (.bool B) ∧ Fr [] w w') : Calls Tryz.prog 140 #[encStr x, .pointer (some ⟨q, 0, none⟩)] w fun e w' => e = .returned (.bool (!B)) ∧ Fr [] w w' := by
 unfold FV_name at hq
 have HC := Lib.hid hc
 clear hc 
 go_enter Tryz.func140, Tryz.ntmps140
 go_wp2_with (go_at_call 87; refine HC.out.mono ?_; rintro e w1 ⟨rfl, hf1⟩)
 go_ret
 exact ⟨rfl, hf1⟩
def HP_name (w : World) (l : List (List UInt8)) (p : (List UInt8) → Bool) : Prop := ∀ x ∈ l, ∀ (wx : World), Fr [] w wx →  Calls Tryz.prog 87 #[encStr x] wx fun e w' => e = .returned (.bool (p x)) ∧ Fr [] wx w'
set_option maxRecDepth 100000 in
set_option maxHeartbeats 1000000 in
theorem pidx_name (l : List (List UInt8)) (p : (List UInt8) → Bool) (lv : Value) (q : Nat) (w : World) (h : strsAt w lv l) (hq : w.cell? ⟨q, 0, none⟩ = some FV_name) (hp : HP_name w l p) :
  Calls Tryz.prog 106 #[lv, CLV_name q] w (IdxP l p w) := by
 obtain ⟨a0, c0, rfl, hle, hmx⟩ := h.form
 have HE := Lib.hid h
 have HP := Lib.hid hp
 have HQ := Lib.hid hq
 unfold CLV_name
 clear h hp hq
 go_enter Tryz.func106, Tryz.ntmps106
 go_wp2_with fail
 go_loopw [8] (IdxRelP w l p) (fun iv _ => l.length - (intOf iv).toNat)
 case atStart => exact ⟨0, Nat.zero_le _, rfl, fun j hj => by omega, Fr.refl _ _⟩
 case round =>
  obtain ⟨k, hk, rfl, hall, hf⟩ := hrel
  have HA := Lib.hid hall
  have HF := Lib.hid hf
  clear hall
  by_cases hkn : k < l.length
  ·have hd2 : decide (k < l.length) = true := decide_eq_true hkn
   obtain ⟨b, off, rfl, hc⟩ := str_cell (HE.out.below hf) k hkn
   obtain ⟨x, hx⟩ : ∃ x, x = l[k]'hkn := ⟨_, rfl⟩
   rw [← hx] at hc
   have hm : x ∈ l := by rw [hx]; exact List.getElem_mem hkn
   have hcl := pcl_name x  (p x) q wr (hf.cell HQ.out (by simp))  (HP.out x hm  wr hf )
   skip
   have HX := Lib.hid hx
   cases hb : p x with
   | false =>
     rw [hb] at hcl
     have HD := Lib.hid hcl
     have HB := Lib.hid hb
     clear hcl hf hx hm hb
     go_wp2_with (go_at_call 140; refine HD.out.mono ?_; rintro e w1 ⟨rfl, hf1⟩)
     go_ret
     exact ⟨_, rfl, .inr ⟨by omega, all_false (l := l) (p := p) hkn (by rw [← HX.out]; exact HB.out)⟩, HF.out.trans hf1 (by simp) (by simp)⟩
   | true =>
     rw [hb] at hcl
     have HD := Lib.hid hcl
     have HB := Lib.hid hb
     clear hcl hf hx hm hb
     go_wp2_with (go_at_call 140; refine HD.out.mono ?_; rintro e w1 ⟨rfl, hf1⟩)
     refine ⟨⟨k + 1, by omega, by go_num, fun j hj hjl => ?_, HF.out.trans hf1 (by simp) (by simp)⟩, by simp [intOf]; omega⟩
     by_cases e : j = k
     ·subst e; rw [← HX.out]; exact HB.out
     ·exact HA.out j (by omega) hjl
  ·have hd2 : decide (k < l.length) = false := decide_eq_false hkn
   have HKN := Lib.hid hkn
   clear hf hkn
   go_wp2_with fail
   go_ret
   exact ⟨_, rfl, .inl ⟨rfl, all_true (l := l) (p := p) (fun j hj => HA.out j (by have := HKN.out; omega) hj)⟩, HF.out⟩
theorem pcon_name (l : List (List UInt8)) (p : (List UInt8) → Bool) (lv : Value) (q : Nat) (w : World) (h : strsAt w lv l) (hq : w.cell? ⟨q, 0, none⟩ = some FV_name) (hp : HP_name w l p) :
  Calls Tryz.prog 68 #[lv, CLV_name q] w fun e w' => e = .returned (.bool (!l.all p)) ∧ Fr [] w w' := by
 have hix := pidx_name l p lv q w h hq hp
 obtain ⟨a0, c0, rfl, hle, hmx⟩ := h.form
 unfold CLV_name at hix ⊢
 cases ha : l.all p with
 | true =>
   have HI := Lib.hid (idxP_yes ha hix)
   clear hix h hq hp ha
   go_enter Tryz.func68, Tryz.ntmps68
   go_wp2_with (go_at_call 106; refine HI.out.mono ?_; rintro e w1 ⟨rfl, hf1⟩)
   go_ret
   exact ⟨rfl, hf1⟩
 | false =>
   have HI := Lib.hid (idxP_no ha hix)
   clear hix h hq hp ha
   go_enter Tryz.func68, Tryz.ntmps68
   go_wp2_with (go_at_call 106; refine HI.out.mono ?_; rintro e w1 ⟨r, rfl, hr, hf1⟩; have hd : decide (0 ≤ r) = true := decide_eq_true hr)
   go_ret
   exact ⟨rfl, hf1⟩
set_option maxRecDepth 100000 in
theorem pall_name (l : List (List UInt8)) (p : (List UInt8) → Bool) (lv : Value) (w : World) (h : strsAt w lv l) (hp : HP_name w l p) :
  Calls Tryz.prog 117 #[lv, FV_name] w fun e w' => e = .returned (.bool (l.all p)) ∧ Fr [] w w' := by
 have hf0 := Fr.alloc w (.cells #[FV_name] 101)
 have hb0 := heap_alloc_new w (.cells #[FV_name] 101)
 obtain ⟨w0, hw0⟩ : ∃ w0, w0 = w.alloc (.cells #[FV_name] 101) := ⟨_, rfl⟩
 obtain ⟨q, hq⟩ : ∃ q, q = w.heap.size := ⟨_, rfl⟩
 rw [← hw0] at hf0 hb0
 rw [← hq] at hb0
 have hcon := pcon_name l p lv q w0 (h.below hf0) (by rw [cell_of_heap hb0]; rfl) (fun x hx  wx hfx  => hp x hx  wx (hf0.trans hfx (by simp) (by simp)) )
 obtain ⟨a0, c0, rfl, hle, hmx⟩ := h.form
 unfold CLV_name at hcon
 have HC := Lib.hid hcon
 have HW := Lib.hid hw0
 have HQ := Lib.hid hq
 unfold FV_name at HW ⊢
 obtain ⟨R, hR⟩ : ∃ R, R = l.all p := ⟨_, rfl⟩
 rw [← hR] at HC ⊢
 clear hcon h hp hw0 hq hb0 hR
 go_enter Tryz.func117, Tryz.ntmps117
 go_upto_region 1 with fail
 rw [← HW.out, ← HQ.out]
 go_wp2_with (go_at_call 68; refine HC.out.mono ?_; rintro e w1 ⟨rfl, hf1⟩)
 go_ret
 exact ⟨by simp, hf0.trans hf1 (by simp) (by simp)⟩
end Go.Proofs.YtnaamjpiaekmeaaGreat
namespace Go.Proofs.YtnaamjpiaekmeaaGreat
open Go.RowKit
def CLV_term (q : Nat) : Value := .func (.func 140) #[] #[.pointer (some ⟨q, 0, none⟩)]
def FV_term : Value := .func (.func 88) #[] #[]
set_option maxRecDepth 100000 in
theorem pcl_term (x : (List UInt8))  (B : Bool) (q : Nat) (w : World) (hq : w.cell? ⟨q, 0, none⟩ = some FV_term) 
  (hc : Calls Tryz.prog 88 #[encStr x] w fun e w' => e = .returned (.bool B) ∧ Fr [] w w') : Calls Tryz.prog 140 #[encStr x, .pointer (some ⟨q, 0, none⟩)] w fun e w' => e = .returned (.bool (!B)) ∧ Fr [] w w' := by
 unfold FV_term at hq
 have HC := Lib.hid hc
 clear hc 
 go_enter Tryz.func140, Tryz.ntmps140
 go_wp2_with (go_at_call 88; refine HC.out.mono ?_; rintro e w1 ⟨rfl, hf1⟩)
 go_ret
 exact ⟨rfl, hf1⟩
def HP_term (w : World) (l : List (List UInt8)) (p : (List UInt8) → Bool) : Prop := ∀ x ∈ l, ∀ (wx : World), Fr [] w wx →  Calls Tryz.prog 88 #[encStr x] wx fun e w' => e = .returned (.bool (p x)) ∧ Fr [] wx w'
set_option maxRecDepth 100000 in
set_option maxHeartbeats 1000000 in
theorem pidx_term (l : List (List UInt8)) (p : (List UInt8) → Bool) (lv : Value) (q : Nat) (w : World) (h : strsAt w lv l) (hq : w.cell? ⟨q, 0, none⟩ = some FV_term) (hp : HP_term w l p) :
  Calls Tryz.prog 106 #[lv, CLV_term q] w (IdxP l p w) := by
 obtain ⟨a0, c0, rfl, hle, hmx⟩ := h.form
 have HE := Lib.hid h
 have HP := Lib.hid hp
 have HQ := Lib.hid hq
 unfold CLV_term
 clear h hp hq
 go_enter Tryz.func106, Tryz.ntmps106
 go_wp2_with fail
 go_loopw [8] (IdxRelP w l p) (fun iv _ => l.length - (intOf iv).toNat)
 case atStart => exact ⟨0, Nat.zero_le _, rfl, fun j hj => by omega, Fr.refl _ _⟩
 case round =>
  obtain ⟨k, hk, rfl, hall, hf⟩ := hrel
  have HA := Lib.hid hall
  have HF := Lib.hid hf
  clear hall
  by_cases hkn : k < l.length
  ·have hd2 : decide (k < l.length) = true := decide_eq_true hkn
   obtain ⟨b, off, rfl, hc⟩ := str_cell (HE.out.below hf) k hkn
   obtain ⟨x, hx⟩ : ∃ x, x = l[k]'hkn := ⟨_, rfl⟩
   rw [← hx] at hc
   have hm : x ∈ l := by rw [hx]; exact List.getElem_mem hkn
   have hcl := pcl_term x  (p x) q wr (hf.cell HQ.out (by simp))  (HP.out x hm  wr hf )
   skip
   have HX := Lib.hid hx
   cases hb : p x with
   | false =>
     rw [hb] at hcl
     have HD := Lib.hid hcl
     have HB := Lib.hid hb
     clear hcl hf hx hm hb
     go_wp2_with (go_at_call 140; refine HD.out.mono ?_; rintro e w1 ⟨rfl, hf1⟩)
     go_ret
     exact ⟨_, rfl, .inr ⟨by omega, all_false (l := l) (p := p) hkn (by rw [← HX.out]; exact HB.out)⟩, HF.out.trans hf1 (by simp) (by simp)⟩
   | true =>
     rw [hb] at hcl
     have HD := Lib.hid hcl
     have HB := Lib.hid hb
     clear hcl hf hx hm hb
     go_wp2_with (go_at_call 140; refine HD.out.mono ?_; rintro e w1 ⟨rfl, hf1⟩)
     refine ⟨⟨k + 1, by omega, by go_num, fun j hj hjl => ?_, HF.out.trans hf1 (by simp) (by simp)⟩, by simp [intOf]; omega⟩
     by_cases e : j = k
     ·subst e; rw [← HX.out]; exact HB.out
     ·exact HA.out j (by omega) hjl
  ·have hd2 : decide (k < l.length) = false := decide_eq_false hkn
   have HKN := Lib.hid hkn
   clear hf hkn
   go_wp2_with fail
   go_ret
   exact ⟨_, rfl, .inl ⟨rfl, all_true (l := l) (p := p) (fun j hj => HA.out j (by have := HKN.out; omega) hj)⟩, HF.out⟩
theorem pcon_term (l : List (List UInt8)) (p : (List UInt8) → Bool) (lv : Value) (q : Nat) (w : World) (h : strsAt w lv l) (hq : w.cell? ⟨q, 0, none⟩ = some FV_term) (hp : HP_term w l p) :
  Calls Tryz.prog 68 #[lv, CLV_term q] w fun e w' => e = .returned (.bool (!l.all p)) ∧ Fr [] w w' := by
 have hix := pidx_term l p lv q w h hq hp
 obtain ⟨a0, c0, rfl, hle, hmx⟩ := h.form
 unfold CLV_term at hix ⊢
 cases ha : l.all p with
 | true =>
   have HI := Lib.hid (idxP_yes ha hix)
   clear hix h hq hp ha
   go_enter Tryz.func68, Tryz.ntmps68
   go_wp2_with (go_at_call 106; refine HI.out.mono ?_; rintro e w1 ⟨rfl, hf1⟩)
   go_ret
   exact ⟨rfl, hf1⟩
 | false =>
   have HI := Lib.hid (idxP_no ha hix)
   clear hix h hq hp ha
   go_enter Tryz.func68, Tryz.ntmps68
   go_wp2_with (go_at_call 106; refine HI.out.mono ?_; rintro e w1 ⟨r, rfl, hr, hf1⟩; have hd : decide (0 ≤ r) = true := decide_eq_true hr)
   go_ret
   exact ⟨rfl, hf1⟩
set_option maxRecDepth 100000 in
theorem pall_term (l : List (List UInt8)) (p : (List UInt8) → Bool) (lv : Value) (w : World) (h : strsAt w lv l) (hp : HP_term w l p) :
  Calls Tryz.prog 117 #[lv, FV_term] w fun e w' => e = .returned (.bool (l.all p)) ∧ Fr [] w w' := by
 have hf0 := Fr.alloc w (.cells #[FV_term] 101)
 have hb0 := heap_alloc_new w (.cells #[FV_term] 101)
 obtain ⟨w0, hw0⟩ : ∃ w0, w0 = w.alloc (.cells #[FV_term] 101) := ⟨_, rfl⟩
 obtain ⟨q, hq⟩ : ∃ q, q = w.heap.size := ⟨_, rfl⟩
 rw [← hw0] at hf0 hb0
 rw [← hq] at hb0
 have hcon := pcon_term l p lv q w0 (h.below hf0) (by rw [cell_of_heap hb0]; rfl) (fun x hx  wx hfx  => hp x hx  wx (hf0.trans hfx (by simp) (by simp)) )
 obtain ⟨a0, c0, rfl, hle, hmx⟩ := h.form
 unfold CLV_term at hcon
 have HC := Lib.hid hcon
 have HW := Lib.hid hw0
 have HQ := Lib.hid hq
 unfold FV_term at HW ⊢
 obtain ⟨R, hR⟩ : ∃ R, R = l.all p := ⟨_, rfl⟩
 rw [← hR] at HC ⊢
 clear hcon h hp hw0 hq hb0 hR
 go_enter Tryz.func117, Tryz.ntmps117
 go_upto_region 1 with fail
 rw [← HW.out, ← HQ.out]
 go_wp2_with (go_at_call 68; refine HC.out.mono ?_; rintro e w1 ⟨rfl, hf1⟩)
 go_ret
 exact ⟨by simp, hf0.trans hf1 (by simp) (by simp)⟩
end Go.Proofs.YtnaamjpiaekmeaaGreat
namespace Go.Proofs.YtnaamjpiaekmeaaGreat
open Go.RowKit
def CLV_int (q : Nat) : Value := .func (.func 164) #[] #[.pointer (some ⟨q, 0, none⟩)]
def FV_int (qg : Nat) : Value := .func (.func 146) #[] #[.pointer (some ⟨qg, 0, none⟩)]
set_option maxRecDepth 100000 in
theorem pcl_int (qg : Nat) (x : Int)  (B : Bool) (q : Nat) (w : World) (hq : w.cell? ⟨q, 0, none⟩ = some (FV_int qg)) 
  (hc : Calls Tryz.prog 146 #[.int .i64 x, .pointer (some ⟨qg, 0, none⟩)] w fun e w' => e = .returned (.bool B) ∧ Fr [] w w') : Calls Tryz.prog 164 #[.int .i64 x, .pointer (some ⟨q, 0, none⟩)] w fun e w' => e = .returned (.bool (!B)) ∧ Fr [] w w' := by
 unfold FV_int at hq
 have HC := Lib.hid hc
 clear hc 
 go_enter Tryz.func164, Tryz.ntmps164
 go_wp2_with (go_at_call 146; refine HC.out.mono ?_; rintro e w1 ⟨rfl, hf1⟩)
 go_ret
 exact ⟨rfl, hf1⟩
def HP_int (qg : Nat) (w : World) (l : List Int) (p : Int → Bool) : Prop := ∀ x ∈ l, ∀ (wx : World), Fr [] w wx →  Calls Tryz.prog 146 #[.int .i64 x, .pointer (some ⟨qg, 0, none⟩)] wx fun e w' => e = .returned (.bool (p x)) ∧ Fr [] wx w'
set_option maxRecDepth 100000 in
set_option maxHeartbeats 1000000 in
theorem pidx_int (qg : Nat) (l : List Int) (p : Int → Bool) (lv : Value) (q : Nat) (w : World) (h : intsAt w lv l) (hq : w.cell? ⟨q, 0, none⟩ = some (FV_int qg)) (hp : HP_int qg w l p) :
  Calls Tryz.prog 172 #[lv, CLV_int q] w (IdxP l p w) := by
 obtain ⟨a0, c0, rfl, hle, hmx⟩ := h.form
 have HE := Lib.hid h
 have HP := Lib.hid hp
 have HQ := Lib.hid hq
 unfold CLV_int
 clear h hp hq
 go_enter Tryz.func172, Tryz.ntmps172
 go_wp2_with fail
 go_loopw [8] (IdxRelP w l p) (fun iv _ => l.length - (intOf iv).toNat)
 case atStart => exact ⟨0, Nat.zero_le _, rfl, fun j hj => by omega, Fr.refl _ _⟩
 case round =>
  obtain ⟨k, hk, rfl, hall, hf⟩ := hrel
  have HA := Lib.hid hall
  have HF := Lib.hid hf
  clear hall
  by_cases hkn : k < l.length
  ·have hd2 : decide (k < l.length) = true := decide_eq_true hkn
   obtain ⟨b, off, rfl, hc⟩ := int_cell (HE.out.below hf) k hkn
   obtain ⟨x, hx⟩ : ∃ x, x = l[k]'hkn := ⟨_, rfl⟩
   rw [← hx] at hc
   have hm : x ∈ l := by rw [hx]; exact List.getElem_mem hkn
   have hcl := pcl_int qg x  (p x) q wr (hf.cell HQ.out (by simp))  (HP.out x hm  wr hf )
   skip
   have HX := Lib.hid hx
   cases hb : p x with
   | false =>
     rw [hb] at hcl
     have HD := Lib.hid hcl
     have HB := Lib.hid hb
     clear hcl hf hx hm hb
     go_wp2_with (go_at_call 164; refine HD.out.mono ?_; rintro e w1 ⟨rfl, hf1⟩)
     go_ret
     exact ⟨_, rfl, .inr ⟨by omega, all_false (l := l) (p := p) hkn (by rw [← HX.out]; exact HB.out)⟩, HF.out.trans hf1 (by simp) (by simp)⟩
   | true =>
     rw [hb] at hcl
     have HD := Lib.hid hcl
     have HB := Lib.hid hb
     clear hcl hf hx hm hb
     go_wp2_with (go_at_call 164; refine HD.out.mono ?_; rintro e w1 ⟨rfl, hf1⟩)
     refine ⟨⟨k + 1, by omega, by go_num, fun j hj hjl => ?_, HF.out.trans hf1 (by simp) (by simp)⟩, by simp [intOf]; omega⟩
     by_cases e : j = k
     ·subst e; rw [← HX.out]; exact HB.out
     ·exact HA.out j (by omega) hjl
  ·have hd2 : decide (k < l.length) = false := decide_eq_false hkn
   have HKN := Lib.hid hkn
   clear hf hkn
   go_wp2_with fail
   go_ret
   exact ⟨_, rfl, .inl ⟨rfl, all_true (l := l) (p := p) (fun j hj => HA.out j (by have := HKN.out; omega) hj)⟩, HF.out⟩
theorem pcon_int (qg : Nat) (l : List Int) (p : Int → Bool) (lv : Value) (q : Nat) (w : World) (h : intsAt w lv l) (hq : w.cell? ⟨q, 0, none⟩ = some (FV_int qg)) (hp : HP_int qg w l p) :
  Calls Tryz.prog 163 #[lv, CLV_int q] w fun e w' => e = .returned (.bool (!l.all p)) ∧ Fr [] w w' := by
 have hix := pidx_int qg l p lv q w h hq hp
 obtain ⟨a0, c0, rfl, hle, hmx⟩ := h.form
 unfold CLV_int at hix ⊢
 cases ha : l.all p with
 | true =>
   have HI := Lib.hid (idxP_yes ha hix)
   clear hix h hq hp ha
   go_enter Tryz.func163, Tryz.ntmps163
   go_wp2_with (go_at_call 172; refine HI.out.mono ?_; rintro e w1 ⟨rfl, hf1⟩)
   go_ret
   exact ⟨rfl, hf1⟩
 | false =>
   have HI := Lib.hid (idxP_no ha hix)
   clear hix h hq hp ha
   go_enter Tryz.func163, Tryz.ntmps163
   go_wp2_with (go_at_call 172; refine HI.out.mono ?_; rintro e w1 ⟨r, rfl, hr, hf1⟩; have hd : decide (0 ≤ r) = true := decide_eq_true hr)
   go_ret
   exact ⟨rfl, hf1⟩
set_option maxRecDepth 100000 in
theorem pall_int (qg : Nat) (l : List Int) (p : Int → Bool) (lv : Value) (w : World) (h : intsAt w lv l) (hp : HP_int qg w l p) :
  Calls Tryz.prog 145 #[lv, FV_int qg] w fun e w' => e = .returned (.bool (l.all p)) ∧ Fr [] w w' := by
 have hf0 := Fr.alloc w (.cells #[FV_int qg] 55)
 have hb0 := heap_alloc_new w (.cells #[FV_int qg] 55)
 obtain ⟨w0, hw0⟩ : ∃ w0, w0 = w.alloc (.cells #[FV_int qg] 55) := ⟨_, rfl⟩
 obtain ⟨q, hq⟩ : ∃ q, q = w.heap.size := ⟨_, rfl⟩
 rw [← hw0] at hf0 hb0
 rw [← hq] at hb0
 have hcon := pcon_int qg l p lv q w0 (h.below hf0) (by rw [cell_of_heap hb0]; rfl) (fun x hx  wx hfx  => hp x hx  wx (hf0.trans hfx (by simp) (by simp)) )
 obtain ⟨a0, c0, rfl, hle, hmx⟩ := h.form
 unfold CLV_int at hcon
 have HC := Lib.hid hcon
 have HW := Lib.hid hw0
 have HQ := Lib.hid hq
 unfold FV_int at HW ⊢
 obtain ⟨R, hR⟩ : ∃ R, R = l.all p := ⟨_, rfl⟩
 rw [← hR] at HC ⊢
 clear hcon h hp hw0 hq hb0 hR
 go_enter Tryz.func145, Tryz.ntmps145
 go_upto_region 1 with fail
 rw [← HW.out, ← HQ.out]
 go_wp2_with (go_at_call 163; refine HC.out.mono ?_; rintro e w1 ⟨rfl, hf1⟩)
 go_ret
 exact ⟨by simp, hf0.trans hf1 (by simp) (by simp)⟩
end Go.Proofs.YtnaamjpiaekmeaaGreat
namespace Go.Proofs.YtnaamjpiaekmeaaGreat
open Go.RowKit
set_option maxRecDepth 100000 in
theorem prv1_any (g : GramG) (sa sb sc : Value) (x : Int) (q : Nat) (w : World) (hb : w.heap[q]? = some (.cells #[sa, sb, sc] 25 (0, 0))) (hg : gramAt w (.agg #[sa, sb, sc]) g) (hs : -9223372036854775808 ≤ x) :
  Calls Tryz.prog 146 #[.int .i64 x, .pointer (some ⟨q, 0, none⟩)] w fun e w' => e = .returned (.bool (symB g x)) ∧ Fr [] w w' := by
 have hc := psym_any g _ x w hg hs
 obtain ⟨a1, c1, a2, c2, a3, c3, e, ⟨-, q1, p1⟩, ⟨-, q2, p2⟩, ⟨-, q3, p3⟩⟩ := hg.parts
 injection e with e
 injection e with e
 injection e with ea e
 injection e with eb e
 injection e with ec e
 subst ea eb ec
 obtain ⟨R, hR⟩ : ∃ R, R = symB g x := ⟨_, rfl⟩
 rw [← hR] at hc ⊢
 obtain ⟨n1, hn1⟩ : ∃ n, n = g.names.length := ⟨_, rfl⟩
 obtain ⟨n2, hn2⟩ : ∃ n, n = g.terms.length := ⟨_, rfl⟩
 obtain ⟨n3, hn3⟩ : ∃ n, n = g.rules.length := ⟨_, rfl⟩
 rw [← hn1, ← hn2, ← hn3] at hb hc
 have HC := Lib.hid hc
 obtain ⟨x0, x1, x2, -⟩ := three_of_heap hb
 clear hc hb hg q1 q2 q3 hn1 hn2 hn3 hR
 go_enter Tryz.func146, Tryz.ntmps146
 go_wp2_with (go_at_call 144; refine HC.out.mono ?_; rintro e w1 ⟨rfl, hf1⟩)
 go_ret
 exact ⟨rfl, hf1⟩
def ruleB (g : GramG) (r : RuleG) : Bool := !decide (r.left < 0) && symB g r.left && decide (r.right.length ≤ 64) && r.right.all (symB g)
set_option maxRecDepth 100000 in
set_option maxHeartbeats 2000000 in
theorem prule_any (g : GramG) (r : RuleG) (gv v : Value) (w : World) (hg : gramAt w gv g) (hv : intsAt w v r.right) (hs : ∀ x ∈ r.right, -9223372036854775808 ≤ x) :
  Calls Tryz.prog 125 #[gv, ruleV r.left v] w fun e w' => e = .returned (.bool (ruleB g r)) ∧ Fr [] w w' := by
 obtain ⟨a1, c1, a2, c2, a3, c3, rfl, -, -, -⟩ := hg.parts
 obtain ⟨a4, c4, rfl, hle, hmx⟩ := hv.form
 obtain ⟨R, hR⟩ : ∃ R, R = ruleB g r := ⟨_, rfl⟩
 rw [← hR]
 unfold ruleB at hR
 have hb0 := heap_alloc_new w (.cells #[.slice a1 g.names.length c1, .slice a2 g.terms.length c2, .slice a3 g.rules.length c3] 25)
 have hf0 := Fr.alloc w (.cells #[.slice a1 g.names.length c1, .slice a2 g.terms.length c2, .slice a3 g.rules.length c3] 25)
 obtain ⟨w0, hw0⟩ : ∃ w0, w0 = w.alloc (.cells #[.slice a1 g.names.length c1, .slice a2 g.terms.length c2, .slice a3 g.rules.length c3] 25) := ⟨_, rfl⟩
 obtain ⟨q0, hq0⟩ : ∃ q0, q0 = w.heap.size := ⟨_, rfl⟩
 rw [← hw0] at hb0 hf0
 rw [← hq0] at hb0
 have hb1 := two_of_new w0 (.int .i64 r.left) (.slice a4 r.right.length c4) 46
 have hf1 := Fr.alloc w0 (.cells #[.int .i64 r.left, .slice a4 r.right.length c4] 46)
 obtain ⟨w1, hw1⟩ : ∃ w1, w1 = w0.alloc (.cells #[.int .i64 r.left, .slice a4 r.right.length c4] 46) := ⟨_, rfl⟩
 obtain ⟨q1, hq1⟩ : ∃ q1, q1 = w0.heap.size := ⟨_, rfl⟩
 rw [← hw1] at hb1 hf1
 rw [← hq1] at hb1
 have hb0' := hf1.heap hb0 (by simp)
 have hf := hf0.trans hf1 (by simp) (n := []) (by simp)
 have hit := fun wx => pgterm_any r.left wx
 have hsy := fun (h0 : ¬ r.left < 0) wx (hfx : Fr [] w1 wx) => psym_any g _ r.left wx (hg.below (hf.trans hfx (by simp) (by simp))) (by omega)
 have hal := fun wx (hfx : Fr [] w1 wx) => pall_int q0 r.right (symB g) _ wx (hv.below (hf.trans hfx (by simp) (by simp))) (fun x hx wy hfy => prv1_any g _ _ _ x q0 wy ((hfx.trans hfy (by simp) (n := []) (by simp)).heap hb0' (by simp)) (hg.below ((hf.trans hfx (by simp) (n := []) (by simp)).trans hfy (by simp) (by simp))) (hs x hx))
 unfold ruleV
 unfold FV_int at hal
 obtain ⟨n1, hn1⟩ : ∃ n, n = g.names.length := ⟨_, rfl⟩
 obtain ⟨n2, hn2⟩ : ∃ n, n = g.terms.length := ⟨_, rfl⟩
 obtain ⟨n3, hn3⟩ : ∃ n, n = g.rules.length := ⟨_, rfl⟩
 obtain ⟨n4, hn4⟩ : ∃ n, n = r.right.length := ⟨_, rfl⟩
 obtain ⟨l, hl⟩ : ∃ l, l = r.left := ⟨_, rfl⟩
 obtain ⟨S, hS⟩ : ∃ S, S = symB g r.left := ⟨_, rfl⟩
 obtain ⟨L, hL⟩ : ∃ L, L = r.right.all (symB g) := ⟨_, rfl⟩
 rw [← hS] at hR hsy
 rw [← hL] at hR hal
 rw [← hn4, ← hl] at hR hb1 hw1
 rw [← hl] at hit hsy
 rw [← hn4] at hal hle
 rw [← hn1, ← hn2, ← hn3] at hb0' hw0 hsy
 rw [← hn1, ← hn2, ← hn3, ← hn4, ← hl]
 have HB0 := Lib.hid hb0'
 have HB1 := Lib.hid hb1
 have HF := Lib.hid hf
 have HW0 := Lib.hid hw0
 have HQ0 := Lib.hid hq0
 have HW1 := Lib.hid hw1
 have HQ1 := Lib.hid (show q1 = q0 + 1 by rw [hq1, hw0, World.size_alloc, ← hq0])
 have HA := Lib.hid hal
 obtain ⟨y0, y1, y2, -⟩ := three_of_heap HB0.out
 obtain ⟨x0, x1, -⟩ := two_cells HB1.out
 clear hb0 hf0 hw0 hq0 hb1 hf1 hw1 hq1 hb0' hf hal hg hv hs hn1 hn2 hn3 hn4 hl hS hL
 by_cases c0 : l < 0
 ·rw [decide_eq_true c0] at hit hR
  have HI := Lib.hid hit
  have HR := Lib.hid (show R = false by rw [hR]; rfl)
  clear hit hR hsy c0
  go_enter Tryz.func125, Tryz.ntmps125
  go_upto_region 1 with fail
  rw [← HQ0.out, ← HW0.out, ← HQ1.out, ← HW1.out]
  go_wp2_with (go_at_call 55; refine (HI.out _).mono ?_; rintro e w2 ⟨rfl, hf2⟩)
  go_ret
  exact ⟨by rw [HR.out]; rfl, HF.out.trans hf2 (by simp) (by simp)⟩
 rw [decide_eq_false c0] at hit hR
 have HI := Lib.hid hit
 have HS := Lib.hid (hsy c0)
 clear hit hsy c0
 cases S with
 | false =>
   have HR := Lib.hid (show R = false by rw [hR]; rfl)
   clear hR
   go_enter Tryz.func125, Tryz.ntmps125
   go_upto_region 1 with fail
   rw [← HQ0.out, ← HW0.out, ← HQ1.out, ← HW1.out]
   go_wp2_with (first
    | (go_at_call 144; refine (HS.out _ hf2).mono ?_; rintro e w3 ⟨rfl, hf3⟩)
    | (go_at_call 55; refine (HI.out _).mono ?_; rintro e w2 ⟨rfl, hf2⟩; obtain ⟨y0, y1, y2, -⟩ := three_of_heap (hf2.heap HB0.out (by simp)); obtain ⟨x0, x1, -⟩ := two_cells (hf2.heap HB1.out (by simp))))
   go_ret
   exact ⟨by rw [HR.out]; rfl, (HF.out.trans hf2 (by simp) (n := []) (by simp)).trans hf3 (by simp) (by simp)⟩
 | true =>
   by_cases c4' : n4 ≤ 64
   ·have hd : decide ((n4 : Int) ≤ 64) = true := decide_eq_true (by omega)
    have HR := Lib.hid (show R = L by rw [hR, decide_eq_true c4']; simp)
    clear hR c4'
    go_enter Tryz.func125, Tryz.ntmps125
    go_upto_region 1 with fail
    rw [← HQ0.out, ← HW0.out, ← HQ1.out, ← HW1.out]
    go_wp2_with (first
     | (go_at_call 145; refine (HA.out _ HF3.out).mono ?_; rintro e w4 ⟨rfl, hf4⟩)
     | (go_at_call 144; refine (HS.out _ hf2).mono ?_; rintro e w3 ⟨rfl, hf3⟩; have HF3 := Lib.hid (hf2.trans hf3 (by simp) (n := []) (by simp)); obtain ⟨y0, y1, y2, -⟩ := three_of_heap (HF3.out.heap HB0.out (by simp)); obtain ⟨x0, x1, -⟩ := two_cells (HF3.out.heap HB1.out (by simp)))
     | (go_at_call 55; refine (HI.out _).mono ?_; rintro e w2 ⟨rfl, hf2⟩; obtain ⟨y0, y1, y2, -⟩ := three_of_heap (hf2.heap HB0.out (by simp)); obtain ⟨x0, x1, -⟩ := two_cells (hf2.heap HB1.out (by simp))))
    go_ret
    exact ⟨by rw [HR.out]; rfl, (HF.out.trans HF3.out (by simp) (n := []) (by simp)).trans hf4 (by simp) (by simp)⟩
   ·have hd : decide ((n4 : Int) ≤ 64) = false := decide_eq_false (by omega)
    have HR := Lib.hid (show R = false by rw [hR, decide_eq_false c4']; simp)
    clear hR c4'
    go_enter Tryz.func125, Tryz.ntmps125
    go_upto_region 1 with fail
    rw [← HQ0.out, ← HW0.out, ← HQ1.out, ← HW1.out]
    go_wp2_with (first
     | (go_at_call 144; refine (HS.out _ hf2).mono ?_; rintro e w3 ⟨rfl, hf3⟩; have HF3 := Lib.hid (hf2.trans hf3 (by simp) (n := []) (by simp)); obtain ⟨y0, y1, y2, -⟩ := three_of_heap (HF3.out.heap HB0.out (by simp)); obtain ⟨x0, x1, -⟩ := two_cells (HF3.out.heap HB1.out (by simp)))
     | (go_at_call 55; refine (HI.out _).mono ?_; rintro e w2 ⟨rfl, hf2⟩; obtain ⟨y0, y1, y2, -⟩ := three_of_heap (hf2.heap HB0.out (by simp)); obtain ⟨x0, x1, -⟩ := two_cells (hf2.heap HB1.out (by simp))))
    go_ret
    exact ⟨by rw [HR.out]; rfl, HF.out.trans HF3.out (by simp) (by simp)⟩
end Go.Proofs.YtnaamjpiaekmeaaGreat
namespace Go.Proofs.YtnaamjpiaekmeaaGreat
open Go.RowKit
def CLV_rule (q : Nat) : Value := .func (.func 143) #[] #[.pointer (some ⟨q, 0, none⟩)]
def FV_rule (qg : Nat) : Value := .func (.func 124) #[] #[.pointer (some ⟨qg, 0, none⟩)]
set_option maxRecDepth 100000 in
theorem pcl_rule (qg : Nat) (x : RuleG) (v : Value) (B : Bool) (q : Nat) (w : World) (hq : w.cell? ⟨q, 0, none⟩ = some (FV_rule qg)) (hv : intsAt w v x.right)
  (hc : ∀ wx, Fr [] w wx → Calls Tryz.prog 124 #[ruleV x.left v, .pointer (some ⟨qg, 0, none⟩)] wx fun e w' => e = .returned (.bool B) ∧ Fr [] wx w') : Calls Tryz.prog 143 #[ruleV x.left v, .pointer (some ⟨q, 0, none⟩)] w fun e w' => e = .returned (.bool (!B)) ∧ Fr [] w w' := by
 unfold FV_rule at hq
 obtain ⟨a, c, rfl, h1, h2⟩ := hv.form
 unfold ruleV at hc ⊢
 obtain ⟨n, hn⟩ : ∃ n, n = x.right.length := ⟨_, rfl⟩
 obtain ⟨l, hl⟩ : ∃ l, l = x.left := ⟨_, rfl⟩
 rw [← hn, ← hl] at hc ⊢
 have HC := Lib.hid hc
 have hb0 := two_of_new w (.int .i64 l) (.slice a n c) 46
 have hf0 := Fr.alloc w (.cells #[.int .i64 l, .slice a n c] 46)
 have hq0 := hf0.cell hq (by simp)
 obtain ⟨x0, x1, -⟩ := two_cells hb0
 clear hc hb0 hq hv h1 hn hl
 go_enter Tryz.func143, Tryz.ntmps143
 go_wp2_with (go_at_call 124; refine (HC.out _ hf0).mono ?_; rintro e w1 ⟨rfl, hf1⟩)
 go_ret
 exact ⟨rfl, hf0.trans hf1 (by simp) (by simp)⟩
def HP_rule (qg : Nat) (w : World) (l : List RuleG) (p : RuleG → Bool) : Prop := ∀ x ∈ l, ∀ (v : Value) (wx : World), Fr [] w wx → intsAt wx v x.right → Calls Tryz.prog 124 #[ruleV x.left v, .pointer (some ⟨qg, 0, none⟩)] wx fun e w' => e = .returned (.bool (p x)) ∧ Fr [] wx w'
set_option maxRecDepth 100000 in
set_option maxHeartbeats 1000000 in
theorem pidx_rule (qg : Nat) (l : List RuleG) (p : RuleG → Bool) (lv : Value) (q : Nat) (w : World) (h : rulesAt w lv l) (hq : w.cell? ⟨q, 0, none⟩ = some (FV_rule qg)) (hp : HP_rule qg w l p) :
  Calls Tryz.prog 162 #[lv, CLV_rule q] w (IdxP l p w) := by
 obtain ⟨a0, c0, rfl, hle, hmx⟩ := h.form
 have HE := Lib.hid h
 have HP := Lib.hid hp
 have HQ := Lib.hid hq
 unfold CLV_rule
 clear h hp hq
 go_enter Tryz.func162, Tryz.ntmps162
 go_wp2_with fail
 go_loopw [8] (IdxRelP w l p) (fun iv _ => l.length - (intOf iv).toNat)
 case atStart => exact ⟨0, Nat.zero_le _, rfl, fun j hj => by omega, Fr.refl _ _⟩
 case round =>
  obtain ⟨k, hk, rfl, hall, hf⟩ := hrel
  have HA := Lib.hid hall
  have HF := Lib.hid hf
  clear hall
  by_cases hkn : k < l.length
  ·have hd2 : decide (k < l.length) = true := decide_eq_true hkn
   obtain ⟨b, off, v, rfl, hc0, hc1, hr⟩ := rule_cells (HE.out.below hf) k hkn
   obtain ⟨x, hx⟩ : ∃ x, x = l[k]'hkn := ⟨_, rfl⟩
   rw [← hx] at hc0 hr
   have hm : x ∈ l := by rw [hx]; exact List.getElem_mem hkn
   have hcl := pcl_rule qg x v (p x) q wr (hf.cell HQ.out (by simp)) hr (fun wy hfy => HP.out x hm v wy (hf.trans hfy (by simp) (by simp)) (hr.below hfy))
   obtain ⟨a, c, rfl, h1, h2⟩ := hr.form
   unfold ruleV at hcl
   obtain ⟨n, hn⟩ : ∃ n, n = x.right.length := ⟨_, rfl⟩
   obtain ⟨lf, hlf⟩ : ∃ lf, lf = x.left := ⟨_, rfl⟩
   rw [← hn] at hcl hc1
   rw [← hlf] at hcl hc0
   clear hr h1 hn hlf
   have HX := Lib.hid hx
   cases hb : p x with
   | false =>
     rw [hb] at hcl
     have HD := Lib.hid hcl
     have HB := Lib.hid hb
     clear hcl hf hx hm hb
     go_wp2_with (go_at_call 143; refine HD.out.mono ?_; rintro e w1 ⟨rfl, hf1⟩)
     go_ret
     exact ⟨_, rfl, .inr ⟨by omega, all_false (l := l) (p := p) hkn (by rw [← HX.out]; exact HB.out)⟩, HF.out.trans hf1 (by simp) (by simp)⟩
   | true =>
     rw [hb] at hcl
     have HD := Lib.hid hcl
     have HB := Lib.hid hb
     clear hcl hf hx hm hb
     go_wp2_with (go_at_call 143; refine HD.out.mono ?_; rintro e w1 ⟨rfl, hf1⟩)
     refine ⟨⟨k + 1, by omega, by go_num, fun j hj hjl => ?_, HF.out.trans hf1 (by simp) (by simp)⟩, by simp [intOf]; omega⟩
     by_cases e : j = k
     ·subst e; rw [← HX.out]; exact HB.out
     ·exact HA.out j (by omega) hjl
  ·have hd2 : decide (k < l.length) = false := decide_eq_false hkn
   have HKN := Lib.hid hkn
   clear hf hkn
   go_wp2_with fail
   go_ret
   exact ⟨_, rfl, .inl ⟨rfl, all_true (l := l) (p := p) (fun j hj => HA.out j (by have := HKN.out; omega) hj)⟩, HF.out⟩
theorem pcon_rule (qg : Nat) (l : List RuleG) (p : RuleG → Bool) (lv : Value) (q : Nat) (w : World) (h : rulesAt w lv l) (hq : w.cell? ⟨q, 0, none⟩ = some (FV_rule qg)) (hp : HP_rule qg w l p) :
  Calls Tryz.prog 142 #[lv, CLV_rule q] w fun e w' => e = .returned (.bool (!l.all p)) ∧ Fr [] w w' := by
 have hix := pidx_rule qg l p lv q w h hq hp
 obtain ⟨a0, c0, rfl, hle, hmx⟩ := h.form
 unfold CLV_rule at hix ⊢
 cases ha : l.all p with
 | true =>
   have HI := Lib.hid (idxP_yes ha hix)
   clear hix h hq hp ha
   go_enter Tryz.func142, Tryz.ntmps142
   go_wp2_with (go_at_call 162; refine HI.out.mono ?_; rintro e w1 ⟨rfl, hf1⟩)
   go_ret
   exact ⟨rfl, hf1⟩
 | false =>
   have HI := Lib.hid (idxP_no ha hix)
   clear hix h hq hp ha
   go_enter Tryz.func142, Tryz.ntmps142
   go_wp2_with (go_at_call 162; refine HI.out.mono ?_; rintro e w1 ⟨r, rfl, hr, hf1⟩; have hd : decide (0 ≤ r) = true := decide_eq_true hr)
   go_ret
   exact ⟨rfl, hf1⟩
set_option maxRecDepth 100000 in
theorem pall_rule (qg : Nat) (l : List RuleG) (p : RuleG → Bool) (lv : Value) (w : World) (h : rulesAt w lv l) (hp : HP_rule qg w l p) :
  Calls Tryz.prog 123 #[lv, FV_rule qg] w fun e w' => e = .returned (.bool (l.all p)) ∧ Fr [] w w' := by
 have hf0 := Fr.alloc w (.cells #[FV_rule qg] 128)
 have hb0 := heap_alloc_new w (.cells #[FV_rule qg] 128)
 obtain ⟨w0, hw0⟩ : ∃ w0, w0 = w.alloc (.cells #[FV_rule qg] 128) := ⟨_, rfl⟩
 obtain ⟨q, hq⟩ : ∃ q, q = w.heap.size := ⟨_, rfl⟩
 rw [← hw0] at hf0 hb0
 rw [← hq] at hb0
 have hcon := pcon_rule qg l p lv q w0 (h.below hf0) (by rw [cell_of_heap hb0]; rfl) (fun x hx v wx hfx hr => hp x hx v wx (hf0.trans hfx (by simp) (by simp)) hr)
 obtain ⟨a0, c0, rfl, hle, hmx⟩ := h.form
 unfold CLV_rule at hcon
 have HC := Lib.hid hcon
 have HW := Lib.hid hw0
 have HQ := Lib.hid hq
 unfold FV_rule at HW ⊢
 obtain ⟨R, hR⟩ : ∃ R, R = l.all p := ⟨_, rfl⟩
 rw [← hR] at HC ⊢
 clear hcon h hp hw0 hq hb0 hR
 go_enter Tryz.func123, Tryz.ntmps123
 go_upto_region 1 with fail
 rw [← HW.out, ← HQ.out]
 go_wp2_with (go_at_call 142; refine HC.out.mono ?_; rintro e w1 ⟨rfl, hf1⟩)
 go_ret
 exact ⟨by simp, hf0.trans hf1 (by simp) (by simp)⟩
end Go.Proofs.YtnaamjpiaekmeaaGreat
