/- Several texts in one: WpG, WpE, WpH. -/
import Derived.LoopTactic
import Derived.Deep.DeepCutAuto
import Derived.BigRegion
import Derived.Test.YtnaamjpiaekmeaaGreatPa
import Derived.Test.YtnaamjpiaekmeaaGreatMm
import Derived.Test.YtnaamjpiaekmeaaGreatGa
import Derived.Test.YtnaamjpiaekmeaaGreatTb
import Derived.Test.YtnaamjpiaekmeaaGreatBs
set_option linter.unusedVariables false
set_option linter.unusedSimpArgs false
namespace Go.Proofs.YtnaamjpiaekmeaaGreat
open Go.RowKit
theorem boolRow.kept {w w' : World} {g : Nat} {l : List Bool} {L : List Nat} (h : boolRow w g l) (hf : Fr L w w') (hg : g ∉ L) : boolRow w' g l := hf.heap h hg
theorem ne_of_types {w : World} {p b : Nat} {c d : Array Value} {s t : TypeId} {fr fr' : Nat × Nat} (h1 : w.heap[p]? = some (.cells c s fr)) (h2 : w.heap[b]? = some (.cells d t fr')) (hne : s ≠ t) : p ≠ b := fun e => by
 subst e
 rw [h1] at h2
 injection h2 with h2
 injection h2 with _ h3
 exact hne h3
def RStepR (b b2 : Nat) (s : List Bool × List Bool) (r : RuleG) (w : World) (e : Ending) (w' : World) : Prop := e = .returned (.bool (stepR s r).2) ∧ boolRow w' b (stepR s r).1.1 ∧ boolRow w' b2 (stepR s r).1.2 ∧ (stepR s r).1.1.length = s.1.length ∧ (stepR s r).1.2.length = s.2.length ∧ Fr [b, b2] w w'
def GoRel (w : World) (b b2 N T : Nat) (s : List Bool × List Bool) (right : List Int) (mv iv : Value) (wx : World) : Prop :=
 ∃ (k : Nat) (o t : List Bool) (m : Bool), k ≤ right.length ∧ mv = .bool m ∧ iv = .int .i64 (k : Int) ∧ boolRow wx b o ∧ boolRow wx b2 t ∧ o.length = N ∧ t.length = T ∧ goR right (s, false) = goR (right.drop k) ((o, t), m) ∧ Fr [b, b2] w wx
set_option maxRecDepth 100000 in
set_option maxHeartbeats 4000000 in
theorem pstepr_any (r : RuleG) (v : Value) (p p2 b b2 N T : Nat) (s : List Bool × List Bool) (w : World) (hv : intsAt w v r.right) (hp : boxAt w p 50 (.slice (some ⟨b, 0, none⟩) N N)) (hp2 : boxAt w p2 50 (.slice (some ⟨b2, 0, none⟩) T T))
  (hb : boolRow w b s.1) (hb2 : boolRow w b2 s.2) (hbb : b ≠ b2) (hn : s.1.length = N) (ht : s.2.length = T) (hn2 : N ≤ 1000000) (ht2 : T ≤ 1000000) (hr : RuleOk N T r) (hkp : ∀ wx, Fr [b, b2] w wx → intsAt wx v r.right) :
  Calls Tryz.prog 95 #[ruleV r.left v, .pointer (some ⟨p, 0, none⟩), .pointer (some ⟨p2, 0, none⟩)] w (RStepR b b2 s r w) := by
 obtain ⟨lf, rg⟩ := r
 obtain ⟨h0, h1, h2, h3⟩ := hr
 simp only at hv h0 h1 h2 h3 hkp
 obtain ⟨i, rfl⟩ : ∃ i : Nat, lf = (i : Int) := ⟨lf.toNat, by omega⟩
 have his : i < s.1.length := by omega
 obtain ⟨a0, c0, rfl, hle, hmx⟩ := hv.form
 have n1 : p ≠ b := ne_of_types hp hb (by decide)
 have n2 : p ≠ b2 := ne_of_types hp hb2 (by decide)
 have n3 : p2 ≠ b := ne_of_types hp2 hb (by decide)
 have n4 : p2 ≠ b2 := ne_of_types hp2 hb2 (by decide)
 have hq := two_of_new w (.int .i64 (i : Int)) (.slice a0 rg.length c0) 46
 have hf0 := Fr.alloc w (.cells #[.int .i64 (i : Int), .slice a0 rg.length c0] 46)
 obtain ⟨w0, hw0⟩ : ∃ w0, w0 = w.alloc (.cells #[.int .i64 (i : Int), .slice a0 rg.length c0] 46) := ⟨_, rfl⟩
 obtain ⟨q0, hq0⟩ : ∃ q0, q0 = w.heap.size := ⟨_, rfl⟩
 rw [← hw0] at hq hf0
 rw [← hq0] at hq
 have m1 : q0 ≠ b := ne_of_types hq (hb.below hf0) (by decide)
 have m2 : q0 ≠ b2 := ne_of_types hq (hb2.below hf0) (by decide)
 obtain ⟨o0, t0⟩ := s
 simp only at hb hb2 hn ht his
 obtain ⟨u, hu⟩ : ∃ u, u = o0[i]'his := ⟨_, rfl⟩
 have hc := hb.cell his
 rw [← hu] at hc
 obtain ⟨R, hR⟩ : ∃ R, R = stepR (o0, t0) ⟨(i : Int), rg⟩ := ⟨_, rfl⟩
 unfold RStepR
 rw [← hR]
 have hR2 : R = if u = true then goR rg ((o0, t0), false) else ((o0, t0), false) := by
  rw [hR]
  unfold stepR
  simp only
  rw [Int.toNat_natCast, List.getElem?_eq_getElem his, ← hu]
  rfl
 have HW2 := Lib.hid (show ∀ wx, Fr [b, b2] w0 wx → Fr [b, b2] w wx from fun wx hf => hf0.trans hf (by simp) (fun i hi _ => hi))
 have HKP := Lib.hid (fun wx (hf : Fr [b, b2] w0 wx) => hkp wx (hf0.trans hf (by simp) (fun i hi _ => hi)))
 have HQ := Lib.hid hq
 have HW0 := Lib.hid hw0
 have HQ0 := Lib.hid hq0
 have HP := Lib.hid (hp.kept hf0 (by simp))
 have HP2 := Lib.hid (hp2.kept hf0 (by simp))
 have HB := Lib.hid (hb.below hf0)
 have HB2 := Lib.hid (hb2.below hf0)
 have HC := Lib.hid (hf0.cell hc (by simp))
 have HN1 := Lib.hid (show p ∉ [b, b2] by simp [n1, n2])
 have HN2 := Lib.hid (show p2 ∉ [b, b2] by simp [n3, n4])
 have HM := Lib.hid (show q0 ∉ [b, b2] by simp [m1, m2])
 have HBB := Lib.hid hbb
 have HHN := Lib.hid hn
 have HHT := Lib.hid ht
 have H3 := Lib.hid h3
 have HR2 := Lib.hid hR2
 have HI := Lib.hid (fun (x : Int) wx => pgterm_any x wx)
 obtain ⟨x0, x1, -⟩ := two_cells HQ.out
 have y0 := HP.out.cell
 have z0 := HC.out
 unfold ruleV
 clear hq hw0 hq0 hp hp2 hb hb2 hc n1 n2 n3 n4 m1 m2 hbb hn ht h3 hR hR2 hu hv hkp hmx
 cases u with
 | false =>
   have HR := Lib.hid (show R = ((o0, t0), false) from HR2.out)
   go_enter Tryz.func95, Tryz.ntmps95
   go_upto_region 1 with fail
   rw [← HW0.out, ← HQ0.out]
   go_wp2_with fail
   go_ret
   rw [HR.out]
   exact ⟨rfl, HB.out, HB2.out, rfl, rfl, HW2.out _ (Fr.refl _ _)⟩
 | true =>
   have HR := Lib.hid (show R = goR rg ((o0, t0), false) from HR2.out)
   clear HR2
   go_enter Tryz.func95, Tryz.ntmps95
   go_upto_region 1 with fail
   rw [← HW0.out, ← HQ0.out]
   go_wp2_with fail
   clear x0 x1 y0 z0 HC
   go_loopw [5, 17] (GoRel w0 b b2 N T (o0, t0) rg) (fun _ iv _ => rg.length - (intOf iv).toNat)
   case atStart => exact ⟨0, o0, t0, false, Nat.zero_le _, rfl, rfl, HB.out, HB2.out, HHN.out, HHT.out, rfl, Fr.refl _ _⟩
   case round =>
    obtain ⟨k, o, t, m, hk, rfl, rfl, hro, hrt, hol, htl, hgo, hf⟩ := hrel
    have HF := Lib.hid hf
    have HRO := Lib.hid hro
    have HRT := Lib.hid hrt
    have HOL := Lib.hid hol
    have HTL := Lib.hid htl
    have HGO := Lib.hid hgo
    by_cases hkn : k < rg.length
    ·have hd1 : decide (k < rg.length) = true := decide_eq_true hkn
     obtain ⟨bb, off, rfl, hcx⟩ := int_cell (HKP.out _ hf) k hkn
     have HD := Lib.hid (goR_drop hkn ((o, t), m))
     have hm := H3.out _ (List.getElem_mem hkn)
     obtain ⟨x, hx⟩ : ∃ x, x = rg[k]'hkn := ⟨_, rfl⟩
     rw [← hx] at hcx hm
     have HX := Lib.hid hx
     have hi := HI.out x
     by_cases hneg : x < 0
     ·rw [decide_eq_true hneg] at hi
      have HI1 := Lib.hid hi
      obtain ⟨j, hj⟩ : ∃ j : Nat, j = (-1 - x).toNat := ⟨_, rfl⟩
      have hjx : -1 - x = (j : Int) := by omega
      have hjt : j < t.length := by omega
      have hct := HP2.out.kept hf HN2.out
      have HCT := Lib.hid hct
      have HG1 := Lib.hid (show goR1 ((o, t), m) x = ((o, t.set j true), m) by unfold goR1; rw [if_pos hneg, ← hj])
      have hjT : j < T := by omega
      clear hx hi hneg hj hct hm hro hrt hol htl hgo hf
      go_wp2_with (go_at_call 55; refine (HI1.out _).mono ?_; rintro e w1 ⟨rfl, hf1⟩; have y2 := (HCT.out.kept hf1 (by simp)).cell; have hb1 := HRO.out.below hf1; have ht1 := HRT.out.below hf1; have y3 := ht1.cell hjt; have y4 := ht1.free j)
      refine ⟨⟨k + 1, o, t.set j true, m, by omega, rfl, by go_num, hb1.kept (Fr.set0 _ _ _ _) (by simpa using HBB.out), ht1.set _ _, HOL.out, by rw [List.length_set]; exact HTL.out, ?_, (HF.out.trans hf1 (fun i hi _ => hi) (by simp) (n := [b, b2])).trans (Fr.set0 _ _ _ _) (fun i hi _ => hi) (by simp)⟩, by simp [intOf]; omega⟩
      rw [HGO.out, HD.out, ← HX.out, HG1.out]
     ·rw [decide_eq_false hneg] at hi
      have HI1 := Lib.hid hi
      obtain ⟨j, rfl⟩ : ∃ j : Nat, x = (j : Int) := ⟨x.toNat, by omega⟩
      have hjN : j < N := by omega
      have hjo : j < o.length := by omega
      have hct := HP.out.kept hf HN1.out
      have HCT := Lib.hid hct
      obtain ⟨u, hu⟩ : ∃ u, u = o[j]'hjo := ⟨_, rfl⟩
      have hco := hro.cell hjo
      rw [← hu] at hco
      have HCO := Lib.hid hco
      have HU := Lib.hid (show (o[((j : Int)).toNat]?).getD false = u by rw [Int.toNat_natCast, List.getElem?_eq_getElem hjo, hu]; rfl)
      have HNG := Lib.hid hneg
      clear hx hi hneg hct hco hu hm hro hrt hol htl hgo hf
      cases u with
      | true =>
        have HG1 := Lib.hid (show goR1 ((o, t), m) (j : Int) = ((o, t), m) by unfold goR1; rw [if_neg HNG.out, if_pos HU.out])
        go_wp2_with (go_at_call 55; refine (HI1.out _).mono ?_; rintro e w1 ⟨rfl, hf1⟩; have y2 := (HCT.out.kept hf1 (by simp)).cell; have hb1 := HRO.out.below hf1; have ht1 := HRT.out.below hf1; have y3 := hf1.cell HCO.out (by simp))
        refine ⟨⟨k + 1, o, t, m, by omega, rfl, by go_num, hb1, ht1, HOL.out, HTL.out, ?_, HF.out.trans hf1 (fun i hi _ => hi) (by simp)⟩, by simp [intOf]; omega⟩
        rw [HGO.out, HD.out, ← HX.out, HG1.out]
      | false =>
        have HG1 := Lib.hid (show goR1 ((o, t), m) (j : Int) = ((o.set j true, t), true) by unfold goR1; rw [if_neg HNG.out, if_neg (by rw [HU.out]; decide), Int.toNat_natCast])
        go_wp2_with (go_at_call 55; refine (HI1.out _).mono ?_; rintro e w1 ⟨rfl, hf1⟩; have y2 := (HCT.out.kept hf1 (by simp)).cell; have hb1 := HRO.out.below hf1; have ht1 := HRT.out.below hf1; have y3 := hf1.cell HCO.out (by simp); have y4 := hb1.free j)
        refine ⟨⟨k + 1, o.set j true, t, true, by omega, rfl, by go_num, hb1.set _ _, ht1.kept (Fr.set0 _ _ _ _) (by simpa using HBB.out.symm), by rw [List.length_set]; exact HOL.out, HTL.out, ?_, (HF.out.trans hf1 (fun i hi _ => hi) (by simp) (n := [b, b2])).trans (Fr.set0 _ _ _ _) (fun i hi _ => hi) (by simp)⟩, by simp [intOf]; omega⟩
        rw [HGO.out, HD.out, ← HX.out, HG1.out]
    ·have hd1 : decide (k < rg.length) = false := decide_eq_false hkn
     have HE := Lib.hid (show R = ((o, t), m) by rw [HR.out, hgo, goR_end (by omega)])
     clear hro hrt hol htl hgo hf hkn
     go_wp2_with fail
     go_ret
     rw [HE.out]
     exact ⟨rfl, HRO.out, HRT.out, HOL.out.trans HHN.out.symm, HTL.out.trans HHT.out.symm, HW2.out _ HF.out⟩
end Go.Proofs.YtnaamjpiaekmeaaGreat
namespace Go.Proofs.YtnaamjpiaekmeaaGreat
open Go.RowKit
def TK_r (p p2 : Nat) : Value := .func (.func 95) #[] #[.pointer (some ⟨p, 0, none⟩), .pointer (some ⟨p2, 0, none⟩)]
def PrRel_r {σ : Type} (F : σ → RuleG → σ × Bool) (St : World → σ → Prop) (rules : List RuleG) (N : Nat) (s : σ) (L : List Nat) (w : World) (iv : Value) (wx : World) : Prop :=
 ∃ (k : Nat) (st : σ), k ≤ N ∧ iv = .int .i64 (k : Int) ∧ St wx st ∧ propF F rules N s = propF F rules (N - k) st ∧ Fr L w wx
def RdRel_r {σ : Type} (F : σ → RuleG → σ × Bool) (St : World → σ → Prop) (rules : List RuleG) (s : σ) (L : List Nat) (w : World) (mv iv : Value) (wx : World) : Prop :=
 ∃ (k : Nat) (st : σ) (m : Bool), k ≤ rules.length ∧ mv = .bool m ∧ iv = .int .i64 (k : Int) ∧ St wx st ∧ roundF F rules (s, false) = roundF F (rules.drop k) (st, m) ∧ Fr L w wx
def RProp_r {σ : Type} (F : σ → RuleG → σ × Bool) (St : World → σ → Prop) (g : GramG) (s : σ) (L : List Nat) (w : World) (e : Ending) (w' : World) : Prop :=
 e = .returned (.tuple #[]) ∧ St w' (propF F g.rules g.names.length s) ∧ Fr L w w'
def HT_r (p p2 : Nat) {σ : Type} (F : σ → RuleG → σ × Bool) (St : World → σ → Prop) (g : GramG) (L : List Nat) : Prop :=
 ∀ (wx : World) (s : σ) (r : RuleG) (v : Value), r ∈ g.rules → St wx s → intsAt wx v r.right → Calls Tryz.prog 95 #[ruleV r.left v, .pointer (some ⟨p, 0, none⟩), .pointer (some ⟨p2, 0, none⟩)] wx fun e w' => e = .returned (.bool (F s r).2) ∧ St w' (F s r).1 ∧ Fr L wx w'
set_option maxRecDepth 100000 in
set_option maxHeartbeats 4000000 in
theorem pprop_r (p p2 : Nat) {σ : Type} (F : σ → RuleG → σ × Bool) (St : World → σ → Prop) (g : GramG) (gv : Value) (L : List Nat) (s : σ) (wb w : World) (hg : gramAt wb gv g) (hwb : Fr [] wb w) (hL : ∀ k ∈ L, wb.heap.size ≤ k ∧ k < w.heap.size)
  (ht : HT_r p p2 F St g L) (hS : ∀ wx wy s, St wx s → Fr [] wx wy → St wy s) (hs : St w s) :
  Calls Tryz.prog 92 #[gv, TK_r p p2] w (RProp_r F St g s L w) := by
 obtain ⟨a1, c1, a2, c2, a3, c3, rfl, ⟨-, q1, p1⟩, ⟨-, q2, p2⟩, ⟨h3, q3, p3⟩⟩ := hg.parts
 have hb := heap_alloc_new w (.cells #[.slice a1 g.names.length c1, .slice a2 g.terms.length c2, .slice a3 g.rules.length c3] 25)
 have hf0 := Fr.alloc w (.cells #[.slice a1 g.names.length c1, .slice a2 g.terms.length c2, .slice a3 g.rules.length c3] 25)
 obtain ⟨w1, hw1⟩ : ∃ w1, w1 = w.alloc (.cells #[.slice a1 g.names.length c1, .slice a2 g.terms.length c2, .slice a3 g.rules.length c3] 25) := ⟨_, rfl⟩
 obtain ⟨q0, hq0⟩ : ∃ q0, q0 = w.heap.size := ⟨_, rfl⟩
 rw [← hw1] at hb hf0
 rw [← hq0] at hb
 have hqL : q0 ∉ L := fun hm => by have := hL q0 hm; omega
 have hb1 : Fr [] wb w1 := hwb.trans hf0 (by simp) (by simp)
 obtain ⟨N, hN⟩ : ∃ n, n = g.names.length := ⟨_, rfl⟩
 obtain ⟨n2, hn2⟩ : ∃ n, n = g.terms.length := ⟨_, rfl⟩
 obtain ⟨n3, hn3⟩ : ∃ n, n = g.rules.length := ⟨_, rfl⟩
 unfold RProp_r
 rw [← hN, ← hn2, ← hn3] at hb hw1
 rw [← hN, ← hn2, ← hn3]
 rw [← hn3] at h3
 rw [← hN] at q1
 rw [← hn3] at q3
 have HB := Lib.hid hb
 have HF0 := Lib.hid hf0
 have HW1 := Lib.hid hw1
 have HQ0 := Lib.hid hq0
 have HB1 := Lib.hid hb1
 have HQL := Lib.hid hqL
 have HL := Lib.hid hL
 have HT := Lib.hid ht
 have HS := Lib.hid hS
 have H3 := Lib.hid h3
 have HS1 := Lib.hid (hS _ _ _ hs hf0)
 have HN3 := Lib.hid hn3
 have HW := Lib.hid (show ∀ wx, Fr L w1 wx → Fr [] wb wx from fun wx hfx => hb1.trans hfx (by simp) (fun i hi hlt => by have := (hL i hi).1; omega))
 unfold TK_r
 clear hb hf0 hw1 hq0 hb1 hqL hL ht hS h3 hs hg hwb hN hn2 hn3 q2 p2
 obtain ⟨x0, x1, x2, -⟩ := three_of_heap HB.out
 go_enter Tryz.func92, Tryz.ntmps92
 go_upto_region 1 with fail
 rw [← HW1.out, ← HQ0.out]
 go_wp2_with fail
 clear x0 x1 x2
 go_loopw [10] (PrRel_r F St g.rules N s L w1) (fun iv _ => N - (intOf iv).toNat)
 case atStart => exact ⟨0, s, Nat.zero_le _, rfl, HS1.out, rfl, Fr.refl _ _⟩
 case round =>
  obtain ⟨k, st, hk, rfl, hst, hpf, hf⟩ := hrel
  have HF := Lib.hid hf
  have HST := Lib.hid hst
  have HPF := Lib.hid hpf
  obtain ⟨x0, x1, x2, -⟩ := three_of_heap (hf.heap HB.out HQL.out)
  clear hf hst hpf
  by_cases hkn : k < N
  ·have hd1 : decide (k < N) = true := decide_eq_true hkn
   go_wp2_with fail
   clear x0 x1 x2
   obtain ⟨wo, hwo⟩ : ∃ wo, wo = wr := ⟨_, rfl⟩
   rw [← hwo] at HF HST ⊢
   clear hwo
   go_loopw [4, 15] (RdRel_r F St g.rules st L w1) (fun _ iv _ => n3 - (intOf iv).toNat)
   case atStart => exact ⟨0, st, false, Nat.zero_le _, rfl, rfl, HST.out, rfl, HF.out⟩
   case round =>
    obtain ⟨j, sj, m, hj, rfl, rfl, hsj, hrd, hfj⟩ := hrel
    have hj3 : j ≤ n3 := by have := HN3.out; omega
    have HFJ := Lib.hid hfj
    have HSJ := Lib.hid hsj
    have HRD := Lib.hid hrd
    obtain ⟨x0, x1, x2, -⟩ := three_of_heap (hfj.heap HB.out HQL.out)
    by_cases hjn : j < n3
    ·have hd2 : decide (j < n3) = true := decide_eq_true hjn
     have hjr : j < g.rules.length := by have := HN3.out; omega
     obtain ⟨b1, o1, v1, rfl, z0, z1, hv1⟩ := rule_cells (H3.out.below (HW.out _ hfj)) j hjr
     have hm := List.getElem_mem hjr
     have HDR := Lib.hid (round_drop F hjr sj m)
     obtain ⟨r, hr⟩ : ∃ r, r = g.rules[j]'hjr := ⟨_, rfl⟩
     rw [← hr] at z0 hv1 hm
     have HR := Lib.hid hr
     obtain ⟨a4, c4, rfl, hle4, hmx4⟩ := hv1.form
     obtain ⟨n4, hn4⟩ : ∃ n, n = r.right.length := ⟨_, rfl⟩
     obtain ⟨lf, hlf⟩ : ∃ l, l = r.left := ⟨_, rfl⟩
     have hq := two_of_new wr (.int .i64 lf) (.slice a4 n4 c4) 46
     have hfq := Fr.alloc wr (.cells #[.int .i64 lf, .slice a4 n4 c4] 46)
     obtain ⟨w2, hw2⟩ : ∃ w2, w2 = wr.alloc (.cells #[.int .i64 lf, .slice a4 n4 c4] 46) := ⟨_, rfl⟩
     obtain ⟨q2, hq2⟩ : ∃ q2, q2 = wr.heap.size := ⟨_, rfl⟩
     rw [← hw2] at hq hfq
     rw [← hq2] at hq
     have hcl := HT.out w2 sj r (.slice a4 r.right.length c4) hm (HS.out _ _ _ hsj hfq) (hv1.below hfq)
     rw [← hlf, ← hn4] at hcl
     rw [← hlf] at z0
     rw [← hn4] at z1
     unfold ruleV at hcl
     have HCL := Lib.hid hcl
     have HQ := Lib.hid hq
     have HFQ := Lib.hid hfq
     have HW2 := Lib.hid hw2
     have HQ2 := Lib.hid hq2
     obtain ⟨x3, x4, -⟩ := two_cells hq
     have hfin : ∀ w3, St w3 (F sj r).1 → Fr L w2 w3 → RdRel_r F St g.rules st L w1 (.bool (m || (F sj r).2)) (.int .i64 ((j + 1 : Nat) : Int)) w3 := fun w3 hs3 hf3 =>
      ⟨j + 1, _, _, by omega, rfl, rfl, hs3, by rw [HRD.out, HDR.out, ← HR.out], (HFJ.out.trans HFQ.out (fun i hi _ => hi) (by simp) (n := L)).trans hf3 (fun i hi _ => hi) (fun i hi _ => hi)⟩
     have HFIN := Lib.hid hfin
     clear hcl hq hfq hw2 hq2 hr hm hv1 hle4 hmx4 hn4 hlf hfj hsj hrd hfin
     go_upto_region 7 with fail
     rw [← HW2.out, ← HQ2.out]
     clear z0 z1 x0 x1 x2
     cases hb : (F sj r).2 with
     | true =>
       rw [hb] at HCL HFIN
       clear hb
       go_wp2_with (go_at_call 95; refine HCL.out.mono ?_; rintro e w3 ⟨rfl, hs3, hf3⟩)
       refine ⟨?_, by simp [intOf]; omega⟩
       have := HFIN.out _ hs3 hf3
       rw [Bool.or_true] at this
       exact this
     | false =>
       rw [hb] at HCL HFIN
       clear hb
       go_wp2_with (go_at_call 95; refine HCL.out.mono ?_; rintro e w3 ⟨rfl, hs3, hf3⟩)
       refine ⟨?_, by simp [intOf]; omega⟩
       have := HFIN.out _ hs3 hf3
       rw [Bool.or_false] at this
       exact this
    ·have hd2 : decide (j < n3) = false := decide_eq_false hjn
     have HE := Lib.hid (show roundF F g.rules (st, false) = (sj, m) by rw [hrd, round_end F (by have := HN3.out; omega)])
     have HSTEP := Lib.hid (show propF F g.rules (N - k) st = if m = true then propF F g.rules (N - (k + 1)) sj else sj by
      rw [show N - k = (N - (k + 1)) + 1 by omega, propF, HE.out])
     clear hfj hsj hrd
     cases m with
     | true =>
       go_wp2_with fail
       refine ⟨⟨k + 1, sj, by omega, by go_num, HSJ.out, by rw [HPF.out, HSTEP.out, if_pos rfl], HFJ.out⟩, by simp [intOf]; omega⟩
     | false =>
       go_wp2_with fail
       refine bodyPost_ret (results_none rfl _ _ _) rfl ?_
       refine ⟨rfl, ?_, HF0.out.trans HFJ.out (by simp) (fun i hi _ => hi)⟩
       rw [HPF.out, HSTEP.out, if_neg (by decide)]
       exact HSJ.out
  ·have hd1 : decide (k < N) = false := decide_eq_false hkn
   have HE := Lib.hid (show N - k = 0 by omega)
   clear hkn
   go_wp2_with fail
   go_end0
   refine ⟨rfl, ?_, HF0.out.trans HF.out (by simp) (fun i hi _ => hi)⟩
   rw [HPF.out, HE.out, propF]
   exact HST.out
end Go.Proofs.YtnaamjpiaekmeaaGreat
namespace Go.Proofs.YtnaamjpiaekmeaaGreat
open Go.RowKit
theorem results_cells2 {P : Program} {fn : Func} {p q : Tmp} {ty : TypeId} {d : TypeDesc} (h : fn.results = #[.cell p ty, .cell q ty]) (tmps : Array Value) (w : World) (a1 a2 : Addr) (x y : Value)
  (hp : tmps.getD p undef = .pointer (some a1)) (hq : tmps.getD q undef = .pointer (some a2)) (hx : w.cell? a1 = some x) (hy : w.cell? a2 = some y) (hu : P.underlying ty = some d) (hd : (match d with | .struct _ | .array _ _ => true | _ => false) = false) :
  (results fn tmps).run P w = .ok (.tuple #[x, y]) w := by
 have ha : ∀ w, (isAgg ty).run P w = .ok false w := by
  intro w
  unfold isAgg
  rw [Sem.run_bind, run_underlying hu w]
  cases d <;> simp_all
 have hp' : tmps[p]?.getD undef = .pointer (some a1) := by simpa using hp
 have hq' : tmps[q]?.getD undef = .pointer (some a2) := by simpa using hq
 simp [results, h, hp', hq', asAddr, loadVar, Sem.run_bind, ha, hx, hy, Result.andThen]
def StR (p p2 b b2 N T : Nat) (w : World) (s : List Bool × List Bool) : Prop :=
 boxAt w p 50 (.slice (some ⟨b, 0, none⟩) N N) ∧ boxAt w p2 50 (.slice (some ⟨b2, 0, none⟩) T T) ∧ boolRow w b s.1 ∧ boolRow w b2 s.2 ∧ s.1.length = N ∧ s.2.length = T
theorem ints_apart {w : World} {v : Value} {l : List Int} {b : Nat} {o : List Bool} (h : intsAt w v l) (hb : boolRow w b o) : ∀ k, v.ownBlock = some k → l ≠ [] → k ≠ b := by
 intro k hk hne e
 subst e
 rcases h with ⟨_, _, rfl, _, h0⟩ | ⟨b', off, cap, rfl, _, _, hc⟩
 ·cases l with
  | nil => exact hne rfl
  | cons x l => simp at h0
 ·obtain rfl : b' = k := by simpa [Value.ownBlock] using hk
  have h1 := hc 0 (by rw [List.length_map]; exact List.length_pos_iff.2 hne)
  rw [cell_of_heap hb] at h1
  simp only [List.getElem?_toArray, List.getElem?_map] at h1
  cases e : o[off + 0]? with
  | none => rw [e] at h1; simp at h1
  | some y => rw [e] at h1; simp [intV] at h1
theorem ints_kept {w w' : World} {v : Value} {l : List Int} {b b2 : Nat} {o t : List Bool} (h : intsAt w v l) (hb : boolRow w b o) (hb2 : boolRow w b2 t) (hf : Fr [b, b2] w w') : intsAt w' v l :=
 cellsAt.kept h hf (fun k hk hne _ hm => by
  have hne' : l ≠ [] := fun e => hne (by rw [e]; rfl)
  simp only [List.mem_cons, List.not_mem_nil, or_false] at hm
  rcases hm with e | e
  ·exact ints_apart h hb k hk hne' e
  ·exact ints_apart h hb2 k hk hne' e)
theorem ht_r {g : GramG} (hv : ValidG g) {p p2 b b2 : Nat} (hbb : b ≠ b2) : HT_r p p2 stepR (StR p p2 b b2 g.names.length g.terms.length) g [b, b2] := by
 intro wx s r v hr hst hi
 obtain ⟨h1, h2, h3, h4, h5, h6⟩ := hst
 refine (pstepr_any r v p p2 b b2 g.names.length g.terms.length s wx hi h1 h2 h3 h4 hbb h5 h6 (by have := hv.syms; omega) (by have := hv.syms; omega) (hv.rules r hr) (fun wy hf => ints_kept hi h3 h4 hf)).mono ?_
 rintro e w' ⟨he, k1, k2, k3, k4, hf⟩
 have n1 : p ∉ [b, b2] := by simp [ne_of_types h1 h3 (by decide), ne_of_types h1 h4 (by decide)]
 have n2 : p2 ∉ [b, b2] := by simp [ne_of_types h2 h3 (by decide), ne_of_types h2 h4 (by decide)]
 exact ⟨he, ⟨h1.kept hf n1, h2.kept hf n2, k1, k2, k3.trans h5, k4.trans h6⟩, hf⟩
def KeepB (p p2 : Nat) (V V2 : Value) (a b : World) : Prop := (boxAt a p 50 V → boxAt b p 50 V) ∧ (boxAt a p2 50 V2 → boxAt b p2 50 V2)
theorem KeepB.refl (p p2 : Nat) (V V2 : Value) (a : World) : KeepB p p2 V V2 a a := ⟨id, id⟩
theorem KeepB.trans {p p2 : Nat} {V V2 : Value} {a b c : World} (h : KeepB p p2 V V2 a b) (k : KeepB p p2 V V2 b c) : KeepB p p2 V V2 a c := ⟨fun x => k.1 (h.1 x), fun x => k.2 (h.2 x)⟩
def RReach (g : GramG) (w : World) (e : Ending) (w' : World) : Prop := ∃ b b2, w.heap.size ≤ b ∧ w.heap.size ≤ b2 ∧ e = .returned (.tuple #[.slice (some ⟨b, 0, none⟩) g.names.length g.names.length, .slice (some ⟨b2, 0, none⟩) g.terms.length g.terms.length]) ∧
 boolRow w' b (reachedP g).1 ∧ boolRow w' b2 (reachedP g).2 ∧ (reachedP g).1.length = g.names.length ∧ (reachedP g).2.length = g.terms.length ∧ Fr [] w w'
set_option maxRecDepth 100000 in
set_option maxHeartbeats 8000000 in
theorem preached_any (g : GramG) (gv : Value) (w : World) (hg : gramAt w gv g) (hv : ValidG g) : Calls Tryz.prog 50 #[gv] w (RReach g w) := by
 obtain ⟨iB, hiB, hz0, hz1, hz2⟩ := info_parts infoBool
 obtain ⟨a1, c1, a2, c2, a3, c3, rfl, ⟨-, q1, p1⟩, ⟨-, q2, p2⟩, ⟨h3, q3, p3⟩⟩ := hg.parts
 have hs1 : g.names.length ≤ 256 := by have := hv.syms; omega
 have hs2 : g.terms.length ≤ 256 := by have := hv.syms; omega
 have hone := hv.one
 have HG := Lib.hid hg
 have HV := Lib.hid hv
 obtain ⟨N, hN⟩ : ∃ n, n = g.names.length := ⟨_, rfl⟩
 obtain ⟨n2, hn2⟩ : ∃ n, n = g.terms.length := ⟨_, rfl⟩
 obtain ⟨n3, hn3⟩ : ∃ n, n = g.rules.length := ⟨_, rfl⟩
 have hb := heap_alloc_new w (.cells #[.slice a1 N c1, .slice a2 n2 c2, .slice a3 n3 c3] 25)
 have hf0 := Fr.alloc w (.cells #[.slice a1 N c1, .slice a2 n2 c2, .slice a3 n3 c3] 25)
 obtain ⟨wa, hwa⟩ : ∃ w1, w1 = w.alloc (.cells #[.slice a1 N c1, .slice a2 n2 c2, .slice a3 n3 c3] 25) := ⟨_, rfl⟩
 rw [← hwa] at hb hf0
 have hb1 := heap_alloc_new wa (.cells #[.slice none 0 0] 50)
 have hf1 := Fr.alloc wa (.cells #[.slice none 0 0] 50)
 have hsa : wa.heap.size = w.heap.size + 1 := by rw [hwa, World.size_alloc]
 obtain ⟨wc, hwc⟩ : ∃ w1, w1 = wa.alloc (.cells #[.slice none 0 0] 50) := ⟨_, rfl⟩
 have hsc : wc.heap.size = w.heap.size + 1 + 1 := by rw [hwc, World.size_alloc, hsa]
 rw [← hwc] at hb1 hf1
 have hb2 := heap_alloc_new wc (.cells #[.slice none 0 0] 50)
 have hf2 := Fr.alloc wc (.cells #[.slice none 0 0] 50)
 obtain ⟨w0, hw0⟩ : ∃ w1, w1 = wc.alloc (.cells #[.slice none 0 0] 50) := ⟨_, rfl⟩
 have hs0 : w0.heap.size = w.heap.size + 1 + 1 + 1 := by rw [hw0, World.size_alloc, hsc]
 rw [← hw0] at hb2 hf2
 have hf12 := hf1.trans hf2 (by simp) (n := []) (by simp)
 have HF0 := Lib.hid (hf0.trans hf12 (by simp) (n := []) (by simp))
 have hbq := hf12.heap hb (by simp)
 have hbp := hf2.heap hb1 (by simp)
 rw [hsa] at hbp
 rw [hsc] at hb2
 obtain ⟨q0, hq0⟩ : ∃ q0, q0 = w.heap.size := ⟨_, rfl⟩
 have HGE := Lib.hid (show w.heap.size ≤ q0 by omega)
 rw [← hq0] at hbq hbp hb2 hs0
 obtain ⟨p, hp⟩ : ∃ p, p = q0 + 1 := ⟨_, rfl⟩
 obtain ⟨p2, hp2⟩ : ∃ p2, p2 = p + 1 := ⟨_, rfl⟩
 have hqp : q0 < p := by omega
 have hpp : p < p2 := by omega
 rw [← hp] at hbp hb2 hs0
 rw [← hp2] at hb2 hs0
 have HQ := Lib.hid hbq
 have HBP := Lib.hid hbp
 have HBP2 := Lib.hid hb2
 have HW0 := Lib.hid (show ((w.alloc (.cells #[.slice a1 N c1, .slice a2 n2 c2, .slice a3 n3 c3] 25)).alloc (.cells #[.slice none 0 0] 50)).alloc (.cells #[.slice none 0 0] 50) = w0 by rw [hw0, hwc, hwa])
 have HQ0 := Lib.hid hq0
 have HP := Lib.hid hp
 have HP2 := Lib.hid hp2
 have HS0 := Lib.hid (show p2 < w0.heap.size by omega)
 unfold RReach
 rw [← hN] at hs1 hone q1
 rw [← hn2] at hs2 q2
 rw [← hN, ← hn2, ← hn3]
 have HN := Lib.hid hN
 have HN2 := Lib.hid hn2
 have HN3 := Lib.hid hn3
 clear hb hf0 hwa hb1 hf1 hsa hwc hsc hb2 hf2 hw0 hs0 hf12 hbq hbp hq0 hp hp2 hN hn2 hn3 h3 hg hv q3 p3
 go_enter Tryz.func50, Tryz.ntmps50
 go_upto_region 1 with fail
 rw [HW0.out, ← HQ0.out, ← HP.out, ← HP2.out]
 clear HW0 HQ0 HP HP2
 refine wp_region_N (Below p) (Below.refl p) (fun _ _ _ => Below.trans) [(0, false), (1, false), (2, false), (4, false), (5, false), (6, false)] 4 19 rfl (by kernel_rfl) (by kernel_rfl) (by kernel_rfl) (fun c a d v w h => by cases d <;> exact h) ?_
 simp only [List.map_cons, List.map_nil, List.getElem?_toArray, List.getElem?_cons_succ, List.getElem?_cons_zero, Option.getD_some]
 obtain ⟨v0, hv0⟩ : ∃ v0, v0 = w0.drew := ⟨_, rfl⟩
 have LQ : Hid (∀ w', Below p v0 w' → w'.heap[q0]? = some (.cells #[.slice a1 N c1, .slice a2 n2 c2, .slice a3 n3 c3] 25 (0, 0))) := Lib.hid (fun w' hf' => (hf'.block _ hqp).trans (by rw [hv0]; exact HQ.out))
 have P0 : Hid (boxAt v0 p 50 (.slice none 0 0)) := Lib.hid (by rw [hv0]; exact HBP.out)
 have Q0 : Hid (boxAt v0 p2 50 (.slice none 0 0)) := Lib.hid (by rw [hv0]; exact HBP2.out)
 have FD := Lib.hid (show Fr [] w v0 by rw [hv0]; exact HF0.out.andDrew)
 have SZ0 := Lib.hid (show p2 < v0.heap.size by rw [hv0]; exact HS0.out)
 have B0 := Lib.hid (Below.refl p v0)
 rw [← hv0]
 clear hv0 HQ HBP HBP2 HF0 HS0
 repeat (apply wpT_t; · (intro w' hf'; obtain ⟨c0, c1, c2, -, -, -⟩ := three_of_heap (LQ.out w' hf'); go_wp2_with fail; exact ⟨rfl, rfl⟩))
 refine wpT_end ?_
 refine anyH_step (T := Below p) (fun _ _ _ => Below.trans) [3, 7] (by kernel_rfl) (by simp) (fun ix hmi => ?_)
 simp only [List.mem_cons, List.not_mem_nil, or_false] at hmi
 rcases hmi with rfl | rfl
 ·skip
  simp only [List.getElem?_toArray, List.getElem?_cons_succ, List.getElem?_cons_zero, Option.getD_some]
  go_wp2_with (refine wpL_make rfl _ _ 50 rfl 4 iB (.bool false) 1 Tryz.underlying50 hiB hz0 hz1 hz2 rfl N rfl rfl (by omega) (by simp [maxLen]; omega) ?_; intro v1 hh hf hs)
  obtain ⟨b, hb⟩ : ∃ k, k = v0.heap.size := ⟨_, rfl⟩
  rw [← hb]
  have hrow : boolRow v1 b (List.replicate N false) := by unfold boolRow; rw [hb, List.map_replicate]; exact hh.out
  have hbl : Below p v0 v1 := hf.below (by have := SZ0.out; omega) (by simp)
  have Rb := Lib.hid hrow
  have Gb := Lib.hid (show p2 < b by have := SZ0.out; omega)
  have P1 := Lib.hid (P0.out.kept hf (by simp))
  have Q1 := Lib.hid (Q0.out.kept hf (by simp))
  have SZ1 := Lib.hid (show p2 < v1.heap.size by have := SZ0.out; have := hf.size; omega)
  refine ⟨hbl, ?_⟩
  have B1 := Lib.hid (B0.out.trans hbl)
  clear hh hf hs hrow hb hbl
  refine anyH_step (T := Below p) (fun _ _ _ => Below.trans) [7, 8] (by kernel_rfl) (by simp) (fun ix hmi => ?_)
  simp only [List.mem_cons, List.not_mem_nil, or_false] at hmi
  rcases hmi with rfl | rfl
  ·skip
   simp only [List.getElem?_toArray, List.getElem?_cons_succ, List.getElem?_cons_zero, Option.getD_some]
   go_wp2_with (refine wpL_make rfl _ _ 50 rfl 4 iB (.bool false) 1 Tryz.underlying50 hiB hz0 hz1 hz2 rfl n2 rfl rfl (by omega) (by simp [maxLen]; omega) ?_; intro v2 hh hf hs)
   obtain ⟨b2, hb2⟩ : ∃ k, k = v1.heap.size := ⟨_, rfl⟩
   rw [← hb2]
   have hrow : boolRow v2 b2 (List.replicate n2 false) := by unfold boolRow; rw [hb2, List.map_replicate]; exact hh.out
   have hbl : Below p v1 v2 := hf.below (by have := SZ1.out; omega) (by simp)
   have Rb2 := Lib.hid hrow
   have Gb2 := Lib.hid (show p2 < b2 by have := SZ1.out; omega)
   have NE := Lib.hid (show b ≠ b2 from fun e => by have := (Array.getElem?_eq_some_iff.1 Rb.out).1; omega)
   replace Rb := Lib.hid (Rb.out.below hf)
   have P2 := Lib.hid (P1.out.kept hf (by simp))
   have Q2 := Lib.hid (Q1.out.kept hf (by simp))
   have SZ2 := Lib.hid (show p2 < v2.heap.size by have := SZ1.out; have := hf.size; omega)
   refine ⟨hbl, ?_⟩
   have B2 := Lib.hid (B1.out.trans hbl)
   clear hh hf hs hrow hb2 hbl
   refine anyH_step (T := Below p) (fun _ _ _ => Below.trans) [8] (by kernel_rfl) (by simp) (fun ix hmi => ?_)
   simp only [List.mem_cons, List.not_mem_nil, or_false] at hmi
   subst hmi
   simp only [List.getElem?_toArray, List.getElem?_cons_succ, List.getElem?_cons_zero, Option.getD_some]
   have f0 := free_of_heap P2.out 0
   have c0 := P2.out.cell
   go_wp2_with fail
   obtain ⟨v3, hw⟩ : ∃ k, k = v2.setCell ⟨p, 0, none⟩ (.slice (some ⟨b, 0, none⟩) N N) := ⟨_, rfl⟩
   have hf := Fr.set0 v2 p 0 (.slice (some ⟨b, 0, none⟩) N N)
   have hnx : boxAt (v2.setCell ⟨p, 0, none⟩ (.slice (some ⟨b, 0, none⟩) N N)) p 50 (.slice (some ⟨b, 0, none⟩) N N) := heap_setCell_same P2.out _
   rw [← hw] at hf hnx ⊢
   have hbl : Below p v2 v3 := hf.below (by have := SZ2.out; omega) (by simp <;> omega)
   have P3 := Lib.hid hnx
   have Q3 := Lib.hid (Q2.out.kept hf (by simp <;> omega))
   replace Rb := Lib.hid (Rb.out.kept hf (by have := Gb.out; simp <;> omega))
   replace Rb2 := Lib.hid (Rb2.out.kept hf (by have := Gb2.out; simp <;> omega))
   have SZ3 := Lib.hid (show p2 < v3.heap.size by have := SZ2.out; have := hf.size; omega)
   refine ⟨hbl, ?_⟩
   have B3 := Lib.hid (B2.out.trans hbl)
   clear f0 c0 hw hf hnx hbl
   refine anyH_step (T := Below p) (fun _ _ _ => Below.trans) [9] (by kernel_rfl) (by simp) (fun ix hmi => ?_)
   simp only [List.mem_cons, List.not_mem_nil, or_false] at hmi
   subst hmi
   simp only [List.getElem?_toArray, List.getElem?_cons_succ, List.getElem?_cons_zero, Option.getD_some]
   have f0 := free_of_heap Q3.out 0
   have c0 := Q3.out.cell
   go_wp2_with fail
   obtain ⟨v4, hw⟩ : ∃ k, k = v3.setCell ⟨p2, 0, none⟩ (.slice (some ⟨b2, 0, none⟩) n2 n2) := ⟨_, rfl⟩
   have hf := Fr.set0 v3 p2 0 (.slice (some ⟨b2, 0, none⟩) n2 n2)
   have hnx : boxAt (v3.setCell ⟨p2, 0, none⟩ (.slice (some ⟨b2, 0, none⟩) n2 n2)) p2 50 (.slice (some ⟨b2, 0, none⟩) n2 n2) := heap_setCell_same Q3.out _
   rw [← hw] at hf hnx ⊢
   have hbl : Below p v3 v4 := hf.below (by have := SZ3.out; omega) (by simp <;> omega)
   have Q4 := Lib.hid hnx
   have P4 := Lib.hid (P3.out.kept hf (by simp <;> omega))
   replace Rb := Lib.hid (Rb.out.kept hf (by have := Gb.out; simp <;> omega))
   replace Rb2 := Lib.hid (Rb2.out.kept hf (by have := Gb2.out; simp <;> omega))
   have SZ4 := Lib.hid (show p2 < v4.heap.size by have := SZ3.out; have := hf.size; omega)
   refine ⟨hbl, wpAnyH_done (by kernel_rfl) ?_ _⟩
   have B4 := Lib.hid (B3.out.trans hbl)
   clear f0 c0 hw hf hnx hbl
   have FR4 := Lib.hid (show Fr [] w v4 from ⟨B4.out.os.trans FD.out.os, B4.out.tape.trans FD.out.tape, B4.out.output.trans FD.out.output, Nat.le_trans FD.out.size B4.out.size, fun k hk _ => (B4.out.block k (by have := HGE.out; omega)).trans (FD.out.block k hk (by simp))⟩)
   have GQ4 := Lib.hid (LQ.out v4 B4.out)
   have f0 := Rb.out.free 0
   have c0 := P4.out.cell
   have c01 := Rb.out.cell (i := 0) (by rw [List.length_replicate]; omega)
   clear B0 B1 B2 B3 B4 LQ FD SZ0 SZ1 SZ2 SZ3 P0 P1 P2 P3 Q0 Q1 Q2 Q3
   go_upto_region 3 with fail
   obtain ⟨v5, hv5⟩ : ∃ v5, v5 = v4.setCell ⟨b, 0, none⟩ (.bool true) := ⟨_, rfl⟩
   have hf5 := Fr.set0 v4 b 0 (.bool true)
   have hr5 := Rb.out.set 0 true
   rw [← hv5] at hf5 hr5 ⊢
   have HGB := Lib.hid (show w.heap.size ≤ b by have := Gb.out; have := HGE.out; omega)
   have HGB2 := Lib.hid (show w.heap.size ≤ b2 by have := Gb2.out; have := HGE.out; omega)
   have hr52 := Rb2.out.kept hf5 (by have := NE.out; simp; omega)
   have hp5 := P4.out.kept hf5 (by have := Gb.out; simp; omega)
   have hq5 := Q4.out.kept hf5 (by have := Gb.out; simp; omega)
   have hgq := hf5.heap GQ4.out (by have := Gb.out; simp; omega)
   have hfr := FR4.out.trans hf5 (by simp) (n := []) (fun i hi hlt => by have := HGB.out; simp at hi; omega)
   have hz5 : b < v5.heap.size ∧ b2 < v5.heap.size := ⟨(Array.getElem?_eq_some_iff.1 hr5).1, (Array.getElem?_eq_some_iff.1 hr52).1⟩
   have hL : ∀ k ∈ [b, b2], w.heap.size ≤ k ∧ k < v5.heap.size := fun k hk => (by simpa using hk : k = b ∨ k = b2).elim (fun e => e ▸ ⟨HGB.out, hz5.1⟩) (fun e => e ▸ ⟨HGB2.out, hz5.2⟩)
   have hpr := pprop_r p p2 stepR (StR p p2 b b2 g.names.length g.terms.length) g _ [b, b2] ((List.replicate g.names.length false).set 0 true, List.replicate g.terms.length false) w v5 HG.out hfr hL (ht_r HV.out NE.out)
    (fun wx wy s h hf => ⟨h.1.kept hf (by simp), h.2.1.kept hf (by simp), h.2.2.1.below hf, h.2.2.2.1.below hf, h.2.2.2.2⟩) ⟨by rw [← HN.out]; exact hp5, by rw [← HN2.out]; exact hq5, by rw [← HN.out]; exact hr5, by rw [← HN2.out]; exact hr52, by simp, by simp⟩
   unfold TK_r at hpr
   rw [← HN.out, ← HN2.out, ← HN3.out] at hpr
   have HPR := Lib.hid hpr
   have HF5 := Lib.hid hfr
   obtain ⟨y0, y1, y2, -⟩ := three_of_heap hgq
   clear hpr hL hfr hz5 hgq hq5 hp5 hr52 hr5 hf5 hv5 f0 c0 c01
   go_wp2_with (go_at_call 92; refine HPR.out.mono ?_; rintro e v6 ⟨rfl, ⟨hp6, hq6, hr6, hs6, hl6, ht6⟩, hf6⟩; have z0 := hp6.cell; have z1 := hq6.cell; have z2 := free_of_heap hp6 0; have z3 := free_of_heap hq6 0)
   refine wp_region_T (KeepB p p2 (.slice (some ⟨b, 0, none⟩) N N) (.slice (some ⟨b2, 0, none⟩) n2 n2)) (fun _ => KeepB.refl _ _ _ _ _) (fun _ _ _ => KeepB.trans) [(0, false), (1, false), (2, true), (3, true)] 19 rfl (by kernel_rfl) (by kernel_rfl) (by kernel_rfl) (fun c a d v w h => by cases d <;> exact h) ?_
   simp only [List.map_cons, List.map_nil, List.getElem?_toArray, List.getElem?_cons_succ, List.getElem?_cons_zero, Option.getD_some]
   have HP6 := Lib.hid (hp6.kept (Fr.drew v6) (by simp))
   have HQ6 := Lib.hid (hq6.kept (Fr.drew v6) (by simp))
   have HF6 := Lib.hid hf6.andDrew
   have HR6 := Lib.hid (hr6.below (Fr.drew v6))
   have HS6 := Lib.hid (hs6.below (Fr.drew v6))
   have HL6 := Lib.hid hl6
   have HT6 := Lib.hid ht6
   obtain ⟨v7, hv7⟩ : ∃ v7, v7 = v6.drew := ⟨_, rfl⟩
   rw [← hv7] at HP6 HQ6 HF6 HR6 HS6 ⊢
   clear hp6 hq6 hf6 hr6 hs6 hl6 ht6 z0 z1 z2 z3 hv7
   repeat (apply wpT_t; · (intro w' hf'; have z0 := (hf'.1 HP6.out).cell; have z1 := (hf'.2 HQ6.out).cell; go_wp2_with fail; exact ⟨rfl, rfl⟩))
   refine wpT_x ?_
   have z0 := HP6.out.cell
   have z2 := free_of_heap HP6.out 0
   go_wp2_with fail
   have hset := Fr.set0 v7 p 0 (.slice (some ⟨b, 0, none⟩) N N)
   have hp7 : boxAt (v7.setCell ⟨p, 0, none⟩ (.slice (some ⟨b, 0, none⟩) N N)) p 50 (.slice (some ⟨b, 0, none⟩) N N) := heap_setCell_same HP6.out _
   have hq7 := HQ6.out.kept hset (by simp; omega)
   have hr7 := HR6.out.kept hset (by have := Gb.out; simp; omega)
   have hs7 := HS6.out.kept hset (by have := Gb2.out; simp; omega)
   obtain ⟨v8, hv8⟩ : ∃ v8, v8 = v7.setCell ⟨p, 0, none⟩ (.slice (some ⟨b, 0, none⟩) N N) := ⟨_, rfl⟩
   rw [← hv8] at hset hp7 hq7 hr7 hs7 ⊢
   refine ⟨⟨fun _ => hp7, fun h => h.kept hset (by simp; omega)⟩, rfl, ?_⟩
   clear z0 z2 hv8
   refine wpT_x ?_
   have z1 := hq7.cell
   have z3 := free_of_heap hq7 0
   go_wp2_with fail
   have hset2 := Fr.set0 v8 p2 0 (.slice (some ⟨b2, 0, none⟩) n2 n2)
   have hq8 : boxAt (v8.setCell ⟨p2, 0, none⟩ (.slice (some ⟨b2, 0, none⟩) n2 n2)) p2 50 (.slice (some ⟨b2, 0, none⟩) n2 n2) := heap_setCell_same hq7 _
   have hp8 := hp7.kept hset2 (by simp; omega)
   have hr8 := hr7.kept hset2 (by have := Gb.out; simp; omega)
   have hs8 := hs7.kept hset2 (by have := Gb2.out; simp; omega)
   obtain ⟨v9, hv9⟩ : ∃ v9, v9 = v8.setCell ⟨p2, 0, none⟩ (.slice (some ⟨b2, 0, none⟩) n2 n2) := ⟨_, rfl⟩
   rw [← hv9] at hset2 hp8 hq8 hr8 hs8 ⊢
   refine ⟨⟨fun h => h.kept hset2 (by simp; omega), fun _ => hq8⟩, rfl, ?_⟩
   clear z1 z3 hv9
   refine wpT_end ?_
   go_wp2_with fail
   refine bodyPost_ret (results_cells2 rfl _ _ ⟨p, 0, none⟩ ⟨p2, 0, none⟩ _ _ rfl rfl hp8.cell hq8.cell Tryz.underlying50 rfl) rfl ?_
   have hff := ((HF5.out.trans HF6.out (by simp) (n := []) (fun i hi hlt => by have h1 := HGB.out; have h2 := HGB2.out; simp at hi; omega)).trans hset (by simp) (n := []) (fun i hi hlt => by have h1 := HGE.out; simp at hi; omega)).trans hset2 (by simp) (n := []) (fun i hi hlt => by have h1 := HGE.out; simp at hi; omega)
   unfold reachedP
   rw [HN.out, HN2.out] at HR6 HS6 HL6 HT6 hr8 hs8 ⊢
   exact ⟨b, b2, HGB.out, HGB2.out, rfl, hr8, hs8, HL6.out, HT6.out, hff⟩
  ·skip
   simp only [List.getElem?_toArray, List.getElem?_cons_succ, List.getElem?_cons_zero, Option.getD_some]
   have f0 := free_of_heap P1.out 0
   have c0 := P1.out.cell
   go_wp2_with fail
   obtain ⟨v2, hw⟩ : ∃ k, k = v1.setCell ⟨p, 0, none⟩ (.slice (some ⟨b, 0, none⟩) N N) := ⟨_, rfl⟩
   have hf := Fr.set0 v1 p 0 (.slice (some ⟨b, 0, none⟩) N N)
   have hnx : boxAt (v1.setCell ⟨p, 0, none⟩ (.slice (some ⟨b, 0, none⟩) N N)) p 50 (.slice (some ⟨b, 0, none⟩) N N) := heap_setCell_same P1.out _
   rw [← hw] at hf hnx ⊢
   have hbl : Below p v1 v2 := hf.below (by have := SZ1.out; omega) (by simp <;> omega)
   have P2 := Lib.hid hnx
   have Q2 := Lib.hid (Q1.out.kept hf (by simp <;> omega))
   replace Rb := Lib.hid (Rb.out.kept hf (by have := Gb.out; simp <;> omega))
   have SZ2 := Lib.hid (show p2 < v2.heap.size by have := SZ1.out; have := hf.size; omega)
   refine ⟨hbl, ?_⟩
   have B2 := Lib.hid (B1.out.trans hbl)
   clear f0 c0 hw hf hnx hbl
   refine anyH_step (T := Below p) (fun _ _ _ => Below.trans) [7] (by kernel_rfl) (by simp) (fun ix hmi => ?_)
   simp only [List.mem_cons, List.not_mem_nil, or_false] at hmi
   subst hmi
   simp only [List.getElem?_toArray, List.getElem?_cons_succ, List.getElem?_cons_zero, Option.getD_some]
   go_wp2_with (refine wpL_make rfl _ _ 50 rfl 4 iB (.bool false) 1 Tryz.underlying50 hiB hz0 hz1 hz2 rfl n2 rfl rfl (by omega) (by simp [maxLen]; omega) ?_; intro v3 hh hf hs)
   obtain ⟨b2, hb2⟩ : ∃ k, k = v2.heap.size := ⟨_, rfl⟩
   rw [← hb2]
   have hrow : boolRow v3 b2 (List.replicate n2 false) := by unfold boolRow; rw [hb2, List.map_replicate]; exact hh.out
   have hbl : Below p v2 v3 := hf.below (by have := SZ2.out; omega) (by simp)
   have Rb2 := Lib.hid hrow
   have Gb2 := Lib.hid (show p2 < b2 by have := SZ2.out; omega)
   have NE := Lib.hid (show b ≠ b2 from fun e => by have := (Array.getElem?_eq_some_iff.1 Rb.out).1; omega)
   replace Rb := Lib.hid (Rb.out.below hf)
   have P3 := Lib.hid (P2.out.kept hf (by simp))
   have Q3 := Lib.hid (Q2.out.kept hf (by simp))
   have SZ3 := Lib.hid (show p2 < v3.heap.size by have := SZ2.out; have := hf.size; omega)
   refine ⟨hbl, ?_⟩
   have B3 := Lib.hid (B2.out.trans hbl)
   clear hh hf hs hrow hb2 hbl
   refine anyH_step (T := Below p) (fun _ _ _ => Below.trans) [9] (by kernel_rfl) (by simp) (fun ix hmi => ?_)
   simp only [List.mem_cons, List.not_mem_nil, or_false] at hmi
   subst hmi
   simp only [List.getElem?_toArray, List.getElem?_cons_succ, List.getElem?_cons_zero, Option.getD_some]
   have f0 := free_of_heap Q3.out 0
   have c0 := Q3.out.cell
   go_wp2_with fail
   obtain ⟨v4, hw⟩ : ∃ k, k = v3.setCell ⟨p2, 0, none⟩ (.slice (some ⟨b2, 0, none⟩) n2 n2) := ⟨_, rfl⟩
   have hf := Fr.set0 v3 p2 0 (.slice (some ⟨b2, 0, none⟩) n2 n2)
   have hnx : boxAt (v3.setCell ⟨p2, 0, none⟩ (.slice (some ⟨b2, 0, none⟩) n2 n2)) p2 50 (.slice (some ⟨b2, 0, none⟩) n2 n2) := heap_setCell_same Q3.out _
   rw [← hw] at hf hnx ⊢
   have hbl : Below p v3 v4 := hf.below (by have := SZ3.out; omega) (by simp <;> omega)
   have Q4 := Lib.hid hnx
   have P4 := Lib.hid (P3.out.kept hf (by simp <;> omega))
   replace Rb := Lib.hid (Rb.out.kept hf (by have := Gb.out; simp <;> omega))
   replace Rb2 := Lib.hid (Rb2.out.kept hf (by have := Gb2.out; simp <;> omega))
   have SZ4 := Lib.hid (show p2 < v4.heap.size by have := SZ3.out; have := hf.size; omega)
   refine ⟨hbl, wpAnyH_done (by kernel_rfl) ?_ _⟩
   have B4 := Lib.hid (B3.out.trans hbl)
   clear f0 c0 hw hf hnx hbl
   have FR4 := Lib.hid (show Fr [] w v4 from ⟨B4.out.os.trans FD.out.os, B4.out.tape.trans FD.out.tape, B4.out.output.trans FD.out.output, Nat.le_trans FD.out.size B4.out.size, fun k hk _ => (B4.out.block k (by have := HGE.out; omega)).trans (FD.out.block k hk (by simp))⟩)
   have GQ4 := Lib.hid (LQ.out v4 B4.out)
   have f0 := Rb.out.free 0
   have c0 := P4.out.cell
   have c01 := Rb.out.cell (i := 0) (by rw [List.length_replicate]; omega)
   clear B0 B1 B2 B3 B4 LQ FD SZ0 SZ1 SZ2 SZ3 P0 P1 P2 P3 Q0 Q1 Q2 Q3
   go_upto_region 3 with fail
   obtain ⟨v5, hv5⟩ : ∃ v5, v5 = v4.setCell ⟨b, 0, none⟩ (.bool true) := ⟨_, rfl⟩
   have hf5 := Fr.set0 v4 b 0 (.bool true)
   have hr5 := Rb.out.set 0 true
   rw [← hv5] at hf5 hr5 ⊢
   have HGB := Lib.hid (show w.heap.size ≤ b by have := Gb.out; have := HGE.out; omega)
   have HGB2 := Lib.hid (show w.heap.size ≤ b2 by have := Gb2.out; have := HGE.out; omega)
   have hr52 := Rb2.out.kept hf5 (by have := NE.out; simp; omega)
   have hp5 := P4.out.kept hf5 (by have := Gb.out; simp; omega)
   have hq5 := Q4.out.kept hf5 (by have := Gb.out; simp; omega)
   have hgq := hf5.heap GQ4.out (by have := Gb.out; simp; omega)
   have hfr := FR4.out.trans hf5 (by simp) (n := []) (fun i hi hlt => by have := HGB.out; simp at hi; omega)
   have hz5 : b < v5.heap.size ∧ b2 < v5.heap.size := ⟨(Array.getElem?_eq_some_iff.1 hr5).1, (Array.getElem?_eq_some_iff.1 hr52).1⟩
   have hL : ∀ k ∈ [b, b2], w.heap.size ≤ k ∧ k < v5.heap.size := fun k hk => (by simpa using hk : k = b ∨ k = b2).elim (fun e => e ▸ ⟨HGB.out, hz5.1⟩) (fun e => e ▸ ⟨HGB2.out, hz5.2⟩)
   have hpr := pprop_r p p2 stepR (StR p p2 b b2 g.names.length g.terms.length) g _ [b, b2] ((List.replicate g.names.length false).set 0 true, List.replicate g.terms.length false) w v5 HG.out hfr hL (ht_r HV.out NE.out)
    (fun wx wy s h hf => ⟨h.1.kept hf (by simp), h.2.1.kept hf (by simp), h.2.2.1.below hf, h.2.2.2.1.below hf, h.2.2.2.2⟩) ⟨by rw [← HN.out]; exact hp5, by rw [← HN2.out]; exact hq5, by rw [← HN.out]; exact hr5, by rw [← HN2.out]; exact hr52, by simp, by simp⟩
   unfold TK_r at hpr
   rw [← HN.out, ← HN2.out, ← HN3.out] at hpr
   have HPR := Lib.hid hpr
   have HF5 := Lib.hid hfr
   obtain ⟨y0, y1, y2, -⟩ := three_of_heap hgq
   clear hpr hL hfr hz5 hgq hq5 hp5 hr52 hr5 hf5 hv5 f0 c0 c01
   go_wp2_with (go_at_call 92; refine HPR.out.mono ?_; rintro e v6 ⟨rfl, ⟨hp6, hq6, hr6, hs6, hl6, ht6⟩, hf6⟩; have z0 := hp6.cell; have z1 := hq6.cell; have z2 := free_of_heap hp6 0; have z3 := free_of_heap hq6 0)
   refine wp_region_T (KeepB p p2 (.slice (some ⟨b, 0, none⟩) N N) (.slice (some ⟨b2, 0, none⟩) n2 n2)) (fun _ => KeepB.refl _ _ _ _ _) (fun _ _ _ => KeepB.trans) [(0, false), (1, false), (2, true), (3, true)] 19 rfl (by kernel_rfl) (by kernel_rfl) (by kernel_rfl) (fun c a d v w h => by cases d <;> exact h) ?_
   simp only [List.map_cons, List.map_nil, List.getElem?_toArray, List.getElem?_cons_succ, List.getElem?_cons_zero, Option.getD_some]
   have HP6 := Lib.hid (hp6.kept (Fr.drew v6) (by simp))
   have HQ6 := Lib.hid (hq6.kept (Fr.drew v6) (by simp))
   have HF6 := Lib.hid hf6.andDrew
   have HR6 := Lib.hid (hr6.below (Fr.drew v6))
   have HS6 := Lib.hid (hs6.below (Fr.drew v6))
   have HL6 := Lib.hid hl6
   have HT6 := Lib.hid ht6
   obtain ⟨v7, hv7⟩ : ∃ v7, v7 = v6.drew := ⟨_, rfl⟩
   rw [← hv7] at HP6 HQ6 HF6 HR6 HS6 ⊢
   clear hp6 hq6 hf6 hr6 hs6 hl6 ht6 z0 z1 z2 z3 hv7
   repeat (apply wpT_t; · (intro w' hf'; have z0 := (hf'.1 HP6.out).cell; have z1 := (hf'.2 HQ6.out).cell; go_wp2_with fail; exact ⟨rfl, rfl⟩))
   refine wpT_x ?_
   have z0 := HP6.out.cell
   have z2 := free_of_heap HP6.out 0
   go_wp2_with fail
   have hset := Fr.set0 v7 p 0 (.slice (some ⟨b, 0, none⟩) N N)
   have hp7 : boxAt (v7.setCell ⟨p, 0, none⟩ (.slice (some ⟨b, 0, none⟩) N N)) p 50 (.slice (some ⟨b, 0, none⟩) N N) := heap_setCell_same HP6.out _
   have hq7 := HQ6.out.kept hset (by simp; omega)
   have hr7 := HR6.out.kept hset (by have := Gb.out; simp; omega)
   have hs7 := HS6.out.kept hset (by have := Gb2.out; simp; omega)
   obtain ⟨v8, hv8⟩ : ∃ v8, v8 = v7.setCell ⟨p, 0, none⟩ (.slice (some ⟨b, 0, none⟩) N N) := ⟨_, rfl⟩
   rw [← hv8] at hset hp7 hq7 hr7 hs7 ⊢
   refine ⟨⟨fun _ => hp7, fun h => h.kept hset (by simp; omega)⟩, rfl, ?_⟩
   clear z0 z2 hv8
   refine wpT_x ?_
   have z1 := hq7.cell
   have z3 := free_of_heap hq7 0
   go_wp2_with fail
   have hset2 := Fr.set0 v8 p2 0 (.slice (some ⟨b2, 0, none⟩) n2 n2)
   have hq8 : boxAt (v8.setCell ⟨p2, 0, none⟩ (.slice (some ⟨b2, 0, none⟩) n2 n2)) p2 50 (.slice (some ⟨b2, 0, none⟩) n2 n2) := heap_setCell_same hq7 _
   have hp8 := hp7.kept hset2 (by simp; omega)
   have hr8 := hr7.kept hset2 (by have := Gb.out; simp; omega)
   have hs8 := hs7.kept hset2 (by have := Gb2.out; simp; omega)
   obtain ⟨v9, hv9⟩ : ∃ v9, v9 = v8.setCell ⟨p2, 0, none⟩ (.slice (some ⟨b2, 0, none⟩) n2 n2) := ⟨_, rfl⟩
   rw [← hv9] at hset2 hp8 hq8 hr8 hs8 ⊢
   refine ⟨⟨fun h => h.kept hset2 (by simp; omega), fun _ => hq8⟩, rfl, ?_⟩
   clear z1 z3 hv9
   refine wpT_end ?_
   go_wp2_with fail
   refine bodyPost_ret (results_cells2 rfl _ _ ⟨p, 0, none⟩ ⟨p2, 0, none⟩ _ _ rfl rfl hp8.cell hq8.cell Tryz.underlying50 rfl) rfl ?_
   have hff := ((HF5.out.trans HF6.out (by simp) (n := []) (fun i hi hlt => by have h1 := HGB.out; have h2 := HGB2.out; simp at hi; omega)).trans hset (by simp) (n := []) (fun i hi hlt => by have h1 := HGE.out; simp at hi; omega)).trans hset2 (by simp) (n := []) (fun i hi hlt => by have h1 := HGE.out; simp at hi; omega)
   unfold reachedP
   rw [HN.out, HN2.out] at HR6 HS6 HL6 HT6 hr8 hs8 ⊢
   exact ⟨b, b2, HGB.out, HGB2.out, rfl, hr8, hs8, HL6.out, HT6.out, hff⟩
 ·skip
  simp only [List.getElem?_toArray, List.getElem?_cons_succ, List.getElem?_cons_zero, Option.getD_some]
  go_wp2_with (refine wpL_make rfl _ _ 50 rfl 4 iB (.bool false) 1 Tryz.underlying50 hiB hz0 hz1 hz2 rfl n2 rfl rfl (by omega) (by simp [maxLen]; omega) ?_; intro v1 hh hf hs)
  obtain ⟨b2, hb2⟩ : ∃ k, k = v0.heap.size := ⟨_, rfl⟩
  rw [← hb2]
  have hrow : boolRow v1 b2 (List.replicate n2 false) := by unfold boolRow; rw [hb2, List.map_replicate]; exact hh.out
  have hbl : Below p v0 v1 := hf.below (by have := SZ0.out; omega) (by simp)
  have Rb2 := Lib.hid hrow
  have Gb2 := Lib.hid (show p2 < b2 by have := SZ0.out; omega)
  have P1 := Lib.hid (P0.out.kept hf (by simp))
  have Q1 := Lib.hid (Q0.out.kept hf (by simp))
  have SZ1 := Lib.hid (show p2 < v1.heap.size by have := SZ0.out; have := hf.size; omega)
  refine ⟨hbl, ?_⟩
  have B1 := Lib.hid (B0.out.trans hbl)
  clear hh hf hs hrow hb2 hbl
  refine anyH_step (T := Below p) (fun _ _ _ => Below.trans) [3] (by kernel_rfl) (by simp) (fun ix hmi => ?_)
  simp only [List.mem_cons, List.not_mem_nil, or_false] at hmi
  subst hmi
  simp only [List.getElem?_toArray, List.getElem?_cons_succ, List.getElem?_cons_zero, Option.getD_some]
  go_wp2_with (refine wpL_make rfl _ _ 50 rfl 4 iB (.bool false) 1 Tryz.underlying50 hiB hz0 hz1 hz2 rfl N rfl rfl (by omega) (by simp [maxLen]; omega) ?_; intro v2 hh hf hs)
  obtain ⟨b, hb⟩ : ∃ k, k = v1.heap.size := ⟨_, rfl⟩
  rw [← hb]
  have hrow : boolRow v2 b (List.replicate N false) := by unfold boolRow; rw [hb, List.map_replicate]; exact hh.out
  have hbl : Below p v1 v2 := hf.below (by have := SZ1.out; omega) (by simp)
  have Rb := Lib.hid hrow
  have Gb := Lib.hid (show p2 < b by have := SZ1.out; omega)
  have NE := Lib.hid (show b ≠ b2 from fun e => by have := (Array.getElem?_eq_some_iff.1 Rb2.out).1; omega)
  replace Rb2 := Lib.hid (Rb2.out.below hf)
  have P2 := Lib.hid (P1.out.kept hf (by simp))
  have Q2 := Lib.hid (Q1.out.kept hf (by simp))
  have SZ2 := Lib.hid (show p2 < v2.heap.size by have := SZ1.out; have := hf.size; omega)
  refine ⟨hbl, ?_⟩
  have B2 := Lib.hid (B1.out.trans hbl)
  clear hh hf hs hrow hb hbl
  refine anyH_step (T := Below p) (fun _ _ _ => Below.trans) [8] (by kernel_rfl) (by simp) (fun ix hmi => ?_)
  simp only [List.mem_cons, List.not_mem_nil, or_false] at hmi
  subst hmi
  simp only [List.getElem?_toArray, List.getElem?_cons_succ, List.getElem?_cons_zero, Option.getD_some]
  have f0 := free_of_heap P2.out 0
  have c0 := P2.out.cell
  go_wp2_with fail
  obtain ⟨v3, hw⟩ : ∃ k, k = v2.setCell ⟨p, 0, none⟩ (.slice (some ⟨b, 0, none⟩) N N) := ⟨_, rfl⟩
  have hf := Fr.set0 v2 p 0 (.slice (some ⟨b, 0, none⟩) N N)
  have hnx : boxAt (v2.setCell ⟨p, 0, none⟩ (.slice (some ⟨b, 0, none⟩) N N)) p 50 (.slice (some ⟨b, 0, none⟩) N N) := heap_setCell_same P2.out _
  rw [← hw] at hf hnx ⊢
  have hbl : Below p v2 v3 := hf.below (by have := SZ2.out; omega) (by simp <;> omega)
  have P3 := Lib.hid hnx
  have Q3 := Lib.hid (Q2.out.kept hf (by simp <;> omega))
  replace Rb := Lib.hid (Rb.out.kept hf (by have := Gb.out; simp <;> omega))
  replace Rb2 := Lib.hid (Rb2.out.kept hf (by have := Gb2.out; simp <;> omega))
  have SZ3 := Lib.hid (show p2 < v3.heap.size by have := SZ2.out; have := hf.size; omega)
  refine ⟨hbl, ?_⟩
  have B3 := Lib.hid (B2.out.trans hbl)
  clear f0 c0 hw hf hnx hbl
  refine anyH_step (T := Below p) (fun _ _ _ => Below.trans) [9] (by kernel_rfl) (by simp) (fun ix hmi => ?_)
  simp only [List.mem_cons, List.not_mem_nil, or_false] at hmi
  subst hmi
  simp only [List.getElem?_toArray, List.getElem?_cons_succ, List.getElem?_cons_zero, Option.getD_some]
  have f0 := free_of_heap Q3.out 0
  have c0 := Q3.out.cell
  go_wp2_with fail
  obtain ⟨v4, hw⟩ : ∃ k, k = v3.setCell ⟨p2, 0, none⟩ (.slice (some ⟨b2, 0, none⟩) n2 n2) := ⟨_, rfl⟩
  have hf := Fr.set0 v3 p2 0 (.slice (some ⟨b2, 0, none⟩) n2 n2)
  have hnx : boxAt (v3.setCell ⟨p2, 0, none⟩ (.slice (some ⟨b2, 0, none⟩) n2 n2)) p2 50 (.slice (some ⟨b2, 0, none⟩) n2 n2) := heap_setCell_same Q3.out _
  rw [← hw] at hf hnx ⊢
  have hbl : Below p v3 v4 := hf.below (by have := SZ3.out; omega) (by simp <;> omega)
  have Q4 := Lib.hid hnx
  have P4 := Lib.hid (P3.out.kept hf (by simp <;> omega))
  replace Rb := Lib.hid (Rb.out.kept hf (by have := Gb.out; simp <;> omega))
  replace Rb2 := Lib.hid (Rb2.out.kept hf (by have := Gb2.out; simp <;> omega))
  have SZ4 := Lib.hid (show p2 < v4.heap.size by have := SZ3.out; have := hf.size; omega)
  refine ⟨hbl, wpAnyH_done (by kernel_rfl) ?_ _⟩
  have B4 := Lib.hid (B3.out.trans hbl)
  clear f0 c0 hw hf hnx hbl
  have FR4 := Lib.hid (show Fr [] w v4 from ⟨B4.out.os.trans FD.out.os, B4.out.tape.trans FD.out.tape, B4.out.output.trans FD.out.output, Nat.le_trans FD.out.size B4.out.size, fun k hk _ => (B4.out.block k (by have := HGE.out; omega)).trans (FD.out.block k hk (by simp))⟩)
  have GQ4 := Lib.hid (LQ.out v4 B4.out)
  have f0 := Rb.out.free 0
  have c0 := P4.out.cell
  have c01 := Rb.out.cell (i := 0) (by rw [List.length_replicate]; omega)
  clear B0 B1 B2 B3 B4 LQ FD SZ0 SZ1 SZ2 SZ3 P0 P1 P2 P3 Q0 Q1 Q2 Q3
  go_upto_region 3 with fail
  obtain ⟨v5, hv5⟩ : ∃ v5, v5 = v4.setCell ⟨b, 0, none⟩ (.bool true) := ⟨_, rfl⟩
  have hf5 := Fr.set0 v4 b 0 (.bool true)
  have hr5 := Rb.out.set 0 true
  rw [← hv5] at hf5 hr5 ⊢
  have HGB := Lib.hid (show w.heap.size ≤ b by have := Gb.out; have := HGE.out; omega)
  have HGB2 := Lib.hid (show w.heap.size ≤ b2 by have := Gb2.out; have := HGE.out; omega)
  have hr52 := Rb2.out.kept hf5 (by have := NE.out; simp; omega)
  have hp5 := P4.out.kept hf5 (by have := Gb.out; simp; omega)
  have hq5 := Q4.out.kept hf5 (by have := Gb.out; simp; omega)
  have hgq := hf5.heap GQ4.out (by have := Gb.out; simp; omega)
  have hfr := FR4.out.trans hf5 (by simp) (n := []) (fun i hi hlt => by have := HGB.out; simp at hi; omega)
  have hz5 : b < v5.heap.size ∧ b2 < v5.heap.size := ⟨(Array.getElem?_eq_some_iff.1 hr5).1, (Array.getElem?_eq_some_iff.1 hr52).1⟩
  have hL : ∀ k ∈ [b, b2], w.heap.size ≤ k ∧ k < v5.heap.size := fun k hk => (by simpa using hk : k = b ∨ k = b2).elim (fun e => e ▸ ⟨HGB.out, hz5.1⟩) (fun e => e ▸ ⟨HGB2.out, hz5.2⟩)
  have hpr := pprop_r p p2 stepR (StR p p2 b b2 g.names.length g.terms.length) g _ [b, b2] ((List.replicate g.names.length false).set 0 true, List.replicate g.terms.length false) w v5 HG.out hfr hL (ht_r HV.out NE.out)
   (fun wx wy s h hf => ⟨h.1.kept hf (by simp), h.2.1.kept hf (by simp), h.2.2.1.below hf, h.2.2.2.1.below hf, h.2.2.2.2⟩) ⟨by rw [← HN.out]; exact hp5, by rw [← HN2.out]; exact hq5, by rw [← HN.out]; exact hr5, by rw [← HN2.out]; exact hr52, by simp, by simp⟩
  unfold TK_r at hpr
  rw [← HN.out, ← HN2.out, ← HN3.out] at hpr
  have HPR := Lib.hid hpr
  have HF5 := Lib.hid hfr
  obtain ⟨y0, y1, y2, -⟩ := three_of_heap hgq
  clear hpr hL hfr hz5 hgq hq5 hp5 hr52 hr5 hf5 hv5 f0 c0 c01
  go_wp2_with (go_at_call 92; refine HPR.out.mono ?_; rintro e v6 ⟨rfl, ⟨hp6, hq6, hr6, hs6, hl6, ht6⟩, hf6⟩; have z0 := hp6.cell; have z1 := hq6.cell; have z2 := free_of_heap hp6 0; have z3 := free_of_heap hq6 0)
  refine wp_region_T (KeepB p p2 (.slice (some ⟨b, 0, none⟩) N N) (.slice (some ⟨b2, 0, none⟩) n2 n2)) (fun _ => KeepB.refl _ _ _ _ _) (fun _ _ _ => KeepB.trans) [(0, false), (1, false), (2, true), (3, true)] 19 rfl (by kernel_rfl) (by kernel_rfl) (by kernel_rfl) (fun c a d v w h => by cases d <;> exact h) ?_
  simp only [List.map_cons, List.map_nil, List.getElem?_toArray, List.getElem?_cons_succ, List.getElem?_cons_zero, Option.getD_some]
  have HP6 := Lib.hid (hp6.kept (Fr.drew v6) (by simp))
  have HQ6 := Lib.hid (hq6.kept (Fr.drew v6) (by simp))
  have HF6 := Lib.hid hf6.andDrew
  have HR6 := Lib.hid (hr6.below (Fr.drew v6))
  have HS6 := Lib.hid (hs6.below (Fr.drew v6))
  have HL6 := Lib.hid hl6
  have HT6 := Lib.hid ht6
  obtain ⟨v7, hv7⟩ : ∃ v7, v7 = v6.drew := ⟨_, rfl⟩
  rw [← hv7] at HP6 HQ6 HF6 HR6 HS6 ⊢
  clear hp6 hq6 hf6 hr6 hs6 hl6 ht6 z0 z1 z2 z3 hv7
  repeat (apply wpT_t; · (intro w' hf'; have z0 := (hf'.1 HP6.out).cell; have z1 := (hf'.2 HQ6.out).cell; go_wp2_with fail; exact ⟨rfl, rfl⟩))
  refine wpT_x ?_
  have z0 := HP6.out.cell
  have z2 := free_of_heap HP6.out 0
  go_wp2_with fail
  have hset := Fr.set0 v7 p 0 (.slice (some ⟨b, 0, none⟩) N N)
  have hp7 : boxAt (v7.setCell ⟨p, 0, none⟩ (.slice (some ⟨b, 0, none⟩) N N)) p 50 (.slice (some ⟨b, 0, none⟩) N N) := heap_setCell_same HP6.out _
  have hq7 := HQ6.out.kept hset (by simp; omega)
  have hr7 := HR6.out.kept hset (by have := Gb.out; simp; omega)
  have hs7 := HS6.out.kept hset (by have := Gb2.out; simp; omega)
  obtain ⟨v8, hv8⟩ : ∃ v8, v8 = v7.setCell ⟨p, 0, none⟩ (.slice (some ⟨b, 0, none⟩) N N) := ⟨_, rfl⟩
  rw [← hv8] at hset hp7 hq7 hr7 hs7 ⊢
  refine ⟨⟨fun _ => hp7, fun h => h.kept hset (by simp; omega)⟩, rfl, ?_⟩
  clear z0 z2 hv8
  refine wpT_x ?_
  have z1 := hq7.cell
  have z3 := free_of_heap hq7 0
  go_wp2_with fail
  have hset2 := Fr.set0 v8 p2 0 (.slice (some ⟨b2, 0, none⟩) n2 n2)
  have hq8 : boxAt (v8.setCell ⟨p2, 0, none⟩ (.slice (some ⟨b2, 0, none⟩) n2 n2)) p2 50 (.slice (some ⟨b2, 0, none⟩) n2 n2) := heap_setCell_same hq7 _
  have hp8 := hp7.kept hset2 (by simp; omega)
  have hr8 := hr7.kept hset2 (by have := Gb.out; simp; omega)
  have hs8 := hs7.kept hset2 (by have := Gb2.out; simp; omega)
  obtain ⟨v9, hv9⟩ : ∃ v9, v9 = v8.setCell ⟨p2, 0, none⟩ (.slice (some ⟨b2, 0, none⟩) n2 n2) := ⟨_, rfl⟩
  rw [← hv9] at hset2 hp8 hq8 hr8 hs8 ⊢
  refine ⟨⟨fun h => h.kept hset2 (by simp; omega), fun _ => hq8⟩, rfl, ?_⟩
  clear z1 z3 hv9
  refine wpT_end ?_
  go_wp2_with fail
  refine bodyPost_ret (results_cells2 rfl _ _ ⟨p, 0, none⟩ ⟨p2, 0, none⟩ _ _ rfl rfl hp8.cell hq8.cell Tryz.underlying50 rfl) rfl ?_
  have hff := ((HF5.out.trans HF6.out (by simp) (n := []) (fun i hi hlt => by have h1 := HGB.out; have h2 := HGB2.out; simp at hi; omega)).trans hset (by simp) (n := []) (fun i hi hlt => by have h1 := HGE.out; simp at hi; omega)).trans hset2 (by simp) (n := []) (fun i hi hlt => by have h1 := HGE.out; simp at hi; omega)
  unfold reachedP
  rw [HN.out, HN2.out] at HR6 HS6 HL6 HT6 hr8 hs8 ⊢
  exact ⟨b, b2, HGB.out, HGB2.out, rfl, hr8, hs8, HL6.out, HT6.out, hff⟩
end Go.Proofs.YtnaamjpiaekmeaaGreat
