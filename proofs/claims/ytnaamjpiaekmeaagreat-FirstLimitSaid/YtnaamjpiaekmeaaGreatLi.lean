/- Several texts in one: Lift, IntLift, StrLift, GrmLift. -/
import Derived.ProofKit
import Derived.OpenShut
import Derived.ShutString
import Derived.ChangeOld
import Derived.ChangeMaps5
import Derived.Test.YtnaamjpiaekmeaaGreatRows
import Derived.Test.YtnaamjpiaekmeaaGreatBs
import Derived.Test.YtnaamjpiaekmeaaGreatDt
import Derived.Test.YtnaamjpiaekmeaaGreatMm
set_option linter.unusedVariables false
set_option linter.unusedSimpArgs false
namespace Go.Proofs.YtnaamjpiaekmeaaGreat
open Go.ChangeShapes Go.WideShapes Go.ChangeAt Go.RowKit
theorem own : ownKnob Tryz.prog.godebug = none := by kernel_rfl
theorem laidOut : laidOutB Tryz.prog = true := by kernel_rfl
theorem lt_of_trod {P : Program} {H : Type} {enc : TypeId × Value → H} {w : World} {t : TypeId} {v : Value} {d : DataW H} {ps : List MemPlace} (h : DataW.Trod enc P w 0 (fun _ => true) true t v d ps) : ∀ x ∈ ps, x.block < w.heap.size := by
 obtain ⟨m, hm⟩ := h
 exact DataW.trod_lt m _ _ _ hm
theorem args_stay {P : Program} {H : Type} {enc : TypeId × Value → H} {W W' : World} (hl : laidOutB P = true) (hb : Below W.heap.size W W') :
  ∀ {ts : List TypeId} {vs : List Value} {ds : List (DataW H)} {ps : List MemPlace}, (ts.all fun t => P.readableRec t && decide (t < P.types.size)) = true →
    DataW.TrodAll enc P W 0 (fun _ => true) true ts vs ds ps → DataW.TrodAll enc P W' 0 (fun b => decide (b < W.heap.size)) true ts vs ds ps
 | [], [], [], _, _, h => h
 | t :: ts, v :: vs, d :: ds, ps, hr, ⟨p, q, h1, h2, e⟩ => by
   simp only [List.all_cons, Bool.and_eq_true, decide_eq_true_eq] at hr
   exact ⟨p, q, Below.trod hl hr.1.1 hr.1.2 h1 hb (lt_of_trod h1), args_stay hl hb (by simpa using hr.2) h2, e⟩
 | [], _ :: _, _, _, _, h => h.elim
 | [], [], _ :: _, _, _, h => h.elim
 | _ :: _, [], _, _, _, h => h.elim
 | _ :: _, _ :: _, [], _, _, h => h.elim
theorem slice_of_trod {P : Program} {H : Type} {enc : TypeId × Value → H} {w : World} {t e : TypeId} {sz : Nat} {a : Option Addr} {len cap : Nat} {d : DataW H} {ps : List MemPlace} (ht : P.underlying t = some (.slice e)) (hc : P.cellsOf e = sz) (hsz : 0 < sz)
  (h : DataW.Trod enc P w 0 (fun _ => true) true t (.slice a len cap) d ps) :
  ∃ xs, elemsAt w (.slice a len cap) sz xs ∧ xs.length = len ∧ ∀ x ∈ xs, ∃ n y, DataW.trod enc P w 0 (fun _ => true) true n e x = some y := by
 obtain ⟨fuel, hf⟩ := h
 rcases DataW.trod_slice ht hf with ⟨hcs, _⟩ | ⟨x, l, c, elems, rest, n, rfl, hcs, _, _, hl, hm, hel, hat, _⟩
 ·simp [Value.cells] at hcs
  obtain ⟨rfl, rfl, rfl⟩ := hcs
  exact ⟨[], .inl ⟨_, _, rfl, by simp, rfl⟩, rfl, by simp⟩
 ·simp [Value.cells] at hcs
  obtain ⟨rfl, rfl, rfl⟩ := hcs
  by_cases h0 : len = 0
  ·subst h0
   exact ⟨[], .inl ⟨_, _, rfl, hm, rfl⟩, rfl, by simp⟩
  ·have each : ∀ i, i < len → ∃ cs, w.cells? 0 (x.add (i * sz)) sz = some cs ∧ ∃ y, DataW.trod enc P w 0 (fun _ => true) true n e cs = some y := by
    intro i hi
    have h1 := hat i hi
    rw [hc] at h1
    have h2 : ∃ y, elems[i]? = some y := ⟨elems[i]'(by omega), by simp⟩
    obtain ⟨y, hy⟩ := h2
    rw [hy] at h1
    obtain ⟨cs, hcs, hyy⟩ := Option.bind_eq_some_iff.1 h1
    exact ⟨cs, hcs, y, hyy⟩
   obtain ⟨b, off, spot⟩ := x
   have hspot : spot = none := by
    obtain ⟨cs, hcs, _⟩ := each 0 (by omega)
    have h1 := (World.cells?_some hcs).2.2 0 hsz
    have hl0 := (World.cells?_some hcs).2.1
    rw [List.getElem?_eq_getElem (by omega)] at h1
    simpa [Addr.add] using World.cell?_spot h1
   subst hspot
   have hadd : ∀ k, (⟨b, off, none⟩ : Addr).add k = ⟨b, off + k, none⟩ := fun k => by unfold Addr.add; split <;> simp_all
   have hxs : ∃ xs : List (List Value), xs.length = len ∧ ∀ i (h : i < xs.length), w.cells? 0 ⟨b, off + i * sz, none⟩ sz = some (xs[i]'h) ∧ ∃ y, DataW.trod enc P w 0 (fun _ => true) true n e (xs[i]'h) = some y := by
    refine ⟨(List.range len).map fun i => (w.cells? 0 ⟨b, off + i * sz, none⟩ sz).getD [], by simp, fun i hi => ?_⟩
    simp only [List.length_map, List.length_range] at hi
    obtain ⟨cs, hcs, y, hy⟩ := each i hi
    rw [hadd] at hcs
    simp only [List.getElem_map, List.getElem_range, hcs, Option.getD_some]
    exact ⟨trivial, y, hy⟩
   obtain ⟨xs, hxl, hx⟩ := hxs
   refine ⟨xs, .inr ⟨b, off, cap, by rw [hxl], by omega, hm, ?_, fun i hi => ?_⟩, hxl, fun x hx' => ?_⟩
   ·have h1 := (World.cells?_some (hx 0 (by omega)).1).2.2 0 hsz
    have hl0 := (World.cells?_some (hx 0 (by omega)).1).2.1
    rw [List.getElem?_eq_getElem (by omega)] at h1
    exact World.block_lt_of_cell? w _ h1
   ·have hc1 := World.cells?_some (hx i hi).1
    refine ⟨hc1.2.1, fun j u hu => ?_⟩
    have hj : j < sz := by
     rcases Nat.lt_or_ge j sz with q | q
     ·exact q
     ·rw [List.getElem?_eq_none (by omega)] at hu; cases hu
    have := hc1.2.2 j hj
    rw [hu] at this
    have hadd2 : (⟨b, off + i * sz, none⟩ : Addr).add j = ⟨b, off + i * sz + j, none⟩ := by unfold Addr.add; split <;> simp_all
    rwa [hadd2] at this
   ·obtain ⟨i, hi, rfl⟩ := List.getElem_of_mem hx'
    obtain ⟨y, hy⟩ := (hx i hi).2
    exact ⟨n, y, hy⟩
theorem exists_map {α β : Type} (f : β → α) (p : β → Prop) : ∀ (xs : List α), (∀ x ∈ xs, ∃ b, x = f b ∧ p b) → ∃ bs : List β, xs = bs.map f ∧ ∀ b ∈ bs, p b
 | [], _ => ⟨[], rfl, by simp⟩
 | x :: xs, h => by
   obtain ⟨b, hb, hp⟩ := h x (by simp)
   obtain ⟨bs, hbs, hps⟩ := exists_map f p xs (fun y hy => h y (by simp [hy]))
   refine ⟨b :: bs, by simp [hb, hbs], ?_⟩
   intro c hc
   rcases List.mem_cons.1 hc with rfl | hc
   ·exact hp
   ·exact hps c hc
theorem read_struct3 {P : Program} {H : Type} {enc : TypeId × Value → H} {w : World} {t : TypeId} {f0 f1 f2 : Field} {fuel : Nat} {cs : List Value} {x : DataW H × List MemPlace} (ht : P.underlying t = some (.struct #[f0, f1, f2])) (h : DataW.trod enc P w 0 (fun _ => true) true fuel t cs = some x) :
  ∃ y0 y1 y2 n, cs.length = P.cellsOf t ∧ DataW.trod enc P w 0 (fun _ => true) true n f0.type ((cs.drop f0.offset).take (P.cellsOf f0.type)) = some y0 ∧
    DataW.trod enc P w 0 (fun _ => true) true n f1.type ((cs.drop f1.offset).take (P.cellsOf f1.type)) = some y1 ∧ DataW.trod enc P w 0 (fun _ => true) true n f2.type ((cs.drop f2.offset).take (P.cellsOf f2.type)) = some y2 := by
 obtain ⟨xs, n, _, _, hl, hlen, hf⟩ := DataW.trod_struct ht h
 match xs, hlen with
 | [y0, y1, y2], _ => exact ⟨y0, y1, y2, n, hl, by simpa using hf 0 f0 rfl, by simpa using hf 1 f1 rfl, by simpa using hf 2 f2 rfl⟩
end Go.Proofs.YtnaamjpiaekmeaaGreat
namespace Go.Proofs.YtnaamjpiaekmeaaGreat
open Go.ChangeShapes Go.WideShapes Go.ChangeAt Go.RowKit
theorem ints_of_trod {P : Program} {H : Type} {enc : TypeId × Value → H} {w : World} {t e : TypeId} {a : Option Addr} {len cap : Nat} {d : DataW H} {ps : List MemPlace} (ht : P.underlying t = some (.slice e)) (he : P.underlying e = some (.int .i64)) (hc : P.cellsOf e = 1)
  (h : DataW.Trod enc P w 0 (fun _ => true) true t (.slice a len cap) d ps) : ∃ l : List Int, cellsAt w (.slice a len cap) (l.map (Value.int .i64)) ∧ l.length = len ∧ ∀ v ∈ l, -9223372036854775808 ≤ v ∧ v ≤ 9223372036854775807 := by
 obtain ⟨fuel, hf⟩ := h
 rcases open_ints ht he hc hf with ⟨hcs, _⟩ | ⟨x, l, c, zs, hcs, _, hl, hm, hz, _, hcell, hwz⟩
 ·simp [Value.cells] at hcs
  obtain ⟨rfl, rfl, rfl⟩ := hcs
  exact ⟨[], cellsAt.nil _, rfl, by simp⟩
 ·simp [Value.cells] at hcs
  obtain ⟨rfl, rfl, rfl⟩ := hcs
  have hzl : zs.length = cap := by simpa using hz
  by_cases h0 : len = 0
  ·subst h0
   exact ⟨[], .inl ⟨_, _, rfl, hm, rfl⟩, rfl, by simp⟩
  ·obtain ⟨b, off, spot⟩ := x
   have hc0 := hcell 0 (by omega)
   have hspot : spot = none := by simpa [Addr.add] using World.cell?_spot hc0
   subst hspot
   have hbl : (zs.take len).length = len := by simp; omega
   refine ⟨zs.take len, .inr ⟨b, off, cap, by rw [List.length_map, hbl], by rw [List.length_map, hbl]; omega, hm, fun i hi => ?_⟩, hbl, ?_⟩
   ·rw [List.length_map, hbl] at hi
    have hi' : i < zs.length := by omega
    have h1 := hcell i hi'
    have hadd : (⟨b, off, none⟩ : Addr).add i = ⟨b, off + i, none⟩ := by unfold Addr.add; split <;> simp_all
    rw [hadd] at h1
    rw [h1, List.getElem_map, List.getElem_take]
    simp [List.getD, hi']
   ·intro v hv
    exact bounds_i64 (hwz v (List.mem_of_mem_take hv))
end Go.Proofs.YtnaamjpiaekmeaaGreat
namespace Go.Proofs.YtnaamjpiaekmeaaGreat
open Go.ChangeShapes Go.WideShapes Go.ChangeAt Go.RowKit
theorem cellsS : Tryz.prog.cellsOf 9 = 1 := by kernel_rfl
theorem cellsSs : Tryz.prog.cellsOf 22 = 1 := by kernel_rfl
theorem slice_formG {P : Program} {H : Type} {enc : TypeId × Value → H} {w : World} {m : Nat} {t e : TypeId} {cs : List Value} {y : DataW H × List MemPlace} (ht : P.underlying t = some (.slice e)) (h : DataW.trod enc P w 0 (fun _ => true) true m t cs = some y) : ∃ a len cap, cs = [.slice a len cap] := by
 rcases DataW.trod_slice ht h with ⟨q, _⟩ | ⟨a, len, cap, _, _, _, _, q, _⟩
 ·exact ⟨_, _, _, q⟩
 ·exact ⟨_, _, _, q⟩
theorem cells_elemsG {w : World} {v : Value} {cs : List Value} (h : elemsAt w v 1 (cs.map fun u => [u])) : cellsAt w v cs := by
 rcases h with ⟨a, cap, rfl, h1, h2⟩ | ⟨b, off, cap, rfl, h1, h2, h3, h4⟩
 ·exact .inl ⟨a, cap, rfl, h1, by simpa using h2⟩
 ·refine .inr ⟨b, off, cap, by rw [List.length_map], by simpa using h1, h2, fun i hi => ?_⟩
  have := (h4 i (by simpa using hi)).2 0 (cs[i]'hi) (by simp)
  simpa using this
set_option maxRecDepth 100000 in
theorem strs_of_trod {H : Type} {enc : TypeId × Value → H} {w : World} {n : Nat} {cs : List Value} {y : DataW H × List MemPlace} (h : DataW.trod enc Tryz.prog w 0 (fun _ => true) true n 22 cs = some y) :
  ∃ v l, cs = [v] ∧ strsAt w v l ∧ ∀ x ∈ l, x.length ≤ maxLen := by
 obtain ⟨a, len, cap, rfl⟩ := slice_formG Tryz.underlying22 h
 obtain ⟨xs, hx, -, hr⟩ := slice_of_trod (d := y.1) (ps := y.2) Tryz.underlying22 cellsS (by decide) ⟨n, h⟩
 obtain ⟨l, rfl, hs⟩ := exists_map (fun b : List UInt8 => [encStr b]) (fun b => b.length ≤ maxLen) xs (fun x hx => by
  obtain ⟨m, z, hz⟩ := hr x hx
  obtain ⟨s, hs, _, hl⟩ := DataW.trod_string Tryz.underlying9 hz
  exact ⟨s.data.toList, by rw [hs], by rw [Array.length_toList]; exact hl⟩)
 refine ⟨_, l, rfl, cells_elemsG ?_, hs⟩
 rw [List.map_map]
 exact hx
end Go.Proofs.YtnaamjpiaekmeaaGreat
namespace Go.Proofs.YtnaamjpiaekmeaaGreat
open Go.ChangeShapes Go.WideShapes Go.ChangeAt Go.RowKit
theorem cellsG : Tryz.prog.cellsOf 25 = 3 := by kernel_rfl
theorem cellsR : Tryz.prog.cellsOf 46 = 2 := by kernel_rfl
theorem cellsI : Tryz.prog.cellsOf 3 = 1 := by kernel_rfl
theorem cellsIs : Tryz.prog.cellsOf 39 = 1 := by kernel_rfl
theorem cellsRs : Tryz.prog.cellsOf 23 = 1 := by kernel_rfl
set_option maxRecDepth 100000 in
theorem rule_of_trod {H : Type} {enc : TypeId × Value → H} {w : World} {n : Nat} {cs : List Value} {y : DataW H × List MemPlace} (h : DataW.trod enc Tryz.prog w 0 (fun _ => true) true n 46 cs = some y) :
  ∃ (r : RuleG) (v : Value), cs = [intV r.left, v] ∧ intsAt w v r.right ∧ ∀ s ∈ r.right, -9223372036854775808 ≤ s := by
 obtain ⟨y0, y1, m, rfl, hl, h0, h1⟩ := Go.ChangeShapes.trod_struct2 Tryz.underlying46 h
 rw [cellsR] at hl
 match cs, hl with
 | [c0, c1], _ =>
   rw [cellsI] at h0
   rw [cellsIs] at h1
   obtain ⟨k, hk, _⟩ := DataW.trod_int Tryz.underlying3 h0
   have h1' : DataW.trod enc Tryz.prog w 0 (fun _ => true) true m 39 [c1] = some y1 := h1
   obtain ⟨a, len, cap, e⟩ := slice_formG Tryz.underlying39 h1'
   obtain rfl : c1 = .slice a len cap := by simpa using e
   obtain ⟨l, hc, -, hb⟩ := ints_of_trod (d := y1.1) (ps := y1.2) Tryz.underlying39 Tryz.underlying3 cellsI ⟨m, h1'⟩
   simp at hk
   exact ⟨⟨k, l⟩, _, by rw [hk]; rfl, hc, fun s hs => (hb s hs).1⟩
theorem choose_rules {w : World} : ∀ (xs : List (List Value)), (∀ c ∈ xs, ∃ (r : RuleG) (v : Value), c = [intV r.left, v] ∧ intsAt w v r.right ∧ ∀ s ∈ r.right, -9223372036854775808 ≤ s) →
  ∃ (vs : List Value) (l : List RuleG), xs = ((l.zip vs).map fun p => [intV p.1.left, p.2]) ∧ vs.length = l.length ∧ (∀ i (h : i < vs.length) (h' : i < l.length), intsAt w (vs[i]'h) (l[i]'h').right) ∧ ∀ r ∈ l, ∀ s ∈ r.right, -9223372036854775808 ≤ s
 | [], _ => ⟨[], [], rfl, rfl, by simp, by simp⟩
 | c :: xs, h => by
   obtain ⟨x, v, rfl, hb, hs⟩ := h c (by simp)
   obtain ⟨vs, l, rfl, hl, hi, hss⟩ := choose_rules xs (fun y hy => h y (by simp [hy]))
   refine ⟨v :: vs, x :: l, rfl, by simp [hl], fun i h1 h2 => ?_, fun a ha => ?_⟩
   ·cases i with
    | zero => exact hb
    | succ i => exact hi i (by simpa using h1) (by simpa using h2)
   ·rcases List.mem_cons.1 ha with rfl | ha
    ·exact hs
    ·exact hss a ha
set_option maxRecDepth 100000 in
theorem rules_of_trod {H : Type} {enc : TypeId × Value → H} {w : World} {n : Nat} {cs : List Value} {y : DataW H × List MemPlace} (h : DataW.trod enc Tryz.prog w 0 (fun _ => true) true n 23 cs = some y) :
  ∃ v l, cs = [v] ∧ rulesAt w v l ∧ ∀ r ∈ l, ∀ s ∈ r.right, -9223372036854775808 ≤ s := by
 obtain ⟨a, len, cap, rfl⟩ := slice_formG Tryz.underlying23 h
 obtain ⟨xs, hx, -, hr⟩ := slice_of_trod (d := y.1) (ps := y.2) Tryz.underlying23 cellsR (by decide) ⟨n, h⟩
 obtain ⟨vs, l, rfl, hl, hi, hs⟩ := choose_rules xs (fun x hx => by
  obtain ⟨m, z, hz⟩ := hr x hx
  exact rule_of_trod hz)
 exact ⟨_, l, rfl, ⟨vs, hl, hx, hi⟩, hs⟩
structure CameG (w : World) (v : Value) (g : GramG) : Prop where
 at_ : gramAt w v g
 int : IntG g
 name : ∀ n ∈ g.names, n.length ≤ maxLen
 term : ∀ n ∈ g.terms, n.length ≤ maxLen
set_option maxRecDepth 100000 in
theorem gram_of_trod {H : Type} {enc : TypeId × Value → H} {W : World} {base : Nat} {v : Value} {d : DataW H} {ps : List MemPlace} (hv : Value.okWide Tryz.prog W .any base 25 v)
  (h : DataW.Trod enc Tryz.prog W 0 (fun _ => true) true 25 v d ps) : ∃ g : GramG, CameG W v g := by
 obtain ⟨cs, rfl, hsz⟩ := okWide_struct Tryz.underlying25 hv
 rw [cellsG] at hsz
 obtain ⟨fuel, hf⟩ := h
 obtain ⟨y0, y1, y2, n, hl, h0, h1, h2⟩ := read_struct3 Tryz.underlying25 hf
 obtain ⟨cs⟩ := cs
 match cs, hsz with
 | [c0, c1, c2], _ =>
   rw [cellsSs] at h0 h1
   rw [cellsRs] at h2
   obtain ⟨v0, l0, e0, g0, s0⟩ := strs_of_trod h0
   obtain ⟨v1, l1, e1, g1, s1⟩ := strs_of_trod h1
   obtain ⟨v2, l2, e2, g2, s2⟩ := rules_of_trod h2
   have e0' : c0 = v0 := by simpa [Value.cells] using e0
   have e1' : c1 = v1 := by simpa [Value.cells] using e1
   have e2' : c2 = v2 := by simpa [Value.cells] using e2
   subst e0' e1' e2'
   exact ⟨⟨l0, l1, l2⟩, ⟨_, _, _, rfl, g0, g1, g2⟩, s2, s0, s1⟩
end Go.Proofs.YtnaamjpiaekmeaaGreat
