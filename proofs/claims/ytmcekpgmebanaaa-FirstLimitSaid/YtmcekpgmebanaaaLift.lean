/- From the walk of a law to its row: what every law of this seat needs. -/
import Derived.Test.YtmcekpgmebanaaaRows
import Derived.Test.YtmcekpgmebanaaaBs
import Derived.ProofKit
import Derived.OpenShut
import Derived.ShutString
import Derived.ChangeOld
set_option linter.unusedVariables false
set_option linter.unusedSimpArgs false
namespace Go.Proofs.Ytmcekpgmebanaaa
open Go.ChangeShapes Go.WideShapes Go.ChangeAt Go.RowKit

theorem own : ownKnob Try.prog.godebug = none := by kernel_rfl
theorem laidOut : laidOutB Try.prog = true := by kernel_rfl

theorem u8_of_wf {n : Int} (h : (Lit.int .u8 n).wf = true) : ((UInt8.ofNat n.toNat).toNat : Int) = n := by
  have := bounds_u8 h
  rw [UInt8.toNat_ofNat']
  omega

/-- A []byte that came in reads as bytes. -/
theorem bytes_of_trod {P : Program} {H : Type} {enc : TypeId × Value → H} {w : World} {t e : TypeId} {a : Option Addr} {len cap : Nat} {d : DataW H} {ps : List MemPlace} (ht : P.underlying t = some (.slice e)) (he : P.underlying e = some (.int .u8)) (hc : P.cellsOf e = 1)
    (h : DataW.Trod enc P w 0 (fun _ => true) true t (.slice a len cap) d ps) : ∃ bs, bytesAt w (.slice a len cap) bs ∧ bs.length = len := by
  obtain ⟨fuel, hf⟩ := h
  rcases open_ints ht he hc hf with ⟨hcs, _⟩ | ⟨x, l, c, zs, hcs, _, hl, hm, hz, _, hcell, hwz⟩
  · simp [Value.cells] at hcs
    obtain ⟨rfl, rfl, rfl⟩ := hcs
    exact ⟨[], bytesAt.nil _, rfl⟩
  · simp [Value.cells] at hcs
    obtain ⟨rfl, rfl, rfl⟩ := hcs
    have hzl : zs.length = cap := by simpa using hz
    by_cases h0 : len = 0
    · subst h0
      exact ⟨[], .inl ⟨_, _, rfl, hm, rfl⟩, rfl⟩
    · obtain ⟨b, off, spot⟩ := x
      have hc0 := hcell 0 (by omega)
      have hspot : spot = none := by simpa [Addr.add] using World.cell?_spot hc0
      subst hspot
      have hbl : ((zs.take len).map fun n => UInt8.ofNat n.toNat).length = len := by simp; omega
      refine ⟨(zs.take len).map fun n => UInt8.ofNat n.toNat, .inr ⟨b, off, cap, by rw [hbl], by omega, hm, fun i hi => ?_⟩, hbl⟩
      have hi' : i < zs.length := by omega
      have h1 := hcell i hi'
      have hadd : (⟨b, off, none⟩ : Addr).add i = ⟨b, off + i, none⟩ := by unfold Addr.add; split <;> simp_all
      rw [hadd] at h1
      rw [h1, List.getElem_map, List.getElem_take, u8_of_wf (hwz _ (List.getElem_mem hi'))]
      simp [List.getD, hi']

theorem lt_of_trod {P : Program} {H : Type} {enc : TypeId × Value → H} {w : World} {t : TypeId} {v : Value} {d : DataW H} {ps : List MemPlace} (h : DataW.Trod enc P w 0 (fun _ => true) true t v d ps) : ∀ x ∈ ps, x.block < w.heap.size := by
  obtain ⟨m, hm⟩ := h
  exact DataW.trod_lt m _ _ _ hm

/-- All arguments read behind the call as they read before. -/
theorem args_stay {P : Program} {H : Type} {enc : TypeId × Value → H} {W W' : World} (hl : laidOutB P = true) (hb : Below W.heap.size W W') :
    ∀ {ts : List TypeId} {vs : List Value} {ds : List (DataW H)} {ps : List MemPlace}, (ts.all fun t => P.readableRec t && decide (t < P.types.size)) = true →
      DataW.TrodAll enc P W 0 (fun _ => true) true ts vs ds ps → DataW.TrodAll enc P W' 0 (fun b => decide (b < W.heap.size)) true ts vs ds ps
  | [], [], [], _, _, h => h
  | t :: ts, v :: vs, d :: ds, ps, hr, ⟨p, q, h1, h2, e⟩ => by
    simp only [List.all_cons, Bool.and_eq_true, decide_eq_true_eq] at hr
    exact ⟨p, q, Below.trod hl hr.1.1 hr.1.2 h1 hb (lt_of_trod h1), args_stay hl hb (by simpa using hr.2) h2, e⟩
  | [], _ :: _, _, _, _, h => h.elim
  | [], [], _ :: _, _, _, h => h.elim
  | _ :: _, [], _, _, _, h => h.elim
  | _ :: _, _ :: _, [], _, _, h => h.elim

/-- A slice that came in: its elements' cells, and each element's reading. -/
theorem slice_of_trod {P : Program} {H : Type} {enc : TypeId × Value → H} {w : World} {t e : TypeId} {sz : Nat} {a : Option Addr} {len cap : Nat} {d : DataW H} {ps : List MemPlace} (ht : P.underlying t = some (.slice e)) (hc : P.cellsOf e = sz) (hsz : 0 < sz)
    (h : DataW.Trod enc P w 0 (fun _ => true) true t (.slice a len cap) d ps) :
    ∃ xs, elemsAt w (.slice a len cap) sz xs ∧ xs.length = len ∧ ∀ x ∈ xs, ∃ n y, DataW.trod enc P w 0 (fun _ => true) true n e x = some y := by
  obtain ⟨fuel, hf⟩ := h
  rcases DataW.trod_slice ht hf with ⟨hcs, _⟩ | ⟨x, l, c, elems, rest, n, rfl, hcs, _, _, hl, hm, hel, hat, _⟩
  · simp [Value.cells] at hcs
    obtain ⟨rfl, rfl, rfl⟩ := hcs
    exact ⟨[], .inl ⟨_, _, rfl, by simp, rfl⟩, rfl, by simp⟩
  · simp [Value.cells] at hcs
    obtain ⟨rfl, rfl, rfl⟩ := hcs
    by_cases h0 : len = 0
    · subst h0
      exact ⟨[], .inl ⟨_, _, rfl, hm, rfl⟩, rfl, by simp⟩
    · have each : ∀ i, i < len → ∃ cs, w.cells? 0 (x.add (i * sz)) sz = some cs ∧ ∃ y, DataW.trod enc P w 0 (fun _ => true) true n e cs = some y := by
        intro i hi
        have h1 := hat i hi
        rw [hc] at h1
        have h2 : ∃ y, elems[i]? = some y := ⟨elems[i]'(by omega), by simp⟩
        obtain ⟨y, hy⟩ := h2
        rw [hy] at h1
        obtain ⟨cs, hcs, hyy⟩ := Option.bind_eq_some_iff.1 h1
        exact ⟨cs, hcs, y, hyy⟩
      obtain ⟨b, off, spot⟩ := x
      have hspot : spot = none := by
        obtain ⟨cs, hcs, _⟩ := each 0 (by omega)
        have h1 := (World.cells?_some hcs).2.2 0 hsz
        have hl0 := (World.cells?_some hcs).2.1
        rw [List.getElem?_eq_getElem (by omega)] at h1
        simpa [Addr.add] using World.cell?_spot h1
      subst hspot
      have hadd : ∀ k, (⟨b, off, none⟩ : Addr).add k = ⟨b, off + k, none⟩ := fun k => by unfold Addr.add; split <;> simp_all
      have hxs : ∃ xs : List (List Value), xs.length = len ∧ ∀ i (h : i < xs.length), w.cells? 0 ⟨b, off + i * sz, none⟩ sz = some (xs[i]'h) ∧ ∃ y, DataW.trod enc P w 0 (fun _ => true) true n e (xs[i]'h) = some y := by
        refine ⟨(List.range len).map fun i => (w.cells? 0 ⟨b, off + i * sz, none⟩ sz).getD [], by simp, fun i hi => ?_⟩
        simp only [List.length_map, List.length_range] at hi
        obtain ⟨cs, hcs, y, hy⟩ := each i hi
        rw [hadd] at hcs
        simp only [List.getElem_map, List.getElem_range, hcs, Option.getD_some]
        exact ⟨trivial, y, hy⟩
      obtain ⟨xs, hxl, hx⟩ := hxs
      refine ⟨xs, .inr ⟨b, off, cap, by rw [hxl], by omega, hm, ?_, fun i hi => ?_⟩, hxl, fun x hx' => ?_⟩
      · have h1 := (World.cells?_some (hx 0 (by omega)).1).2.2 0 hsz
        have hl0 := (World.cells?_some (hx 0 (by omega)).1).2.1
        rw [List.getElem?_eq_getElem (by omega)] at h1
        exact World.block_lt_of_cell? w _ h1
      · have hc1 := World.cells?_some (hx i hi).1
        refine ⟨hc1.2.1, fun j u hu => ?_⟩
        have hj : j < sz := by
          rcases Nat.lt_or_ge j sz with q | q
          · exact q
          · rw [List.getElem?_eq_none (by omega)] at hu; cases hu
        have := hc1.2.2 j hj
        rw [hu] at this
        have hadd2 : (⟨b, off + i * sz, none⟩ : Addr).add j = ⟨b, off + i * sz + j, none⟩ := by unfold Addr.add; split <;> simp_all
        rwa [hadd2] at this
      · obtain ⟨i, hi, rfl⟩ := List.getElem_of_mem hx'
        obtain ⟨y, hy⟩ := (hx i hi).2
        exact ⟨n, y, hy⟩
theorem exists_map {α β : Type} (f : β → α) (p : β → Prop) : ∀ (xs : List α), (∀ x ∈ xs, ∃ b, x = f b ∧ p b) → ∃ bs : List β, xs = bs.map f ∧ ∀ b ∈ bs, p b
  | [], _ => ⟨[], rfl, by simp⟩
  | x :: xs, h => by
    obtain ⟨b, hb, hp⟩ := h x (by simp)
    obtain ⟨bs, hbs, hps⟩ := exists_map f p xs (fun y hy => h y (by simp [hy]))
    refine ⟨b :: bs, by simp [hb, hbs], ?_⟩
    intro c hc
    rcases List.mem_cons.1 hc with rfl | hc
    · exact hp
    · exact hps c hc

/-- A struct of three fields, read. -/
theorem read_struct3 {P : Program} {H : Type} {enc : TypeId × Value → H} {w : World} {t : TypeId} {f0 f1 f2 : Field} {fuel : Nat} {cs : List Value} {x : DataW H × List MemPlace} (ht : P.underlying t = some (.struct #[f0, f1, f2])) (h : DataW.trod enc P w 0 (fun _ => true) true fuel t cs = some x) :
    ∃ y0 y1 y2 n, cs.length = P.cellsOf t ∧ DataW.trod enc P w 0 (fun _ => true) true n f0.type ((cs.drop f0.offset).take (P.cellsOf f0.type)) = some y0 ∧
      DataW.trod enc P w 0 (fun _ => true) true n f1.type ((cs.drop f1.offset).take (P.cellsOf f1.type)) = some y1 ∧ DataW.trod enc P w 0 (fun _ => true) true n f2.type ((cs.drop f2.offset).take (P.cellsOf f2.type)) = some y2 := by
  obtain ⟨xs, n, _, _, hl, hlen, hf⟩ := DataW.trod_struct ht h
  match xs, hlen with
  | [y0, y1, y2], _ => exact ⟨y0, y1, y2, n, hl, by simpa using hf 0 f0 rfl, by simpa using hf 1 f1 rfl, by simpa using hf 2 f2 rfl⟩

end Go.Proofs.Ytmcekpgmebanaaa
