/- Lines that came in (layer 13): how they read, and that each of their texts is no longer than the bulk that is allowed. -/
import Derived.Test.YtboljohhkfidfaaLift
import Derived.Test.YtboljohhkfidfaaRows
import Derived.Test.YtboljohhkfidfaaParH
import Derived.SizedLaws
import Derived.ChangeSame
import Derived.ChangeMaps5
namespace Go.Proofs.Ytboljohhkfidfaa
open Go.ChangeShapes Go.WideShapes Go.ChangeAt Go.RowKit

def light {H : Type} (d : DataW H) : Prop := Rows.uptoBulk d ≤ 1048576
theorem bulk_all {H : Type} : ∀ (l : List (DataW H)) (d : DataW H), d ∈ l → Rows.uptoBulk d ≤ Rows.uptoBulkAll l
  | x :: l, d, h => by
    simp only [Rows.uptoBulkAll]
    rcases List.mem_cons.1 h with rfl | h
    · omega
    · have := bulk_all l d h; omega
theorem slice_light {P : Program} {H : Type} {enc : TypeId × Value → H} {w : World} {t e : TypeId} {sz : Nat} {a : Option Addr} {len cap fuel : Nat} {X : DataW H × List MemPlace} (ht : P.underlying t = some (.slice e)) (hc : P.cellsOf e = sz) (hsz : 0 < sz)
    (hf : DataW.trod enc P w 0 (fun _ => true) true fuel t [.slice a len cap] = some X) (hw : light X.1) :
    ∃ xs, elemsAt w (.slice a len cap) sz xs ∧ xs.length = len ∧ ∀ x ∈ xs, ∃ n y, DataW.trod enc P w 0 (fun _ => true) true n e x = some y ∧ light y.1 := by
  obtain ⟨xs, hx, hl, -⟩ := slice_of_trod (d := X.1) (ps := X.2) ht hc hsz ⟨fuel, hf⟩
  refine ⟨xs, hx, hl, fun x hxx => ?_⟩
  obtain ⟨i, hi, rfl⟩ := List.getElem_of_mem hxx
  rcases hx with ⟨_, _, _, _, rfl⟩ | ⟨b, off, cap', e1, _, _, hb, hcell⟩
  · simp at hi
  · simp only [Value.slice.injEq] at e1
    obtain ⟨rfl, -, rfl⟩ := e1
    rcases DataW.trod_slice ht hf with ⟨hcs, _⟩ | ⟨x, l, c, elems, rest, n, rfl, hcs, hX, _, hlc, hm, hel, hat, _⟩
    · simp at hcs
    · simp at hcs
      obtain ⟨rfl, rfl, rfl⟩ := hcs
      have h1 := hat i (by omega)
      rw [hc, List.getElem?_eq_getElem (by omega)] at h1
      obtain ⟨cs, hcs, hyy⟩ := Option.bind_eq_some_iff.1 h1
      have hadd : ∀ k, (⟨b, off, none⟩ : Addr).add k = ⟨b, off + k, none⟩ := fun k => by unfold Addr.add; split <;> simp_all
      rw [hadd] at hcs
      obtain ⟨-, q1, q2⟩ := World.cells?_some hcs
      obtain ⟨g1, g2⟩ := hcell i hi
      have hcsx : cs = xs[i]'hi := by
        refine List.ext_getElem (by omega) (fun j p1 p2 => ?_)
        have u1 := q2 j (by omega)
        have u2 := g2 j _ (List.getElem?_eq_getElem p2)
        have hadd2 : (⟨b, off + i * sz, none⟩ : Addr).add j = ⟨b, off + i * sz + j, none⟩ := by unfold Addr.add; split <;> simp_all
        rw [hadd2, u2, List.getElem?_eq_getElem p1] at u1
        exact (Option.some.inj u1).symm
      subst hcsx
      refine ⟨n, _, hyy, ?_⟩
      unfold light at hw ⊢
      rw [hX] at hw
      simp only [Rows.uptoBulk] at hw
      have hle := bulk_all _ _ (List.mem_map.2 ⟨_, List.getElem_mem (by omega), rfl⟩ : (elems[i]'(by omega)).1 ∈ elems.map (fun x => x.1))
      omega
theorem cellsItem : Try.prog.cellsOf 59 = 2 := by kernel_rfl
theorem cellsLine : Try.prog.cellsOf 34 = 2 := by kernel_rfl
theorem cellsBool : Try.prog.cellsOf 4 = 1 := by kernel_rfl
theorem cellsStr : Try.prog.cellsOf 9 = 1 := by kernel_rfl
theorem cellsItems : Try.prog.cellsOf 35 = 1 := by kernel_rfl
theorem cellsAlts : Try.prog.cellsOf 32 = 1 := by kernel_rfl
theorem slice_formL {P : Program} {H : Type} {enc : TypeId × Value → H} {w : World} {m : Nat} {t e : TypeId} {cs : List Value} {y : DataW H × List MemPlace} (ht : P.underlying t = some (.slice e)) (h : DataW.trod enc P w 0 (fun _ => true) true m t cs = some y) : ∃ a len cap, cs = [.slice a len cap] := by
  rcases DataW.trod_slice ht h with ⟨q, _⟩ | ⟨a, len, cap, _, _, _, _, q, _⟩
  · exact ⟨_, _, _, q⟩
  · exact ⟨_, _, _, q⟩
def shortI (i : ItemD) : Prop := i.text.length ≤ 1048576
theorem str_light {H : Type} {s : ByteArray} (h : light (H := H) (.lit (.string s.data.toList))) : s.data.toList.length ≤ 1048576 := by
  unfold light at h
  simp only [Rows.uptoBulk] at h
  omega
set_option maxRecDepth 100000 in
theorem item_of_trod {H : Type} {enc : TypeId × Value → H} {w : World} {n : Nat} {cs : List Value} {y : DataW H × List MemPlace} (h : DataW.trod enc Try.prog w 0 (fun _ => true) true n 59 cs = some y) (hw : light y.1) :
    ∃ r : ItemD, cs = r.cells ∧ shortI r := by
  obtain ⟨y0, y1, m, rfl, hl, h0, h1⟩ := Go.ChangeShapes.trod_struct2 Try.underlying59 h
  rw [cellsItem] at hl
  have hw1 : light y1.1 := by
    unfold light at hw ⊢
    simp only [Rows.uptoBulk, Rows.uptoBulkAll] at hw
    omega
  match cs, hl with
  | [c0, c1], _ =>
    rw [cellsBool] at h0
    rw [cellsStr] at h1
    obtain ⟨b, hb, _⟩ := DataW.trod_bool Try.underlying4 h0
    obtain ⟨s, hs, rfl, _⟩ := DataW.trod_string Try.underlying9 h1
    simp at hb hs
    refine ⟨⟨b, s.data.toList⟩, ?_, str_light hw1⟩
    rw [hb, hs]
    simp [ItemD.cells, Go.Proofs.encStr]
set_option maxRecDepth 100000 in
theorem items_of_trod {H : Type} {enc : TypeId × Value → H} {w : World} {n : Nat} {cs : List Value} {y : DataW H × List MemPlace} (h : DataW.trod enc Try.prog w 0 (fun _ => true) true n 35 cs = some y) (hw : light y.1) :
    ∃ v l, cs = [v] ∧ itemsAt w v l ∧ ∀ i ∈ l, shortI i := by
  obtain ⟨a, len, cap, rfl⟩ := slice_formL Try.underlying35 h
  obtain ⟨xs, hx, -, hr⟩ := slice_light Try.underlying35 cellsItem (by decide) h hw
  obtain ⟨l, rfl, hs⟩ := exists_map ItemD.cells shortI xs (fun x hx => by
    obtain ⟨n, y, hy, hl⟩ := hr x hx
    exact item_of_trod hy hl)
  exact ⟨_, l, rfl, hx, hs⟩
theorem choose_items {w : World} : ∀ (xs : List (List Value)), (∀ x ∈ xs, ∃ v l, x = [v] ∧ itemsAt w v l ∧ ∀ i ∈ l, shortI i) → ∃ (vs : List Value) (al : List (List ItemD)), xs = vs.map (fun v => [v]) ∧ vs.length = al.length ∧ (∀ i (h : i < vs.length) (h' : i < al.length), itemsAt w (vs[i]'h) (al[i]'h')) ∧ ∀ a ∈ al, ∀ i ∈ a, shortI i
  | [], _ => ⟨[], [], rfl, rfl, by simp, by simp⟩
  | x :: xs, h => by
    obtain ⟨v, bs, rfl, hb, hs⟩ := h x (by simp)
    obtain ⟨vs, parts, rfl, hl, hi, hss⟩ := choose_items xs (fun y hy => h y (by simp [hy]))
    refine ⟨v :: vs, bs :: parts, rfl, by simp [hl], fun i h1 h2 => ?_, fun a ha => ?_⟩
    · cases i with
      | zero => exact hb
      | succ i => exact hi i (by simpa using h1) (by simpa using h2)
    · rcases List.mem_cons.1 ha with rfl | ha
      · exact hs
      · exact hss a ha
theorem cells_elems1 {w : World} {v : Value} {cs : List Value} (h : elemsAt w v 1 (cs.map fun u => [u])) : cellsAt w v cs := by
  rcases h with ⟨a, cap, rfl, h1, h2⟩ | ⟨b, off, cap, rfl, h1, h2, h3, h4⟩
  · exact .inl ⟨a, cap, rfl, h1, by simpa using h2⟩
  · refine .inr ⟨b, off, cap, by rw [List.length_map], by simpa using h1, h2, fun i hi => ?_⟩
    have := (h4 i (by simpa using hi)).2 0 (cs[i]'hi) (by simp)
    simpa using this
set_option maxRecDepth 100000 in
theorem alts_of_trod {H : Type} {enc : TypeId × Value → H} {w : World} {n : Nat} {cs : List Value} {y : DataW H × List MemPlace} (h : DataW.trod enc Try.prog w 0 (fun _ => true) true n 32 cs = some y) (hw : light y.1) :
    ∃ v al, cs = [v] ∧ altsAt w v al ∧ ∀ a ∈ al, ∀ i ∈ a, shortI i := by
  obtain ⟨a, len, cap, rfl⟩ := slice_formL Try.underlying32 h
  obtain ⟨xs, hx, -, hr⟩ := slice_light Try.underlying32 cellsItems (by decide) h hw
  obtain ⟨vs, al, rfl, hl, hi, hs⟩ := choose_items xs (fun x hx => by
    obtain ⟨n, y, hy, hl⟩ := hr x hx
    exact items_of_trod hy hl)
  exact ⟨_, al, rfl, ⟨vs, hl, cells_elems1 hx, hi⟩, hs⟩
def shortX (x : LineD) : Prop := x.name.length ≤ 1048576 ∧ ∀ a ∈ x.alts, ∀ i ∈ a, i.text.length ≤ 1048576
set_option maxRecDepth 100000 in
theorem line_of_trod {H : Type} {enc : TypeId × Value → H} {w : World} {n : Nat} {cs : List Value} {y : DataW H × List MemPlace} (h : DataW.trod enc Try.prog w 0 (fun _ => true) true n 34 cs = some y) (hw : light y.1) :
    ∃ (x : LineD) (v : Value), cs = [encStr x.name, v] ∧ altsAt w v x.alts ∧ shortX x := by
  obtain ⟨y0, y1, m, rfl, hl, h0, h1⟩ := Go.ChangeShapes.trod_struct2 Try.underlying34 h
  rw [cellsLine] at hl
  have hw0 : light y0.1 := by
    unfold light at hw ⊢
    simp only [Rows.uptoBulk, Rows.uptoBulkAll] at hw
    omega
  have hw1 : light y1.1 := by
    unfold light at hw ⊢
    simp only [Rows.uptoBulk, Rows.uptoBulkAll] at hw
    omega
  match cs, hl with
  | [c0, c1], _ =>
    rw [cellsStr] at h0
    rw [cellsAlts] at h1
    obtain ⟨s, hs, rfl, _⟩ := DataW.trod_string Try.underlying9 h0
    obtain ⟨v, al, hv, hal, hsh⟩ := alts_of_trod h1 hw1
    simp at hs hv
    refine ⟨⟨s.data.toList, al⟩, v, ?_, hal, str_light hw0, hsh⟩
    rw [hs, hv]
theorem choose_lines {w : World} : ∀ (xs : List (List Value)), (∀ c ∈ xs, ∃ (x : LineD) (v : Value), c = [encStr x.name, v] ∧ altsAt w v x.alts ∧ shortX x) → ∃ (vs : List Value) (ls : List LineD), xs = ((ls.zip vs).map fun p => [encStr p.1.name, p.2]) ∧ vs.length = ls.length ∧ (∀ i (h : i < vs.length) (h' : i < ls.length), altsAt w (vs[i]'h) (ls[i]'h').alts) ∧ ∀ x ∈ ls, shortX x
  | [], _ => ⟨[], [], rfl, rfl, by simp, by simp⟩
  | c :: xs, h => by
    obtain ⟨x, v, rfl, hb, hs⟩ := h c (by simp)
    obtain ⟨vs, ls, rfl, hl, hi, hss⟩ := choose_lines xs (fun y hy => h y (by simp [hy]))
    refine ⟨v :: vs, x :: ls, rfl, by simp [hl], fun i h1 h2 => ?_, fun a ha => ?_⟩
    · cases i with
      | zero => exact hb
      | succ i => exact hi i (by simpa using h1) (by simpa using h2)
    · rcases List.mem_cons.1 ha with rfl | ha
      · exact hs
      · exact hss a ha
set_option maxRecDepth 100000 in
theorem lines_of_trod {H : Type} {enc : TypeId × Value → H} {w : World} {n : Nat} {cs : List Value} {y : DataW H × List MemPlace} (h : DataW.trod enc Try.prog w 0 (fun _ => true) true n 23 cs = some y) (hw : light y.1) :
    ∃ v l, cs = [v] ∧ linesAt w v l ∧ shortL l := by
  obtain ⟨a, len, cap, rfl⟩ := slice_formL Try.underlying23 h
  obtain ⟨xs, hx, -, hr⟩ := slice_light Try.underlying23 cellsLine (by decide) h hw
  obtain ⟨vs, ls, rfl, hl, hi, hs⟩ := choose_lines xs (fun x hx => by
    obtain ⟨n, y, hy, hl⟩ := hr x hx
    exact line_of_trod hy hl)
  exact ⟨_, ls, rfl, ⟨vs, hl, hx, hi⟩, hs⟩
end Go.Proofs.Ytboljohhkfidfaa
