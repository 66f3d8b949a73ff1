/- An act that came in: a struct of five fields, with a []bool. -/
import Derived.Test.YtjmkieacaejcgaaIntLift
import Derived.Test.YtjmkieacaejcgaaDirM
import Derived.ChangeMaps5
namespace Go.Proofs.Ytjmkieacaejcgaa
open Go.ChangeShapes Go.WideShapes Go.ChangeAt Go.RowKit

theorem cells_of_elems1 {w : World} {v : Value} {cs : List Value} (h : elemsAt w v 1 (cs.map fun u => [u])) : cellsAt w v cs := by
  rcases h with ⟨a, cap, rfl, h1, h2⟩ | ⟨b, off, cap, rfl, h1, h2, h3, h4⟩
  · exact .inl ⟨a, cap, rfl, h1, by simpa using h2⟩
  · refine .inr ⟨b, off, cap, by rw [List.length_map], by simpa using h1, h2, fun i hi => ?_⟩
    have := (h4 i (by simpa using hi)).2 0 (cs[i]'hi) (by simp)
    simpa using this
theorem bools_of_trod {P : Program} {H : Type} {enc : TypeId × Value → H} {w : World} {t e : TypeId} {a : Option Addr} {len cap : Nat} {d : DataW H} {ps : List MemPlace} (ht : P.underlying t = some (.slice e)) (he : P.underlying e = some .bool) (hc : P.cellsOf e = 1)
    (h : DataW.Trod enc P w 0 (fun _ => true) true t (.slice a len cap) d ps) : ∃ l : List Bool, cellsAt w (.slice a len cap) (l.map Value.bool) := by
  obtain ⟨xs, hx, -, hxs⟩ := slice_of_trod ht hc (by decide) h
  obtain ⟨l, rfl, -⟩ := exists_map (fun b : Bool => [Value.bool b]) (fun _ => True) xs (fun x hx => by
    obtain ⟨n, y, hy⟩ := hxs x hx
    obtain ⟨b, hb, _⟩ := DataW.trod_bool he hy
    exact ⟨b, hb, trivial⟩)
  refine ⟨l, cells_of_elems1 ?_⟩
  rw [List.map_map]
  exact hx
/-- A struct of five fields, read. -/
theorem read_struct5 {P : Program} {H : Type} {enc : TypeId × Value → H} {w : World} {t : TypeId} {f0 f1 f2 f3 f4 : Field} {fuel : Nat} {cs : List Value} {x : DataW H × List MemPlace} (ht : P.underlying t = some (.struct #[f0, f1, f2, f3, f4])) (h : DataW.trod enc P w 0 (fun _ => true) true fuel t cs = some x) :
    ∃ y0 y1 y2 y3 y4 n, cs.length = P.cellsOf t ∧ DataW.trod enc P w 0 (fun _ => true) true n f0.type ((cs.drop f0.offset).take (P.cellsOf f0.type)) = some y0 ∧
      DataW.trod enc P w 0 (fun _ => true) true n f1.type ((cs.drop f1.offset).take (P.cellsOf f1.type)) = some y1 ∧ DataW.trod enc P w 0 (fun _ => true) true n f2.type ((cs.drop f2.offset).take (P.cellsOf f2.type)) = some y2 ∧
      DataW.trod enc P w 0 (fun _ => true) true n f3.type ((cs.drop f3.offset).take (P.cellsOf f3.type)) = some y3 ∧ DataW.trod enc P w 0 (fun _ => true) true n f4.type ((cs.drop f4.offset).take (P.cellsOf f4.type)) = some y4 := by
  obtain ⟨xs, n, _, _, hl, hlen, hf⟩ := DataW.trod_struct ht h
  match xs, hlen with
  | [y0, y1, y2, y3, y4], _ => exact ⟨y0, y1, y2, y3, y4, n, hl, by simpa using hf 0 f0 rfl, by simpa using hf 1 f1 rfl, by simpa using hf 2 f2 rfl, by simpa using hf 3 f3 rfl, by simpa using hf 4 f4 rfl⟩

theorem cellsAct : Try.prog.cellsOf 35 = 5 := by kernel_rfl
theorem cellsInt : Try.prog.cellsOf 3 = 1 := by kernel_rfl
theorem cellsStr : Try.prog.cellsOf 9 = 1 := by kernel_rfl
theorem cellsBools : Try.prog.cellsOf 33 = 1 := by kernel_rfl
theorem str_list (s : ByteArray) : ∃ l : List UInt8, Value.string s = Go.Proofs.encStr l := ⟨s.data.toList, by simp [Go.Proofs.encStr]⟩
theorem act_of_trod {H : Type} {enc : TypeId × Value → H} {w : World} {n : Nat} {cs : List Value} {y : DataW H × List MemPlace} (h : DataW.trod enc Try.prog w 0 (fun _ => true) true n 35 cs = some y) :
    ∃ r : ADat, cs = r.cells ∧ r.ok w := by
  obtain ⟨y0, y1, y2, y3, y4, m, hl, h0, h1, h2, h3, h4⟩ := read_struct5 Try.underlying35 h
  rw [cellsAct] at hl
  match cs, hl with
  | [c0, c1, c2, c3, c4], _ =>
    rw [cellsInt] at h0 h3
    rw [cellsStr] at h1 h2
    rw [cellsBools] at h4
    obtain ⟨k, hk, _⟩ := DataW.trod_int Try.underlying3 h0
    obtain ⟨sa, hsa, _⟩ := DataW.trod_string Try.underlying9 h1
    obtain ⟨sb, hsb, _⟩ := DataW.trod_string Try.underlying9 h2
    obtain ⟨u, hu, _, wu⟩ := DataW.trod_int Try.underlying3 h3
    simp at hk hsa hsb hu
    obtain ⟨la, hla⟩ := str_list sa
    obtain ⟨lb, hlb⟩ := str_list sb
    have h4' : DataW.trod enc Try.prog w 0 (fun _ => true) true m 33 [c4] = some y4 := h4
    have hc4 : ∃ a len cap, c4 = .slice a len cap := by
      rcases DataW.trod_slice Try.underlying33 h4' with ⟨e, _⟩ | ⟨a, len, cap, _, _, _, _, e, _⟩
      · exact ⟨_, _, _, by simpa using e⟩
      · exact ⟨_, _, _, by simpa using e⟩
    obtain ⟨a, len, cap, rfl⟩ := hc4
    obtain ⟨ks, hks⟩ := bools_of_trod (d := y4.1) (ps := y4.2) Try.underlying33 Try.underlying4 (by kernel_rfl) ⟨m, h4'⟩
    exact ⟨⟨k, la, lb, u, _, ks⟩, by simp only [ADat.cells, hk, hsa, hsb, hu, hla, hlb], hks, wu⟩
end Go.Proofs.Ytjmkieacaejcgaa
