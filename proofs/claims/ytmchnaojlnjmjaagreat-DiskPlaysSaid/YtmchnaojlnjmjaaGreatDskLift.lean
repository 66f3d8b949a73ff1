/- An act with a disk that came in: a struct of eight fields. -/
import Derived.Test.YtmchnaojlnjmjaaGreatBs
import Derived.Test.YtmchnaojlnjmjaaGreatDskAct
import Derived.ChangeMaps5
namespace Go.Proofs.YtmchnaojlnjmjaaGreat
open Go.ChangeShapes Go.WideShapes Go.ChangeAt Go.RowKit

theorem cells_of_elems1 {w : World} {v : Value} {cs : List Value} (h : elemsAt w v 1 (cs.map fun u => [u])) : cellsAt w v cs := by
  rcases h with ⟨a, cap, rfl, h1, h2⟩ | ⟨b, off, cap, rfl, h1, h2, h3, h4⟩
  · exact .inl ⟨a, cap, rfl, h1, by simpa using h2⟩
  · refine .inr ⟨b, off, cap, by rw [List.length_map], by simpa using h1, h2, fun i hi => ?_⟩
    have := (h4 i (by simpa using hi)).2 0 (cs[i]'hi) (by simp)
    simpa using this
theorem bools_of_trod {P : Program} {H : Type} {enc : TypeId × Value → H} {w : World} {t e : TypeId} {a : Option Addr} {len cap : Nat} {d : DataW H} {ps : List MemPlace} (ht : P.underlying t = some (.slice e)) (he : P.underlying e = some .bool) (hc : P.cellsOf e = 1)
    (h : DataW.Trod enc P w 0 (fun _ => true) true t (.slice a len cap) d ps) : ∃ l : List Bool, cellsAt w (.slice a len cap) (l.map Value.bool) := by
  obtain ⟨xs, hx, -, hxs⟩ := slice_of_trod ht hc (by decide) h
  obtain ⟨l, rfl, -⟩ := exists_map (fun b : Bool => [Value.bool b]) (fun _ => True) xs (fun x hx => by
    obtain ⟨n, y, hy⟩ := hxs x hx
    obtain ⟨b, hb, _⟩ := DataW.trod_bool he hy
    exact ⟨b, hb, trivial⟩)
  refine ⟨l, cells_of_elems1 ?_⟩
  rw [List.map_map]
  exact hx
set_option maxRecDepth 100000 in
/-- A struct of eight fields, read. -/
theorem read_struct8 {P : Program} {H : Type} {enc : TypeId × Value → H} {w : World} {t : TypeId} {f0 f1 f2 f3 f4 f5 f6 f7 : Field} {fuel : Nat} {cs : List Value} {x : DataW H × List MemPlace} (ht : P.underlying t = some (.struct #[f0, f1, f2, f3, f4, f5, f6, f7])) (h : DataW.trod enc P w 0 (fun _ => true) true fuel t cs = some x) :
    ∃ y0 y1 y2 y3 y4 y5 y6 y7 n, cs.length = P.cellsOf t ∧ DataW.trod enc P w 0 (fun _ => true) true n f0.type ((cs.drop f0.offset).take (P.cellsOf f0.type)) = some y0 ∧
      DataW.trod enc P w 0 (fun _ => true) true n f1.type ((cs.drop f1.offset).take (P.cellsOf f1.type)) = some y1 ∧ DataW.trod enc P w 0 (fun _ => true) true n f2.type ((cs.drop f2.offset).take (P.cellsOf f2.type)) = some y2 ∧
      DataW.trod enc P w 0 (fun _ => true) true n f3.type ((cs.drop f3.offset).take (P.cellsOf f3.type)) = some y3 ∧ DataW.trod enc P w 0 (fun _ => true) true n f4.type ((cs.drop f4.offset).take (P.cellsOf f4.type)) = some y4 ∧
      DataW.trod enc P w 0 (fun _ => true) true n f5.type ((cs.drop f5.offset).take (P.cellsOf f5.type)) = some y5 ∧ DataW.trod enc P w 0 (fun _ => true) true n f6.type ((cs.drop f6.offset).take (P.cellsOf f6.type)) = some y6 ∧
      DataW.trod enc P w 0 (fun _ => true) true n f7.type ((cs.drop f7.offset).take (P.cellsOf f7.type)) = some y7 := by
  obtain ⟨xs, n, _, _, hl, hlen, hf⟩ := DataW.trod_struct ht h
  match xs, hlen with
  | [y0, y1, y2, y3, y4, y5, y6, y7], _ => exact ⟨y0, y1, y2, y3, y4, y5, y6, y7, n, hl, by simpa using hf 0 f0 rfl, by simpa using hf 1 f1 rfl, by simpa using hf 2 f2 rfl, by simpa using hf 3 f3 rfl, by simpa using hf 4 f4 rfl, by simpa using hf 5 f5 rfl, by simpa using hf 6 f6 rfl, by simpa using hf 7 f7 rfl⟩

theorem cellsAct : Tryz.prog.cellsOf 42 = 8 := by kernel_rfl
theorem cellsInt : Tryz.prog.cellsOf 3 = 1 := by kernel_rfl
theorem cellsStr : Tryz.prog.cellsOf 9 = 1 := by kernel_rfl
theorem cellsBools : Tryz.prog.cellsOf 39 = 1 := by kernel_rfl
theorem cellsInts : Tryz.prog.cellsOf 40 = 1 := by kernel_rfl
theorem cellsBytes : Tryz.prog.cellsOf 38 = 1 := by kernel_rfl
theorem str_list (s : ByteArray) : ∃ l : List UInt8, Value.string s = Go.Proofs.encStr l := ⟨s.data.toList, by simp [Go.Proofs.encStr]⟩
theorem slice_form {P : Program} {H : Type} {enc : TypeId × Value → H} {w : World} {m : Nat} {t e : TypeId} {c : Value} {y : DataW H × List MemPlace} (ht : P.underlying t = some (.slice e)) (h : DataW.trod enc P w 0 (fun _ => true) true m t [c] = some y) : ∃ a len cap, c = .slice a len cap := by
  rcases DataW.trod_slice ht h with ⟨q, _⟩ | ⟨a, len, cap, _, _, _, _, q, _⟩
  · exact ⟨_, _, _, by simpa using q⟩
  · exact ⟨_, _, _, by simpa using q⟩
set_option maxRecDepth 100000 in
theorem bools_in {H : Type} {enc : TypeId × Value → H} {w : World} {m : Nat} {c : Value} {y : DataW H × List MemPlace} (h : DataW.trod enc Tryz.prog w 0 (fun _ => true) true m 39 [c] = some y) : ∃ l : List Bool, cellsAt w c (l.map Value.bool) := by
  obtain ⟨a, len, cap, rfl⟩ := slice_form Tryz.underlying39 h
  exact bools_of_trod (d := y.1) (ps := y.2) Tryz.underlying39 Tryz.underlying4 (by kernel_rfl) ⟨m, h⟩
set_option maxRecDepth 100000 in
theorem ints_in {H : Type} {enc : TypeId × Value → H} {w : World} {m : Nat} {c : Value} {y : DataW H × List MemPlace} (h : DataW.trod enc Tryz.prog w 0 (fun _ => true) true m 40 [c] = some y) : ∃ l : List Int, cellsAt w c (l.map (Value.int .i64)) := by
  obtain ⟨a, len, cap, rfl⟩ := slice_form Tryz.underlying40 h
  obtain ⟨l, hl, -, -⟩ := ints_of_trod (d := y.1) (ps := y.2) Tryz.underlying40 Tryz.underlying3 (by kernel_rfl) ⟨m, h⟩
  exact ⟨l, hl⟩
set_option maxRecDepth 100000 in
theorem bytes_in {H : Type} {enc : TypeId × Value → H} {w : World} {m : Nat} {c : Value} {y : DataW H × List MemPlace} (h : DataW.trod enc Tryz.prog w 0 (fun _ => true) true m 38 [c] = some y) : ∃ l : List UInt8, bytesAt w c l := by
  obtain ⟨a, len, cap, rfl⟩ := slice_form Tryz.underlying38 h
  obtain ⟨l, hl, -⟩ := bytes_of_trod (d := y.1) (ps := y.2) Tryz.underlying38 Tryz.underlying5 (by kernel_rfl) ⟨m, h⟩
  exact ⟨l, hl⟩
set_option maxRecDepth 100000 in
theorem actk_of_trod {H : Type} {enc : TypeId × Value → H} {w : World} {n : Nat} {cs : List Value} {y : DataW H × List MemPlace} (h : DataW.trod enc Tryz.prog w 0 (fun _ => true) true n 42 cs = some y) :
    ∃ r : ActK, cs = r.cells ∧ r.ok w := by
  obtain ⟨y0, y1, y2, y3, y4, y5, y6, y7, m, hl, h0, h1, h2, h3, h4, h5, h6, h7⟩ := read_struct8 Tryz.underlying42 h
  rw [cellsAct] at hl
  match cs, hl with
  | [c0, c1, c2, c3, c4, c5, c6, c7], _ =>
    rw [cellsInt] at h0 h4
    rw [cellsStr] at h1 h2
    rw [cellsBytes] at h3
    rw [cellsBools] at h5
    rw [cellsInts] at h6 h7
    obtain ⟨k, hk, _⟩ := DataW.trod_int Tryz.underlying3 h0
    obtain ⟨sa, hsa, _⟩ := DataW.trod_string Tryz.underlying9 h1
    obtain ⟨sb, hsb, _⟩ := DataW.trod_string Tryz.underlying9 h2
    obtain ⟨u, hu, _, wu⟩ := DataW.trod_int Tryz.underlying3 h4
    simp at hk hsa hsb hu
    have hb := bounds_i64 wu
    obtain ⟨la, hla⟩ := str_list sa
    obtain ⟨lb, hlb⟩ := str_list sb
    obtain ⟨bs, hbs⟩ := bytes_in (show DataW.trod enc Tryz.prog w 0 (fun _ => true) true m 38 [c3] = some y3 from h3)
    obtain ⟨ks, hks⟩ := bools_in (show DataW.trod enc Tryz.prog w 0 (fun _ => true) true m 39 [c5] = some y5 from h5)
    obtain ⟨zs, hzs⟩ := ints_in (show DataW.trod enc Tryz.prog w 0 (fun _ => true) true m 40 [c6] = some y6 from h6)
    obtain ⟨us, hus⟩ := ints_in (show DataW.trod enc Tryz.prog w 0 (fun _ => true) true m 40 [c7] = some y7 from h7)
    exact ⟨⟨k, la, lb, c3, bs, u, c5, ks, c6, zs, c7, us⟩, by simp only [ActK.cells, hk, hsa, hsb, hu, hla, hlb], hbs, hks, hzs, hus, hb.1, hb.2⟩
end Go.Proofs.YtmchnaojlnjmjaaGreat
