/- An act that came in: a struct of two fields, with a []Fault. -/
import Derived.Test.YtheanpmgdkajnaaIntLift
import Derived.Test.YtheanpmgdkajnaaFltL
import Derived.ChangeMaps5
namespace Go.Proofs.Ytheanpmgdkajnaa
open Go.ChangeShapes Go.WideShapes Go.ChangeAt Go.RowKit

/-- A struct of two fields, read. -/
theorem read_struct2 {P : Program} {H : Type} {enc : TypeId × Value → H} {w : World} {t : TypeId} {f0 f1 : Field} {fuel : Nat} {cs : List Value} {x : DataW H × List MemPlace} (ht : P.underlying t = some (.struct #[f0, f1])) (h : DataW.trod enc P w 0 (fun _ => true) true fuel t cs = some x) :
    ∃ y0 y1 n, cs.length = P.cellsOf t ∧ DataW.trod enc P w 0 (fun _ => true) true n f0.type ((cs.drop f0.offset).take (P.cellsOf f0.type)) = some y0 ∧
      DataW.trod enc P w 0 (fun _ => true) true n f1.type ((cs.drop f1.offset).take (P.cellsOf f1.type)) = some y1 := by
  obtain ⟨xs, n, _, _, hl, hlen, hf⟩ := DataW.trod_struct ht h
  match xs, hlen with
  | [y0, y1], _ => exact ⟨y0, y1, n, hl, by simpa using hf 0 f0 rfl, by simpa using hf 1 f1 rfl⟩
theorem cellsAct : Try.prog.cellsOf 28 = 2 := by kernel_rfl
theorem cellsFault : Try.prog.cellsOf 31 = 2 := by kernel_rfl
theorem cellsInt : Try.prog.cellsOf 3 = 1 := by kernel_rfl
theorem cellsFaults : Try.prog.cellsOf 26 = 1 := by kernel_rfl
theorem fault_of_trod {H : Type} {enc : TypeId × Value → H} {w : World} {n : Nat} {cs : List Value} {y : DataW H × List MemPlace} (h : DataW.trod enc Try.prog w 0 (fun _ => true) true n 31 cs = some y) : ∃ f : FltD, cs = f.cells := by
  obtain ⟨y0, y1, m, hl, h0, h1⟩ := read_struct2 Try.underlying31 h
  rw [cellsFault] at hl
  match cs, hl with
  | [c0, c1], _ =>
    rw [cellsInt] at h0 h1
    obtain ⟨a, ha, _⟩ := DataW.trod_int Try.underlying3 h0
    obtain ⟨b, hb, _⟩ := DataW.trod_int Try.underlying3 h1
    simp at ha hb
    exact ⟨⟨a, b⟩, by simp only [FltD.cells, ha, hb]⟩
theorem faults_of_trod {H : Type} {enc : TypeId × Value → H} {w : World} {a : Option Addr} {len cap : Nat} {d : DataW H} {ps : List MemPlace}
    (h : DataW.Trod enc Try.prog w 0 (fun _ => true) true 26 (.slice a len cap) d ps) : ∃ l : List FltD, faultsAt w (.slice a len cap) l := by
  obtain ⟨xs, hx, -, hxs⟩ := slice_of_trod Try.underlying26 cellsFault (by decide) h
  obtain ⟨l, rfl, -⟩ := exists_map FltD.cells (fun _ => True) xs (fun x hx => by
    obtain ⟨n, y, hy⟩ := hxs x hx
    obtain ⟨f, hf⟩ := fault_of_trod hy
    exact ⟨f, hf, trivial⟩)
  exact ⟨l, hx⟩
theorem act_of_trod {H : Type} {enc : TypeId × Value → H} {w : World} {n : Nat} {cs : List Value} {y : DataW H × List MemPlace} (h : DataW.trod enc Try.prog w 0 (fun _ => true) true n 28 cs = some y) :
    ∃ r : ADat, cs = r.cells ∧ r.ok w := by
  obtain ⟨y0, y1, m, hl, h0, h1⟩ := read_struct2 Try.underlying28 h
  rw [cellsAct] at hl
  match cs, hl with
  | [c0, c1], _ =>
    rw [cellsInt] at h0
    rw [cellsFaults] at h1
    obtain ⟨k, hk, _⟩ := DataW.trod_int Try.underlying3 h0
    simp at hk
    have h1' : DataW.trod enc Try.prog w 0 (fun _ => true) true m 26 [c1] = some y1 := h1
    have hc1 : ∃ a len cap, c1 = .slice a len cap := by
      rcases DataW.trod_slice Try.underlying26 h1' with ⟨e, _⟩ | ⟨a, len, cap, _, _, _, _, e, _⟩
      · exact ⟨_, _, _, by simpa using e⟩
      · exact ⟨_, _, _, by simpa using e⟩
    obtain ⟨a, len, cap, rfl⟩ := hc1
    obtain ⟨fl, hfl⟩ := faults_of_trod (d := y1.1) (ps := y1.2) ⟨m, h1'⟩
    exact ⟨⟨k, _, fl⟩, by simp only [ADat.cells, hk], hfl⟩
end Go.Proofs.Ytheanpmgdkajnaa
