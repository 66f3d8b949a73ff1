/- A []uint64 that came in reads as numbers. -/
import Derived.Test.YtajfjjcdkfhknaaLift
import Derived.Test.YtajfjjcdkfhknaaVarB
namespace Go.Proofs.Ytajfjjcdkfhknaa
open Go.ChangeShapes Go.WideShapes Go.ChangeAt Go.RowKit

theorem nums_of_trod {P : Program} {H : Type} {enc : TypeId × Value → H} {w : World} {t e : TypeId} {a : Option Addr} {len cap : Nat} {d : DataW H} {ps : List MemPlace} (ht : P.underlying t = some (.slice e)) (he : P.underlying e = some (.int .u64)) (hc : P.cellsOf e = 1)
    (h : DataW.Trod enc P w 0 (fun _ => true) true t (.slice a len cap) d ps) : ∃ l : List Nat, numsAt w (.slice a len cap) l ∧ l.length = len ∧ ∀ v ∈ l, v ≤ 18446744073709551615 := by
  obtain ⟨fuel, hf⟩ := h
  rcases open_ints ht he hc hf with ⟨hcs, _⟩ | ⟨x, l, c, zs, hcs, _, hl, hm, hz, _, hcell, hwz⟩
  · simp [Value.cells] at hcs
    obtain ⟨rfl, rfl, rfl⟩ := hcs
    exact ⟨[], cellsAt.nil _, rfl, by simp⟩
  · simp [Value.cells] at hcs
    obtain ⟨rfl, rfl, rfl⟩ := hcs
    have hzl : zs.length = cap := by simpa using hz
    by_cases h0 : len = 0
    · subst h0
      exact ⟨[], .inl ⟨_, _, rfl, hm, rfl⟩, rfl, by simp⟩
    · obtain ⟨b, off, spot⟩ := x
      have hc0 := hcell 0 (by omega)
      have hspot : spot = none := by simpa [Addr.add] using World.cell?_spot hc0
      subst hspot
      have hbl : ((zs.take len).map fun n => n.toNat).length = len := by simp; omega
      refine ⟨(zs.take len).map fun n => n.toNat, .inr ⟨b, off, cap, by rw [numC_length, hbl], by rw [numC_length, hbl]; omega, hm, fun i hi => ?_⟩, hbl, ?_⟩
      · rw [numC_length, hbl] at hi
        have hi' : i < zs.length := by omega
        have h1 := hcell i hi'
        have hadd : (⟨b, off, none⟩ : Addr).add i = ⟨b, off + i, none⟩ := by unfold Addr.add; split <;> simp_all
        rw [hadd] at h1
        have hwi := bounds_u64 (hwz _ (List.getElem_mem hi'))
        rw [h1, numC_get _ i (by rw [hbl]; exact hi), List.getElem_map, List.getElem_take]
        simp [List.getD, hi']
        omega
      · intro v hv
        obtain ⟨z, hz', rfl⟩ := List.mem_map.1 hv
        have := bounds_u64 (hwz z (List.mem_of_mem_take hz'))
        omega
end Go.Proofs.Ytajfjjcdkfhknaa
