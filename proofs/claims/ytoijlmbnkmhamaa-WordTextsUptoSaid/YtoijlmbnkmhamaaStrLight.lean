/- A slice of strings that came in, of small bulk: how it reads, and that each string is short. -/
import Derived.Test.YtoijlmbnkmhamaaLight
import Derived.Test.YtoijlmbnkmhamaaStrLift
namespace Go.Proofs.Ytoijlmbnkmhamaa
open Go.ChangeShapes Go.WideShapes Go.ChangeAt Go.RowKit

set_option maxRecDepth 100000 in
theorem strs_of_light {H : Type} {enc : TypeId × Value → H} {w : World} {n : Nat} {cs : List Value} {y : DataW H × List MemPlace} (h : DataW.trod enc Try.prog w 0 (fun _ => true) true n 27 cs = some y) (hw : light y.1) :
    ∃ v l, cs = [v] ∧ strsAt w v l ∧ ∀ x ∈ l, x.length ≤ 1048576 := by
  obtain ⟨a, len, cap, rfl⟩ := slice_formG Try.underlying27 h
  obtain ⟨xs, hx, -, hr⟩ := slice_light Try.underlying27 cellsS (by decide) h hw
  obtain ⟨l, rfl, hs⟩ := exists_map (fun b : List UInt8 => [encStr b]) (fun b => b.length ≤ 1048576) xs (fun x hx => by
    obtain ⟨m, z, hz, hl⟩ := hr x hx
    obtain ⟨s, hs, e, _⟩ := DataW.trod_string Try.underlying9 hz
    exact ⟨s.data.toList, by rw [hs], str_light (by rw [e] at hl; exact hl)⟩)
  refine ⟨_, l, rfl, cells_elemsG ?_, hs⟩
  rw [List.map_map]
  exact hx
end Go.Proofs.Ytoijlmbnkmhamaa
