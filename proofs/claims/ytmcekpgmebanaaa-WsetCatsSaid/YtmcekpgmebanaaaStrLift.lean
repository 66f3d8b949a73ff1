/- A slice of strings that came in: how it reads. -/
import Derived.Test.YtmcekpgmebanaaaLift
import Derived.Test.YtmcekpgmebanaaaBs
import Derived.Test.YtmcekpgmebanaaaDt
import Derived.ChangeMaps5
set_option linter.unusedVariables false
set_option linter.unusedSimpArgs false
namespace Go.Proofs.Ytmcekpgmebanaaa
open Go.ChangeShapes Go.WideShapes Go.ChangeAt Go.RowKit

theorem cellsS : Try.prog.cellsOf 9 = 1 := by kernel_rfl
theorem cellsSs : Try.prog.cellsOf 22 = 1 := by kernel_rfl
theorem slice_formG {P : Program} {H : Type} {enc : TypeId × Value → H} {w : World} {m : Nat} {t e : TypeId} {cs : List Value} {y : DataW H × List MemPlace} (ht : P.underlying t = some (.slice e)) (h : DataW.trod enc P w 0 (fun _ => true) true m t cs = some y) : ∃ a len cap, cs = [.slice a len cap] := by
  rcases DataW.trod_slice ht h with ⟨q, _⟩ | ⟨a, len, cap, _, _, _, _, q, _⟩
  · exact ⟨_, _, _, q⟩
  · exact ⟨_, _, _, q⟩
theorem cells_elemsG {w : World} {v : Value} {cs : List Value} (h : elemsAt w v 1 (cs.map fun u => [u])) : cellsAt w v cs := by
  rcases h with ⟨a, cap, rfl, h1, h2⟩ | ⟨b, off, cap, rfl, h1, h2, h3, h4⟩
  · exact .inl ⟨a, cap, rfl, h1, by simpa using h2⟩
  · refine .inr ⟨b, off, cap, by rw [List.length_map], by simpa using h1, h2, fun i hi => ?_⟩
    have := (h4 i (by simpa using hi)).2 0 (cs[i]'hi) (by simp)
    simpa using this
set_option maxRecDepth 100000 in
theorem strs_of_trod {H : Type} {enc : TypeId × Value → H} {w : World} {n : Nat} {cs : List Value} {y : DataW H × List MemPlace} (h : DataW.trod enc Try.prog w 0 (fun _ => true) true n 22 cs = some y) :
    ∃ v l, cs = [v] ∧ strsAt w v l ∧ ∀ x ∈ l, x.length ≤ maxLen := by
  obtain ⟨a, len, cap, rfl⟩ := slice_formG Try.underlying22 h
  obtain ⟨xs, hx, -, hr⟩ := slice_of_trod (d := y.1) (ps := y.2) Try.underlying22 cellsS (by decide) ⟨n, h⟩
  obtain ⟨l, rfl, hs⟩ := exists_map (fun b : List UInt8 => [encStr b]) (fun b => b.length ≤ maxLen) xs (fun x hx => by
    obtain ⟨m, z, hz⟩ := hr x hx
    obtain ⟨s, hs, _, hl⟩ := DataW.trod_string Try.underlying9 hz
    exact ⟨s.data.toList, by rw [hs], by rw [Array.length_toList]; exact hl⟩)
  refine ⟨_, l, rfl, cells_elemsG ?_, hs⟩
  rw [List.map_map]
  exact hx
end Go.Proofs.Ytmcekpgmebanaaa
