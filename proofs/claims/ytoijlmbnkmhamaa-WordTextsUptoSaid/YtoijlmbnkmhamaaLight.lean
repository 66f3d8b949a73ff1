/- What is of small bulk: slices and strings that came in, each part no larger than what is allowed. -/
import Derived.Test.YtoijlmbnkmhamaaLift
import Derived.Test.YtoijlmbnkmhamaaRows
import Derived.Test.YtoijlmbnkmhamaaRow
import Derived.SizedLaws
import Derived.ChangeSame
import Derived.ChangeMaps5
namespace Go.Proofs.Ytoijlmbnkmhamaa
open Go.ChangeShapes Go.WideShapes Go.ChangeAt Go.RowKit


def light {H : Type} (d : DataW H) : Prop := Rows.uptoBulk d ≤ 1048576
theorem bulk_all {H : Type} : ∀ (l : List (DataW H)) (d : DataW H), d ∈ l → Rows.uptoBulk d ≤ Rows.uptoBulkAll l
  | x :: l, d, h => by
    simp only [Rows.uptoBulkAll]
    rcases List.mem_cons.1 h with rfl | h
    · omega
    · have := bulk_all l d h; omega
theorem slice_light {P : Program} {H : Type} {enc : TypeId × Value → H} {w : World} {t e : TypeId} {sz : Nat} {a : Option Addr} {len cap fuel : Nat} {X : DataW H × List MemPlace} (ht : P.underlying t = some (.slice e)) (hc : P.cellsOf e = sz) (hsz : 0 < sz)
    (hf : DataW.trod enc P w 0 (fun _ => true) true fuel t [.slice a len cap] = some X) (hw : light X.1) :
    ∃ xs, elemsAt w (.slice a len cap) sz xs ∧ xs.length = len ∧ ∀ x ∈ xs, ∃ n y, DataW.trod enc P w 0 (fun _ => true) true n e x = some y ∧ light y.1 := by
  obtain ⟨xs, hx, hl, -⟩ := slice_of_trod (d := X.1) (ps := X.2) ht hc hsz ⟨fuel, hf⟩
  refine ⟨xs, hx, hl, fun x hxx => ?_⟩
  obtain ⟨i, hi, rfl⟩ := List.getElem_of_mem hxx
  rcases hx with ⟨_, _, _, _, rfl⟩ | ⟨b, off, cap', e1, _, _, hb, hcell⟩
  · simp at hi
  · simp only [Value.slice.injEq] at e1
    obtain ⟨rfl, -, rfl⟩ := e1
    rcases DataW.trod_slice ht hf with ⟨hcs, _⟩ | ⟨x, l, c, elems, rest, n, rfl, hcs, hX, _, hlc, hm, hel, hat, _⟩
    · simp at hcs
    · simp at hcs
      obtain ⟨rfl, rfl, rfl⟩ := hcs
      have h1 := hat i (by omega)
      rw [hc, List.getElem?_eq_getElem (by omega)] at h1
      obtain ⟨cs, hcs, hyy⟩ := Option.bind_eq_some_iff.1 h1
      have hadd : ∀ k, (⟨b, off, none⟩ : Addr).add k = ⟨b, off + k, none⟩ := fun k => by unfold Addr.add; split <;> simp_all
      rw [hadd] at hcs
      obtain ⟨-, q1, q2⟩ := World.cells?_some hcs
      obtain ⟨g1, g2⟩ := hcell i hi
      have hcsx : cs = xs[i]'hi := by
        refine List.ext_getElem (by omega) (fun j p1 p2 => ?_)
        have u1 := q2 j (by omega)
        have u2 := g2 j _ (List.getElem?_eq_getElem p2)
        have hadd2 : (⟨b, off + i * sz, none⟩ : Addr).add j = ⟨b, off + i * sz + j, none⟩ := by unfold Addr.add; split <;> simp_all
        rw [hadd2, u2, List.getElem?_eq_getElem p1] at u1
        exact (Option.some.inj u1).symm
      subst hcsx
      refine ⟨n, _, hyy, ?_⟩
      unfold light at hw ⊢
      rw [hX] at hw
      simp only [Rows.uptoBulk] at hw
      have hle := bulk_all _ _ (List.mem_map.2 ⟨_, List.getElem_mem (by omega), rfl⟩ : (elems[i]'(by omega)).1 ∈ elems.map (fun x => x.1))
      omega
theorem slice_formL {P : Program} {H : Type} {enc : TypeId × Value → H} {w : World} {m : Nat} {t e : TypeId} {cs : List Value} {y : DataW H × List MemPlace} (ht : P.underlying t = some (.slice e)) (h : DataW.trod enc P w 0 (fun _ => true) true m t cs = some y) : ∃ a len cap, cs = [.slice a len cap] := by
  rcases DataW.trod_slice ht h with ⟨q, _⟩ | ⟨a, len, cap, _, _, _, _, q, _⟩
  · exact ⟨_, _, _, q⟩
  · exact ⟨_, _, _, q⟩
theorem str_light {H : Type} {s : ByteArray} (h : light (H := H) (.lit (.string s.data.toList))) : s.data.toList.length ≤ 1048576 := by
  unfold light at h
  simp only [Rows.uptoBulk] at h
  omega
theorem cells_elems1 {w : World} {v : Value} {cs : List Value} (h : elemsAt w v 1 (cs.map fun u => [u])) : cellsAt w v cs := by
  rcases h with ⟨a, cap, rfl, h1, h2⟩ | ⟨b, off, cap, rfl, h1, h2, h3, h4⟩
  · exact .inl ⟨a, cap, rfl, h1, by simpa using h2⟩
  · refine .inr ⟨b, off, cap, by rw [List.length_map], by simpa using h1, h2, fun i hi => ?_⟩
    have := (h4 i (by simpa using hi)).2 0 (cs[i]'hi) (by simp)
    simpa using this
end Go.Proofs.Ytoijlmbnkmhamaa
