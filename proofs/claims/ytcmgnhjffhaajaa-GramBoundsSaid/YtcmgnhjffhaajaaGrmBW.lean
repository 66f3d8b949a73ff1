/- A grammar that the statement builds step by step (layer 14): what stands in memory. -/
import Derived.Test.YtcmgnhjffhaajaaGrmDat
import Derived.Test.YtcmgnhjffhaajaaGrmBd
import Derived.Test.YtcmgnhjffhaajaaBs
namespace Go.Proofs.Ytcmgnhjffhaajaa
open Go.RowKit

structure GBv (w2 : World) (q p : Nat) (ns : List (List UInt8)) (rs : List RuleG) (nv rv : Value) (vs : List Value) (wx : World) : Prop where
  box : wx.heap[q]? = some (.cells #[nv, .slice (some ⟨p, 0, none⟩) 1 1, rv] 25 (0, 0))
  names : wx.ownsRow w2.heap.size 9 1 nv ns.length (ns.map encStr)
  len : vs.length = rs.length
  rules : wx.ownsRow w2.heap.size 31 2 rv rs.length ((rs.zip vs).map fun x => [intV x.1.left, x.2]).flatten
  right : ∀ i (h : i < vs.length) (h' : i < rs.length), wx.ownsRow w2.heap.size 3 1 (vs[i]'h) (rs[i]'h').right.length ((rs[i]'h').right.map intV)
  fr : Fr [q] w2 wx
theorem own_ge {w : World} {base sz n : Nat} {e : TypeId} {v : Value} {xs : List Value} (h : w.ownsRow base e sz v n xs) {q : Nat} (hq : q < base) : ∀ k, v.ownBlock = some k → k ∉ [q] := fun k hk => by
  have := (h.lt k hk).1
  simp; omega
theorem GBv.below {w2 : World} {q p : Nat} {ns : List (List UInt8)} {rs : List RuleG} {nv rv : Value} {vs : List Value} {wx wy : World} (h : GBv w2 q p ns rs nv rv vs wx) (hf : Fr [] wx wy) : GBv w2 q p ns rs nv rv vs wy :=
  ⟨hf.heap h.box (by simp), owns_kept h.names hf (by simp), h.len, owns_kept h.rules hf (by simp), fun i a b => owns_kept (h.right i a b) hf (by simp), h.fr.trans hf (fun _ z _ => z) (by simp)⟩
theorem row_fr {w2 wr wA w5 : World} {q sz n : Nat} {e : TypeId} {v : Value} {xs : List Value} (h : Fr [q] w2 wr) (hA : Fr [] wr wA) (hr : wr.ownsRow w2.heap.size e sz v n xs) (hf : Fr v.ownBlock.toList wA w5) : Fr [q] w2 w5 :=
  (h.trans hA (fun _ z _ => z) (n := [q]) (by simp)).trans hf (fun _ z _ => z) (fun i hi hlt => by
    have hk : v.ownBlock = some i := by simpa [Option.mem_toList] using hi
    have := (hr.lt i hk).1
    omega)
theorem GBv.name {w2 : World} {q p : Nat} {ns : List (List UInt8)} {rs : List RuleG} {nv rv : Value} {vs : List Value} {wr wA w5 : World} (h : GBv w2 q p ns rs nv rv vs wr) (hq : q < w2.heap.size) (hA : Fr [] wr wA) {nm : List UInt8} {nv' : Value}
    (hn : w5.ownsRow w2.heap.size 9 1 nv' (ns.length + 1) (ns.map encStr ++ [encStr nm])) (hf : Fr nv.ownBlock.toList wA w5) : GBv w2 q p (ns ++ [nm]) rs nv' rv vs (w5.setCell ⟨q, 0, none⟩ nv') := by
  have hA' := h.below hA
  have hqn : q ∉ nv.ownBlock.toList := fun hm => by
    have hk : nv.ownBlock = some q := by simpa [Option.mem_toList] using hm
    have := (h.names.lt q hk).1
    omega
  have hs := Fr.set0 w5 q 0 nv'
  refine ⟨?_, ?_, h.len, ?_, fun i a b => ?_, ?_⟩
  · exact heap_setCell_same (hf.heap hA'.box hqn) (i := 0) nv'
  · have := owns_kept hn hs (own_ge hn hq)
    simpa using this
  · have h1 := owns_keptT hA'.rules (notT_row hA'.names (by decide)) hf
    exact owns_kept h1 hs (own_ge h1 hq)
  · have h1 := owns_keptT (hA'.right i a b) (notT_row hA'.names (by decide)) hf
    exact owns_kept h1 hs (own_ge h1 hq)
  · exact (row_fr h.fr hA h.names hf).trans hs (fun _ z _ => z) (fun _ z _ => z)
theorem GBv.rule {w2 : World} {q p : Nat} {ns : List (List UInt8)} {rs : List RuleG} {nv rv : Value} {vs : List Value} {wr wA w5 : World} (h : GBv w2 q p ns rs nv rv vs wr) (hq : q < w2.heap.size) (hA : Fr [] wr wA) {l : Int} {r : List Int} {kv rv' : Value}
    (hr : w5.ownsRow w2.heap.size 31 2 rv' (rs.length + 1) (((rs.zip vs).map fun x => [intV x.1.left, x.2]).flatten ++ [intV l, kv])) (hk : wA.ownsRow w2.heap.size 3 1 kv r.length (r.map intV)) (hf : Fr rv.ownBlock.toList wA w5) : GBv w2 q p ns (rs ++ [⟨l, r⟩]) nv rv' (vs ++ [kv]) (w5.setCell ⟨q, 2, none⟩ rv') := by
  have hA' := h.below hA
  have hqn : q ∉ rv.ownBlock.toList := fun hm => by
    have hk : rv.ownBlock = some q := by simpa [Option.mem_toList] using hm
    have := (h.rules.lt q hk).1
    omega
  have hs := Fr.set0 w5 q 2 rv'
  have hlen := h.len
  refine ⟨?_, ?_, by simp [hlen], ?_, fun i a b => ?_, ?_⟩
  · exact heap_setCell_same (hf.heap hA'.box hqn) (i := 2) rv'
  · have h1 := owns_keptT hA'.names (notT_row hA'.rules (by decide)) hf
    exact owns_kept h1 hs (own_ge h1 hq)
  · have h1 := owns_kept hr hs (own_ge hr hq)
    rw [List.zip_append hlen.symm]
    simpa using h1
  · by_cases hi : i < vs.length
    · have hi' : i < rs.length := by omega
      have h1 := owns_keptT (hA'.right i hi hi') (notT_row hA'.rules (by decide)) hf
      have h2 := owns_kept h1 hs (own_ge h1 hq)
      rw [List.getElem_append_left hi, List.getElem_append_left hi']
      exact h2
    · have hi' : i = vs.length := by simp at a; omega
      subst hi'
      have h1 := owns_keptT hk (notT_row hA'.rules (by decide)) hf
      have h2 := owns_kept h1 hs (own_ge h1 hq)
      have e1 : (vs ++ [kv])[vs.length]'a = kv := by simp
      have e2 : (rs ++ [(⟨l, r⟩ : RuleG)])[vs.length]'b = ⟨l, r⟩ := by simp [hlen]
      rw [e1, e2]
      exact h2
  · exact (row_fr h.fr hA h.rules hf).trans hs (fun _ z _ => z) (fun _ z _ => z)
theorem GBv.gram {w2 : World} {q p : Nat} {ns : List (List UInt8)} {rs : List RuleG} {nv rv : Value} {vs : List Value} {wx : World} (h : GBv w2 q p ns rs nv rv vs wx) (hpq : p ≠ q) (hp : w2.heap[p]? = some (.cells #[encStr [97]] 9 (0, 0))) :
    gramAt wx (.agg #[nv, .slice (some ⟨p, 0, none⟩) 1 1, rv]) ⟨ns, [[97]], rs⟩ := by
  refine ⟨_, _, _, rfl, ?_, ?_, ?_⟩
  · exact cellsAt_of_owns (by rw [List.length_map]; exact h.names)
  · refine .inr ⟨p, 0, 1, rfl, Nat.le_refl _, by simp [maxLen], fun i hi => ?_⟩
    obtain rfl : i = 0 := by simp at hi; exact hi
    rw [cell_of_heap (h.fr.heap hp (by simpa using hpq))]
    rfl
  · refine ⟨vs, h.len, elems_of_owns (by rw [List.length_map, List.length_zip, h.len, Nat.min_self]; exact h.rules) (fun x hx => by obtain ⟨f, _, rfl⟩ := List.mem_map.1 hx; rfl), fun i a b => ?_⟩
    exact cellsAt_of_owns (by rw [List.length_map]; exact h.right i a b)
end Go.Proofs.Ytcmgnhjffhaajaa
