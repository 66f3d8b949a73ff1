/- A grammar that came in (layer 14): how it reads. -/
import Derived.Test.YtcmgnhjffhaajaaIntLift
import Derived.Test.YtcmgnhjffhaajaaGrmDat
import Derived.Test.YtcmgnhjffhaajaaMm
import Derived.ChangeMaps5
namespace Go.Proofs.Ytcmgnhjffhaajaa
open Go.ChangeShapes Go.WideShapes Go.ChangeAt Go.RowKit

theorem cellsG : Try.prog.cellsOf 25 = 3 := by kernel_rfl
theorem cellsR : Try.prog.cellsOf 31 = 2 := by kernel_rfl
theorem cellsS : Try.prog.cellsOf 9 = 1 := by kernel_rfl
theorem cellsI : Try.prog.cellsOf 3 = 1 := by kernel_rfl
theorem cellsSs : Try.prog.cellsOf 22 = 1 := by kernel_rfl
theorem cellsIs : Try.prog.cellsOf 28 = 1 := by kernel_rfl
theorem cellsRs : Try.prog.cellsOf 23 = 1 := by kernel_rfl
theorem slice_formG {P : Program} {H : Type} {enc : TypeId × Value → H} {w : World} {m : Nat} {t e : TypeId} {cs : List Value} {y : DataW H × List MemPlace} (ht : P.underlying t = some (.slice e)) (h : DataW.trod enc P w 0 (fun _ => true) true m t cs = some y) : ∃ a len cap, cs = [.slice a len cap] := by
  rcases DataW.trod_slice ht h with ⟨q, _⟩ | ⟨a, len, cap, _, _, _, _, q, _⟩
  · exact ⟨_, _, _, q⟩
  · exact ⟨_, _, _, q⟩
theorem cells_elemsG {w : World} {v : Value} {cs : List Value} (h : elemsAt w v 1 (cs.map fun u => [u])) : cellsAt w v cs := by
  rcases h with ⟨a, cap, rfl, h1, h2⟩ | ⟨b, off, cap, rfl, h1, h2, h3, h4⟩
  · exact .inl ⟨a, cap, rfl, h1, by simpa using h2⟩
  · refine .inr ⟨b, off, cap, by rw [List.length_map], by simpa using h1, h2, fun i hi => ?_⟩
    have := (h4 i (by simpa using hi)).2 0 (cs[i]'hi) (by simp)
    simpa using this
set_option maxRecDepth 100000 in
theorem strs_of_trod {H : Type} {enc : TypeId × Value → H} {w : World} {n : Nat} {cs : List Value} {y : DataW H × List MemPlace} (h : DataW.trod enc Try.prog w 0 (fun _ => true) true n 22 cs = some y) :
    ∃ v l, cs = [v] ∧ strsAt w v l ∧ ∀ x ∈ l, x.length ≤ maxLen := by
  obtain ⟨a, len, cap, rfl⟩ := slice_formG Try.underlying22 h
  obtain ⟨xs, hx, -, hr⟩ := slice_of_trod (d := y.1) (ps := y.2) Try.underlying22 cellsS (by decide) ⟨n, h⟩
  obtain ⟨l, rfl, hs⟩ := exists_map (fun b : List UInt8 => [encStr b]) (fun b => b.length ≤ maxLen) xs (fun x hx => by
    obtain ⟨m, z, hz⟩ := hr x hx
    obtain ⟨s, hs, _, hl⟩ := DataW.trod_string Try.underlying9 hz
    exact ⟨s.data.toList, by rw [hs], by rw [Array.length_toList]; exact hl⟩)
  refine ⟨_, l, rfl, cells_elemsG ?_, hs⟩
  rw [List.map_map]
  exact hx
set_option maxRecDepth 100000 in
theorem rule_of_trod {H : Type} {enc : TypeId × Value → H} {w : World} {n : Nat} {cs : List Value} {y : DataW H × List MemPlace} (h : DataW.trod enc Try.prog w 0 (fun _ => true) true n 31 cs = some y) :
    ∃ (r : RuleG) (v : Value), cs = [intV r.left, v] ∧ intsAt w v r.right ∧ ∀ s ∈ r.right, -9223372036854775808 ≤ s := by
  obtain ⟨y0, y1, m, rfl, hl, h0, h1⟩ := Go.ChangeShapes.trod_struct2 Try.underlying31 h
  rw [cellsR] at hl
  match cs, hl with
  | [c0, c1], _ =>
    rw [cellsI] at h0
    rw [cellsIs] at h1
    obtain ⟨k, hk, _⟩ := DataW.trod_int Try.underlying3 h0
    have h1' : DataW.trod enc Try.prog w 0 (fun _ => true) true m 28 [c1] = some y1 := h1
    obtain ⟨a, len, cap, e⟩ := slice_formG Try.underlying28 h1'
    obtain rfl : c1 = .slice a len cap := by simpa using e
    obtain ⟨l, hc, -, hb⟩ := ints_of_trod (d := y1.1) (ps := y1.2) Try.underlying28 Try.underlying3 cellsI ⟨m, h1'⟩
    simp at hk
    exact ⟨⟨k, l⟩, _, by rw [hk]; rfl, hc, fun s hs => (hb s hs).1⟩
theorem choose_rules {w : World} : ∀ (xs : List (List Value)), (∀ c ∈ xs, ∃ (r : RuleG) (v : Value), c = [intV r.left, v] ∧ intsAt w v r.right ∧ ∀ s ∈ r.right, -9223372036854775808 ≤ s) →
    ∃ (vs : List Value) (l : List RuleG), xs = ((l.zip vs).map fun p => [intV p.1.left, p.2]) ∧ vs.length = l.length ∧ (∀ i (h : i < vs.length) (h' : i < l.length), intsAt w (vs[i]'h) (l[i]'h').right) ∧ ∀ r ∈ l, ∀ s ∈ r.right, -9223372036854775808 ≤ s
  | [], _ => ⟨[], [], rfl, rfl, by simp, by simp⟩
  | c :: xs, h => by
    obtain ⟨x, v, rfl, hb, hs⟩ := h c (by simp)
    obtain ⟨vs, l, rfl, hl, hi, hss⟩ := choose_rules xs (fun y hy => h y (by simp [hy]))
    refine ⟨v :: vs, x :: l, rfl, by simp [hl], fun i h1 h2 => ?_, fun a ha => ?_⟩
    · cases i with
      | zero => exact hb
      | succ i => exact hi i (by simpa using h1) (by simpa using h2)
    · rcases List.mem_cons.1 ha with rfl | ha
      · exact hs
      · exact hss a ha
set_option maxRecDepth 100000 in
theorem rules_of_trod {H : Type} {enc : TypeId × Value → H} {w : World} {n : Nat} {cs : List Value} {y : DataW H × List MemPlace} (h : DataW.trod enc Try.prog w 0 (fun _ => true) true n 23 cs = some y) :
    ∃ v l, cs = [v] ∧ rulesAt w v l ∧ ∀ r ∈ l, ∀ s ∈ r.right, -9223372036854775808 ≤ s := by
  obtain ⟨a, len, cap, rfl⟩ := slice_formG Try.underlying23 h
  obtain ⟨xs, hx, -, hr⟩ := slice_of_trod (d := y.1) (ps := y.2) Try.underlying23 cellsR (by decide) ⟨n, h⟩
  obtain ⟨vs, l, rfl, hl, hi, hs⟩ := choose_rules xs (fun x hx => by
    obtain ⟨m, z, hz⟩ := hr x hx
    exact rule_of_trod hz)
  exact ⟨_, l, rfl, ⟨vs, hl, hx, hi⟩, hs⟩
/-- What is known of a grammar that came in. -/
structure CameG (w : World) (v : Value) (g : GramG) : Prop where
  at_ : gramAt w v g
  int : IntG g
  name : ∀ n ∈ g.names, n.length ≤ maxLen
  term : ∀ n ∈ g.terms, n.length ≤ maxLen
set_option maxRecDepth 100000 in
theorem gram_of_trod {H : Type} {enc : TypeId × Value → H} {W : World} {base : Nat} {v : Value} {d : DataW H} {ps : List MemPlace} (hv : Value.okWide Try.prog W .any base 25 v)
    (h : DataW.Trod enc Try.prog W 0 (fun _ => true) true 25 v d ps) : ∃ g : GramG, CameG W v g := by
  obtain ⟨cs, rfl, hsz⟩ := okWide_struct Try.underlying25 hv
  rw [cellsG] at hsz
  obtain ⟨fuel, hf⟩ := h
  obtain ⟨y0, y1, y2, n, hl, h0, h1, h2⟩ := read_struct3 Try.underlying25 hf
  obtain ⟨cs⟩ := cs
  match cs, hsz with
  | [c0, c1, c2], _ =>
    rw [cellsSs] at h0 h1
    rw [cellsRs] at h2
    obtain ⟨v0, l0, e0, g0, s0⟩ := strs_of_trod h0
    obtain ⟨v1, l1, e1, g1, s1⟩ := strs_of_trod h1
    obtain ⟨v2, l2, e2, g2, s2⟩ := rules_of_trod h2
    have e0' : c0 = v0 := by simpa [Value.cells] using e0
    have e1' : c1 = v1 := by simpa [Value.cells] using e1
    have e2' : c2 = v2 := by simpa [Value.cells] using e2
    subst e0' e1' e2'
    exact ⟨⟨l0, l1, l2⟩, ⟨_, _, _, rfl, g0, g1, g2⟩, s2, s0, s1⟩
end Go.Proofs.Ytcmgnhjffhaajaa
