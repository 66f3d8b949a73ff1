/- A [][]byte that came in reads as slices of bytes. -/
import Derived.Test.YtjiighgabfkmpaaDoorLift
import Derived.Test.YtjiighgabfkmpaaDoorPart
namespace Go.Proofs.YtjiighgabfkmpaaDoor
open Go.ChangeShapes Go.WideShapes Go.ChangeAt Go.RowKit

/-- The cells of a []byte inside a row. -/
theorem bytes_of_cells {P : Program} {H : Type} {enc : TypeId × Value → H} {w : World} {t e : TypeId} {n : Nat} {x : List Value} {y : DataW H × List MemPlace} (ht : P.underlying t = some (.slice e)) (he : P.underlying e = some (.int .u8)) (hc : P.cellsOf e = 1)
    (h : DataW.trod enc P w 0 (fun _ => true) true n t x = some y) : ∃ v bs, x = [v] ∧ bytesAt w v bs := by
  have key : ∀ a len cap, x = [.slice a len cap] → ∃ v bs, x = [v] ∧ bytesAt w v bs := fun a len cap hx => by
    obtain ⟨bs, hb, _⟩ := bytes_of_trod (enc := enc) (d := y.1) (ps := y.2) (a := a) (len := len) (cap := cap) ht he hc ⟨n, by rw [hx] at h; simpa [Value.cells] using h⟩
    exact ⟨_, bs, hx, hb⟩
  rcases open_ints ht he hc h with ⟨hx, _⟩ | ⟨a, len, cap, zs, hx, _⟩
  · exact key _ _ _ hx
  · exact key _ _ _ hx

theorem choose_parts {w : World} : ∀ (xs : List (List Value)), (∀ x ∈ xs, ∃ v bs, x = [v] ∧ bytesAt w v bs) → ∃ (vs : List Value) (parts : List (List UInt8)), xs = vs.map (fun v => [v]) ∧ vs.length = parts.length ∧ ∀ i (h : i < vs.length) (h' : i < parts.length), bytesAt w (vs[i]'h) (parts[i]'h')
  | [], _ => ⟨[], [], rfl, rfl, by simp⟩
  | x :: xs, h => by
    obtain ⟨v, bs, rfl, hb⟩ := h x (by simp)
    obtain ⟨vs, parts, rfl, hl, hi⟩ := choose_parts xs (fun y hy => h y (by simp [hy]))
    refine ⟨v :: vs, bs :: parts, rfl, by simp [hl], fun i h1 h2 => ?_⟩
    cases i with
    | zero => exact hb
    | succ i => exact hi i (by simpa using h1) (by simpa using h2)

theorem parts_of_trod {P : Program} {H : Type} {enc : TypeId × Value → H} {w : World} {t s e : TypeId} {a : Option Addr} {len cap : Nat} {d : DataW H} {ps : List MemPlace} (ht : P.underlying t = some (.slice s)) (hs : P.underlying s = some (.slice e)) (he : P.underlying e = some (.int .u8)) (hcs : P.cellsOf s = 1) (hce : P.cellsOf e = 1)
    (h : DataW.Trod enc P w 0 (fun _ => true) true t (.slice a len cap) d ps) : ∃ parts, partsAt w (.slice a len cap) parts ∧ parts.length = len := by
  obtain ⟨xs, hx, hl, hr⟩ := slice_of_trod ht hcs (by decide) h
  obtain ⟨vs, parts, rfl, hvl, hv⟩ := choose_parts xs (fun x hx' => by
    obtain ⟨n, y, hy⟩ := hr x hx'
    exact bytes_of_cells hs he hce hy)
  rw [List.length_map] at hl
  refine ⟨parts, ⟨vs, ?_, hvl, hv⟩, by omega⟩
  rcases hx with ⟨a', c', e1, hm, e2⟩ | ⟨b, off, c', e1, h1, h2, hb, h3⟩
  · obtain rfl : vs = [] := by simpa using e2
    exact .inl ⟨a', c', e1, hm, rfl⟩
  · rw [List.length_map] at e1 h1
    refine .inr ⟨b, off, c', e1, h1, h2, fun i hi => ?_⟩
    have := (h3 i (by simpa using hi)).2 0 (vs[i]'hi) (by simp)
    simpa using this
end Go.Proofs.YtjiighgabfkmpaaDoor
