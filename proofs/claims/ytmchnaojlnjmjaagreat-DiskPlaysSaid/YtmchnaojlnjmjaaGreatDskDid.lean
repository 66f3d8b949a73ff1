/- Behind a method of the program's disk (layer 11): what it answers, and the disk that it leaves. -/
import Derived.Test.YtmchnaojlnjmjaaGreatDskMath
import Derived.Test.YtmchnaojlnjmjaaGreatBs
import Derived.Test.YtmchnaojlnjmjaaGreatFt
namespace Go.Proofs.YtmchnaojlnjmjaaGreat
open Go.RowKit

def DidK (PK : World → Nat → Nat → DskD → List Nat → Prop) (px pm : Nat) (d : DskD) (v : Value) (B : List Nat) (w : World) (e : Ending) (w' : World) : Prop :=
  ∃ B', e = .returned v ∧ PK w' px pm d B' ∧ Fr B w w' ∧ ∀ j ∈ B', j ∈ B ∨ w.heap.size ≤ j
theorem DidK.after {PK : World → Nat → Nat → DskD → List Nat → Prop} {px pm : Nat} {d : DskD} {v : Value} {B : List Nat} {w w1 w' : World} {e : Ending} (hf : Fr [] w w1) (h : DidK PK px pm d v B w1 e w') : DidK PK px pm d v B w e w' := by
  obtain ⟨B', rfl, h1, h2, h3⟩ := h
  have := hf.size
  exact ⟨B', rfl, h1, hf.trans h2 (by simp) (fun _ h _ => h), fun j hj => (h3 j hj).elim .inl (fun q => .inr (by omega))⟩
theorem DidK.val {PK : World → Nat → Nat → DskD → List Nat → Prop} {px pm : Nat} {d : DskD} {u v : Value} {B : List Nat} {w w' : World} (h : DidK PK px pm d u B w (.returned u) w') : DidK PK px pm d v B w (.returned v) w' := by
  obtain ⟨B', -, h1, h2, h3⟩ := h
  exact ⟨B', rfl, h1, h2, h3⟩
theorem fault_new (w : World) (a i : Int) : faultsAt (w.alloc (.cells #[.int .i64 a, .int .i64 i] 78)) (.slice (some ⟨w.heap.size, 0, none⟩) 1 1) [⟨a, i⟩] := by
  have hb := heap_alloc_new w (.cells #[.int .i64 a, .int .i64 i] 78)
  refine .inr ⟨w.heap.size, 0, 1, rfl, by simp, by simp [maxLen], by simp [World.size_alloc], fun k hk => ?_⟩
  obtain rfl : k = 0 := by simpa using hk
  refine ⟨rfl, fun j x hx => ?_⟩
  match j, hx with
  | 0, hx => rw [cell_of_heap hb]; simpa [FltD.cells] using hx
  | 1, hx => rw [cell_of_heap hb]; simpa [FltD.cells] using hx
end Go.Proofs.YtmchnaojlnjmjaaGreat
