/- The builder that a call has laid first, and what it holds. -/
import Derived.Test.YtoijlmbnkmhamaaBld
import Derived.Test.YtoijlmbnkmhamaaKit
namespace Go.Proofs.Ytoijlmbnkmhamaa
open Go.RowKit


/-- The builder that the call has laid first, and what it holds. -/
def BldAt (w0 : World) (l : List UInt8) (w : World) : Prop := Lib.IsBuilderF tB tU w0.heap.size w0.heap.size (Lib.byteCells l) w ∧ Below w0.heap.size w0 w
theorem bldF_fr {B b : Nat} {p : Value} {bs : List Value} {w w' : World} (h : Lib.BuilderAtF tB tU B b p bs w) (hf : Fr [] w w') : Lib.BuilderAtF tB tU B b p bs w' := by
  obtain ⟨hB, v, hb, hown, hne⟩ := h
  refine ⟨hB, v, hf.heap hb (by simp), ⟨hown.1, ?_⟩, hne⟩
  rcases hown.2 with h2 | ⟨g, cap, cur, fz, hv, h1, hg, rest⟩
  · exact .inl h2
  · exact .inr ⟨g, cap, cur, fz, hv, h1, hf.heap hg (by simp), rest⟩
theorem BldAt.fr {w0 w w' : World} {l : List UInt8} (h : BldAt w0 l w) (hf : Fr [] w w') : BldAt w0 l w' := by
  refine ⟨?_, h.2.trans (hf.below h.2.size (by simp))⟩
  rcases h.1 with h1 | h1
  · exact .inl (bldF_fr h1 hf)
  · exact .inr (bldF_fr h1 hf)
theorem BldAt.new (w0 : World) : BldAt w0 [] (w0.alloc (.cells #[.pointer none, .slice none 0 0] tB)) :=
  ⟨.inl ⟨Nat.le_refl _, _, heap_alloc_new w0 _, ⟨rfl, .inl ⟨rfl, rfl⟩⟩, by simp [Value.ownBlock]⟩, (Fr.alloc w0 _).below (Nat.le_refl _) (by simp)⟩
theorem BldAt.base {w0 w : World} {l : List UInt8} (h : BldAt w0 l w) : Fr [] w0 w := Fr.of_below h.2
theorem bwrite {w0 w : World} {l s : List UInt8} {A : Array UInt8} (h : BldAt w0 l w) (hA : A = s.toArray) (hlen : l.length + s.length ≤ 140737488355328) (n : Int) (hn : n = (s.length : Int)) :
    Calls Try.prog 15 #[.pointer (some ⟨w0.heap.size, 0, none⟩), .string { data := A }] w fun e w' => e = .returned (.tuple #[.int .i64 n, .nilIface]) ∧ BldAt w0 (l ++ s) w' ∧ Lib.OthersKept tU (some w0.heap.size) w w' := by
  subst hA hn
  have hb : (Lib.byteCells l).length = l.length := by simp [Lib.byteCells]
  have hs : (ByteArray.mk s.toArray).size = s.length := by simp [ByteArray.size]
  refine (pwrite_raw w0.heap.size w0.heap.size (Lib.byteCells l) ⟨s.toArray⟩ w h.1 (by rw [hb, hs]; exact hlen) h.2.size).mono ?_
  rintro e w' ⟨he, h1, h2, h3⟩
  refine ⟨by rw [he, hs], ⟨.inr ?_, h.2.trans h2⟩, h3⟩
  have e1 : Lib.byteCells (l ++ s) = Lib.byteCells l ++ Lib.strCells ⟨s.toArray⟩ := by rw [show Lib.strCells ⟨s.toArray⟩ = Lib.byteCells s from rfl]; simp [Lib.byteCells]
  rw [e1]
  exact h1
theorem bstring {w0 w : World} {l : List UInt8} (h : BldAt w0 l w) :
    Calls Try.prog 17 #[.pointer (some ⟨w0.heap.size, 0, none⟩)] w fun e w' => e = .returned (.string { data := l.toArray }) ∧ Below w0.heap.size w0 w' := by
  refine (Try.Builder_String_any_k w0.heap.size w0.heap.size l w h.1 h.2.size).mono ?_
  rintro e w' ⟨he, -, h2, -⟩
  exact ⟨he, h.2.trans h2⟩
end Go.Proofs.Ytoijlmbnkmhamaa
