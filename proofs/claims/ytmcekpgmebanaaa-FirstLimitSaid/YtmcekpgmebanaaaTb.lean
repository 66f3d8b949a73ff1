/- Several texts in one: BoolsD, BoolR, InfB, WelO, WelCk. -/
import Derived.Test.YtmcekpgmebanaaaBs
import Derived.Test.YtmcekpgmebanaaaProg
import Derived.Test.YtmcekpgmebanaaaDt
import Derived.Test.YtmcekpgmebanaaaMm
set_option linter.unusedVariables false
set_option linter.unusedSimpArgs false
/-! Slices of bools: what they read like. Nothing here names the program. -/
namespace Go.Proofs.Ytmcekpgmebanaaa
open Go.RowKit


def boolsAt (w : World) (v : Value) (l : List Bool) : Prop := cellsAt w v (l.map Value.bool)
theorem boolsAt.below {w w' : World} {v : Value} {l : List Bool} (h : boolsAt w v l) (hf : Fr [] w w') : boolsAt w' v l := cellsAt.below h hf
theorem boolsAt.form {w : World} {v : Value} {l : List Bool} (h : boolsAt w v l) : ∃ a cap, v = .slice a l.length cap ∧ l.length ≤ cap ∧ cap ≤ 9223372036854775807 := by
  obtain ⟨a, c, rfl, h1, h2⟩ := cellsAt.form h
  rw [List.length_map] at h1 ⊢
  exact ⟨a, c, rfl, h1, by simpa [maxLen] using h2⟩
theorem bool_cell {w : World} {a0 : Option Addr} {n cap : Nat} {l : List Bool} (h : boolsAt w (.slice a0 n cap) l) (k : Nat) (hk : k < l.length) : ∃ b off, a0 = some ⟨b, off, none⟩ ∧ w.cell? ⟨b, off + k, none⟩ = some (.bool (l[k]'hk)) := by
  obtain ⟨b, off, rfl, -, hx⟩ := cellsAt.get h (i := k) (by rw [List.length_map]; exact hk)
  exact ⟨b, off, rfl, by have := hx k (by rw [List.length_map]; exact hk); rwa [List.getElem_map] at this⟩
def RBools (l : List Bool) (w : World) (e : Ending) (w' : World) : Prop := ∃ v, e = .returned v ∧ boolsAt w' v l ∧ Fr [] w w'
end Go.Proofs.Ytmcekpgmebanaaa

/-! Rows of bools of the call's own. It names of the program the type bool alone. -/
namespace Go.Proofs.Ytmcekpgmebanaaa
open Go.RowKit


/-- A row of the call's own that holds these marks. -/
def boolRow (w : World) (g : Nat) (l : List Bool) : Prop := w.heap[g]? = some (.cells (l.map Value.bool).toArray 4 (0, 0))
theorem boolRow.below {w w' : World} {g : Nat} {l : List Bool} (h : boolRow w g l) (hf : Fr [] w w') : boolRow w' g l := hf.heap h (by simp)
theorem boolRow.at {w : World} {g : Nat} {l : List Bool} (h : boolRow w g l) (hm : l.length ≤ maxLen) (n : Nat) (hn : n = l.length) : boolsAt w (.slice (some ⟨g, 0, none⟩) n n) l := by
  subst hn
  refine .inr ⟨g, 0, l.length, by rw [List.length_map], by rw [List.length_map]; exact Nat.le_refl _, hm, fun i hi => ?_⟩
  rw [cell_of_heap h]
  simp only [List.length_map] at hi
  simp [hi]
theorem boolRow.set {w : World} {g : Nat} {l : List Bool} (h : boolRow w g l) (k : Nat) (v : Bool) : boolRow (w.setCell ⟨g, k, none⟩ (.bool v)) g (l.set k v) := by
  unfold boolRow at h ⊢
  rw [heap_setCell_same h]
  simp [List.map_set]
theorem boolRow.free {w : World} {g : Nat} {l : List Bool} (h : boolRow w g l) (i : Nat) : w.frozen? ⟨g, i, none⟩ = false := free_of_heap h i
theorem boolRow.cell {w : World} {g : Nat} {l : List Bool} (h : boolRow w g l) {i : Nat} (hi : i < l.length) : w.cell? ⟨g, i, none⟩ = some (.bool (l[i]'hi)) := by
  rw [cell_of_heap h]
  simp [hi]
end Go.Proofs.Ytmcekpgmebanaaa

/-! What the program says of the type bool. -/
namespace Go.Proofs.Ytmcekpgmebanaaa
open Go.RowKit


theorem infoBool : (Try.prog.info? 4).map (fun i => (i.zero, i.size, i.bytes)) = some (some (.bool false), 1, 1) := by kernel_rfl
end Go.Proofs.Ytmcekpgmebanaaa

/-! What Productive, Reached, Shortest (layer 15) may give: plain definitions. (Split out of WelPr.) -/
namespace Go.Proofs.Ytmcekpgmebanaaa
open Go.RowKit
noncomputable def prodO (g : GramG) : List Bool := if validB g = true then prodL g else []
noncomputable def reachO (g : GramG) : List Bool := if validB g = true then reachL g else []
/-- What Shortest may give. -/
def ShortL (g : GramG) (l : List Int) : Prop := if validB g = true then l.length = g.names.length ∧ ∀ i (h : i < l.length), ShortIs g i (l[i]'h) else l = []
def RShort (g : GramG) (w : World) (e : Ending) (w' : World) : Prop := ∃ v l, e = .returned v ∧ intsAt w' v l ∧ ShortL g l ∧ Fr [] w w'
end Go.Proofs.Ytmcekpgmebanaaa

/-! What the program's Check (layer 15) must do. -/
namespace Go.Proofs.Ytmcekpgmebanaaa
open Go.RowKit

def ProgCheck : Prop := ∀ (g : GramG) (gv : Value) (w : World), gramAt w gv g → SizeG g → IntG g → Calls Try.prog 38 #[gv] w fun e w' => e = .returned (.int .i64 (checkG g)) ∧ Fr [] w w'
end Go.Proofs.Ytmcekpgmebanaaa
