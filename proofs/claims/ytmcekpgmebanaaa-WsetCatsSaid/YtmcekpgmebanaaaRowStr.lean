/- A row of strings of the call's own. -/
import Derived.Test.YtmcekpgmebanaaaBs
import Derived.Test.YtmcekpgmebanaaaDt
import Derived.Test.YtmcekpgmebanaaaProg
set_option linter.unusedVariables false
set_option linter.unusedSimpArgs false
namespace Go.Proofs.Ytmcekpgmebanaaa
open Go.RowKit


theorem infoStrW : (Try.prog.info? 9).map (fun i => (i.zero, i.size, i.bytes)) = some (some (.string ⟨#[]⟩), 1, 16) := by kernel_rfl
/-- A row of strings of the call's own. -/
def RowS (w0 wx : World) (v : Value) (l : List (List UInt8)) : Prop := wx.ownsRow w0.heap.size 9 1 v l.length (l.map encStr) ∧ Fr [] w0 wx
theorem RowS.strs {w0 wx : World} {v : Value} {l : List (List UInt8)} (h : RowS w0 wx v l) : strsAt wx v l := cellsAt_of_owns (by rw [List.length_map]; exact h.1)
theorem RowS.push {w0 w4 w5 : World} {v v5 : Value} {l : List (List UInt8)} {x : List UInt8} (h : RowS w0 w4 v l) (h5 : w5.ownsRow w0.heap.size 9 1 v5 (l.length + 1) (l.map encStr ++ [encStr x])) (hf : Fr v.ownBlock.toList w4 w5) : RowS w0 w5 v5 (l ++ [x]) :=
  ⟨by rw [List.length_append, List.map_append]; exact h5, h.2.own h.1 hf⟩
theorem RowS.fr {w0 w w' : World} {v : Value} {l : List (List UInt8)} (h : RowS w0 w v l) (hf : Fr [] w w') : RowS w0 w' v l := ⟨owns_kept h.1 hf (by simp), h.2.trans hf (by simp) (by simp)⟩
theorem RowS.one (w : World) : RowS w (w.alloc (.cells #[.string ⟨#[]⟩] 9)) (.slice (some ⟨w.heap.size, 0, none⟩) 1 1) [[]] :=
  ⟨owns_of_heap (cur := [.string ⟨#[]⟩]) (heap_alloc_new w _) (Nat.le_refl _) rfl (Nat.le_refl _) (by simp [maxLen]) rfl, Fr.alloc _ _⟩
theorem RowS.form {w0 w : World} {v : Value} {l : List (List UInt8)} (h : RowS w0 w v l) : ∃ a c, v = .slice a l.length c ∧ l.length ≤ c ∧ c ≤ maxLen := owns_slice h.1
end Go.Proofs.Ytmcekpgmebanaaa
