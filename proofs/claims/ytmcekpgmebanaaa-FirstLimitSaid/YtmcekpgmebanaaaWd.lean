/- Several texts in one: RowStr, CatW. -/
import Derived.Laws.Concat
import Derived.Test.YtmcekpgmebanaaaBs
import Derived.Test.YtmcekpgmebanaaaDt
import Derived.Test.YtmcekpgmebanaaaProg
set_option linter.unusedVariables false
set_option linter.unusedSimpArgs false
/-! A row of strings of the call's own. -/
namespace Go.Proofs.Ytmcekpgmebanaaa
open Go.RowKit


theorem infoStrW : (Try.prog.info? 9).map (fun i => (i.zero, i.size, i.bytes)) = some (some (.string ⟨#[]⟩), 1, 16) := by kernel_rfl
/-- A row of strings of the call's own. -/
def RowS (w0 wx : World) (v : Value) (l : List (List UInt8)) : Prop := wx.ownsRow w0.heap.size 9 1 v l.length (l.map encStr) ∧ Fr [] w0 wx
theorem RowS.strs {w0 wx : World} {v : Value} {l : List (List UInt8)} (h : RowS w0 wx v l) : strsAt wx v l := cellsAt_of_owns (by rw [List.length_map]; exact h.1)
theorem RowS.push {w0 w4 w5 : World} {v v5 : Value} {l : List (List UInt8)} {x : List UInt8} (h : RowS w0 w4 v l) (h5 : w5.ownsRow w0.heap.size 9 1 v5 (l.length + 1) (l.map encStr ++ [encStr x])) (hf : Fr v.ownBlock.toList w4 w5) : RowS w0 w5 v5 (l ++ [x]) :=
  ⟨by rw [List.length_append, List.map_append]; exact h5, h.2.own h.1 hf⟩
theorem RowS.fr {w0 w w' : World} {v : Value} {l : List (List UInt8)} (h : RowS w0 w v l) (hf : Fr [] w w') : RowS w0 w' v l := ⟨owns_kept h.1 hf (by simp), h.2.trans hf (by simp) (by simp)⟩
theorem RowS.one (w : World) : RowS w (w.alloc (.cells #[.string ⟨#[]⟩] 9)) (.slice (some ⟨w.heap.size, 0, none⟩) 1 1) [[]] :=
  ⟨owns_of_heap (cur := [.string ⟨#[]⟩]) (heap_alloc_new w _) (Nat.le_refl _) rfl (Nat.le_refl _) (by simp [maxLen]) rfl, Fr.alloc _ _⟩
theorem RowS.form {w0 w : World} {v : Value} {l : List (List UInt8)} (h : RowS w0 w v l) : ∃ a c, v = .slice a l.length c ∧ l.length ≤ c ∧ c ≤ maxLen := owns_slice h.1
end Go.Proofs.Ytmcekpgmebanaaa

/-! Two strings, one behind the other. Nothing here names the program. -/
namespace Go.Proofs.Ytmcekpgmebanaaa
open Go.RowKit

theorem cat_w {P : Program} {A B C : Array UInt8} {x y : List UInt8} (hA : A = x.toArray) (hB : B = y.toArray) (hC : C = (x ++ y).toArray) (hl : (x ++ y).length ≤ 9223372036854775807) (w : World) : (Op.stringOp .add { data := A } { data := B }).run P w = .ok (.string { data := C }) w := by
  subst hA hB hC
  rw [List.length_append] at hl
  rw [run_string_add_sum w _ _ (by simp [ByteArray.size]; omega), ByteArray.mk_append_mk]
end Go.Proofs.Ytmcekpgmebanaaa
