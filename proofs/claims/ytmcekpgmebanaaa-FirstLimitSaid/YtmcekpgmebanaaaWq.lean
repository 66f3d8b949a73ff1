/- Several texts in one: WsGo, WsPc, WsPu. -/
import Derived.Test.YtmcekpgmebanaaaDt
import Derived.Test.YtmcekpgmebanaaaMm
import Derived.Test.YtmcekpgmebanaaaMn
import Derived.Test.YtmcekpgmebanaaaProg
set_option linter.unusedVariables false
set_option linter.unusedSimpArgs false
/-! What a function that answers with a set answers. (Split out of WsB.) -/
namespace Go.Proofs.Ytmcekpgmebanaaa
open Go.RowKit

/-- What is returned reads as these words. -/
def GotS (l : Words) (w : World) (e : Ending) (w' : World) : Prop := ∃ v, e = .returned v ∧ strsAt w' v l ∧ Fr [] w w'
end Go.Proofs.Ytmcekpgmebanaaa

/-! What Cat must do. (Split out of WsD.) -/
namespace Go.Proofs.Ytmcekpgmebanaaa
open Go.RowKit

/-- A set of at most 4096 words, and true; else nothing, and false. -/
def CatGot (l : Words) (w : World) (e : Ending) (w' : World) : Prop := ∃ v, e = .returned (.tuple #[v, .bool (decide (l.length ≤ 4096))]) ∧ strsAt w' v (if l.length ≤ 4096 then l else []) ∧ Fr [] w w'
def ProgWCat : Prop := ∀ (k : Int) (a b : Words) (v u : Value) (w : World), -9223372036854775808 ≤ k → k ≤ 9223372036854775807 → strsAt w v a → strsAt w u b → setW a → setW b → ShortW a → ShortW b → Calls Try.prog 20 #[.int .i64 k, v, u] w (CatGot (catW k a b) w)
/-- At most 4096. -/
def CatYes (l : Words) (w : World) (e : Ending) (w' : World) : Prop := ∃ v, e = .returned (.tuple #[v, .bool true]) ∧ strsAt w' v l ∧ Fr [] w w'
theorem CatGot.yes {l : Words} {w w' : World} {e : Ending} (h : CatGot l w e w') (hl : l.length ≤ 4096) : CatYes l w e w' := by
  obtain ⟨v, he, hs, hf⟩ := h
  rw [decide_eq_true hl] at he
  rw [if_pos hl] at hs
  exact ⟨v, he, hs, hf⟩
end Go.Proofs.Ytmcekpgmebanaaa

/-! What Union must do. (Split out of WsD.) -/
namespace Go.Proofs.Ytmcekpgmebanaaa
open Go.RowKit

def ProgWUnion : Prop := ∀ (ls : List Words) (v : Value) (w : World), setsAt w v ls → (∀ l ∈ ls, setW l) → ShortW ls.flatten → Calls Try.prog 18 #[v] w (GotS (ofW ls.flatten) w)
end Go.Proofs.Ytmcekpgmebanaaa
