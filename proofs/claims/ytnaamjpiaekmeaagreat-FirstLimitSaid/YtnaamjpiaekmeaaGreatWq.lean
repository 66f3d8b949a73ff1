/- Several texts in one: WsGo, WsPc. -/
import Derived.Test.YtnaamjpiaekmeaaGreatDt
import Derived.Test.YtnaamjpiaekmeaaGreatMm
import Derived.Test.YtnaamjpiaekmeaaGreatMn
import Derived.Test.YtnaamjpiaekmeaaGreatProg
set_option linter.unusedVariables false
set_option linter.unusedSimpArgs false
namespace Go.Proofs.YtnaamjpiaekmeaaGreat
open Go.RowKit
def GotS (l : Words) (w : World) (e : Ending) (w' : World) : Prop := ∃ v, e = .returned v ∧ strsAt w' v l ∧ Fr [] w w'
end Go.Proofs.YtnaamjpiaekmeaaGreat
namespace Go.Proofs.YtnaamjpiaekmeaaGreat
open Go.RowKit
def CatGot (l : Words) (w : World) (e : Ending) (w' : World) : Prop := ∃ v, e = .returned (.tuple #[v, .bool (decide (l.length ≤ 4096))]) ∧ strsAt w' v (if l.length ≤ 4096 then l else []) ∧ Fr [] w w'
def ProgWCat : Prop := ∀ (k : Int) (a b : Words) (v u : Value) (w : World), -9223372036854775808 ≤ k → k ≤ 9223372036854775807 → strsAt w v a → strsAt w u b → setW a → setW b → ShortW a → ShortW b → Calls Tryz.prog 38 #[.int .i64 k, v, u] w (CatGot (catW k a b) w)
def CatYes (l : Words) (w : World) (e : Ending) (w' : World) : Prop := ∃ v, e = .returned (.tuple #[v, .bool true]) ∧ strsAt w' v l ∧ Fr [] w w'
theorem CatGot.yes {l : Words} {w w' : World} {e : Ending} (h : CatGot l w e w') (hl : l.length ≤ 4096) : CatYes l w e w' := by
 obtain ⟨v, he, hs, hf⟩ := h
 rw [decide_eq_true hl] at he
 rw [if_pos hl] at hs
 exact ⟨v, he, hs, hf⟩
end Go.Proofs.YtnaamjpiaekmeaaGreat
