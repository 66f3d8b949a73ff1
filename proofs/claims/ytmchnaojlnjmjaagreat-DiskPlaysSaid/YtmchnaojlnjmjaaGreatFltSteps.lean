/- Package fault: Steps (a text of its own: not every cut holds it). -/
import Derived.Test.YtmchnaojlnjmjaaGreatFt
namespace Go.Proofs.YtmchnaojlnjmjaaGreat
open Go.RowKit

theorem msteps_any (p : Nat) (B : List Nat) (n : Int) (dn : Bool) (l : List FltD) (w : World) (h : isM w p B n dn l) :
    Calls Tryz.prog 37 #[.pointer (some ⟨p, 0, none⟩)] w fun e w' => e = .returned (.int .i64 n) ∧ w = w' := by
  obtain ⟨v, -, hp, -⟩ := h
  obtain ⟨c0, c1, c2, -, -, -⟩ := three_of_heap hp
  clear hp
  go_enter Tryz.func37, Tryz.ntmps37
  go_wp2_with fail
  go_ret
  exact ⟨rfl, rfl⟩
end Go.Proofs.YtmchnaojlnjmjaaGreat
