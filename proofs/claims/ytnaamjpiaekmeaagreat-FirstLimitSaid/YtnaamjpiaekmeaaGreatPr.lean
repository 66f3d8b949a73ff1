/- Several texts in one: FrsPr, FofPr. -/
import Derived.Test.YtnaamjpiaekmeaaGreatMm
import Derived.Test.YtnaamjpiaekmeaaGreatDt
import Derived.Test.YtnaamjpiaekmeaaGreatMn
set_option linter.unusedVariables false
set_option linter.unusedSimpArgs false
namespace Go.Proofs.YtnaamjpiaekmeaaGreat
open Go.RowKit
def FirstGot (g : GramG) (k : Int) (w : World) (e : Ending) (w' : World) : Prop := ∃ v ls c, e = .returned (.tuple #[v, .int .i64 c]) ∧ setsAt w' v ls ∧ FirstOut g k ls c ∧ Fr [] w w'
def ProgFirst : Prop := ∀ (g : GramG) (gv : Value) (k : Int) (w : World), gramAt w gv g → SizeG g → IntG g → Calls Tryz.prog 11 #[gv, .int .i64 k] w (FirstGot g k w)
theorem out_arg {g : GramG} {k : Int} {ls : List Words} {c : Int} (h : FirstOut g k ls c) (hb : k < 1 ∨ 4 < k ∨ checkG g ≠ 0) : ls = [] ∧ c = 1 := by
 rcases h with ⟨-, h⟩ | ⟨h, -⟩
 ·exact h
 ·omega
theorem check_valid {g : GramG} (h : checkG g = 0) : ValidG g := by
 refine Classical.byContradiction fun hv => ?_
 unfold checkG at h
 rw [if_pos (by unfold validB; rw [boolOf_false hv])] at h
 exact absurd h (by decide)
theorem check_prod {g : GramG} (h : checkG g = 0) : ∀ i, i < g.names.length → ProdN g i := by
 refine Classical.byContradiction fun hp => ?_
 unfold checkG at h
 rw [if_neg (by unfold validB; rw [boolOf_true (check_valid h)]; decide), if_pos (boolOf_false hp)] at h
 exact absurd h (by decide)
theorem out_good {g : GramG} {k : Int} {ls : List Words} {c : Int} (h : FirstOut g k ls c) (ht : g.terms.length ≤ 3) (h1 : 1 ≤ k) (h4 : k ≤ 4) (hc : checkG g = 0) : c = 0 ∧ ls.length = g.names.length ∧ ∀ i (h : i < ls.length), IsFirst g k [(i : Int)] (ls[i]'h) := by
 rcases h with ⟨h, -⟩ | ⟨-, ⟨h, -⟩ | ⟨-, h⟩⟩
 ·omega
 ·exact absurd h (notOverG (check_valid hc) ht h4)
 ·exact h
end Go.Proofs.YtnaamjpiaekmeaaGreat
namespace Go.Proofs.YtnaamjpiaekmeaaGreat
open Go.RowKit
def IntS (ss : List Int) : Prop := ∀ s ∈ ss, -9223372036854775808 ≤ s ∧ s ≤ 9223372036854775807
def FofGot (r : Option Words) (w : World) (e : Ending) (w' : World) : Prop := ∃ v, e = .returned (.tuple #[v, .bool r.isSome]) ∧ strsAt w' v (r.getD []) ∧ Fr [] w w'
def ProgFof : Prop := ∀ (ls : List Words) (lv : Value) (k : Int) (ss : List Int) (sv : Value) (w : World), 1 ≤ k → k ≤ 4 → setsAt w lv ls → intsAt w sv ss → (∀ l ∈ ls, setW l ∧ ShortW l) → IntS ss → ss.length ≤ 100000 →
 Calls Tryz.prog 17 #[lv, .int .i64 k, sv] w (FofGot (fofG ls k ss) w)
def FofYes (l : Words) (w : World) (e : Ending) (w' : World) : Prop := ∃ v, e = .returned (.tuple #[v, .bool true]) ∧ strsAt w' v l ∧ Fr [] w w'
def FofNo (w : World) (e : Ending) (w' : World) : Prop := ∃ v, e = .returned (.tuple #[v, .bool false]) ∧ strsAt w' v [] ∧ Fr [] w w'
theorem FofGot.yes {r : Option Words} {l : Words} {w w' : World} {e : Ending} (h : FofGot r w e w') (hr : r = some l) : FofYes l w e w' := by subst hr; exact h
theorem FofGot.no {r : Option Words} {w w' : World} {e : Ending} (h : FofGot r w e w') (hr : r = none) : FofNo w e w' := by subst hr; exact h
theorem first_short {g : GramG} {k : Int} (hk4 : k ≤ 4) {ss : List Int} {l : Words} (h : IsFirst g k ss l) (hl : l.length ≤ 100000) : ShortW l :=
 ⟨hl, fun x hx => by
  obtain ⟨y, -, rfl⟩ := (h.2 x).1 hx
  unfold cutW
  rw [List.length_take]
  omega⟩
theorem sets_short {g : GramG} (hv : ValidG g) (ht : g.terms.length ≤ 3) {k : Int} (hk4 : k ≤ 4) {ls : List Words} (hF : FirstSets g k ls) : ∀ l ∈ ls, setW l ∧ ShortW l := fun l hl => by
 obtain ⟨i, hi, rfl⟩ := List.getElem_of_mem hl
 have h := hF.2 i hi
 have hn : ¬ OverP g k [(i : Int)] := notOver hv ht hk4 (fun s hs => by obtain rfl : s = (i : Int) := (by simpa using hs); omega)
 rw [OverP.iff h] at hn
 exact ⟨h.1, first_short hk4 h (by omega)⟩
end Go.Proofs.YtnaamjpiaekmeaaGreat
