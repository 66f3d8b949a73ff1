/- What the program's grammars (layer 14) must do. -/
import Derived.Test.YtcmgnhjffhaajaaGrmDat
import Derived.Test.YtcmgnhjffhaajaaMm
import Derived.Test.YtcmgnhjffhaajaaParPr
namespace Go.Proofs.Ytcmgnhjffhaajaa
open Go.RowKit

def ProgValid : Prop := ∀ (g : GramG) (gv : Value) (w : World), gramAt w gv g → SizeG g → IntG g → Calls Try.prog 10 #[gv] w fun e w' => e = .returned (.bool (validB g)) ∧ Fr [] w w'
def ProgSame : Prop := ∀ (g h : GramG) (gv hv : Value) (w : World), gramAt w gv g → gramAt w hv h → SizeG g → SizeG h → Calls Try.prog 12 #[gv, hv] w fun e w' => e = .returned (.bool (sameB g h)) ∧ Fr [] w w'
def ROf (l : List Int) (w : World) (e : Ending) (w' : World) : Prop := ∃ v, e = .returned v ∧ intsAt w' v l ∧ Fr [] w w'
def ProgOf : Prop := ∀ (g : GramG) (a : Int) (gv : Value) (w : World), gramAt w gv g → SizeG g → Calls Try.prog 9 #[gv, .int .i64 a] w (ROf (ofG g a) w)
def ProgIsT : Prop := ∀ (s : Int) (w : World), Calls Try.prog 18 #[.int .i64 s] w fun e w' => e = .returned (.bool (decide (s < 0))) ∧ Fr [] w w'
def RLines (ls : List LineD) (w : World) (e : Ending) (w' : World) : Prop := ∃ v, e = .returned v ∧ linesAt w' v ls ∧ Fr [] w w'
noncomputable def linesOf (g : GramG) : List LineD := if validB g = true then linesG g else []
def ProgLines : Prop := ∀ (g : GramG) (gv : Value) (w : World), gramAt w gv g → SizeG g → IntG g → Calls Try.prog 14 #[gv] w (RLines (linesOf g) w)
def RRes (R : ResD) (w : World) (e : Ending) (w' : World) : Prop := ∃ gv, e = .returned (.tuple #[gv, .int .i64 R.err]) ∧ gramAt w' gv R.g ∧ Fr [] w w'
def ProgResolve : Prop := ∀ (ls : List LineD) (lv : Value) (w : World), linesAt w lv ls → SizeL ls → Calls Try.prog 16 #[lv] w (RRes (resolveG ls) w)
end Go.Proofs.Ytcmgnhjffhaajaa
