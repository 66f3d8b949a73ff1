/- How many entries a directory has; names that are texts: plain mathematics. -/
import Derived.Test.YtmchnaojlnjmjaaGreatDirMath
import Derived.Test.YtmchnaojlnjmjaaGreatBs
namespace Go.Proofs.YtmchnaojlnjmjaaGreat
open Go.RowKit

theorem withoutL_le (l : List Ent) (m : List UInt8) : (withoutL l m).length ≤ l.length := List.length_filter_le _ _
theorem insL_length (x : Ent) : ∀ l : List Ent, (insL x l).length = l.length + 1
  | [] => rfl
  | e :: r => by rw [insL]; split <;> simp [insL_length x r]
theorem withL_le (l : List Ent) (m : List UInt8) (n : Int) : (withL l m n).length ≤ l.length + 1 := by
  have := withoutL_le l m
  rw [withL, insL_length]; omega
theorem applyL_le (l : List Ent) (o : OpD) : (applyL l o).length ≤ l.length + 1 := by
  unfold applyL
  split
  · exact withL_le _ _ _
  · split
    · have := withoutL_le l o.a; omega
    · split
      · omega
      · next v _ => have := withL_le (withoutL l o.a) o.b v; have := withoutL_le l o.a; omega
def okNames (l : List Ent) : Prop := ∀ e ∈ l, e.1.length ≤ maxLen
def okOps (l : List OpD) : Prop := ∀ o ∈ l, o.a.length ≤ maxLen ∧ o.b.length ≤ maxLen
end Go.Proofs.YtmchnaojlnjmjaaGreat
