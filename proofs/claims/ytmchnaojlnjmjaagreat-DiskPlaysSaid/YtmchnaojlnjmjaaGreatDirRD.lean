/- What the document's directory (layer 9) reads as. -/
import Derived.Test.YtmchnaojlnjmjaaGreatDirL
import Derived.Test.YtmchnaojlnjmjaaGreatDirG
namespace Go.Proofs.YtmchnaojlnjmjaaGreat
open Go.RowKit Go.Maps

/-- What the document's directory reads as. -/
def RD (w : World) (nv sv ov : Value) (now safe : List Ent) (ops : List OpD) : Prop := namesR w 0 nv now ∧ namesR w 0 sv safe ∧ opsR w ov ops
theorem RD.below {w w' : World} {nv sv ov : Value} {now safe : List Ent} {ops : List OpD} (h : RD w nv sv ov now safe ops) (hf : Fr [] w w') : RD w' nv sv ov now safe ops := ⟨h.1.below hf, h.2.1.below hf, h.2.2.below hf⟩
theorem owns_keptD {w w' : World} {base sz n p m : Nat} {e : TypeId} {v : Value} {xs : List Value} {B : List Nat} {now safe : List Ent} {ops : List OpD} (h : w.ownsRow base e sz v n xs) (hD : isD w p B now safe ops m) (h1 : e ≠ 101) (h2 : e ≠ 122) (hf : Fr B w w') : w'.ownsRow base e sz v n xs := by
  refine owns_kept h hf (fun k hk => ?_)
  rcases h.2 with ⟨rfl, _⟩ | ⟨g, cap, cur, rfl, _, hg, _⟩
  · cases hk
  · obtain rfl : g = k := by simpa [Value.ownBlock] using hk
    exact hD.apart hg h1 h2
theorem RD.keptD {w w' : World} {p m : Nat} {nv sv ov : Value} {now safe n2 s2 : List Ent} {ops o2 : List OpD} {B : List Nat} (h : RD w nv sv ov now safe ops) (hD : isD w p B n2 s2 o2 m) (hf : Fr B w w') : RD w' nv sv ov now safe ops :=
  ⟨owns_keptD h.1 hD (by decide) (by decide) hf, owns_keptD h.2.1 hD (by decide) (by decide) hf, owns_keptD h.2.2 hD (by decide) (by decide) hf⟩
theorem RD.slices {w : World} {nv sv ov : Value} {now safe : List Ent} {ops : List OpD} (h : RD w nv sv ov now safe ops) : ∃ a0 c0 a1 c1 a2 c2, nv = .slice a0 now.length c0 ∧ sv = .slice a1 safe.length c1 ∧ ov = .slice a2 ops.length c2 := by
  obtain ⟨a0, c0, h0, -, -⟩ := owns_slice' h.1
  obtain ⟨a1, c1, h1, -, -⟩ := owns_slice' h.2.1
  obtain ⟨a2, c2, h2, -, -⟩ := owns_slice h.2.2
  exact ⟨a0, c0, a1, c1, a2, c2, h0, h1, h2⟩
end Go.Proofs.YtmchnaojlnjmjaaGreat
