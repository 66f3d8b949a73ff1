/- The program's parser (layer 13): begin and add, from one state to the next. -/
import Derived.Test.YtboljohhkfidfaaPrsD
namespace Go.Proofs.Ytboljohhkfidfaa
open Go.RowKit

theorem pbegin_colon (p base : Nat) (ev : Value) (wh : Bool) (ls : List LineD) (n : List UInt8) (w : World) (hst : ColonSt base w p ev wh ls n) (hbase : base ≤ w.heap.size) (hk : ls.length ≤ 1000000) :
    Calls Try.prog 29 #[.pointer (some ⟨p, 0, none⟩)] w fun e w' => e = .returned (.tuple #[]) ∧ BodySt base w' p ev wh ls n [] [] ∧ Below base w w' := by
  obtain ⟨hpb, lv, vs, hp, hv, hrow, hold⟩ := hst
  refine (pbegin_raw p lv ev (encStr n) (.slice none 0 0) wh base w.heap.size ls.length 0 (lineC ls vs) [] w hp hrow (lineC_len hv) (World.ownsRow_nil _ _ _ _) hbase (Nat.le_refl _) (by omega) hk).mono ?_
  rintro e w' ⟨rfl, av', hp', hrow', har', hf⟩
  have hlt : ∀ k ∈ (Value.slice none 0 0).ownBlock.toList ++ lv.ownBlock.toList, k ∈ lv.ownBlock.toList := fun k hk => by simpa [Value.ownBlock] using hk
  refine ⟨rfl, ⟨hpb, lv, vs, av', [], .slice none 0 0, w, w, hp', hv, hrow', hold, ?_, hbase, rfl, by simpa using har', fun i h => by simp at h, ?_, Nat.le_refl _, hf.size, World.ownsRow_nil _ _ _ _⟩, ?_⟩
  · refine (KeepT.refl _ w).fr hf (fun k hm => .inr (fun t ht => ?_))
    simp only [List.mem_cons, List.not_mem_nil, or_false] at ht
    rcases ht with rfl | rfl
    · exact (notT_row hrow (t := pI) (by decide)).one (hlt k hm)
    · exact (notT_row hrow (t := pA) (by decide)).one (hlt k hm)
  · refine (KeepT.refl _ w).fr hf (fun k hm => .inr (fun t ht => ?_))
    simp only [List.mem_cons, List.not_mem_nil, or_false] at ht
    subst ht
    exact (notT_row hrow (t := pI) (by decide)).one (hlt k hm)
  · exact hf.below hbase (fun i hi => (hrow.lt i (Option.mem_toList.1 (hlt i hi))).1)
theorem pbegin_body (p base : Nat) (ev : Value) (wh : Bool) (ls : List LineD) (n : List UInt8) (als : List (List ItemD)) (cur : List ItemD) (w : World) (hst : BodySt base w p ev wh ls n als cur) (hbase : base ≤ w.heap.size) (hk : ls.length ≤ 1000000) (ha : als.length ≤ 900000) :
    Calls Try.prog 29 #[.pointer (some ⟨p, 0, none⟩)] w fun e w' => e = .returned (.tuple #[]) ∧ BodySt base w' p ev wh ls n (als ++ [cur]) [] ∧ Below base w w' := by
  obtain ⟨hpb, lv, vs, av, us, cv, w1, w2, hp, hv, hrow, hold, k1, s1, ul, har, hao, k2, s2, s3, hir⟩ := hst
  refine (pbegin_raw p lv ev (encStr n) av wh base w1.heap.size ls.length (als.length + 1) (lineC ls vs) (us ++ [cv]) w hp hrow (lineC_len hv) har hbase (by omega) (by omega) hk).mono ?_
  rintro e w' ⟨rfl, av', hp', hrow', har', hf⟩
  refine ⟨rfl, ⟨hpb, lv, vs, av', us ++ [cv], .slice none 0 0, w1, w, hp', hv, hrow', hold, ?_, s1, by simp [ul], by simpa using har', fun i h h' => ?_, ?_, by omega, hf.size, World.ownsRow_nil _ _ _ _⟩, ?_⟩
  · refine k1.fr hf (fun k hm => ?_)
    rcases List.mem_append.1 hm with hm | hm
    · exact .inl (har.lt k (Option.mem_toList.1 hm)).1
    · refine .inr (fun t ht => ?_)
      simp only [List.mem_cons, List.not_mem_nil, or_false] at ht
      rcases ht with rfl | rfl
      · exact (notT_row hrow (t := pI) (by decide)).one hm
      · exact (notT_row hrow (t := pA) (by decide)).one hm
  · by_cases hx : i < us.length
    · rw [List.getElem_append_left hx, List.getElem_append_left (by omega)]
      exact k2.items (by simp) (hao i hx (by omega))
    · have h1 : i = us.length := by simp at h; omega
      subst h1
      simp only [List.getElem_concat_length]
      have : (als ++ [cur])[us.length]'h' = cur := by simp only [ul]; simp
      rw [this]
      exact owns_base hir (fun j hj => by have := ((show w.ownsRow w2.heap.size pI 2 cv cur.length _ from hir).lt j hj).1; omega)
  · refine (KeepT.refl _ w).fr hf (fun k hm => .inr (fun t ht => ?_))
    simp only [List.mem_cons, List.not_mem_nil, or_false] at ht
    subst ht
    rcases List.mem_append.1 hm with hm | hm
    · exact (notT_row har (t := pI) (by decide)).one hm
    · exact (notT_row hrow (t := pI) (by decide)).one hm
  · refine hf.below hbase (fun i hi => ?_)
    rcases List.mem_append.1 hi with hm | hm
    · have := (har.lt i (Option.mem_toList.1 hm)).1; omega
    · exact (hrow.lt i (Option.mem_toList.1 hm)).1
theorem padd_body (p base : Nat) (ev : Value) (wh : Bool) (ls : List LineD) (n : List UInt8) (als : List (List ItemD)) (cur : List ItemD) (it : ItemD) (w : World) (hst : BodySt base w p ev wh ls n als cur) (hbase : base ≤ w.heap.size) (hk : ls.length ≤ 1000000) (ha : als.length ≤ 1000000) (hc : cur.length ≤ 1000000) :
    Calls Try.prog 38 #[.pointer (some ⟨p, 0, none⟩), .agg #[.bool it.term, encStr it.text]] w fun e w' => e = .returned (.tuple #[]) ∧ BodySt base w' p ev wh ls n als (cur ++ [it]) ∧ Below base w w' := by
  obtain ⟨hpb, lv, vs, av, us, cv, w1, w2, hp, hv, hrow, hold, k1, s1, ul, har, hao, k2, s2, s3, hir⟩ := hst
  have hir' : w.ownsRow w2.heap.size pI 2 cv cur.length (cur.map ItemD.cells).flatten := hir
  refine (padd_raw p lv ev (encStr n) av cv wh base w1.heap.size w2.heap.size ls.length als.length (lineC ls vs) us cur it w hp hrow (lineC_len hv) ul har hir s3 hc ha hk).mono ?_
  rintro e w' ⟨rfl, cv', hp', hrow', har', hir2, hf⟩
  refine ⟨rfl, ⟨hpb, lv, vs, av, us, cv', w1, w2, hp', hv, hrow', hold, ?_, s1, ul, har', hao, ?_, s2, by have := hf.size; omega, hir2⟩, ?_⟩
  · refine k1.fr hf (fun k hm => ?_)
    rcases List.mem_append.1 hm with hm | hm
    · have := (hir'.lt k (Option.mem_toList.1 hm)).1
      exact .inl (by omega)
    · exact .inl (har.lt k (Option.mem_toList.1 hm)).1
  · refine k2.fr hf (fun k hm => ?_)
    rcases List.mem_append.1 hm with hm | hm
    · exact .inl (hir'.lt k (Option.mem_toList.1 hm)).1
    · refine .inr (fun t ht => ?_)
      simp only [List.mem_cons, List.not_mem_nil, or_false] at ht
      subst ht
      exact (notT_row har (t := pI) (by decide)).one hm
  · refine hf.below hbase (fun i hi => ?_)
    rcases List.mem_append.1 hi with hm | hm
    · have := (hir'.lt i (Option.mem_toList.1 hm)).1; omega
    · have := (har.lt i (Option.mem_toList.1 hm)).1; omega
/-- The last line is whole. -/
theorem BodySt.whole {base p : Nat} {w : World} {ev : Value} {wh : Bool} {ls : List LineD} {n : List UInt8} {als : List (List ItemD)} {cur : List ItemD} (h : BodySt base w p ev wh ls n als cur) : NameSt base w p ev wh (ls ++ [⟨n, als ++ [cur]⟩]) := by
  obtain ⟨hpb, lv, vs, av, us, cv, w1, w2, hp, hv, hrow, hold, k1, s1, ul, har, hao, k2, s2, s3, hir⟩ := h
  refine ⟨hpb, lv, hp, linesR_snoc hv hrow (fun i h h' => k1.alts (by simp) (by simp) (hold i h h')) ?_⟩
  refine altsR_snoc ul (owns_base har (fun j hj => by have := (har.lt j hj).1; omega)) (fun i h h' => k2.items (by simp) (hao i h h')) (owns_base hir (fun j hj => by have := ((show w.ownsRow w2.heap.size pI 2 cv cur.length _ from hir).lt j hj).1; omega))
end Go.Proofs.Ytboljohhkfidfaa
