/- Parsing (layer 13): mathematics and small laws, of no program. -/
import Derived.Test.YtcmgnhjffhaajaaParAs
import Derived.Test.YtcmgnhjffhaajaaParPr
namespace Go.Proofs.Ytcmgnhjffhaajaa
open Go.RowKit


theorem body_suffix : ∀ (r : List Tk) (cur : List ItemD) (done : List (List ItemD)), ∃ n, (bodyD r cur done).left = r.drop n
  | [], cur, done => ⟨0, rfl⟩
  | t :: r, cur, done => by
    unfold bodyD
    split
    · obtain ⟨n, h⟩ := body_suffix r (cur ++ [⟨decide (t.1 = 2), t.2⟩]) done; exact ⟨n + 1, h⟩
    · split
      · obtain ⟨n, h⟩ := body_suffix r [] (done ++ [cur]); exact ⟨n + 1, h⟩
      · split
        · exact ⟨1, rfl⟩
        · exact ⟨0, rfl⟩
theorem rule_suffix (r : List Tk) : ∃ n, (ruleD r).left = r.drop n := by
  cases r with
  | nil => exact ⟨0, rfl⟩
  | cons t r =>
    by_cases h1 : t.1 = 1
    · rw [rule_yes h1]
      cases r with
      | nil => exact ⟨1, rfl⟩
      | cons c q =>
        by_cases h3 : c.1 = 3
        · rw [name_yes h3]
          obtain ⟨n, h⟩ := body_suffix q [] []
          exact ⟨n + 2, h⟩
        · rw [name_no h3]; exact ⟨1, rfl⟩
    · rw [rule_no h1]; exact ⟨0, rfl⟩
theorem fromK_drop (ts : List TokD) (k n : Nat) : (fromK ts k).drop n = fromK ts (k + n) := by unfold fromK; rw [← List.map_drop, List.drop_drop]
theorem rule_from {ts : List TokD} {k : Nat} (hk : k ≤ ts.length) : (ruleD (fromK ts k)).left = fromK ts (ts.length - (ruleD (fromK ts k)).left.length) := by
  obtain ⟨n, h⟩ := rule_suffix (fromK ts k)
  have hl := congrArg List.length h
  rw [List.length_drop, fromK_len] at hl
  rw [h, fromK_drop]
  by_cases hn : k + n ≤ ts.length
  · congr 1
    rw [fromK_len]; omega
  · have e1 : fromK ts (k + n) = [] := by unfold fromK; rw [List.drop_eq_nil_of_le (by omega)]; rfl
    rw [e1]; exact (fromK_end ts).symm
/-- What was read before, and what the rest gives. -/
def linesB (acc : List LineD) (X : LinesD) : LinesD := if X.ok then ⟨true, acc ++ X.lines, 0⟩ else X
theorem linesB_step {acc : List LineD} {r : List Tk} (h : r ≠ []) (hk : (ruleD r).ok = true) : linesB acc (linesD r) = linesB (acc ++ [(ruleD r).line]) (linesD (ruleD r).left) := by
  rw [lines_ok h hk]
  unfold linesB
  cases hx : (linesD (ruleD r).left).ok with
  | true => simp
  | false => simp [hx]
theorem altsR.lower {tI tA : TypeId} {w : World} {base base' : Nat} {v : Value} {l : List (List ItemD)} (h : altsR tI tA w base v l) (hb : base' ≤ base) : altsR tI tA w base' v l := by
  obtain ⟨vs, e, hr, hi⟩ := h
  exact ⟨vs, e, owns_base hr (fun j hj => Nat.le_trans hb (hr.lt j hj).1), fun i a b => owns_base (hi i a b) (fun j hj => Nat.le_trans hb ((hi i a b).lt j hj).1)⟩
theorem linesR_snoc {tI tA tL : TypeId} {w : World} {base : Nat} {v av : Value} {ls : List LineD} {vs : List Value} {x : LineD} (e : vs.length = ls.length) (hr : w.ownsRow base tL 2 v (ls.length + 1) (((ls.zip vs).map fun p => [encStr p.1.name, p.2]).flatten ++ [encStr x.name, av])) (hi : ∀ i (h : i < vs.length) (h' : i < ls.length), altsR tI tA w base (vs[i]'h) (ls[i]'h').alts) (hc : altsR tI tA w base av x.alts) :
    linesR tI tA tL w base v (ls ++ [x]) := by
  refine ⟨vs ++ [av], by simp [e], ?_, fun i h h' => ?_⟩
  · rw [List.zip_append e.symm]
    simpa using hr
  · by_cases hx : i < vs.length
    · rw [List.getElem_append_left hx, List.getElem_append_left (by omega)]
      exact hi i hx (by omega)
    · have h1 : i = vs.length := by simp at h; omega
      subst h1
      simp only [List.getElem_concat_length]
      have : (ls ++ [x])[vs.length]'h' = x := by simp only [e]; simp
      rw [this]
      exact hc
end Go.Proofs.Ytcmgnhjffhaajaa
