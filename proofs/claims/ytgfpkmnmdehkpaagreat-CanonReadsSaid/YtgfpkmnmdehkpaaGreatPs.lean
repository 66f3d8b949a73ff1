/- Several texts in one: ParAs, ParBs. -/
import Derived.Test.YtgfpkmnmdehkpaaGreatDt
import Derived.Test.YtgfpkmnmdehkpaaGreatLs
set_option linter.unusedVariables false
set_option linter.unusedSimpArgs false
/-! Parsing (layer 13): mathematics and small laws, of no program. -/
namespace Go.Proofs.YtgfpkmnmdehkpaaGreat
open Go.RowKit

theorem line_set {w : World} {q : Nat} {a b x y : Value} {t : TypeId} (h : w.heap[q]? = some (.cells #[a, b] t (0, 0))) : ((w.setCell ⟨q, 0, none⟩ x).setCell ⟨q, 1, none⟩ y).heap[q]? = some (.cells #[x, y] t (0, 0)) := by
  have h1 := heap_setCell_same h (i := 0) x
  have h2 := heap_setCell_same h1 (i := 1) y
  exact h2
theorem two_of_box {w : World} {p : Nat} {a b : Value} {t : TypeId} (h : w.heap[p]? = some (.cells #[a, b] t (0, 0))) : w.cell? ⟨p, 0, none⟩ = some a ∧ w.cell? ⟨p, 1, none⟩ = some b ∧ w.frozen? ⟨p, 0, none⟩ = false ∧ w.frozen? ⟨p, 1, none⟩ = false :=
  ⟨by rw [cell_of_heap h]; rfl, by rw [cell_of_heap h]; rfl, free_of_heap h 0, free_of_heap h 1⟩
/-- The tokens from k on. -/
def fromK (ts : List TokD) (k : Nat) : List Tk := (ts.drop k).map TokD.tk
theorem fromK_cons {ts : List TokD} {k : Nat} (h : k < ts.length) : fromK ts k = (ts[k]'h).tk :: fromK ts (k + 1) := by
  unfold fromK; rw [List.drop_eq_getElem_cons h, List.map_cons]
theorem fromK_len (ts : List TokD) (k : Nat) : (fromK ts k).length = ts.length - k := by simp [fromK]
theorem fromK_end (ts : List TokD) : fromK ts ts.length = [] := by simp [fromK]
theorem body_item {t : Tk} {r : List Tk} {cur : List ItemD} {done : List (List ItemD)} (h : t.1 = 1 ∨ t.1 = 2) : bodyD (t :: r) cur done = bodyD r (cur ++ [⟨decide (t.1 = 2), t.2⟩]) done := by rw [bodyD, if_pos h]
theorem body_bar {t : Tk} {r : List Tk} {cur : List ItemD} {done : List (List ItemD)} (h : t.1 = 4) : bodyD (t :: r) cur done = bodyD r [] (done ++ [cur]) := by rw [bodyD, if_neg (by omega), if_pos h]
theorem body_semi {t : Tk} {r : List Tk} {cur : List ItemD} {done : List (List ItemD)} (h : t.1 = 5) : bodyD (t :: r) cur done = ⟨true, done ++ [cur], r⟩ := by rw [bodyD, if_neg (by omega), if_neg (by omega), if_pos h]
theorem body_bad {t : Tk} {r : List Tk} {cur : List ItemD} {done : List (List ItemD)} (h1 : t.1 ≠ 1) (h2 : t.1 ≠ 2) (h4 : t.1 ≠ 4) (h5 : t.1 ≠ 5) : bodyD (t :: r) cur done = ⟨false, [], t :: r⟩ := by rw [bodyD, if_neg (by omega), if_neg h4, if_neg h5]
theorem rule_no {t : Tk} {r : List Tk} (h : t.1 ≠ 1) : ruleD (t :: r) = ⟨false, ⟨[], []⟩, t :: r⟩ := by simp [ruleD, h]
theorem rule_yes {t : Tk} {r : List Tk} (h : t.1 = 1) : ruleD (t :: r) = nameD t.2 r := by simp [ruleD, h]
theorem name_no {n : List UInt8} {c : Tk} {q : List Tk} (h : c.1 ≠ 3) : nameD n (c :: q) = ⟨false, ⟨[], []⟩, c :: q⟩ := by simp [nameD, h]
theorem name_yes {n : List UInt8} {c : Tk} {q : List Tk} (h : c.1 = 3) : nameD n (c :: q) = ⟨(bodyD q [] []).ok, ⟨n, (bodyD q [] []).alts⟩, (bodyD q [] []).left⟩ := by simp [nameD, h]
/-- One more alternative. -/
theorem altsR_snoc {tI tA : TypeId} {w : World} {base : Nat} {v cv : Value} {l : List (List ItemD)} {vs : List Value} {cur : List ItemD} (e : vs.length = l.length) (hr : w.ownsRow base tA 1 v (l.length + 1) (vs ++ [cv])) (hi : ∀ i (h : i < vs.length) (h' : i < l.length), itemsR tI w base (vs[i]'h) (l[i]'h')) (hc : itemsR tI w base cv cur) : altsR tI tA w base v (l ++ [cur]) := by
  refine ⟨vs ++ [cv], by simp [e], by simpa using hr, fun i h h' => ?_⟩
  by_cases hx : i < vs.length
  · rw [List.getElem_append_left hx, List.getElem_append_left (by omega)]
    exact hi i hx (by omega)
  · have h1 : i = vs.length := by simp at h; omega
    subst h1
    simp only [List.getElem_concat_length]
    have : (l ++ [cur])[vs.length]'h' = cur := by simp only [e]; simp
    rw [this]
    exact hc
end Go.Proofs.YtgfpkmnmdehkpaaGreat

/-! Parsing (layer 13): mathematics and small laws, of no program. -/
namespace Go.Proofs.YtgfpkmnmdehkpaaGreat
open Go.RowKit


theorem body_suffix : ∀ (r : List Tk) (cur : List ItemD) (done : List (List ItemD)), ∃ n, (bodyD r cur done).left = r.drop n
  | [], cur, done => ⟨0, rfl⟩
  | t :: r, cur, done => by
    unfold bodyD
    split
    · obtain ⟨n, h⟩ := body_suffix r (cur ++ [⟨decide (t.1 = 2), t.2⟩]) done; exact ⟨n + 1, h⟩
    · split
      · obtain ⟨n, h⟩ := body_suffix r [] (done ++ [cur]); exact ⟨n + 1, h⟩
      · split
        · exact ⟨1, rfl⟩
        · exact ⟨0, rfl⟩
theorem rule_suffix (r : List Tk) : ∃ n, (ruleD r).left = r.drop n := by
  cases r with
  | nil => exact ⟨0, rfl⟩
  | cons t r =>
    by_cases h1 : t.1 = 1
    · rw [rule_yes h1]
      cases r with
      | nil => exact ⟨1, rfl⟩
      | cons c q =>
        by_cases h3 : c.1 = 3
        · rw [name_yes h3]
          obtain ⟨n, h⟩ := body_suffix q [] []
          exact ⟨n + 2, h⟩
        · rw [name_no h3]; exact ⟨1, rfl⟩
    · rw [rule_no h1]; exact ⟨0, rfl⟩
theorem fromK_drop (ts : List TokD) (k n : Nat) : (fromK ts k).drop n = fromK ts (k + n) := by unfold fromK; rw [← List.map_drop, List.drop_drop]
theorem rule_from {ts : List TokD} {k : Nat} (hk : k ≤ ts.length) : (ruleD (fromK ts k)).left = fromK ts (ts.length - (ruleD (fromK ts k)).left.length) := by
  obtain ⟨n, h⟩ := rule_suffix (fromK ts k)
  have hl := congrArg List.length h
  rw [List.length_drop, fromK_len] at hl
  rw [h, fromK_drop]
  by_cases hn : k + n ≤ ts.length
  · congr 1
    rw [fromK_len]; omega
  · have e1 : fromK ts (k + n) = [] := by unfold fromK; rw [List.drop_eq_nil_of_le (by omega)]; rfl
    rw [e1]; exact (fromK_end ts).symm
/-- What was read before, and what the rest gives. -/
def linesB (acc : List LineD) (X : LinesD) : LinesD := if X.ok then ⟨true, acc ++ X.lines, 0⟩ else X
theorem linesB_step {acc : List LineD} {r : List Tk} (h : r ≠ []) (hk : (ruleD r).ok = true) : linesB acc (linesD r) = linesB (acc ++ [(ruleD r).line]) (linesD (ruleD r).left) := by
  rw [lines_ok h hk]
  unfold linesB
  cases hx : (linesD (ruleD r).left).ok with
  | true => simp
  | false => simp [hx]
theorem altsR.lower {tI tA : TypeId} {w : World} {base base' : Nat} {v : Value} {l : List (List ItemD)} (h : altsR tI tA w base v l) (hb : base' ≤ base) : altsR tI tA w base' v l := by
  obtain ⟨vs, e, hr, hi⟩ := h
  exact ⟨vs, e, owns_base hr (fun j hj => Nat.le_trans hb (hr.lt j hj).1), fun i a b => owns_base (hi i a b) (fun j hj => Nat.le_trans hb ((hi i a b).lt j hj).1)⟩
theorem linesR_snoc {tI tA tL : TypeId} {w : World} {base : Nat} {v av : Value} {ls : List LineD} {vs : List Value} {x : LineD} (e : vs.length = ls.length) (hr : w.ownsRow base tL 2 v (ls.length + 1) (((ls.zip vs).map fun p => [encStr p.1.name, p.2]).flatten ++ [encStr x.name, av])) (hi : ∀ i (h : i < vs.length) (h' : i < ls.length), altsR tI tA w base (vs[i]'h) (ls[i]'h').alts) (hc : altsR tI tA w base av x.alts) :
    linesR tI tA tL w base v (ls ++ [x]) := by
  refine ⟨vs ++ [av], by simp [e], ?_, fun i h h' => ?_⟩
  · rw [List.zip_append e.symm]
    simpa using hr
  · by_cases hx : i < vs.length
    · rw [List.getElem_append_left hx, List.getElem_append_left (by omega)]
      exact hi i hx (by omega)
    · have h1 : i = vs.length := by simp at h; omega
      subst h1
      simp only [List.getElem_concat_length]
      have : (ls ++ [x])[vs.length]'h' = x := by simp only [e]; simp
      rw [this]
      exact hc
end Go.Proofs.YtgfpkmnmdehkpaaGreat
