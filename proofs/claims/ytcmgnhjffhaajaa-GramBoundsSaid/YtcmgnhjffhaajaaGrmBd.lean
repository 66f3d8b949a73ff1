/- The grammars at the limits (layer 14): plain mathematics. -/
import Derived.Test.YtcmgnhjffhaajaaMm
namespace Go.Proofs.Ytcmgnhjffhaajaa

def nmB (i : Nat) : List UInt8 := [110, UInt8.ofNat (97 + i / 26), UInt8.ofNat (97 + i % 26)]
def ruleOf (right i : Nat) : RuleG := ⟨0, List.replicate (min (i + 1) right) (-1)⟩
/-- So many names, each with an empty rule; then so many rules of rising length, up to a limit. -/
def boundG (names rules right : Nat) : GramG := ⟨(List.range names).map nmB, [[97]], (List.range names).map (fun i : Nat => ⟨(i : Int), []⟩) ++ (List.range rules).map (ruleOf right)⟩
def wantB (names rules right : Nat) : Bool := if (0 < rules ∧ right = 0) ∨ right < rules ∨ (64 < rules ∧ 64 < right) then false else decide (names + 1 ≤ 256)
theorem nm_name {i : Nat} (h : i < 260) : nameB (nmB i) = true := by
  have e1 : (UInt8.ofNat (97 + i / 26)).toNat = 97 + i / 26 := by rw [UInt8.toNat_ofNat_of_lt']; show _ < 256; omega
  have e2 : (UInt8.ofNat (97 + i % 26)).toNat = 97 + i % 26 := by rw [UInt8.toNat_ofNat_of_lt']; show _ < 256; omega
  have l1 : letterB (UInt8.ofNat (97 + i / 26)) = true := by unfold letterB; rw [e1]; simp; omega
  have l2 : letterB (UInt8.ofNat (97 + i % 26)) = true := by unfold letterB; rw [e2]; simp; omega
  unfold nameB nmB
  simp only [List.all_cons, List.all_nil, moreB, l1, l2]
  rfl
theorem nm_inj {i j : Nat} (hi : i < 260) (hj : j < 260) (h : nmB i = nmB j) : i = j := by
  have e : ∀ k, k < 260 → (UInt8.ofNat (97 + k / 26)).toNat = 97 + k / 26 ∧ (UInt8.ofNat (97 + k % 26)).toNat = 97 + k % 26 := fun k hk =>
    ⟨by rw [UInt8.toNat_ofNat_of_lt']; show _ < 256; omega, by rw [UInt8.toNat_ofNat_of_lt']; show _ < 256; omega⟩
  unfold nmB at h
  injection h with _ h
  injection h with h1 h
  injection h with h2 _
  have := congrArg UInt8.toNat h1
  rw [(e i hi).1, (e j hj).1] at this
  have h3 := congrArg UInt8.toNat h2
  rw [(e i hi).2, (e j hj).2] at h3
  omega
theorem map_range_nodup {α : Type} {f : Nat → α} {n : Nat} (h : ∀ i j, i < n → j < n → f i = f j → i = j) : ((List.range n).map f).Nodup := by
  refine nodup_iff.2 (fun i hi j hj e => ?_)
  rw [List.length_map, List.length_range] at hi
  rw [List.getElem_map, List.getElem_map, List.getElem_range, List.getElem_range] at e
  have := h j i (by omega) hi e
  omega
theorem rule_inj {right i j : Nat} (hi : i < right) (hj : j < right) (h : ruleOf right i = ruleOf right j) : i = j := by
  unfold ruleOf at h
  injection h with _ h
  have := congrArg List.length h
  simp at this
  omega
theorem bound_valid {names rules right : Nat} (h1 : 1 ≤ names) (h2 : names ≤ 260) (h3 : rules ≤ 70) (_ : right ≤ 70) : validB (boundG names rules right) = wantB names rules right := by
  have hnl : (boundG names rules right).names.length = names := by simp [boundG]
  have htl : (boundG names rules right).terms.length = 1 := rfl
  have hrl : (boundG names rules right).rules.length = names + rules := by simp [boundG]
  have hget : ∀ i (hi : i < rules), (boundG names rules right).rules[names + i]'(by omega) = ruleOf right i := by
    intro i hi
    simp [boundG, List.getElem_append_right]
  have hget0 : (boundG names rules right).rules[0]'(by omega) = ⟨0, []⟩ := by
    simp only [boundG]
    rw [List.getElem_append_left (by simp; omega)]
    simp
  unfold validB wantB
  by_cases c1 : 0 < rules ∧ right = 0
  · rw [if_pos (.inl c1)]
    refine boolOf_false (fun h => ?_)
    refine nodup_iff.1 h.nodupR (names + 0) (by omega) 0 (by omega) ?_
    rw [hget0, hget 0 c1.1, c1.2]
    rfl
  by_cases c2 : right < rules
  · rw [if_pos (.inr (.inl c2))]
    have hr : 1 ≤ right := by omega
    refine boolOf_false (fun h => ?_)
    refine nodup_iff.1 h.nodupR (names + right) (by omega) (names + (right - 1)) (by omega) ?_
    rw [hget (right - 1) (by omega), hget right c2]
    unfold ruleOf
    rw [show min (right - 1 + 1) right = right by omega, show min (right + 1) right = right by omega]
  by_cases c3 : 64 < rules ∧ 64 < right
  · rw [if_pos (.inr (.inr c3))]
    refine boolOf_false (fun h => ?_)
    have := (h.rules (ruleOf right 64) (by rw [← hget 64 c3.1]; exact List.getElem_mem _)).2.2.1
    unfold ruleOf at this
    simp at this
    omega
  rw [if_neg (by rintro (q | q | q); exact c1 q; exact c2 q; exact c3 q)]
  by_cases c4 : names + 1 ≤ 256
  · rw [decide_eq_true c4]
    refine boolOf_true ⟨by omega, by omega, by omega, ?_, ?_, ?_, ?_, ?_, ?_, ?_⟩
    · intro n hn
      obtain ⟨i, hi, rfl⟩ := List.mem_map.1 (show n ∈ (List.range names).map nmB from hn)
      exact nm_name (by have := List.mem_range.1 hi; omega)
    · exact map_range_nodup (fun i j hi hj e => nm_inj (by omega) (by omega) e)
    · intro i hi
      rw [hnl] at hi
      exact ⟨⟨(i : Int), []⟩, List.mem_append.2 (.inl (List.mem_map.2 ⟨i, List.mem_range.2 hi, rfl⟩)), rfl⟩
    · intro t ht
      have : t = [97] := by simpa [boundG] using ht
      subst this; decide
    · exact List.nodup_cons.2 ⟨by simp, List.nodup_nil⟩
    · intro r hr
      rcases List.mem_append.1 (show r ∈ (List.range names).map (fun i : Nat => (⟨(i : Int), []⟩ : RuleG)) ++ (List.range rules).map (ruleOf right) from hr) with hr | hr
      · obtain ⟨i, hi, rfl⟩ := List.mem_map.1 hr
        have := List.mem_range.1 hi
        exact ⟨by simp, by simp only; omega, by simp, fun s hs => by simp at hs⟩
      · obtain ⟨i, hi, rfl⟩ := List.mem_map.1 hr
        have := List.mem_range.1 hi
        refine ⟨by simp [ruleOf], by simp only [ruleOf]; omega, by simp [ruleOf]; omega, fun s hs => ?_⟩
        have : s = -1 := (List.mem_replicate.1 hs).2
        omega
    · show ((List.range names).map (fun i : Nat => (⟨(i : Int), []⟩ : RuleG)) ++ (List.range rules).map (ruleOf right)).Nodup
      rw [List.nodup_append]
      refine ⟨map_range_nodup (fun i j _ _ e => by injection e with e _; omega), map_range_nodup (fun i j hi hj e => rule_inj (right := right) (by omega) (by omega) e), ?_⟩
      intro a ha b hb e
      obtain ⟨i, hi, rfl⟩ := List.mem_map.1 ha
      obtain ⟨j, hj, rfl⟩ := List.mem_map.1 hb
      have := List.mem_range.1 hj
      unfold ruleOf at e
      injection e with _ e
      have := congrArg List.length e
      simp at this
      omega
  · rw [decide_eq_false c4]
    exact boolOf_false (fun h => by have := h.syms; omega)
theorem bound_size {names rules right : Nat} (h2 : names ≤ 260) (h3 : rules ≤ 70) (h4 : right ≤ 70) : SizeG (boundG names rules right) := by
  refine ⟨by simp [boundG]; omega, by simp [boundG], by simp [boundG]; omega, fun r hr => ?_, fun n hn => ?_, fun t ht => ?_⟩
  · rcases List.mem_append.1 (show r ∈ (List.range names).map (fun i : Nat => (⟨(i : Int), []⟩ : RuleG)) ++ (List.range rules).map (ruleOf right) from hr) with hr | hr
    · obtain ⟨i, hi, rfl⟩ := List.mem_map.1 hr; simp
    · obtain ⟨i, hi, rfl⟩ := List.mem_map.1 hr; simp [ruleOf]; omega
  · obtain ⟨i, hi, rfl⟩ := List.mem_map.1 (show n ∈ (List.range names).map nmB from hn); simp [nmB]
  · have : t = [97] := by simpa [boundG] using ht
    subst this; simp
end Go.Proofs.Ytcmgnhjffhaajaa
