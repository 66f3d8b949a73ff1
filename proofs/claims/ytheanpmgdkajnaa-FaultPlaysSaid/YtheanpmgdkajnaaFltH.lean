/- Package fault: Step, whatever is armed. -/
import Derived.Test.YtheanpmgdkajnaaFltG
namespace Go.Proofs.Ytheanpmgdkajnaa
open Go.RowKit

/-- What a step comes to, and what it leaves. -/
def stepC (dn : Bool) (l : List FltD) (n : Int) : Int := if dn then 11 else codeF 11 (hitF l (n + 1))
def stepN (dn : Bool) (n : Int) : Int := if dn then n else n + 1
def stepL (dn : Bool) (l : List FltD) (n : Int) : List FltD := if dn then l else keepF l (n + 1)
/-- All kinds are kinds. -/
def kindsOk (l : List FltD) : Prop := ∀ f ∈ l, 1 ≤ f.kind ∧ f.kind ≤ 3
theorem hitF_none {l : List FltD} {t : Int} (h : hitF l t = none) : ∀ f ∈ l, f.at_ ≠ t := by
  induction l with
  | nil => simp
  | cons x r ih =>
    rw [hitF_cons] at h
    by_cases q : x.at_ = t
    · rw [if_pos q] at h; cases h
    · rw [if_neg q] at h
      intro f hf
      rcases List.mem_cons.1 hf with rfl | hf
      · exact q
      · exact ih h f hf
theorem hitF_some {l : List FltD} {t : Int} {f : FltD} (h : hitF l t = some f) : ∃ (k : Nat) (hk : k < l.length), l[k]'hk = f ∧ (l[k]'hk).at_ = t ∧ ∀ j, j < k → ∀ h : j < l.length, (l[j]'h).at_ ≠ t := by
  induction l with
  | nil => simp [hitF] at h
  | cons x r ih =>
    rw [hitF_cons] at h
    by_cases q : x.at_ = t
    · rw [if_pos q] at h
      cases h
      exact ⟨0, by simp, rfl, q, by simp⟩
    · rw [if_neg q] at h
      obtain ⟨k, hk, h1, h2, h3⟩ := ih h
      refine ⟨k + 1, by simpa using hk, by simpa using h1, by simpa using h2, ?_⟩
      intro j hj hjl
      match j, hjl with
      | 0, _ => exact q
      | j + 1, hjl => simpa using h3 j (by omega) (by simpa using hjl)
theorem step_any (p : Nat) (B : List Nat) (n : Int) (dn : Bool) (l : List FltD) (w : World) (h : isM w p B n dn l) (hn : 0 ≤ n ∧ n < 1000000) (hk : kindsOk l) :
    Calls Try.prog 6 #[.pointer (some ⟨p, 0, none⟩)] w fun e w' => e = .returned (.int .i64 (stepC dn l n)) ∧ TurnedM p B (stepN dn n) (decide (stepC dn l n = 11)) (stepL dn l n) w w' := by
  cases dn with
  | true => exact step_down p B n l w h
  | false =>
    unfold stepC stepN stepL
    simp only [Bool.false_eq_true, if_false]
    cases hh : hitF l (n + 1) with
    | none =>
      have hno := hitF_none hh
      rw [keepF_all l (n + 1) hno]
      exact step_none p B n l w h hn hno
    | some f =>
      obtain ⟨k, hkl, rfl, ha, hb⟩ := hitF_some hh
      have hki := hk _ (List.getElem_mem hkl)
      have := step_hit p B n l w h hn k hkl ha hb hki
      unfold codeF
      have e : ((l[k]'hkl).kind == 1) = decide ((if (l[k]'hkl).kind = 1 then (11 : Int) else (l[k]'hkl).kind + 7) = 11) := by
        by_cases q : (l[k]'hkl).kind = 1
        · simp [q]
        · rw [if_neg q, show ((l[k]'hkl).kind == 1) = false from by simp [q]]
          exact (decide_eq_false (by omega)).symm
      rw [e] at this
      exact this
/-- What Arm arms. -/
def armF (fl : List FltD) (n : Int) : List FltD := (fl.filter mayF).map fun f => ⟨n + f.at_, f.kind⟩
theorem mayF_iff (f : FltD) : mayF f = true ↔ 1 ≤ f.kind ∧ f.kind ≤ 3 ∧ 1 ≤ f.at_ ∧ f.at_ ≤ 1099511627776 := by simp [mayF]
theorem armF_take (l : List FltD) (n : Int) (k : Nat) (hk : k < l.length) : armF (l.take (k + 1)) n = if mayF (l[k]'hk) = true then armF (l.take k) n ++ [⟨n + (l[k]'hk).at_, (l[k]'hk).kind⟩] else armF (l.take k) n := by
  rw [List.take_succ_eq_append_getElem hk]
  unfold armF
  rw [List.filter_append, List.map_append]
  by_cases h : mayF (l[k]'hk) = true
  · rw [if_pos h]; simp [h]
  · rw [if_neg h]; simp [h]
theorem armF_le (l : List FltD) (n : Int) : (armF l n).length ≤ l.length := by
  unfold armF; rw [List.length_map]; exact List.length_filter_le _ _
theorem armF_kinds (l : List FltD) (n : Int) : kindsOk (armF l n) := by
  intro f hf
  obtain ⟨x, hx, rfl⟩ := List.mem_map.1 hf
  obtain ⟨-, hm⟩ := List.mem_filter.1 hx
  have := (mayF_iff x).1 hm
  exact ⟨this.1, this.2.1⟩
/-- What the meter holds, of all that ever was armed. -/
def liveF (l : List FltD) (n : Int) : List FltD := l.filter fun f => decide (n < f.at_)
theorem liveF_arm (l fl : List FltD) (n : Int) : liveF (l ++ armF fl n) n = liveF l n ++ armF fl n := by
  unfold liveF
  rw [List.filter_append]
  congr 1
  rw [List.filter_eq_self]
  intro f hf
  obtain ⟨x, hx, rfl⟩ := List.mem_map.1 hf
  obtain ⟨-, hm⟩ := List.mem_filter.1 hx
  have := (mayF_iff x).1 hm
  simp
  omega
theorem liveF_hit (l : List FltD) (n : Int) : hitF (liveF l n) (n + 1) = hitF l (n + 1) := hitF_past l n (n + 1) (by omega)
theorem liveF_keep (l : List FltD) (n : Int) : keepF (liveF l n) (n + 1) = liveF l (n + 1) := by
  unfold keepF liveF
  rw [List.filter_filter]
  refine List.filter_congr (fun f _ => ?_)
  by_cases q : n + 1 < f.at_
  · have : (f.at_ == n + 1) = false := by rw [beq_eq_false_iff_ne]; omega
    simp [q, this, show n < f.at_ by omega]
  · by_cases q2 : f.at_ = n + 1
    · simp [q2]
    · simp [q, show ¬ n < f.at_ by omega]
theorem liveF_kinds {l : List FltD} (h : kindsOk l) (n : Int) : kindsOk (liveF l n) := fun f hf => h f (List.mem_filter.1 hf).1
theorem liveF_le (l : List FltD) (n : Int) : (liveF l n).length ≤ l.length := List.length_filter_le _ _
end Go.Proofs.Ytheanpmgdkajnaa
