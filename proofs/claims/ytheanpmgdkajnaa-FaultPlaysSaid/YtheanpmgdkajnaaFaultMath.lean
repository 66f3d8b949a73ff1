/- Plain mathematics of meters and armed faults (layer 10). Nothing here names the program. -/
namespace Go.Proofs.Ytheanpmgdkajnaa

/-- A fault: the step for which it is armed (counted from the start), its kind. -/
structure FltD where
  at_ : Int
  kind : Int
/-- Which fault counts at a step: the one armed first. -/
def hitF (l : List FltD) (t : Int) : Option FltD := l.find? fun f => f.at_ == t
/-- What a step comes to, by the number of the error that a crash gives. -/
def codeF (ed : Int) : Option FltD → Int
  | none => 0
  | some f => if f.kind = 1 then ed else f.kind + 7
/-- The faults armed for future steps, counted from now. -/
def futureF (l : List FltD) (n : Int) : List FltD := (l.filter fun f => decide (n < f.at_)).map fun f => ⟨f.at_ - n, f.kind⟩
theorem hitF_cons (f : FltD) (l : List FltD) (t : Int) : hitF (f :: l) t = if f.at_ = t then some f else hitF l t := by
  unfold hitF
  rw [List.find?_cons]
  by_cases h : f.at_ = t
  · rw [if_pos h, show (f.at_ == t) = true from by rw [h]; simp]
  · rw [if_neg h, show (f.at_ == t) = false from by rw [beq_eq_false_iff_ne]; exact h]
/-- From the last to the first, each that strikes in the place of the one before: it is the first that counts. -/
theorem hitF_drop (l : List FltD) (t : Int) (k : Nat) (hk : k < l.length) : hitF (l.drop k) t = if (l[k]'hk).at_ = t then some (l[k]'hk) else hitF (l.drop (k + 1)) t := by
  rw [List.drop_eq_getElem_cons hk, hitF_cons]
theorem hitF_append (l m : List FltD) (t : Int) : hitF (l ++ m) t = (hitF l t).or (hitF m t) := by
  unfold hitF; rw [List.find?_append]
theorem futureF_append (l m : List FltD) (n : Int) : futureF (l ++ m) n = futureF l n ++ futureF m n := by
  unfold futureF; rw [List.filter_append, List.map_append]
/-- What is past strikes no more and is not told: it may be forgotten. -/
theorem hitF_past (l : List FltD) (n t : Int) (h : n < t) : hitF (l.filter fun f => decide (n < f.at_)) t = hitF l t := by
  unfold hitF
  induction l with
  | nil => rfl
  | cons f r ih =>
    rw [List.filter_cons]
    by_cases q : n < f.at_
    · rw [if_pos (by simpa using q), List.find?_cons, List.find?_cons, ih]
    · rw [if_neg (by simpa using q), ih, List.find?_cons]
      have : (f.at_ == t) = false := by rw [beq_eq_false_iff_ne]; omega
      rw [this]
theorem futureF_past (l : List FltD) (n m : Int) (h : n ≤ m) : futureF (l.filter fun f => decide (n < f.at_)) m = futureF l m := by
  unfold futureF
  congr 1
  rw [List.filter_filter]
  refine List.filter_congr (fun f _ => ?_)
  by_cases q : m < f.at_
  · simp [q, show n < f.at_ by omega]
  · simp [q]
/-- One by one, what is told. -/
theorem futureF_take (l : List FltD) (n : Int) (k : Nat) (hk : k < l.length) : futureF (l.take (k + 1)) n = if n < (l[k]'hk).at_ then futureF (l.take k) n ++ [⟨(l[k]'hk).at_ - n, (l[k]'hk).kind⟩] else futureF (l.take k) n := by
  rw [List.take_succ_eq_append_getElem hk, futureF_append]
  unfold futureF
  by_cases q : n < (l[k]'hk).at_
  · rw [if_pos q]; simp [q]
  · rw [if_neg q]; simp [q]
end Go.Proofs.Ytheanpmgdkajnaa
