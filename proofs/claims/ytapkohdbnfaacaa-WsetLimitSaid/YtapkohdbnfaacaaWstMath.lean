/- Sets of words (layer 19): plain mathematics. Nothing here names the program. -/
import Derived.Test.YtapkohdbnfaacaaDirMath
import Derived.Test.YtapkohdbnfaacaaWrdMath
set_option linter.unusedVariables false
set_option linter.unusedSimpArgs false
namespace Go.Proofs.Ytapkohdbnfaacaa

abbrev Words := List (List UInt8)
/-- A set: words in strictly ascending order. -/
def setW (l : Words) : Prop := l.Pairwise fun a b => lessB a b = true
/-- The place of a word among the first so many of a list, looked for from the end. -/
def placeW (l : Words) (w : List UInt8) : Nat → Nat
  | 0 => 0
  | k + 1 => if lessB w (l.getD k []) = true then placeW l w k else k + 1
def putW (l : Words) (w : List UInt8) : Words := if w ∈ l then l else l.take (placeW l w l.length) ++ [w] ++ l.drop (placeW l w l.length)
def ofW (l : Words) : Words := l.foldl putW []
def catsW (k : Int) (a b : Words) : Words := a.flatMap fun x => b.map fun y => cutW (x ++ y) k
def catW (k : Int) (a b : Words) : Words := ofW (catsW k a b)

theorem placeW_spec (l : Words) (w : List UInt8) : ∀ k, placeW l w k ≤ k ∧ (∀ j, placeW l w k ≤ j → j < k → lessB w (l.getD j []) = true) ∧ (placeW l w k = 0 ∨ lessB w (l.getD (placeW l w k - 1) []) = false)
  | 0 => ⟨Nat.le_refl _, fun j _ h => by omega, .inl rfl⟩
  | k + 1 => by
    obtain ⟨h1, h2, h3⟩ := placeW_spec l w k
    unfold placeW
    by_cases c : lessB w (l.getD k []) = true
    · rw [if_pos c]
      refine ⟨by omega, fun j hj hk => ?_, h3⟩
      by_cases e : j = k
      · subst e; exact c
      · exact h2 j hj (by omega)
    · rw [if_neg c]
      exact ⟨Nat.le_refl _, fun j hj hk => by omega, .inr (by simpa using c)⟩
theorem mem_putW {l : Words} {w x : List UInt8} : x ∈ putW l w ↔ x = w ∨ x ∈ l := by
  unfold putW
  split
  · rename_i h
    constructor
    · exact .inr
    · rintro (rfl | h') <;> assumption
  · rw [List.mem_append, List.mem_append, List.mem_singleton]
    have e := List.take_append_drop (placeW l w l.length) l
    constructor
    · rintro ((h | h) | h)
      · exact .inr (List.mem_of_mem_take h)
      · exact .inl h
      · exact .inr (List.mem_of_mem_drop h)
    · rintro (h | h)
      · exact .inl (.inr h)
      · rw [← e, List.mem_append] at h
        rcases h with h | h
        · exact .inl (.inl h)
        · exact .inr h
theorem setW.get {l : Words} (h : setW l) {i j : Nat} (hij : i < j) (hj : j < l.length) : lessB (l.getD i []) (l.getD j []) = true := by
  rw [List.getD_eq_getElem?_getD, List.getD_eq_getElem?_getD, List.getElem?_eq_getElem hj, List.getElem?_eq_getElem (Nat.lt_trans hij hj)]
  exact List.pairwise_iff_getElem.1 h i j _ hj hij
theorem set_putW {l : Words} {w : List UInt8} (h : setW l) : setW (putW l w) := by
  unfold putW
  split
  · exact h
  · rename_i hw
    obtain ⟨h1, h2, h3⟩ := placeW_spec l w l.length
    generalize placeW l w l.length = p at *
    have hlow : ∀ i, i < p → lessB (l.getD i []) w = true := by
      intro i hi
      rcases h3 with h3 | h3
      · omega
      · have hp : p - 1 < l.length := by omega
        have hm : l.getD (p - 1) [] ∈ l := by
          rw [List.getD_eq_getElem?_getD, List.getElem?_eq_getElem hp]; exact List.getElem_mem hp
        have hl := lessB_total w (l.getD (p - 1) []) (fun e => hw (e ▸ hm)) h3
        by_cases e : i = p - 1
        · subst e; exact hl
        · exact lessB_trans _ _ _ (h.get (show i < p - 1 by omega) hp) hl
    unfold setW
    rw [List.append_assoc, List.pairwise_append]
    refine ⟨List.Pairwise.sublist (List.take_sublist _ _) h, ?_, ?_⟩
    · rw [List.singleton_append, List.pairwise_cons]
      refine ⟨fun x hx => ?_, List.Pairwise.sublist (List.drop_sublist _ _) h⟩
      obtain ⟨i, hi, rfl⟩ := List.getElem_of_mem hx
      rw [List.length_drop] at hi
      have := h2 (p + i) (by omega) (by omega)
      rw [List.getD_eq_getElem?_getD, List.getElem?_eq_getElem (by omega)] at this
      rw [List.getElem_drop]
      exact this
    · intro a ha b hb
      obtain ⟨i, hi, rfl⟩ := List.getElem_of_mem ha
      rw [List.length_take] at hi
      have hia : lessB ((l.take p)[i]'(by rw [List.length_take]; exact hi)) w = true := by
        have := hlow i (by omega)
        rw [List.getD_eq_getElem?_getD, List.getElem?_eq_getElem (by omega)] at this
        rw [List.getElem_take]
        exact this
      rcases List.mem_append.1 hb with hb | hb
      · rw [List.mem_singleton.1 hb]; exact hia
      · obtain ⟨j, hj, rfl⟩ := List.getElem_of_mem hb
        rw [List.length_drop] at hj
        have := h.get (show i < p + j by omega) (by omega)
        rw [List.getD_eq_getElem?_getD, List.getD_eq_getElem?_getD, List.getElem?_eq_getElem (by omega), List.getElem?_eq_getElem (by omega)] at this
        rw [List.getElem_take, List.getElem_drop]
        exact this
theorem fold_put (l : Words) : ∀ o : Words, setW o → setW (l.foldl putW o) ∧ ∀ x, x ∈ l.foldl putW o ↔ x ∈ o ∨ x ∈ l := by
  induction l with
  | nil => exact fun o h => ⟨h, fun x => by simp⟩
  | cons y l ih =>
    intro o h
    obtain ⟨h1, h2⟩ := ih (putW o y) (set_putW h)
    refine ⟨h1, fun x => ?_⟩
    rw [List.foldl_cons, h2 x, mem_putW, List.mem_cons]
    constructor
    · rintro ((a | a) | a)
      · exact .inr (.inl a)
      · exact .inl a
      · exact .inr (.inr a)
    · rintro (a | a | a)
      · exact .inl (.inr a)
      · exact .inl (.inl a)
      · exact .inr a
theorem set_nil : setW [] := List.Pairwise.nil
theorem set_ofW (l : Words) : setW (ofW l) := (fold_put l [] set_nil).1
theorem mem_ofW {l : Words} {x : List UInt8} : x ∈ ofW l ↔ x ∈ l := by
  unfold ofW
  rw [(fold_put l [] set_nil).2 x]
  simp
theorem setW.tail {x : List UInt8} {l : Words} (h : setW (x :: l)) : setW l := (List.pairwise_cons.1 h).2
theorem setW.head {x : List UInt8} {l : Words} (h : setW (x :: l)) : ∀ y ∈ l, lessB x y = true := (List.pairwise_cons.1 h).1
theorem setW.one : ∀ {a b : Words}, setW a → setW b → (∀ x, x ∈ a ↔ x ∈ b) → a = b
  | [], [], _, _, _ => rfl
  | [], y :: b, _, _, h => by have := (h y).2 (by simp); simp at this
  | x :: a, [], _, _, h => by have := (h x).1 (by simp); simp at this
  | x :: a, y :: b, ha, hb, h => by
    have e : x = y := by
      apply Classical.byContradiction
      intro hne
      have h1 := (h x).1 (by simp)
      have h2 := (h y).2 (by simp)
      rcases List.mem_cons.1 h1 with h1 | h1
      · exact hne h1
      · rcases List.mem_cons.1 h2 with h2 | h2
        · exact hne h2.symm
        · have a1 := hb.head x h1
          have a2 := ha.head y h2
          rw [lessB_asym a1] at a2
          cases a2
    subst e
    congr 1
    refine setW.one ha.tail hb.tail fun z => ?_
    have hz := h z
    rw [List.mem_cons, List.mem_cons] at hz
    constructor
    · intro hm
      rcases hz.1 (.inr hm) with e | e
      · subst e; have := ha.head z hm; rw [lessB_irr] at this; cases this
      · exact e
    · intro hm
      rcases hz.2 (.inr hm) with e | e
      · subst e; have := hb.head z hm; rw [lessB_irr] at this; cases this
      · exact e
theorem ofW_set {l : Words} (h : setW l) : ofW l = l := (set_ofW l).one h (fun _ => mem_ofW)
theorem ofW_same {a b : Words} (h : ∀ x, x ∈ a ↔ x ∈ b) : ofW a = ofW b := (set_ofW a).one (set_ofW b) (fun x => by rw [mem_ofW, mem_ofW, h x])
theorem putW_len (l : Words) (w : List UInt8) : (putW l w).length ≤ l.length + 1 := by
  unfold putW
  split
  · omega
  · simp; omega
theorem fold_len (l : Words) : ∀ o : Words, (l.foldl putW o).length ≤ o.length + l.length := by
  induction l with
  | nil => intro o; simp
  | cons y l ih =>
    intro o
    have := ih (putW o y)
    have := putW_len o y
    rw [List.foldl_cons, List.length_cons]
    omega
theorem ofW_len (l : Words) : (ofW l).length ≤ l.length := by have := fold_len l []; simpa [ofW] using this
theorem ofW_next {l : Words} {i : Nat} (h : i < l.length) : ofW (l.take (i + 1)) = putW (ofW (l.take i)) (l[i]'h) := by
  unfold ofW
  rw [List.take_succ_eq_append_getElem h, List.foldl_append]
  rfl
theorem mem_catW {k : Int} {a b : Words} {w : List UInt8} : w ∈ catW k a b ↔ ∃ x ∈ a, ∃ y ∈ b, w = cutW (x ++ y) k := by
  unfold catW catsW
  rw [mem_ofW, List.mem_flatMap]
  constructor
  · rintro ⟨x, hx, h⟩
    obtain ⟨y, hy, rfl⟩ := List.mem_map.1 h
    exact ⟨x, hx, y, hy, rfl⟩
  · rintro ⟨x, hx, y, hy, rfl⟩
    exact ⟨x, hx, List.mem_map.2 ⟨y, hy, rfl⟩⟩
theorem set_catW (k : Int) (a b : Words) : setW (catW k a b) := set_ofW _
theorem catsW_len (k : Int) : ∀ (a b : Words), (catsW k a b).length = a.length * b.length
  | [], b => by simp [catsW]
  | x :: a, b => by
    have := catsW_len k a b
    unfold catsW at this ⊢
    rw [List.flatMap_cons, List.length_append, this, List.length_map, List.length_cons, Nat.succ_mul]
    omega
theorem catW_len (k : Int) (a b : Words) : (catW k a b).length ≤ a.length * b.length := by
  have := ofW_len (catsW k a b)
  rw [catsW_len] at this
  exact this
theorem setW.nodup {l : Words} (h : setW l) : l.Nodup := List.Pairwise.imp (fun h => lessB_ne h) h
theorem nodup_le : ∀ (l m : Words), l.Nodup → (∀ x ∈ l, x ∈ m) → l.length ≤ m.length
  | [], m, _, _ => by simp
  | x :: l, m, hn, hs => by
    obtain ⟨hx, hn'⟩ := List.nodup_cons.1 hn
    have hm := hs x (by simp)
    have h1 := nodup_le l (m.erase x) hn' (fun y hy => (List.mem_erase_of_ne (show y ≠ x from fun e => hx (by rw [← e]; exact hy))).2 (hs y (by simp [hy])))
    rw [List.length_erase_of_mem hm] at h1
    have := List.length_pos_of_mem hm
    rw [List.length_cons]
    omega
/-- A list without repetitions, put in order, stays as long. -/
theorem ofW_nodup_len {l : Words} (h : l.Nodup) : (ofW l).length = l.length := by
  refine Nat.le_antisymm (ofW_len l) ?_
  exact nodup_le l (ofW l) h (fun x hx => mem_ofW.2 hx)
def isSetB : Words → Bool
  | x :: y :: l => lessB x y && isSetB (y :: l)
  | _ => true
theorem isSetB_iff : ∀ l : Words, isSetB l = true ↔ setW l
  | [] => by simp [isSetB, setW]
  | [x] => by simp [isSetB, setW]
  | x :: y :: l => by
    rw [isSetB, Bool.and_eq_true, isSetB_iff (y :: l), show setW (x :: y :: l) ↔ (∀ z ∈ y :: l, lessB x z = true) ∧ setW (y :: l) from List.pairwise_cons]
    constructor
    · rintro ⟨h1, h2⟩
      refine ⟨fun z hz => ?_, h2⟩
      rcases List.mem_cons.1 hz with rfl | hz
      · exact h1
      · exact lessB_trans _ _ _ h1 (setW.head h2 z hz)
    · rintro ⟨h1, h2⟩
      exact ⟨h1 y (by simp), h2⟩
theorem isSetB_get {l : Words} (h : isSetB l = true) (i : Nat) (hi : i + 1 < l.length) : lessB (l[i]'(by omega)) (l[i + 1]'hi) = true :=
  List.pairwise_iff_getElem.1 ((isSetB_iff l).1 h) i (i + 1) _ hi (Nat.lt_succ_self i)
theorem isSetB_of : ∀ {l : Words}, (∀ i (hi : i + 1 < l.length), lessB (l[i]'(by omega)) (l[i + 1]'hi) = true) → isSetB l = true
  | [], _ => rfl
  | [x], _ => rfl
  | x :: y :: l, h => by
    rw [isSetB, Bool.and_eq_true]
    exact ⟨h 0 (by simp), isSetB_of (fun i hi => h (i + 1) (by simpa using hi))⟩
end Go.Proofs.Ytapkohdbnfaacaa
