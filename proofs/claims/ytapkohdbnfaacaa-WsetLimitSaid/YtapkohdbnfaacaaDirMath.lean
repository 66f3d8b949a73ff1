/- Plain mathematics of directories as sorted lists (layer 9). Nothing here names the program. -/
namespace Go.Proofs.Ytapkohdbnfaacaa

/-- Byte by byte; a string that is a prefix of another one precedes it. -/
def lessB : List UInt8 → List UInt8 → Bool
  | _, [] => false
  | [], _ :: _ => true
  | a :: x, b :: y => if a = b then lessB x y else decide (a.toNat < b.toNat)
theorem lessB_irr : ∀ a : List UInt8, lessB a a = false
  | [] => rfl
  | a :: x => by rw [lessB, if_pos rfl]; exact lessB_irr x
theorem lessB_trans : ∀ a b c : List UInt8, lessB a b = true → lessB b c = true → lessB a c = true
  | _, [], _, h, _ => by cases ‹List UInt8› <;> simp [lessB] at h
  | _, _ :: _, [], _, h => by simp [lessB] at h
  | [], _ :: _, _ :: _, _, _ => rfl
  | a :: x, b :: y, c :: z, h, k => by
    rw [lessB] at h k ⊢
    by_cases e : a = b
    · subst e
      rw [if_pos rfl] at h
      by_cases e2 : a = c
      · subst e2
        rw [if_pos rfl] at k ⊢
        exact lessB_trans x y z h k
      · rw [if_neg e2] at k ⊢
        exact k
    · rw [if_neg e] at h
      have h' := of_decide_eq_true h
      by_cases e2 : b = c
      · subst e2
        rw [if_neg e]
        exact h
      · rw [if_neg e2] at k
        have k' := of_decide_eq_true k
        have e3 : a ≠ c := by intro q; subst q; omega
        rw [if_neg e3]
        exact decide_eq_true (by omega)
theorem lessB_total : ∀ a b : List UInt8, a ≠ b → lessB a b = false → lessB b a = true
  | [], [], h, _ => (h rfl).elim
  | [], _ :: _, _, h => by simp [lessB] at h
  | _ :: _, [], _, _ => rfl
  | a :: x, b :: y, h, k => by
    rw [lessB] at k ⊢
    by_cases e : a = b
    · subst e
      rw [if_pos rfl] at k ⊢
      exact lessB_total x y (fun q => h (by rw [q])) k
    · rw [if_neg e] at k
      rw [if_neg (Ne.symm e)]
      have := of_decide_eq_false k
      have hne : a.toNat ≠ b.toNat := fun q => e (UInt8.toNat_inj.1 q)
      exact decide_eq_true (by omega)
theorem lessB_ne {a b : List UInt8} (h : lessB a b = true) : a ≠ b := by rintro rfl; rw [lessB_irr] at h; cases h
theorem lessB_asym {a b : List UInt8} (h : lessB a b = true) : lessB b a = false := by
  cases k : lessB b a with
  | false => rfl
  | true => have := lessB_trans _ _ _ h k; rw [lessB_irr] at this; cases this
/-- Where the first i bytes are the same, the others tell. -/
theorem lessB_drop : ∀ (i : Nat) (a b : List UInt8), a.take i = b.take i → i ≤ a.length → i ≤ b.length → lessB a b = lessB (a.drop i) (b.drop i)
  | 0, _, _, _, _, _ => rfl
  | _ + 1, [], _, _, h, _ => by simp at h
  | _ + 1, _ :: _, [], _, _, h => by simp at h
  | i + 1, a :: x, b :: y, h, h1, h2 => by
    simp only [List.take_succ_cons, List.cons.injEq] at h
    obtain ⟨rfl, h⟩ := h
    rw [lessB, if_pos rfl, List.drop_succ_cons, List.drop_succ_cons]
    exact lessB_drop i x y h (by simpa using h1) (by simpa using h2)
theorem lessB_at (i : Nat) (a b : List UInt8) (h : a.take i = b.take i) (h1 : i < a.length) (h2 : i < b.length) (hne : a[i]'h1 ≠ b[i]'h2) : lessB a b = decide ((a[i]'h1).toNat < (b[i]'h2).toNat) := by
  rw [lessB_drop i a b h (by omega) (by omega), List.drop_eq_getElem_cons h1, List.drop_eq_getElem_cons h2, lessB, if_neg hne]
theorem lessB_end (a b : List UInt8) (i : Nat) (hi : i = min a.length b.length) (h : a.take i = b.take i) : lessB a b = decide (a.length < b.length) := by
  rw [lessB_drop i a b h (by omega) (by omega)]
  rcases Nat.lt_or_ge a.length b.length with q | q
  · rw [decide_eq_true q, List.drop_eq_nil_of_le (by omega), List.drop_eq_getElem_cons (show i < b.length by omega)]
    rfl
  · rw [decide_eq_false (by omega), (show b.drop i = [] from List.drop_eq_nil_of_le (by omega))]
    cases a.drop i <;> rfl

/-- A name and its number. -/
abbrev Ent := List UInt8 × Int
def findL : List Ent → List UInt8 → Option Nat
  | [], _ => none
  | e :: r, m => if e.1 = m then some 0 else (findL r m).map (· + 1)
def lookL (l : List Ent) (m : List UInt8) : Option Int := (l.find? fun e => e.1 = m).map (·.2)
def withoutL (l : List Ent) (m : List UInt8) : List Ent := l.filter fun e => e.1 ≠ m
/-- The entry ahead of the first one that it precedes. -/
def insL (x : Ent) : List Ent → List Ent
  | [] => [x]
  | e :: r => if lessB x.1 e.1 then x :: e :: r else e :: insL x r
def withL (l : List Ent) (m : List UInt8) (n : Int) : List Ent := insL (m, n) (withoutL l m)
def sortedL (l : List Ent) : Prop := l.Pairwise fun a b => lessB a.1 b.1 = true

theorem lookL_nil (m : List UInt8) : lookL [] m = none := rfl
theorem lookL_cons (e : Ent) (r : List Ent) (m : List UInt8) : lookL (e :: r) m = if e.1 = m then some e.2 else lookL r m := by
  unfold lookL
  rw [List.find?_cons]
  by_cases h : e.1 = m <;> simp [h]
theorem findL_some : ∀ (l : List Ent) (m : List UInt8) (i : Nat), findL l m = some i → ∃ h : i < l.length, (l[i]'h).1 = m ∧ lookL l m = some (l[i]'h).2
  | [], _, _, h => by cases h
  | e :: r, m, i, h => by
    rw [findL] at h
    by_cases q : e.1 = m
    · rw [if_pos q] at h
      cases h
      exact ⟨by simp, q, by rw [lookL_cons, if_pos q]; rfl⟩
    · rw [if_neg q] at h
      cases hf : findL r m with
      | none => rw [hf] at h; cases h
      | some j =>
        rw [hf] at h
        cases h
        obtain ⟨h1, h2, h3⟩ := findL_some r m j hf
        exact ⟨by simp; omega, by simpa using h2, by rw [lookL_cons, if_neg q, h3]; simp⟩
theorem findL_none : ∀ (l : List Ent) (m : List UInt8), findL l m = none ↔ lookL l m = none
  | [], _ => by simp [findL, lookL]
  | e :: r, m => by
    rw [findL, lookL_cons]
    by_cases q : e.1 = m
    · simp [q]
    · rw [if_neg q, if_neg q]
      simp [findL_none r m]
theorem look_without (l : List Ent) (m x : List UInt8) : lookL (withoutL l m) x = if x = m then none else lookL l x := by
  induction l with
  | nil => simp [withoutL, lookL]
  | cons e r ih =>
    unfold withoutL at ih ⊢
    rw [List.filter_cons]
    by_cases q : e.1 = m
    · rw [if_neg (by simp [q]), ih, lookL_cons]
      by_cases z : x = m
      · rw [if_pos z, if_pos z]
      · rw [if_neg z, if_neg z, if_neg (by intro h; exact z (h.symm.trans q))]
    · rw [if_pos (by simp [q]), lookL_cons, lookL_cons, ih]
      by_cases z : e.1 = x
      · rw [if_pos z, if_neg (by intro h; exact q (z.trans h)), if_pos z]
      · rw [if_neg z, if_neg z]
theorem look_ins (y : Ent) : ∀ (l : List Ent) (x : List UInt8), lookL l y.1 = none → lookL (insL y l) x = if x = y.1 then some y.2 else lookL l x
  | [], x, _ => by
    rw [insL, lookL_cons]
    by_cases z : x = y.1
    · rw [if_pos z.symm, if_pos z]
    · rw [if_neg (fun h => z h.symm), if_neg z]
  | e :: r, x, h => by
    rw [lookL_cons] at h
    by_cases q : e.1 = y.1
    · rw [if_pos q] at h; cases h
    · rw [if_neg q] at h
      rw [insL]
      by_cases c : lessB y.1 e.1 = true
      · rw [if_pos c, lookL_cons]
        by_cases z : x = y.1
        · rw [if_pos z.symm, if_pos z]
        · rw [if_neg (fun h => z h.symm), if_neg z]
      · rw [if_neg c, lookL_cons, lookL_cons, look_ins y r x h]
        by_cases z : e.1 = x
        · rw [if_pos z, if_neg (by intro h; exact q (z.trans h)), if_pos z]
        · rw [if_neg z, if_neg z]
theorem look_with (l : List Ent) (m : List UInt8) (n : Int) (x : List UInt8) : lookL (withL l m n) x = if x = m then some n else lookL l x := by
  rw [withL, look_ins _ _ _ (by rw [look_without, if_pos rfl]), look_without]
  by_cases z : x = m
  · rw [if_pos z, if_pos z]
  · rw [if_neg z, if_neg z, if_neg z]
theorem sorted_without {l : List Ent} (h : sortedL l) (m : List UInt8) : sortedL (withoutL l m) := List.Pairwise.filter _ h
theorem mem_ins (y : Ent) : ∀ (l : List Ent) (e : Ent), e ∈ insL y l → e = y ∨ e ∈ l
  | [], e, h => by simp [insL] at h; exact .inl h
  | a :: r, e, h => by
    rw [insL] at h
    split at h
    · rcases List.mem_cons.1 h with h | h
      · exact .inl h
      · exact .inr h
    · rcases List.mem_cons.1 h with h | h
      · exact .inr (by simp [h])
      · rcases mem_ins y r e h with h | h
        · exact .inl h
        · exact .inr (by simp [h])
theorem sorted_ins (y : Ent) : ∀ l : List Ent, sortedL l → (∀ e ∈ l, e.1 ≠ y.1) → sortedL (insL y l)
  | [], _, _ => by simp [insL, sortedL]
  | e :: r, h, hn => by
    obtain ⟨h1, h2⟩ := List.pairwise_cons.1 h
    rw [insL]
    by_cases c : lessB y.1 e.1 = true
    · rw [if_pos c]
      refine List.pairwise_cons.2 ⟨fun a ha => ?_, h⟩
      rcases List.mem_cons.1 ha with rfl | ha
      · exact c
      · exact lessB_trans _ _ _ c (h1 a ha)
    · rw [if_neg c]
      refine List.pairwise_cons.2 ⟨fun a ha => ?_, sorted_ins y r h2 (fun a ha => hn a (by simp [ha]))⟩
      rcases mem_ins y r a ha with rfl | ha
      · exact lessB_total _ _ (Ne.symm (hn e (by simp))) (by simpa using c)
      · exact h1 a ha
theorem sorted_with {l : List Ent} (h : sortedL l) (m : List UInt8) (n : Int) : sortedL (withL l m n) :=
  sorted_ins _ _ (sorted_without h m) (fun e he => by simpa [withoutL] using (List.mem_filter.1 he).2)
theorem look_mem {l : List Ent} (h : sortedL l) : ∀ e, e ∈ l → lookL l e.1 = some e.2 := by
  induction l with
  | nil => intro e he; cases he
  | cons a r ih =>
    intro e he
    obtain ⟨h1, h2⟩ := List.pairwise_cons.1 h
    rw [lookL_cons]
    rcases List.mem_cons.1 he with rfl | he
    · rw [if_pos rfl]
    · rw [if_neg (lessB_ne (h1 e he)), ih h2 e he]
theorem mem_look {l : List Ent} {m : List UInt8} {n : Int} (h : lookL l m = some n) : (m, n) ∈ l := by
  unfold lookL at h
  obtain ⟨e, he, h2⟩ := Option.map_eq_some_iff.1 h
  have h3 := List.find?_some he
  have h4 := List.mem_of_find?_eq_some he
  simp only [decide_eq_true_eq] at h3
  rw [← h3, ← h2]
  exact h4
/-- The names of a sorted list are the only ascending list of what is there. -/
theorem names_unique : ∀ (ns : List (List UInt8)) (l : List Ent), ns.Pairwise (fun a b => lessB a b = true) → sortedL l → (∀ m, m ∈ ns ↔ lookL l m ≠ none) → ns = l.map (·.1)
  | [], [], _, _, _ => rfl
  | [], e :: r, _, _, h => by
    have := (h e.1).2 (by rw [lookL_cons, if_pos rfl]; simp)
    cases this
  | n :: ns, [], _, _, h => by
    have := (h n).1 (by simp)
    exact (this rfl).elim
  | n :: ns, e :: r, hp, hs, h => by
    obtain ⟨p1, p2⟩ := List.pairwise_cons.1 hp
    obtain ⟨s1, s2⟩ := List.pairwise_cons.1 hs
    have hmem : ∀ m, lookL (e :: r) m ≠ none → m = e.1 ∨ lessB e.1 m = true := by
      intro m hm
      cases hq : lookL (e :: r) m with
      | none => exact (hm hq).elim
      | some v =>
        rcases List.mem_cons.1 (mem_look hq) with q | q
        · left; rw [← q]
        · right; exact s1 _ q
    have he : e.1 = n := by
      rcases List.mem_cons.1 ((h e.1).2 (by rw [lookL_cons, if_pos rfl]; simp)) with q | q
      · exact q
      · rcases hmem n ((h n).1 (by simp)) with q2 | q2
        · exact q2.symm
        · have := lessB_asym (p1 _ q); rw [q2] at this; cases this
    have hrest : ∀ m, m ∈ ns ↔ lookL r m ≠ none := by
      intro m
      by_cases q : e.1 = m
      · constructor
        · intro hm
          have := lessB_ne (p1 m hm)
          exact (this (he.symm.trans q)).elim
        · intro hm
          cases hq : lookL r m with
          | none => exact (hm hq).elim
          | some v => exact ((lessB_ne (s1 _ (mem_look hq))) q).elim
      · have h2 := h m
        rw [lookL_cons, if_neg q, List.mem_cons] at h2
        rw [← h2]
        constructor
        · exact .inr
        · rintro (h3 | h3)
          · exact (q (he.trans h3.symm)).elim
          · exact h3
    rw [List.map_cons, names_unique ns r p2 s2 hrest, he]
theorem sorted_eq : ∀ (l l' : List Ent), sortedL l → sortedL l' → (∀ m, lookL l m = lookL l' m) → l = l' := by
  intro l l' h h' hl
  have hn : l.map (·.1) = l'.map (·.1) := names_unique _ l' (List.pairwise_map.2 h) h' (fun m => by
    rw [← hl m]
    constructor
    · intro hm
      obtain ⟨e, he, rfl⟩ := List.mem_map.1 hm
      rw [look_mem h e he]; simp
    · intro hm
      cases hq : lookL l m with
      | none => exact (hm hq).elim
      | some v => exact List.mem_map.2 ⟨(m, v), mem_look hq, rfl⟩)
  have hlen : l.length = l'.length := by simpa using congrArg List.length hn
  apply List.ext_getElem hlen
  intro i h1 h2
  have e1 : (l[i]'h1).1 = (l'[i]'h2).1 := by
    have := congrArg (fun x => x[i]?) hn
    simpa [h1, h2] using this
  have a1 := look_mem h _ (List.getElem_mem h1)
  have a2 := look_mem h' _ (List.getElem_mem h2)
  rw [hl, e1, a2] at a1
  exact Prod.ext e1 (Option.some.inj a1).symm

/-- What was done: put (0), dropped (1), moved (2). -/
structure OpD where
  kind : Int
  a : List UInt8
  b : List UInt8
  n : Int
def applyL (l : List Ent) (o : OpD) : List Ent :=
  if o.kind = 0 then withL l o.a o.n else if o.kind = 1 then withoutL l o.a else
    match lookL l o.a with
    | none => l
    | some v => withL (withoutL l o.a) o.b v
theorem sorted_apply {l : List Ent} (h : sortedL l) (o : OpD) : sortedL (applyL l o) := by
  unfold applyL
  split
  · exact sorted_with h _ _
  · split
    · exact sorted_without h _
    · split
      · exact h
      · exact sorted_with (sorted_without h _) _ _
/-- What a name's number is behind an operation. -/
theorem look_apply (l : List Ent) (o : OpD) (x : List UInt8) : lookL (applyL l o) x =
    if o.kind = 0 then (if x = o.a then some o.n else lookL l x) else if o.kind = 1 then (if x = o.a then none else lookL l x) else
      match lookL l o.a with
      | none => lookL l x
      | some v => if x = o.b then some v else if x = o.a then none else lookL l x := by
  unfold applyL
  split
  · exact look_with _ _ _ _
  · split
    · exact look_without _ _ _
    · split
      · rfl
      · rw [look_with, look_without]
def mayL (l : List Ent) (o : OpD) : Bool := (lookL l o.a).isSome == decide (o.kind ≠ 0)
/-- What a crash leaves. -/
def crashL : List Ent → List OpD → List Bool → List Ent
  | l, o :: r, true :: k => crashL (applyL l o) r k
  | l, _, _ => l
theorem sorted_crash : ∀ (l : List Ent) (r : List OpD) (k : List Bool), sortedL l → sortedL (crashL l r k)
  | l, [], _, h => by simpa [crashL] using h
  | l, _ :: _, [], h => by simpa [crashL] using h
  | l, _ :: _, false :: _, h => by simpa [crashL] using h
  | l, o :: r, true :: k, h => by rw [crashL]; exact sorted_crash _ r k (sorted_apply h o)
/-- All of what is pending, kept. -/
theorem crash_all : ∀ (l : List Ent) (r : List OpD) (m : Nat), m = r.length → crashL l r (List.replicate m true) = r.foldl applyL l
  | l, [], _, h => by subst h; rfl
  | l, o :: r, _, h => by subst h; rw [List.length_cons, List.replicate_succ, crashL, crash_all _ r _ rfl]; rfl
theorem crash_none (l : List Ent) (r : List OpD) : crashL l r [] = l := by cases r <;> rfl
theorem dropsame (o : OpD) (h : o.kind ≠ 0) (h1 : o.kind ≠ 1) (hab : o.a = o.b) (l : List Ent) (hl : sortedL l) : applyL l o = l := by
  apply sorted_eq _ _ (sorted_apply hl o) hl
  intro m
  rw [look_apply, if_neg h, if_neg h1]
  split
  · rfl
  · next v hv =>
    rw [← hab]
    by_cases q : m = o.a
    · rw [if_pos q, q, hv]
    · rw [if_neg q, if_neg q]
end Go.Proofs.Ytapkohdbnfaacaa
