/- Plain mathematics of the program's canonical grammars (layer 16): an order of numbers, what it picks, its places, rewritten rules. Nothing here names the program. -/
import Derived.Test.YtapkohdbnfaacaaMm
import Derived.Lib.Bytealg
import Derived.Lib.Small
set_option linter.unusedVariables false
set_option linter.unusedSimpArgs false
namespace Go.Proofs.Ytapkohdbnfaacaa
open Go.Lib

theorem cmpI_lt (x y : Int) : (compareInt x y < 0) ↔ x < y := by
  unfold compareInt
  split
  · simp; omega
  · split <;> simp <;> omega
theorem cmpI_eq (x y : Int) : (compareInt x y = 0) ↔ x = y := by
  unfold compareInt
  split
  · simp; omega
  · split
    · simp; omega
    · simp; omega
theorem cmpB_lt : ∀ x y : List UInt8, (compareBytes x y < 0) ↔ lessB x y = true
  | [], [] => by simp [compareBytes, lessB]
  | [], _ :: _ => by simp [compareBytes, lessB]
  | _ :: _, [] => by simp [compareBytes, lessB]
  | a :: x, b :: y => by
    unfold compareBytes lessB
    by_cases h : a = b
    · subst h
      rw [if_neg (by simp), if_neg (by simp), if_pos rfl]
      exact cmpB_lt x y
    · rw [if_neg h]
      by_cases h1 : a < b
      · rw [if_pos h1]
        have := UInt8.lt_iff_toNat_lt.1 h1
        simp [this]
      · rw [if_neg h1]
        have h2 : ¬ a.toNat < b.toNat := fun q => h1 (UInt8.lt_iff_toNat_lt.2 q)
        have h3 : a.toNat ≠ b.toNat := fun e => h (UInt8.toNat_inj.1 e)
        have h4 : b < a := UInt8.lt_iff_toNat_lt.2 (by omega)
        rw [if_pos h4]
        simp [h2]

/-- The order of names: the first one stays. -/
def cfN (l : List (List UInt8)) (a b : Nat) : Int := if a = 0 ∨ b = 0 then compareInt a b else compareBytes (l.getD a []) (l.getD b [])
def cfT (l : List (List UInt8)) (a b : Nat) : Int := compareBytes (l.getD a []) (l.getD b [])
theorem cfT_lt (l : List (List UInt8)) (a b : Nat) : cfT l a b < 0 ↔ lessB (l.getD a []) (l.getD b []) = true := cmpB_lt _ _
theorem cfN_lt (l : List (List UInt8)) (a b : Nat) : cfN l a b < 0 ↔ (if a = 0 ∨ b = 0 then a < b else lessB (l.getD a []) (l.getD b []) = true) := by
  unfold cfN
  split
  · rw [cmpI_lt]; omega
  · exact cmpB_lt _ _
/-- What a sort asks of an order of the numbers below n. -/
structure OrdN (n : Nat) (cf : Nat → Nat → Int) : Prop where
  irrefl : ∀ x, x < n → ¬ cf x x < 0
  trans : ∀ x y z, x < n → y < n → z < n → cf x y < 0 → cf y z < 0 → cf x z < 0
  ntrans : ∀ x y z, x < n → y < n → z < n → ¬ cf x y < 0 → ¬ cf y z < 0 → ¬ cf x z < 0
theorem lessB_ntrans {a b c : List UInt8} (h1 : ¬ lessB a b = true) (h2 : ¬ lessB b c = true) : ¬ lessB a c = true := by
  intro h
  have h1' : lessB a b = false := by simpa using h1
  have h2' : lessB b c = false := by simpa using h2
  have := le_trans_of ord_bytes (a := c) (b := b) (c := a) trivial trivial h2' h1'
  rw [this] at h
  cases h
theorem ordT (l : List (List UInt8)) (n : Nat) : OrdN n (cfT l) where
  irrefl x _ := by rw [cfT_lt, lessB_irr]; simp
  trans x y z _ _ _ h1 h2 := by rw [cfT_lt] at *; exact lessB_trans _ _ _ h1 h2
  ntrans x y z _ _ _ h1 h2 := by rw [cfT_lt] at *; exact lessB_ntrans h1 h2
theorem ordN (l : List (List UInt8)) (n : Nat) : OrdN n (cfN l) where
  irrefl x _ := by
    rw [cfN_lt]
    split
    · omega
    · rw [lessB_irr]; simp
  trans x y z _ _ _ h1 h2 := by
    rw [cfN_lt] at *
    by_cases hx : x = 0
    · subst hx
      rw [if_pos (.inl rfl)] at h1 ⊢
      by_cases hz : z = 0
      · subst hz
        rw [if_pos (.inr rfl)] at h2
        omega
      · omega
    · by_cases hz : z = 0
      · subst hz
        rw [if_pos (.inr rfl)] at h2
        omega
      · by_cases hy : y = 0
        · subst hy
          rw [if_pos (.inr rfl)] at h1
          omega
        · rw [if_neg (by omega)] at h1 h2 ⊢
          exact lessB_trans _ _ _ h1 h2
  ntrans x y z _ _ _ h1 h2 := by
    rw [cfN_lt] at *
    by_cases hx : x = 0
    · subst hx
      rw [if_pos (.inl rfl)] at h1 ⊢
      have hy : y = 0 := by omega
      subst hy
      rw [if_pos (.inl rfl)] at h2
      exact h2
    · by_cases hz : z = 0
      · subst hz
        rw [if_pos (.inr rfl)]
        omega
      · by_cases hy : y = 0
        · subst hy
          rw [if_pos (.inl rfl)] at h2
          omega
        · rw [if_neg (by omega)] at h1 h2 ⊢
          exact lessB_ntrans h1 h2
/-- The numbers below n, in an order. -/
structure SortedN (n : Nat) (cf : Nat → Nat → Int) (p : List Nat) : Prop where
  perm : List.Perm p (List.range n)
  order : p.Pairwise fun a b => ¬ cf b a < 0
theorem SortedN.len {n : Nat} {cf : Nat → Nat → Int} {p : List Nat} (h : SortedN n cf p) : p.length = n := by rw [h.perm.length_eq, List.length_range]
theorem SortedN.lt {n : Nat} {cf : Nat → Nat → Int} {p : List Nat} (h : SortedN n cf p) {x : Nat} (hx : x ∈ p) : x < n := List.mem_range.1 (h.perm.mem_iff.1 hx)
theorem SortedN.nodup {n : Nat} {cf : Nat → Nat → Int} {p : List Nat} (h : SortedN n cf p) : p.Nodup := h.perm.nodup_iff.2 List.nodup_range
theorem SortedN.has {n : Nat} {cf : Nat → Nat → Int} {p : List Nat} (h : SortedN n cf p) {x : Nat} (hx : x < n) : x ∈ p := h.perm.mem_iff.2 (List.mem_range.2 hx)
def pickN (l : List (List UInt8)) (p : List Nat) : List (List UInt8) := p.map fun k => l.getD k []
theorem range_get (l : List (List UInt8)) : (List.range l.length).map (fun k => l.getD k []) = l := by
  refine List.ext_getElem (by simp) (fun i h1 h2 => ?_)
  rw [List.getElem_map, List.getElem_range, getD_lt (by simpa using h2)]
theorem pick_perm {l : List (List UInt8)} {cf : Nat → Nat → Int} {p : List Nat} (h : SortedN l.length cf p) : List.Perm (pickN l p) l := by
  have := h.perm.map (fun k => l.getD k [])
  rwa [range_get] at this
theorem pick_terms {l : List (List UInt8)} {p : List Nat} (h : SortedN l.length (cfT l) p) : pickN l p = sortB lessB 0 l := by
  refine rising_unique ord_bytes (fun _ _ => trivial) ((pick_perm h).trans (sortB_perm lessB 0 l).symm) ?_ (sortB_rising ord_bytes (fun _ _ => trivial))
  refine List.pairwise_map.2 (h.order.imp (fun {a b} q => ?_))
  rw [cfT_lt] at q
  simpa using q
theorem pick_names {l : List (List UInt8)} {p : List Nat} (h : SortedN l.length (cfN l) p) : pickN l p = sortB lessB 1 l := by
  cases hl : l with
  | nil =>
    have := h.len
    rw [hl] at this
    rw [List.eq_nil_of_length_eq_zero this]
    rfl
  | cons f l' =>
    have hlen := h.len
    have h0 : 0 ∈ p := h.has (by rw [hl]; simp)
    obtain ⟨x, p', rfl⟩ : ∃ x p', p = x :: p' := by
      cases p with
      | nil => simp at h0
      | cons x p' => exact ⟨x, p', rfl⟩
    have ho := List.pairwise_cons.1 h.order
    have hx : x = 0 := by
      rcases List.mem_cons.1 h0 with q | q
      · exact q.symm
      · have := ho.1 0 q
        rw [cfN_lt, if_pos (.inl rfl)] at this
        omega
    subst hx
    have hnd := List.nodup_cons.1 h.nodup
    have hpp := pick_perm h
    rw [← hl, sort_one_eq hl]
    unfold pickN at hpp ⊢
    rw [List.map_cons] at hpp ⊢
    have e0 : l.getD 0 [] = f := by rw [hl]; rfl
    rw [e0] at hpp ⊢
    have hp2 : List.Perm (p'.map fun k => l.getD k []) l' := List.Perm.cons_inv (a := f) (by rw [← hl]; exact hpp)
    congr 1
    refine rising_unique ord_bytes (fun _ _ => trivial) (hp2.trans (sortB_perm lessB 0 l').symm) ?_ (sortB_rising ord_bytes (fun _ _ => trivial))
    refine List.pairwise_map.2 ?_
    refine List.Pairwise.imp_of_mem (fun {a b} ha hb q => ?_) ho.2
    rw [cfN_lt, if_neg ?_] at q
    · simpa using q
    · rintro (e | e)
      · subst e; exact hnd.1 hb
      · subst e; exact hnd.1 ha
where
  sort_one_eq {l l' : List (List UInt8)} {f : List UInt8} (hl : l = f :: l') : sortB lessB 1 l = f :: sortB lessB 0 l' := by rw [hl, sort_one]
/-- Of each number, at which place it stands. -/
def placesN (p : List Nat) : List Int := (List.range p.length).map fun k => (p.idxOf k : Int)
/-- .. while the first i have been entered. -/
def placesTo (p : List Nat) (i : Nat) : List Int := (List.range p.length).map fun k => if p.idxOf k < i then (p.idxOf k : Int) else 0
theorem places_zero (p : List Nat) : placesTo p 0 = List.replicate p.length 0 := by
  unfold placesTo
  refine List.ext_getElem (by simp) (fun i h1 h2 => ?_)
  simp
theorem places_end {p : List Nat} (h : ∀ k, k < p.length → k ∈ p) : placesTo p p.length = placesN p := by
  unfold placesTo placesN
  refine List.map_congr_left (fun k hk => ?_)
  rw [if_pos (List.idxOf_lt_length_iff.2 (h k (List.mem_range.1 hk)))]
theorem places_next {p : List Nat} (hn : p.Nodup) {i : Nat} (hi : i < p.length) : (placesTo p i).set (p[i]'hi) (i : Int) = placesTo p (i + 1) := by
  unfold placesTo
  refine List.ext_getElem (by simp) (fun k h1 h2 => ?_)
  rw [List.getElem_set]
  have hk : k < p.length := by simpa using h2
  simp only [List.getElem_map, List.getElem_range]
  by_cases e : p[i]'hi = k
  · rw [if_pos e]
    have : p.idxOf k = i := by rw [← e]; exact List.Nodup.idxOf_getElem hn i hi
    rw [this, if_pos (by omega)]
  · rw [if_neg e]
    by_cases q : p.idxOf k < i
    · rw [if_pos q, if_pos (by omega)]
    · rw [if_neg q]
      by_cases q2 : p.idxOf k = i
      · exfalso
        apply e
        have h3 : p.idxOf k < p.length := by omega
        have := List.getElem_idxOf h3
        simp only [q2] at this
        exact this
      · rw [if_neg (by omega)]
theorem places_len (p : List Nat) : (placesN p).length = p.length := by unfold placesN; simp
theorem places_find {l : List (List UInt8)} {cf : Nat → Nat → Int} {p : List Nat} (h : SortedN l.length cf p) (hn : l.Nodup) {k : Nat} (hk : k < l.length) : (placesN p).getD k 0 = findG (pickN l p) (l.getD k []) := by
  have hm : k ∈ p := h.has hk
  have hi : p.idxOf k < p.length := List.idxOf_lt_length_iff.2 hm
  have hg : p[p.idxOf k]'hi = k := List.getElem_idxOf hi
  have hlen : (pickN l p).length = p.length := by unfold pickN; simp
  have e1 : (placesN p).getD k 0 = (p.idxOf k : Int) := by
    unfold placesN
    rw [List.getD_eq_getElem?_getD, List.getElem?_eq_getElem (by simp; rw [h.len]; exact hk)]
    simp
  rw [e1]
  symm
  refine find_at (by rw [hlen]; exact hi) ?_ (fun j hj => ?_)
  · unfold pickN
    rw [List.getElem_map, hg]
  · unfold pickN
    rw [List.getElem_map]
    have hj2 : j < p.length := by omega
    have h1 : p[j]'hj2 ≠ k := fun e => by
      have := List.Nodup.idxOf_getElem h.nodup j hj2
      rw [e] at this
      omega
    have h2 : p[j]'hj2 < l.length := h.lt (List.getElem_mem _)
    rw [getD_lt h2, getD_lt hk]
    intro e
    rcases Nat.lt_trichotomy (p[j]'hj2) k with q | q | q
    · exact nodup_iff.1 hn k hk _ q e
    · exact h1 q
    · exact nodup_iff.1 hn _ h2 _ q e.symm
/-- A symbol, a rule with the new numbers. -/
def renS (qn qt : List Int) (s : Int) : Int := if s < 0 then -1 - qt.getD (-1 - s).toNat 0 else qn.getD s.toNat 0
def renR (qn qt : List Int) (r : RuleG) : RuleG := ⟨renS qn qt r.left, r.right.map (renS qn qt)⟩
theorem ren_rule {g : GramG} (hv : ValidG g) {cn ct : Nat → Nat → Int} {pn pt : List Nat} (hn : SortedN g.names.length cn pn) (ht : SortedN g.terms.length ct pt) {r : RuleG} (hr : r ∈ g.rules) :
    renR (placesN pn) (placesN pt) r = symX (pickN g.names pn) (pickN g.terms pt) (ruleX g.names g.terms r) := by
  obtain ⟨h1, h2, -, h4⟩ := hv.rules r hr
  refine RuleG.ext' ?_ ?_
  · show renS (placesN pn) (placesN pt) r.left = findG (pickN g.names pn) (g.names.getD r.left.toNat [])
    unfold renS
    rw [if_neg (by omega)]
    exact places_find hn hv.nodupN (by omega)
  · show r.right.map _ = (r.right.map _).map _
    rw [List.map_map]
    refine List.map_congr_left (fun s hs => ?_)
    have := h4 s hs
    show renS _ _ s = symG _ _ (itemG _ s)
    unfold renS symG itemG
    by_cases q : s < 0
    · rw [if_pos q, if_pos q, if_pos rfl, places_find ht hv.nodupT (by omega)]
    · rw [if_neg q, if_neg q, if_neg (by simp), places_find hn hv.nodupN (by omega)]
theorem ren_rules {g : GramG} (hv : ValidG g) {cn ct : Nat → Nat → Int} {pn pt : List Nat} (hn : SortedN g.names.length cn pn) (ht : SortedN g.terms.length ct pt) :
    g.rules.map (renR (placesN pn) (placesN pt)) = (rulesX g).map (symX (pickN g.names pn) (pickN g.terms pt)) := by
  unfold rulesX
  rw [List.map_map]
  exact List.map_congr_left (fun r hr => ren_rule hv hn ht hr)

/-- Two symbols compared: terminals first, greater numbers of terminals behind. -/
def cmpS (a b : Int) : Int := if a < 0 ∧ b < 0 then compareInt b a else compareInt a b
def cmpL : List Int → List Int → Int
  | [], [] => 0
  | [], _ :: _ => -1
  | _ :: _, [] => 1
  | a :: x, b :: y => if cmpS a b ≠ 0 then cmpS a b else cmpL x y
def cmpR (a b : RuleG) : Int := if compareInt a.left b.left ≠ 0 then compareInt a.left b.left else cmpL a.right b.right
theorem cmpS_lt {a b : Int} (ha : -1000 ≤ a) (hb : -1000 ≤ b) : cmpS a b < 0 ↔ rankG a < rankG b := by
  unfold cmpS rankG
  split
  · rw [cmpI_lt, if_pos (by omega), if_pos (by omega)]; omega
  · rw [cmpI_lt]
    split <;> split <;> omega
theorem cmpS_eq (a b : Int) : cmpS a b = 0 ↔ a = b := by
  unfold cmpS
  split
  · rw [cmpI_eq]; omega
  · rw [cmpI_eq]
theorem cmpL_lt : ∀ {a b : List Int}, (∀ s ∈ a, -1000 ≤ s) → (∀ s ∈ b, -1000 ≤ s) → (cmpL a b < 0 ↔ lessSyms a b = true)
  | [], [], _, _ => by simp [cmpL, lessSyms]
  | [], _ :: _, _, _ => by simp [cmpL, lessSyms]
  | _ :: _, [], _, _ => by simp [cmpL, lessSyms]
  | a :: x, b :: y, ha, hb => by
    unfold cmpL lessSyms
    by_cases e : a = b
    · rw [if_neg (by simp [(cmpS_eq a b).2 e]), if_pos e]
      exact cmpL_lt (fun s hs => ha s (List.mem_cons_of_mem _ hs)) (fun s hs => hb s (List.mem_cons_of_mem _ hs))
    · rw [if_pos (fun h => e ((cmpS_eq a b).1 h)), if_neg e, cmpS_lt (ha a (by simp)) (hb b (by simp))]
      simp
theorem cmpR_lt {a b : RuleG} (ha : FewS a) (hb : FewS b) : cmpR a b < 0 ↔ lessR a b = true := by
  unfold cmpR lessR
  by_cases e : a.left = b.left
  · rw [if_neg (by simp [(cmpI_eq _ _).2 e]), if_pos e]
    exact cmpL_lt ha hb
  · rw [if_pos (fun h => e ((cmpI_eq _ _).1 h)), if_neg e, cmpI_lt]
    simp
/-- The order of the rules of a list, by their numbers. -/
def cfR (l : List RuleG) (a b : Nat) : Int := cmpR (l.getD a ⟨0, []⟩) (l.getD b ⟨0, []⟩)
theorem few_getD {l : List RuleG} (h : ∀ r ∈ l, FewS r) {k : Nat} (hk : k < l.length) : FewS (l.getD k ⟨0, []⟩) := by
  rw [show l.getD k ⟨0, []⟩ = l[k] by simp [List.getD, List.getElem?_eq_getElem hk]]
  exact h _ (List.getElem_mem _)
theorem ordR {l : List RuleG} (h : ∀ r ∈ l, FewS r) : OrdN l.length (cfR l) where
  irrefl x hx := by
    unfold cfR
    rw [cmpR_lt (few_getD h hx) (few_getD h hx), ord_rules.irr]
    simp
  trans x y z hx hy hz h1 h2 := by
    unfold cfR at *
    rw [cmpR_lt (few_getD h (by assumption)) (few_getD h (by assumption))] at *
    exact ord_rules.trans _ _ _ h1 h2
  ntrans x y z hx hy hz h1 h2 := by
    unfold cfR at *
    rw [cmpR_lt (few_getD h (by assumption)) (few_getD h (by assumption))] at *
    have h1' : lessR (l.getD x ⟨0, []⟩) (l.getD y ⟨0, []⟩) = false := by simpa using h1
    have h2' : lessR (l.getD y ⟨0, []⟩) (l.getD z ⟨0, []⟩) = false := by simpa using h2
    rw [le_trans_of ord_rules (few_getD h hz) (few_getD h hy) h2' h1']
    simp
def pickR (l : List RuleG) (p : List Nat) : List RuleG := p.map fun k => l.getD k ⟨0, []⟩
theorem pick_rules {l : List RuleG} (h : ∀ r ∈ l, FewS r) {p : List Nat} (hs : SortedN l.length (cfR l) p) : pickR l p = sortB lessR 0 l := by
  have hp : List.Perm (pickR l p) l := by
    have := hs.perm.map (fun k => l.getD k ⟨0, []⟩)
    rwa [show (List.range l.length).map (fun k => l.getD k ⟨0, []⟩) = l from List.ext_getElem (by simp) (fun i h1 h2 => by
      simp [List.getD, List.getElem?_eq_getElem h2])] at this
  refine rising_unique ord_rules (fun y hy => h y (hp.mem_iff.1 hy)) (hp.trans (sortB_perm lessR 0 l).symm) ?_ (sortB_rising ord_rules h)
  refine List.pairwise_map.2 (List.Pairwise.imp_of_mem (fun {a b} ha hb q => ?_) hs.order)
  unfold cfR at q
  rw [cmpR_lt (few_getD h (hs.lt hb)) (few_getD h (hs.lt ha))] at q
  simpa using q
theorem canon_parts {g : GramG} (hv : ValidG g) {pn pt pr : List Nat} (hn : SortedN g.names.length (cfN g.names) pn) (ht : SortedN g.terms.length (cfT g.terms) pt)
    (hr : SortedN (g.rules.map (renR (placesN pn) (placesN pt))).length (cfR (g.rules.map (renR (placesN pn) (placesN pt)))) pr) :
    (⟨pickN g.names pn, pickN g.terms pt, pickR (g.rules.map (renR (placesN pn) (placesN pt))) pr⟩ : GramG) = canonG g := by
  have e1 : pickN g.names pn = canonN g := pick_names hn
  have e2 : pickN g.terms pt = canonT g := pick_terms ht
  have hfew : ∀ r ∈ g.rules.map (renR (placesN pn) (placesN pt)), FewS r := by
    rw [ren_rules hv hn ht]
    intro r hr
    obtain ⟨x, -, rfl⟩ := List.mem_map.1 hr
    refine symX_few ?_ x
    rw [e2, (canonT_perm g).length_eq]
    have := hv.syms
    omega
  rw [pick_rules hfew hr, ren_rules hv hn ht, e1, e2]
  rfl
end Go.Proofs.Ytapkohdbnfaacaa
