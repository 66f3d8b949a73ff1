/- Several texts in one: CpM, SfW, CpA, CpB, CpC, CpS. -/
import Derived.Lib.Bytealg
import Derived.Lib.Small
import Derived.Shelf.SlSortCmp.Kit1
import Derived.Shelf.SlSortCmp.KitK
import Derived.LoopTactic
import Derived.Deep.DeepCutAuto
import Derived.WalkMore
import Derived.Shelf.SlSortCmp.NoneTotal
import Derived.Test.YtjlkcdmeiakkbaaGreatDoorMm
import Derived.Test.YtjlkcdmeiakkbaaGreatDoorDt
import Derived.Test.YtjlkcdmeiakkbaaGreatDoorBs
import Derived.Test.YtjlkcdmeiakkbaaGreatDoorShelf
import Derived.Test.YtjlkcdmeiakkbaaGreatDoorShelfS
set_option linter.unusedVariables false
set_option linter.unusedSimpArgs false
/-! Plain mathematics of the program's canonical grammars (layer 16): an order of numbers, what it picks, its places, rewritten rules. Nothing here names the program. -/
namespace Go.Proofs.YtjlkcdmeiakkbaaGreatDoor
open Go.Lib

theorem cmpI_lt (x y : Int) : (compareInt x y < 0) ↔ x < y := by
  unfold compareInt
  split
  · simp; omega
  · split <;> simp <;> omega
theorem cmpI_eq (x y : Int) : (compareInt x y = 0) ↔ x = y := by
  unfold compareInt
  split
  · simp; omega
  · split
    · simp; omega
    · simp; omega
theorem cmpB_lt : ∀ x y : List UInt8, (compareBytes x y < 0) ↔ lessB x y = true
  | [], [] => by simp [compareBytes, lessB]
  | [], _ :: _ => by simp [compareBytes, lessB]
  | _ :: _, [] => by simp [compareBytes, lessB]
  | a :: x, b :: y => by
    unfold compareBytes lessB
    by_cases h : a = b
    · subst h
      rw [if_neg (by simp), if_neg (by simp), if_pos rfl]
      exact cmpB_lt x y
    · rw [if_neg h]
      by_cases h1 : a < b
      · rw [if_pos h1]
        have := UInt8.lt_iff_toNat_lt.1 h1
        simp [this]
      · rw [if_neg h1]
        have h2 : ¬ a.toNat < b.toNat := fun q => h1 (UInt8.lt_iff_toNat_lt.2 q)
        have h3 : a.toNat ≠ b.toNat := fun e => h (UInt8.toNat_inj.1 e)
        have h4 : b < a := UInt8.lt_iff_toNat_lt.2 (by omega)
        rw [if_pos h4]
        simp [h2]

/-- The order of names: the first one stays. -/
def cfN (l : List (List UInt8)) (a b : Nat) : Int := if a = 0 ∨ b = 0 then compareInt a b else compareBytes (l.getD a []) (l.getD b [])
def cfT (l : List (List UInt8)) (a b : Nat) : Int := compareBytes (l.getD a []) (l.getD b [])
theorem cfT_lt (l : List (List UInt8)) (a b : Nat) : cfT l a b < 0 ↔ lessB (l.getD a []) (l.getD b []) = true := cmpB_lt _ _
theorem cfN_lt (l : List (List UInt8)) (a b : Nat) : cfN l a b < 0 ↔ (if a = 0 ∨ b = 0 then a < b else lessB (l.getD a []) (l.getD b []) = true) := by
  unfold cfN
  split
  · rw [cmpI_lt]; omega
  · exact cmpB_lt _ _
/-- What a sort asks of an order of the numbers below n. -/
structure OrdN (n : Nat) (cf : Nat → Nat → Int) : Prop where
  irrefl : ∀ x, x < n → ¬ cf x x < 0
  trans : ∀ x y z, x < n → y < n → z < n → cf x y < 0 → cf y z < 0 → cf x z < 0
  ntrans : ∀ x y z, x < n → y < n → z < n → ¬ cf x y < 0 → ¬ cf y z < 0 → ¬ cf x z < 0
theorem lessB_ntrans {a b c : List UInt8} (h1 : ¬ lessB a b = true) (h2 : ¬ lessB b c = true) : ¬ lessB a c = true := by
  intro h
  have h1' : lessB a b = false := by simpa using h1
  have h2' : lessB b c = false := by simpa using h2
  have := le_trans_of ord_bytes (a := c) (b := b) (c := a) trivial trivial h2' h1'
  rw [this] at h
  cases h
theorem ordT (l : List (List UInt8)) (n : Nat) : OrdN n (cfT l) where
  irrefl x _ := by rw [cfT_lt, lessB_irr]; simp
  trans x y z _ _ _ h1 h2 := by rw [cfT_lt] at *; exact lessB_trans _ _ _ h1 h2
  ntrans x y z _ _ _ h1 h2 := by rw [cfT_lt] at *; exact lessB_ntrans h1 h2
theorem ordN (l : List (List UInt8)) (n : Nat) : OrdN n (cfN l) where
  irrefl x _ := by
    rw [cfN_lt]
    split
    · omega
    · rw [lessB_irr]; simp
  trans x y z _ _ _ h1 h2 := by
    rw [cfN_lt] at *
    by_cases hx : x = 0
    · subst hx
      rw [if_pos (.inl rfl)] at h1 ⊢
      by_cases hz : z = 0
      · subst hz
        rw [if_pos (.inr rfl)] at h2
        omega
      · omega
    · by_cases hz : z = 0
      · subst hz
        rw [if_pos (.inr rfl)] at h2
        omega
      · by_cases hy : y = 0
        · subst hy
          rw [if_pos (.inr rfl)] at h1
          omega
        · rw [if_neg (by omega)] at h1 h2 ⊢
          exact lessB_trans _ _ _ h1 h2
  ntrans x y z _ _ _ h1 h2 := by
    rw [cfN_lt] at *
    by_cases hx : x = 0
    · subst hx
      rw [if_pos (.inl rfl)] at h1 ⊢
      have hy : y = 0 := by omega
      subst hy
      rw [if_pos (.inl rfl)] at h2
      exact h2
    · by_cases hz : z = 0
      · subst hz
        rw [if_pos (.inr rfl)]
        omega
      · by_cases hy : y = 0
        · subst hy
          rw [if_pos (.inl rfl)] at h2
          omega
        · rw [if_neg (by omega)] at h1 h2 ⊢
          exact lessB_ntrans h1 h2
/-- The numbers below n, in an order. -/
structure SortedN (n : Nat) (cf : Nat → Nat → Int) (p : List Nat) : Prop where
  perm : List.Perm p (List.range n)
  order : p.Pairwise fun a b => ¬ cf b a < 0
theorem SortedN.len {n : Nat} {cf : Nat → Nat → Int} {p : List Nat} (h : SortedN n cf p) : p.length = n := by rw [h.perm.length_eq, List.length_range]
theorem SortedN.lt {n : Nat} {cf : Nat → Nat → Int} {p : List Nat} (h : SortedN n cf p) {x : Nat} (hx : x ∈ p) : x < n := List.mem_range.1 (h.perm.mem_iff.1 hx)
theorem SortedN.nodup {n : Nat} {cf : Nat → Nat → Int} {p : List Nat} (h : SortedN n cf p) : p.Nodup := h.perm.nodup_iff.2 List.nodup_range
theorem SortedN.has {n : Nat} {cf : Nat → Nat → Int} {p : List Nat} (h : SortedN n cf p) {x : Nat} (hx : x < n) : x ∈ p := h.perm.mem_iff.2 (List.mem_range.2 hx)
def pickN (l : List (List UInt8)) (p : List Nat) : List (List UInt8) := p.map fun k => l.getD k []
theorem range_get (l : List (List UInt8)) : (List.range l.length).map (fun k => l.getD k []) = l := by
  refine List.ext_getElem (by simp) (fun i h1 h2 => ?_)
  rw [List.getElem_map, List.getElem_range, getD_lt (by simpa using h2)]
theorem pick_perm {l : List (List UInt8)} {cf : Nat → Nat → Int} {p : List Nat} (h : SortedN l.length cf p) : List.Perm (pickN l p) l := by
  have := h.perm.map (fun k => l.getD k [])
  rwa [range_get] at this
theorem pick_terms {l : List (List UInt8)} {p : List Nat} (h : SortedN l.length (cfT l) p) : pickN l p = sortB lessB 0 l := by
  refine rising_unique ord_bytes (fun _ _ => trivial) ((pick_perm h).trans (sortB_perm lessB 0 l).symm) ?_ (sortB_rising ord_bytes (fun _ _ => trivial))
  refine List.pairwise_map.2 (h.order.imp (fun {a b} q => ?_))
  rw [cfT_lt] at q
  simpa using q
theorem pick_names {l : List (List UInt8)} {p : List Nat} (h : SortedN l.length (cfN l) p) : pickN l p = sortB lessB 1 l := by
  cases hl : l with
  | nil =>
    have := h.len
    rw [hl] at this
    rw [List.eq_nil_of_length_eq_zero this]
    rfl
  | cons f l' =>
    have hlen := h.len
    have h0 : 0 ∈ p := h.has (by rw [hl]; simp)
    obtain ⟨x, p', rfl⟩ : ∃ x p', p = x :: p' := by
      cases p with
      | nil => simp at h0
      | cons x p' => exact ⟨x, p', rfl⟩
    have ho := List.pairwise_cons.1 h.order
    have hx : x = 0 := by
      rcases List.mem_cons.1 h0 with q | q
      · exact q.symm
      · have := ho.1 0 q
        rw [cfN_lt, if_pos (.inl rfl)] at this
        omega
    subst hx
    have hnd := List.nodup_cons.1 h.nodup
    have hpp := pick_perm h
    rw [← hl, sort_one_eq hl]
    unfold pickN at hpp ⊢
    rw [List.map_cons] at hpp ⊢
    have e0 : l.getD 0 [] = f := by rw [hl]; rfl
    rw [e0] at hpp ⊢
    have hp2 : List.Perm (p'.map fun k => l.getD k []) l' := List.Perm.cons_inv (a := f) (by rw [← hl]; exact hpp)
    congr 1
    refine rising_unique ord_bytes (fun _ _ => trivial) (hp2.trans (sortB_perm lessB 0 l').symm) ?_ (sortB_rising ord_bytes (fun _ _ => trivial))
    refine List.pairwise_map.2 ?_
    refine List.Pairwise.imp_of_mem (fun {a b} ha hb q => ?_) ho.2
    rw [cfN_lt, if_neg ?_] at q
    · simpa using q
    · rintro (e | e)
      · subst e; exact hnd.1 hb
      · subst e; exact hnd.1 ha
where
  sort_one_eq {l l' : List (List UInt8)} {f : List UInt8} (hl : l = f :: l') : sortB lessB 1 l = f :: sortB lessB 0 l' := by rw [hl, sort_one]
/-- Of each number, at which place it stands. -/
def placesN (p : List Nat) : List Int := (List.range p.length).map fun k => (p.idxOf k : Int)
/-- .. while the first i have been entered. -/
def placesTo (p : List Nat) (i : Nat) : List Int := (List.range p.length).map fun k => if p.idxOf k < i then (p.idxOf k : Int) else 0
theorem places_zero (p : List Nat) : placesTo p 0 = List.replicate p.length 0 := by
  unfold placesTo
  refine List.ext_getElem (by simp) (fun i h1 h2 => ?_)
  simp
theorem places_end {p : List Nat} (h : ∀ k, k < p.length → k ∈ p) : placesTo p p.length = placesN p := by
  unfold placesTo placesN
  refine List.map_congr_left (fun k hk => ?_)
  rw [if_pos (List.idxOf_lt_length_iff.2 (h k (List.mem_range.1 hk)))]
theorem places_next {p : List Nat} (hn : p.Nodup) {i : Nat} (hi : i < p.length) : (placesTo p i).set (p[i]'hi) (i : Int) = placesTo p (i + 1) := by
  unfold placesTo
  refine List.ext_getElem (by simp) (fun k h1 h2 => ?_)
  rw [List.getElem_set]
  have hk : k < p.length := by simpa using h2
  simp only [List.getElem_map, List.getElem_range]
  by_cases e : p[i]'hi = k
  · rw [if_pos e]
    have : p.idxOf k = i := by rw [← e]; exact List.Nodup.idxOf_getElem hn i hi
    rw [this, if_pos (by omega)]
  · rw [if_neg e]
    by_cases q : p.idxOf k < i
    · rw [if_pos q, if_pos (by omega)]
    · rw [if_neg q]
      by_cases q2 : p.idxOf k = i
      · exfalso
        apply e
        have h3 : p.idxOf k < p.length := by omega
        have := List.getElem_idxOf h3
        simp only [q2] at this
        exact this
      · rw [if_neg (by omega)]
theorem places_len (p : List Nat) : (placesN p).length = p.length := by unfold placesN; simp
theorem places_find {l : List (List UInt8)} {cf : Nat → Nat → Int} {p : List Nat} (h : SortedN l.length cf p) (hn : l.Nodup) {k : Nat} (hk : k < l.length) : (placesN p).getD k 0 = findG (pickN l p) (l.getD k []) := by
  have hm : k ∈ p := h.has hk
  have hi : p.idxOf k < p.length := List.idxOf_lt_length_iff.2 hm
  have hg : p[p.idxOf k]'hi = k := List.getElem_idxOf hi
  have hlen : (pickN l p).length = p.length := by unfold pickN; simp
  have e1 : (placesN p).getD k 0 = (p.idxOf k : Int) := by
    unfold placesN
    rw [List.getD_eq_getElem?_getD, List.getElem?_eq_getElem (by simp; rw [h.len]; exact hk)]
    simp
  rw [e1]
  symm
  refine find_at (by rw [hlen]; exact hi) ?_ (fun j hj => ?_)
  · unfold pickN
    rw [List.getElem_map, hg]
  · unfold pickN
    rw [List.getElem_map]
    have hj2 : j < p.length := by omega
    have h1 : p[j]'hj2 ≠ k := fun e => by
      have := List.Nodup.idxOf_getElem h.nodup j hj2
      rw [e] at this
      omega
    have h2 : p[j]'hj2 < l.length := h.lt (List.getElem_mem _)
    rw [getD_lt h2, getD_lt hk]
    intro e
    rcases Nat.lt_trichotomy (p[j]'hj2) k with q | q | q
    · exact nodup_iff.1 hn k hk _ q e
    · exact h1 q
    · exact nodup_iff.1 hn _ h2 _ q e.symm
/-- A symbol, a rule with the new numbers. -/
def renS (qn qt : List Int) (s : Int) : Int := if s < 0 then -1 - qt.getD (-1 - s).toNat 0 else qn.getD s.toNat 0
def renR (qn qt : List Int) (r : RuleG) : RuleG := ⟨renS qn qt r.left, r.right.map (renS qn qt)⟩
theorem ren_rule {g : GramG} (hv : ValidG g) {cn ct : Nat → Nat → Int} {pn pt : List Nat} (hn : SortedN g.names.length cn pn) (ht : SortedN g.terms.length ct pt) {r : RuleG} (hr : r ∈ g.rules) :
    renR (placesN pn) (placesN pt) r = symX (pickN g.names pn) (pickN g.terms pt) (ruleX g.names g.terms r) := by
  obtain ⟨h1, h2, -, h4⟩ := hv.rules r hr
  refine RuleG.ext' ?_ ?_
  · show renS (placesN pn) (placesN pt) r.left = findG (pickN g.names pn) (g.names.getD r.left.toNat [])
    unfold renS
    rw [if_neg (by omega)]
    exact places_find hn hv.nodupN (by omega)
  · show r.right.map _ = (r.right.map _).map _
    rw [List.map_map]
    refine List.map_congr_left (fun s hs => ?_)
    have := h4 s hs
    show renS _ _ s = symG _ _ (itemG _ s)
    unfold renS symG itemG
    by_cases q : s < 0
    · rw [if_pos q, if_pos q, if_pos rfl, places_find ht hv.nodupT (by omega)]
    · rw [if_neg q, if_neg q, if_neg (by simp), places_find hn hv.nodupN (by omega)]
theorem ren_rules {g : GramG} (hv : ValidG g) {cn ct : Nat → Nat → Int} {pn pt : List Nat} (hn : SortedN g.names.length cn pn) (ht : SortedN g.terms.length ct pt) :
    g.rules.map (renR (placesN pn) (placesN pt)) = (rulesX g).map (symX (pickN g.names pn) (pickN g.terms pt)) := by
  unfold rulesX
  rw [List.map_map]
  exact List.map_congr_left (fun r hr => ren_rule hv hn ht hr)

/-- Two symbols compared: terminals first, greater numbers of terminals behind. -/
def cmpS (a b : Int) : Int := if a < 0 ∧ b < 0 then compareInt b a else compareInt a b
def cmpL : List Int → List Int → Int
  | [], [] => 0
  | [], _ :: _ => -1
  | _ :: _, [] => 1
  | a :: x, b :: y => if cmpS a b ≠ 0 then cmpS a b else cmpL x y
def cmpR (a b : RuleG) : Int := if compareInt a.left b.left ≠ 0 then compareInt a.left b.left else cmpL a.right b.right
theorem cmpS_lt {a b : Int} (ha : -1000 ≤ a) (hb : -1000 ≤ b) : cmpS a b < 0 ↔ rankG a < rankG b := by
  unfold cmpS rankG
  split
  · rw [cmpI_lt, if_pos (by omega), if_pos (by omega)]; omega
  · rw [cmpI_lt]
    split <;> split <;> omega
theorem cmpS_eq (a b : Int) : cmpS a b = 0 ↔ a = b := by
  unfold cmpS
  split
  · rw [cmpI_eq]; omega
  · rw [cmpI_eq]
theorem cmpL_lt : ∀ {a b : List Int}, (∀ s ∈ a, -1000 ≤ s) → (∀ s ∈ b, -1000 ≤ s) → (cmpL a b < 0 ↔ lessSyms a b = true)
  | [], [], _, _ => by simp [cmpL, lessSyms]
  | [], _ :: _, _, _ => by simp [cmpL, lessSyms]
  | _ :: _, [], _, _ => by simp [cmpL, lessSyms]
  | a :: x, b :: y, ha, hb => by
    unfold cmpL lessSyms
    by_cases e : a = b
    · rw [if_neg (by simp [(cmpS_eq a b).2 e]), if_pos e]
      exact cmpL_lt (fun s hs => ha s (List.mem_cons_of_mem _ hs)) (fun s hs => hb s (List.mem_cons_of_mem _ hs))
    · rw [if_pos (fun h => e ((cmpS_eq a b).1 h)), if_neg e, cmpS_lt (ha a (by simp)) (hb b (by simp))]
      simp
theorem cmpR_lt {a b : RuleG} (ha : FewS a) (hb : FewS b) : cmpR a b < 0 ↔ lessR a b = true := by
  unfold cmpR lessR
  by_cases e : a.left = b.left
  · rw [if_neg (by simp [(cmpI_eq _ _).2 e]), if_pos e]
    exact cmpL_lt ha hb
  · rw [if_pos (fun h => e ((cmpI_eq _ _).1 h)), if_neg e, cmpI_lt]
    simp
/-- The order of the rules of a list, by their numbers. -/
def cfR (l : List RuleG) (a b : Nat) : Int := cmpR (l.getD a ⟨0, []⟩) (l.getD b ⟨0, []⟩)
theorem few_getD {l : List RuleG} (h : ∀ r ∈ l, FewS r) {k : Nat} (hk : k < l.length) : FewS (l.getD k ⟨0, []⟩) := by
  rw [show l.getD k ⟨0, []⟩ = l[k] by simp [List.getD, List.getElem?_eq_getElem hk]]
  exact h _ (List.getElem_mem _)
theorem ordR {l : List RuleG} (h : ∀ r ∈ l, FewS r) : OrdN l.length (cfR l) where
  irrefl x hx := by
    unfold cfR
    rw [cmpR_lt (few_getD h hx) (few_getD h hx), ord_rules.irr]
    simp
  trans x y z hx hy hz h1 h2 := by
    unfold cfR at *
    rw [cmpR_lt (few_getD h (by assumption)) (few_getD h (by assumption))] at *
    exact ord_rules.trans _ _ _ h1 h2
  ntrans x y z hx hy hz h1 h2 := by
    unfold cfR at *
    rw [cmpR_lt (few_getD h (by assumption)) (few_getD h (by assumption))] at *
    have h1' : lessR (l.getD x ⟨0, []⟩) (l.getD y ⟨0, []⟩) = false := by simpa using h1
    have h2' : lessR (l.getD y ⟨0, []⟩) (l.getD z ⟨0, []⟩) = false := by simpa using h2
    rw [le_trans_of ord_rules (few_getD h hz) (few_getD h hy) h2' h1']
    simp
def pickR (l : List RuleG) (p : List Nat) : List RuleG := p.map fun k => l.getD k ⟨0, []⟩
theorem pick_rules {l : List RuleG} (h : ∀ r ∈ l, FewS r) {p : List Nat} (hs : SortedN l.length (cfR l) p) : pickR l p = sortB lessR 0 l := by
  have hp : List.Perm (pickR l p) l := by
    have := hs.perm.map (fun k => l.getD k ⟨0, []⟩)
    rwa [show (List.range l.length).map (fun k => l.getD k ⟨0, []⟩) = l from List.ext_getElem (by simp) (fun i h1 h2 => by
      simp [List.getD, List.getElem?_eq_getElem h2])] at this
  refine rising_unique ord_rules (fun y hy => h y (hp.mem_iff.1 hy)) (hp.trans (sortB_perm lessR 0 l).symm) ?_ (sortB_rising ord_rules h)
  refine List.pairwise_map.2 (List.Pairwise.imp_of_mem (fun {a b} ha hb q => ?_) hs.order)
  unfold cfR at q
  rw [cmpR_lt (few_getD h (hs.lt hb)) (few_getD h (hs.lt ha))] at q
  simpa using q
theorem canon_parts {g : GramG} (hv : ValidG g) {pn pt pr : List Nat} (hn : SortedN g.names.length (cfN g.names) pn) (ht : SortedN g.terms.length (cfT g.terms) pt)
    (hr : SortedN (g.rules.map (renR (placesN pn) (placesN pt))).length (cfR (g.rules.map (renR (placesN pn) (placesN pt)))) pr) :
    (⟨pickN g.names pn, pickN g.terms pt, pickR (g.rules.map (renR (placesN pn) (placesN pt))) pr⟩ : GramG) = canonG g := by
  have e1 : pickN g.names pn = canonN g := pick_names hn
  have e2 : pickN g.terms pt = canonT g := pick_terms ht
  have hfew : ∀ r ∈ g.rules.map (renR (placesN pn) (placesN pt)), FewS r := by
    rw [ren_rules hv hn ht]
    intro r hr
    obtain ⟨x, -, rfl⟩ := List.mem_map.1 hr
    refine symX_few ?_ x
    rw [e2, (canonT_perm g).length_eq]
    have := hv.syms
    omega
  rw [pick_rules hfew hr, ren_rules hv hn ht, e1, e2]
  rfl
end Go.Proofs.YtjlkcdmeiakkbaaGreatDoor

/-! What a sort with a comparison leaves, in plain words: worlds, rows, orders of numbers. Nothing here names the program. -/
namespace Go.Proofs.YtjlkcdmeiakkbaaGreatDoor
open Go.RowKit Go.Lib Go.Sort

/-- A later world in which only new blocks stand and draws were made. -/
def Gw (w wx : World) : Prop := ∃ q os, wx = grow (w.drewN q) os
theorem Gw.refl (w : World) : Gw w w := ⟨0, #[], by rw [grow_empty]; rfl⟩
theorem Gw.trans {a b c : World} (h : Gw a b) (k : Gw b c) : Gw a c := by
  obtain ⟨q, os, rfl⟩ := h
  obtain ⟨q', os', rfl⟩ := k
  refine ⟨q + q', os ++ os', ?_⟩
  rw [← grow_grow]
  unfold grow World.drewN
  simp [Nat.add_assoc]
theorem Gw.alloc (w : World) (o : Obj) : Gw w (w.alloc o) := ⟨0, #[o], alloc_eq_grow w o⟩
theorem Gw.drewN (w : World) (n : Nat) : Gw w (w.drewN n) := ⟨n, #[], by rw [grow_empty]⟩
theorem Gw.drew (w : World) : Gw w w.drew := ⟨1, #[], by rw [grow_empty]; rfl⟩
theorem fr_grow (w : World) (os : Array Obj) : Fr [] w (grow w os) := by
  refine ⟨rfl, rfl, rfl, by simp [grow], fun k hk _ => ?_⟩
  show (w.heap ++ os)[k]? = w.heap[k]?
  rw [Array.getElem?_append_left hk]
theorem fr_drewN (w : World) (n : Nat) : Fr [] w (w.drewN n) := ⟨rfl, rfl, rfl, Nat.le_refl _, fun _ _ _ => rfl⟩
theorem Gw.fr {w wx : World} (h : Gw w wx) : Fr [] w wx := by
  obtain ⟨q, os, rfl⟩ := h
  exact (fr_drewN w q).trans (fr_grow _ os) (by simp) (by simp)
theorem fr_putRow {α : Type} [Inhabited α] (enc : α → Value) (w : World) (b off n : Nat) (d : Array α) : Fr [b] w (putRow enc (Sort.ahead w n) b off d) := by
  refine ⟨rfl, rfl, rfl, by simp [putRow, mapBlock, Sort.ahead], fun k _ hn => ?_⟩
  show (w.heap.modify b _)[k]? = w.heap[k]?
  rw [Array.getElem?_modify, if_neg (by intro e; exact hn (by simp [e]))]
theorem fr_sortWorld {α : Type} [Inhabited α] (enc : α → Value) (w : World) (b off n : Nat) (d : Array α) (os : Array Obj) : Fr [b] w (sortWorld enc w b off n d os) :=
  (fr_putRow enc w b off n d).trans (fr_grow _ os) (by simp) (by simp)
theorem fr_sortWorldK {α : Type} [Inhabited α] (enc : α → List Value) (k : Nat) (w : World) (b off n : Nat) (d : Array α) (os : Array Obj) : Fr [b] w (sortWorldK enc k w b off n d os) :=
  (fr_putRow id w b off n _).trans (fr_grow _ os) (by simp) (by simp)

/-- The numbers below m + 1. -/
def finA (m : Nat) : Array (Fin (m + 1)) := Array.ofFn id
theorem finA_size (m : Nat) : (finA m).size = m + 1 := by simp [finA]
theorem finA_at (m : Nat) {j : Nat} (h : j < m + 1) : (finA m)[j]! = ⟨j, h⟩ := by
  unfold finA
  rw [getElem!_pos _ j (by simpa using h)]
  simp
theorem finA_vals (m : Nat) : (finA m).toList.map Fin.val = List.range (m + 1) := by
  refine List.ext_getElem (by simp [finA]) (fun i h1 h2 => ?_)
  rw [List.getElem_map, List.getElem_range, Array.getElem_toList]
  unfold finA
  rw [Array.getElem_ofFn]
  rfl
theorem swo_of {m : Nat} {cf : Nat → Nat → Int} (h : OrdN (m + 1) cf) : SWO (ltOf fun x y : Fin (m + 1) => cf x.val y.val) where
  irrefl x := by
    have := h.irrefl x.val x.isLt
    unfold ltOf
    simpa using this
  trans x y z h1 h2 := by
    unfold ltOf at *
    exact decide_eq_true (h.trans x.val y.val z.val x.isLt y.isLt z.isLt (of_decide_eq_true h1) (of_decide_eq_true h2))
  ntrans x y z h1 h2 := by
    unfold ltOf at *
    exact decide_eq_false (h.ntrans x.val y.val z.val x.isLt y.isLt z.isLt (of_decide_eq_false h1) (of_decide_eq_false h2))
theorem sorted_of {m : Nat} {cf : Nat → Nat → Int} {d : Array (Fin (m + 1))} (hp : PermIn 0 (m + 1) (finA m) d) (hs : SortedIn (ltOf fun x y : Fin (m + 1) => cf x.val y.val) 0 (m + 1) d) : SortedN (m + 1) cf (d.toList.map Fin.val) where
  perm := by
    obtain ⟨h1, -, h3⟩ := hp
    rw [finA_size] at h1
    have e1 : d.extract 0 (m + 1) = d := by simp [← h1]
    have e2 : (finA m).extract 0 (m + 1) = finA m := by simp [← finA_size m]
    rw [e1, e2] at h3
    have := h3.map Fin.val
    rwa [finA_vals] at this
  order := by
    obtain ⟨h1, -, -⟩ := hp
    refine List.pairwise_map.2 (List.pairwise_iff_getElem.2 (fun i j hi hj hij => ?_))
    have hj' : j < d.size := by simpa using hj
    have hi' : i < d.size := by simpa using hi
    have := hs i j (Nat.zero_le _) hij (by rw [← finA_size m, ← h1]; exact hj')
    rw [getElem!_pos d j hj', getElem!_pos d i hi'] at this
    unfold ltOf at this
    simpa using this
theorem cells_of_holds {α : Type} [Inhabited α] {enc : α → Value} {w : World} {b cap : Nat} {d : Array α} (h : Holds enc w b 0 d) (hl : d.size ≤ cap) (hm : cap ≤ maxLen) : cellsAt w (.slice (some ⟨b, 0, none⟩) d.size cap) (d.toList.map enc) := by
  refine .inr ⟨b, 0, cap, by simp, by simpa using hl, hm, fun i hi => ?_⟩
  have hi' : i < d.size := by simpa using hi
  have := (h i hi').1
  rw [getElem!_pos d i hi'] at this
  rw [this, List.getElem_map]
  simp
theorem holds_of_heap {α : Type} [Inhabited α] {enc : α → Value} {w : World} {b : Nat} {t : TypeId} {d : Array α} {cs : List Value} (h : w.heap[b]? = some (.cells cs.toArray t (0, 0))) (hc : cs = d.toList.map enc) : Holds enc w b 0 d := fun j hj => by
  refine ⟨?_, free_of_heap h _⟩
  rw [cell_of_heap h, getElem!_pos d j hj, hc]
  simp [hj]
/-- The encoding of elements of two cells. -/
def enc2 {α : Type} (f g : α → Value) (x : α) : List Value := [f x, g x]
theorem elems_of_holds {α : Type} [Inhabited α] {f g : α → Value} {w : World} {b cap : Nat} {d : Array α} (hb : b < w.heap.size) (h : HoldsK (enc2 f g) 2 w b 0 d) (hl : d.size ≤ cap) (hm : cap ≤ maxLen) : elemsAt w (.slice (some ⟨b, 0, none⟩) d.size cap) 2 (d.toList.map (enc2 f g)) := by
  refine .inr ⟨b, 0, cap, by simp, by simpa using hl, hm, hb, fun i hi => ?_⟩
  have hi' : i < d.size := by simpa using hi
  rw [List.getElem_map]
  have e : d.toList[i]'(by simpa using hi') = d[i] := by simp
  rw [e]
  refine ⟨rfl, fun j u hj => ?_⟩
  have hj2 : j < 2 := by
    rcases Nat.lt_or_ge j 2 with q | q
    · exact q
    · rw [List.getElem?_eq_none (by simpa [enc2] using q)] at hj
      cases hj
  have := (HoldsK.cell h hi' hj2).1
  rw [getElem!_pos d i hi'] at this
  rw [this]
  have hl2 : j < (enc2 f g d[i]).length := by simpa [enc2] using hj2
  rw [List.getElem?_eq_getElem hl2] at hj
  rw [getElem!_pos _ j hl2]
  exact hj
theorem holdsK_of_heap {α : Type} [Inhabited α] {f g : α → Value} {w : World} {b : Nat} {t : TypeId} {d : Array α} {cs : List Value} (h : w.heap[b]? = some (.cells cs.toArray t (0, 0))) (hc : cs = (d.toList.map (enc2 f g)).flatten) : HoldsK (enc2 f g) 2 w b 0 d := fun j hj => by
  have hj' : j < d.size * 2 := by simpa using hj
  refine ⟨?_, free_of_heap h _⟩
  rw [cell_of_heap h, get_flatK _ _ _ j hj', hc]
  have h1 : j / 2 < d.size := by omega
  rw [getElem!_pos d (j / 2) h1]
  have h2 : j % 2 < (enc2 f g d[j / 2]).length := by simp [enc2]; omega
  rw [getElem!_pos (enc2 f g d[j / 2]) (j % 2) h2]
  simp only [Nat.zero_add, List.getElem?_toArray, id]
  have := flat2 f g d.toList j
  rw [this, List.getElem?_eq_getElem (show j / 2 < d.toList.length by simpa using h1)]
  simp
where
  flat2 {α : Type} (f g : α → Value) : ∀ (l : List α) (j : Nat), ((l.map (enc2 f g)).flatten)[j]? = (l[j / 2]?).bind fun x => (enc2 f g x)[j % 2]?
    | [], j => by simp
    | x :: l, 0 => by simp [enc2]
    | x :: l, 1 => by simp [enc2]
    | x :: l, j + 2 => by
      rw [List.map_cons, List.flatten_cons, List.getElem?_append_right (by simp [enc2]), show (j + 2) / 2 = j / 2 + 1 by omega, show (j + 2) % 2 = j % 2 by omega]
      simp only [List.getElem?_cons_succ]
      rw [← flat2 f g l j]
      simp [enc2]
end Go.Proofs.YtjlkcdmeiakkbaaGreatDoor

/-! The program's canonical grammars (layer 16): comparing symbols, lists of symbols; the first that is not 0. -/
namespace Go.Proofs.YtjlkcdmeiakkbaaGreatDoor
open Go.RowKit Go.Lib

theorem pcmpI (x y : Int) (w : World) : Calls Tryz.prog 67 #[.int .i64 x, .int .i64 y] w fun e w' => e = .returned (.int .i64 (Lib.compareInt x y)) ∧ w' = w := AnyG.cmp_Compare_int Tryz.cmpI x y w
theorem pterm_same (s : Int) (w : World) : Calls Tryz.prog 91 #[.int .i64 s] w fun e w' => e = .returned (.bool (decide (s < 0))) ∧ w' = w := by
  go_enter Tryz.func91, Tryz.ntmps91
  go_wp2_with fail
  go_ret
  exact ⟨rfl, rfl⟩
set_option maxRecDepth 100000 in
theorem pcmpS_any (a b : Int) (w : World) : Calls Tryz.prog 109 #[.int .i64 a, .int .i64 b] w fun e w' => e = .returned (.int .i64 (cmpS a b)) ∧ w' = w := by
  have h1 := fun wx => pterm_same a wx
  have h2 := fun wx => pterm_same b wx
  have h3 := fun wx => pcmpI b a wx
  have h4 := fun wx => pcmpI a b wx
  by_cases ha : a < 0
  · rw [decide_eq_true ha] at h1
    by_cases hb : b < 0
    · rw [decide_eq_true hb] at h2
      rw [show cmpS a b = compareInt b a by unfold cmpS; rw [if_pos ⟨ha, hb⟩]]
      clear h4 ha hb
      obtain ⟨R, hR⟩ : ∃ R, R = compareInt b a := ⟨_, rfl⟩
      rw [← hR] at h3 ⊢
      clear hR
      go_enter Tryz.func109, Tryz.ntmps109
      go_wp2_with (first | (go_at_call 91; refine (h2 _).mono ?_; rintro e w1 ⟨rfl, rfl⟩; clear h2) | (go_at_call 91; refine (h1 _).mono ?_; rintro e w1 ⟨rfl, rfl⟩; clear h1) | (go_at_call 67; refine (h3 _).mono ?_; rintro e w1 ⟨rfl, rfl⟩; clear h3))
      go_ret
      exact ⟨rfl, rfl⟩
    · rw [decide_eq_false hb] at h2
      rw [show cmpS a b = compareInt a b by unfold cmpS; rw [if_neg (fun h => hb h.2)]]
      clear h3 ha hb
      obtain ⟨R, hR⟩ : ∃ R, R = compareInt a b := ⟨_, rfl⟩
      rw [← hR] at h4 ⊢
      clear hR
      go_enter Tryz.func109, Tryz.ntmps109
      go_wp2_with (first | (go_at_call 91; refine (h2 _).mono ?_; rintro e w1 ⟨rfl, rfl⟩; clear h2) | (go_at_call 91; refine (h1 _).mono ?_; rintro e w1 ⟨rfl, rfl⟩; clear h1) | (go_at_call 67; refine (h4 _).mono ?_; rintro e w1 ⟨rfl, rfl⟩; clear h4))
      go_ret
      exact ⟨rfl, rfl⟩
  · rw [decide_eq_false ha] at h1
    rw [show cmpS a b = compareInt a b by unfold cmpS; rw [if_neg (fun h => ha h.1)]]
    clear h3 h2 ha
    obtain ⟨R, hR⟩ : ∃ R, R = compareInt a b := ⟨_, rfl⟩
    rw [← hR] at h4 ⊢
    clear hR
    go_enter Tryz.func109, Tryz.ntmps109
    go_wp2_with (first | (go_at_call 91; refine (h1 _).mono ?_; rintro e w1 ⟨rfl, rfl⟩; clear h1) | (go_at_call 67; refine (h4 _).mono ?_; rintro e w1 ⟨rfl, rfl⟩; clear h4))
    go_ret
    exact ⟨rfl, rfl⟩
end Go.Proofs.YtjlkcdmeiakkbaaGreatDoor

/-! The program's canonical grammars (layer 16): slices.CompareFunc with the order of symbols. -/
namespace Go.Proofs.YtjlkcdmeiakkbaaGreatDoor
open Go.RowKit Go.Lib

theorem cmpL_cons (x y : Int) (a b : List Int) : cmpL (x :: a) (y :: b) = if cmpS x y ≠ 0 then cmpS x y else cmpL a b := by rw [cmpL]
def FV_syms : Value := .func (.func 109) #[] #[]
def CfRel (w : World) (a b : List Int) (iv : Value) (wx : World) : Prop := ∃ k : Nat, k ≤ a.length ∧ k ≤ b.length ∧ iv = .int .i64 (k : Int) ∧ cmpL a b = cmpL (a.drop k) (b.drop k) ∧ Gw w wx
set_option maxRecDepth 100000 in
set_option maxHeartbeats 1000000 in
theorem pcmpL_any (a b : List Int) (av bv : Value) (w : World) (ha : intsAt w av a) (hb : intsAt w bv b) :
    Calls Tryz.prog 108 #[av, bv, FV_syms] w fun e w' => e = .returned (.int .i64 (cmpL a b)) ∧ Gw w w' := by
  obtain ⟨a0, c0, rfl, hle, hmx⟩ := ha.form
  obtain ⟨a1, c1, rfl, hle1, hmx1⟩ := hb.form
  have H1 := Lib.hid ha
  have H2 := Lib.hid hb
  have HI := Lib.hid (fun (x y : Int) wx => pcmpS_any x y wx)
  obtain ⟨R, hR⟩ : ∃ R, R = cmpL a b := ⟨_, rfl⟩
  rw [← hR]
  have HR := Lib.hid hR
  obtain ⟨na, hna⟩ : ∃ n, n = a.length := ⟨_, rfl⟩
  obtain ⟨nb, hnb⟩ : ∃ n, n = b.length := ⟨_, rfl⟩
  rw [← hna] at hle
  rw [← hnb] at hle1
  rw [← hna, ← hnb]
  have NA := Lib.hid hna
  have NB := Lib.hid hnb
  unfold FV_syms
  clear ha hb hR hna hnb
  go_enter Tryz.func108, Tryz.ntmps108
  go_wp2_with fail
  go_loopw [13] (CfRel w a b) (fun iv _ => na - (intOf iv).toNat)
  case atStart => exact ⟨0, Nat.zero_le _, Nat.zero_le _, rfl, rfl, Gw.refl _⟩
  case round =>
    obtain ⟨k, hka, hkb, rfl, hgo, hg⟩ := hrel
    have HG := Lib.hid hgo
    have HW := Lib.hid hg
    have hka2 : k ≤ na := by rw [NA.out]; exact hka
    have hkb2 : k ≤ nb := by rw [NB.out]; exact hkb
    clear hgo
    by_cases hkn : k < na
    · have hd2 : decide (k < na) = true := decide_eq_true hkn
      have hkA : k < a.length := by rw [← NA.out]; exact hkn
      have h1c := H1.out.below hg.fr
      rw [← NA.out] at h1c
      obtain ⟨b0, off, rfl, hc⟩ := int_cell h1c k hkA
      have HD := Lib.hid (List.drop_eq_getElem_cons hkA)
      obtain ⟨x, hx⟩ : ∃ x, x = a[k]'hkA := ⟨_, rfl⟩
      rw [← hx] at hc
      have HX := Lib.hid hx
      have HKA := Lib.hid hka
      clear hx h1c hka
      by_cases hbn : k < nb
      · have hd3 : decide (nb ≤ k) = false := decide_eq_false (by omega)
        have hkB : k < b.length := by rw [← NB.out]; exact hbn
        have h2c := H2.out.below hg.fr
        rw [← NB.out] at h2c
        obtain ⟨b1, off1, rfl, hc1⟩ := int_cell h2c k hkB
        have HD2 := Lib.hid (List.drop_eq_getElem_cons hkB)
        obtain ⟨y, hy⟩ : ∃ y, y = b[k]'hkB := ⟨_, rfl⟩
        rw [← hy] at hc1
        have HY := Lib.hid hy
        have HI1 := Lib.hid (HI.out x y)
        have HKB := Lib.hid hkB
        clear hy h2c hkb hg
        obtain ⟨c, hcc⟩ : ∃ c, c = cmpS x y := ⟨_, rfl⟩
        rw [← hcc] at HI1
        have HC := Lib.hid hcc
        clear hcc
        by_cases h0 : c = 0
        · have e1 : (c == 0) = true := by rw [h0]; rfl
          have H0 := Lib.hid h0
          clear h0
          go_wp2_with (go_at_call 109; refine (HI1.out _).mono ?_; rintro e w1 ⟨rfl, rfl⟩)
          refine ⟨⟨k + 1, by have := HKA.out; have := NA.out; omega, by have := HKB.out; omega, by go_num, ?_, HW.out⟩, by simp [intOf]; omega⟩
          rw [HG.out, HD.out, HD2.out, cmpL_cons, ← HX.out, ← HY.out, ← HC.out, if_neg (by simp [H0.out])]
        · have e1 : (c == 0) = false := by rw [beq_eq_false_iff_ne]; exact h0
          have H0 := Lib.hid h0
          clear h0
          go_wp2_with (go_at_call 109; refine (HI1.out _).mono ?_; rintro e w1 ⟨rfl, rfl⟩)
          go_ret
          refine ⟨?_, HW.out⟩
          rw [HR.out, HG.out, HD.out, HD2.out, cmpL_cons, ← HX.out, ← HY.out, ← HC.out, if_pos H0.out]
          all_goals rfl
        all_goals rfl
      · have hd3 : decide (nb ≤ k) = true := decide_eq_true (by omega)
        have HE := Lib.hid (show b.drop k = [] from List.drop_eq_nil_of_le (by have := NB.out; omega))
        clear hkb hg
        go_wp2_with fail
        go_ret
        refine ⟨?_, HW.out⟩
        rw [HR.out, HG.out, HD.out, HE.out, cmpL]
        all_goals rfl
    · have hd2 : decide (k < na) = false := decide_eq_false hkn
      have HE := Lib.hid (show a.drop k = [] from List.drop_eq_nil_of_le (by have := NA.out; omega))
      have HKA := Lib.hid hka
      clear hka
      by_cases hbn : k < nb
      · have hd3 : decide (na < nb) = true := decide_eq_true (by omega)
        have HD2 := Lib.hid (List.drop_eq_getElem_cons (show k < b.length by rw [← NB.out]; exact hbn))
        have HKB := Lib.hid hkb
        clear hkb hg
        go_wp2_with fail
        go_ret
        refine ⟨?_, HW.out⟩
        rw [HR.out, HG.out, HE.out, HD2.out, cmpL]
        all_goals rfl
      · have hd3 : decide (na < nb) = false := decide_eq_false (by omega)
        have HE2 := Lib.hid (show b.drop k = [] from List.drop_eq_nil_of_le (by have := NB.out; omega))
        have HKB := Lib.hid hkb
        clear hkb hg
        go_wp2_with fail
        go_ret
        refine ⟨?_, HW.out⟩
        rw [HR.out, HG.out, HE.out, HE2.out, cmpL]
        all_goals rfl
end Go.Proofs.YtjlkcdmeiakkbaaGreatDoor

/-! The program's canonical grammars (layer 16): cmp.Or; the order of rules. -/
namespace Go.Proofs.YtjlkcdmeiakkbaaGreatDoor
open Go.RowKit Go.Lib

def orL : List Int → Int
  | [] => 0
  | x :: l => if x ≠ 0 then x else orL l
def OrRel (w : World) (l : List Int) (iv : Value) (wx : World) : Prop := ∃ k : Nat, k ≤ l.length ∧ iv = .int .i64 (k : Int) ∧ orL l = orL (l.drop k) ∧ Gw w wx
set_option maxRecDepth 100000 in
theorem porL_any (l : List Int) (v : Value) (w : World) (h : intsAt w v l) : Calls Tryz.prog 107 #[v] w fun e w' => e = .returned (.int .i64 (orL l)) ∧ Gw w w' := by
  obtain ⟨a0, c0, rfl, hle, hmx⟩ := h.form
  have H1 := Lib.hid h
  obtain ⟨R, hR⟩ : ∃ R, R = orL l := ⟨_, rfl⟩
  rw [← hR]
  have HR := Lib.hid hR
  obtain ⟨na, hna⟩ : ∃ n, n = l.length := ⟨_, rfl⟩
  rw [← hna] at hle
  rw [← hna]
  have NA := Lib.hid hna
  clear h hR hna
  go_enter Tryz.func107, Tryz.ntmps107
  go_wp2_with fail
  go_loopw [8] (OrRel w l) (fun iv _ => na - (intOf iv).toNat)
  case atStart => exact ⟨0, Nat.zero_le _, rfl, rfl, Gw.refl _⟩
  case round =>
    obtain ⟨k, hka, rfl, hgo, hg⟩ := hrel
    have HG := Lib.hid hgo
    have HW := Lib.hid hg
    have hka2 : k ≤ na := by rw [NA.out]; exact hka
    clear hgo
    by_cases hkn : k < na
    · have hd2 : decide (k < na) = true := decide_eq_true hkn
      have hkA : k < l.length := by rw [← NA.out]; exact hkn
      have h1c := H1.out.below hg.fr
      rw [← NA.out] at h1c
      obtain ⟨b0, off, rfl, hc⟩ := int_cell h1c k hkA
      have HD := Lib.hid (List.drop_eq_getElem_cons hkA)
      obtain ⟨x, hx⟩ : ∃ x, x = l[k]'hkA := ⟨_, rfl⟩
      rw [← hx] at hc
      have HX := Lib.hid hx
      clear hx h1c hka hg
      by_cases h0 : x = 0
      · have e1 : (x == 0) = true := by rw [h0]; rfl
        have H0 := Lib.hid h0
        clear h0
        go_wp2_with fail
        refine ⟨⟨k + 1, hkA, by go_num, ?_, HW.out⟩, by simp [intOf]; omega⟩
        rw [HG.out, HD.out, orL, ← HX.out, if_neg (by simp [H0.out])]
      · have e1 : (x == 0) = false := by rw [beq_eq_false_iff_ne]; exact h0
        have H0 := Lib.hid h0
        clear h0
        go_wp2_with fail
        go_ret
        refine ⟨?_, HW.out⟩
        rw [HR.out, HG.out, HD.out, orL, ← HX.out, if_pos H0.out]
        all_goals rfl
    · have hd2 : decide (k < na) = false := decide_eq_false hkn
      have HE := Lib.hid (show l.drop k = [] from List.drop_eq_nil_of_le (by have := NA.out; omega))
      clear hka hg
      go_wp2_with fail
      go_ret
      refine ⟨?_, HW.out⟩
      rw [HR.out, HG.out, HE.out, orL]
      all_goals rfl
theorem orL_cmpR (a b : RuleG) : orL [compareInt a.left b.left, cmpL a.right b.right] = cmpR a b := by
  unfold cmpR orL
  split
  · rfl
  · unfold orL
    split
    · rfl
    · next h => simp only [ne_eq, Decidable.not_not] at h; rw [h]; rfl
set_option maxRecDepth 100000 in
set_option maxHeartbeats 1000000 in
theorem pcmpR_any (a b : RuleG) (av bv : Value) (w : World) (ha : intsAt w av a.right) (hb : intsAt w bv b.right) :
    Calls Tryz.prog 106 #[.agg #[intV a.left, av], .agg #[intV b.left, bv]] w fun e w' => e = .returned (.int .i64 (cmpR a b)) ∧ Gw w w' := by
  obtain ⟨a0, c0, rfl, hle, hmx⟩ := ha.form
  obtain ⟨a1, c1, rfl, hle1, hmx1⟩ := hb.form
  unfold intV
  obtain ⟨w2, hw2⟩ : ∃ w2, w2 = (w.alloc (.cells #[.int .i64 a.left, .slice a0 a.right.length c0] 36)).alloc (.cells #[.int .i64 b.left, .slice a1 b.right.length c1] 36) := ⟨_, rfl⟩
  obtain ⟨q0, hq0⟩ : ∃ q, q = w.heap.size := ⟨_, rfl⟩
  have hb0 := heap_alloc_new w (.cells #[.int .i64 a.left, .slice a0 a.right.length c0] 36)
  have hb1 := heap_alloc_new (w.alloc (.cells #[.int .i64 a.left, .slice a0 a.right.length c0] 36)) (.cells #[.int .i64 b.left, .slice a1 b.right.length c1] 36)
  have hg2 : Gw w w2 := by rw [hw2]; exact (Gw.alloc _ _).trans (Gw.alloc _ _)
  have hb0' := (Fr.alloc (w.alloc (.cells #[.int .i64 a.left, .slice a0 a.right.length c0] 36)) (.cells #[.int .i64 b.left, .slice a1 b.right.length c1] 36)).heap hb0 (by simp)
  rw [← hw2] at hb1 hb0'
  rw [← hq0] at hb0'
  rw [World.size_alloc, ← hq0] at hb1
  have HB0 := Lib.hid hb0'
  have HB1 := Lib.hid hb1
  have HW2 := Lib.hid hw2
  have HQ0 := Lib.hid hq0
  have HG2 := Lib.hid hg2
  have HL := Lib.hid (fun wx (h : Gw w2 wx) => pcmpL_any a.right b.right _ _ wx ((ha.below hg2.fr).below h.fr) ((hb.below hg2.fr).below h.fr))
  have HO := Lib.hid (fun v wx h => porL_any [compareInt a.left b.left, cmpL a.right b.right] v wx h)
  rw [orL_cmpR] at HO
  have HC := Lib.hid (fun wx => pcmpI a.left b.left wx)
  unfold FV_syms at HL
  obtain ⟨l1, hl1⟩ : ∃ l, l = a.left := ⟨_, rfl⟩
  obtain ⟨l2, hl2⟩ : ∃ l, l = b.left := ⟨_, rfl⟩
  obtain ⟨n1, hn1⟩ : ∃ l, l = a.right.length := ⟨_, rfl⟩
  obtain ⟨n2, hn2⟩ : ∃ l, l = b.right.length := ⟨_, rfl⟩
  rw [← hl1, ← hl2] at HC HO
  rw [← hl1, ← hl2, ← hn1, ← hn2] at HW2
  rw [← hl1, ← hn1] at HB0
  rw [← hl2, ← hn2] at HB1
  rw [← hn1, ← hn2] at HL
  rw [← hn1] at hle
  rw [← hn2] at hle1
  rw [← hl1, ← hl2, ← hn1, ← hn2]
  obtain ⟨C1, hC1⟩ : ∃ C, C = compareInt l1 l2 := ⟨_, rfl⟩
  obtain ⟨C2, hC2⟩ : ∃ C, C = cmpL a.right b.right := ⟨_, rfl⟩
  obtain ⟨R, hR⟩ : ∃ R, R = cmpR a b := ⟨_, rfl⟩
  rw [← hC1] at HC HO
  rw [← hC2] at HL HO
  rw [← hR] at HO ⊢
  clear hb0 hb1 hb0' hw2 hq0 hg2 ha hb hl1 hl2 hn1 hn2 hC1 hC2 hR
  go_enter Tryz.func106, Tryz.ntmps106
  go_upto_region 1 with fail
  rw [← HW2.out, ← HQ0.out]
  refine wp_region_T Gw Gw.refl (fun _ _ _ => Gw.trans) [(0, false), (1, false), (2, false), (3, false), (5, false), (6, false), (7, false), (8, false), (4, true), (9, true), (10, true), (11, true), (12, false)] 17 rfl (by kernel_rfl) (by kernel_rfl) (by kernel_rfl) (fun c a d v w h => by cases d <;> exact h) ?_
  simp only [List.map_cons, List.map_nil, List.getElem?_toArray, List.getElem?_cons_succ, List.getElem?_cons_zero, Option.getD_some]
  obtain ⟨w3, hw3⟩ : ∃ w3, w3 = w2.drew := ⟨_, rfl⟩
  have hg3 : Gw w2 w3 := by rw [hw3]; exact Gw.drew _
  rw [← hw3]
  have HG3 := Lib.hid hg3
  clear hw3 hg3
  iterate 8 (apply wpT_t; · (intro w' hf'; obtain ⟨z0, z1, -⟩ := two_of_box2 ((HG3.out.trans hf').fr.heap HB0.out (by simp)); obtain ⟨y0, y1, -⟩ := two_of_box2 ((HG3.out.trans hf').fr.heap HB1.out (by simp)); go_wp2_with fail; exact ⟨rfl, rfl⟩))
  refine wpT_x ?_
  go_wp2_with fail
  refine (HC.out _).mono ?_
  rintro e w4 ⟨rfl, rfl⟩
  go_wp2_with fail
  refine ⟨Gw.refl _, rfl, ?_⟩
  refine wpT_x ?_
  go_wp2_with fail
  refine (HL.out _ HG3.out).mono ?_
  rintro e w5 ⟨rfl, hg5⟩
  go_wp2_with fail
  refine ⟨hg5, rfl, ?_⟩
  refine wpT_x ?_
  go_wp2_with fail
  have hg6 := Gw.alloc w5 (.cells #[.int .i64 C1, .int .i64 C2] 3)
  have hs := cellsAt_new w5 [.int .i64 C1, .int .i64 C2] 3 2 rfl (by simp [maxLen])
  obtain ⟨w6, hw6⟩ : ∃ w6, w6 = w5.alloc (.cells #[.int .i64 C1, .int .i64 C2] 3) := ⟨_, rfl⟩
  rw [← hw6] at hg6
  rw [show ([.int .i64 C1, .int .i64 C2] : List Value).toArray = #[.int .i64 C1, .int .i64 C2] from rfl, ← hw6] at hs
  refine ⟨Gw.alloc _ _, rfl, ?_⟩
  refine wpT_x ?_
  go_wp2_with fail
  rw [← hw6]
  refine (HO.out _ _ hs).mono ?_
  rintro e w7 ⟨rfl, hg7⟩
  go_wp2_with fail
  refine ⟨by rw [← hw6]; exact hg7, rfl, ?_⟩
  have HGG := Lib.hid ((((HG2.out.trans HG3.out).trans hg5).trans hg6).trans hg7)
  clear hg5 hg6 hg7 hs hw6
  apply wpT_t
  · intro w' hf'
    go_wp2_with fail
    exact ⟨rfl, rfl⟩
  refine wpT_end ?_
  go_wp2_with fail
  go_ret
  exact ⟨rfl, HGG.out⟩
end Go.Proofs.YtjlkcdmeiakkbaaGreatDoor

/-! The program's canonical grammars (layer 16): slices.SortFunc at numbers and at rules, in plain words. -/
namespace Go.Proofs.YtjlkcdmeiakkbaaGreatDoor
open Go.RowKit Go.Lib Go.Sort

/-- What a sort of the numbers below n leaves. -/
def SrtI (n : Nat) (cf : Nat → Nat → Int) (v : Value) (w w' : World) (b : Nat) : Prop := ∃ p, SortedN n cf p ∧ intsAt w' v (p.map fun i : Nat => ((i : Nat) : Int)) ∧ Fr [b] w w'
def rangeV (n : Nat) : List Value := (List.range n).map fun i : Nat => .int .i64 ((i : Nat) : Int)
theorem psortI_some (m : Nat) (hm : m ≤ 1000000) (cf : Nat → Nat → Int) (hO : OrdN (m + 1) cf) (f : Nat) (cb : Array Value) (eg : ∀ args w, (callFunc f args).run Tryz.prog w = .ok (.enter f args) w) (b cap : Nat) (t : TypeId) (w : World)
    (hw : w.heap[b]? = some (.cells (rangeV (m + 1)).toArray t (0, 0))) (h1 : m + 1 ≤ cap) (h2 : cap ≤ maxLen)
    (hcmp : ∀ wx, Fr [b] w wx → ∀ x y : Nat, x < m + 1 → y < m + 1 → Calls Tryz.prog f (#[.int .i64 (x : Int), .int .i64 (y : Int)] ++ cb) wx fun e w' => e = .returned (.int .i64 (cf x y)) ∧ Gw wx w') :
    Calls Tryz.prog 101 #[.slice (some ⟨b, 0, none⟩) (m + 1) cap, .func (.func f) #[] cb] w fun e w' => e = .returned (.tuple #[]) ∧ SrtI (m + 1) cf (.slice (some ⟨b, 0, none⟩) (m + 1) cap) w w' b := by
  have hb : b < w.heap.size := (Array.getElem?_eq_some_iff.1 hw).1
  have hd : rangeV (m + 1) = (finA m).toList.map fun x : Fin (m + 1) => Value.int .i64 ((x.val : Nat) : Int) := by
    unfold rangeV
    rw [← finA_vals, List.map_map]
    rfl
  have hH : Holds (fun x : Fin (m + 1) => Value.int .i64 ((x.val : Nat) : Int)) w b 0 (finA m) := holds_of_heap hw hd
  have hcon := Any.slices_SortFunc Tryz.sortI (fun x : Fin (m + 1) => Value.int .i64 ((x.val : Nat) : Int)) (fun _ => rfl) (fun x y : Fin (m + 1) => cf x.val y.val) (swo_of hO) f cb b 0 cap (finA m) w eg
    (fun n os dk _ x y => hcmp _ (fr_sortWorld _ w b 0 n dk os) x.val y.val x.isLt y.isLt) hH hb (by rw [finA_size]; omega)
  rw [finA_size] at hcon
  refine Calls.mono hcon ?_
  rintro e w' ⟨rfl, d', n, os, hp, hs, rfl⟩
  have hsz : d'.size = m + 1 := by rw [hp.1, finA_size]
  refine ⟨rfl, d'.toList.map Fin.val, sorted_of hp hs, ?_, fr_sortWorld _ w b 0 n d' os⟩
  have hh := SW.holds ⟨n, os, rfl⟩ hb hH (hp.1)
  have := cells_of_holds hh (by rw [hsz]; exact h1) h2
  rw [hsz] at this
  unfold intsAt
  rw [List.map_map, List.map_map]
  exact this
theorem psortI_any (n : Nat) (hn : n ≤ 1000000) (cf : Nat → Nat → Int) (hO : OrdN n cf) (f : Nat) (cb : Array Value) (eg : ∀ args w, (callFunc f args).run Tryz.prog w = .ok (.enter f args) w) (b cap : Nat) (t : TypeId) (w : World)
    (hw : w.heap[b]? = some (.cells (rangeV n).toArray t (0, 0))) (h1 : n ≤ cap) (h2 : cap ≤ maxLen)
    (hcmp : ∀ wx, Fr [b] w wx → ∀ x y : Nat, x < n → y < n → Calls Tryz.prog f (#[.int .i64 (x : Int), .int .i64 (y : Int)] ++ cb) wx fun e w' => e = .returned (.int .i64 (cf x y)) ∧ Gw wx w') :
    Calls Tryz.prog 101 #[.slice (some ⟨b, 0, none⟩) n cap, .func (.func f) #[] cb] w fun e w' => e = .returned (.tuple #[]) ∧ SrtI n cf (.slice (some ⟨b, 0, none⟩) n cap) w w' b := by
  cases n with
  | succ m => exact psortI_some m (by omega) cf hO f cb eg b cap t w hw h1 h2 hcmp
  | zero =>
    have hcon := AnyF.slices_SortFunc_none (P := Tryz.prog) (ρ := Tryz.sortI_ren) { Tryz.sortI with } (some ⟨b, 0, none⟩) cap (.func (.func f) #[] cb) w
    refine Calls.mono hcon ?_
    rintro e w' ⟨rfl, rfl⟩
    refine ⟨rfl, [], ⟨List.Perm.refl _, List.Pairwise.nil⟩, ?_, Fr.refl _ _⟩
    exact .inl ⟨_, _, rfl, h2, rfl⟩
/-- What a sort of rules leaves: the rules in the order of their numbers. -/
def SrtR (l : List RuleG) (v : Value) (w w' : World) (b : Nat) : Prop := ∃ p, SortedN l.length (cfR l) p ∧ rulesAt w' v (pickR l p) ∧ Fr [b] w w'
theorem pickR_get {l : List RuleG} {p : List Nat} {i : Nat} (h : i < (pickR l p).length) : (pickR l p)[i]'h = l.getD (p[i]'(by simpa [pickR] using h)) ⟨0, []⟩ := by simp [pickR]
def FV_rules : Value := .func (.func 106) #[] #[]
def rowR (l : List RuleG) (vs : List Value) : List Value := ((l.zip vs).map fun p => [intV p.1.left, p.2]).flatten
theorem psortR_some (m : Nat) (l : List RuleG) (vs : List Value) (hl : l.length = m + 1) (hvs : vs.length = l.length) (hm : m ≤ 1000000) (hfew : ∀ r ∈ l, FewS r) (b cap : Nat) (t : TypeId) (w : World)
    (hw : w.heap[b]? = some (.cells (rowR l vs).toArray t (0, 0))) (h1 : l.length ≤ cap) (h2 : cap ≤ maxLen)
    (hr : ∀ wx, Fr [b] w wx → ∀ i (h : i < vs.length) (h' : i < l.length), intsAt wx (vs[i]'h) (l[i]'h').right) :
    Calls Tryz.prog 105 #[.slice (some ⟨b, 0, none⟩) l.length cap, FV_rules] w fun e w' => e = .returned (.tuple #[]) ∧ SrtR l (.slice (some ⟨b, 0, none⟩) l.length cap) w w' b := by
  have hb : b < w.heap.size := (Array.getElem?_eq_some_iff.1 hw).1
  have eg : ∀ args w, (callFunc 106 args).run Tryz.prog w = .ok (.enter 106 args) w := enters_of Tryz.func106 (by kernel_rfl) rfl
  have hx : ∀ x : Fin (m + 1), x.val < l.length := fun x => by rw [hl]; exact x.isLt
  have hxv : ∀ x : Fin (m + 1), x.val < vs.length := fun x => by rw [hvs, hl]; exact x.isLt
  obtain ⟨fE, hfE⟩ : ∃ f : Fin (m + 1) → Value, f = fun x => intV (l[x.val]'(hx x)).left := ⟨_, rfl⟩
  obtain ⟨gE, hgE⟩ : ∃ f : Fin (m + 1) → Value, f = fun x => vs[x.val]'(hxv x) := ⟨_, rfl⟩
  have hfx : ∀ x : Fin (m + 1), fE x = intV (l[x.val]'(hx x)).left := fun x => by rw [hfE]
  have hgy : ∀ x : Fin (m + 1), gE x = vs[x.val]'(hxv x) := fun x => by rw [hgE]
  have hd : rowR l vs = ((finA m).toList.map (enc2 fE gE)).flatten := by
    unfold rowR
    congr 1
    refine List.ext_getElem (by simp [hvs, hl, finA_size]) (fun i k1 k2 => ?_)
    have hi : i < m + 1 := by simpa [finA_size] using k2
    rw [List.getElem_map, List.getElem_map, List.getElem_zip]
    have : (finA m).toList[i]'(by simpa [finA_size] using hi) = ⟨i, hi⟩ := by
      rw [Array.getElem_toList]
      unfold finA
      rw [Array.getElem_ofFn]
      rfl
    rw [this, hfE, hgE]
    rfl
  have hH : HoldsK (enc2 fE gE) 2 w b 0 (finA m) := holdsK_of_heap hw hd
  have hone : ∀ x, ∀ v ∈ enc2 fE gE x, v.oneCell' = true := fun x v hv => by
    have hv' : v = fE x ∨ v = gE x := by simpa [enc2] using hv
    rcases hv' with rfl | rfl
    · rw [hfE]; rfl
    · rw [hgE]
      obtain ⟨a, c, e, -⟩ := (hr w (Fr.refl _ _) x.val (hxv x) (hx x)).form
      simp only [e]
      rfl
  have hcf : ∀ x y : Fin (m + 1), cfR l x.val y.val = cmpR (l[x.val]'(hx x)) (l[y.val]'(hx y)) := fun x y => by
    unfold cfR
    simp [List.getD, List.getElem?_eq_getElem (hx x), List.getElem?_eq_getElem (hx y)]
  have hO : OrdN (m + 1) (cfR l) := by rw [← hl]; exact ordR hfew
  have hcon := AnyQ.slices_SortFunc Tryz.sortR 2 Tryz.isAgg36 Tryz.sizeOf36 (enc2 fE gE) (fun _ => rfl) hone (fun x y : Fin (m + 1) => cfR l x.val y.val) (swo_of hO) 106 #[] b 0 cap (finA m) w eg
    (fun n os dk _ x y => by
      have hfr := fr_sortWorldK (enc2 fE gE) 2 w b 0 n dk os
      have := pcmpR_any (l[x.val]'(hx x)) (l[y.val]'(hx y)) (vs[x.val]'(hxv x)) (vs[y.val]'(hxv y)) _ (hr _ hfr x.val (hxv x) (hx x)) (hr _ hfr y.val (hxv y) (hx y))
      rw [← hcf] at this
      have e : (#[Value.agg (enc2 fE gE x).toArray, Value.agg (enc2 fE gE y).toArray] ++ #[] : Array Value) = #[.agg #[intV (l[x.val]'(hx x)).left, vs[x.val]'(hxv x)], .agg #[intV (l[y.val]'(hx y)).left, vs[y.val]'(hxv y)]] := by
        rw [hfE, hgE]
        rfl
      rw [e]
      exact this) hH hb (by rw [finA_size]; omega)
  rw [finA_size] at hcon
  unfold FV_rules
  rw [hl]
  refine Calls.mono hcon ?_
  rintro e w' ⟨rfl, d', n, os, hp, hs, rfl⟩
  have hsz : d'.size = m + 1 := by rw [hp.1, finA_size]
  have hso := sorted_of hp hs
  have hfr := fr_sortWorldK (enc2 fE gE) 2 w b 0 n d' os
  have hh := SWK.holds ⟨n, os, rfl⟩ hb hH (hp.1)
  have hel := elems_of_holds (Nat.lt_of_lt_of_le hb hfr.size) hh (by rw [hsz]; omega) h2
  rw [hsz] at hel
  refine ⟨rfl, d'.toList.map Fin.val, by rw [hl]; exact hso, ?_, hfr⟩
  have hgx : ∀ x : Fin (m + 1), l.getD x.val ⟨0, []⟩ = l[x.val]'(hx x) := fun x => by simp [List.getD, List.getElem?_eq_getElem (hx x)]
  refine ⟨d'.toList.map gE, by unfold pickR; simp, ?_, fun i k1 k2 => ?_⟩
  · have e : ((pickR l (d'.toList.map Fin.val)).zip (d'.toList.map gE)).map (fun p => [intV p.1.left, p.2]) = d'.toList.map (enc2 fE gE) := by
      refine List.ext_getElem (by unfold pickR; simp) (fun i k1 k2 => ?_)
      rw [List.getElem_map, List.getElem_map, List.getElem_zip, pickR_get, List.getElem_map, List.getElem_map, hgx]
      show [_, _] = [fE _, gE _]
      rw [hfx]
    rw [e]
    exact hel
  · have hi : i < d'.toList.length := by simpa using k1
    rw [pickR_get, List.getElem_map, List.getElem_map, hgx, hgy]
    exact hr _ hfr _ _ _
theorem psortR_any (l : List RuleG) (vs : List Value) (hvs : vs.length = l.length) (hm : l.length ≤ 1000000) (hfew : ∀ r ∈ l, FewS r) (b cap : Nat) (t : TypeId) (w : World)
    (hw : w.heap[b]? = some (.cells (rowR l vs).toArray t (0, 0))) (h1 : l.length ≤ cap) (h2 : cap ≤ maxLen)
    (hr : ∀ wx, Fr [b] w wx → ∀ i (h : i < vs.length) (h' : i < l.length), intsAt wx (vs[i]'h) (l[i]'h').right) :
    Calls Tryz.prog 105 #[.slice (some ⟨b, 0, none⟩) l.length cap, FV_rules] w fun e w' => e = .returned (.tuple #[]) ∧ SrtR l (.slice (some ⟨b, 0, none⟩) l.length cap) w w' b := by
  cases l with
  | cons r q => exact psortR_some q.length (r :: q) vs rfl hvs (by simp at hm; omega) hfew b cap t w hw h1 h2 hr
  | nil =>
    have hcon := AnyF.slices_SortFunc_none (P := Tryz.prog) (ρ := Tryz.sortR_ren) Tryz.sortR (some ⟨b, 0, none⟩) cap FV_rules w
    refine Calls.mono hcon ?_
    rintro e w' ⟨rfl, rfl⟩
    refine ⟨rfl, [], ⟨List.Perm.refl _, List.Pairwise.nil⟩, ⟨[], rfl, ?_, fun i h => by simp at h⟩, Fr.refl _ _⟩
    exact .inl ⟨_, _, rfl, h2, rfl⟩
end Go.Proofs.YtjlkcdmeiakkbaaGreatDoor
