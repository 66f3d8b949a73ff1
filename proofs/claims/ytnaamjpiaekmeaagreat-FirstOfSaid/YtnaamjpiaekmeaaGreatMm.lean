/- Several texts in one: LexMath, ParMath, GrmMath, DirMath, WrdMath, WstMath, SrtMath, GrmSz, ParBack, ParSound, GrmRes, GrmBk, CanMath, WelMath, WelLen, PropF, WelStp, WelRch, WelTel, DerMath, FirMath, FrsMath, FofMath. -/
import Derived.Test.YtnaamjpiaekmeaaGreatBs
set_option linter.unusedVariables false
set_option linter.unusedSimpArgs false
namespace Go.Proofs.YtnaamjpiaekmeaaGreat
def letterB (c : UInt8) : Bool := (decide (97 ≤ c.toNat) && decide (c.toNat ≤ 122)) || (decide (65 ≤ c.toNat) && decide (c.toNat ≤ 90))
def moreB (c : UInt8) : Bool := letterB c || (decide (48 ≤ c.toNat) && decide (c.toNat ≤ 57)) || decide (c.toNat = 95)
def termC (c : UInt8) : Bool := decide (32 ≤ c.toNat) && decide (c.toNat ≤ 126) && !decide (c.toNat = 39) && !decide (c.toNat = 92)
def blankB (c : UInt8) : Bool := decide (c.toNat = 32) || decide (c.toNat = 9) || decide (c.toNat = 10) || decide (c.toNat = 13)
def nameB (s : List UInt8) : Bool := decide (1 ≤ s.length ∧ s.length ≤ 32) && (match s with | [] => false | c :: _ => letterB c) && s.all moreB
def termB (s : List UInt8) : Bool := decide (1 ≤ s.length ∧ s.length ≤ 32) && s.all termC
structure TokD where
 kind : Int
 text : List UInt8
 at_ : Nat
structure NextD where
 kind : Int
 text : List UInt8
 n : Nat
 err : Int
def noneD (e : Int) : NextD := ⟨0, [], 0, e⟩
def termD (t : List UInt8) : NextD :=
 if (t.drop (t.takeWhile termC).length).head? = some 39 ∧ t.takeWhile termC ≠ [] then (if 32 < (t.takeWhile termC).length then noneD 19 else ⟨2, t.takeWhile termC, (t.takeWhile termC).length + 2, 0⟩) else noneD 13
def nextD (c : UInt8) (t : List UInt8) : NextD :=
    if c = 58 then ⟨3, [58], 1, 0⟩ else if c = 124 then ⟨4, [124], 1, 0⟩ else if c = 59 then ⟨5, [59], 1, 0⟩
    else if letterB c then (if 32 < ((c :: t).takeWhile moreB).length then noneD 19 else ⟨1, (c :: t).takeWhile moreB, ((c :: t).takeWhile moreB).length, 0⟩)
    else if c = 39 then termD t else noneD 13
def restC (r : List UInt8) : List UInt8 := r.dropWhile fun c => !decide (c = 10)
theorem restC_le : ∀ r : List UInt8, (restC r).length ≤ r.length
 | [] => by simp [restC]
 | c :: t => by
   unfold restC
   rw [List.dropWhile_cons]
   split
   ·have := restC_le t; unfold restC at this; simp; omega
   ·simp
structure LexD where
 toks : List TokD
 at_ : Nat
 err : Int
def consD (x : TokD) (r : LexD) : LexD := if r.err = 0 then ⟨x :: r.toks, 0, 0⟩ else r
def lexD (r : List UInt8) (p : Nat) : LexD :=
 match r with
 | [] => ⟨[], 0, 0⟩
 | c :: t =>
   if blankB c then lexD t (p + 1)
   else if c = 35 then lexD (restC t) (p + 1 + (t.length - (restC t).length))
   else if (nextD c t).err ≠ 0 then ⟨[], p, (nextD c t).err⟩
   else consD ⟨(nextD c t).kind, (nextD c t).text, p⟩ (lexD (t.drop ((nextD c t).n - 1)) (p + (nextD c t).n))
termination_by r.length
decreasing_by
 ·simp
 ·have := restC_le t; simp; omega
 ·simp; omega
theorem next_pos {c : UInt8} {t : List UInt8} (h : (nextD c t).err = 0) : 1 ≤ (nextD c t).n ∧ (nextD c t).n ≤ (c :: t).length := by
 unfold nextD at h ⊢
 split
 ·simp
 ·split
  ·simp
  ·split
   ·simp
   ·next h1 h2 h3 =>
    rw [if_neg h1, if_neg h2, if_neg h3] at h
    split
    ·next h4 =>
     rw [if_pos h4] at h
     split
     ·next h5 => rw [if_pos h5] at h; simp [noneD] at h
     ·have hm : moreB c = true := by unfold moreB; rw [h4]; simp
      have := (List.takeWhile_prefix moreB (l := c :: t)).length_le
      rw [List.takeWhile_cons, if_pos hm]
      rw [List.takeWhile_cons, if_pos hm] at this
      simp at this ⊢
      omega
    ·next h4 =>
     rw [if_neg h4] at h
     split
     ·next h5 =>
      rw [if_pos h5] at h
      unfold termD at h ⊢
      split
      ·next h6 =>
       rw [if_pos h6] at h
       split
       ·next h7 => rw [if_pos h7] at h; simp [noneD] at h
       ·have h8 : (t.takeWhile termC).length < t.length := by
         have := h6.1
         rcases Nat.lt_or_ge (t.takeWhile termC).length t.length with q | q
         ·exact q
         ·rw [List.drop_eq_nil_of_le q] at this; simp at this
        simp
        omega
      ·next h6 => rw [if_neg h6] at h; simp [noneD] at h
     ·next h5 => rw [if_neg h5] at h; simp [noneD] at h
theorem lex_nil (p : Nat) : lexD [] p = ⟨[], 0, 0⟩ := by rw [lexD]
theorem lex_tok {c : UInt8} (t : List UInt8) (p : Nat) (h1 : blankB c = false) (h2 : c ≠ 35) (h3 : (nextD c t).err = 0) : lexD (c :: t) p = consD ⟨(nextD c t).kind, (nextD c t).text, p⟩ (lexD ((c :: t).drop (nextD c t).n) (p + (nextD c t).n)) := by
 rw [lexD, if_neg (by simp [h1]), if_neg h2, if_neg (by simp [h3])]
 have := (next_pos h3).1
 rw [show (c :: t).drop (nextD c t).n = t.drop ((nextD c t).n - 1) from by
  obtain ⟨m, hm⟩ : ∃ m, (nextD c t).n = m + 1 := ⟨(nextD c t).n - 1, by omega⟩
  rw [hm]; simp]
theorem letter_num {c : UInt8} (h : letterB c = true) : c ≠ 58 ∧ c ≠ 124 ∧ c ≠ 59 ∧ c ≠ 35 ∧ blankB c = false ∧ moreB c = true := by
 have hm : moreB c = true := by unfold moreB; rw [h]; simp
 refine ⟨?_, ?_, ?_, ?_, ?_, hm⟩
 ·rintro rfl; simp [letterB] at h
 ·rintro rfl; simp [letterB] at h
 ·rintro rfl; simp [letterB] at h
 ·rintro rfl; simp [letterB] at h
 ·unfold letterB at h
  unfold blankB
  simp at h ⊢
  omega
theorem takeWhile_all {p : UInt8 → Bool} {l : List UInt8} (h : l.all p = true) : l.takeWhile p = l := by
 induction l with
 | nil => rfl
 | cons c t ih =>
   rw [List.all_cons, Bool.and_eq_true] at h
   rw [List.takeWhile_cons, if_pos h.1, ih h.2]
theorem takeWhile_stop {p : UInt8 → Bool} : ∀ (l : List UInt8) (x : UInt8) (q : List UInt8), p x = false → (l ++ x :: q).takeWhile p = l.takeWhile p
 | [], x, q, h => by simp [h]
 | c :: t, x, q, h => by
   rw [List.cons_append, List.takeWhile_cons, List.takeWhile_cons, takeWhile_stop t x q h]
end Go.Proofs.YtnaamjpiaekmeaaGreat
namespace Go.Proofs.YtnaamjpiaekmeaaGreat
structure ItemD where
 term : Bool
 text : List UInt8
structure LineD where
 name : List UInt8
 alts : List (List ItemD)
abbrev Tk := Int × List UInt8
def TokD.tk (t : TokD) : Tk := (t.kind, t.text)
structure BodyD where
 ok : Bool
 alts : List (List ItemD)
 left : List Tk
structure RuleD where
 ok : Bool
 line : LineD
 left : List Tk
structure LinesD where
 ok : Bool
 lines : List LineD
 left : Nat
structure ParD where
 lines : List LineD
 at_ : Nat
 err : Int
end Go.Proofs.YtnaamjpiaekmeaaGreat
namespace Go.Proofs.YtnaamjpiaekmeaaGreat
structure RuleG where
 left : Int
 right : List Int
structure GramG where
 names : List (List UInt8)
 terms : List (List UInt8)
 rules : List RuleG
theorem RuleG.ext' {a b : RuleG} (h1 : a.left = b.left) (h2 : a.right = b.right) : a = b := by cases a; cases b; simp_all
theorem GramG.ext' {a b : GramG} (h1 : a.names = b.names) (h2 : a.terms = b.terms) (h3 : a.rules = b.rules) : a = b := by cases a; cases b; simp_all
noncomputable def boolOf (p : Prop) : Bool := @decide p (Classical.propDecidable p)
theorem boolOf_true {p : Prop} (h : p) : boolOf p = true := by unfold boolOf; exact @decide_eq_true p (Classical.propDecidable p) h
theorem boolOf_false {p : Prop} (h : ¬ p) : boolOf p = false := by unfold boolOf; exact @decide_eq_false p (Classical.propDecidable p) h
theorem boolOf_congr {p q : Prop} (h : p ↔ q) : boolOf p = boolOf q := by rw [show p = q from propext h]
theorem of_boolOf {p : Prop} (h : boolOf p = true) : p := Classical.byContradiction fun hn => by rw [boolOf_false hn] at h; cases h
theorem boolOf_cases (p : Prop) : (p ∧ boolOf p = true) ∨ (¬ p ∧ boolOf p = false) := (Classical.em p).elim (fun h => .inl ⟨h, boolOf_true h⟩) (fun h => .inr ⟨h, boolOf_false h⟩)
def findG : List (List UInt8) → List UInt8 → Int
 | [], _ => -1
 | x :: l, s => if x = s then 0 else if findG l s < 0 then -1 else findG l s + 1
theorem find_at : ∀ {l : List (List UInt8)} {s : List UInt8} {k : Nat} (hk : k < l.length), l[k] = s → (∀ j (h : j < k), l[j]'(by omega) ≠ s) → findG l s = (k : Int)
 | [], s, k, hk, _, _ => by simp at hk
 | x :: l, s, k, hk, h1, h2 => by
   unfold findG
   cases k with
   | zero => rw [if_pos (by simpa using h1)]; rfl
   | succ k =>
     have h0 : ¬ x = s := by simpa using h2 0 (by omega)
     have := find_at (l := l) (s := s) (k := k) (by simpa using hk) (by simpa using h1) (fun j h => by simpa using h2 (j + 1) (by omega))
     rw [if_neg h0, this, if_neg (by omega)]
     omega
theorem find_no : ∀ {l : List (List UInt8)} {s : List UInt8}, s ∉ l → findG l s = -1
 | [], s, _ => rfl
 | x :: l, s, h => by
   unfold findG
   rw [if_neg (fun e => h (by simp [e])), find_no (fun hm => h (by simp [hm])), if_pos (by omega)]
theorem find_yes : ∀ {l : List (List UInt8)} {s : List UInt8}, s ∈ l → ∃ (k : Nat) (hk : k < l.length), findG l s = (k : Int) ∧ l[k] = s ∧ ∀ j (h : j < k), l[j]'(by omega) ≠ s
 | [], s, h => by simp at h
 | x :: l, s, h => by
   unfold findG
   by_cases e : x = s
   ·exact ⟨0, by simp, by rw [if_pos e]; rfl, by simpa using e, fun j hj => by omega⟩
   ·have hm : s ∈ l := by
     rcases List.mem_cons.1 h with q | q
     ·exact absurd q.symm e
     ·exact q
    obtain ⟨k, hk, h1, h2, h3⟩ := find_yes hm
    refine ⟨k + 1, by simp; omega, by rw [if_neg e, h1, if_neg (by omega)]; omega, by simpa using h2, fun j hj => ?_⟩
    cases j with
    | zero => simpa using e
    | succ j => simpa using h3 j (by omega)
theorem find_le {l : List (List UInt8)} {i : Nat} (hi : i < l.length) : ∃ k : Nat, findG l l[i] = (k : Int) ∧ k ≤ i ∧ (k = i ↔ ∀ j (h : j < i), l[j]'(by omega) ≠ l[i]) := by
 obtain ⟨k, hk, h1, h2, h3⟩ := find_yes (List.getElem_mem hi)
 have hle : k ≤ i := by
  rcases Nat.lt_or_ge i k with q | q
  ·exact absurd rfl (h3 i q)
  ·exact q
 refine ⟨k, h1, hle, fun e => ?_, fun h => ?_⟩
 ·subst e; exact h3
 ·rcases Nat.lt_or_ge k i with q | q
  ·exact absurd h2 (h k q)
  ·omega
theorem nodup_iff {α : Type} {l : List α} : l.Nodup ↔ ∀ i (hi : i < l.length) j (hj : j < i), l[j]'(by omega) ≠ l[i] := by
 unfold List.Nodup
 rw [List.pairwise_iff_getElem]
 exact ⟨fun h i hi j hj => h j i (by omega) hi hj, fun h i j hi hj hij => h j hj i hij⟩
structure ValidG (g : GramG) : Prop where
 one : 1 ≤ g.names.length
 syms : g.names.length + g.terms.length ≤ 256
 few : g.rules.length ≤ 4096
 names : ∀ n ∈ g.names, nameB n = true
 nodupN : g.names.Nodup
 has : ∀ i : Nat, i < g.names.length → ∃ r ∈ g.rules, r.left = (i : Int)
 terms : ∀ t ∈ g.terms, termB t = true
 nodupT : g.terms.Nodup
 rules : ∀ r ∈ g.rules, 0 ≤ r.left ∧ r.left < (g.names.length : Int) ∧ r.right.length ≤ 64 ∧ ∀ s ∈ r.right, -(g.terms.length : Int) ≤ s ∧ s < (g.names.length : Int)
 nodupR : g.rules.Nodup
noncomputable def validB (g : GramG) : Bool := boolOf (ValidG g)
def FewG (g : GramG) : Prop := g.names.length ≤ 12 ∧ g.terms.length ≤ 12 ∧ g.rules.length ≤ 40 ∧ (∀ r ∈ g.rules, r.right.length ≤ 20) ∧ (∀ n ∈ g.names, n.length ≤ 40) ∧ ∀ t ∈ g.terms, t.length ≤ 40
noncomputable def fewB (g : GramG) : Int := if boolOf (FewG g) = true then 1 else 0
def itemG (g : GramG) (s : Int) : ItemD := if s < 0 then ⟨true, g.terms.getD (-1 - s).toNat []⟩ else ⟨false, g.names.getD s.toNat []⟩
structure ResD where
 g : GramG
 err : Int
end Go.Proofs.YtnaamjpiaekmeaaGreat
namespace Go.Proofs.YtnaamjpiaekmeaaGreat
def lessB : List UInt8 → List UInt8 → Bool
 | _, [] => false
 | [], _ :: _ => true
 | a :: x, b :: y => if a = b then lessB x y else decide (a.toNat < b.toNat)
theorem lessB_irr : ∀ a : List UInt8, lessB a a = false
 | [] => rfl
 | a :: x => by rw [lessB, if_pos rfl]; exact lessB_irr x
theorem lessB_trans : ∀ a b c : List UInt8, lessB a b = true → lessB b c = true → lessB a c = true
 | _, [], _, h, _ => by cases ‹List UInt8› <;> simp [lessB] at h
 | _, _ :: _, [], _, h => by simp [lessB] at h
 | [], _ :: _, _ :: _, _, _ => rfl
 | a :: x, b :: y, c :: z, h, k => by
   rw [lessB] at h k ⊢
   by_cases e : a = b
   ·subst e
    rw [if_pos rfl] at h
    by_cases e2 : a = c
    ·subst e2
     rw [if_pos rfl] at k ⊢
     exact lessB_trans x y z h k
    ·rw [if_neg e2] at k ⊢
     exact k
   ·rw [if_neg e] at h
    have h' := of_decide_eq_true h
    by_cases e2 : b = c
    ·subst e2
     rw [if_neg e]
     exact h
    ·rw [if_neg e2] at k
     have k' := of_decide_eq_true k
     have e3 : a ≠ c := by intro q; subst q; omega
     rw [if_neg e3]
     exact decide_eq_true (by omega)
theorem lessB_total : ∀ a b : List UInt8, a ≠ b → lessB a b = false → lessB b a = true
 | [], [], h, _ => (h rfl).elim
 | [], _ :: _, _, h => by simp [lessB] at h
 | _ :: _, [], _, _ => rfl
 | a :: x, b :: y, h, k => by
   rw [lessB] at k ⊢
   by_cases e : a = b
   ·subst e
    rw [if_pos rfl] at k ⊢
    exact lessB_total x y (fun q => h (by rw [q])) k
   ·rw [if_neg e] at k
    rw [if_neg (Ne.symm e)]
    have := of_decide_eq_false k
    have hne : a.toNat ≠ b.toNat := fun q => e (UInt8.toNat_inj.1 q)
    exact decide_eq_true (by omega)
theorem lessB_ne {a b : List UInt8} (h : lessB a b = true) : a ≠ b := by rintro rfl; rw [lessB_irr] at h; cases h
theorem lessB_asym {a b : List UInt8} (h : lessB a b = true) : lessB b a = false := by
 cases k : lessB b a with
 | false => rfl
 | true => have := lessB_trans _ _ _ h k; rw [lessB_irr] at this; cases this
structure OpD where
 kind : Int
 a : List UInt8
 b : List UInt8
 n : Int
end Go.Proofs.YtnaamjpiaekmeaaGreat
namespace Go.Proofs.YtnaamjpiaekmeaaGreat
def cutW (w : List UInt8) (k : Int) : List UInt8 := w.take k.toNat
def extW (t : Nat) (w : List UInt8) : List (List UInt8) := (List.range t).map fun i => w ++ [UInt8.ofNat i]
def wordsW (t : Nat) : Nat → List (List UInt8)
 | 0 => [[]]
 | j + 1 => wordsW t j ++ extW t ((wordsW t j).getD j [])
def wordW (t j i : Nat) : List UInt8 := (wordsW t j).getD i []
def goesW (t k j : Nat) : Prop := j < (wordsW t j).length ∧ (wordW t j j).length < k
def AllIs (t k : Nat) (r : Option (List (List UInt8))) : Prop :=
 ∃ j, (∀ i, i < j → goesW t k i ∧ (wordsW t i).length + t ≤ 4096) ∧ ((¬ goesW t k j ∧ r = some (wordsW t j)) ∨ (goesW t k j ∧ 4096 < (wordsW t j).length + t ∧ r = none))
theorem AllIs.one {t k : Nat} {r r' : Option (List (List UInt8))} (h : AllIs t k r) (h' : AllIs t k r') : r = r' := by
 obtain ⟨j, h1, h2⟩ := h
 obtain ⟨j', h1', h2'⟩ := h'
 have key : ∀ (j j' : Nat) (r r' : Option (List (List UInt8))), (∀ i, i < j' → goesW t k i ∧ (wordsW t i).length + t ≤ 4096) → ((¬ goesW t k j ∧ r = some (wordsW t j)) ∨ (goesW t k j ∧ 4096 < (wordsW t j).length + t ∧ r = none)) → j' ≤ j := by
  intro j j' r r' a b
  apply Nat.le_of_not_lt
  intro hlt
  obtain ⟨c, d⟩ := a j hlt
  rcases b with ⟨b, -⟩ | ⟨-, b, -⟩
  ·exact b c
  ·omega
 have e : j = j' := Nat.le_antisymm (key j' j r' r h1 h2') (key j j' r r' h1' h2)
 subst e
 rcases h2 with ⟨a, rfl⟩ | ⟨a, b, rfl⟩ <;> rcases h2' with ⟨a', rfl⟩ | ⟨a', b', rfl⟩
 ·rfl
 ·exact (a a').elim
 ·exact (a' a).elim
 ·rfl
def AllV (t k : Int) (l : List (List UInt8)) : Prop :=
 ((k < 0 ∨ t < 0 ∨ 256 < t) ∧ l = []) ∨ (0 ≤ k ∧ 0 ≤ t ∧ t ≤ 256 ∧ ∃ r, AllIs t.toNat k.toNat r ∧ l = r.getD [])
theorem AllV.one {t k : Int} {l l' : List (List UInt8)} (h : AllV t k l) (h' : AllV t k l') : l = l' := by
 rcases h with ⟨a, rfl⟩ | ⟨a, b, c, r, d, rfl⟩ <;> rcases h' with ⟨a', rfl⟩ | ⟨a', b', c', r', d', rfl⟩
 ·rfl
 ·omega
 ·omega
 ·rw [d.one d']
theorem extW_len (t : Nat) (w : List UInt8) : (extW t w).length = t := by simp [extW]
theorem wordsW_len (t : Nat) : ∀ j, (wordsW t j).length = 1 + j * t
 | 0 => by simp [wordsW]
 | j + 1 => by rw [wordsW, List.length_append, wordsW_len t j, extW_len, Nat.succ_mul]; omega
theorem wordsW_pre (t : Nat) : ∀ {i j : Nat}, i ≤ j → ∃ s, wordsW t j = wordsW t i ++ s := by
 intro i j h
 induction j with
 | zero => obtain rfl : i = 0 := by omega
           exact ⟨[], by simp⟩
 | succ j ih =>
   by_cases e : i = j + 1
   ·subst e; exact ⟨[], by simp⟩
   ·obtain ⟨s, hs⟩ := ih (by omega)
    exact ⟨s ++ extW t ((wordsW t j).getD j []), by rw [wordsW, ← List.append_assoc, ← hs]⟩
theorem wordW_pre (t : Nat) {i j q : Nat} (h : i ≤ j) (hq : q < (wordsW t i).length) : wordW t j q = wordW t i q := by
 obtain ⟨s, hs⟩ := wordsW_pre t h
 unfold wordW
 rw [hs, List.getD_eq_getElem?_getD, List.getD_eq_getElem?_getD, List.getElem?_append_left hq]
theorem wordsW_mem (t : Nat) : ∀ (j : Nat) (w : List UInt8), w ∈ wordsW t (j + 1) → w ∈ wordsW t j ∨ ∃ i, i < t ∧ w = wordW t j j ++ [UInt8.ofNat i] := by
 intro j w h
 rw [wordsW] at h
 rcases List.mem_append.1 h with h | h
 ·exact .inl h
 ·obtain ⟨i, hi, rfl⟩ := List.mem_map.1 h
  exact .inr ⟨i, List.mem_range.1 hi, rfl⟩
theorem wordW_all (t j q : Nat) (P : List UInt8 → Prop) (h0 : P []) (h : ∀ w ∈ wordsW t j, P w) : P (wordW t j q) := by
 unfold wordW
 rw [List.getD_eq_getElem?_getD]
 rcases Nat.lt_or_ge q (wordsW t j).length with hq | hq
 ·rw [List.getElem?_eq_getElem hq]; exact h _ (List.getElem_mem hq)
 ·rw [List.getElem?_eq_none hq]; exact h0
theorem wordsW_below (t : Nat) (ht : t ≤ 256) : ∀ (j : Nat), ∀ w ∈ wordsW t j, ∀ b ∈ w, b.toNat < t
 | 0, w, h => by simp [wordsW] at h; simp [h]
 | j + 1, w, h => by
   rcases wordsW_mem t j w h with h | ⟨i, hi, rfl⟩
   ·exact wordsW_below t ht j w h
   ·intro b hb
    rcases List.mem_append.1 hb with hb | hb
    ·exact wordW_all t j j (fun w => ∀ b ∈ w, b.toNat < t) (by simp) (wordsW_below t ht j) b hb
    ·obtain rfl := List.mem_singleton.1 hb
     rw [UInt8.toNat_ofNat']; omega
theorem wordsW_most (t k : Nat) : ∀ (j : Nat), (∀ i, i < j → goesW t k i) → ∀ w ∈ wordsW t j, w.length ≤ k
 | 0, _, w, h => by simp [wordsW] at h; simp [h]
 | j + 1, hg, w, h => by
   rcases wordsW_mem t j w h with h | ⟨i, _, rfl⟩
   ·exact wordsW_most t k j (fun i hi => hg i (by omega)) w h
   ·have := (hg j (by omega)).2
    simp; omega
theorem wordsW_level (t f m : Nat) (h : ∀ i, f ≤ i → i < (wordsW t f).length → (wordW t f i).length = m) :
  ∀ j, f ≤ j → j ≤ (wordsW t f).length → ∀ i, (wordsW t f).length ≤ i → i < (wordsW t j).length → (wordW t j i).length = m + 1 := by
 intro j hfj
 induction j with
 | zero =>
   intro _ i h1 h2
   obtain rfl : f = 0 := by omega
   omega
 | succ j ih =>
   intro hj i h1 h2
   by_cases hf : f = j + 1
   ·subst hf; omega
   ·by_cases hi : i < (wordsW t j).length
    ·rw [wordW_pre t (Nat.le_succ j) hi]
     exact ih (by omega) (by omega) i h1 hi
    ·have hw : (wordW t j j).length = m := by
      rw [wordW_pre t (show f ≤ j by omega) (by omega)]
      exact h j (by omega) (by omega)
     unfold wordW
     rw [List.getD_eq_getElem?_getD, List.getElem?_eq_getElem h2, Option.getD_some]
     simp only [wordsW]
     rw [List.getElem_append_right (by omega)]
     simp only [extW, List.getElem_map, List.length_append]
     rw [show ((wordsW t j).getD j []).length = m from hw]
     rfl
theorem level_end (t k f : Nat) (h : ∀ i, f ≤ i → i < (wordsW t f).length → (wordW t f i).length = k) : ¬ goesW t k f := by
 rintro ⟨h1, h2⟩
 have := h f (Nat.le_refl _) h1
 omega
theorem extW_next (t n : Nat) (w : List UInt8) (h : n < t) : (extW t w).take (n + 1) = (extW t w).take n ++ [w ++ [UInt8.ofNat n]] := by
 rw [List.take_succ_eq_append_getElem (by rw [extW_len]; exact h)]
 simp [extW]
theorem extW_all (t : Nat) (w : List UInt8) : (extW t w).take t = extW t w := List.take_of_length_le (by rw [extW_len]; exact Nat.le_refl t)
end Go.Proofs.YtnaamjpiaekmeaaGreat
namespace Go.Proofs.YtnaamjpiaekmeaaGreat
abbrev Words := List (List UInt8)
def setW (l : Words) : Prop := l.Pairwise fun a b => lessB a b = true
def placeW (l : Words) (w : List UInt8) : Nat → Nat
 | 0 => 0
 | k + 1 => if lessB w (l.getD k []) = true then placeW l w k else k + 1
def putW (l : Words) (w : List UInt8) : Words := if w ∈ l then l else l.take (placeW l w l.length) ++ [w] ++ l.drop (placeW l w l.length)
def ofW (l : Words) : Words := l.foldl putW []
def catsW (k : Int) (a b : Words) : Words := a.flatMap fun x => b.map fun y => cutW (x ++ y) k
def catW (k : Int) (a b : Words) : Words := ofW (catsW k a b)
theorem placeW_spec (l : Words) (w : List UInt8) : ∀ k, placeW l w k ≤ k ∧ (∀ j, placeW l w k ≤ j → j < k → lessB w (l.getD j []) = true) ∧ (placeW l w k = 0 ∨ lessB w (l.getD (placeW l w k - 1) []) = false)
 | 0 => ⟨Nat.le_refl _, fun j _ h => by omega, .inl rfl⟩
 | k + 1 => by
   obtain ⟨h1, h2, h3⟩ := placeW_spec l w k
   unfold placeW
   by_cases c : lessB w (l.getD k []) = true
   ·rw [if_pos c]
    refine ⟨by omega, fun j hj hk => ?_, h3⟩
    by_cases e : j = k
    ·subst e; exact c
    ·exact h2 j hj (by omega)
   ·rw [if_neg c]
    exact ⟨Nat.le_refl _, fun j hj hk => by omega, .inr (by simpa using c)⟩
theorem mem_putW {l : Words} {w x : List UInt8} : x ∈ putW l w ↔ x = w ∨ x ∈ l := by
 unfold putW
 split
 ·rename_i h
  constructor
  ·exact .inr
  ·rintro (rfl | h') <;> assumption
 ·rw [List.mem_append, List.mem_append, List.mem_singleton]
  have e := List.take_append_drop (placeW l w l.length) l
  constructor
  ·rintro ((h | h) | h)
   ·exact .inr (List.mem_of_mem_take h)
   ·exact .inl h
   ·exact .inr (List.mem_of_mem_drop h)
  ·rintro (h | h)
   ·exact .inl (.inr h)
   ·rw [← e, List.mem_append] at h
    rcases h with h | h
    ·exact .inl (.inl h)
    ·exact .inr h
theorem setW.get {l : Words} (h : setW l) {i j : Nat} (hij : i < j) (hj : j < l.length) : lessB (l.getD i []) (l.getD j []) = true := by
 rw [List.getD_eq_getElem?_getD, List.getD_eq_getElem?_getD, List.getElem?_eq_getElem hj, List.getElem?_eq_getElem (Nat.lt_trans hij hj)]
 exact List.pairwise_iff_getElem.1 h i j _ hj hij
theorem set_putW {l : Words} {w : List UInt8} (h : setW l) : setW (putW l w) := by
 unfold putW
 split
 ·exact h
 ·rename_i hw
  obtain ⟨h1, h2, h3⟩ := placeW_spec l w l.length
  generalize placeW l w l.length = p at *
  have hlow : ∀ i, i < p → lessB (l.getD i []) w = true := by
   intro i hi
   rcases h3 with h3 | h3
   ·omega
   ·have hp : p - 1 < l.length := by omega
    have hm : l.getD (p - 1) [] ∈ l := by
     rw [List.getD_eq_getElem?_getD, List.getElem?_eq_getElem hp]; exact List.getElem_mem hp
    have hl := lessB_total w (l.getD (p - 1) []) (fun e => hw (e ▸ hm)) h3
    by_cases e : i = p - 1
    ·subst e; exact hl
    ·exact lessB_trans _ _ _ (h.get (show i < p - 1 by omega) hp) hl
  unfold setW
  rw [List.append_assoc, List.pairwise_append]
  refine ⟨List.Pairwise.sublist (List.take_sublist _ _) h, ?_, ?_⟩
  ·rw [List.singleton_append, List.pairwise_cons]
   refine ⟨fun x hx => ?_, List.Pairwise.sublist (List.drop_sublist _ _) h⟩
   obtain ⟨i, hi, rfl⟩ := List.getElem_of_mem hx
   rw [List.length_drop] at hi
   have := h2 (p + i) (by omega) (by omega)
   rw [List.getD_eq_getElem?_getD, List.getElem?_eq_getElem (by omega)] at this
   rw [List.getElem_drop]
   exact this
  ·intro a ha b hb
   obtain ⟨i, hi, rfl⟩ := List.getElem_of_mem ha
   rw [List.length_take] at hi
   have hia : lessB ((l.take p)[i]'(by rw [List.length_take]; exact hi)) w = true := by
    have := hlow i (by omega)
    rw [List.getD_eq_getElem?_getD, List.getElem?_eq_getElem (by omega)] at this
    rw [List.getElem_take]
    exact this
   rcases List.mem_append.1 hb with hb | hb
   ·rw [List.mem_singleton.1 hb]; exact hia
   ·obtain ⟨j, hj, rfl⟩ := List.getElem_of_mem hb
    rw [List.length_drop] at hj
    have := h.get (show i < p + j by omega) (by omega)
    rw [List.getD_eq_getElem?_getD, List.getD_eq_getElem?_getD, List.getElem?_eq_getElem (by omega), List.getElem?_eq_getElem (by omega)] at this
    rw [List.getElem_take, List.getElem_drop]
    exact this
theorem fold_put (l : Words) : ∀ o : Words, setW o → setW (l.foldl putW o) ∧ ∀ x, x ∈ l.foldl putW o ↔ x ∈ o ∨ x ∈ l := by
 induction l with
 | nil => exact fun o h => ⟨h, fun x => by simp⟩
 | cons y l ih =>
   intro o h
   obtain ⟨h1, h2⟩ := ih (putW o y) (set_putW h)
   refine ⟨h1, fun x => ?_⟩
   rw [List.foldl_cons, h2 x, mem_putW, List.mem_cons]
   constructor
   ·rintro ((a | a) | a)
    ·exact .inr (.inl a)
    ·exact .inl a
    ·exact .inr (.inr a)
   ·rintro (a | a | a)
    ·exact .inl (.inr a)
    ·exact .inl (.inl a)
    ·exact .inr a
theorem set_nil : setW [] := List.Pairwise.nil
theorem set_ofW (l : Words) : setW (ofW l) := (fold_put l [] set_nil).1
theorem mem_ofW {l : Words} {x : List UInt8} : x ∈ ofW l ↔ x ∈ l := by
 unfold ofW
 rw [(fold_put l [] set_nil).2 x]
 simp
theorem setW.tail {x : List UInt8} {l : Words} (h : setW (x :: l)) : setW l := (List.pairwise_cons.1 h).2
theorem setW.head {x : List UInt8} {l : Words} (h : setW (x :: l)) : ∀ y ∈ l, lessB x y = true := (List.pairwise_cons.1 h).1
theorem setW.one : ∀ {a b : Words}, setW a → setW b → (∀ x, x ∈ a ↔ x ∈ b) → a = b
 | [], [], _, _, _ => rfl
 | [], y :: b, _, _, h => by have := (h y).2 (by simp); simp at this
 | x :: a, [], _, _, h => by have := (h x).1 (by simp); simp at this
 | x :: a, y :: b, ha, hb, h => by
   have e : x = y := by
    apply Classical.byContradiction
    intro hne
    have h1 := (h x).1 (by simp)
    have h2 := (h y).2 (by simp)
    rcases List.mem_cons.1 h1 with h1 | h1
    ·exact hne h1
    ·rcases List.mem_cons.1 h2 with h2 | h2
     ·exact hne h2.symm
     ·have a1 := hb.head x h1
      have a2 := ha.head y h2
      rw [lessB_asym a1] at a2
      cases a2
   subst e
   congr 1
   refine setW.one ha.tail hb.tail fun z => ?_
   have hz := h z
   rw [List.mem_cons, List.mem_cons] at hz
   constructor
   ·intro hm
    rcases hz.1 (.inr hm) with e | e
    ·subst e; have := ha.head z hm; rw [lessB_irr] at this; cases this
    ·exact e
   ·intro hm
    rcases hz.2 (.inr hm) with e | e
    ·subst e; have := hb.head z hm; rw [lessB_irr] at this; cases this
    ·exact e
theorem putW_len (l : Words) (w : List UInt8) : (putW l w).length ≤ l.length + 1 := by
 unfold putW
 split
 ·omega
 ·simp; omega
theorem fold_len (l : Words) : ∀ o : Words, (l.foldl putW o).length ≤ o.length + l.length := by
 induction l with
 | nil => intro o; simp
 | cons y l ih =>
   intro o
   have := ih (putW o y)
   have := putW_len o y
   rw [List.foldl_cons, List.length_cons]
   omega
theorem ofW_len (l : Words) : (ofW l).length ≤ l.length := by have := fold_len l []; simpa [ofW] using this
theorem mem_catW {k : Int} {a b : Words} {w : List UInt8} : w ∈ catW k a b ↔ ∃ x ∈ a, ∃ y ∈ b, w = cutW (x ++ y) k := by
 unfold catW catsW
 rw [mem_ofW, List.mem_flatMap]
 constructor
 ·rintro ⟨x, hx, h⟩
  obtain ⟨y, hy, rfl⟩ := List.mem_map.1 h
  exact ⟨x, hx, y, hy, rfl⟩
 ·rintro ⟨x, hx, y, hy, rfl⟩
  exact ⟨x, hx, List.mem_map.2 ⟨y, hy, rfl⟩⟩
theorem set_catW (k : Int) (a b : Words) : setW (catW k a b) := set_ofW _
theorem setW.nodup {l : Words} (h : setW l) : l.Nodup := List.Pairwise.imp (fun h => lessB_ne h) h
theorem nodup_le : ∀ (l m : Words), l.Nodup → (∀ x ∈ l, x ∈ m) → l.length ≤ m.length
 | [], m, _, _ => by simp
 | x :: l, m, hn, hs => by
   obtain ⟨hx, hn'⟩ := List.nodup_cons.1 hn
   have hm := hs x (by simp)
   have h1 := nodup_le l (m.erase x) hn' (fun y hy => (List.mem_erase_of_ne (show y ≠ x from fun e => hx (by rw [← e]; exact hy))).2 (hs y (by simp [hy])))
   rw [List.length_erase_of_mem hm] at h1
   have := List.length_pos_of_mem hm
   rw [List.length_cons]
   omega
theorem ofW_nodup_len {l : Words} (h : l.Nodup) : (ofW l).length = l.length := by
 refine Nat.le_antisymm (ofW_len l) ?_
 exact nodup_le l (ofW l) h (fun x hx => mem_ofW.2 hx)
end Go.Proofs.YtnaamjpiaekmeaaGreat
namespace Go.Proofs.YtnaamjpiaekmeaaGreat
structure Ord {α : Type} (D : α → Prop) (lt : α → α → Bool) : Prop where
 irr : ∀ a, lt a a = false
 trans : ∀ a b c, lt a b = true → lt b c = true → lt a c = true
 tot : ∀ a b, D a → D b → a ≠ b → lt a b = false → lt b a = true
end Go.Proofs.YtnaamjpiaekmeaaGreat
namespace Go.Proofs.YtnaamjpiaekmeaaGreat
structure SizeG (g : GramG) : Prop where
 names : g.names.length ≤ 100000
 terms : g.terms.length ≤ 100000
 rules : g.rules.length ≤ 100000
 right : ∀ r ∈ g.rules, r.right.length ≤ 100000
 name : ∀ n ∈ g.names, n.length ≤ 100000
 term : ∀ t ∈ g.terms, t.length ≤ 100000
def IntG (g : GramG) : Prop := ∀ r ∈ g.rules, ∀ s ∈ r.right, -9223372036854775808 ≤ s
structure SizeL (ls : List LineD) : Prop where
 lines : ls.length ≤ 100000
 alts : ∀ l ∈ ls, l.alts.length ≤ 100000
 name : ∀ l ∈ ls, l.name.length ≤ 100000
 items : ∀ l ∈ ls, ∀ a ∈ l.alts, a.length ≤ 100000
 text : ∀ l ∈ ls, ∀ a ∈ l.alts, ∀ i ∈ a, i.text.length ≤ 100000
end Go.Proofs.YtnaamjpiaekmeaaGreat
namespace Go.Proofs.YtnaamjpiaekmeaaGreat
def Lx (r : List UInt8) (ks : List Tk) : Prop := ∀ p, (lexD r p).err = 0 ∧ (lexD r p).toks.map TokD.tk = ks
theorem Lx.nil : Lx [] [] := fun p => by rw [lex_nil]; exact ⟨rfl, rfl⟩
theorem cons_ok {x : TokD} {r : LexD} {ks : List Tk} (h : r.err = 0 ∧ r.toks.map TokD.tk = ks) : (consD x r).err = 0 ∧ (consD x r).toks.map TokD.tk = x.tk :: ks := by
 unfold consD
 rw [if_pos h.1]
 exact ⟨rfl, by rw [List.map_cons, h.2]⟩
theorem Lx.one {c : UInt8} {k : Int} {r : List UInt8} {ks : List Tk} (hc : ∀ t, nextD c t = ⟨k, [c], 1, 0⟩) (hb : blankB c = false) (h35 : c ≠ 35) (h : Lx r ks) : Lx (c :: r) ((k, [c]) :: ks) := fun p => by
 rw [lex_tok r p hb h35 (by rw [hc]), hc]
 exact cons_ok (h (p + 1))
theorem Lx.name {n : List UInt8} {x : UInt8} {q : List UInt8} {ks : List Tk} (hn : nameB n = true) (hx : moreB x = false) (h : Lx (x :: q) ks) : Lx (n ++ x :: q) ((1, n) :: ks) := fun p => by
 unfold nameB at hn
 rw [Bool.and_eq_true, Bool.and_eq_true] at hn
 obtain ⟨⟨h1, h2⟩, h3⟩ := hn
 have h1' := of_decide_eq_true h1
 cases n with
 | nil => simp at h1'
 | cons c t =>
   simp only at h2
   obtain ⟨e1, e2, e3, e4, e5, e6⟩ := letter_num h2
   have hnx : nextD c (t ++ x :: q) = ⟨1, c :: t, (c :: t).length, 0⟩ := by
    unfold nextD
    rw [if_neg e1, if_neg e2, if_neg e3, if_pos h2, ← List.cons_append, takeWhile_stop (c :: t) x q hx, takeWhile_all h3, if_neg (by omega)]
   rw [List.cons_append, lex_tok _ p e5 e4 (by rw [hnx]), hnx, ← List.cons_append]
   simp only
   rw [List.drop_left]
   exact cons_ok (h _)
theorem Lx.term {t : List UInt8} {q : List UInt8} {ks : List Tk} (ht : termB t = true) (h : Lx q ks) : Lx (39 :: (t ++ 39 :: q)) ((2, t) :: ks) := fun p => by
 unfold termB at ht
 rw [Bool.and_eq_true] at ht
 have h1' := of_decide_eq_true ht.1
 have htw : (t ++ 39 :: q).takeWhile termC = t := by rw [takeWhile_stop t 39 q (by decide), takeWhile_all ht.2]
 have hnx : nextD 39 (t ++ 39 :: q) = ⟨2, t, t.length + 2, 0⟩ := by
  unfold nextD
  rw [if_neg (by decide), if_neg (by decide), if_neg (by decide), if_neg (by decide), if_pos rfl]
  unfold termD
  rw [htw, if_pos ⟨by simp, by intro e; rw [e] at h1'; simp at h1'⟩, if_neg (by omega)]
 rw [lex_tok _ p (by decide) (by decide) (by rw [hnx]), hnx]
 simp only
 have hd : (39 :: (t ++ 39 :: q)).drop (t.length + 2) = q := by
  rw [List.drop_succ_cons, List.drop_append, List.drop_eq_nil_of_le (by omega), show t.length + 1 - t.length = 1 from by omega]; rfl
 rw [hd]
 exact cons_ok (h _)
end Go.Proofs.YtnaamjpiaekmeaaGreat
namespace Go.Proofs.YtnaamjpiaekmeaaGreat
end Go.Proofs.YtnaamjpiaekmeaaGreat
namespace Go.Proofs.YtnaamjpiaekmeaaGreat
end Go.Proofs.YtnaamjpiaekmeaaGreat
namespace Go.Proofs.YtnaamjpiaekmeaaGreat
end Go.Proofs.YtnaamjpiaekmeaaGreat
namespace Go.Proofs.YtnaamjpiaekmeaaGreat
abbrev RuleX := List UInt8 × List ItemD
def ruleX (ns ts : List (List UInt8)) (r : RuleG) : RuleX := (ns.getD r.left.toNat [], r.right.map (itemG ⟨ns, ts, []⟩))
def rulesX (g : GramG) : List RuleX := g.rules.map (ruleX g.names g.terms)
structure EquivG (g h : GramG) : Prop where
 first : g.names.head? = h.names.head?
 names : List.Perm g.names h.names
 terms : List.Perm g.terms h.terms
 rules : List.Perm (rulesX g) (rulesX h)
theorem EquivG.symm {g h : GramG} (e : EquivG g h) : EquivG h g := ⟨e.first.symm, e.names.symm, e.terms.symm, e.rules.symm⟩
theorem EquivG.refl (g : GramG) : EquivG g g := ⟨rfl, List.Perm.refl _, List.Perm.refl _, List.Perm.refl _⟩
theorem EquivG.trans {a b c : GramG} (h : EquivG a b) (k : EquivG b c) : EquivG a c := ⟨h.first.trans k.first, h.names.trans k.names, h.terms.trans k.terms, h.rules.trans k.rules⟩
def ItemIn (ns ts : List (List UInt8)) (i : ItemD) : Prop := if i.term = true then i.text ∈ ts else i.text ∈ ns
theorem ItemIn.perm {ns ts ns' ts' : List (List UInt8)} {i : ItemD} (h : ItemIn ns ts i) (hn : List.Perm ns ns') (ht : List.Perm ts ts') : ItemIn ns' ts' i := by
 unfold ItemIn at h ⊢
 split
 ·next q => rw [if_pos q] at h; exact ht.mem_iff.1 h
 ·next q => rw [if_neg q] at h; exact hn.mem_iff.1 h
end Go.Proofs.YtnaamjpiaekmeaaGreat
namespace Go.Proofs.YtnaamjpiaekmeaaGreat
inductive ProdN (g : GramG) : Nat → Prop
 | mk (r : RuleG) (i : Nat) : r ∈ g.rules → r.left = (i : Int) → (∀ s ∈ r.right, 0 ≤ s → ProdN g s.toNat) → ProdN g i
inductive ReachN (g : GramG) : Nat → Prop
 | zero : ReachN g 0
 | step (r : RuleG) (i : Nat) (s : Int) : r ∈ g.rules → r.left = (i : Int) → ReachN g i → s ∈ r.right → 0 ≤ s → ReachN g s.toNat
def UsedG (g : GramG) (t : Nat) : Prop := ∃ r ∈ g.rules, (∃ i : Nat, r.left = (i : Int) ∧ ReachN g i) ∧ (-1 - (t : Int)) ∈ r.right
noncomputable def prodL (g : GramG) : List Bool := (List.range g.names.length).map fun i => boolOf (ProdN g i)
noncomputable def reachL (g : GramG) : List Bool := (List.range g.names.length).map fun i => boolOf (ReachN g i)
noncomputable def checkG (g : GramG) : Int :=
 if validB g = false then 1
 else if boolOf (∀ i, i < g.names.length → ProdN g i) = false then 18
 else if boolOf ((∀ i, i < g.names.length → ReachN g i) ∧ ∀ t, t < g.terms.length → UsedG g t) = false then 17
 else 0
theorem prodL_len (g : GramG) : (prodL g).length = g.names.length := by simp [prodL]
theorem reachL_len (g : GramG) : (reachL g).length = g.names.length := by simp [reachL]
def marked (o : List Bool) (i : Nat) : Prop := o[i]? = some true
def belowM (a b : List Bool) : Prop := a.length = b.length ∧ ∀ i, marked a i → marked b i
theorem belowM.refl (a : List Bool) : belowM a a := ⟨rfl, fun _ h => h⟩
theorem belowM.trans {a b c : List Bool} (h : belowM a b) (k : belowM b c) : belowM a c := ⟨h.1.trans k.1, fun i hi => k.2 i (h.2 i hi)⟩
theorem marks_ext {a b : List Bool} (hl : a.length = b.length) (h : ∀ i, marked a i ↔ marked b i) : a = b := by
 apply List.ext_getElem hl
 intro i h1 h2
 have := h i
 unfold marked at this
 rw [List.getElem?_eq_getElem h1, List.getElem?_eq_getElem h2, Option.some.injEq, Option.some.injEq] at this
 cases ha : a[i] <;> cases hb : b[i] <;> simp_all
theorem belowM.antisymm {a b : List Bool} (h : belowM a b) (k : belowM b a) : a = b := marks_ext h.1 fun i => ⟨h.2 i, k.2 i⟩
def marks (o : List Bool) : Nat := (o.filter id).length
theorem marks_le (o : List Bool) : marks o ≤ o.length := List.length_filter_le _ _
theorem below_marks : ∀ {a b : List Bool}, belowM a b → marks a ≤ marks b ∧ (marks a = marks b → a = b)
 | [], [], _ => ⟨Nat.le_refl _, fun _ => rfl⟩
 | [], _ :: _, h => by have := h.1; simp at this
 | _ :: _, [], h => by have := h.1; simp at this
 | x :: a, y :: b, h => by
   have ht : belowM a b := ⟨by have := h.1; simpa using this, fun i hi => by have := h.2 (i + 1) (by simpa [marked] using hi); simpa [marked] using this⟩
   obtain ⟨h1, h2⟩ := below_marks ht
   have hx : x = true → y = true := fun e => by have := h.2 0 (by simp [marked, e]); simpa [marked] using this
   unfold marks at h1 h2 ⊢
   cases x <;> cases y <;> simp at hx ⊢
   ·exact ⟨h1, fun e => h2 e⟩
   ·omega
   ·exact ⟨h1, fun e => h2 e⟩
def iterL (F : List Bool → List Bool) : Nat → List Bool → List Bool
 | 0, o => o
 | n + 1, o => F (iterL F n o)
theorem iter_len {F : List Bool → List Bool} (hF : ∀ o, belowM o (F o)) (o : List Bool) : ∀ n, (iterL F n o).length = o.length
 | 0 => rfl
 | n + 1 => by rw [iterL, ← (hF _).1, iter_len hF o n]
theorem iter_stable {F : List Bool → List Bool} (hF : ∀ o, belowM o (F o)) (o : List Bool) (n : Nat) (hn : o.length ≤ n) : F (iterL F n o) = iterL F n o := by
 have key : ∀ n, F (iterL F n o) = iterL F n o ∨ n < marks (iterL F (n + 1) o) := by
  intro n
  induction n with
  | zero =>
    by_cases e : F o = o
    ·exact .inl e
    ·right
     obtain ⟨h1, h2⟩ := below_marks (hF o)
     have : marks o ≠ marks (F o) := fun q => e (h2 q).symm
     show 0 < marks (F o)
     omega
  | succ n ih =>
    by_cases e : F (iterL F (n + 1) o) = iterL F (n + 1) o
    ·exact .inl e
    ·right
     rcases ih with ih | ih
     ·exact (e (by show F (F (iterL F n o)) = F (iterL F n o); rw [ih, ih])).elim
     ·obtain ⟨h1, h2⟩ := below_marks (hF (iterL F (n + 1) o))
      have : marks (iterL F (n + 1) o) ≠ marks (F (iterL F (n + 1) o)) := fun q => e (h2 q).symm
      show n + 1 < marks (F (iterL F (n + 1) o))
      omega
 rcases key n with h | h
 ·exact h
 ·have h1 := marks_le (iterL F (n + 1) o)
  rw [iter_len hF] at h1
  omega
theorem fold_below {α : Type} {f : List Bool → α → List Bool} (hf : ∀ o x, belowM o (f o x)) : ∀ (l : List α) (o : List Bool), belowM o (l.foldl f o)
 | [], o => belowM.refl o
 | x :: l, o => (hf o x).trans (fold_below hf l (f o x))
theorem fold_stable {α : Type} {f : List Bool → α → List Bool} (hf : ∀ o x, belowM o (f o x)) : ∀ (l : List α) (o : List Bool), l.foldl f o = o → ∀ x ∈ l, f o x = o
 | [], _, _, x, hx => by simp at hx
 | y :: l, o, h, x, hx => by
   have h1 : f o y = o := (hf o y).antisymm (by have := fold_below hf l (f o y); rw [List.foldl_cons] at h; rw [h] at this; exact this) |>.symm
   rw [List.foldl_cons, h1] at h
   rcases List.mem_cons.1 hx with rfl | hx
   ·exact h1
   ·exact fold_stable hf l o h x hx
theorem set_below (o : List Bool) (k : Nat) : belowM o (o.set k true) := ⟨by simp, fun i hi => by
 unfold marked at hi ⊢
 rw [List.getElem?_set]
 split
 ·next e =>
  subst e
  split
  ·rfl
  ·next q => rw [List.getElem?_eq_none (by omega)] at hi; cases hi
 ·exact hi⟩
theorem set_marked {o : List Bool} {k : Nat} (hk : k < o.length) : marked (o.set k true) k := by
 unfold marked; rw [List.getElem?_set_self hk]
theorem set_other {o : List Bool} {k i : Nat} (h : marked (o.set k true) i) : i = k ∨ marked o i := by
 unfold marked at h ⊢
 rw [List.getElem?_set] at h
 split at h
 ·next e => exact .inl e.symm
 ·exact .inr h
theorem false_marked (n i : Nat) : ¬ marked (List.replicate n false) i := by
 unfold marked
 rw [List.getElem?_replicate]
 split <;> simp
def allM (o : List Bool) (right : List Int) : Prop := ∀ s ∈ right, 0 ≤ s → marked o s.toNat
noncomputable def prodS (o : List Bool) (r : RuleG) : List Bool := @ite _ (allM o r.right) (Classical.propDecidable _) (o.set r.left.toNat true) o
theorem prodS_below (o : List Bool) (r : RuleG) : belowM o (prodS o r) := by
 unfold prodS; split
 ·exact set_below o _
 ·exact belowM.refl o
noncomputable def prodR (g : GramG) (o : List Bool) : List Bool := g.rules.foldl prodS o
theorem prodR_below (g : GramG) (o : List Bool) : belowM o (prodR g o) := fold_below prodS_below _ _
theorem prodS_sound {g : GramG} (hv : ValidG g) {o : List Bool} {r : RuleG} (hr : r ∈ g.rules) (h : ∀ i, marked o i → ProdN g i) : ∀ i, marked (prodS o r) i → ProdN g i := by
 intro i hi
 unfold prodS at hi
 split at hi
 ·next q =>
  rcases set_other hi with e | hi
  ·have := (hv.rules r hr).1
   exact .mk r i hr (by omega) (fun s hs h0 => h _ (q s hs h0))
  ·exact h i hi
 ·exact h i hi
theorem prodR_sound {g : GramG} (hv : ValidG g) {o : List Bool} (h : ∀ i, marked o i → ProdN g i) : ∀ i, marked (prodR g o) i → ProdN g i := by
 have key : ∀ (l : List RuleG) (o : List Bool), (∀ r ∈ l, r ∈ g.rules) → (∀ i, marked o i → ProdN g i) → ∀ i, marked (l.foldl prodS o) i → ProdN g i := by
  intro l
  induction l with
  | nil => intro o _ h; exact h
  | cons x l ih => intro o hl h; exact ih _ (fun r hr => hl r (by simp [hr])) (prodS_sound hv (hl x (by simp)) h)
 exact key g.rules o (fun _ h => h) h
theorem prod_closed {g : GramG} (hv : ValidG g) {o : List Bool} (hl : o.length = g.names.length) (h : prodR g o = o) : ∀ i, ProdN g i → marked o i := by
 intro i hi
 induction hi with
 | mk r i hr he _ ih =>
   have h1 := fold_stable prodS_below g.rules o h r hr
   unfold prodS at h1
   rw [if_pos (show allM o r.right from ih)] at h1
   have h2 := (hv.rules r hr).2.1
   rw [← h1, show r.left.toNat = i by omega]
   exact set_marked (by omega)
theorem prod_stable {g : GramG} (hv : ValidG g) {o : List Bool} (hl : o.length = g.names.length) (hs : ∀ i, marked o i → ProdN g i) (h : prodR g o = o) : o = prodL g := by
 refine marks_ext (by rw [hl, prodL_len]) (fun i => ?_)
 by_cases hi : i < g.names.length
 ·have : marked (prodL g) i ↔ ProdN g i := by
   unfold marked prodL
   rw [List.getElem?_map, List.getElem?_range hi]
   simp only [Option.map_some, Option.some.injEq]
   exact ⟨of_boolOf, boolOf_true⟩
  rw [this]
  exact ⟨hs i, prod_closed hv hl h i⟩
 ·unfold marked
  rw [List.getElem?_eq_none (by omega), List.getElem?_eq_none (by rw [prodL_len]; omega)]
theorem iter_sound {g : GramG} (hv : ValidG g) : ∀ n, ∀ i, marked (iterL (prodR g) n (List.replicate g.names.length false)) i → ProdN g i
 | 0 => fun i hi => (false_marked _ _ hi).elim
 | n + 1 => prodR_sound hv (iter_sound hv n)
theorem prod_rounds {g : GramG} (hv : ValidG g) (n : Nat) (hn : g.names.length ≤ n) : iterL (prodR g) n (List.replicate g.names.length false) = prodL g := by
 have hl : (iterL (prodR g) n (List.replicate g.names.length false)).length = g.names.length := by rw [iter_len (prodR_below g), List.length_replicate]
 exact prod_stable hv hl (iter_sound hv n) (iter_stable (prodR_below g) _ n (by rw [List.length_replicate]; exact hn))
def pairsG (g : GramG) : List (Int × Int) := g.rules.flatMap fun r => r.right.map fun s => (r.left, s)
noncomputable def reachS (o : List Bool) (p : Int × Int) : List Bool := @ite _ (0 ≤ p.2 ∧ marked o p.1.toNat) (Classical.propDecidable _) (o.set p.2.toNat true) o
theorem reachS_below (o : List Bool) (p : Int × Int) : belowM o (reachS o p) := by
 unfold reachS; split
 ·exact set_below o _
 ·exact belowM.refl o
noncomputable def reachR (g : GramG) (o : List Bool) : List Bool := (pairsG g).foldl reachS o
theorem reachR_below (g : GramG) (o : List Bool) : belowM o (reachR g o) := fold_below reachS_below _ _
theorem pairs_mem {g : GramG} {p : Int × Int} : p ∈ pairsG g ↔ ∃ r ∈ g.rules, p.1 = r.left ∧ p.2 ∈ r.right := by
 unfold pairsG
 simp only [List.mem_flatMap, List.mem_map]
 constructor
 ·rintro ⟨r, hr, s, hs, rfl⟩; exact ⟨r, hr, rfl, hs⟩
 ·rintro ⟨r, hr, h1, h2⟩; exact ⟨r, hr, p.2, h2, by rw [← h1]⟩
theorem reachR_sound {g : GramG} (hv : ValidG g) {o : List Bool} (h : ∀ i, marked o i → ReachN g i) : ∀ i, marked (reachR g o) i → ReachN g i := by
 have key : ∀ (l : List (Int × Int)) (o : List Bool), (∀ p ∈ l, p ∈ pairsG g) → (∀ i, marked o i → ReachN g i) → ∀ i, marked (l.foldl reachS o) i → ReachN g i := by
  intro l
  induction l with
  | nil => intro o _ h; exact h
  | cons x l ih =>
    intro o hl h
    refine ih _ (fun r hr => hl r (by simp [hr])) (fun i hi => ?_)
    unfold reachS at hi
    split at hi
    ·next q =>
     rcases set_other hi with e | hi
     ·obtain ⟨r, hr, h1, h2⟩ := pairs_mem.1 (hl x (by simp))
      have := (hv.rules r hr).1
      rw [e]
      exact .step r x.1.toNat x.2 hr (by omega) (h _ q.2) h2 q.1
     ·exact h i hi
    ·exact h i hi
 exact key (pairsG g) o (fun _ h => h) h
theorem reach_closed {g : GramG} (hv : ValidG g) {o : List Bool} (hl : o.length = g.names.length) (h0 : marked o 0) (h : reachR g o = o) : ∀ i, ReachN g i → marked o i := by
 intro i hi
 induction hi with
 | zero => exact h0
 | step r i s hr he _ hs hp ih =>
   have h1 := fold_stable reachS_below (pairsG g) o h (r.left, s) (pairs_mem.2 ⟨r, hr, rfl, hs⟩)
   unfold reachS at h1
   rw [if_pos ⟨hp, by simp only; rw [he]; exact ih⟩] at h1
   have h2 := ((hv.rules r hr).2.2.2 s hs).2
   rw [← h1]
   exact set_marked (by omega)
theorem reach_stable {g : GramG} (hv : ValidG g) {o : List Bool} (hl : o.length = g.names.length) (h0 : marked o 0) (hs : ∀ i, marked o i → ReachN g i) (h : reachR g o = o) : o = reachL g := by
 refine marks_ext (by rw [hl, reachL_len]) (fun i => ?_)
 by_cases hi : i < g.names.length
 ·have : marked (reachL g) i ↔ ReachN g i := by
   unfold marked reachL
   rw [List.getElem?_map, List.getElem?_range hi]
   simp only [Option.map_some, Option.some.injEq]
   exact ⟨of_boolOf, boolOf_true⟩
  rw [this]
  exact ⟨hs i, reach_closed hv hl h0 h i⟩
 ·unfold marked
  rw [List.getElem?_eq_none (by omega), List.getElem?_eq_none (by rw [reachL_len]; omega)]
def firstM (n : Nat) : List Bool := (List.replicate n false).set 0 true
theorem first_len (n : Nat) : (firstM n).length = n := by simp [firstM]
theorem first_marked {n : Nat} (h : 1 ≤ n) : marked (firstM n) 0 := set_marked (by simp; omega)
theorem first_sound (g : GramG) {n i : Nat} (h : marked (firstM n) i) : ReachN g i := by
 rcases set_other h with rfl | h
 ·exact .zero
 ·exact (false_marked _ _ h).elim
theorem iterR_sound {g : GramG} (hv : ValidG g) : ∀ n, ∀ i, marked (iterL (reachR g) n (firstM g.names.length)) i → ReachN g i
 | 0 => fun i hi => first_sound g hi
 | n + 1 => reachR_sound hv (iterR_sound hv n)
theorem iter_below {F : List Bool → List Bool} (hF : ∀ o, belowM o (F o)) (o : List Bool) : ∀ n, belowM o (iterL F n o)
 | 0 => belowM.refl o
 | n + 1 => (iter_below hF o n).trans (hF _)
theorem reach_rounds {g : GramG} (hv : ValidG g) (n : Nat) (hn : g.names.length ≤ n) : iterL (reachR g) n (firstM g.names.length) = reachL g := by
 have hl : (iterL (reachR g) n (firstM g.names.length)).length = g.names.length := by rw [iter_len (reachR_below g), first_len]
 exact reach_stable hv hl ((iter_below (reachR_below g) _ n).2 0 (first_marked hv.one)) (iterR_sound hv n) (iter_stable (reachR_below g) _ n (by rw [first_len]; exact hn))
end Go.Proofs.YtnaamjpiaekmeaaGreat
namespace Go.Proofs.YtnaamjpiaekmeaaGreat
inductive LenN (g : GramG) : List Int → Nat → Prop
 | nil : LenN g [] 0
 | term (s : Int) (r : List Int) (n : Nat) : s < 0 → LenN g r n → LenN g (s :: r) (n + 1)
 | non (ρ : RuleG) (i : Nat) (r : List Int) (a n : Nat) : ρ ∈ g.rules → ρ.left = (i : Int) → LenN g ρ.right a → LenN g r n → LenN g ((i : Int) :: r) (a + n)
theorem len_append {g : GramG} {a b : List Int} {m n : Nat} (h : LenN g a m) (k : LenN g b n) : LenN g (a ++ b) (m + n) := by
 induction h with
 | nil => simpa using k
 | term s r m hs _ ih => rw [show m + 1 + n = (m + n) + 1 by omega]; exact .term s _ _ hs ih
 | non ρ i r a m hm he h1 _ _ ih2 => rw [Nat.add_assoc]; exact .non ρ i _ a _ hm he h1 ih2
theorem len_one {g : GramG} {i n : Nat} : LenN g [(i : Int)] n ↔ ∃ ρ ∈ g.rules, ρ.left = (i : Int) ∧ LenN g ρ.right n := by
 constructor
 ·intro h
  generalize hx : ([(i : Int)] : List Int) = x at h
  cases h with
  | nil => cases hx
  | term s r m hs _ => injection hx with e _; omega
  | non ρ j r a m hm he h1 h2 =>
    injection hx with e1 e2
    subst e2
    cases h2
    exact ⟨ρ, hm, by omega, h1⟩
 ·rintro ⟨ρ, hm, he, h⟩
  have := LenN.non ρ i [] n 0 hm he h .nil
  simpa using this
theorem len_prod {g : GramG} (hv : ValidG g) : ∀ {x : List Int} {n : Nat}, LenN g x n → ∀ s ∈ x, 0 ≤ s → ProdN g s.toNat := by
 intro x n h
 induction h with
 | nil => intro s hs; simp at hs
 | term s r n hs _ ih =>
   intro u hu h0
   rcases List.mem_cons.1 hu with rfl | hu
   ·omega
   ·exact ih u hu h0
 | non ρ i r a n hm he _ _ ih1 ih2 =>
   intro u hu h0
   rcases List.mem_cons.1 hu with rfl | hu
   ·exact .mk ρ _ hm (by rw [he]; simp) ih1
   ·exact ih2 u hu h0
theorem prod_len {g : GramG} : ∀ {i : Nat}, ProdN g i → ∃ n, LenN g [(i : Int)] n := by
 intro i h
 induction h with
 | mk r i hr he _ ih =>
   have key : ∀ x : List Int, (∀ s ∈ x, s ∈ r.right) → ∃ n, LenN g x n := by
    intro x
    induction x with
    | nil => intro _; exact ⟨0, .nil⟩
    | cons s x ihx =>
      intro hx
      obtain ⟨n, hn⟩ := ihx (fun u hu => hx u (by simp [hu]))
      by_cases h0 : 0 ≤ s
      ·obtain ⟨m, hm⟩ := ih s (hx s (by simp)) h0
       have e : ((s.toNat : Nat) : Int) = s := by omega
       rw [e] at hm
       exact ⟨m + n, len_append (a := [s]) hm hn⟩
      ·exact ⟨n + 1, .term s x n (by omega) hn⟩
   obtain ⟨n, hn⟩ := key r.right (fun s hs => hs)
   exact ⟨n, len_one.2 ⟨r, hr, he, hn⟩⟩
theorem prod_iff_len {g : GramG} (hv : ValidG g) {i : Nat} : ProdN g i ↔ ∃ n, LenN g [(i : Int)] n :=
 ⟨prod_len, fun ⟨_, h⟩ => by have := len_prod hv h (i : Int) (by simp) (by omega); simpa using this⟩
def LeastN (g : GramG) (i m : Nat) : Prop := LenN g [(i : Int)] m ∧ ∀ n, LenN g [(i : Int)] n → m ≤ n
theorem least_of {p : Nat → Prop} : ∀ n, p n → ∃ m, p m ∧ ∀ k, p k → m ≤ k := by
 intro n
 induction n using Nat.strongRecOn with
 | ind n ih =>
   intro h
   by_cases q : ∃ k, k < n ∧ p k
   ·obtain ⟨k, hk, hp⟩ := q; exact ih k hk hp
   ·exact ⟨n, h, fun k hp => Nat.le_of_not_lt fun hk => q ⟨k, hk, hp⟩⟩
def ShortIs (g : GramG) (i : Nat) (v : Int) : Prop := (v = -1 ∧ ¬ ProdN g i) ∨ ∃ m, LeastN g i m ∧ v = ((min m 1000000 : Nat) : Int)
end Go.Proofs.YtnaamjpiaekmeaaGreat
namespace Go.Proofs.YtnaamjpiaekmeaaGreat
def roundF {σ : Type} (F : σ → RuleG → σ × Bool) : List RuleG → σ × Bool → σ × Bool
 | [], x => x
 | r :: l, x => roundF F l ((F x.1 r).1, x.2 || (F x.1 r).2)
def propF {σ : Type} (F : σ → RuleG → σ × Bool) (rules : List RuleG) : Nat → σ → σ
 | 0, s => s
 | n + 1, s => if (roundF F rules (s, false)).2 = true then propF F rules n (roundF F rules (s, false)).1 else (roundF F rules (s, false)).1
theorem round_drop {σ : Type} (F : σ → RuleG → σ × Bool) {rules : List RuleG} {k : Nat} (h : k < rules.length) (st : σ) (m : Bool) :
  roundF F (rules.drop k) (st, m) = roundF F (rules.drop (k + 1)) ((F st (rules[k]'h)).1, m || (F st (rules[k]'h)).2) := by
 rw [List.drop_eq_getElem_cons h, roundF]
theorem round_end {σ : Type} (F : σ → RuleG → σ × Bool) {rules : List RuleG} {k : Nat} (h : rules.length ≤ k) (x : σ × Bool) : roundF F (rules.drop k) x = x := by
 rw [List.drop_eq_nil_of_le h, roundF]
end Go.Proofs.YtnaamjpiaekmeaaGreat
namespace Go.Proofs.YtnaamjpiaekmeaaGreat
def symLen (s : List Int) (x : Int) : Int := if x < 0 then 1 else (s[x.toNat]?).getD (-1)
def lenGo (s : List Int) : List Int → Int → Int
 | [], a => if a ≤ 1000000 then a else 1000000
 | x :: r, a => if symLen s x = -1 then -1 else lenGo s r (a + symLen s x)
def lenOf (s right : List Int) : Int := lenGo s right 0
def LenOk (s : List Int) : Prop := ∀ v ∈ s, -1 ≤ v ∧ v ≤ 1000000
theorem symLen_neg {s : List Int} {x : Int} (h : x < 0) : symLen s x = 1 := if_pos h
theorem symLen_nat {s : List Int} {m : Nat} (h : m < s.length) : symLen s (m : Int) = s[m]'h := by
 unfold symLen
 rw [if_neg (by omega), Int.toNat_natCast, List.getElem?_eq_getElem h]
 rfl
def stepL (s : List Int) (r : RuleG) : List Int × Bool :=
 if lenOf s r.right = -1 ∨ ((s[r.left.toNat]?).getD (-1) ≠ -1 ∧ (s[r.left.toNat]?).getD (-1) ≤ lenOf s r.right) then (s, false) else (s.set r.left.toNat (lenOf s r.right), true)
theorem lenGo_ok {s : List Int} (h : LenOk s) : ∀ (r : List Int) (a : Int), 0 ≤ a → -1 ≤ lenGo s r a ∧ lenGo s r a ≤ 1000000
 | [], a, ha => by unfold lenGo; split <;> omega
 | x :: r, a, ha => by
   unfold lenGo
   have hx : -1 ≤ symLen s x := by
    unfold symLen
    split
    ·omega
    ·cases e : s[x.toNat]? with
     | none => simp
     | some v => exact (h v (List.mem_of_getElem? e)).1
   split
   ·omega
   ·exact lenGo_ok h r _ (by omega)
theorem stepL_ok {s : List Int} {r : RuleG} (h : LenOk s) : LenOk (stepL s r).1 := by
 unfold stepL
 split
 ·exact h
 ·intro v hv
  rcases List.mem_or_eq_of_mem_set hv with hv | rfl
  ·exact h v hv
  ·exact lenGo_ok h _ _ (by decide)
theorem stepL_len (s : List Int) (r : RuleG) : (stepL s r).1.length = s.length := by
 unfold stepL
 split
 ·rfl
 ·simp
def lensP (g : GramG) : List Int := propF stepL g.rules g.names.length (List.replicate g.names.length (-1))
def atL (s : List Int) (i : Nat) : Int := (s[i]?).getD (-1)
def SndL (g : GramG) (s : List Int) : Prop := ∀ i, atL s i ≠ -1 → ∃ m, LenN g [(i : Int)] m ∧ atL s i = ((min m 1000000 : Nat) : Int)
theorem lenGo_sound {g : GramG} {s : List Int} (hs : SndL g s) : ∀ (r : List Int) (a A : Nat), min a 1000000 = min A 1000000 → lenGo s r (a : Int) ≠ -1 → ∃ n, LenN g r n ∧ lenGo s r (a : Int) = ((min (A + n) 1000000 : Nat) : Int)
 | [], a, A, hc, _ => ⟨0, .nil, by unfold lenGo; split <;> omega⟩
 | x :: r, a, A, hc, hne => by
   unfold lenGo at hne ⊢
   by_cases hx : symLen s x = -1
   ·rw [if_pos hx] at hne; exact (hne rfl).elim
   ·rw [if_neg hx] at hne ⊢
    by_cases h0 : x < 0
    ·rw [symLen_neg h0] at hne ⊢
     obtain ⟨n, hn, he⟩ := lenGo_sound hs r (a + 1) (A + 1) (by omega) (by simpa using hne)
     refine ⟨n + 1, .term x r n h0 hn, ?_⟩
     rw [show (a : Int) + 1 = ((a + 1 : Nat) : Int) by omega, he]
     omega
    ·have hv : symLen s x = atL s x.toNat := by unfold symLen atL; rw [if_neg h0]
     rw [hv] at hne hx ⊢
     obtain ⟨m, hm, hv2⟩ := hs _ hx
     rw [hv2] at hne ⊢
     rw [show (a : Int) + ((min m 1000000 : Nat) : Int) = ((a + min m 1000000 : Nat) : Int) by omega] at hne ⊢
     obtain ⟨n, hn, he⟩ := lenGo_sound hs r (a + min m 1000000) (A + m) (by omega) hne
     rw [show ((x.toNat : Nat) : Int) = x by omega] at hm
     refine ⟨m + n, len_append (a := [x]) hm hn, ?_⟩
     rw [he]
     omega
def FinL (g : GramG) (s : List Int) (i : Nat) : Prop := ∀ n, LenN g [(i : Int)] n → atL s i ≠ -1 ∧ atL s i ≤ ((min n 1000000 : Nat) : Int)
theorem lenGo_bound {g : GramG} {s : List Int} (hok : LenOk s) {x : List Int} {n : Nat} (h : LenN g x n) : (∀ y ∈ x, 0 ≤ y → FinL g s y.toNat) → ∀ a A : Nat, min a 1000000 ≤ min A 1000000 → lenGo s x (a : Int) ≠ -1 ∧ lenGo s x (a : Int) ≤ ((min (A + n) 1000000 : Nat) : Int) := by
 induction h with
 | nil => intro _ a A hc; unfold lenGo; split <;> omega
 | term y r n h0 _ ih =>
   intro hf a A hc
   unfold lenGo
   rw [symLen_neg h0, if_neg (by decide)]
   have := ih (fun z hz => hf z (by simp [hz])) (a + 1) (A + 1) (by omega)
   rw [show (a : Int) + 1 = ((a + 1 : Nat) : Int) by omega]
   refine ⟨this.1, ?_⟩
   have h2 := this.2
   omega
 | non ρ i r k n hm he h1 _ _ ih2 =>
   intro hf a A hc
   have hi := hf (i : Int) (by simp) (by omega) k (by rw [Int.toNat_natCast]; exact len_one.2 ⟨ρ, hm, he, h1⟩)
   rw [Int.toNat_natCast] at hi
   have hv : symLen s (i : Int) = atL s i := by unfold symLen atL; rw [if_neg (by omega), Int.toNat_natCast]
   unfold lenGo
   rw [hv, if_neg hi.1]
   obtain ⟨v, hvv⟩ : ∃ v : Nat, atL s i = (v : Int) := ⟨(atL s i).toNat, by
    have : -1 ≤ atL s i := by
     unfold atL
     cases e : s[i]? with
     | none => simp
     | some u => exact (hok u (List.mem_of_getElem? e)).1
    have := hi.1
    omega⟩
   have h3 := hi.2
   rw [hvv] at h3 ⊢
   have := ih2 (fun z hz => hf z (by simp [hz])) (a + v) (A + k) (by omega)
   rw [show (a : Int) + (v : Int) = ((a + v : Nat) : Int) by omega]
   refine ⟨this.1, ?_⟩
   have h2 := this.2
   omega
def ImpL (s t : List Int) : Prop := t.length = s.length ∧ ∀ i, atL s i ≠ -1 → atL t i ≠ -1 ∧ atL t i ≤ atL s i
theorem ImpL.refl (s : List Int) : ImpL s s := ⟨rfl, fun _ h => ⟨h, Int.le_refl _⟩⟩
theorem ImpL.trans {a b c : List Int} (h : ImpL a b) (k : ImpL b c) : ImpL a c := ⟨k.1.trans h.1, fun i hi => by
 have h1 := h.2 i hi
 have h2 := k.2 i h1.1
 exact ⟨h2.1, Int.le_trans h2.2 h1.2⟩⟩
theorem FinL.imp {g : GramG} {s t : List Int} {i : Nat} (h : FinL g s i) (k : ImpL s t) : FinL g t i := fun n hn => by
 have h1 := h n hn
 have h2 := k.2 i h1.1
 exact ⟨h2.1, Int.le_trans h2.2 h1.2⟩
theorem atL_set {s : List Int} {k : Nat} (v : Int) (i : Nat) (hk : k < s.length) : atL (s.set k v) i = if i = k then v else atL s i := by
 unfold atL
 rw [List.getElem?_set]
 by_cases e : k = i
 ·subst e; simp [hk]
 ·rw [if_neg e, if_neg (fun q => e q.symm)]
theorem stepL_imp {s : List Int} {r : RuleG} (hr : r.left.toNat < s.length) : ImpL s (stepL s r).1 := by
 unfold stepL
 split
 ·exact ImpL.refl s
 ·next h =>
  refine ⟨by simp, fun i hi => ?_⟩
  simp only
  rw [atL_set _ _ hr]
  split
  ·next e =>
   subst e
   unfold atL at hi ⊢
   constructor
   ·exact fun q => h (.inl q)
   ·exact Int.le_of_lt (Int.not_le.1 fun q => h (.inr ⟨hi, q⟩))
  ·exact ⟨hi, Int.le_refl _⟩
theorem stepL_sound {g : GramG} {s : List Int} {r : RuleG} (hs : SndL g s) (hm : r ∈ g.rules) (h0 : 0 ≤ r.left) (hr : r.left.toNat < s.length) : SndL g (stepL s r).1 := by
 unfold stepL
 split
 ·exact hs
 ·next h =>
  intro i hi
  simp only at hi ⊢
  rw [atL_set _ _ hr] at hi ⊢
  split
  ·next e =>
   rw [if_pos e] at hi
   obtain ⟨n, hn, he⟩ := lenGo_sound hs r.right 0 0 rfl hi
   refine ⟨n, ?_, by rw [show lenOf s r.right = lenGo s r.right ((0 : Nat) : Int) from rfl, he]; omega⟩
   exact len_one.2 ⟨r, hm, by omega, hn⟩
  ·next e =>
   rw [if_neg e] at hi
   exact hs i hi
theorem stepL_bound {g : GramG} {s : List Int} {r : RuleG} (hok : LenOk s) (hr : r.left.toNat < s.length) (hf : ∀ y ∈ r.right, 0 ≤ y → FinL g s y.toNat) {n : Nat} (hn : LenN g r.right n) :
  atL (stepL s r).1 r.left.toNat ≠ -1 ∧ atL (stepL s r).1 r.left.toNat ≤ ((min n 1000000 : Nat) : Int) := by
 have hb := lenGo_bound hok hn hf 0 0 (Nat.le_refl _)
 rw [Nat.zero_add] at hb
 have hb1 : lenOf s r.right ≠ -1 := hb.1
 have hb2 : lenOf s r.right ≤ ((min n 1000000 : Nat) : Int) := hb.2
 unfold stepL
 split
 ·next h =>
  rcases h with h | ⟨h1, h2⟩
  ·exact (hb1 h).elim
  ·exact ⟨h1, Int.le_trans h2 hb2⟩
 ·simp only
  rw [atL_set _ _ hr, if_pos rfl]
  exact ⟨hb1, hb2⟩
structure InvL (g : GramG) (s : List Int) : Prop where
 len : s.length = g.names.length
 ok : LenOk s
 snd : SndL g s
theorem stepL_inv {g : GramG} (hv : ValidG g) {s : List Int} (h : InvL g s) {r : RuleG} (hr : r ∈ g.rules) : InvL g (stepL s r).1 ∧ ImpL s (stepL s r).1 := by
 have := hv.rules r hr
 have hl : r.left.toNat < s.length := by rw [h.len]; omega
 exact ⟨⟨(stepL_len s r).trans h.len, stepL_ok h.ok, stepL_sound h.snd hr this.1 hl⟩, stepL_imp hl⟩
theorem roundL_inv {g : GramG} (hv : ValidG g) : ∀ (l : List RuleG), (∀ r ∈ l, r ∈ g.rules) → ∀ (s : List Int) (m : Bool), InvL g s → InvL g (roundF stepL l (s, m)).1 ∧ ImpL s (roundF stepL l (s, m)).1 ∧
  (∀ r ∈ l, (∀ y ∈ r.right, 0 ≤ y → FinL g s y.toNat) → ∀ n, LenN g r.right n → atL (roundF stepL l (s, m)).1 r.left.toNat ≠ -1 ∧ atL (roundF stepL l (s, m)).1 r.left.toNat ≤ ((min n 1000000 : Nat) : Int)) ∧
  ((roundF stepL l (s, m)).2 = false → (roundF stepL l (s, m)).1 = s)
 | [], _, s, m, h => ⟨h, ImpL.refl s, fun r hr => by simp at hr, fun _ => rfl⟩
 | x :: l, hl, s, m, h => by
   obtain ⟨h1, h2⟩ := stepL_inv hv h (hl x (by simp))
   obtain ⟨k1, k2, k3, k4⟩ := roundL_inv hv l (fun r hr => hl r (by simp [hr])) (stepL s x).1 (m || (stepL s x).2) h1
   refine ⟨k1, h2.trans k2, fun r hr hf n hn => ?_, fun q => ?_⟩
   ·rcases List.mem_cons.1 hr with rfl | hr
    ·have hb := stepL_bound h.ok (by have := hv.rules r (hl r (by simp)); rw [h.len]; omega) hf hn
     have h5 := k2.2 _ hb.1
     exact ⟨h5.1, Int.le_trans h5.2 hb.2⟩
    ·exact k3 r hr (fun y hy h0 => (hf y hy h0).imp h2) n hn
   ·have hq : (roundF stepL l ((stepL s x).1, m || (stepL s x).2)).2 = false := q
    have h5 := k4 hq
    have h6 : ∀ (l : List RuleG) (y : List Int × Bool), (roundF stepL l y).2 = false → y.2 = false := by
     intro l
     induction l with
     | nil => intro y q; exact q
     | cons z l ih => intro y q; have := ih _ q; simp only [Bool.or_eq_false_iff] at this; exact this.1
    have h7 := h6 l _ hq
    simp only [Bool.or_eq_false_iff] at h7
    show (roundF stepL l ((stepL s x).1, m || (stepL s x).2)).1 = s
    rw [h5]
    have h8 := h7.2
    unfold stepL at h8 ⊢
    split
    ·rfl
    ·next e => rw [if_neg e] at h8; cases h8
theorem all_final {g : GramG} (hv : ValidG g) {s : List Int} (h : InvL g s) (hs : ∀ i, FinL g (roundF stepL g.rules (s, false)).1 i → FinL g s i) : ∀ i, FinL g s i := by
 obtain ⟨-, -, k3, -⟩ := roundL_inv hv g.rules (fun _ h => h) s false h
 have key : ∀ {x : List Int} {n : Nat}, LenN g x n → (∀ y ∈ x, 0 ≤ y → FinL g s y.toNat) ∨ ∃ m, m < n ∧ LenN g x m := by
  intro x n hx
  induction hx with
  | nil => exact .inl (fun y hy => by simp at hy)
  | term y r n h0 _ ih =>
    rcases ih with ih | ⟨m, hm, hr⟩
    ·exact .inl (fun z hz hz0 => by
      rcases List.mem_cons.1 hz with rfl | hz
      ·omega
      ·exact ih z hz hz0)
    ·exact .inr ⟨m + 1, by omega, .term y r m h0 hr⟩
  | non ρ i r a n hm he h1 h2 ih1 ih2 =>
    by_cases hf : FinL g s i
    ·rcases ih2 with ih2 | ⟨m, hm2, hr⟩
     ·exact .inl (fun z hz hz0 => by
       rcases List.mem_cons.1 hz with rfl | hz
       ·rw [Int.toNat_natCast]; exact hf
       ·exact ih2 z hz hz0)
     ·exact .inr ⟨a + m, by omega, .non ρ i r a m hm he h1 hr⟩
    ·right
     have hn1 : ¬ FinL g (roundF stepL g.rules (s, false)).1 i := fun q => hf (hs i q)
     rcases ih1 with ih1 | ⟨m, hm2, hr⟩
     ·have hb := k3 ρ hm ih1 a h1
      rw [he, Int.toNat_natCast] at hb
      have : ∃ m, LenN g [(i : Int)] m ∧ m < a := by
       apply Classical.byContradiction
       intro q
       refine hn1 (fun m hm3 => ⟨hb.1, Int.le_trans hb.2 ?_⟩)
       have : ¬ m < a := fun hlt => q ⟨m, hm3, hlt⟩
       omega
      obtain ⟨m, hm3, hlt⟩ := this
      exact ⟨m + n, by omega, len_append (a := [(i : Int)]) hm3 h2⟩
     ·exact ⟨m + n, by omega, .non ρ i r m n hm he hr h2⟩
 intro i n hn
 obtain ⟨m, h1, h2⟩ := least_of (p := fun n => LenN g [(i : Int)] n) n hn
 rcases key h1 with hk | ⟨k, hk, hk2⟩
 ·have := hk (i : Int) (by simp) (by omega)
  rw [Int.toNat_natCast] at this
  exact this n hn
 ·have := h2 k hk2
  omega
noncomputable def finM (g : GramG) (s : List Int) : List Bool := (List.range g.names.length).map fun i => boolOf (FinL g s i)
theorem finM_len (g : GramG) (s : List Int) : (finM g s).length = g.names.length := by simp [finM]
theorem finM_marked {g : GramG} {s : List Int} {i : Nat} (hi : i < g.names.length) : marked (finM g s) i ↔ FinL g s i := by
 unfold marked finM
 rw [List.getElem?_map, List.getElem?_range hi]
 simp only [Option.map_some, Option.some.injEq]
 exact ⟨of_boolOf, boolOf_true⟩
theorem marked_lt {o : List Bool} {i : Nat} (h : marked o i) : i < o.length := by
 unfold marked at h
 exact (List.getElem?_eq_some_iff.1 h).1
theorem finM_below {g : GramG} {s t : List Int} (h : ImpL s t) : belowM (finM g s) (finM g t) := ⟨by rw [finM_len, finM_len], fun i hi => by
 have hl := marked_lt hi
 rw [finM_len] at hl
 exact (finM_marked hl).2 (((finM_marked hl).1 hi).imp h)⟩
theorem marks_full : ∀ {o : List Bool}, marks o = o.length → ∀ i, i < o.length → marked o i
 | [], _, i, hi => by simp at hi
 | x :: o, h, i, hi => by
   cases x with
   | false =>
     have h1 : marks (false :: o) = marks o := rfl
     have h2 := marks_le o
     simp only [List.length_cons] at h
     omega
   | true =>
     have h1 : marks (true :: o) = marks o + 1 := rfl
     cases i with
     | zero => rfl
     | succ i =>
       have := marks_full (o := o) (by simp only [List.length_cons] at h; omega) i (by simpa using hi)
       unfold marked at this ⊢
       simpa using this
theorem fin_out {g : GramG} (hv : ValidG g) {s : List Int} {i : Nat} (hi : ¬ i < g.names.length) : FinL g s i := fun n hn => by
 obtain ⟨ρ, hm, he, -⟩ := len_one.1 hn
 have := hv.rules ρ hm
 omega
theorem propL_final {g : GramG} (hv : ValidG g) : ∀ (n : Nat) (s : List Int), InvL g s → g.names.length ≤ marks (finM g s) + n → InvL g (propF stepL g.rules n s) ∧ ∀ i, FinL g (propF stepL g.rules n s) i
 | 0, s, h, hn => ⟨h, fun i => by
   by_cases hi : i < g.names.length
   ·have h1 := marks_le (finM g s)
    rw [finM_len] at h1
    show FinL g s i
    exact (finM_marked hi).1 (marks_full (by rw [finM_len]; omega) i (by rw [finM_len]; exact hi))
   ·exact fin_out hv hi⟩
 | n + 1, s, h, hn => by
   obtain ⟨k1, k2, -, k4⟩ := roundL_inv hv g.rules (fun _ h => h) s false h
   have hbl := finM_below (g := g) k2
   obtain ⟨m1, m2⟩ := below_marks hbl
   have hall : finM g s = finM g (roundF stepL g.rules (s, false)).1 → ∀ i, FinL g s i := fun e =>
    all_final hv h (fun i hi => by
     by_cases hl : i < g.names.length
     ·have := (finM_marked hl).2 hi
      rw [← e] at this
      exact (finM_marked hl).1 this
     ·exact fin_out hv hl)
   rw [propF]
   by_cases hm : (roundF stepL g.rules (s, false)).2 = true
   ·rw [if_pos hm]
    by_cases he : marks (finM g s) = marks (finM g (roundF stepL g.rules (s, false)).1)
    ·have hall' := hall (m2 he)
     have key : ∀ (n : Nat) (t : List Int), InvL g t → (∀ i, FinL g t i) → InvL g (propF stepL g.rules n t) ∧ ∀ i, FinL g (propF stepL g.rules n t) i := by
      intro n
      induction n with
      | zero => intro t ht hf; exact ⟨ht, hf⟩
      | succ n ih =>
        intro t ht hf
        obtain ⟨j1, j2, -, -⟩ := roundL_inv hv g.rules (fun _ h => h) t false ht
        rw [propF]
        split
        ·exact ih _ j1 (fun i => (hf i).imp j2)
        ·exact ⟨j1, fun i => (hf i).imp j2⟩
     exact key n _ k1 (fun i => (hall' i).imp k2)
    ·exact propL_final hv n _ k1 (by omega)
   ·have hm' : (roundF stepL g.rules (s, false)).2 = false := by simpa using hm
    rw [if_neg hm]
    refine ⟨k1, fun i => ?_⟩
    have e := k4 hm'
    exact (hall (by rw [e]) i).imp k2
theorem inv_first (g : GramG) : InvL g (List.replicate g.names.length (-1)) := by
 refine ⟨by simp, fun v hv => by rw [List.eq_of_mem_replicate hv]; omega, fun i hi => ?_⟩
 refine (hi ?_).elim
 unfold atL
 rw [List.getElem?_replicate]
 split <;> rfl
theorem lensP_short {g : GramG} (hv : ValidG g) : (lensP g).length = g.names.length ∧ ∀ i (h : i < (lensP g).length), ShortIs g i ((lensP g)[i]'h) := by
 obtain ⟨h1, h2⟩ := propL_final hv g.names.length _ (inv_first g) (by omega)
 refine ⟨h1.len, fun i hi => ?_⟩
 have hat : atL (lensP g) i = (lensP g)[i]'hi := by unfold atL; rw [List.getElem?_eq_getElem hi]; rfl
 rw [← hat]
 by_cases hp : ProdN g i
 ·obtain ⟨n, hn⟩ := prod_len hp
  obtain ⟨m, hm1, hm2⟩ := least_of (p := fun n => LenN g [(i : Int)] n) n hn
  obtain ⟨f1, f2⟩ := h2 i m hm1
  obtain ⟨k, hk, he⟩ := h1.snd i f1
  have h3 := hm2 k hk
  right
  refine ⟨m, ⟨hm1, hm2⟩, ?_⟩
  have h4 : atL (lensP g) i = ((min k 1000000 : Nat) : Int) := he
  have h5 : atL (lensP g) i ≤ ((min m 1000000 : Nat) : Int) := f2
  omega
 ·left
  refine ⟨?_, hp⟩
  apply Classical.byContradiction
  intro q
  obtain ⟨k, hk, -⟩ := h1.snd i q
  exact hp ((prod_iff_len hv).2 ⟨k, hk⟩)
end Go.Proofs.YtnaamjpiaekmeaaGreat
namespace Go.Proofs.YtnaamjpiaekmeaaGreat
def goR1 (x : (List Bool × List Bool) × Bool) (y : Int) : (List Bool × List Bool) × Bool :=
 if y < 0 then ((x.1.1, x.1.2.set (-1 - y).toNat true), x.2) else if (x.1.1[y.toNat]?).getD false = true then x else ((x.1.1.set y.toNat true, x.1.2), true)
def goR (right : List Int) (x : (List Bool × List Bool) × Bool) : (List Bool × List Bool) × Bool := right.foldl goR1 x
def stepR (s : List Bool × List Bool) (r : RuleG) : (List Bool × List Bool) × Bool := if (s.1[r.left.toNat]?).getD false = true then goR r.right (s, false) else (s, false)
theorem goR_drop {right : List Int} {k : Nat} (h : k < right.length) (x : (List Bool × List Bool) × Bool) : goR (right.drop k) x = goR (right.drop (k + 1)) (goR1 x (right[k]'h)) := by
 unfold goR; rw [List.drop_eq_getElem_cons h, List.foldl_cons]
theorem goR_end {right : List Int} {k : Nat} (h : right.length ≤ k) (x : (List Bool × List Bool) × Bool) : goR (right.drop k) x = x := by
 unfold goR; rw [List.drop_eq_nil_of_le h, List.foldl_nil]
def reachedP (g : GramG) : List Bool × List Bool := propF stepR g.rules g.names.length ((List.replicate g.names.length false).set 0 true, List.replicate g.terms.length false)
noncomputable def usedL (g : GramG) : List Bool := (List.range g.terms.length).map fun t => boolOf (UsedG g t)
theorem usedL_len (g : GramG) : (usedL g).length = g.terms.length := by simp [usedL]
theorem marked_getD {o : List Bool} {i : Nat} : (o[i]?).getD false = true ↔ marked o i := by
 unfold marked
 cases e : o[i]? with
 | none => simp
 | some b => simp
theorem marks_set {o : List Bool} {i : Nat} (hi : i < o.length) (hn : ¬ marked o i) : marks o < marks (o.set i true) := by
 obtain ⟨h1, h2⟩ := below_marks (set_below o i)
 have : marks o ≠ marks (o.set i true) := fun e => hn (by rw [h2 e]; exact set_marked hi)
 omega
structure InvR (g : GramG) (s : List Bool × List Bool) : Prop where
 len : s.1.length = g.names.length
 lent : s.2.length = g.terms.length
 names : ∀ i, marked s.1 i → ReachN g i
 terms : ∀ t, marked s.2 t → UsedG g t
theorem goR1_step {g : GramG} {s : List Bool × List Bool} {m : Bool} (h : InvR g s) {r : RuleG} (hr : r ∈ g.rules) {i : Nat} (hi : r.left = (i : Int)) (hrch : ReachN g i) {y : Int} (hy : y ∈ r.right) (hb : -(g.terms.length : Int) ≤ y ∧ y < (g.names.length : Int)) :
  InvR g (goR1 (s, m) y).1 ∧ belowM s.1 (goR1 (s, m) y).1.1 ∧ belowM s.2 (goR1 (s, m) y).1.2 ∧ (m = true → (goR1 (s, m) y).2 = true) ∧ ((goR1 (s, m) y).2 = true → m = true ∨ marks s.1 < marks (goR1 (s, m) y).1.1) ∧
  ((goR1 (s, m) y).2 = false → (goR1 (s, m) y).1.1 = s.1) ∧ (y < 0 → marked (goR1 (s, m) y).1.2 (-1 - y).toNat) := by
 unfold goR1
 by_cases h0 : y < 0
 ·rw [if_pos h0]
  refine ⟨⟨h.len, by simp [h.lent], h.names, fun t ht => ?_⟩, belowM.refl _, set_below _ _, id, .inl, fun _ => rfl, fun _ => set_marked (by rw [h.lent]; omega)⟩
  rcases set_other ht with e | ht
  ·refine ⟨r, hr, ⟨i, hi, hrch⟩, ?_⟩
   rw [show (-1 - (t : Int)) = y by omega]
   exact hy
  ·exact h.terms t ht
 ·rw [if_neg h0]
  by_cases hm : marked s.1 y.toNat
  ·rw [if_pos (marked_getD.2 hm)]
   exact ⟨h, belowM.refl _, belowM.refl _, id, .inl, fun _ => rfl, fun q => (h0 q).elim⟩
  ·rw [if_neg (fun q => hm (marked_getD.1 q))]
   refine ⟨⟨by simp [h.len], h.lent, fun j hj => ?_, h.terms⟩, set_below _ _, belowM.refl _, fun _ => rfl, fun _ => .inr (marks_set (by rw [h.len]; omega) hm), fun q => (by cases q), fun q => (h0 q).elim⟩
   rcases set_other hj with e | hj
   ·rw [e]; exact .step r i y hr hi hrch hy (by omega)
   ·exact h.names j hj
theorem goR_all {g : GramG} {r : RuleG} (hr : r ∈ g.rules) {i : Nat} (hi : r.left = (i : Int)) (hrch : ReachN g i) : ∀ (l : List Int), (∀ y ∈ l, y ∈ r.right ∧ -(g.terms.length : Int) ≤ y ∧ y < (g.names.length : Int)) → ∀ (s : List Bool × List Bool) (m : Bool), InvR g s →
  InvR g (goR l (s, m)).1 ∧ belowM s.1 (goR l (s, m)).1.1 ∧ belowM s.2 (goR l (s, m)).1.2 ∧ (m = true → (goR l (s, m)).2 = true) ∧ ((goR l (s, m)).2 = true → m = true ∨ marks s.1 < marks (goR l (s, m)).1.1) ∧
  ((goR l (s, m)).2 = false → (goR l (s, m)).1.1 = s.1) ∧ (∀ y ∈ l, y < 0 → marked (goR l (s, m)).1.2 (-1 - y).toNat) ∧ (∀ y ∈ l, 0 ≤ y → marked (goR l (s, m)).1.1 y.toNat)
 | [], _, s, m, h => ⟨h, belowM.refl _, belowM.refl _, id, .inl, fun _ => rfl, fun y hy => by simp at hy, fun y hy => by simp at hy⟩
 | y :: l, hl, s, m, h => by
   obtain ⟨a1, a2, a3, a4, a5, a6, a7⟩ := goR1_step (m := m) h hr hi hrch (hl y (by simp)).1 (hl y (by simp)).2
   obtain ⟨b1, b2, b3, b4, b5, b6, b7, b8⟩ := goR_all hr hi hrch l (fun z hz => hl z (by simp [hz])) (goR1 (s, m) y).1 (goR1 (s, m) y).2 a1
   have e : goR (y :: l) (s, m) = goR l ((goR1 (s, m) y).1, (goR1 (s, m) y).2) := rfl
   rw [e]
   refine ⟨b1, a2.trans b2, a3.trans b3, fun q => b4 (a4 q), fun q => ?_, fun q => ?_, fun z hz h0 => ?_, fun z hz h0 => ?_⟩
   ·have := (below_marks a2).1
    have := (below_marks b2).1
    rcases b5 q with q | q
    ·rcases a5 q with q | q
     ·exact .inl q
     ·right; omega
    ·right; omega
   ·have h1 := b6 q
    have h2 : (goR1 (s, m) y).2 = false := by
     cases q2 : (goR1 (s, m) y).2 with
     | false => rfl
     | true => have := b4 q2; rw [this] at q; cases q
    exact h1.trans (a6 h2)
   ·rcases List.mem_cons.1 hz with rfl | hz
    ·exact b3.2 _ (a7 h0)
    ·exact b7 z hz h0
   ·rcases List.mem_cons.1 hz with rfl | hz
    ·refine b2.2 _ ?_
     unfold goR1
     rw [if_neg (by omega)]
     split
     ·next q => exact marked_getD.1 q
     ·exact set_marked (by rw [h.len]; have := (hl z (by simp)).2.2; omega)
    ·exact b8 z hz h0
theorem stepR_all {g : GramG} (hv : ValidG g) {s : List Bool × List Bool} (h : InvR g s) {r : RuleG} (hr : r ∈ g.rules) :
  InvR g (stepR s r).1 ∧ belowM s.1 (stepR s r).1.1 ∧ belowM s.2 (stepR s r).1.2 ∧ ((stepR s r).2 = true → marks s.1 < marks (stepR s r).1.1) ∧ ((stepR s r).2 = false → (stepR s r).1.1 = s.1) ∧
  (marked s.1 r.left.toNat → (∀ y ∈ r.right, y < 0 → marked (stepR s r).1.2 (-1 - y).toNat) ∧ ∀ y ∈ r.right, 0 ≤ y → marked (stepR s r).1.1 y.toNat) := by
 have hb := hv.rules r hr
 unfold stepR
 by_cases hm : marked s.1 r.left.toNat
 ·rw [if_pos (marked_getD.2 hm)]
  have hrch := h.names _ hm
  obtain ⟨b1, b2, b3, -, b5, b6, b7, b8⟩ := goR_all hr (i := r.left.toNat) (by omega) hrch r.right (fun y hy => ⟨hy, hb.2.2.2 y hy⟩) s false h
  exact ⟨b1, b2, b3, fun q => (b5 q).elim (fun e => by cases e) id, b6, fun _ => ⟨b7, b8⟩⟩
 ·rw [if_neg (fun q => hm (marked_getD.1 q))]
  exact ⟨h, belowM.refl _, belowM.refl _, fun q => (by cases q), fun _ => rfl, fun q => (hm q).elim⟩
theorem roundR_all {g : GramG} (hv : ValidG g) : ∀ (l : List RuleG), (∀ r ∈ l, r ∈ g.rules) → ∀ (s : List Bool × List Bool) (m : Bool), InvR g s →
  InvR g (roundF stepR l (s, m)).1 ∧ belowM s.1 (roundF stepR l (s, m)).1.1 ∧ belowM s.2 (roundF stepR l (s, m)).1.2 ∧ ((roundF stepR l (s, m)).2 = true → m = true ∨ marks s.1 < marks (roundF stepR l (s, m)).1.1) ∧
  ((roundF stepR l (s, m)).2 = false → m = false ∧ (roundF stepR l (s, m)).1.1 = s.1 ∧ ∀ r ∈ l, marked s.1 r.left.toNat → (∀ y ∈ r.right, y < 0 → marked (roundF stepR l (s, m)).1.2 (-1 - y).toNat) ∧ ∀ y ∈ r.right, 0 ≤ y → marked s.1 y.toNat)
 | [], _, s, m, h => ⟨h, belowM.refl _, belowM.refl _, .inl, fun q => ⟨q, rfl, fun r hr => by simp at hr⟩⟩
 | x :: l, hl, s, m, h => by
   obtain ⟨a1, a2, a3, a4, a5, a6⟩ := stepR_all hv h (hl x (by simp))
   obtain ⟨b1, b2, b3, b4, b5⟩ := roundR_all hv l (fun r hr => hl r (by simp [hr])) (stepR s x).1 (m || (stepR s x).2) a1
   have e : roundF stepR (x :: l) (s, m) = roundF stepR l ((stepR s x).1, m || (stepR s x).2) := rfl
   rw [e]
   refine ⟨b1, a2.trans b2, a3.trans b3, fun q => ?_, fun q => ?_⟩
   ·have := (below_marks a2).1
    have := (below_marks b2).1
    rcases b4 q with q | q
    ·simp only [Bool.or_eq_true] at q
     rcases q with q | q
     ·exact .inl q
     ·have := a4 q
      right; omega
    ·right; omega
   ·obtain ⟨c1, c2, c3⟩ := b5 q
    simp only [Bool.or_eq_false_iff] at c1
    have hx := a5 c1.2
    refine ⟨c1.1, c2.trans hx, fun r hr hm => ?_⟩
    rcases List.mem_cons.1 hr with rfl | hr
    ·obtain ⟨d1, d2⟩ := a6 hm
     exact ⟨fun y hy h0 => b3.2 _ (d1 y hy h0), fun y hy h0 => by have := d2 y hy h0; rwa [hx] at this⟩
    ·have := c3 r hr (by rw [hx]; exact hm)
     rw [hx] at this
     exact this
theorem used_marked {g : GramG} {t : Nat} (ht : t < g.terms.length) : marked (usedL g) t ↔ UsedG g t := by
 unfold marked usedL
 rw [List.getElem?_map, List.getElem?_range ht]
 simp only [Option.map_some, Option.some.injEq]
 exact ⟨of_boolOf, boolOf_true⟩
theorem reach_marked {g : GramG} {i : Nat} (hi : i < g.names.length) : marked (reachL g) i ↔ ReachN g i := by
 unfold marked reachL
 rw [List.getElem?_map, List.getElem?_range hi]
 simp only [Option.map_some, Option.some.injEq]
 exact ⟨of_boolOf, boolOf_true⟩
theorem marked_in {o : List Bool} {i : Nat} (h : marked o i) : i < o.length := by
 unfold marked at h
 exact (List.getElem?_eq_some_iff.1 h).1
theorem propR_final {g : GramG} (hv : ValidG g) : ∀ (n : Nat) (s : List Bool × List Bool), InvR g s → marked s.1 0 → g.names.length < marks s.1 + n → propF stepR g.rules n s = (reachL g, usedL g)
 | 0, s, h, _, hn => by have := marks_le s.1; rw [h.len] at this; omega
 | n + 1, s, h, h0, hn => by
   obtain ⟨b1, b2, b3, b4, b5⟩ := roundR_all hv g.rules (fun _ h => h) s false h
   rw [propF]
   by_cases hm : (roundF stepR g.rules (s, false)).2 = true
   ·rw [if_pos hm]
    rcases b4 hm with q | q
    ·cases q
    ·exact propR_final hv n _ b1 (b2.2 0 h0) (by omega)
   ·rw [if_neg hm]
    obtain ⟨-, c2, c3⟩ := b5 (by simpa using hm)
    have hcl : ∀ i, ReachN g i → marked s.1 i := by
     intro i hi
     induction hi with
     | zero => exact h0
     | step r i y hr he _ hy hp ih => exact (c3 r hr (by rw [he, Int.toNat_natCast]; exact ih)).2 y hy hp
    refine Prod.ext ?_ ?_
    ·rw [c2]
     refine marks_ext (by rw [h.len, reachL_len]) (fun i => ?_)
     by_cases hi : i < g.names.length
     ·rw [reach_marked hi]; exact ⟨h.names i, hcl i⟩
     ·exact ⟨fun q => (hi (by rw [← h.len]; exact marked_in q)).elim, fun q => (hi (by rw [← reachL_len g]; exact marked_in q)).elim⟩
    ·refine marks_ext (by rw [b1.lent, usedL_len]) (fun t => ?_)
     by_cases ht : t < g.terms.length
     ·rw [used_marked ht]
      refine ⟨b1.terms t, fun q => ?_⟩
      obtain ⟨r, hr, ⟨i, he, hi⟩, hy⟩ := q
      have := (c3 r hr (by rw [he, Int.toNat_natCast]; exact hcl i hi)).1 _ hy (by omega)
      rwa [show (-1 - (-1 - (t : Int))).toNat = t by omega] at this
     ·exact ⟨fun q => (ht (by rw [← b1.lent]; exact marked_in q)).elim, fun q => (ht (by rw [← usedL_len g]; exact marked_in q)).elim⟩
theorem reachedP_is {g : GramG} (hv : ValidG g) : reachedP g = (reachL g, usedL g) := by
 refine propR_final hv g.names.length _ ⟨by simp, by simp, fun i hi => first_sound g hi, fun t ht => (false_marked _ _ ht).elim⟩ (first_marked hv.one) ?_
 have h1 := marks_set (o := List.replicate g.names.length false) (i := 0) (by simp; exact hv.one) (false_marked _ _)
 show g.names.length < marks ((List.replicate g.names.length false).set 0 true) + g.names.length
 omega
end Go.Proofs.YtnaamjpiaekmeaaGreat
namespace Go.Proofs.YtnaamjpiaekmeaaGreat
theorem short_none {g : GramG} {i : Nat} {v : Int} (h : ShortIs g i v) : v = -1 ↔ ¬ ProdN g i := by
 rcases h with ⟨rfl, h⟩ | ⟨m, hm, rfl⟩
 ·exact ⟨fun _ => h, fun _ => rfl⟩
 ·refine ⟨fun q => by omega, fun q => ?_⟩
  obtain ⟨ρ, hr, he, hl⟩ := len_one.1 hm.1
  refine (q ?_).elim
  have key : ∀ {x : List Int} {n : Nat}, LenN g x n → ∀ s ∈ x, 0 ≤ s → ProdN g s.toNat := by
   intro x n hx
   induction hx with
   | nil => intro s hs; simp at hs
   | term s r n h0 _ ih =>
     intro u hu hu0
     rcases List.mem_cons.1 hu with rfl | hu
     ·omega
     ·exact ih u hu hu0
   | non ρ j r a n hm he _ _ ih1 ih2 =>
     intro u hu hu0
     rcases List.mem_cons.1 hu with rfl | hu
     ·exact .mk ρ _ hm (by rw [he]; simp) ih1
     ·exact ih2 u hu hu0
  exact .mk ρ i hr he (key hl)
theorem none_mem {g : GramG} (hv : ValidG g) : (-1 : Int) ∈ lensP g ↔ ¬ ∀ i, i < g.names.length → ProdN g i := by
 obtain ⟨h1, h2⟩ := lensP_short hv
 constructor
 ·intro hm q
  obtain ⟨i, hi, e⟩ := List.getElem_of_mem hm
  exact (short_none (h2 i hi)).1 e (q i (by omega))
 ·intro q
  apply Classical.byContradiction
  intro hn
  refine q (fun i hi => Classical.byContradiction fun hp => hn ?_)
  have := (short_none (h2 i (by omega))).2 hp
  rw [← this]
  exact List.getElem_mem _
theorem prodL_is {g : GramG} (hv : ValidG g) : prodL g = (lensP g).map fun v => v != -1 := by
 obtain ⟨h1, h2⟩ := lensP_short hv
 unfold prodL
 apply List.ext_getElem
 ·rw [List.length_map, List.length_map, List.length_range, h1]
 ·intro i a b
  rw [List.length_map] at b
  rw [List.getElem_map, List.getElem_map, List.getElem_range]
  have := short_none (h2 i b)
  by_cases hp : ProdN g i
  ·rw [boolOf_true hp]
   exact (bne_iff_ne.2 (fun q => this.1 q hp)).symm
  ·rw [boolOf_false hp, this.2 hp]
   rfl
theorem marks_mem {n : Nat} {p : Nat → Prop} : false ∈ ((List.range n).map fun i => boolOf (p i)) ↔ ¬ ∀ i, i < n → p i := by
 rw [List.mem_map]
 constructor
 ·rintro ⟨i, hi, e⟩ q
  rw [boolOf_true (q i (List.mem_range.1 hi))] at e
  cases e
 ·intro q
  apply Classical.byContradiction
  intro hn
  exact q (fun i hi => Classical.byContradiction fun hp => hn ⟨i, List.mem_range.2 hi, boolOf_false hp⟩)
theorem check_is {g : GramG} (hv : ValidG g) : checkG g = if (-1 : Int) ∈ lensP g then 18 else if false ∈ reachL g then 17 else if false ∈ usedL g then 17 else 0 := by
 unfold checkG
 rw [if_neg (by unfold validB; rw [boolOf_true hv]; decide)]
 by_cases h1 : (-1 : Int) ∈ lensP g
 ·rw [if_pos h1, if_pos (boolOf_false ((none_mem hv).1 h1))]
 ·have h2 : ∀ i, i < g.names.length → ProdN g i := Classical.byContradiction fun q => h1 ((none_mem hv).2 q)
  rw [if_neg h1, if_neg (by rw [boolOf_true h2]; decide)]
  by_cases h3 : false ∈ reachL g
  ·rw [if_pos h3, if_pos (boolOf_false (fun q => (marks_mem (p := fun i => ReachN g i)).1 h3 q.1))]
  ·have h4 : ∀ i, i < g.names.length → ReachN g i := Classical.byContradiction fun q => h3 ((marks_mem (p := fun i => ReachN g i)).2 q)
   rw [if_neg h3]
   by_cases h5 : false ∈ usedL g
   ·rw [if_pos h5, if_pos (boolOf_false (fun q => (marks_mem (p := fun t => UsedG g t)).1 h5 q.2))]
   ·have h6 : ∀ t, t < g.terms.length → UsedG g t := Classical.byContradiction fun q => h5 ((marks_mem (p := fun t => UsedG g t)).2 q)
    rw [if_neg h5, if_neg (by rw [boolOf_true ⟨h4, h6⟩]; decide)]
end Go.Proofs.YtnaamjpiaekmeaaGreat
namespace Go.Proofs.YtnaamjpiaekmeaaGreat
inductive DerS (g : GramG) : List Int → List UInt8 → Prop
 | nil : DerS g [] []
 | term (s : Int) (b : UInt8) (ss : List Int) (x : List UInt8) : s < 0 → (b.toNat : Int) = -1 - s → DerS g ss x → DerS g (s :: ss) (b :: x)
 | nont (r : RuleG) (s : Int) (ss : List Int) (y z : List UInt8) : r ∈ g.rules → r.left = s → 0 ≤ s → DerS g r.right y → DerS g ss z → DerS g (s :: ss) (y ++ z)
theorem DerS.nil_iff {g : GramG} {x : List UInt8} : DerS g [] x ↔ x = [] := by
 constructor
 ·intro h; cases h; rfl
 ·rintro rfl; exact .nil
theorem DerS.cons_iff {g : GramG} {s : Int} {ss : List Int} {x : List UInt8} : DerS g (s :: ss) x ↔ ∃ y z, DerS g [s] y ∧ DerS g ss z ∧ x = y ++ z := by
 constructor
 ·intro h
  cases h with
  | term _ b _ x hs hb h => exact ⟨[b], x, .term s b [] [] hs hb .nil, h, rfl⟩
  | nont r _ _ y z hr hl hs hy hz => exact ⟨y, z, by have := DerS.nont r s [] y [] hr hl hs hy .nil; simpa using this, hz, rfl⟩
 ·rintro ⟨y, z, hy, hz, rfl⟩
  cases hy with
  | term _ b _ x hs hb h =>
    rw [DerS.nil_iff] at h
    subst h
    exact .term s b ss z hs hb hz
  | nont r _ _ y z' hr hl hs hy h =>
    rw [DerS.nil_iff] at h
    subst h
    rw [List.append_nil]
    exact .nont r s ss y z hr hl hs hy hz
theorem DerS.app_iff {g : GramG} {a b : List Int} {x : List UInt8} : DerS g (a ++ b) x ↔ ∃ y z, DerS g a y ∧ DerS g b z ∧ x = y ++ z := by
 induction a generalizing x with
 | nil => simp [DerS.nil_iff]
 | cons s a ih =>
   rw [List.cons_append, DerS.cons_iff]
   constructor
   ·rintro ⟨y, z, hy, hz, rfl⟩
    obtain ⟨p, q, hp, hq, rfl⟩ := ih.1 hz
    exact ⟨y ++ p, q, DerS.cons_iff.2 ⟨y, p, hy, hp, rfl⟩, hq, by simp⟩
   ·rintro ⟨y, z, hy, hz, rfl⟩
    obtain ⟨p, q, hp, hq, rfl⟩ := DerS.cons_iff.1 hy
    exact ⟨p, q ++ z, hp, ih.2 ⟨q, z, hq, hz, rfl⟩, by simp⟩
theorem DerS.term_iff {g : GramG} {s : Int} (hs : s < 0) {x : List UInt8} : DerS g [s] x ↔ ∃ b : UInt8, (b.toNat : Int) = -1 - s ∧ x = [b] := by
 constructor
 ·intro h
  cases h with
  | term _ b _ x _ hb h => rw [DerS.nil_iff] at h; exact ⟨b, hb, by rw [h]⟩
  | nont r _ _ y z hr hl h0 hy hz => omega
 ·rintro ⟨b, hb, rfl⟩
  exact .term s b [] [] hs hb .nil
theorem DerS.nont_iff {g : GramG} {s : Int} (hs : 0 ≤ s) {x : List UInt8} : DerS g [s] x ↔ ∃ r ∈ g.rules, r.left = s ∧ DerS g r.right x := by
 constructor
 ·intro h
  cases h with
  | term _ b _ x h0 hb h => omega
  | nont r _ _ y z hr hl h0 hy hz => rw [DerS.nil_iff] at hz; subst hz; exact ⟨r, hr, hl, by rwa [List.append_nil]⟩
 ·rintro ⟨r, hr, hl, h⟩
  have := DerS.nont r s [] x [] hr hl hs h .nil
  rwa [List.append_nil] at this
def partW (w : List UInt8) (p q : Nat) : List UInt8 := (w.take q).drop p
theorem partW_len {w : List UInt8} {p q : Nat} (hq : q ≤ w.length) : (partW w p q).length = q - p := by
 unfold partW
 rw [List.length_drop, List.length_take]
 omega
theorem partW_self (w : List UInt8) (p : Nat) : partW w p p = [] := by unfold partW; exact List.drop_eq_nil_of_le (by rw [List.length_take]; omega)
theorem partW_app {w : List UInt8} {p q r : Nat} (h1 : p ≤ q) (h2 : q ≤ r) (h3 : r ≤ w.length) : partW w p q ++ partW w q r = partW w p r := by
 apply List.ext_getElem?
 intro i
 unfold partW
 rw [List.getElem?_append]
 simp only [List.length_drop, List.length_take, List.getElem?_drop, List.getElem?_take]
 by_cases c : i < min q w.length - p
 ·rw [if_pos c, if_pos (by omega), if_pos (by omega)]
 ·rw [if_neg c]
  by_cases d : q + (i - (min q w.length - p)) < r
  ·rw [if_pos d, if_pos (by omega)]
   congr 1
   omega
  ·rw [if_neg d, if_neg (by omega)]
theorem partW_one {w : List UInt8} {p : Nat} (h : p < w.length) : partW w p (p + 1) = [w[p]'h] := by
 apply List.ext_getElem?
 intro i
 unfold partW
 simp only [List.getElem?_drop, List.getElem?_take]
 cases i with
 | zero => simp [h]
 | succ i => simp
theorem partW_all (w : List UInt8) (p : Nat) : partW w p w.length = w.drop p := by unfold partW; rw [List.take_length]
theorem partW_drop {w : List UInt8} {p q : Nat} (h1 : p ≤ q) (h2 : q ≤ w.length) : w.drop p = partW w p q ++ w.drop q := by
 rw [← partW_all w p, ← partW_all w q, partW_app h1 h2 (Nat.le_refl _)]
theorem partW_of {w : List UInt8} {p q : Nat} {x y : List UInt8} (hq : q ≤ w.length) (h1 : p ≤ q) (h : partW w p q = x ++ y) : partW w p (p + x.length) = x ∧ partW w (p + x.length) q = y := by
 have hl := congrArg List.length h
 rw [partW_len hq, List.length_append] at hl
 have e := partW_app (w := w) (p := p) (q := p + x.length) (r := q) (by omega) (by omega) hq
 rw [h] at e
 exact List.append_inj e (by rw [partW_len (by omega)]; omega)
abbrev TabT := Int → Nat → Nat → Bool
abbrev TabF := Int → Nat → Bool
def hitB (T : TabT) (w : List UInt8) (s : Int) (p q : Nat) : Bool :=
 if s < 0 then decide (q = p + 1) && (decide (p < w.length) && decide (((w.getD p 0).toNat : Int) = -1 - s)) else decide (p ≤ q) && T s p q
def atB (l : List Bool) (i : Nat) : Bool := l.getD i false
def mvB (T : TabT) (w : List UInt8) (s : Int) (now : List Bool) : List Bool :=
 (List.range (w.length + 1)).map fun q => (List.range (w.length + 1)).any fun p => atB now p && hitB T w s p q
def endsB (T : TabT) (w : List UInt8) : List Int → List Bool → List Bool
 | [], now => now
 | s :: ss, now => endsB T w ss (mvB T w s now)
def unitB (w : List UInt8) (p : Nat) : List Bool := (List.range (w.length + 1)).map fun i => decide (i = p)
def begB (T : TabT) (F : TabF) (w : List UInt8) : List Int → List Bool → Bool
 | [], now => atB now w.length
 | s :: ss, now => atB now w.length || ((decide (0 ≤ s) && (List.range (w.length + 1)).any fun p => atB now p && F s p) || begB T F w ss (mvB T w s now))
theorem at_map {f : Nat → Bool} {n q : Nat} : atB ((List.range n).map f) q = (decide (q < n) && f q) := by
 unfold atB
 rw [List.getD_eq_getElem?_getD, List.getElem?_map]
 by_cases h : q < n
 ·rw [List.getElem?_range h]; simp [h]
 ·rw [List.getElem?_eq_none (by simpa using h)]; simp [h]
theorem at_mv {T : TabT} {w : List UInt8} {s : Int} {now : List Bool} {q : Nat} : atB (mvB T w s now) q = true ↔ q ≤ w.length ∧ ∃ p, p ≤ w.length ∧ atB now p = true ∧ hitB T w s p q = true := by
 unfold mvB
 rw [at_map, Bool.and_eq_true, decide_eq_true_eq, List.any_eq_true]
 constructor
 ·rintro ⟨h1, p, hp, h⟩
  rw [Bool.and_eq_true] at h
  rw [List.mem_range] at hp
  exact ⟨by omega, p, by omega, h.1, h.2⟩
 ·rintro ⟨h1, p, hp, h2, h3⟩
  exact ⟨by omega, p, List.mem_range.2 (by omega), by rw [Bool.and_eq_true]; exact ⟨h2, h3⟩⟩
theorem at_unit {w : List UInt8} {p q : Nat} : atB (unitB w p) q = true ↔ q ≤ w.length ∧ q = p := by
 unfold unitB
 rw [at_map, Bool.and_eq_true, decide_eq_true_eq, decide_eq_true_eq]
 constructor
 ·rintro ⟨a, b⟩; exact ⟨by omega, b⟩
 ·rintro ⟨a, b⟩; exact ⟨by omega, b⟩
theorem hit_term {T : TabT} {w : List UInt8} {s : Int} {p q : Nat} (hs : s < 0) : hitB T w s p q = true ↔ q = p + 1 ∧ ∃ h : p < w.length, (((w[p]'h).toNat : Nat) : Int) = -1 - s := by
 unfold hitB
 rw [if_pos hs]
 simp only [Bool.and_eq_true, decide_eq_true_eq]
 constructor
 ·rintro ⟨a, b, c⟩
  refine ⟨a, b, ?_⟩
  rwa [List.getD_eq_getElem?_getD, List.getElem?_eq_getElem b, Option.getD_some] at c
 ·rintro ⟨a, b, c⟩
  refine ⟨a, b, ?_⟩
  rwa [List.getD_eq_getElem?_getD, List.getElem?_eq_getElem b, Option.getD_some]
theorem hit_nont {T : TabT} {w : List UInt8} {s : Int} {p q : Nat} (hs : ¬ s < 0) : hitB T w s p q = true ↔ p ≤ q ∧ T s p q = true := by
 unfold hitB
 rw [if_neg hs]
 simp only [Bool.and_eq_true, decide_eq_true_eq]
def SoundT (g : GramG) (w : List UInt8) (T : TabT) : Prop := ∀ s p q, 0 ≤ s → p ≤ q → q ≤ w.length → T s p q = true → DerS g [s] (partW w p q)
def SoundF (g : GramG) (w : List UInt8) (F : TabF) : Prop := ∀ s p, 0 ≤ s → p ≤ w.length → F s p = true → ∃ x, DerS g [s] x ∧ w.drop p <+: x
structure ClosedT (g : GramG) (w : List UInt8) (T : TabT) (F : TabF) : Prop where
 ends : ∀ r ∈ g.rules, ∀ p q, p ≤ w.length → q ≤ w.length → atB (endsB T w r.right (unitB w p)) q = true → T r.left p q = true
 begs : ∀ r ∈ g.rules, ∀ p, p ≤ w.length → begB T F w r.right (unitB w p) = true → F r.left p = true
theorem hit_sound {g : GramG} {w : List UInt8} {T : TabT} (h : SoundT g w T) {s : Int} {p q : Nat} (hq : q ≤ w.length) (hh : hitB T w s p q = true) : p ≤ q ∧ DerS g [s] (partW w p q) := by
 by_cases hs : s < 0
 ·obtain ⟨rfl, hp, hb⟩ := (hit_term hs).1 hh
  rw [partW_one hp]
  exact ⟨by omega, (DerS.term_iff hs).2 ⟨_, hb, rfl⟩⟩
 ·obtain ⟨h1, h2⟩ := (hit_nont hs).1 hh
  exact ⟨h1, h s p q (by omega) h1 hq h2⟩
theorem ends_sound {g : GramG} {w : List UInt8} {T : TabT} (h : SoundT g w T) : ∀ (ss : List Int) (now : List Bool) (q : Nat), q ≤ w.length → atB (endsB T w ss now) q = true → ∃ p, p ≤ q ∧ atB now p = true ∧ DerS g ss (partW w p q)
 | [], now, q, _, hh => ⟨q, Nat.le_refl _, hh, by rw [partW_self]; exact .nil⟩
 | s :: ss, now, q, hq, hh => by
   obtain ⟨m, hm, h1, h2⟩ := ends_sound h ss (mvB T w s now) q hq hh
   obtain ⟨hmn, p, hp, h3, h4⟩ := at_mv.1 h1
   obtain ⟨h5, h6⟩ := hit_sound h hmn h4
   exact ⟨p, by omega, h3, DerS.cons_iff.2 ⟨_, _, h6, h2, (partW_app h5 hm hq).symm⟩⟩
theorem begs_sound {g : GramG} {w : List UInt8} {T : TabT} {F : TabF} (h : SoundT g w T) (k : SoundF g w F) : ∀ (ss : List Int) (now : List Bool), (∀ s ∈ ss, ∃ x, DerS g [s] x) → begB T F w ss now = true → ∃ p, p ≤ w.length ∧ atB now p = true ∧ ∃ x, DerS g ss x ∧ w.drop p <+: x
 | [], now, _, hh => ⟨w.length, Nat.le_refl _, hh, [], .nil, by rw [List.drop_length]; exact List.prefix_rfl⟩
 | s :: ss, now, hp, hh => by
   have some : ∀ (l : List Int), (∀ s ∈ l, ∃ x, DerS g [s] x) → ∃ x, DerS g l x := by
    intro l
    induction l with
    | nil => exact fun _ => ⟨[], .nil⟩
    | cons a l ih =>
      intro hl
      obtain ⟨x, hx⟩ := hl a (by simp)
      obtain ⟨y, hy⟩ := ih (fun s hs => hl s (by simp [hs]))
      exact ⟨x ++ y, DerS.cons_iff.2 ⟨x, y, hx, hy, rfl⟩⟩
   unfold begB at hh
   simp only [Bool.or_eq_true] at hh
   rcases hh with hh | hh | hh
   ·obtain ⟨x, hx⟩ := some (s :: ss) hp
    exact ⟨w.length, Nat.le_refl _, hh, x, hx, by rw [List.drop_length]; exact List.nil_prefix⟩
   ·simp only [Bool.and_eq_true, decide_eq_true_eq, List.any_eq_true, List.mem_range] at hh
    obtain ⟨hs, p, hpn, h1, h2⟩ := hh
    obtain ⟨x, hx, hpre⟩ := k s p hs (by omega) h2
    obtain ⟨y, hy⟩ := some ss (fun s hs => hp s (by simp [hs]))
    exact ⟨p, by omega, h1, x ++ y, DerS.cons_iff.2 ⟨x, y, hx, hy, rfl⟩, hpre.trans (List.prefix_append _ _)⟩
   ·obtain ⟨q, hq, h1, x, hx, hpre⟩ := begs_sound h k ss (mvB T w s now) (fun s hs => hp s (by simp [hs])) hh
    obtain ⟨hqn, p, hpn, h3, h4⟩ := at_mv.1 h1
    obtain ⟨h5, h6⟩ := hit_sound h hqn h4
    refine ⟨p, hpn, h3, partW w p q ++ x, DerS.cons_iff.2 ⟨_, _, h6, hx, rfl⟩, ?_⟩
    rw [partW_drop h5 hqn]
    exact (List.prefix_append_right_inj _).2 hpre
theorem ends_complete {g : GramG} {w : List UInt8} {T : TabT} {F : TabF} (h : ClosedT g w T F) {ss : List Int} {x : List UInt8} (hd : DerS g ss x) :
  ∀ (now : List Bool) (p q : Nat), p ≤ q → q ≤ w.length → atB now p = true → partW w p q = x → atB (endsB T w ss now) q = true := by
 induction hd with
 | nil =>
   intro now p q hpq hq hn hx
   have := congrArg List.length hx
   rw [partW_len hq] at this
   simp at this
   obtain rfl : p = q := by omega
   exact hn
 | term s b ss x hs hb _ ih =>
   intro now p q hpq hq hn hx
   obtain ⟨h1, h2⟩ := partW_of (x := [b]) hq hpq hx
   have hl := congrArg List.length hx
   rw [partW_len hq, List.length_cons] at hl
   have hp : p < w.length := by omega
   simp only [List.length_singleton] at h1 h2
   rw [partW_one hp] at h1
   simp only [List.cons.injEq, and_true] at h1
   refine ih (mvB T w s now) (p + 1) q (by omega) hq ?_ h2
   exact at_mv.2 ⟨by omega, p, by omega, hn, (hit_term hs).2 ⟨rfl, hp, by rw [h1]; exact hb⟩⟩
 | nont r s ss y z hr hl hs _ _ ih1 ih2 =>
   intro now p q hpq hq hn hx
   obtain ⟨h1, h2⟩ := partW_of hq hpq hx
   have hlen := congrArg List.length hx
   rw [partW_len hq, List.length_append] at hlen
   have e1 := ih1 (unitB w p) p (p + y.length) (by omega) (by omega) (at_unit.2 ⟨by omega, rfl⟩) h1
   have e2 := h.ends r hr p (p + y.length) (by omega) (by omega) e1
   rw [hl] at e2
   refine ih2 (mvB T w s now) (p + y.length) q (by omega) hq ?_ h2
   exact at_mv.2 ⟨by omega, p, by omega, hn, (hit_nont (by omega)).2 ⟨by omega, e2⟩⟩
theorem begs_end {T : TabT} {F : TabF} {w : List UInt8} (ss : List Int) {now : List Bool} (h : atB now w.length = true) : begB T F w ss now = true := by
 cases ss with
 | nil => exact h
 | cons s ss => unfold begB; rw [h]; rfl
theorem begs_complete {g : GramG} {w : List UInt8} {T : TabT} {F : TabF} (h : ClosedT g w T F) {ss : List Int} {x : List UInt8} (hd : DerS g ss x) :
  ∀ (now : List Bool) (p : Nat), p ≤ w.length → atB now p = true → w.drop p <+: x → begB T F w ss now = true := by
 induction hd with
 | nil =>
   intro now p hp hn hx
   have := List.prefix_nil.1 hx
   have hl := congrArg List.length this
   rw [List.length_drop] at hl
   simp at hl
   obtain rfl : p = w.length := by omega
   exact hn
 | term s b ss x hs hb _ ih =>
   intro now p hp hn hx
   by_cases e : p = w.length
   ·subst e; exact begs_end _ hn
   ·have hp' : p < w.length := by omega
    rw [List.drop_eq_getElem_cons hp'] at hx
    obtain ⟨h1, h2⟩ := List.cons_prefix_cons.1 hx
    have hmv := ih (mvB T w s now) (p + 1) (by omega) (at_mv.2 ⟨by omega, p, by omega, hn, (hit_term hs).2 ⟨rfl, hp', by rw [h1]; exact hb⟩⟩) h2
    unfold begB
    rw [hmv]
    simp
 | nont r s ss y z hr hl hs hy _ ih1 ih2 =>
   intro now p hp hn hx
   by_cases c : w.length - p ≤ y.length
   ·have hpre : w.drop p <+: y := List.prefix_of_prefix_length_le hx (List.prefix_append _ _) (by rw [List.length_drop]; exact c)
    have e1 := ih1 (unitB w p) p hp (at_unit.2 ⟨hp, rfl⟩) hpre
    have e2 := h.begs r hr p hp e1
    rw [hl] at e2
    unfold begB
    have : (List.range (w.length + 1)).any (fun p => atB now p && F s p) = true := List.any_eq_true.2 ⟨p, List.mem_range.2 (by omega), by rw [hn, e2]; rfl⟩
    rw [this, decide_eq_true hs]
    simp
   ·have hpre : y <+: w.drop p := List.prefix_of_prefix_length_le (List.prefix_append _ _) hx (by rw [List.length_drop]; omega)
    have hy' : partW w p (p + y.length) = y := by
     obtain ⟨t, ht⟩ := hpre
     rw [← partW_all w p] at ht
     exact (partW_of (Nat.le_refl _) hp ht.symm).1
    have e1 := ends_complete h hy (unitB w p) p (p + y.length) (by omega) (by omega) (at_unit.2 ⟨hp, rfl⟩) hy'
    have e2 := h.ends r hr p (p + y.length) hp (by omega) e1
    rw [hl] at e2
    have hz : w.drop (p + y.length) <+: z := by
     rw [partW_drop (w := w) (p := p) (q := p + y.length) (by omega) (by omega), hy'] at hx
     exact (List.prefix_append_right_inj _).1 hx
    have hmv := ih2 (mvB T w s now) (p + y.length) (by omega) (at_mv.2 ⟨by omega, p, hp, hn, (hit_nont (by omega)).2 ⟨by omega, e2⟩⟩) hz
    unfold begB
    rw [hmv]
    simp
theorem ends_exact {g : GramG} {w : List UInt8} {T : TabT} {F : TabF} (hs : SoundT g w T) (hc : ClosedT g w T F) (ss : List Int) : atB (endsB T w ss (unitB w 0)) w.length = true ↔ DerS g ss w := by
 constructor
 ·intro h
  obtain ⟨p, hp, h1, h2⟩ := ends_sound hs ss _ _ (Nat.le_refl _) h
  obtain ⟨-, rfl⟩ := at_unit.1 h1
  rwa [partW_all, List.drop_zero] at h2
 ·intro h
  exact ends_complete hc h _ 0 _ (Nat.zero_le _) (Nat.le_refl _) (at_unit.2 ⟨Nat.zero_le _, rfl⟩) (by rw [partW_all, List.drop_zero])
theorem begs_exact {g : GramG} {w : List UInt8} {T : TabT} {F : TabF} (hs : SoundT g w T) (hf : SoundF g w F) (hc : ClosedT g w T F) (ss : List Int) (hp : ∀ s ∈ ss, ∃ x, DerS g [s] x) : begB T F w ss (unitB w 0) = true ↔ ∃ x, DerS g ss x ∧ w <+: x := by
 constructor
 ·intro h
  obtain ⟨p, hp, h1, x, hx, h2⟩ := begs_sound hs hf ss _ hp h
  obtain ⟨-, rfl⟩ := at_unit.1 h1
  exact ⟨x, hx, by rwa [List.drop_zero] at h2⟩
 ·rintro ⟨x, hx, h⟩
  exact begs_complete hc hx _ 0 (Nat.zero_le _) (at_unit.2 ⟨Nat.zero_le _, rfl⟩) (by rwa [List.drop_zero])
end Go.Proofs.YtnaamjpiaekmeaaGreat
namespace Go.Proofs.YtnaamjpiaekmeaaGreat
def firstP (g : GramG) (k : Int) (ss : List Int) (u : List UInt8) : Prop := ∃ x, DerS g ss x ∧ u = cutW x k
def IsFirst (g : GramG) (k : Int) (ss : List Int) (l : Words) : Prop := setW l ∧ ∀ u, u ∈ l ↔ firstP g k ss u
theorem IsFirst.one {g : GramG} {k : Int} {ss : List Int} {l m : Words} (h : IsFirst g k ss l) (h' : IsFirst g k ss m) : l = m := h.1.one h'.1 (fun u => (h.2 u).trans (h'.2 u).symm)
def OverP (g : GramG) (k : Int) (ss : List Int) : Prop := ∃ l : Words, l.Nodup ∧ 4096 < l.length ∧ ∀ u ∈ l, firstP g k ss u
def OverG (g : GramG) (k : Int) : Prop := (∃ i, i < g.names.length ∧ OverP g k [(i : Int)]) ∨ ∃ r ∈ g.rules, ∃ m, m ≤ r.right.length ∧ OverP g k (r.right.take m)
theorem cutW_cutW_left (x y : List UInt8) (k : Int) : cutW (cutW x k ++ y) k = cutW (x ++ y) k := by
 unfold cutW
 rw [List.take_append, List.take_append, List.take_take, List.length_take, Nat.min_self]
 congr 2
 omega
theorem cutW_cutW_right (x y : List UInt8) (k : Int) : cutW (x ++ cutW y k) k = cutW (x ++ y) k := by
 unfold cutW
 rw [List.take_append, List.take_append, List.take_take]
 congr 2
 omega
theorem cutW_both (x y : List UInt8) (k : Int) : cutW (cutW x k ++ cutW y k) k = cutW (x ++ y) k := by rw [cutW_cutW_left, cutW_cutW_right]
theorem firstP_nil {g : GramG} {k : Int} {u : List UInt8} : firstP g k [] u ↔ u = [] := by
 unfold firstP
 constructor
 ·rintro ⟨x, hx, rfl⟩
  rw [DerS.nil_iff] at hx
  subst hx
  simp [cutW]
 ·rintro rfl
  exact ⟨[], .nil, by simp [cutW]⟩
theorem firstP_app {g : GramG} {k : Int} {a b : List Int} {u : List UInt8} : firstP g k (a ++ b) u ↔ ∃ y z, firstP g k a y ∧ firstP g k b z ∧ u = cutW (y ++ z) k := by
 unfold firstP
 constructor
 ·rintro ⟨x, hx, rfl⟩
  obtain ⟨y, z, hy, hz, rfl⟩ := DerS.app_iff.1 hx
  exact ⟨_, _, ⟨y, hy, rfl⟩, ⟨z, hz, rfl⟩, (cutW_both y z k).symm⟩
 ·rintro ⟨_, _, ⟨y, hy, rfl⟩, ⟨z, hz, rfl⟩, rfl⟩
  exact ⟨y ++ z, DerS.app_iff.2 ⟨y, z, hy, hz, rfl⟩, cutW_both y z k⟩
theorem IsFirst.cat {g : GramG} {k : Int} {a b : List Int} {l m : Words} (h : IsFirst g k a l) (h' : IsFirst g k b m) : IsFirst g k (a ++ b) (catW k l m) := by
 refine ⟨set_catW _ _ _, fun u => ?_⟩
 rw [mem_catW, firstP_app]
 constructor
 ·rintro ⟨x, hx, y, hy, rfl⟩
  exact ⟨x, y, (h.2 x).1 hx, (h'.2 y).1 hy, rfl⟩
 ·rintro ⟨x, y, hx, hy, rfl⟩
  exact ⟨x, (h.2 x).2 hx, y, (h'.2 y).2 hy, rfl⟩
theorem isFirst_nil (g : GramG) (k : Int) : IsFirst g k [] [[]] := by
 refine ⟨by unfold setW; simp, fun u => ?_⟩
 rw [firstP_nil]
 simp
theorem OverP.iff {g : GramG} {k : Int} {ss : List Int} {l : Words} (h : IsFirst g k ss l) : OverP g k ss ↔ 4096 < l.length := by
 constructor
 ·rintro ⟨m, hn, hl, hm⟩
  have := nodup_le m l hn (fun x hx => (h.2 x).2 (hm x hx))
  omega
 ·intro hl
  exact ⟨l, h.1.nodup, hl, fun u hu => (h.2 u).1 hu⟩
def firstB (T : TabT) (F : TabF) (w : List UInt8) (k : Int) (ss : List Int) : Bool :=
 if (w.length : Int) = k then begB T F w ss (unitB w 0) else decide ((w.length : Int) < k) && atB (endsB T w ss (unitB w 0)) w.length
theorem firstB_iff {g : GramG} {w : List UInt8} {T : TabT} {F : TabF} (hs : SoundT g w T) (hf : SoundF g w F) (hc : ClosedT g w T F) {k : Int} (hk : (w.length : Int) ≤ k) (ss : List Int) (hp : ∀ s ∈ ss, ∃ x, DerS g [s] x) :
  firstB T F w k ss = true ↔ firstP g k ss w := by
 unfold firstB
 by_cases e : (w.length : Int) = k
 ·rw [if_pos e, begs_exact hs hf hc ss hp]
  unfold firstP
  constructor
  ·rintro ⟨x, hx, h⟩
   refine ⟨x, hx, ?_⟩
   unfold cutW
   rw [← e, Int.toNat_natCast]
   exact List.prefix_iff_eq_take.1 h
  ·rintro ⟨x, hx, h⟩
   refine ⟨x, hx, ?_⟩
   rw [h]
   exact List.take_prefix _ _
 ·rw [if_neg e, Bool.and_eq_true, decide_eq_true_eq, ends_exact hs hc]
  unfold firstP
  constructor
  ·rintro ⟨h1, h2⟩
   refine ⟨w, h2, ?_⟩
   unfold cutW
   rw [List.take_of_length_le (by omega)]
  ·rintro ⟨x, hx, h⟩
   refine ⟨by omega, ?_⟩
   have hl := congrArg List.length h
   unfold cutW at hl h
   rw [List.length_take] at hl
   rw [List.take_of_length_le (by omega)] at h
   rw [h]; exact hx
theorem ders_below {g : GramG} {t : Nat} (hg : ∀ r ∈ g.rules, ∀ s ∈ r.right, -(t : Int) ≤ s) {ss : List Int} {x : List UInt8} (h : DerS g ss x) : (∀ s ∈ ss, -(t : Int) ≤ s) → ∀ b ∈ x, b.toNat < t := by
 induction h with
 | nil => intro _ b hb; simp at hb
 | term s c ss x hs hc _ ih =>
   intro hss b hb
   rcases List.mem_cons.1 hb with rfl | hb
   ·have := hss s (by simp); omega
   ·exact ih (fun s hs => hss s (by simp [hs])) b hb
 | nont r s ss y z hr _ _ _ _ ih1 ih2 =>
   intro hss b hb
   rcases List.mem_append.1 hb with hb | hb
   ·exact ih1 (hg r hr) b hb
   ·exact ih2 (fun s hs => hss s (by simp [hs])) b hb
theorem firstP_below {g : GramG} {t : Nat} (hg : ∀ r ∈ g.rules, ∀ s ∈ r.right, -(t : Int) ≤ s) {k : Int} {ss : List Int} {u : List UInt8} (h : firstP g k ss u) (hss : ∀ s ∈ ss, -(t : Int) ≤ s) : (∀ b ∈ u, b.toNat < t) ∧ u.length ≤ k.toNat := by
 obtain ⟨x, hx, rfl⟩ := h
 refine ⟨fun b hb => ders_below hg hx hss b (List.mem_of_mem_take hb), ?_⟩
 unfold cutW
 rw [List.length_take]
 omega
theorem prod_ders {g : GramG} (hg : ∀ r ∈ g.rules, ∀ s ∈ r.right, -256 ≤ s) {i : Nat} (h : ProdN g i) : ∃ x, DerS g [(i : Int)] x := by
 induction h with
 | mk r i hr hl _ ih =>
   have key : ∀ l : List Int, (∀ s ∈ l, s ∈ r.right) → ∃ x, DerS g l x := by
    intro l
    induction l with
    | nil => exact fun _ => ⟨[], .nil⟩
    | cons s l ihl =>
      intro hs
      obtain ⟨y, hy⟩ := ihl (fun t ht => hs t (by simp [ht]))
      have hsr := hs s (by simp)
      by_cases h0 : 0 ≤ s
      ·obtain ⟨x, hx⟩ := ih s hsr h0
       rw [Int.toNat_of_nonneg h0] at hx
       exact ⟨x ++ y, DerS.cons_iff.2 ⟨x, y, hx, hy, rfl⟩⟩
      ·have h1 := hg r hr s hsr
       have hb : (((UInt8.ofNat (-1 - s).toNat).toNat : Nat) : Int) = -1 - s := by
        rw [UInt8.toNat_ofNat_of_lt' (by show (-1 - s).toNat < 256; omega)]; omega
       exact ⟨_, .term s _ l y (by omega) hb hy⟩
   obtain ⟨x, hx⟩ := key r.right (fun s hs => hs)
   exact ⟨x, (DerS.nont_iff (by omega)).2 ⟨r, hr, hl, hx⟩⟩
theorem wordsW_sorted (t : Nat) : ∀ j, (∀ i i', i ≤ i' → i' < (wordsW t j).length → (wordW t j i).length ≤ (wordW t j i').length) ∧ (j < (wordsW t j).length → ∀ i, i < (wordsW t j).length → (wordW t j i).length ≤ (wordW t j j).length + 1)
 | 0 => by
   constructor
   ·intro i i' h1 h2; simp [wordsW] at h2; subst h2; obtain rfl : i = 0 := by omega
    exact Nat.le_refl _
   ·intro _ i hi; simp [wordsW] at hi; subst hi; omega
 | j + 1 => by
   obtain ⟨h1, h2⟩ := wordsW_sorted t j
   have hnew : ∀ i, (wordsW t j).length ≤ i → i < (wordsW t (j + 1)).length → (wordW t (j + 1) i).length = (wordW t j j).length + 1 := by
    intro i hi hi2
    unfold wordW
    rw [List.getD_eq_getElem?_getD, List.getElem?_eq_getElem hi2, Option.getD_some]
    simp only [wordsW]
    rw [List.getElem_append_right (by omega)]
    simp only [extW, List.getElem_map, List.length_append]
    rfl
   have hold : ∀ i, i < (wordsW t j).length → wordW t (j + 1) i = wordW t j i := fun i hi => wordW_pre t (Nat.le_succ j) hi
   have hlenle : (wordsW t j).length ≤ (wordsW t (j + 1)).length := by rw [wordsW_len, wordsW_len, Nat.succ_mul]; omega
   have hgrow : (wordsW t j).length < (wordsW t (j + 1)).length → j < (wordsW t j).length := by
    intro hlt
    rw [wordsW_len, wordsW_len, Nat.succ_mul] at hlt
    rw [wordsW_len]
    have : 0 < t := by omega
    have := Nat.le_mul_of_pos_right j this
    omega
   have A : ∀ i i', i ≤ i' → i' < (wordsW t (j + 1)).length → (wordW t (j + 1) i).length ≤ (wordW t (j + 1) i').length := by
    intro i i' hi hi'
    by_cases c : i' < (wordsW t j).length
    ·rw [hold i (by omega), hold i' c]; exact h1 i i' hi c
    ·rw [hnew i' (by omega) hi']
     by_cases d : i < (wordsW t j).length
     ·rw [hold i d]; exact h2 (hgrow (by omega)) i d
     ·rw [hnew i (by omega) (by omega)]; exact Nat.le_refl _
   refine ⟨A, fun hj i hi => ?_⟩
   by_cases c : j + 1 < (wordsW t j).length
   ·have a := A 0 (j + 1) (Nat.zero_le _) hj
    have b : (wordW t j j).length ≤ (wordW t (j + 1) (j + 1)).length := by rw [hold _ c]; exact h1 j (j + 1) (Nat.le_succ j) c
    by_cases d : i < (wordsW t j).length
    ·rw [hold i d]; have := h2 (by omega) i d; omega
    ·rw [hnew i (by omega) hi]; omega
   ·have b := hnew (j + 1) (by omega) hj
    by_cases d : i < (wordsW t j).length
    ·rw [hold i d]; have := h2 (hgrow (by omega)) i d; omega
    ·rw [hnew i (by omega) hi]; omega
theorem mem_wordsW_mono {t i j : Nat} (h : i ≤ j) {x : List UInt8} (hx : x ∈ wordsW t i) : x ∈ wordsW t j := by
 obtain ⟨s, hs⟩ := wordsW_pre t h
 rw [hs]; exact List.mem_append_left _ hx
theorem wordsW_has {t k j : Nat} (hn : ¬ goesW t k j) : ∀ (m : Nat) (u : List UInt8), u.length = m → m ≤ k → (∀ b ∈ u, b.toNat < t) → u ∈ wordsW t j
 | 0, u, hu, _, _ => by
   obtain rfl : u = [] := List.eq_nil_of_length_eq_zero hu
   exact mem_wordsW_mono (Nat.zero_le j) (by simp [wordsW])
 | m + 1, u, hu, hk, hb => by
   have hne : u ≠ [] := by intro e; rw [e] at hu; simp at hu
   have e := List.dropLast_concat_getLast hne
   have hv := wordsW_has hn m u.dropLast (by rw [List.length_dropLast]; omega) (by omega) (fun b h => hb b ((List.dropLast_prefix u).subset h))
   obtain ⟨i, hi, hi2⟩ := List.getElem_of_mem hv
   have hw : wordW t j i = u.dropLast := by unfold wordW; rw [List.getD_eq_getElem?_getD, List.getElem?_eq_getElem hi]; exact hi2
   have hij : i < j := by
    apply Classical.byContradiction
    intro hge
    have hjl : j < (wordsW t j).length := by omega
    have h1 := (wordsW_sorted t j).1 j i (by omega) hi
    rw [hw, List.length_dropLast] at h1
    exact hn ⟨hjl, by omega⟩
   have hij2 : i < (wordsW t i).length := by
    apply Classical.byContradiction
    intro hge
    rw [wordsW_len] at hge hi
    rcases Nat.eq_zero_or_pos t with h0 | h0
    ·subst h0; omega
    ·have := Nat.le_mul_of_pos_right i h0
     omega
   refine mem_wordsW_mono (show i + 1 ≤ j from hij) ?_
   have hwi : (wordsW t i).getD i [] = u.dropLast := by
    have := wordW_pre t (Nat.le_of_lt hij) hij2
    rw [hw] at this
    exact this.symm
   rw [wordsW, hwi]
   refine List.mem_append_right _ (List.mem_map.2 ⟨(u.getLast hne).toNat, List.mem_range.2 (hb _ (List.getLast_mem hne)), ?_⟩)
   rw [show UInt8.ofNat (u.getLast hne).toNat = u.getLast hne by simp]
   exact e
theorem extW_nodup (t : Nat) (ht : t ≤ 256) (w : List UInt8) : (extW t w).Nodup := by
 unfold extW List.Nodup
 rw [List.pairwise_map]
 refine List.Pairwise.imp_of_mem (R := fun a b => a < b) (fun ha hb h e => ?_) List.pairwise_lt_range
 rw [List.mem_range] at ha hb
 have := List.append_cancel_left e
 simp only [List.cons.injEq, and_true] at this
 have h2 := congrArg UInt8.toNat this
 rw [UInt8.toNat_ofNat_of_lt' (by show _ < 256; omega), UInt8.toNat_ofNat_of_lt' (by show _ < 256; omega)] at h2
 omega
theorem wordsW_form (t : Nat) : ∀ j, ∀ x ∈ wordsW t j, x = [] ∨ ∃ i, i < j ∧ i < (wordsW t i).length ∧ ∃ b : Nat, x = wordW t i i ++ [UInt8.ofNat b]
 | 0, x, h => by simp [wordsW] at h; exact .inl h
 | j + 1, x, h => by
   by_cases hj : j < (wordsW t j).length
   ·rcases wordsW_mem t j x h with h | ⟨b, _, rfl⟩
    ·rcases wordsW_form t j x h with h | ⟨i, hi, h1, h2⟩
     ·exact .inl h
     ·exact .inr ⟨i, by omega, h1, h2⟩
    ·exact .inr ⟨j, by omega, hj, b, rfl⟩
   ·have ht : t = 0 := by
     apply Classical.byContradiction
     intro h0
     rw [wordsW_len] at hj
     have := Nat.le_mul_of_pos_right j (show 0 < t by omega)
     omega
    subst ht
    rw [wordsW, show extW 0 ((wordsW 0 j).getD j []) = [] by simp [extW], List.append_nil] at h
    rcases wordsW_form 0 j x h with h | ⟨i, hi, h1, h2⟩
    ·exact .inl h
    ·exact .inr ⟨i, by omega, h1, h2⟩
theorem wordsW_nodup (t : Nat) (ht : t ≤ 256) : ∀ j, (wordsW t j).Nodup
 | 0 => by simp [wordsW]
 | j + 1 => by
   have ih := wordsW_nodup t ht j
   rw [wordsW]
   rw [List.nodup_append]
   refine ⟨ih, extW_nodup t ht _, ?_⟩
   intro a ha b hb e
   subst e
   obtain ⟨q, hq, rfl⟩ := List.mem_map.1 hb
   rw [List.mem_range] at hq
   have hj : j < (wordsW t j).length := by
    rw [wordsW_len]
    have := Nat.le_mul_of_pos_right j (show 0 < t by omega)
    omega
   rcases wordsW_form t j _ ha with h | ⟨i, hi, h1, c, h2⟩
   ·simp at h
   ·have h3 := (List.append_inj' h2 rfl).1
    have hwi : wordW t i i = wordW t j i := (wordW_pre t (Nat.le_of_lt hi) h1).symm
    have hij : i < (wordsW t j).length := by omega
    have e1 : (wordsW t j)[j]'hj = (wordsW t j)[i]'hij := by
     have a1 : wordW t j j = (wordsW t j)[j]'hj := by unfold wordW; rw [List.getD_eq_getElem?_getD, List.getElem?_eq_getElem hj]; rfl
     have a2 : wordW t j i = (wordsW t j)[i]'hij := by unfold wordW; rw [List.getD_eq_getElem?_getD, List.getElem?_eq_getElem hij]; rfl
     rw [← a1, ← a2, ← hwi]
     exact h3
    exact (List.pairwise_iff_getElem.1 ih i j hij hj hi) e1.symm
end Go.Proofs.YtnaamjpiaekmeaaGreat
namespace Go.Proofs.YtnaamjpiaekmeaaGreat
def FirstOut (g : GramG) (k : Int) (ls : List Words) (c : Int) : Prop :=
 ((k < 1 ∨ 4 < k ∨ checkG g ≠ 0) ∧ ls = [] ∧ c = 1) ∨ ((1 ≤ k ∧ k ≤ 4 ∧ checkG g = 0) ∧ ((OverG g k ∧ ls = [] ∧ c = 21) ∨ (¬ OverG g k ∧ c = 0 ∧ ls.length = g.names.length ∧ ∀ i (h : i < ls.length), IsFirst g k [(i : Int)] (ls[i]'h))))
def allN (t : Nat) : Nat → Words
 | 0 => [[]]
 | n + 1 => [] :: (List.range t).flatMap fun b => (allN t n).map fun u => UInt8.ofNat b :: u
theorem mem_allN (t : Nat) : ∀ (n : Nat) (u : List UInt8), u.length ≤ n → (∀ b ∈ u, b.toNat < t) → u ∈ allN t n
 | 0, u, h, _ => by
   obtain rfl : u = [] := List.eq_nil_of_length_eq_zero (by omega)
   simp [allN]
 | n + 1, [], _, _ => by simp [allN]
 | n + 1, b :: u, h, hb => by
   rw [allN]
   refine List.mem_cons_of_mem _ (List.mem_flatMap.2 ⟨b.toNat, List.mem_range.2 (hb b (by simp)), List.mem_map.2 ⟨u, mem_allN t n u (by simpa using h) (fun c hc => hb c (by simp [hc])), by simp⟩⟩)
theorem allN_len (t n : Nat) : (allN t (n + 1)).length = 1 + t * (allN t n).length := by
 have key : ∀ l : List Nat, (l.flatMap fun b => (allN t n).map fun u => UInt8.ofNat b :: u).length = l.length * (allN t n).length := by
  intro l
  induction l with
  | nil => simp
  | cons b l ih => rw [List.flatMap_cons, List.length_append, ih, List.length_map, List.length_cons, Nat.succ_mul]; omega
 rw [allN, List.length_cons, key, List.length_range]
 omega
theorem allN_four (t : Nat) (ht : t ≤ 3) : (allN t 4).length ≤ 121 := by
 rw [allN_len, allN_len, allN_len, allN_len, show (allN t 0).length = 1 from rfl]
 rcases (by omega : t = 0 ∨ t = 1 ∨ t = 2 ∨ t = 3) with rfl | rfl | rfl | rfl <;> decide
theorem rules_syms {g : GramG} (hv : ValidG g) : ∀ r ∈ g.rules, ∀ s ∈ r.right, -(g.terms.length : Int) ≤ s := fun r hr s hs => ((hv.rules r hr).2.2.2 s hs).1
theorem notOver {g : GramG} (hv : ValidG g) (ht : g.terms.length ≤ 3) {k : Int} (hk : k ≤ 4) {ss : List Int} (hs : ∀ s ∈ ss, -(g.terms.length : Int) ≤ s) : ¬ OverP g k ss := by
 rintro ⟨l, hn, hl, hm⟩
 have h1 : ∀ u ∈ l, u ∈ allN g.terms.length 4 := fun u hu => by
  obtain ⟨a, b⟩ := firstP_below (rules_syms hv) (hm u hu) hs
  exact mem_allN _ _ u (by omega) a
 have h2 := nodup_le l _ hn h1
 have h3 := allN_four g.terms.length ht
 omega
theorem notOverG {g : GramG} (hv : ValidG g) (ht : g.terms.length ≤ 3) {k : Int} (hk : k ≤ 4) : ¬ OverG g k := by
 rintro (⟨i, -, h⟩ | ⟨r, hr, m, -, h⟩)
 ·exact notOver hv ht hk (fun s hs => by obtain rfl : s = (i : Int) := (by simpa using hs); omega) h
 ·exact notOver hv ht hk (fun s hs => rules_syms hv r hr s (List.mem_of_mem_take hs)) h
def hitsW (ls : List Words) (x : List UInt8) : Nat := (ls.filter fun l => decide (x ∈ l)).length
def cntW (ls : List Words) (A : Words) : Nat := (A.map (hitsW ls)).sum
def sumW (ls : List Words) : Nat := (ls.map List.length).sum
theorem hits_take (ls : List Words) (x : List UInt8) (a : Nat) (h : a < ls.length) : hitsW (ls.take (a + 1)) x = hitsW (ls.take a) x + (if x ∈ ls[a]'h then 1 else 0) := by
 rw [List.take_succ_eq_append_getElem h]
 unfold hitsW
 rw [List.filter_append, List.length_append]
 by_cases c : x ∈ ls[a]'h <;> simp [c]
theorem cnt_take (ls : List Words) (A : Words) (i : Nat) (h : i < A.length) : cntW ls (A.take (i + 1)) = cntW ls (A.take i) + hitsW ls (A[i]'h) := by
 rw [List.take_succ_eq_append_getElem h]
 unfold cntW
 rw [List.map_append, List.sum_append, List.map_cons, List.map_nil, List.sum_cons, List.sum_nil, Nat.add_zero]
theorem sum_take (ls : List Words) (a : Nat) (h : a < ls.length) : sumW (ls.take (a + 1)) = sumW (ls.take a) + (ls[a]'h).length := by
 rw [List.take_succ_eq_append_getElem h]
 unfold sumW
 rw [List.map_append, List.sum_append, List.map_cons, List.map_nil, List.sum_cons, List.sum_nil, Nat.add_zero]
theorem cnt_cons (l : Words) (ls : List Words) : ∀ A : Words, cntW (l :: ls) A = (A.filter fun x => decide (x ∈ l)).length + cntW ls A
 | [] => rfl
 | x :: A => by
   have ih := cnt_cons l ls A
   unfold cntW at ih ⊢
   rw [List.map_cons, List.sum_cons, ih, List.map_cons, List.sum_cons]
   have h : hitsW (l :: ls) x = (if x ∈ l then 1 else 0) + hitsW ls x := by
    unfold hitsW
    by_cases c : x ∈ l <;> simp [c]
    omega
   rw [h]
   by_cases c : x ∈ l <;> simp [c] <;> omega
theorem cnt_all (A : Words) (hA : A.Nodup) : ∀ ls : List Words, (∀ l ∈ ls, l.Nodup ∧ ∀ x ∈ l, x ∈ A) → cntW ls A = sumW ls
 | [], _ => by
   unfold cntW sumW
   have : ∀ B : Words, (B.map (hitsW [])).sum = 0 := by
    intro B
    induction B with
    | nil => rfl
    | cons x B ih => rw [List.map_cons, List.sum_cons, ih]; rfl
   rw [this]; rfl
 | l :: ls, h => by
   rw [cnt_cons, cnt_all A hA ls (fun m hm => h m (by simp [hm]))]
   obtain ⟨h1, h2⟩ := h l (by simp)
   have e1 := nodup_le (A.filter fun x => decide (x ∈ l)) l (hA.filter _) (fun x hx => by simpa using (List.mem_filter.1 hx).2)
   have e2 := nodup_le l (A.filter fun x => decide (x ∈ l)) h1 (fun x hx => List.mem_filter.2 ⟨h2 x hx, by simpa using hx⟩)
   unfold sumW
   rw [List.map_cons, List.sum_cons]
   omega
theorem hits_le (ls : List Words) (x : List UInt8) : hitsW ls x ≤ ls.length := List.length_filter_le _ _
theorem cnt_le (ls : List Words) : ∀ A : Words, cntW ls A ≤ A.length * ls.length
 | [] => by simp [cntW]
 | x :: A => by
   have := cnt_le ls A
   have h := hits_le ls x
   unfold cntW at this ⊢
   rw [List.map_cons, List.sum_cons, List.length_cons, Nat.succ_mul]
   omega
theorem cnt_take_le (ls : List Words) (A : Words) (i : Nat) : cntW ls (A.take i) ≤ A.length * ls.length :=
 Nat.le_trans (cnt_le ls _) (Nat.mul_le_mul_right _ (by rw [List.length_take]; omega))
theorem allV_is {t k : Int} {l : List (List UInt8)} (h : AllV t k l) (ht : 0 ≤ t) (ht3 : t ≤ 3) (hk : 1 ≤ k) (hk4 : k ≤ 4) : l.Nodup ∧ (∀ x ∈ l, (x.length : Int) ≤ k) ∧ l.length ≤ 4096 ∧ ∀ u : List UInt8, (u.length : Int) ≤ k → (∀ b ∈ u, (b.toNat : Int) < t) → u ∈ l := by
 obtain ⟨T, rfl⟩ := Int.eq_ofNat_of_zero_le ht
 obtain ⟨K, rfl⟩ := Int.eq_ofNat_of_zero_le (show 0 ≤ k by omega)
 rcases h with ⟨h, -⟩ | ⟨-, -, -, r, ⟨j, hj, hr⟩, rfl⟩
 ·omega
 rw [Int.toNat_natCast, Int.toNat_natCast] at hj hr
 have hg : ∀ i, i < j → goesW T K i := fun i hi => (hj i hi).1
 have hlen : ∀ x ∈ wordsW T j, x.length ≤ K := wordsW_most T K j hg
 have h1 : (wordsW T j).length ≤ 121 := by
  have a := nodup_le (wordsW T j) (allN T 4) (wordsW_nodup T (by omega) j) (fun x hx => mem_allN T 4 x (by have := hlen x hx; omega) (wordsW_below T (by omega) j x hx))
  have b := allN_four T (by omega)
  omega
 rcases hr with ⟨hn, rfl⟩ | ⟨-, h2, -⟩
 ·rw [Option.getD_some]
  exact ⟨wordsW_nodup T (by omega) j, fun x hx => by have := hlen x hx; omega, by omega, fun u hu hb => wordsW_has hn u.length u rfl (by omega) (fun b h => by have := hb b h; omega)⟩
 ·omega
def exD : GramG := ⟨[[83]], [[97]], [⟨0, [-1, 0]⟩, ⟨0, []⟩]⟩
theorem valid_exD : ValidG exD where
 one := by decide
 syms := by decide
 few := by decide
 names := by decide
 nodupN := by decide
 has := fun i hi => by
  have hi' : i < 1 := hi
  obtain rfl : i = 0 := by omega
  exact ⟨⟨0, []⟩, (by simp [exD]), rfl⟩
 terms := by decide
 nodupT := by decide
 rules := by decide
 nodupR := by simp [exD]
theorem checkD : checkG exD = 0 := by
 have hp : ∀ i, i < exD.names.length → ProdN exD i := by
  intro i hi
  have hi' : i < 1 := hi
  obtain rfl : i = 0 := by omega
  exact .mk ⟨0, []⟩ 0 (by simp [exD]) rfl (fun s hs => by simp at hs)
 have hr : (∀ i, i < exD.names.length → ReachN exD i) ∧ ∀ t, t < exD.terms.length → UsedG exD t := by
  refine ⟨fun i hi => ?_, fun t ht => ?_⟩
  ·have hi' : i < 1 := hi
   obtain rfl : i = 0 := by omega
   exact .zero
  ·have ht' : t < 1 := ht
   obtain rfl : t = 0 := by omega
   exact ⟨⟨0, [-1, 0]⟩, (by simp [exD]), ⟨0, rfl, .zero⟩, by decide⟩
 unfold checkG
 rw [if_neg (by unfold validB; rw [boolOf_true valid_exD]; decide), if_neg (by rw [boolOf_true hp]; decide), if_neg (by rw [boolOf_true hr]; decide)]
theorem sizeD : SizeG exD := ⟨by decide, by decide, by decide, by decide, by decide, by decide⟩
theorem intD : IntG exD := by unfold IntG; decide
theorem dersD (n : Nat) : DerS exD [0] (List.replicate n 0) := by
 induction n with
 | zero => exact (DerS.nont_iff (s := 0) (by decide)).2 ⟨⟨0, []⟩, by simp [exD], rfl, .nil⟩
 | succ n ih =>
   refine (DerS.nont_iff (s := 0) (by decide)).2 ⟨⟨0, [-1, 0]⟩, by simp [exD], rfl, ?_⟩
   exact .term (-1) 0 [0] _ (by decide) (by decide) ih
theorem firstD : IsFirst exD 2 [0] [[], [0], [0, 0]] := by
 refine ⟨by unfold setW; decide, fun u => ?_⟩
 constructor
 ·intro h
  have h' : u = [] ∨ u = [0] ∨ u = [0, 0] := by simpa using h
  rcases h' with rfl | rfl | rfl
  ·exact ⟨_, dersD 0, rfl⟩
  ·exact ⟨_, dersD 1, rfl⟩
  ·exact ⟨_, dersD 2, rfl⟩
 ·intro h
  obtain ⟨h1, h2⟩ := firstP_below (t := 1) (rules_syms valid_exD) h (by decide)
  have := mem_allN 1 2 u h2 h1
  simpa [allN] using this
theorem outD {ls : List Words} {c : Int} (h : FirstOut exD 2 ls c) : c = 0 ∧ ls = [[[], [0], [0, 0]]] := by
 rcases h with ⟨h, -⟩ | ⟨-, ⟨h, -⟩ | ⟨-, hc, hl, hi⟩⟩
 ·rw [checkD] at h; omega
 ·exact absurd h (notOverG valid_exD (by decide) (by decide))
 ·refine ⟨hc, ?_⟩
  have hl' : ls.length = 1 := hl
  match ls, hl' with
  | [l], _ =>
    have e : l = _ := (hi 0 (by simp)).one firstD
    rw [e]
end Go.Proofs.YtnaamjpiaekmeaaGreat
namespace Go.Proofs.YtnaamjpiaekmeaaGreat
def symW (ls : List Words) (s : Int) : Option Words := if s < 0 then (if -256 ≤ s then some [[UInt8.ofNat (-1 - s).toNat]] else none) else ls[s.toNat]?
def fofF (ls : List Words) (k : Int) : List Int → Words → Option Words
 | [], acc => some acc
 | s :: ss, acc => match symW ls s with
   | none => none
   | some m => if 4096 < (catW k acc m).length then none else fofF ls k ss (catW k acc m)
def fofG (ls : List Words) (k : Int) (ss : List Int) : Option Words := fofF ls k ss [[]]
theorem fofF_bad (ls : List Words) (k : Int) : ∀ (ss : List Int) (acc : Words), (∃ s ∈ ss, symW ls s = none) → fofF ls k ss acc = none
 | [], _, ⟨s, h, _⟩ => by simp at h
 | t :: ss, acc, ⟨s, h, hn⟩ => by
   rw [fofF]
   rcases List.mem_cons.1 h with rfl | h
   ·rw [hn]
   ·cases ht : symW ls t with
    | none => rfl
    | some m =>
      simp only
      split
      ·rfl
      ·exact fofF_bad ls k ss _ ⟨s, h, hn⟩
theorem sym_over {ls : List Words} {s : Int} (h : (ls.length : Int) ≤ s) : symW ls s = none := by
 unfold symW
 rw [if_neg (by omega), List.getElem?_eq_none (by omega)]
theorem sym_under {ls : List Words} {s : Int} (h : s < -256) : symW ls s = none := by
 unfold symW
 rw [if_pos (by omega), if_neg (by omega)]
theorem sym_nont {ls : List Words} {i : Nat} (h : i < ls.length) : symW ls (i : Int) = some (ls[i]'h) := by
 unfold symW
 rw [if_neg (by omega), Int.toNat_natCast, List.getElem?_eq_getElem h]
theorem sym_term {ls : List Words} {s : Int} (h : s < 0) (h2 : -256 ≤ s) : symW ls s = some [[UInt8.ofNat (-1 - s).toNat]] := by
 unfold symW
 rw [if_pos h, if_pos h2]
theorem isFirst_term (g : GramG) {k : Int} (hk : 1 ≤ k) {s : Int} (h : s < 0) (h2 : -256 ≤ s) : IsFirst g k [s] [[UInt8.ofNat (-1 - s).toNat]] := by
 have hb : ((UInt8.ofNat (-1 - s).toNat).toNat : Int) = -1 - s := by
  rw [UInt8.toNat_ofNat_of_lt' (by show _ < 256; omega)]
  omega
 refine ⟨by unfold setW; simp, fun u => ?_⟩
 rw [List.mem_singleton]
 constructor
 ·rintro rfl
  refine ⟨_, (DerS.term_iff h).2 ⟨_, hb, rfl⟩, ?_⟩
  unfold cutW
  rw [List.take_of_length_le (by simp; omega)]
 ·rintro ⟨x, hx, rfl⟩
  obtain ⟨b, hb2, rfl⟩ := (DerS.term_iff h).1 hx
  have e : b = UInt8.ofNat (-1 - s).toNat := UInt8.toNat_inj.1 (by omega)
  unfold cutW
  rw [List.take_of_length_le (by simp; omega), e]
def FirstSets (g : GramG) (k : Int) (ls : List Words) : Prop := ls.length = g.names.length ∧ ∀ i (h : i < ls.length), IsFirst g k [(i : Int)] (ls[i]'h)
theorem isFirst_sym {g : GramG} {k : Int} {ls : List Words} (hk : 1 ≤ k) (hF : FirstSets g k ls) {s : Int} (h1 : -256 ≤ s) (h2 : s < (g.names.length : Int)) : ∃ m, symW ls s = some m ∧ IsFirst g k [s] m := by
 by_cases h : s < 0
 ·exact ⟨_, sym_term h h1, isFirst_term g hk h h1⟩
 ·obtain ⟨i, rfl⟩ := Int.eq_ofNat_of_zero_le (show 0 ≤ s by omega)
  have hi : i < ls.length := by rw [hF.1]; exact Int.ofNat_lt.1 h2
  exact ⟨_, sym_nont hi, hF.2 i hi⟩
theorem fofF_is {g : GramG} {k : Int} {ls : List Words} (hk : 1 ≤ k) (hF : FirstSets g k ls) : ∀ (ss pre : List Int) (acc : Words), IsFirst g k pre acc → (∀ s ∈ ss, -256 ≤ s ∧ s < (g.names.length : Int)) →
  ((∃ m, 0 < m ∧ m ≤ ss.length ∧ OverP g k (pre ++ ss.take m)) ∧ fofF ls k ss acc = none) ∨ ((∀ m, 0 < m → m ≤ ss.length → ¬ OverP g k (pre ++ ss.take m)) ∧ ∃ l, fofF ls k ss acc = some l ∧ IsFirst g k (pre ++ ss) l)
 | [], pre, acc, h, _ => .inr ⟨fun m h1 h2 => by simp at h2; omega, acc, rfl, by rw [List.append_nil]; exact h⟩
 | s :: ss, pre, acc, h, hs => by
   obtain ⟨m, hm, hFm⟩ := isFirst_sym hk hF (hs s (by simp)).1 (hs s (by simp)).2
   have hc : IsFirst g k (pre ++ [s]) (catW k acc m) := h.cat hFm
   rw [fofF, hm]
   simp only
   by_cases ho : 4096 < (catW k acc m).length
   ·rw [if_pos ho]
    exact .inl ⟨⟨1, by decide, by simp, by simpa using (OverP.iff hc).2 ho⟩, rfl⟩
   ·rw [if_neg ho]
    rcases fofF_is hk hF ss (pre ++ [s]) (catW k acc m) hc (fun t ht => hs t (by simp [ht])) with ⟨⟨n, h1, h2, h3⟩, h4⟩ | ⟨h1, l, h2, h3⟩
    ·exact .inl ⟨⟨n + 1, by omega, by simpa using h2, by simpa using h3⟩, h4⟩
    ·refine .inr ⟨fun n hn hn2 => ?_, l, h2, by simpa using h3⟩
     cases n with
     | zero => omega
     | succ n =>
       by_cases h0 : n = 0
       ·subst h0
        intro hov
        exact ho ((OverP.iff hc).1 (by simpa using hov))
       ·have := h1 n (by omega) (by simpa using hn2)
        simpa using this
theorem fofG_is {g : GramG} {k : Int} {ls : List Words} (hk : 1 ≤ k) (hF : FirstSets g k ls) {ss : List Int} (hs : ∀ s ∈ ss, -256 ≤ s ∧ s < (g.names.length : Int)) :
  ((∃ m, 0 < m ∧ m ≤ ss.length ∧ OverP g k (ss.take m)) ∧ fofG ls k ss = none) ∨ ((∀ m, 0 < m → m ≤ ss.length → ¬ OverP g k (ss.take m)) ∧ ∃ l, fofG ls k ss = some l ∧ IsFirst g k ss l) := by
 have := fofF_is hk hF ss [] [[]] (isFirst_nil g k) hs
 simpa [fofG] using this
theorem fofG_few {g : GramG} (hv : ValidG g) (ht : g.terms.length ≤ 3) {k : Int} (hk : 1 ≤ k) (hk4 : k ≤ 4) {ls : List Words} (hF : FirstSets g k ls) {ss : List Int} (hs : ∀ s ∈ ss, -(g.terms.length : Int) ≤ s ∧ s < (g.names.length : Int)) :
  ∃ l, fofG ls k ss = some l ∧ IsFirst g k ss l := by
 rcases fofG_is hk hF (fun s h => ⟨by have := (hs s h).1; omega, (hs s h).2⟩) with ⟨⟨m, h1, h2, h3⟩, -⟩ | ⟨-, h⟩
 ·exact absurd h3 (notOver hv ht hk4 (fun s h => (hs s (List.mem_of_mem_take h)).1))
 ·exact h
theorem out_sets {g : GramG} {k : Int} {ls : List Words} {c : Int} (h : FirstOut g k ls c) (ht : g.terms.length ≤ 3) (h1 : 1 ≤ k) (h4 : k ≤ 4) (hc : checkG g = 0) (hv : ValidG g) : c = 0 ∧ FirstSets g k ls := by
 rcases h with ⟨h, -⟩ | ⟨-, ⟨h, -⟩ | ⟨-, h, h5, h6⟩⟩
 ·omega
 ·exact absurd h (notOverG hv ht h4)
 ·exact ⟨h, h5, h6⟩
end Go.Proofs.YtnaamjpiaekmeaaGreat
