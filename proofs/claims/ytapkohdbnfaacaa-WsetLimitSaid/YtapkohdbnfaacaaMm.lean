/- Several texts in one: LexMath, ParMath, GrmMath, SrtMath, GrmSz, ParBack, ParSound, GrmRes, GrmBk, CanMath. -/
import Derived.Test.YtapkohdbnfaacaaBase
import Derived.Test.YtapkohdbnfaacaaDirMath
set_option linter.unusedVariables false
set_option linter.unusedSimpArgs false
/-! Plain mathematics of the lexer (layer 12). Nothing here names the program. -/
namespace Go.Proofs.Ytapkohdbnfaacaa

def letterB (c : UInt8) : Bool := (decide (97 ≤ c.toNat) && decide (c.toNat ≤ 122)) || (decide (65 ≤ c.toNat) && decide (c.toNat ≤ 90))
def moreB (c : UInt8) : Bool := letterB c || (decide (48 ≤ c.toNat) && decide (c.toNat ≤ 57)) || decide (c.toNat = 95)
/-- May this stand in a terminal? -/
def termC (c : UInt8) : Bool := decide (32 ≤ c.toNat) && decide (c.toNat ≤ 126) && !decide (c.toNat = 39) && !decide (c.toNat = 92)
def blankB (c : UInt8) : Bool := decide (c.toNat = 32) || decide (c.toNat = 9) || decide (c.toNat = 10) || decide (c.toNat = 13)
def nameB (s : List UInt8) : Bool := decide (1 ≤ s.length ∧ s.length ≤ 32) && (match s with | [] => false | c :: _ => letterB c) && s.all moreB
def termB (s : List UInt8) : Bool := decide (1 ≤ s.length ∧ s.length ≤ 32) && s.all termC
structure TokD where
  kind : Int
  text : List UInt8
  at_ : Nat
/-- What begins here: its kind, its text, how many bytes it takes; or an error's number. -/
structure NextD where
  kind : Int
  text : List UInt8
  n : Nat
  err : Int
def noneD (e : Int) : NextD := ⟨0, [], 0, e⟩
def termD (t : List UInt8) : NextD :=
  if (t.drop (t.takeWhile termC).length).head? = some 39 ∧ t.takeWhile termC ≠ [] then (if 32 < (t.takeWhile termC).length then noneD 19 else ⟨2, t.takeWhile termC, (t.takeWhile termC).length + 2, 0⟩) else noneD 13
def nextD (c : UInt8) (t : List UInt8) : NextD :=
    if c = 58 then ⟨3, [58], 1, 0⟩ else if c = 124 then ⟨4, [124], 1, 0⟩ else if c = 59 then ⟨5, [59], 1, 0⟩
    else if letterB c then (if 32 < ((c :: t).takeWhile moreB).length then noneD 19 else ⟨1, (c :: t).takeWhile moreB, ((c :: t).takeWhile moreB).length, 0⟩)
    else if c = 39 then termD t else noneD 13
/-- Up to the end of a comment. -/
def restC (r : List UInt8) : List UInt8 := r.dropWhile fun c => !decide (c = 10)
theorem restC_le : ∀ r : List UInt8, (restC r).length ≤ r.length
  | [] => by simp [restC]
  | c :: t => by
    unfold restC
    rw [List.dropWhile_cons]
    split
    · have := restC_le t; unfold restC at this; simp; omega
    · simp
structure LexD where
  toks : List TokD
  at_ : Nat
  err : Int
def consD (x : TokD) (r : LexD) : LexD := if r.err = 0 then ⟨x :: r.toks, 0, 0⟩ else r
def lexD (r : List UInt8) (p : Nat) : LexD :=
  match r with
  | [] => ⟨[], 0, 0⟩
  | c :: t =>
    if blankB c then lexD t (p + 1)
    else if c = 35 then lexD (restC t) (p + 1 + (t.length - (restC t).length))
    else if (nextD c t).err ≠ 0 then ⟨[], p, (nextD c t).err⟩
    else consD ⟨(nextD c t).kind, (nextD c t).text, p⟩ (lexD (t.drop ((nextD c t).n - 1)) (p + (nextD c t).n))
termination_by r.length
decreasing_by
  · simp
  · have := restC_le t; simp; omega
  · simp; omega
def allD (s : List UInt8) : LexD := if 65536 < s.length then ⟨[], 0, 19⟩ else lexD s 0
/-- What was found before, and what the rest gives. -/
def behindD (acc : List TokD) (r : LexD) : LexD := if r.err = 0 then ⟨acc ++ r.toks, 0, 0⟩ else r
theorem next_pos {c : UInt8} {t : List UInt8} (h : (nextD c t).err = 0) : 1 ≤ (nextD c t).n ∧ (nextD c t).n ≤ (c :: t).length := by
  unfold nextD at h ⊢
  split
  · simp
  · split
    · simp
    · split
      · simp
      · next h1 h2 h3 =>
        rw [if_neg h1, if_neg h2, if_neg h3] at h
        split
        · next h4 =>
          rw [if_pos h4] at h
          split
          · next h5 => rw [if_pos h5] at h; simp [noneD] at h
          · have hm : moreB c = true := by unfold moreB; rw [h4]; simp
            have := (List.takeWhile_prefix moreB (l := c :: t)).length_le
            rw [List.takeWhile_cons, if_pos hm]
            rw [List.takeWhile_cons, if_pos hm] at this
            simp at this ⊢
            omega
        · next h4 =>
          rw [if_neg h4] at h
          split
          · next h5 =>
            rw [if_pos h5] at h
            unfold termD at h ⊢
            split
            · next h6 =>
              rw [if_pos h6] at h
              split
              · next h7 => rw [if_pos h7] at h; simp [noneD] at h
              · have h8 : (t.takeWhile termC).length < t.length := by
                  have := h6.1
                  rcases Nat.lt_or_ge (t.takeWhile termC).length t.length with q | q
                  · exact q
                  · rw [List.drop_eq_nil_of_le q] at this; simp at this
                simp
                omega
            · next h6 => rw [if_neg h6] at h; simp [noneD] at h
          · next h5 => rw [if_neg h5] at h; simp [noneD] at h
theorem lex_nil (p : Nat) : lexD [] p = ⟨[], 0, 0⟩ := by rw [lexD]
theorem lex_blank {c : UInt8} (t : List UInt8) (p : Nat) (h : blankB c = true) : lexD (c :: t) p = lexD t (p + 1) := by rw [lexD, if_pos h]
theorem lex_note (t : List UInt8) (p : Nat) : lexD (35 :: t) p = lexD (restC t) (p + 1 + (t.length - (restC t).length)) := by rw [lexD, if_neg (by decide), if_pos rfl]
theorem lex_err {c : UInt8} (t : List UInt8) (p : Nat) (h1 : blankB c = false) (h2 : c ≠ 35) (h3 : (nextD c t).err ≠ 0) : lexD (c :: t) p = ⟨[], p, (nextD c t).err⟩ := by
  rw [lexD, if_neg (by simp [h1]), if_neg h2, if_pos h3]
theorem lex_tok {c : UInt8} (t : List UInt8) (p : Nat) (h1 : blankB c = false) (h2 : c ≠ 35) (h3 : (nextD c t).err = 0) : lexD (c :: t) p = consD ⟨(nextD c t).kind, (nextD c t).text, p⟩ (lexD ((c :: t).drop (nextD c t).n) (p + (nextD c t).n)) := by
  rw [lexD, if_neg (by simp [h1]), if_neg h2, if_neg (by simp [h3])]
  have := (next_pos h3).1
  rw [show (c :: t).drop (nextD c t).n = t.drop ((nextD c t).n - 1) from by
    obtain ⟨m, hm⟩ : ∃ m, (nextD c t).n = m + 1 := ⟨(nextD c t).n - 1, by omega⟩
    rw [hm]; simp]
theorem behind_cons (acc : List TokD) (x : TokD) (r : LexD) : behindD acc (consD x r) = behindD (acc ++ [x]) r := by
  unfold behindD consD
  by_cases h : r.err = 0
  · simp [h]
  · simp [h]
theorem letter_num {c : UInt8} (h : letterB c = true) : c ≠ 58 ∧ c ≠ 124 ∧ c ≠ 59 ∧ c ≠ 35 ∧ blankB c = false ∧ moreB c = true := by
  have hm : moreB c = true := by unfold moreB; rw [h]; simp
  refine ⟨?_, ?_, ?_, ?_, ?_, hm⟩
  · rintro rfl; simp [letterB] at h
  · rintro rfl; simp [letterB] at h
  · rintro rfl; simp [letterB] at h
  · rintro rfl; simp [letterB] at h
  · unfold letterB at h
    unfold blankB
    simp at h ⊢
    omega
theorem takeWhile_all {p : UInt8 → Bool} {l : List UInt8} (h : l.all p = true) : l.takeWhile p = l := by
  induction l with
  | nil => rfl
  | cons c t ih =>
    rw [List.all_cons, Bool.and_eq_true] at h
    rw [List.takeWhile_cons, if_pos h.1, ih h.2]
/-- What ends a run ends it, whatever follows. -/
theorem takeWhile_stop {p : UInt8 → Bool} : ∀ (l : List UInt8) (x : UInt8) (q : List UInt8), p x = false → (l ++ x :: q).takeWhile p = l.takeWhile p
  | [], x, q, h => by simp [h]
  | c :: t, x, q, h => by
    rw [List.cons_append, List.takeWhile_cons, List.takeWhile_cons, takeWhile_stop t x q h]
theorem takeWhile_in {p : UInt8 → Bool} : ∀ (l q : List UInt8), (l.takeWhile p).length < l.length → (l ++ q).takeWhile p = l.takeWhile p
  | [], q, h => by simp at h
  | c :: t, q, h => by
    rw [List.cons_append, List.takeWhile_cons, List.takeWhile_cons]
    rw [List.takeWhile_cons] at h
    split
    · next hc =>
      rw [if_pos hc] at h
      rw [takeWhile_in t q (by simpa using h)]
    · rfl
theorem name_one {s : List UInt8} (h : nameB s = true) (p : Nat) : lexD s p = ⟨[⟨1, s, p⟩], 0, 0⟩ := by
  unfold nameB at h
  rw [Bool.and_eq_true, Bool.and_eq_true] at h
  obtain ⟨⟨h1, h2⟩, h3⟩ := h
  have h1' := of_decide_eq_true h1
  cases s with
  | nil => simp at h1'
  | cons c t =>
    simp only at h2
    obtain ⟨e1, e2, e3, e4, e5, e6⟩ := letter_num h2
    have hn : nextD c t = ⟨1, c :: t, (c :: t).length, 0⟩ := by
      unfold nextD
      rw [if_neg e1, if_neg e2, if_neg e3, if_pos h2, takeWhile_all h3, if_neg (by omega)]
    rw [lex_tok t p e5 e4 (by rw [hn]), hn]
    simp only [List.drop_length]
    rw [lex_nil]
    rfl
theorem term_one {s : List UInt8} (h : termB s = true) (p : Nat) : lexD (39 :: (s ++ [39])) p = ⟨[⟨2, s, p⟩], 0, 0⟩ := by
  unfold termB at h
  rw [Bool.and_eq_true] at h
  have h1' := of_decide_eq_true h.1
  have ht : (s ++ [39]).takeWhile termC = s := by rw [takeWhile_stop s 39 [] (by decide), takeWhile_all h.2]
  have hn : nextD 39 (s ++ [39]) = ⟨2, s, s.length + 2, 0⟩ := by
    unfold nextD
    rw [if_neg (by decide), if_neg (by decide), if_neg (by decide), if_neg (by decide), if_pos rfl]
    unfold termD
    rw [ht, if_pos ⟨by simp, by intro e; rw [e] at h1'; simp at h1'⟩, if_neg (by omega)]
  rw [lex_tok _ p (by decide) (by decide) (by rw [hn]), hn]
  rw [List.drop_eq_nil_of_le (by simp), lex_nil]
  rfl
theorem lex_ok {r : List UInt8} {p : Nat} (h : (lexD r p).err = 0) : (lexD r p).at_ = 0 := by
  induction r, p using lexD.induct with
  | case1 p => rw [lex_nil]
  | case2 p c t hb ih => rw [lex_blank t p hb] at h ⊢; exact ih h
  | case3 p t hb ih => rw [lex_note] at h ⊢; exact ih h
  | case4 p c t hb h3 he => rw [lex_err t p (by simpa using hb) h3 he] at h; exact absurd h he
  | case5 p c t hb h3 he ih =>
    rw [lexD, if_neg hb, if_neg h3, if_neg he] at h ⊢
    unfold consD at h ⊢
    split
    · rfl
    · next hq => rw [if_neg hq] at h; exact absurd h hq
def shiftT (k : Nat) (x : TokD) : TokD := ⟨x.kind, x.text, x.at_ + k⟩
theorem lex_shift (k : Nat) {r : List UInt8} {p : Nat} : (lexD r p).err = 0 → lexD r (p + k) = ⟨(lexD r p).toks.map (shiftT k), 0, 0⟩ := by
  induction r, p using lexD.induct with
  | case1 p => intro _; rw [lex_nil, lex_nil]; rfl
  | case2 p c t hb ih => intro h; rw [lex_blank t p hb] at h ⊢; rw [lex_blank t _ hb, ← ih h, show p + k + 1 = p + 1 + k from by omega]
  | case3 p t hb ih =>
    intro h
    rw [lex_note] at h ⊢
    rw [lex_note, ← ih h, show p + k + 1 + (t.length - (restC t).length) = p + 1 + (t.length - (restC t).length) + k from by omega]
  | case4 p c t hb h3 he => intro h; rw [lex_err t p (by simpa using hb) h3 he] at h; exact absurd h he
  | case5 p c t hb h3 he ih =>
    intro h
    rw [lexD, if_neg hb, if_neg h3, if_neg he] at h ⊢
    rw [lexD, if_neg hb, if_neg h3, if_neg he]
    have he2 : (lexD (t.drop ((nextD c t).n - 1)) (p + (nextD c t).n)).err = 0 := by
      unfold consD at h
      split at h
      · assumption
      · next hq => exact absurd h hq
    rw [show p + k + (nextD c t).n = p + (nextD c t).n + k from by omega, ih he2]
    unfold consD
    simp [he2, shiftT]
theorem next_same {c : UInt8} {t : List UInt8} (q : List UInt8) (h : (nextD c t).err = 0) : nextD c (t ++ 32 :: q) = nextD c t := by
  unfold nextD at h ⊢
  by_cases h1 : c = 58
  · rw [if_pos h1, if_pos h1]
  · rw [if_neg h1] at h ⊢
    rw [if_neg h1]
    by_cases h2 : c = 124
    · rw [if_pos h2, if_pos h2]
    · rw [if_neg h2] at h ⊢
      rw [if_neg h2]
      by_cases h3 : c = 59
      · rw [if_pos h3, if_pos h3]
      · rw [if_neg h3] at h ⊢
        rw [if_neg h3]
        by_cases h4 : letterB c = true
        · rw [if_pos h4, if_pos h4, ← List.cons_append, takeWhile_stop (c :: t) 32 q (by decide)]
        · rw [if_neg h4] at h ⊢
          rw [if_neg h4]
          by_cases h5 : c = 39
          · rw [if_pos h5] at h ⊢
            rw [if_pos h5]
            unfold termD at h ⊢
            by_cases h6 : (t.drop (t.takeWhile termC).length).head? = some 39 ∧ t.takeWhile termC ≠ []
            · have h8 : (t.takeWhile termC).length < t.length := by
                have := h6.1
                rcases Nat.lt_or_ge (t.takeWhile termC).length t.length with z | z
                · exact z
                · rw [List.drop_eq_nil_of_le z] at this; simp at this
              rw [takeWhile_in t _ h8]
              have h9 : ((t ++ 32 :: q).drop (t.takeWhile termC).length).head? = (t.drop (t.takeWhile termC).length).head? := by
                rw [List.drop_append_of_le_length (by omega), List.head?_append]
                rw [h6.1]; rfl
              rw [h9]
            · rw [if_neg h6] at h; simp [noneD] at h
          · rw [if_neg h5, if_neg h5]
theorem lex_front {r : List UInt8} {p : Nat} : ∀ (q : List UInt8) (y : List TokD), (35 : UInt8) ∉ r → (lexD r p).err = 0 → lexD (32 :: q) (p + r.length) = ⟨y, 0, 0⟩ → lexD (r ++ 32 :: q) p = ⟨(lexD r p).toks ++ y, 0, 0⟩ := by
  induction r, p using lexD.induct with
  | case1 p => intro q y _ _ h; rw [lex_nil]; simpa using h
  | case2 p c t hb ih =>
    intro q y hn h hy
    rw [lex_blank t p hb] at h ⊢
    rw [List.cons_append, lex_blank _ p hb]
    exact ih q y (fun hm => hn (by simp [hm])) h (by rw [← hy]; congr 1; simp; omega)
  | case3 p t hb ih => intro q y hn; simp at hn
  | case4 p c t hb h3 he => intro q y hn h; rw [lex_err t p (by simpa using hb) h3 he] at h; exact absurd h he
  | case5 p c t hb h3 he ih =>
    intro q y hn h hy
    have he0 : (nextD c t).err = 0 := by simpa using he
    have hpos := next_pos he0
    have hb' : blankB c = false := by simpa using hb
    rw [lex_tok t p hb' h3 he0] at h ⊢
    have hd : t.drop ((nextD c t).n - 1) = (c :: t).drop (nextD c t).n := by
      obtain ⟨m, hm⟩ : ∃ m, (nextD c t).n = m + 1 := ⟨(nextD c t).n - 1, by omega⟩
      rw [hm]; simp
    rw [hd] at ih
    have he2 : (lexD ((c :: t).drop (nextD c t).n) (p + (nextD c t).n)).err = 0 := by
      unfold consD at h
      split at h
      · assumption
      · next hq => exact absurd h hq
    have hs := next_same q he0
    rw [List.cons_append, lex_tok (t ++ 32 :: q) p hb' h3 (by rw [hs]; exact he0), hs, ← List.cons_append, List.drop_append_of_le_length hpos.2]
    rw [ih q y (fun hm => hn (List.mem_of_mem_drop hm)) he2 (by rw [← hy]; congr 1; rw [List.length_drop]; omega)]
    unfold consD
    simp [he2]
theorem restC_stop : ∀ (m q : List UInt8), (10 : UInt8) ∉ m → restC (m ++ 10 :: q) = 10 :: q
  | [], q, _ => by simp [restC]
  | c :: t, q, h => by
    have := restC_stop t q (fun hm => h (by simp [hm]))
    unfold restC at this ⊢
    rw [List.cons_append, List.dropWhile_cons, if_pos (by simp; intro e; exact h (by simp [e]))]
    exact this
theorem lex_between (m b : List UInt8) (p : Nat) (h : (10 : UInt8) ∉ m) : lexD (32 :: 35 :: (m ++ 10 :: 9 :: 13 :: b)) p = lexD b (p + (m.length + 5)) := by
  rw [lex_blank _ p (by decide), lex_note, restC_stop m _ h, lex_blank _ _ (by decide), lex_blank _ _ (by decide), lex_blank _ _ (by decide)]
  congr 1
  simp
  omega
/-- Blanks and a remark between two texts. -/
theorem lex_blanks (a m b : List UInt8) (ha : (lexD a 0).err = 0) (hb : (lexD b 0).err = 0) (hn : (35 : UInt8) ∉ a) (h : (10 : UInt8) ∉ m) :
    lexD (a ++ 32 :: 35 :: (m ++ 10 :: 9 :: 13 :: b)) 0 = ⟨(lexD a 0).toks ++ (lexD b 0).toks.map (shiftT (a.length + m.length + 5)), 0, 0⟩ := by
  refine lex_front _ _ hn ha ?_
  rw [lex_between m b _ h, ← lex_shift (a.length + m.length + 5) hb]
  congr 1
  omega
theorem restC_len (t : List UInt8) : (restC t).length ≤ t.length := restC_le t
theorem lex_len {r : List UInt8} {p : Nat} : (lexD r p).toks.length ≤ r.length ∧ ∀ t ∈ (lexD r p).toks, t.at_ ≤ p + r.length := by
  induction r, p using lexD.induct with
  | case1 p => rw [lex_nil]; simp
  | case2 p c t hb ih => rw [lex_blank t p hb]; exact ⟨by simp; omega, fun x hx => by have := ih.2 x hx; simp; omega⟩
  | case3 p t hb ih =>
    rw [lex_note]
    have := restC_le t
    exact ⟨by simp; omega, fun x hx => by have := ih.2 x hx; simp; omega⟩
  | case4 p c t hb h3 he => rw [lex_err t p (by simpa using hb) h3 he]; simp
  | case5 p c t hb h3 he ih =>
    rw [lexD, if_neg hb, if_neg h3, if_neg he]
    have he0 : (nextD c t).err = 0 := by simpa using he
    have hpos := next_pos he0
    rw [List.length_cons] at hpos
    unfold consD
    split
    · refine ⟨?_, fun x hx => ?_⟩
      · have := ih.1
        rw [List.length_drop] at this
        simp; omega
      · rw [List.mem_cons] at hx
        rcases hx with rfl | hx
        · simp
        · have := ih.2 x hx
          rw [List.length_drop] at this
          simp; omega
    · refine ⟨?_, fun x hx => ?_⟩
      · have := ih.1
        rw [List.length_drop] at this
        simp; omega
      · have := ih.2 x hx
        rw [List.length_drop] at this
        simp; omega
end Go.Proofs.Ytapkohdbnfaacaa

/-! Plain mathematics of the parser of rules (layer 13). Nothing here names the program. -/
namespace Go.Proofs.Ytapkohdbnfaacaa

structure ItemD where
  term : Bool
  text : List UInt8
structure LineD where
  name : List UInt8
  alts : List (List ItemD)
/-- A token's kind and text. -/
abbrev Tk := Int × List UInt8
def TokD.tk (t : TokD) : Tk := (t.kind, t.text)
/-- Alternatives that were read, or how many tokens were left where it went wrong; and how many are left. -/
structure BodyD where
  ok : Bool
  alts : List (List ItemD)
  left : List Tk
def bodyD : List Tk → List ItemD → List (List ItemD) → BodyD
  | [], _, _ => ⟨false, [], []⟩
  | t :: r, cur, done =>
    if t.1 = 1 ∨ t.1 = 2 then bodyD r (cur ++ [⟨decide (t.1 = 2), t.2⟩]) done
    else if t.1 = 4 then bodyD r [] (done ++ [cur])
    else if t.1 = 5 then ⟨true, done ++ [cur], r⟩
    else ⟨false, [], t :: r⟩
structure RuleD where
  ok : Bool
  line : LineD
  left : List Tk
def nameD (n : List UInt8) : List Tk → RuleD
  | [] => ⟨false, ⟨[], []⟩, []⟩
  | c :: q => if c.1 = 3 then ⟨(bodyD q [] []).ok, ⟨n, (bodyD q [] []).alts⟩, (bodyD q [] []).left⟩ else ⟨false, ⟨[], []⟩, c :: q⟩
def ruleD : List Tk → RuleD
  | [] => ⟨false, ⟨[], []⟩, []⟩
  | t :: r => if t.1 ≠ 1 then ⟨false, ⟨[], []⟩, t :: r⟩ else nameD t.2 r
theorem body_left : ∀ (r : List Tk) (cur : List ItemD) (done : List (List ItemD)), (bodyD r cur done).left.length ≤ r.length ∧ ((bodyD r cur done).ok = true → (bodyD r cur done).left.length < r.length)
  | [], cur, done => by simp [bodyD]
  | t :: r, cur, done => by
    unfold bodyD
    split
    · have := body_left r (cur ++ [⟨decide (t.1 = 2), t.2⟩]) done
      exact ⟨by simp; omega, fun h => by have := this.2 h; simp; omega⟩
    · split
      · have := body_left r [] (done ++ [cur])
        exact ⟨by simp; omega, fun h => by have := this.2 h; simp; omega⟩
      · split
        · simp
        · simp
theorem name_left (n : List UInt8) (r : List Tk) : (nameD n r).left.length ≤ r.length ∧ ((nameD n r).ok = true → (nameD n r).left.length < r.length) := by
  cases r with
  | nil => simp [nameD]
  | cons c q =>
    have e : nameD n (c :: q) = if c.1 = 3 then ⟨(bodyD q [] []).ok, ⟨n, (bodyD q [] []).alts⟩, (bodyD q [] []).left⟩ else ⟨false, ⟨[], []⟩, c :: q⟩ := rfl
    rw [e, List.length_cons]
    by_cases h3 : c.1 = 3
    · rw [if_pos h3]
      have := body_left q [] []
      exact ⟨by simp only; omega, fun h => by have := this.2 h; simp only; omega⟩
    · rw [if_neg h3]
      simp
theorem rule_left (r : List Tk) : (ruleD r).left.length ≤ r.length ∧ ((ruleD r).ok = true → (ruleD r).left.length < r.length) := by
  cases r with
  | nil => simp [ruleD]
  | cons t r =>
    have e : ruleD (t :: r) = if t.1 ≠ 1 then ⟨false, ⟨[], []⟩, t :: r⟩ else nameD t.2 r := rfl
    rw [e, List.length_cons]
    by_cases h1 : t.1 ≠ 1
    · rw [if_pos h1]
      simp
    · rw [if_neg h1]
      have := name_left t.2 r
      exact ⟨by omega, fun h => by have := this.2 h; omega⟩
/-- Lines that were read, or how many tokens were left where it went wrong. -/
structure LinesD where
  ok : Bool
  lines : List LineD
  left : Nat
def linesD (r : List Tk) : LinesD :=
  match r with
  | [] => ⟨true, [], 0⟩
  | t :: q =>
    if h : (ruleD (t :: q)).ok = true then
      (if (linesD (ruleD (t :: q)).left).ok then ⟨true, (ruleD (t :: q)).line :: (linesD (ruleD (t :: q)).left).lines, 0⟩ else linesD (ruleD (t :: q)).left)
    else ⟨false, [], (ruleD (t :: q)).left.length⟩
termination_by r.length
decreasing_by
  all_goals exact (rule_left (t :: q)).2 h
/-- What a text comes to. -/
structure ParD where
  lines : List LineD
  at_ : Nat
  err : Int
def offT (m : List UInt8) (toks : List TokD) (left : Nat) : Nat := match toks[toks.length - left]? with | some t => t.at_ | none => m.length
def parD (m : List UInt8) : ParD :=
  if (allD m).err ≠ 0 then ⟨[], (allD m).at_, (allD m).err⟩
  else if (linesD ((allD m).toks.map TokD.tk)).ok = false then ⟨[], offT m (allD m).toks (linesD ((allD m).toks.map TokD.tk)).left, 14⟩
  else if (linesD ((allD m).toks.map TokD.tk)).lines = [] then ⟨[], m.length, 14⟩
  else ⟨(linesD ((allD m).toks.map TokD.tk)).lines, 0, 0⟩
def itemT (i : ItemD) : List UInt8 := if i.term then [32, 39] ++ i.text ++ [39] else 32 :: i.text
def altT (a : List ItemD) : List UInt8 := a.flatMap itemT
def altsT : List (List ItemD) → List UInt8
  | [] => []
  | a :: r => altT a ++ r.flatMap fun b => [32, 124] ++ altT b
def lineT (l : LineD) : List UInt8 := l.name ++ [32, 58] ++ altsT l.alts ++ [32, 59, 10]
def textD (l : List LineD) : List UInt8 := l.flatMap lineT
/-- The tokens of lines. -/
def itemK (i : ItemD) : Tk := (if i.term then 2 else 1, i.text)
def altsK : List (List ItemD) → List Tk
  | [] => []
  | a :: r => a.map itemK ++ r.flatMap fun b => (4, [124]) :: b.map itemK
def lineK (l : LineD) : List Tk := (1, l.name) :: (3, [58]) :: (altsK l.alts ++ [(5, [59])])
theorem body_items : ∀ (a : List ItemD) (q : List Tk) (cur : List ItemD) (done : List (List ItemD)), bodyD (a.map itemK ++ q) cur done = bodyD q (cur ++ a) done
  | [], q, cur, done => by simp
  | i :: r, q, cur, done => by
    rw [List.map_cons, List.cons_append, bodyD]
    have h : (itemK i).1 = 1 ∨ (itemK i).1 = 2 := by unfold itemK; cases i.term <;> simp
    have h2 : (⟨decide ((itemK i).1 = 2), (itemK i).2⟩ : ItemD) = i := by unfold itemK; obtain ⟨b, x⟩ := i; cases b <;> simp
    rw [if_pos h, h2, body_items r q]
    simp
theorem body_bars : ∀ (r : List (List ItemD)) (q : List Tk) (cur : List ItemD) (done : List (List ItemD)), bodyD ((r.flatMap fun b => (4, [124]) :: b.map itemK) ++ (5, [59]) :: q) cur done = ⟨true, done ++ cur :: r, q⟩
  | [], q, cur, done => by simp [bodyD]
  | b :: r, q, cur, done => by
    rw [List.flatMap_cons, List.cons_append, List.cons_append, bodyD, if_neg (by simp), if_pos rfl, List.append_assoc, body_items, body_bars r q]
    simp
theorem body_back (l : LineD) (h : l.alts ≠ []) (q : List Tk) : ruleD (lineK l ++ q) = ⟨true, l, q⟩ := by
  obtain ⟨n, al⟩ := l
  cases al with
  | nil => exact absurd rfl h
  | cons a r =>
    unfold lineK altsK
    simp only [List.cons_append, List.append_assoc, List.nil_append]
    have hb := body_items a ((r.flatMap fun b => (4, [124]) :: b.map itemK) ++ (5, [59]) :: q) [] []
    rw [body_bars] at hb
    have e1 : ∀ r : List Tk, ruleD ((1, n) :: r) = nameD n r := fun r => by simp [ruleD]
    have e2 : ∀ r : List Tk, nameD n ((3, [58]) :: r) = ⟨(bodyD r [] []).ok, ⟨n, (bodyD r [] []).alts⟩, (bodyD r [] []).left⟩ := fun r => by simp [nameD]
    rw [e1, e2, hb]
    simp
theorem lines_back : ∀ (l : List LineD), (∀ x ∈ l, x.alts ≠ []) → linesD (l.flatMap lineK) = ⟨true, l, 0⟩
  | [], _ => by rw [List.flatMap_nil, linesD]
  | x :: l, h => by
    have hb := body_back x (h x (by simp)) (l.flatMap lineK)
    have ih := lines_back l (fun y hy => h y (by simp [hy]))
    rw [List.flatMap_cons]
    have hc : lineK x ++ l.flatMap lineK = (1, x.name) :: ((3, [58]) :: (altsK x.alts ++ [(5, [59])]) ++ l.flatMap lineK) := rfl
    rw [hc] at hb ⊢
    rw [linesD, dif_pos (by rw [hb]), hb]
    simp only
    rw [ih]
    rfl
end Go.Proofs.Ytapkohdbnfaacaa

/-! Plain mathematics of grammars (layer 14). Nothing here names the program. -/
namespace Go.Proofs.Ytapkohdbnfaacaa

structure RuleG where
  left : Int
  right : List Int
structure GramG where
  names : List (List UInt8)
  terms : List (List UInt8)
  rules : List RuleG
theorem RuleG.ext' {a b : RuleG} (h1 : a.left = b.left) (h2 : a.right = b.right) : a = b := by cases a; cases b; simp_all
theorem GramG.ext' {a b : GramG} (h1 : a.names = b.names) (h2 : a.terms = b.terms) (h3 : a.rules = b.rules) : a = b := by cases a; cases b; simp_all
/-- A truth as a Bool. -/
noncomputable def boolOf (p : Prop) : Bool := @decide p (Classical.propDecidable p)
theorem boolOf_true {p : Prop} (h : p) : boolOf p = true := by unfold boolOf; exact @decide_eq_true p (Classical.propDecidable p) h
theorem boolOf_false {p : Prop} (h : ¬ p) : boolOf p = false := by unfold boolOf; exact @decide_eq_false p (Classical.propDecidable p) h
theorem boolOf_congr {p q : Prop} (h : p ↔ q) : boolOf p = boolOf q := by rw [show p = q from propext h]
theorem of_boolOf {p : Prop} (h : boolOf p = true) : p := Classical.byContradiction fun hn => by rw [boolOf_false hn] at h; cases h
theorem boolOf_cases (p : Prop) : (p ∧ boolOf p = true) ∨ (¬ p ∧ boolOf p = false) := (Classical.em p).elim (fun h => .inl ⟨h, boolOf_true h⟩) (fun h => .inr ⟨h, boolOf_false h⟩)
/-- The place of a text in a list; -1: it is not there. -/
def findG : List (List UInt8) → List UInt8 → Int
  | [], _ => -1
  | x :: l, s => if x = s then 0 else if findG l s < 0 then -1 else findG l s + 1
theorem find_at : ∀ {l : List (List UInt8)} {s : List UInt8} {k : Nat} (hk : k < l.length), l[k] = s → (∀ j (h : j < k), l[j]'(by omega) ≠ s) → findG l s = (k : Int)
  | [], s, k, hk, _, _ => by simp at hk
  | x :: l, s, k, hk, h1, h2 => by
    unfold findG
    cases k with
    | zero => rw [if_pos (by simpa using h1)]; rfl
    | succ k =>
      have h0 : ¬ x = s := by simpa using h2 0 (by omega)
      have := find_at (l := l) (s := s) (k := k) (by simpa using hk) (by simpa using h1) (fun j h => by simpa using h2 (j + 1) (by omega))
      rw [if_neg h0, this, if_neg (by omega)]
      omega
theorem find_no : ∀ {l : List (List UInt8)} {s : List UInt8}, s ∉ l → findG l s = -1
  | [], s, _ => rfl
  | x :: l, s, h => by
    unfold findG
    rw [if_neg (fun e => h (by simp [e])), find_no (fun hm => h (by simp [hm])), if_pos (by omega)]
theorem find_yes : ∀ {l : List (List UInt8)} {s : List UInt8}, s ∈ l → ∃ (k : Nat) (hk : k < l.length), findG l s = (k : Int) ∧ l[k] = s ∧ ∀ j (h : j < k), l[j]'(by omega) ≠ s
  | [], s, h => by simp at h
  | x :: l, s, h => by
    unfold findG
    by_cases e : x = s
    · exact ⟨0, by simp, by rw [if_pos e]; rfl, by simpa using e, fun j hj => by omega⟩
    · have hm : s ∈ l := by
        rcases List.mem_cons.1 h with q | q
        · exact absurd q.symm e
        · exact q
      obtain ⟨k, hk, h1, h2, h3⟩ := find_yes hm
      refine ⟨k + 1, by simp; omega, by rw [if_neg e, h1, if_neg (by omega)]; omega, by simpa using h2, fun j hj => ?_⟩
      cases j with
      | zero => simpa using e
      | succ j => simpa using h3 j (by omega)
theorem find_le {l : List (List UInt8)} {i : Nat} (hi : i < l.length) : ∃ k : Nat, findG l l[i] = (k : Int) ∧ k ≤ i ∧ (k = i ↔ ∀ j (h : j < i), l[j]'(by omega) ≠ l[i]) := by
  obtain ⟨k, hk, h1, h2, h3⟩ := find_yes (List.getElem_mem hi)
  have hle : k ≤ i := by
    rcases Nat.lt_or_ge i k with q | q
    · exact absurd rfl (h3 i q)
    · exact q
  refine ⟨k, h1, hle, fun e => ?_, fun h => ?_⟩
  · subst e; exact h3
  · rcases Nat.lt_or_ge k i with q | q
    · exact absurd h2 (h k q)
    · omega
theorem nodup_iff {α : Type} {l : List α} : l.Nodup ↔ ∀ i (hi : i < l.length) j (hj : j < i), l[j]'(by omega) ≠ l[i] := by
  unfold List.Nodup
  rw [List.pairwise_iff_getElem]
  exact ⟨fun h i hi j hj => h j i (by omega) hi hj, fun h i j hi hj hij => h j hj i hij⟩
/-- A grammar that may be. -/
structure ValidG (g : GramG) : Prop where
  one : 1 ≤ g.names.length
  syms : g.names.length + g.terms.length ≤ 256
  few : g.rules.length ≤ 4096
  names : ∀ n ∈ g.names, nameB n = true
  nodupN : g.names.Nodup
  has : ∀ i : Nat, i < g.names.length → ∃ r ∈ g.rules, r.left = (i : Int)
  terms : ∀ t ∈ g.terms, termB t = true
  nodupT : g.terms.Nodup
  rules : ∀ r ∈ g.rules, 0 ≤ r.left ∧ r.left < (g.names.length : Int) ∧ r.right.length ≤ 64 ∧ ∀ s ∈ r.right, -(g.terms.length : Int) ≤ s ∧ s < (g.names.length : Int)
  nodupR : g.rules.Nodup
noncomputable def validB (g : GramG) : Bool := boolOf (ValidG g)
noncomputable def sameB (g h : GramG) : Bool := boolOf (g = h)
/-- The rules of a nonterminal: their numbers. -/
def ofFrom : List RuleG → Int → Nat → List Int
  | [], _, _ => []
  | r :: l, a, i => if r.left = a then (i : Int) :: ofFrom l a (i + 1) else ofFrom l a (i + 1)
def ofG (g : GramG) (a : Int) : List Int := ofFrom g.rules a 0
/-- A small grammar. -/
def FewG (g : GramG) : Prop := g.names.length ≤ 12 ∧ g.terms.length ≤ 12 ∧ g.rules.length ≤ 40 ∧ (∀ r ∈ g.rules, r.right.length ≤ 20) ∧ (∀ n ∈ g.names, n.length ≤ 40) ∧ ∀ t ∈ g.terms, t.length ≤ 40
noncomputable def fewB (g : GramG) : Int := if boolOf (FewG g) = true then 1 else 0
/-- A symbol as an item. -/
def itemG (g : GramG) (s : Int) : ItemD := if s < 0 then ⟨true, g.terms.getD (-1 - s).toNat []⟩ else ⟨false, g.names.getD s.toNat []⟩
def altsG (g : GramG) (i : Nat) : List (List ItemD) := (g.rules.filter fun r => decide (r.left = (i : Int))).map fun r => r.right.map (itemG g)
/-- A grammar's lines. -/
def linesG (g : GramG) : List LineD := g.names.zipIdx.map fun p => ⟨p.1, altsG g p.2⟩
/-- The terminals of items, in the order in which they first stand. -/
def addT (acc : List (List UInt8)) (i : ItemD) : List (List UInt8) := if i.term = true ∧ i.text ∉ acc then acc ++ [i.text] else acc
def itemsOf (ls : List LineD) : List ItemD := ls.flatMap fun l => l.alts.flatten
def termsOf (is : List ItemD) : List (List UInt8) := is.foldl addT []
def symG (names terms : List (List UInt8)) (i : ItemD) : Int := if i.term then -1 - findG terms i.text else findG names i.text
def rulesOf (names terms : List (List UInt8)) (ls : List LineD) : List RuleG := ls.zipIdx.flatMap fun p => p.1.alts.map fun a => ⟨(p.2 : Int), a.map (symG names terms)⟩
def gramOf (ls : List LineD) : GramG := ⟨ls.map (·.name), termsOf (itemsOf ls), rulesOf (ls.map (·.name)) (termsOf (itemsOf ls)) ls⟩
def emptyG : GramG := ⟨[], [], []⟩
structure ResD where
  g : GramG
  err : Int
/-- The alternatives are too many, or too long. -/
def BoundL (ls : List LineD) : Prop := (∃ l ∈ ls, ∃ a ∈ l.alts, 64 < a.length) ∨ 4096 < (ls.map fun l => l.alts.length).sum ∨ 256 < ls.length
def UndefL (ls : List LineD) : Prop := ∃ i ∈ itemsOf ls, i.term = false ∧ i.text ∉ ls.map (·.name)
/-- What lines come to. -/
noncomputable def resolveG (ls : List LineD) : ResD :=
  if boolOf (BoundL ls) = true then ⟨emptyG, 19⟩
  else if boolOf ((ls.map (·.name)).Nodup) = false then ⟨emptyG, 15⟩
  else if boolOf (UndefL ls) = true then ⟨emptyG, 16⟩
  else if 256 < (gramOf ls).names.length + (gramOf ls).terms.length then ⟨emptyG, 19⟩
  else if boolOf ((gramOf ls).rules.Nodup) = false then ⟨emptyG, 15⟩
  else ⟨gramOf ls, 0⟩
/-- How many terminals have been seen; none: one came too early. -/
def seenG : List Int → Nat → Option Nat
  | [], n => some n
  | s :: l, n => if s < 0 ∧ (n : Int) < -1 - s then none else if s < 0 ∧ -1 - s = (n : Int) then seenG l (n + 1) else seenG l n
/-- The rules stand by rising left sides, the terminals in their order. -/
def OrderG (g : GramG) : Prop := (∀ i (h : i + 1 < g.rules.length), (g.rules[i]'(by omega)).left ≤ (g.rules[i + 1]'h).left) ∧ seenG (g.rules.flatMap (·.right)) 0 = some g.terms.length
end Go.Proofs.Ytapkohdbnfaacaa

/-! Plain mathematics of sorting by insertion from behind, as a document may write it; orders on texts, symbols and rules (layer 16). Nothing here names the program. -/
namespace Go.Proofs.Ytapkohdbnfaacaa

/-- A strict order in which different things of D can be told apart. -/
structure Ord {α : Type} (D : α → Prop) (lt : α → α → Bool) : Prop where
  irr : ∀ a, lt a a = false
  trans : ∀ a b c, lt a b = true → lt b c = true → lt a c = true
  tot : ∀ a b, D a → D b → a ≠ b → lt a b = false → lt b a = true
/-- Where x goes among the first n, not before the first 'stay'. -/
def insPos {α : Type} (lt : α → α → Bool) (stay : Nat) (x : α) (out : List α) : Nat → Nat
  | 0 => 0
  | n + 1 => if stay < n + 1 ∧ (out[n]?.map (lt x)) = some true then insPos lt stay x out n else n + 1
def insB {α : Type} (lt : α → α → Bool) (stay : Nat) (out : List α) (x : α) : List α := out.take (insPos lt stay x out out.length) ++ x :: out.drop (insPos lt stay x out out.length)
def sortB {α : Type} (lt : α → α → Bool) (stay : Nat) (l : List α) : List α := l.foldl (insB lt stay) []
theorem insPos_le {α : Type} (lt : α → α → Bool) (stay : Nat) (x : α) (out : List α) : ∀ n, insPos lt stay x out n ≤ n
  | 0 => Nat.le_refl _
  | n + 1 => by
    unfold insPos
    split
    · have := insPos_le lt stay x out n; omega
    · exact Nat.le_refl _
theorem insB_perm {α : Type} (lt : α → α → Bool) (stay : Nat) (out : List α) (x : α) : List.Perm (insB lt stay out x) (x :: out) := by
  unfold insB
  have h := (List.perm_middle (a := x) (l₁ := out.take (insPos lt stay x out out.length)) (l₂ := out.drop (insPos lt stay x out out.length)))
  rw [List.take_append_drop] at h
  exact h
theorem sortB_fold {α : Type} (lt : α → α → Bool) (stay : Nat) : ∀ (l out : List α), List.Perm (l.foldl (insB lt stay) out) (out ++ l)
  | [], out => by rw [List.append_nil]; exact List.Perm.refl _
  | x :: l, out => by
    rw [List.foldl_cons]
    refine (sortB_fold lt stay l _).trans ?_
    refine ((insB_perm lt stay out x).append_right l).trans ?_
    rw [List.cons_append]
    exact List.perm_middle.symm
theorem sortB_perm {α : Type} (lt : α → α → Bool) (stay : Nat) (l : List α) : List.Perm (sortB lt stay l) l := sortB_fold lt stay l []
theorem sortB_len {α : Type} (lt : α → α → Bool) (stay : Nat) (l : List α) : (sortB lt stay l).length = l.length := (sortB_perm lt stay l).length_eq
/-- Nothing stands ahead of what it is less than. -/
def Rising {α : Type} (lt : α → α → Bool) (l : List α) : Prop := l.Pairwise fun a b => lt b a = false
theorem le_trans_of {α : Type} {D : α → Prop} {lt : α → α → Bool} (h : Ord D lt) {a b c : α} (da : D a) (db : D b) (h1 : lt b a = false) (h2 : lt c b = false) : lt c a = false := by
  cases e : lt c a with
  | false => rfl
  | true =>
    exfalso
    by_cases e1 : a = b
    · subst e1; rw [h2] at e; cases e
    · have h3 : lt a b = true := h.tot b a db da (fun q => e1 q.symm) h1
      have := h.trans c a b e h3
      rw [h2] at this
      cases this
theorem take_pos {α : Type} {lt : α → α → Bool} {x : α} {out : List α} : ∀ n, n ≤ out.length → ∀ j (h : j < out.length), insPos lt 0 x out n ≤ j → j < n → lt x (out[j]'h) = true
  | 0, _, j, _, _, h2 => by omega
  | n + 1, hn, j, h, h1, h2 => by
    unfold insPos at h1
    split at h1
    · next q =>
      by_cases e : j = n
      · subst e
        have := q.2
        rw [List.getElem?_eq_getElem h] at this
        simpa using this
      · exact take_pos n (by omega) j h h1 (by omega)
    · omega
theorem pos_ahead {α : Type} {lt : α → α → Bool} {x : α} {out : List α} : ∀ n, n ≤ out.length → ∀ p, p = insPos lt 0 x out n → 0 < p → ∃ h : p - 1 < out.length, lt x (out[p - 1]'h) = false
  | 0, _, p, e, h => by rw [e] at h; simp [insPos] at h
  | n + 1, hn, p, e, hpos => by
    have e1 : insPos lt 0 x out (n + 1) = if 0 < n + 1 ∧ (out[n]?.map (lt x)) = some true then insPos lt 0 x out n else n + 1 := rfl
    by_cases q : 0 < n + 1 ∧ (out[n]?.map (lt x)) = some true
    · rw [if_pos q] at e1
      exact pos_ahead n (by omega) p (e.trans e1) hpos
    · rw [if_neg q] at e1
      obtain rfl : p = n + 1 := e.trans e1
      refine ⟨by omega, ?_⟩
      show lt x (out[n]'(by omega)) = false
      have hq : ¬ (out[n]?.map (lt x)) = some true := fun e => q ⟨by omega, e⟩
      rw [List.getElem?_eq_getElem (by omega)] at hq
      simpa using hq
theorem rising_insB {α : Type} {D : α → Prop} {lt : α → α → Bool} (h : Ord D lt) {out : List α} (x : α) (hd : ∀ y ∈ out, D y) (ho : Rising lt out) : Rising lt (insB lt 0 out x) := by
  unfold insB Rising
  have hp := insPos_le lt 0 x out out.length
  obtain ⟨p, hpe⟩ : ∃ p, p = insPos lt 0 x out out.length := ⟨_, rfl⟩
  have h1 : ∀ j (hj : j < out.length), p ≤ j → lt x (out[j]'hj) = true := fun j hj hpj => take_pos out.length (Nat.le_refl _) j hj (by rw [← hpe]; exact hpj) hj
  have h2 : ∀ j (hj : j < out.length), j < p → lt x (out[j]'hj) = false := by
    intro j hj hjp
    obtain ⟨hq, hlt⟩ := pos_ahead (lt := lt) (x := x) (out := out) out.length (Nat.le_refl _) p hpe (by omega)
    by_cases e : j = p - 1
    · subst e; exact hlt
    · exact le_trans_of h (hd _ (List.getElem_mem hj)) (hd _ (List.getElem_mem hq)) (List.pairwise_iff_getElem.1 ho j (p - 1) hj hq (by omega)) hlt
  rw [← hpe] at hp ⊢
  rw [List.pairwise_append, List.pairwise_cons]
  refine ⟨List.Pairwise.sublist (List.take_sublist _ _) ho, ⟨fun y hy => ?_, List.Pairwise.sublist (List.drop_sublist _ _) ho⟩, fun a ha b hb => ?_⟩
  · obtain ⟨j, hj, rfl⟩ := List.getElem_of_mem hy
    rw [List.length_drop] at hj
    rw [List.getElem_drop]
    have h3 := h1 (p + j) (by omega) (by omega)
    cases e : lt (out[p + j]'(by omega)) x with
    | false => rfl
    | true => have := h.trans _ _ _ h3 e; rw [h.irr] at this; cases this
  · obtain ⟨i, hi, rfl⟩ := List.getElem_of_mem ha
    rw [List.length_take] at hi
    rw [List.getElem_take]
    have hx := h2 i (by omega) (by omega)
    rcases List.mem_cons.1 hb with rfl | hb
    · exact hx
    · obtain ⟨j, hj, rfl⟩ := List.getElem_of_mem hb
      rw [List.length_drop] at hj
      rw [List.getElem_drop]
      exact List.pairwise_iff_getElem.1 ho i (p + j) (by omega) (by omega) (by omega)
theorem insB_mem {α : Type} {lt : α → α → Bool} {stay : Nat} {out : List α} {x y : α} : y ∈ insB lt stay out x ↔ y = x ∨ y ∈ out := by
  rw [(insB_perm lt stay out x).mem_iff, List.mem_cons]
theorem rising_fold {α : Type} {D : α → Prop} {lt : α → α → Bool} (h : Ord D lt) : ∀ (l out : List α), (∀ y ∈ l, D y) → (∀ y ∈ out, D y) → Rising lt out → Rising lt (l.foldl (insB lt 0) out)
  | [], _, _, _, ho => ho
  | x :: l, _, hl, hd, ho => rising_fold h l _ (fun y hy => hl y (by simp [hy])) (fun y hy => (insB_mem.1 hy).elim (fun e => e ▸ hl x (by simp)) (hd y)) (rising_insB h x hd ho)
theorem sortB_rising {α : Type} {D : α → Prop} {lt : α → α → Bool} (h : Ord D lt) {l : List α} (hl : ∀ y ∈ l, D y) : Rising lt (sortB lt 0 l) := rising_fold h l [] hl (by simp) List.Pairwise.nil
/-- There is one rising list of the same things. -/
theorem rising_unique {α : Type} {D : α → Prop} {lt : α → α → Bool} (h : Ord D lt) : ∀ {a b : List α}, (∀ y ∈ a, D y) → List.Perm a b → Rising lt a → Rising lt b → a = b
  | [], b, _, hp, _, _ => by have := hp.length_eq; simp at this; exact (List.eq_nil_of_length_eq_zero this.symm).symm
  | x :: a, [], _, hp, _, _ => by have := hp.length_eq; simp at this
  | x :: a, y :: b, hd, hp, ha, hb => by
    obtain ⟨ha1, ha2⟩ := List.pairwise_cons.1 ha
    obtain ⟨hb1, hb2⟩ := List.pairwise_cons.1 hb
    have e : x = y := by
      apply Classical.byContradiction
      intro hne
      have hx : x ∈ b := by
        rcases List.mem_cons.1 (hp.mem_iff.1 (by simp : x ∈ x :: a)) with q | q
        · exact absurd q hne
        · exact q
      have hy : y ∈ a := by
        rcases List.mem_cons.1 (hp.mem_iff.2 (by simp : y ∈ y :: b)) with q | q
        · exact absurd q.symm hne
        · exact q
      have h1 := ha1 y hy
      have h2 := hb1 x hx
      have := h.tot x y (hd x (by simp)) (hd y (by simp [hy])) hne h2
      rw [h1] at this
      cases this
    subst e
    rw [rising_unique h (fun z hz => hd z (by simp [hz])) (List.Perm.cons_inv hp) ha2 hb2]
theorem sortB_mem {α : Type} {lt : α → α → Bool} {stay : Nat} {l : List α} {y : α} : y ∈ sortB lt stay l ↔ y ∈ l := (sortB_perm lt stay l).mem_iff
theorem sortB_unique {α : Type} {D : α → Prop} {lt : α → α → Bool} (h : Ord D lt) {a b : List α} (hd : ∀ y ∈ a, D y) (hp : List.Perm a b) : sortB lt 0 a = sortB lt 0 b :=
  rising_unique h (fun y hy => hd y (sortB_mem.1 hy)) (((sortB_perm lt 0 a).trans hp).trans (sortB_perm lt 0 b).symm) (sortB_rising h hd) (sortB_rising h (fun y hy => hd y (hp.mem_iff.2 hy)))
theorem sortB_id {α : Type} {D : α → Prop} {lt : α → α → Bool} (h : Ord D lt) {a : List α} (hd : ∀ y ∈ a, D y) (ha : Rising lt a) : sortB lt 0 a = a := rising_unique h (fun y hy => hd y (sortB_mem.1 hy)) (sortB_perm lt 0 a) (sortB_rising h hd) ha

/-! The first one stays. -/
theorem insPos_one {α : Type} (lt : α → α → Bool) (x f : α) (out : List α) : ∀ n, insPos lt 1 x (f :: out) (n + 1) = insPos lt 0 x out n + 1
  | 0 => by
    have e1 : insPos lt 1 x (f :: out) 1 = if 1 < 1 ∧ ((f :: out)[0]?.map (lt x)) = some true then insPos lt 1 x (f :: out) 0 else 1 := rfl
    rw [e1, if_neg (fun h => absurd h.1 (by omega))]
    rfl
  | n + 1 => by
    have e1 : insPos lt 1 x (f :: out) (n + 1 + 1) = if 1 < n + 1 + 1 ∧ (out[n]?.map (lt x)) = some true then insPos lt 1 x (f :: out) (n + 1) else n + 1 + 1 := rfl
    have e2 : insPos lt 0 x out (n + 1) = if 0 < n + 1 ∧ (out[n]?.map (lt x)) = some true then insPos lt 0 x out n else n + 1 := rfl
    rw [e1, e2]
    by_cases q : (out[n]?.map (lt x)) = some true
    · rw [if_pos ⟨by omega, q⟩, if_pos ⟨by omega, q⟩]
      exact insPos_one lt x f out n
    · rw [if_neg (fun h => q h.2), if_neg (fun h => q h.2)]
theorem insB_one {α : Type} (lt : α → α → Bool) (x f : α) (out : List α) : insB lt 1 (f :: out) x = f :: insB lt 0 out x := by
  unfold insB
  rw [List.length_cons, insPos_one]
  rfl
theorem fold_one {α : Type} (lt : α → α → Bool) (f : α) : ∀ (l out : List α), l.foldl (insB lt 1) (f :: out) = f :: l.foldl (insB lt 0) out
  | [], _ => rfl
  | x :: l, out => by rw [List.foldl_cons, List.foldl_cons, insB_one, fold_one lt f l]
theorem sort_one {α : Type} (lt : α → α → Bool) (f : α) (l : List α) : sortB lt 1 (f :: l) = f :: sortB lt 0 l := by
  unfold sortB
  rw [List.foldl_cons]
  exact fold_one lt f l []

/-! Orders. -/
def AnyS (_ : List UInt8) : Prop := True
theorem ord_bytes : Ord AnyS lessB := ⟨lessB_irr, lessB_trans, fun a b _ _ => lessB_total a b⟩
/-- The rank of a symbol: terminals ahead. -/
def rankG (s : Int) : Int := if s < 0 then -1 - s else 1000 + s
def lessSyms : List Int → List Int → Bool
  | [], [] => false
  | [], _ :: _ => true
  | _ :: _, [] => false
  | a :: x, b :: y => if a = b then lessSyms x y else decide (rankG a < rankG b)
def lessR (a b : RuleG) : Bool := if a.left = b.left then lessSyms a.right b.right else decide (a.left < b.left)
/-- The symbols of a rule are as few as a grammar's. -/
def FewS (r : RuleG) : Prop := ∀ s ∈ r.right, -1000 ≤ s
theorem rank_inj {a b : Int} (ha : -1000 ≤ a) (hb : -1000 ≤ b) (h : rankG a = rankG b) : a = b := by
  unfold rankG at h
  split at h <;> split at h <;> omega
theorem syms_irr : ∀ a, lessSyms a a = false
  | [] => rfl
  | a :: x => by unfold lessSyms; rw [if_pos rfl]; exact syms_irr x
theorem syms_trans : ∀ a b c, lessSyms a b = true → lessSyms b c = true → lessSyms a c = true
  | [], [], _, h, _ => by simp [lessSyms] at h
  | [], _ :: _, [], _, k => by simp [lessSyms] at k
  | [], _ :: _, _ :: _, _, _ => rfl
  | _ :: _, [], _, h, _ => by simp [lessSyms] at h
  | _ :: _, _ :: _, [], _, k => by simp [lessSyms] at k
  | a :: x, b :: y, c :: z, h, k => by
    unfold lessSyms at h k ⊢
    by_cases e1 : a = b
    · rw [if_pos e1] at h
      by_cases e2 : b = c
      · rw [if_pos e2] at k
        rw [if_pos (e1.trans e2)]
        exact syms_trans x y z h k
      · rw [if_neg e2] at k
        rw [if_neg (fun e => e2 (e1.symm.trans e)), e1]
        exact k
    · rw [if_neg e1] at h
      by_cases e2 : b = c
      · subst e2
        rw [if_neg e1]
        exact h
      · rw [if_neg e2] at k
        have h' := of_decide_eq_true h
        have k' := of_decide_eq_true k
        rw [if_neg (fun e => by subst e; omega)]
        exact decide_eq_true (by omega)
theorem syms_tot : ∀ a b, (∀ s ∈ a, -1000 ≤ s) → (∀ s ∈ b, -1000 ≤ s) → a ≠ b → lessSyms a b = false → lessSyms b a = true
  | [], [], _, _, h, _ => (h rfl).elim
  | [], _ :: _, _, _, _, k => by simp [lessSyms] at k
  | _ :: _, [], _, _, _, _ => rfl
  | a :: x, b :: y, ha, hb, h, k => by
    unfold lessSyms at k ⊢
    by_cases e : a = b
    · rw [if_pos e] at k
      rw [if_pos e.symm]
      exact syms_tot x y (fun s hs => ha s (by simp [hs])) (fun s hs => hb s (by simp [hs])) (fun q => h (by rw [e, q])) k
    · rw [if_neg e] at k
      rw [if_neg (fun q => e q.symm)]
      have k' := of_decide_eq_false k
      have : rankG a ≠ rankG b := fun q => e (rank_inj (ha a (by simp)) (hb b (by simp)) q)
      exact decide_eq_true (by omega)
theorem ord_rules : Ord FewS lessR where
  irr := fun a => by unfold lessR; rw [if_pos rfl]; exact syms_irr _
  trans := fun a b c h k => by
    unfold lessR at h k ⊢
    by_cases e1 : a.left = b.left
    · rw [if_pos e1] at h
      by_cases e2 : b.left = c.left
      · rw [if_pos e2] at k
        rw [if_pos (e1.trans e2)]
        exact syms_trans _ _ _ h k
      · rw [if_neg e2] at k
        rw [if_neg (fun e => e2 (e1.symm.trans e)), e1]
        exact k
    · rw [if_neg e1] at h
      by_cases e2 : b.left = c.left
      · rw [if_neg (fun e => e1 (e.trans e2.symm)), ← e2]
        exact h
      · rw [if_neg e2] at k
        have h' := of_decide_eq_true h
        have k' := of_decide_eq_true k
        rw [if_neg (by omega)]
        exact decide_eq_true (by omega)
  tot := fun a b ha hb h k => by
    unfold lessR at k ⊢
    by_cases e : a.left = b.left
    · rw [if_pos e] at k
      rw [if_pos e.symm]
      exact syms_tot _ _ ha hb (fun q => h (RuleG.ext' e q)) k
    · rw [if_neg e] at k
      rw [if_neg (fun q => e q.symm)]
      have k' := of_decide_eq_false k
      exact decide_eq_true (by omega)
theorem syms_at : ∀ (k : Nat) (a b : List Int) (ha : k < a.length) (hb : k < b.length), (∀ j (_ : j < k) (h1 : j < a.length) (h2 : j < b.length), a[j]'h1 = b[j]'h2) → a[k]'ha ≠ b[k]'hb → lessSyms a b = decide (rankG (a[k]'ha) < rankG (b[k]'hb))
  | _, [], _, ha, _, _, _ => by simp at ha
  | _, _ :: _, [], _, hb, _, _ => by simp at hb
  | 0, x :: a, y :: b, _, _, _, hne => by
    have hne' : x ≠ y := hne
    unfold lessSyms
    rw [if_neg hne']
    rfl
  | k + 1, x :: a, y :: b, ha, hb, hall, hne => by
    have e : x = y := hall 0 (by omega) (by simp) (by simp)
    have ih := syms_at k a b (by simpa using ha) (by simpa using hb) (fun j hj h1 h2 => hall (j + 1) (by omega) (by simpa using h1) (by simpa using h2)) hne
    unfold lessSyms
    rw [if_pos e]
    exact ih
theorem syms_end : ∀ (a b : List Int), (∀ j (h1 : j < a.length) (h2 : j < b.length), a[j]'h1 = b[j]'h2) → lessSyms a b = decide (a.length < b.length)
  | [], [], _ => rfl
  | [], _ :: _, _ => (decide_eq_true (by simp)).symm
  | _ :: _, [], _ => (decide_eq_false (by simp)).symm
  | x :: a, y :: b, hall => by
    have e : x = y := hall 0 (by simp) (by simp)
    have ih := syms_end a b (fun j h1 h2 => hall (j + 1) (by simpa using h1) (by simpa using h2))
    unfold lessSyms
    rw [if_pos e, ih]
    simp
end Go.Proofs.Ytapkohdbnfaacaa

/-! The sizes of grammars and lines (layer 14). Nothing here names the program. -/
namespace Go.Proofs.Ytapkohdbnfaacaa

/-- No part is larger than any machine of today would have it. -/
structure SizeG (g : GramG) : Prop where
  names : g.names.length ≤ 100000
  terms : g.terms.length ≤ 100000
  rules : g.rules.length ≤ 100000
  right : ∀ r ∈ g.rules, r.right.length ≤ 100000
  name : ∀ n ∈ g.names, n.length ≤ 100000
  term : ∀ t ∈ g.terms, t.length ≤ 100000
/-- The symbols are what 64 bits hold (below). -/
def IntG (g : GramG) : Prop := ∀ r ∈ g.rules, ∀ s ∈ r.right, -9223372036854775808 ≤ s
structure SizeL (ls : List LineD) : Prop where
  lines : ls.length ≤ 100000
  alts : ∀ l ∈ ls, l.alts.length ≤ 100000
  name : ∀ l ∈ ls, l.name.length ≤ 100000
  items : ∀ l ∈ ls, ∀ a ∈ l.alts, a.length ≤ 100000
  text : ∀ l ∈ ls, ∀ a ∈ l.alts, ∀ i ∈ a, i.text.length ≤ 100000
end Go.Proofs.Ytapkohdbnfaacaa

/-! Lines al text are read al the same lines (layer 13): plain mathematics. -/
namespace Go.Proofs.Ytapkohdbnfaacaa

/-- What a token may be. -/
def tkOk (k : Tk) : Prop := (k.1 = 1 ∧ nameB k.2 = true) ∨ (k.1 = 2 ∧ termB k.2 = true) ∨ k.1 = 3 ∨ k.1 = 4 ∨ k.1 = 5
theorem takeWhile_yes (p : UInt8 → Bool) : ∀ l : List UInt8, (l.takeWhile p).all p = true
  | [] => rfl
  | c :: t => by
    rw [List.takeWhile_cons]
    split
    · next h => rw [List.all_cons, h, takeWhile_yes p t]; rfl
    · rfl
theorem next_ok {c : UInt8} {t : List UInt8} (h : (nextD c t).err = 0) : tkOk ((nextD c t).kind, (nextD c t).text) ∧ (nextD c t).text.length ≤ (nextD c t).n := by
  unfold nextD at h ⊢
  by_cases h1 : c = 58
  · rw [if_pos h1]; exact ⟨.inr (.inr (.inl rfl)), Nat.le_refl _⟩
  · rw [if_neg h1] at h ⊢
    by_cases h2 : c = 124
    · rw [if_pos h2]; exact ⟨.inr (.inr (.inr (.inl rfl))), Nat.le_refl _⟩
    · rw [if_neg h2] at h ⊢
      by_cases h3 : c = 59
      · rw [if_pos h3]; exact ⟨.inr (.inr (.inr (.inr rfl))), Nat.le_refl _⟩
      · rw [if_neg h3] at h ⊢
        by_cases h4 : letterB c = true
        · rw [if_pos h4] at h ⊢
          by_cases h5 : 32 < ((c :: t).takeWhile moreB).length
          · rw [if_pos h5] at h; simp [noneD] at h
          · rw [if_neg h5]
            refine ⟨.inl ⟨rfl, ?_⟩, Nat.le_refl _⟩
            have hm : moreB c = true := (letter_num h4).2.2.2.2.2
            have hy := takeWhile_yes moreB (c :: t)
            have hc : (c :: t).takeWhile moreB = c :: t.takeWhile moreB := by rw [List.takeWhile_cons, if_pos hm]
            unfold nameB
            simp only
            rw [hy, hc, decide_eq_true (by rw [hc] at h5; simp at h5 ⊢; omega)]
            simp only
            rw [h4]; rfl
        · rw [if_neg h4] at h ⊢
          by_cases h5 : c = 39
          · rw [if_pos h5] at h ⊢
            unfold termD at h ⊢
            by_cases h6 : (t.drop (t.takeWhile termC).length).head? = some 39 ∧ t.takeWhile termC ≠ []
            · rw [if_pos h6] at h ⊢
              by_cases h7 : 32 < (t.takeWhile termC).length
              · rw [if_pos h7] at h; simp [noneD] at h
              · rw [if_neg h7]
                refine ⟨.inr (.inl ⟨rfl, ?_⟩), by simp⟩
                have hp : 0 < (t.takeWhile termC).length := List.length_pos_iff.2 h6.2
                unfold termB
                simp only
                rw [takeWhile_yes termC t, decide_eq_true (by omega)]; rfl
            · rw [if_neg h6] at h; simp [noneD] at h
          · rw [if_neg h5] at h; simp [noneD] at h
def wtK (k : Tk) : Nat := k.2.length + 4
theorem lex_sound {r : List UInt8} {p : Nat} : (∀ t ∈ (lexD r p).toks, tkOk t.tk) ∧ (((lexD r p).toks.map fun t => wtK t.tk).sum ≤ 5 * r.length) := by
  induction r, p using lexD.induct with
  | case1 p => rw [lex_nil]; simp
  | case2 p c t hb ih => rw [lex_blank t p hb]; exact ⟨ih.1, by have := ih.2; simp only [List.length_cons]; omega⟩
  | case3 p t hb ih =>
    rw [lex_note]
    have := restC_le t
    exact ⟨ih.1, by have := ih.2; simp only [List.length_cons]; omega⟩
  | case4 p c t hb h3 he => rw [lex_err t p (by simpa using hb) h3 he]; simp
  | case5 p c t hb h3 he ih =>
    rw [lexD, if_neg hb, if_neg h3, if_neg he]
    have he0 : (nextD c t).err = 0 := by simpa using he
    have hpos := next_pos he0
    have hok := next_ok he0
    have ih2 := ih.2
    rw [List.length_cons] at hpos ⊢
    rw [List.length_drop] at ih2
    unfold consD
    split
    · refine ⟨fun x hx => ?_, ?_⟩
      · rw [List.mem_cons] at hx
        rcases hx with rfl | hx
        · exact hok.1
        · exact ih.1 x hx
      · rw [List.map_cons, List.sum_cons]
        have : wtK (TokD.tk ⟨(nextD c t).kind, (nextD c t).text, p⟩) = (nextD c t).text.length + 4 := rfl
        rw [this]
        have := hok.2
        omega
    · exact ⟨ih.1, by omega⟩
/-- r gives these tokens, wherever it stands. -/
def Lx (r : List UInt8) (ks : List Tk) : Prop := ∀ p, (lexD r p).err = 0 ∧ (lexD r p).toks.map TokD.tk = ks
theorem Lx.nil : Lx [] [] := fun p => by rw [lex_nil]; exact ⟨rfl, rfl⟩
theorem Lx.blank {c : UInt8} {r : List UInt8} {ks : List Tk} (hc : blankB c = true) (h : Lx r ks) : Lx (c :: r) ks := fun p => by rw [lex_blank r p hc]; exact h (p + 1)
theorem cons_ok {x : TokD} {r : LexD} {ks : List Tk} (h : r.err = 0 ∧ r.toks.map TokD.tk = ks) : (consD x r).err = 0 ∧ (consD x r).toks.map TokD.tk = x.tk :: ks := by
  unfold consD
  rw [if_pos h.1]
  exact ⟨rfl, by rw [List.map_cons, h.2]⟩
theorem Lx.one {c : UInt8} {k : Int} {r : List UInt8} {ks : List Tk} (hc : ∀ t, nextD c t = ⟨k, [c], 1, 0⟩) (hb : blankB c = false) (h35 : c ≠ 35) (h : Lx r ks) : Lx (c :: r) ((k, [c]) :: ks) := fun p => by
  rw [lex_tok r p hb h35 (by rw [hc]), hc]
  exact cons_ok (h (p + 1))
theorem Lx.name {n : List UInt8} {x : UInt8} {q : List UInt8} {ks : List Tk} (hn : nameB n = true) (hx : moreB x = false) (h : Lx (x :: q) ks) : Lx (n ++ x :: q) ((1, n) :: ks) := fun p => by
  unfold nameB at hn
  rw [Bool.and_eq_true, Bool.and_eq_true] at hn
  obtain ⟨⟨h1, h2⟩, h3⟩ := hn
  have h1' := of_decide_eq_true h1
  cases n with
  | nil => simp at h1'
  | cons c t =>
    simp only at h2
    obtain ⟨e1, e2, e3, e4, e5, e6⟩ := letter_num h2
    have hnx : nextD c (t ++ x :: q) = ⟨1, c :: t, (c :: t).length, 0⟩ := by
      unfold nextD
      rw [if_neg e1, if_neg e2, if_neg e3, if_pos h2, ← List.cons_append, takeWhile_stop (c :: t) x q hx, takeWhile_all h3, if_neg (by omega)]
    rw [List.cons_append, lex_tok _ p e5 e4 (by rw [hnx]), hnx, ← List.cons_append]
    simp only
    rw [List.drop_left]
    exact cons_ok (h _)
theorem Lx.term {t : List UInt8} {q : List UInt8} {ks : List Tk} (ht : termB t = true) (h : Lx q ks) : Lx (39 :: (t ++ 39 :: q)) ((2, t) :: ks) := fun p => by
  unfold termB at ht
  rw [Bool.and_eq_true] at ht
  have h1' := of_decide_eq_true ht.1
  have htw : (t ++ 39 :: q).takeWhile termC = t := by rw [takeWhile_stop t 39 q (by decide), takeWhile_all ht.2]
  have hnx : nextD 39 (t ++ 39 :: q) = ⟨2, t, t.length + 2, 0⟩ := by
    unfold nextD
    rw [if_neg (by decide), if_neg (by decide), if_neg (by decide), if_neg (by decide), if_pos rfl]
    unfold termD
    rw [htw, if_pos ⟨by simp, by intro e; rw [e] at h1'; simp at h1'⟩, if_neg (by omega)]
  rw [lex_tok _ p (by decide) (by decide) (by rw [hnx]), hnx]
  simp only
  have hd : (39 :: (t ++ 39 :: q)).drop (t.length + 2) = q := by
    rw [List.drop_succ_cons, List.drop_append, List.drop_eq_nil_of_le (by omega), show t.length + 1 - t.length = 1 from by omega]; rfl
  rw [hd]
  exact cons_ok (h _)
def itemOk (i : ItemD) : Prop := (if i.term then termB i.text else nameB i.text) = true
theorem lx_item {i : ItemD} (hi : itemOk i) {q : List UInt8} {ks : List Tk} (h : Lx (32 :: q) ks) : Lx (itemT i ++ 32 :: q) (itemK i :: ks) := by
  obtain ⟨b, x⟩ := i
  cases b with
  | true =>
    have : itemT ⟨true, x⟩ ++ 32 :: q = 32 :: 39 :: (x ++ 39 :: 32 :: q) := by simp [itemT]
    rw [this]
    exact (Lx.term hi h).blank (by decide)
  | false =>
    have : itemT ⟨false, x⟩ ++ 32 :: q = 32 :: (x ++ 32 :: q) := by simp [itemT]
    rw [this]
    exact (Lx.name hi (by decide) h).blank (by decide)
theorem lx_alt : ∀ (a : List ItemD), (∀ i ∈ a, itemOk i) → ∀ {q : List UInt8} {ks : List Tk}, Lx (32 :: q) ks → Lx (altT a ++ 32 :: q) (a.map itemK ++ ks) ∧ ∃ q', altT a ++ 32 :: q = 32 :: q'
  | [], _, q, ks, h => ⟨by simpa [altT] using h, q, rfl⟩
  | i :: r, hi, q, ks, h => by
    obtain ⟨h1, q', e⟩ := lx_alt r (fun x hx => hi x (by simp [hx])) h
    have h2 : altT (i :: r) ++ 32 :: q = itemT i ++ (altT r ++ 32 :: q) := by simp [altT]
    rw [h2]
    rw [e] at h1 ⊢
    refine ⟨lx_item (hi i (by simp)) h1, ?_⟩
    obtain ⟨b, x⟩ := i
    cases b <;> exact ⟨_, rfl⟩
theorem lx_bars : ∀ (r : List (List ItemD)), (∀ a ∈ r, ∀ i ∈ a, itemOk i) → ∀ {q : List UInt8} {ks : List Tk}, Lx (32 :: q) ks → Lx ((r.flatMap fun b => [32, 124] ++ altT b) ++ 32 :: q) ((r.flatMap fun b => (4, [124]) :: b.map itemK) ++ ks) ∧ ∃ q', (r.flatMap fun b => [32, 124] ++ altT b) ++ 32 :: q = 32 :: q'
  | [], _, q, ks, h => ⟨by simpa using h, q, rfl⟩
  | b :: r, hi, q, ks, h => by
    obtain ⟨h1, q', e⟩ := lx_bars r (fun a ha => hi a (by simp [ha])) h
    rw [e] at h1
    obtain ⟨h2, q2, e2⟩ := lx_alt b (hi b (by simp)) h1
    have h3 : (List.flatMap (fun b => [32, 124] ++ altT b) (b :: r)) ++ 32 :: q = 32 :: 124 :: (altT b ++ 32 :: q') := by
      rw [List.flatMap_cons, List.append_assoc, e]; simp
    rw [h3]
    refine ⟨?_, _, rfl⟩
    have := (Lx.one (c := 124) (k := 4) (fun t => rfl) (by decide) (by decide) h2).blank (c := 32) (by decide)
    simpa using this
def lineOk (l : LineD) : Prop := nameB l.name = true ∧ l.alts ≠ [] ∧ ∀ a ∈ l.alts, ∀ i ∈ a, itemOk i
theorem lx_line {l : LineD} (hl : lineOk l) {q : List UInt8} {ks : List Tk} (h : Lx q ks) : Lx (lineT l ++ q) (lineK l ++ ks) := by
  obtain ⟨n, al⟩ := l
  obtain ⟨h1, h2, h3⟩ := hl
  simp only at h1 h2 h3
  cases al with
  | nil => exact absurd rfl h2
  | cons a r =>
    have hend : Lx (32 :: 59 :: 10 :: q) ((5, [59]) :: ks) := (Lx.one (c := 59) (k := 5) (fun t => rfl) (by decide) (by decide) (h.blank (c := 10) (by decide))).blank (by decide)
    obtain ⟨g1, q1, e1⟩ := lx_bars r (fun b hb => h3 b (by simp [hb])) hend
    rw [e1] at g1
    obtain ⟨g2, q2, e2⟩ := lx_alt a (h3 a (by simp)) g1
    have hall : lineT ⟨n, a :: r⟩ ++ q = n ++ 32 :: 58 :: (altT a ++ 32 :: q1) := by
      rw [← e1]; simp [lineT, altsT]
    rw [hall]
    have := Lx.name h1 (x := 32) (by decide) ((Lx.one (c := 58) (k := 3) (fun t => rfl) (by decide) (by decide) g2).blank (c := 32) (by decide))
    simpa [lineK, altsK] using this
theorem lx_text : ∀ (l : List LineD), (∀ x ∈ l, lineOk x) → Lx (textD l) (l.flatMap lineK)
  | [], _ => Lx.nil
  | x :: l, h => by
    unfold textD
    rw [List.flatMap_cons, List.flatMap_cons]
    exact lx_line (h x (by simp)) (lx_text l (fun y hy => h y (by simp [hy])))
/-- Lines, al text, are read al the same. -/
theorem par_text {l : List LineD} (h : ∀ x ∈ l, lineOk x) (hne : l ≠ []) (hs : (textD l).length ≤ 65536) : parD (textD l) = ⟨l, 0, 0⟩ := by
  have ha : allD (textD l) = lexD (textD l) 0 := by unfold allD; rw [if_neg (by omega)]
  obtain ⟨h1, h2⟩ := lx_text l h 0
  have hb := lines_back l (fun x hx => (h x hx).2.1)
  unfold parD
  rw [ha, if_neg (by simp [h1]), h2, hb, if_neg (by simp), if_neg hne]
end Go.Proofs.Ytapkohdbnfaacaa

/-! What is read of any text is valid, and its text is not too long (layer 13): plain mathematics. -/
namespace Go.Proofs.Ytapkohdbnfaacaa

def wtL (r : List Tk) : Nat := (r.map wtK).sum
def barsT (l : List (List ItemD)) : List UInt8 := l.flatMap fun b => [32, 124] ++ altT b
theorem alts_bars {l : List (List ItemD)} (h : l ≠ []) : (altsT l).length + 2 = (barsT l).length := by
  cases l with
  | nil => exact absurd rfl h
  | cons a r => simp [altsT, barsT]
theorem bars_snoc (l : List (List ItemD)) (a : List ItemD) : (barsT (l ++ [a])).length = (barsT l).length + 2 + (altT a).length := by simp [barsT]; omega
theorem alt_snoc (a : List ItemD) (i : ItemD) : (altT (a ++ [i])).length = (altT a).length + (itemT i).length := by simp [altT]
theorem item_len (i : ItemD) : (itemT i).length ≤ i.text.length + 3 := by unfold itemT; split <;> simp <;> omega
theorem body_sound : ∀ (r : List Tk) (cur : List ItemD) (done : List (List ItemD)), (∀ t ∈ r, tkOk t) → (∀ i ∈ cur, itemOk i) → (∀ a ∈ done, ∀ i ∈ a, itemOk i) → (bodyD r cur done).ok = true →
    (bodyD r cur done).alts ≠ [] ∧ (∀ a ∈ (bodyD r cur done).alts, ∀ i ∈ a, itemOk i) ∧ (barsT (bodyD r cur done).alts).length + 4 + wtL (bodyD r cur done).left ≤ (barsT (done ++ [cur])).length + wtL r ∧ ∀ t ∈ (bodyD r cur done).left, tkOk t
  | [], cur, done, _, _, _, h => by simp [bodyD] at h
  | t :: r, cur, done, ht, hc, hd, h => by
    have htr : ∀ x ∈ r, tkOk x := fun x hx => ht x (by simp [hx])
    have hw : wtL (t :: r) = t.2.length + 4 + wtL r := by simp [wtL, wtK]
    unfold bodyD at h ⊢
    by_cases h1 : t.1 = 1 ∨ t.1 = 2
    · rw [if_pos h1] at h ⊢
      have hi : itemOk ⟨decide (t.1 = 2), t.2⟩ := by
        have := ht t (by simp)
        unfold tkOk at this
        unfold itemOk
        simp only
        rcases h1 with h1 | h1
        · rw [h1] at this ⊢; simpa using this
        · rw [h1] at this ⊢; simpa using this
      obtain ⟨g1, g2, g3, g4⟩ := body_sound r (cur ++ [⟨decide (t.1 = 2), t.2⟩]) done htr (fun i him => by
        rcases List.mem_append.1 him with q | q
        · exact hc i q
        · obtain rfl := List.mem_singleton.1 q; exact hi) hd h
      refine ⟨g1, g2, ?_, g4⟩
      have := item_len ⟨decide (t.1 = 2), t.2⟩
      rw [bars_snoc] at g3 ⊢
      rw [alt_snoc] at g3
      simp only at this
      omega
    · rw [if_neg h1] at h ⊢
      by_cases h4 : t.1 = 4
      · rw [if_pos h4] at h ⊢
        obtain ⟨g1, g2, g3, g4⟩ := body_sound r [] (done ++ [cur]) htr (by simp) (fun a ha => by
          rcases List.mem_append.1 ha with q | q
          · exact hd a q
          · obtain rfl := List.mem_singleton.1 q; exact hc) h
        refine ⟨g1, g2, ?_, g4⟩
        rw [bars_snoc (done ++ [cur])] at g3
        simp [altT] at g3
        omega
      · rw [if_neg h4] at h ⊢
        by_cases h5 : t.1 = 5
        · rw [if_pos h5]
          refine ⟨by simp, fun a ha => ?_, by simp only; omega, htr⟩
          rcases List.mem_append.1 ha with q | q
          · exact hd a q
          · obtain rfl := List.mem_singleton.1 q; exact hc
        · rw [if_neg h5] at h; cases h
theorem rule_sound {r : List Tk} (ht : ∀ t ∈ r, tkOk t) (h : (ruleD r).ok = true) : lineOk (ruleD r).line ∧ (lineT (ruleD r).line).length + wtL (ruleD r).left ≤ wtL r ∧ ∀ t ∈ (ruleD r).left, tkOk t := by
  cases r with
  | nil => simp [ruleD] at h
  | cons t r =>
    have e : ruleD (t :: r) = if t.1 ≠ 1 then ⟨false, ⟨[], []⟩, t :: r⟩ else nameD t.2 r := rfl
    rw [e] at h ⊢
    by_cases h1 : t.1 ≠ 1
    · rw [if_pos h1] at h; cases h
    · rw [if_neg h1] at h ⊢
      cases r with
      | nil => simp [nameD] at h
      | cons c q =>
        have e2 : nameD t.2 (c :: q) = if c.1 = 3 then ⟨(bodyD q [] []).ok, ⟨t.2, (bodyD q [] []).alts⟩, (bodyD q [] []).left⟩ else ⟨false, ⟨[], []⟩, c :: q⟩ := rfl
        rw [e2] at h ⊢
        by_cases h3 : c.1 = 3
        · rw [if_pos h3] at h ⊢
          simp only at h ⊢
          obtain ⟨g1, g2, g3, g4⟩ := body_sound q [] [] (fun x hx => ht x (by simp [hx])) (by simp) (by simp) h
          have hn : nameB t.2 = true := by
            have := ht t (by simp)
            unfold tkOk at this
            have h1' : t.1 = 1 := by simpa using h1
            rw [h1'] at this
            simpa using this
          refine ⟨⟨hn, g1, g2⟩, ?_, g4⟩
          have hab := alts_bars g1
          have hl : (lineT ⟨t.2, (bodyD q [] []).alts⟩).length = t.2.length + 5 + (altsT (bodyD q [] []).alts).length := by simp [lineT]; omega
          have hw : wtL (t :: c :: q) = t.2.length + 4 + (c.2.length + 4 + wtL q) := by simp [wtL, wtK]
          have hb : (barsT ([] ++ [([] : List ItemD)])).length = 2 := by simp [barsT, altT]
          rw [hb] at g3
          rw [hl, hw]
          omega
        · rw [if_neg h3] at h; cases h
theorem lines_sound (n : Nat) : ∀ (r : List Tk), r.length ≤ n → (∀ t ∈ r, tkOk t) → (linesD r).ok = true → (∀ x ∈ (linesD r).lines, lineOk x) ∧ (textD (linesD r).lines).length ≤ wtL r := by
  induction n with
  | zero =>
    intro r hr _ _
    have : r = [] := List.length_eq_zero_iff.1 (by omega)
    subst this
    rw [linesD]; simp [textD]
  | succ n ih =>
    intro r hr ht h
    cases r with
    | nil => rw [linesD]; simp [textD]
    | cons t q =>
      rw [linesD] at h ⊢
      by_cases hk : (ruleD (t :: q)).ok = true
      · rw [dif_pos hk] at h ⊢
        obtain ⟨g1, g2, g3⟩ := rule_sound ht hk
        have hl := (rule_left (t :: q)).2 hk
        by_cases hi : (linesD (ruleD (t :: q)).left).ok = true
        · rw [if_pos hi] at h ⊢
          obtain ⟨k1, k2⟩ := ih _ (by omega) g3 hi
          refine ⟨fun x hx => ?_, ?_⟩
          · rw [List.mem_cons] at hx
            rcases hx with rfl | hx
            · exact g1
            · exact k1 x hx
          · have : textD ((ruleD (t :: q)).line :: (linesD (ruleD (t :: q)).left).lines) = lineT (ruleD (t :: q)).line ++ textD (linesD (ruleD (t :: q)).left).lines := by simp [textD]
            rw [this, List.length_append]
            omega
        · rw [if_neg hi] at h; exact absurd h hi
      · rw [dif_neg hk] at h; cases h
/-- What a text gives, al text, gives the same. -/
theorem par_back {m : List UInt8} (hm : m.length ≤ 2000) (h : (parD m).err = 0) : (parD m).at_ = 0 ∧ (textD (parD m).lines).length ≤ 10000 ∧ parD (textD (parD m).lines) = ⟨(parD m).lines, 0, 0⟩ := by
  have ha : allD m = lexD m 0 := by unfold allD; rw [if_neg (by omega)]
  have hs := lex_sound (r := m) (p := 0)
  have hw : wtL ((lexD m 0).toks.map TokD.tk) ≤ 5 * m.length := by
    unfold wtL
    rw [List.map_map]
    exact hs.2
  unfold parD at h ⊢
  rw [ha] at h ⊢
  by_cases h1 : (lexD m 0).err ≠ 0
  · rw [if_pos h1] at h; exact absurd h h1
  · rw [if_neg h1] at h ⊢
    by_cases h2 : (linesD ((lexD m 0).toks.map TokD.tk)).ok = false
    · rw [if_pos h2] at h; simp at h
    · rw [if_neg h2] at h ⊢
      by_cases h3 : (linesD ((lexD m 0).toks.map TokD.tk)).lines = []
      · rw [if_pos h3] at h; simp at h
      · rw [if_neg h3]
        obtain ⟨g1, g2⟩ := lines_sound _ ((lexD m 0).toks.map TokD.tk) (Nat.le_refl _) (fun t ht => by
          obtain ⟨x, hx, rfl⟩ := List.mem_map.1 ht
          exact hs.1 x hx) (by simpa using h2)
        have hlen : (textD (linesD ((lexD m 0).toks.map TokD.tk)).lines).length ≤ 10000 := by omega
        refine ⟨rfl, hlen, ?_⟩
        have := par_text g1 h3 (by omega)
        unfold parD at this
        exact this
end Go.Proofs.Ytapkohdbnfaacaa

/-! What lines that were read come to is a grammar that may be (layer 14): plain mathematics. -/
namespace Go.Proofs.Ytapkohdbnfaacaa

theorem par_lines {m : List UInt8} (hm : m.length ≤ 2000) (h : (parD m).err = 0) : (∀ x ∈ (parD m).lines, lineOk x) ∧ (parD m).lines ≠ [] ∧ (textD (parD m).lines).length ≤ 10000 := by
  refine ⟨?_, ?_, (par_back hm h).2.1⟩
  · have ha : allD m = lexD m 0 := by unfold allD; rw [if_neg (by omega)]
    have hs := lex_sound (r := m) (p := 0)
    unfold parD at h ⊢
    rw [ha] at h ⊢
    by_cases h1 : (lexD m 0).err ≠ 0
    · rw [if_pos h1] at h; exact absurd h h1
    · rw [if_neg h1] at h ⊢
      by_cases h2 : (linesD ((lexD m 0).toks.map TokD.tk)).ok = false
      · rw [if_pos h2] at h; simp at h
      · rw [if_neg h2] at h ⊢
        by_cases h3 : (linesD ((lexD m 0).toks.map TokD.tk)).lines = []
        · rw [if_pos h3] at h; simp at h
        · rw [if_neg h3]
          exact (lines_sound _ ((lexD m 0).toks.map TokD.tk) (Nat.le_refl _) (fun t ht => by
            obtain ⟨x, hx, rfl⟩ := List.mem_map.1 ht
            exact hs.1 x hx) (by simpa using h2)).1
  · unfold parD at h ⊢
    split at h
    · next q => exact absurd h q
    · next q =>
      rw [if_neg q]
      split at h
      · simp at h
      · next q2 =>
        rw [if_neg q2]
        split at h
        · simp at h
        · next q3 => rw [if_neg q3]; exact q3
theorem mem_textD {ls : List LineD} {l : LineD} (h : l ∈ ls) : (lineT l).length ≤ (textD ls).length := by
  induction ls with
  | nil => simp at h
  | cons x r ih =>
    have e : (textD (x :: r)).length = (lineT x).length + (textD r).length := by simp [textD]
    rcases List.mem_cons.1 h with rfl | h
    · omega
    · have := ih h; omega
theorem lineT_len (l : LineD) : (lineT l).length = l.name.length + (altsT l.alts).length + 5 := by simp [lineT]; omega
theorem len_textD (ls : List LineD) : ls.length ≤ (textD ls).length := by
  induction ls with
  | nil => simp
  | cons x r ih =>
    have e : (textD (x :: r)).length = (lineT x).length + (textD r).length := by simp [textD]
    have := lineT_len x
    simp only [List.length_cons]
    omega
theorem itemT_len (i : ItemD) : i.text.length + 1 ≤ (itemT i).length := by unfold itemT; split <;> simp
theorem mem_altT {a : List ItemD} {i : ItemD} (h : i ∈ a) : (itemT i).length ≤ (altT a).length := by
  induction a with
  | nil => simp at h
  | cons x r ih =>
    have e : (altT (x :: r)).length = (itemT x).length + (altT r).length := by simp [altT]
    rcases List.mem_cons.1 h with rfl | h
    · omega
    · have := ih h; omega
theorem len_altT (a : List ItemD) : a.length ≤ (altT a).length := by
  induction a with
  | nil => simp
  | cons x r ih =>
    have e : (altT (x :: r)).length = (itemT x).length + (altT r).length := by simp [altT]
    have := itemT_len x
    simp only [List.length_cons]
    omega
def barsL (r : List (List ItemD)) : List UInt8 := r.flatMap fun b => [32, 124] ++ altT b
theorem len_barsL (r : List (List ItemD)) : r.length ≤ (barsL r).length := by
  induction r with
  | nil => simp
  | cons x r ih =>
    have e : (barsL (x :: r)).length = 2 + (altT x).length + (barsL r).length := by simp [barsL]; omega
    simp only [List.length_cons]
    omega
theorem mem_barsL {r : List (List ItemD)} {a : List ItemD} (h : a ∈ r) : (altT a).length ≤ (barsL r).length := by
  induction r with
  | nil => simp at h
  | cons x r ih =>
    have e : (barsL (x :: r)).length = 2 + (altT x).length + (barsL r).length := by simp [barsL]; omega
    rcases List.mem_cons.1 h with rfl | h
    · omega
    · have := ih h; omega
theorem altsT_cons (a : List ItemD) (r : List (List ItemD)) : altsT (a :: r) = altT a ++ barsL r := rfl
theorem len_altsT (al : List (List ItemD)) : al.length ≤ (altsT al).length + 1 := by
  cases al with
  | nil => simp
  | cons a r =>
    rw [altsT_cons]
    have := len_barsL r
    simp only [List.length_cons, List.length_append]
    omega
theorem mem_altsT {al : List (List ItemD)} {a : List ItemD} (h : a ∈ al) : (altT a).length ≤ (altsT al).length := by
  cases al with
  | nil => simp at h
  | cons x r =>
    rw [altsT_cons, List.length_append]
    rcases List.mem_cons.1 h with rfl | h
    · omega
    · have := mem_barsL h; omega
theorem size_lines {ls : List LineD} (h : (textD ls).length ≤ 10000) : SizeL ls := by
  have hl : ∀ l ∈ ls, l.name.length + (altsT l.alts).length ≤ 10000 := fun l hm => by
    have h1 := mem_textD hm
    have h2 := lineT_len l
    omega
  refine ⟨by have := len_textD ls; omega, fun l hm => ?_, fun l hm => by have := hl l hm; omega, fun l hm a ha => ?_, fun l hm a ha i hi => ?_⟩
  · have := hl l hm; have := len_altsT l.alts; omega
  · have := hl l hm; have := mem_altsT ha; have := len_altT a; omega
  · have := hl l hm; have := mem_altsT ha; have := mem_altT hi; have := itemT_len i; omega
theorem name_len {m : List UInt8} (h : nameB m = true) : m.length ≤ 32 := by
  unfold nameB at h
  rw [Bool.and_eq_true, Bool.and_eq_true] at h
  exact (of_decide_eq_true h.1.1).2
theorem term_len {m : List UInt8} (h : termB m = true) : m.length ≤ 32 := by
  unfold termB at h
  rw [Bool.and_eq_true] at h
  exact (of_decide_eq_true h.1).2
theorem valid_size {g : GramG} (h : ValidG g) : SizeG g := by
  have h1 := h.syms
  have h2 := h.few
  exact ⟨by omega, by omega, by omega, fun r hr => by have := (h.rules r hr).2.2.1; omega, fun n hn => by have := name_len (h.names n hn); omega, fun n hn => by have := term_len (h.terms n hn); omega⟩
theorem valid_int {g : GramG} (h : ValidG g) : IntG g := fun r hr s hs => by
  have h1 := h.syms
  have := ((h.rules r hr).2.2.2 s hs).1
  omega
theorem empty_int : IntG emptyG := by unfold IntG; decide
theorem empty_size : SizeG emptyG := ⟨by decide, by decide, by decide, by decide, by decide, by decide⟩
theorem empty_not : ¬ ValidG emptyG := fun h => by have := h.one; simp [emptyG] at this
/-- The terminals of items: which they are, and that none is there twice. -/
theorem addT_nodup {acc : List (List UInt8)} (i : ItemD) (h : acc.Nodup) : (addT acc i).Nodup := by
  unfold addT
  split
  · next q => rw [List.nodup_append]; exact ⟨h, by simp, fun a ha b hb => by have hb' : b = i.text := (by simpa using hb); subst hb'; exact fun e => q.2 (e ▸ ha)⟩
  · exact h
theorem foldT_nodup : ∀ (is : List ItemD) (acc : List (List UInt8)), acc.Nodup → (is.foldl addT acc).Nodup
  | [], _, h => h
  | i :: r, acc, h => foldT_nodup r _ (addT_nodup i h)
theorem addT_mem {acc : List (List UInt8)} {i : ItemD} {t : List UInt8} : t ∈ addT acc i ↔ t ∈ acc ∨ (i.term = true ∧ t = i.text) := by
  unfold addT
  split
  · next q => rw [List.mem_append]; simp [q.1]
  · next q =>
    refine ⟨.inl, fun h => h.elim id (fun h => ?_)⟩
    rcases Classical.em (i.text ∈ acc) with z | z
    · rw [h.2]; exact z
    · exact absurd ⟨h.1, z⟩ q
theorem foldT_mem : ∀ (is : List ItemD) (acc : List (List UInt8)) (t : List UInt8), t ∈ is.foldl addT acc ↔ t ∈ acc ∨ ∃ i ∈ is, i.term = true ∧ t = i.text
  | [], acc, t => by simp
  | i :: r, acc, t => by
    rw [List.foldl_cons, foldT_mem r, addT_mem]
    simp only [List.mem_cons]
    refine ⟨?_, ?_⟩
    · rintro ((h | h) | ⟨j, hj, h⟩)
      · exact .inl h
      · exact .inr ⟨i, .inl rfl, h⟩
      · exact .inr ⟨j, .inr hj, h⟩
    · rintro (h | ⟨j, rfl | hj, h⟩)
      · exact .inl (.inl h)
      · exact .inl (.inr h)
      · exact .inr ⟨j, hj, h⟩
theorem terms_mem {is : List ItemD} {t : List UInt8} : t ∈ termsOf is ↔ ∃ i ∈ is, i.term = true ∧ t = i.text := by
  unfold termsOf
  rw [foldT_mem]
  simp
theorem items_mem {ls : List LineD} {i : ItemD} : i ∈ itemsOf ls ↔ ∃ l ∈ ls, ∃ a ∈ l.alts, i ∈ a := by
  unfold itemsOf
  simp [List.mem_flatMap, List.mem_flatten]
theorem rules_mem {names terms : List (List UInt8)} {ls : List LineD} {r : RuleG} : r ∈ rulesOf names terms ls ↔ ∃ (i : Nat) (l : LineD), ls[i]? = some l ∧ ∃ a ∈ l.alts, r = ⟨(i : Int), a.map (symG names terms)⟩ := by
  unfold rulesOf
  rw [List.mem_flatMap]
  refine ⟨?_, ?_⟩
  · rintro ⟨⟨l, i⟩, h, h2⟩
    rw [List.mk_mem_zipIdx_iff_getElem?] at h
    obtain ⟨a, ha, rfl⟩ := List.mem_map.1 h2
    exact ⟨i, l, h, a, ha, rfl⟩
  · rintro ⟨i, l, h, a, ha, rfl⟩
    exact ⟨(l, i), List.mk_mem_zipIdx_iff_getElem?.2 h, List.mem_map.2 ⟨a, ha, rfl⟩⟩
theorem rules_len_from (f : Nat → List ItemD → RuleG) : ∀ (ls : List LineD) (k : Nat), ((ls.zipIdx k).flatMap fun p => p.1.alts.map (f p.2)).length = (ls.map fun l => l.alts.length).sum
  | [], k => rfl
  | l :: r, k => by
    rw [List.zipIdx_cons, List.flatMap_cons, List.length_append, rules_len_from f r (k + 1)]
    simp
theorem rules_len (names terms : List (List UInt8)) (ls : List LineD) : (rulesOf names terms ls).length = (ls.map fun l => l.alts.length).sum := rules_len_from (fun i a => ⟨(i : Int), a.map (symG names terms)⟩) ls 0
theorem sym_range {names terms : List (List UInt8)} {i : ItemD} (h1 : 1 ≤ names.length) (ht : i.term = true → i.text ∈ terms) (hn : i.term = false → i.text ∈ names) : -(terms.length : Int) ≤ symG names terms i ∧ symG names terms i < (names.length : Int) := by
  unfold symG
  cases hb : i.term with
  | true =>
    obtain ⟨k, hk, e, -⟩ := find_yes (ht hb)
    rw [if_pos rfl, e]
    omega
  | false =>
    obtain ⟨k, hk, e, -⟩ := find_yes (hn hb)
    rw [if_neg (by simp), e]
    omega
theorem res_valid {ls : List LineD} (hok : ∀ x ∈ ls, lineOk x) (hne : ls ≠ []) : ((resolveG ls).err = 0 ∧ ValidG (resolveG ls).g) ∨ ((resolveG ls).err ≠ 0 ∧ (resolveG ls).g = emptyG) := by
  unfold resolveG
  by_cases h1 : boolOf (BoundL ls) = true
  · rw [if_pos h1]; right; simp
  rw [if_neg h1]
  by_cases h2 : boolOf ((ls.map (·.name)).Nodup) = false
  · rw [if_pos h2]; right; simp
  rw [if_neg h2]
  by_cases h3 : boolOf (UndefL ls) = true
  · rw [if_pos h3]; right; simp
  rw [if_neg h3]
  by_cases h4 : 256 < (gramOf ls).names.length + (gramOf ls).terms.length
  · rw [if_pos h4]; right; simp
  rw [if_neg h4]
  by_cases h5 : boolOf ((gramOf ls).rules.Nodup) = false
  · rw [if_pos h5]; right; simp
  rw [if_neg h5]
  left
  refine ⟨rfl, ?_⟩
  show ValidG (gramOf ls)
  have hB : ¬ BoundL ls := fun h => h1 (boolOf_true h)
  have hN : (ls.map (·.name)).Nodup := of_boolOf (by simpa using h2)
  have hU : ¬ UndefL ls := fun h => h3 (boolOf_true h)
  have hR : (gramOf ls).rules.Nodup := of_boolOf (by simpa using h5)
  have hpos : 1 ≤ ls.length := List.length_pos_iff.2 hne
  have hnl : (gramOf ls).names.length = ls.length := by simp [gramOf]
  refine ⟨by omega, by omega, ?_, ?_, hN, ?_, ?_, foldT_nodup _ _ (by simp), ?_, hR⟩
  · show (rulesOf _ _ ls).length ≤ 4096
    rw [rules_len]
    rcases Nat.lt_or_ge 4096 (ls.map fun l => l.alts.length).sum with q | q
    · exact absurd (.inr (.inl q)) hB
    · exact q
  · intro n hn
    obtain ⟨l, hl, rfl⟩ := List.mem_map.1 (show n ∈ ls.map (·.name) from hn)
    exact (hok l hl).1
  · intro i hi
    rw [hnl] at hi
    obtain ⟨a, ha⟩ := List.exists_mem_of_ne_nil _ (hok _ (List.getElem_mem hi)).2.1
    exact ⟨_, rules_mem.2 ⟨i, ls[i], List.getElem?_eq_getElem hi, a, ha, rfl⟩, rfl⟩
  · intro t ht
    obtain ⟨i, hi, hti, rfl⟩ := terms_mem.1 (show t ∈ termsOf (itemsOf ls) from ht)
    obtain ⟨l, hl, a, ha, hia⟩ := items_mem.1 hi
    have := (hok l hl).2.2 a ha i hia
    unfold itemOk at this
    rw [if_pos hti] at this
    exact this
  · intro r hr
    obtain ⟨i, l, hl, a, ha, rfl⟩ := rules_mem.1 (show r ∈ rulesOf _ _ ls from hr)
    have hil : i < ls.length := by
      rcases Nat.lt_or_ge i ls.length with q | q
      · exact q
      · rw [List.getElem?_eq_none q] at hl; cases hl
    have hlm : l ∈ ls := List.mem_of_getElem? hl
    refine ⟨by simp, by simp only; omega, ?_, fun s hs => ?_⟩
    · simp only [List.length_map]
      rcases Nat.lt_or_ge 64 a.length with q | q
      · exact absurd (.inl ⟨l, hlm, a, ha, q⟩) hB
      · exact q
    · obtain ⟨it, hit, rfl⟩ := List.mem_map.1 hs
      have him : it ∈ itemsOf ls := items_mem.2 ⟨l, hlm, a, ha, hit⟩
      refine sym_range (by rw [← hnl] at hpos; exact hpos) (fun hb => terms_mem.2 ⟨it, him, hb, rfl⟩) (fun hb => ?_)
      rcases Classical.em (it.text ∈ ls.map (·.name)) with q | q
      · exact q
      · exact absurd ⟨it, him, hb, q⟩ hU
end Go.Proofs.Ytapkohdbnfaacaa

/-! The lines of a grammar that stands in order come to the grammar again (layer 14): plain mathematics. -/
namespace Go.Proofs.Ytapkohdbnfaacaa

theorem lines_names (g : GramG) : (linesG g).map (·.name) = g.names := by
  unfold linesG
  rw [List.map_map]
  have : ((fun l : LineD => l.name) ∘ fun p : List UInt8 × Nat => (⟨p.1, altsG g p.2⟩ : LineD)) = Prod.fst := rfl
  rw [this]
  simp
theorem flat_none {α β : Type} {is : List α} {f : α → List β} (h : ∀ i ∈ is, f i = []) : is.flatMap f = [] := by
  induction is with
  | nil => rfl
  | cons x r ih => rw [List.flatMap_cons, h x (by simp), ih (fun i hi => h i (by simp [hi]))]; rfl
theorem flat_same {α β : Type} {is : List α} {f k : α → List β} (h : ∀ i ∈ is, f i = k i) : is.flatMap f = is.flatMap k := by
  induction is with
  | nil => rfl
  | cons x r ih => rw [List.flatMap_cons, List.flatMap_cons, h x (by simp), ih (fun i hi => h i (by simp [hi]))]
def ruleF (l : List RuleG) (i : Nat) : List RuleG := l.filter fun r => decide (r.left = (i : Int))
/-- Rules by rising left sides, block by block. -/
theorem sorted_flat (k n : Nat) : ∀ (l : List RuleG), (l.Pairwise fun a b => a.left ≤ b.left) → (∀ r ∈ l, (k : Int) ≤ r.left ∧ r.left < ((k + n : Nat) : Int)) → (List.range' k n).flatMap (ruleF l) = l
  | [], _, _ => flat_none (fun i _ => rfl)
  | r :: l, hp, hr => by
    rw [List.pairwise_cons] at hp
    have ih := sorted_flat k n l hp.2 (fun x hx => hr x (by simp [hx]))
    obtain ⟨g1, g2⟩ := hr r (by simp)
    obtain ⟨j, hj⟩ : ∃ j : Nat, r.left = (j : Int) := ⟨r.left.toNat, by omega⟩
    obtain ⟨a, rfl⟩ : ∃ a, j = k + a := ⟨j - k, by omega⟩
    obtain ⟨b, rfl⟩ : ∃ b, n = a + (b + 1) := ⟨n - a - 1, by omega⟩
    have hs : List.range' k (a + (b + 1)) = List.range' k a ++ (k + a) :: List.range' (k + a + 1) b := by
      rw [← List.range'_append_1 (s := k) (m := a) (n := b + 1), List.range'_succ]
    rw [hs, List.flatMap_append, List.flatMap_cons] at ih ⊢
    have e1 : (List.range' k a).flatMap (ruleF (r :: l)) = [] := flat_none (fun i hi => by
      have hi' := (List.mem_range'_1.1 hi)
      unfold ruleF
      rw [List.filter_eq_nil_iff]
      intro x hx
      rcases List.mem_cons.1 hx with rfl | hx
      · simp; omega
      · have := hp.1 x hx; simp; omega)
    have e2 : (List.range' k a).flatMap (ruleF l) = [] := flat_none (fun i hi => by
      have hi' := (List.mem_range'_1.1 hi)
      unfold ruleF
      rw [List.filter_eq_nil_iff]
      intro x hx
      have := hp.1 x hx; simp; omega)
    have e3 : (List.range' (k + a + 1) b).flatMap (ruleF (r :: l)) = (List.range' (k + a + 1) b).flatMap (ruleF l) := flat_same (fun i hi => by
      have hi' := (List.mem_range'_1.1 hi)
      unfold ruleF
      rw [List.filter_cons_of_neg (by simp; omega)])
    have e4 : ruleF (r :: l) (k + a) = r :: ruleF l (k + a) := by
      unfold ruleF
      rw [List.filter_cons_of_pos (by simp [hj])]
    rw [e2, List.nil_append] at ih
    rw [e1, e3, e4, List.nil_append, List.cons_append, ih]
theorem sorted_pair {l : List RuleG} (h : ∀ i (hi : i + 1 < l.length), (l[i]'(by omega)).left ≤ (l[i + 1]'hi).left) : l.Pairwise fun a b => a.left ≤ b.left := by
  rw [List.pairwise_iff_getElem]
  intro i j hi hj hij
  obtain ⟨d, rfl⟩ : ∃ d, j = i + 1 + d := ⟨j - i - 1, by omega⟩
  induction d with
  | zero => exact h i hj
  | succ d ih => exact Int.le_trans (ih (by omega) (by omega)) (h (i + 1 + d) hj)
/-- A flat map over a grammar's lines is one over its nonterminals. -/
theorem lines_flat {β : Type} (g : GramG) (h : Nat → List (List ItemD) → List β) : ∀ (ns : List (List UInt8)) (k : Nat), ((((ns.zipIdx k).map fun p => (⟨p.1, altsG g p.2⟩ : LineD)).zipIdx k).flatMap fun p => h p.2 p.1.alts) = (List.range' k ns.length).flatMap fun i => h i (altsG g i)
  | [], k => rfl
  | n :: r, k => by
    rw [List.zipIdx_cons, List.map_cons, List.zipIdx_cons, List.flatMap_cons, lines_flat g h r (k + 1), List.length_cons, List.range'_succ, List.flatMap_cons]
theorem zip_flat {α β : Type} (h : α → List β) : ∀ (l : List α) (k : Nat), ((l.zipIdx k).flatMap fun p => h p.1) = l.flatMap h
  | [], k => rfl
  | x :: r, k => by rw [List.zipIdx_cons, List.flatMap_cons, List.flatMap_cons, zip_flat h r (k + 1)]
theorem getD_lt {l : List (List UInt8)} {k : Nat} (h : k < l.length) : l.getD k [] = l[k] := by simp [List.getD, List.getElem?_eq_getElem h]
theorem sym_item {g : GramG} (hN : g.names.Nodup) (hT : g.terms.Nodup) {s : Int} (h1 : -(g.terms.length : Int) ≤ s) (h2 : s < (g.names.length : Int)) : symG g.names g.terms (itemG g s) = s := by
  unfold itemG symG
  by_cases h : s < 0
  · rw [if_pos h]
    have hk : (-1 - s).toNat < g.terms.length := by omega
    simp only [if_true]
    rw [getD_lt hk, find_at (k := (-1 - s).toNat) hk rfl (fun j hj => nodup_iff.1 hT _ hk j hj)]
    omega
  · rw [if_neg h]
    have hk : s.toNat < g.names.length := by omega
    simp only [Bool.false_eq_true, if_false]
    rw [getD_lt hk, find_at (k := s.toNat) hk rfl (fun j hj => nodup_iff.1 hN _ hk j hj)]
    omega
/-- The terminals of symbols, in the order in which they are seen. -/
theorem seen_fold {g : GramG} (hT : g.terms.Nodup) : ∀ (l : List Int) (n m : Nat), (∀ s ∈ l, -(g.terms.length : Int) ≤ s) → n ≤ g.terms.length → seenG l n = some m → (l.map (itemG g)).foldl addT (g.terms.take n) = g.terms.take m
  | [], n, m, _, _, h => by
    have : n = m := by simpa [seenG] using h
    rw [this]; rfl
  | s :: l, n, m, hr, hn, h => by
    rw [List.map_cons, List.foldl_cons]
    unfold seenG at h
    have hr' : ∀ s ∈ l, -(g.terms.length : Int) ≤ s := fun x hx => hr x (by simp [hx])
    have h1 := hr s (by simp)
    by_cases hs : s < 0
    · by_cases hgt : (n : Int) < -1 - s
      · rw [if_pos ⟨hs, hgt⟩] at h; cases h
      · rw [if_neg (fun q => hgt q.2)] at h
        have hk : (-1 - s).toNat < g.terms.length := by omega
        have hit : itemG g s = ⟨true, g.terms[(-1 - s).toNat]⟩ := by unfold itemG; rw [if_pos hs, getD_lt hk]
        by_cases he : -1 - s = (n : Int)
        · rw [if_pos ⟨hs, he⟩] at h
          have hkn : (-1 - s).toNat = n := by omega
          have hnt : n < g.terms.length := by omega
          rw [← seen_fold hT l (n + 1) m hr' (by omega) h]
          congr 1
          rw [hit]
          unfold addT
          have hno : g.terms[n] ∉ g.terms.take n := fun hm => by
            obtain ⟨j, hj, e⟩ := List.getElem_of_mem hm
            rw [List.length_take] at hj
            rw [List.getElem_take] at e
            exact nodup_iff.1 hT n hnt j (by omega) e
          have : ((⟨true, g.terms[(-1 - s).toNat]⟩ : ItemD)).text = g.terms[n] := by simp only [hkn]
          rw [if_pos ⟨rfl, by rw [this]; exact hno⟩, this, List.take_succ_eq_append_getElem hnt]
        · rw [if_neg (fun q => he q.2)] at h
          rw [← seen_fold hT l n m hr' hn h]
          congr 1
          rw [hit]
          unfold addT
          have hlt : (-1 - s).toNat < n := by omega
          have hin : g.terms[(-1 - s).toNat] ∈ g.terms.take n := by
            rw [List.mem_take_iff_getElem]
            exact ⟨(-1 - s).toNat, by omega, rfl⟩
          rw [if_neg (fun q => q.2 hin)]
    · rw [if_neg (fun q => hs q.1), if_neg (fun q => hs q.1)] at h
      rw [← seen_fold hT l n m hr' hn h]
      congr 1
      unfold itemG addT
      rw [if_neg hs, if_neg (fun q => by cases q.1)]
theorem rules_same {g : GramG} (h : ValidG g) (ho : OrderG g) : rulesOf g.names g.terms (linesG g) = g.rules := by
  have hf := lines_flat g (fun i al => al.map fun a => (⟨(i : Int), a.map (symG g.names g.terms)⟩ : RuleG)) g.names 0
  have e : rulesOf g.names g.terms (linesG g) = (List.range' 0 g.names.length).flatMap fun i => (altsG g i).map fun a => (⟨(i : Int), a.map (symG g.names g.terms)⟩ : RuleG) := hf
  rw [e, flat_same (k := ruleF g.rules) (fun i _ => ?_)]
  · exact sorted_flat 0 g.names.length g.rules (sorted_pair ho.1) (fun r hr => ⟨by have := (h.rules r hr).1; omega, by have := (h.rules r hr).2.1; omega⟩)
  · unfold altsG ruleF
    rw [List.map_map]
    have hid : ∀ r ∈ g.rules.filter (fun r => decide (r.left = (i : Int))), ((fun a => (⟨(i : Int), a.map (symG g.names g.terms)⟩ : RuleG)) ∘ fun r : RuleG => r.right.map (itemG g)) r = r := by
      intro r hr
      obtain ⟨h1, h2⟩ := List.mem_filter.1 hr
      have h2' := of_decide_eq_true h2
      obtain ⟨-, -, -, h3⟩ := h.rules r h1
      refine RuleG.ext' h2'.symm ?_
      show (r.right.map (itemG g)).map (symG g.names g.terms) = r.right
      rw [List.map_map]
      refine (List.map_congr_left (fun s hs => ?_)).trans (List.map_id _)
      exact sym_item h.nodupN h.nodupT (h3 s hs).1 (h3 s hs).2
    exact (List.map_congr_left hid).trans (List.map_id _)
theorem items_same {g : GramG} (h : ValidG g) (ho : OrderG g) : itemsOf (linesG g) = (g.rules.flatMap (·.right)).map (itemG g) := by
  have hf := lines_flat g (fun _ al => al.flatten) g.names 0
  have e : itemsOf (linesG g) = (List.range' 0 g.names.length).flatMap fun i => (altsG g i).flatten := by
    unfold itemsOf
    rw [← zip_flat (fun l : LineD => l.alts.flatten) (linesG g) 0]
    exact hf
  have e2 : ((List.range' 0 g.names.length).flatMap (ruleF g.rules)).flatMap (fun r => r.right.map (itemG g)) = (List.range' 0 g.names.length).flatMap fun i => (altsG g i).flatten := by
    rw [List.flatMap_assoc]
    refine flat_same (fun i _ => ?_)
    unfold altsG ruleF
    rw [List.flatMap_def]
  rw [e, ← e2, sorted_flat 0 g.names.length g.rules (sorted_pair ho.1) (fun r hr => ⟨by have := (h.rules r hr).1; omega, by have := (h.rules r hr).2.1; omega⟩), List.map_flatMap]
theorem gram_same {g : GramG} (h : ValidG g) (ho : OrderG g) : gramOf (linesG g) = g := by
  have ht : termsOf (itemsOf (linesG g)) = g.terms := by
    rw [items_same h ho]
    have := seen_fold h.nodupT (g.rules.flatMap (·.right)) 0 g.terms.length (fun s hs => by
      obtain ⟨r, hr, hs⟩ := List.mem_flatMap.1 hs
      exact ((h.rules r hr).2.2.2 s hs).1) (Nat.zero_le _) ho.2
    rw [List.take_zero, List.take_length] at this
    exact this
  refine GramG.ext' (lines_names g) ht ?_
  show rulesOf ((linesG g).map (·.name)) (termsOf (itemsOf (linesG g))) (linesG g) = g.rules
  rw [lines_names, ht]
  exact rules_same h ho
theorem resolve_back {g : GramG} (h : ValidG g) (ho : OrderG g) : resolveG (linesG g) = ⟨g, 0⟩ := by
  have hlen : (linesG g).length = g.names.length := by simp [linesG]
  have hal : ∀ l ∈ linesG g, ∀ a ∈ l.alts, ∃ r ∈ g.rules, a = r.right.map (itemG g) := by
    intro l hl a ha
    obtain ⟨⟨n, i⟩, -, rfl⟩ := List.mem_map.1 hl
    obtain ⟨r, hr, rfl⟩ := List.mem_map.1 ha
    exact ⟨r, (List.mem_filter.1 hr).1, rfl⟩
  have hsum : ((linesG g).map fun l => l.alts.length).sum = g.rules.length := by
    rw [← rules_len g.names g.terms, rules_same h ho]
  unfold resolveG
  rw [gram_same h ho, lines_names]
  rw [if_neg (by
    rw [boolOf_false]
    · simp
    · rintro (⟨l, hl, a, ha, q⟩ | q | q)
      · obtain ⟨r, hr, rfl⟩ := hal l hl a ha
        have := (h.rules r hr).2.2.1
        simp at q; omega
      · have := h.few; omega
      · have := h.syms; omega)]
  rw [if_neg (by rw [boolOf_true h.nodupN]; simp)]
  rw [if_neg (by
    rw [boolOf_false]
    · simp
    · rintro ⟨i, hi, h1, h2⟩
      obtain ⟨l, hl, a, ha, hia⟩ := items_mem.1 hi
      obtain ⟨r, hr, rfl⟩ := hal l hl a ha
      obtain ⟨s, hs, rfl⟩ := List.mem_map.1 hia
      obtain ⟨k1, k2⟩ := (h.rules r hr).2.2.2 s hs
      rw [lines_names] at h2
      unfold itemG at h1 h2
      by_cases hneg : s < 0
      · rw [if_pos hneg] at h1; cases h1
      · rw [if_neg hneg] at h2
        have hk : s.toNat < g.names.length := by omega
        rw [getD_lt hk] at h2
        exact h2 (List.getElem_mem hk))]
  rw [if_neg (by have := h.syms; omega)]
  rw [if_neg (by rw [boolOf_true h.nodupR]; simp)]
theorem lines_size {g : GramG} (h : ValidG g) : SizeL (linesG g) := by
  have hv := valid_size h
  have hl : ∀ l ∈ linesG g, ∃ n ∈ g.names, l.name = n ∧ ∃ i, l.alts = altsG g i := by
    intro l hl
    obtain ⟨⟨n, i⟩, hm, rfl⟩ := List.mem_map.1 hl
    exact ⟨n, (List.fst_mem_of_mem_zipIdx hm), rfl, i, rfl⟩
  refine ⟨by simp [linesG]; exact hv.names, fun l hm => ?_, fun l hm => ?_, fun l hm a ha => ?_, fun l hm a ha i hi => ?_⟩
  · obtain ⟨n, -, -, i, e⟩ := hl l hm
    rw [e]
    unfold altsG
    rw [List.length_map]
    have := List.length_filter_le (fun r : RuleG => decide (r.left = (i : Int))) g.rules
    have := hv.rules
    omega
  · obtain ⟨n, hn, e, -⟩ := hl l hm
    rw [e]; exact hv.name n hn
  · obtain ⟨n, -, -, j, e⟩ := hl l hm
    rw [e] at ha
    obtain ⟨r, hr, rfl⟩ := List.mem_map.1 ha
    rw [List.length_map]
    exact hv.right r (List.mem_filter.1 hr).1
  · obtain ⟨n, -, -, j, e⟩ := hl l hm
    rw [e] at ha
    obtain ⟨r, hr, rfl⟩ := List.mem_map.1 ha
    obtain ⟨s, hs, rfl⟩ := List.mem_map.1 hi
    obtain ⟨k1, k2⟩ := (h.rules r (List.mem_filter.1 hr).1).2.2.2 s hs
    unfold itemG
    split
    · have hk : (-1 - s).toNat < g.terms.length := by omega
      simp only
      rw [getD_lt hk]; exact hv.term _ (List.getElem_mem hk)
    · have hk : s.toNat < g.names.length := by omega
      simp only
      rw [getD_lt hk]; exact hv.name _ (List.getElem_mem hk)
end Go.Proofs.Ytapkohdbnfaacaa

/-! Plain mathematics of canonical grammars (layer 16). Nothing here names the program. -/
namespace Go.Proofs.Ytapkohdbnfaacaa

/-- A rule in terms of texts. -/
abbrev RuleX := List UInt8 × List ItemD
def ruleX (ns ts : List (List UInt8)) (r : RuleG) : RuleX := (ns.getD r.left.toNat [], r.right.map (itemG ⟨ns, ts, []⟩))
def symX (ns ts : List (List UInt8)) (p : RuleX) : RuleG := ⟨findG ns p.1, p.2.map (symG ns ts)⟩
def rulesX (g : GramG) : List RuleX := g.rules.map (ruleX g.names g.terms)
/-- The canonical grammar. -/
def canonN (g : GramG) : List (List UInt8) := sortB lessB 1 g.names
def canonT (g : GramG) : List (List UInt8) := sortB lessB 0 g.terms
def canonG (g : GramG) : GramG := ⟨canonN g, canonT g, sortB lessR 0 ((rulesX g).map (symX (canonN g) (canonT g)))⟩
/-- Two grammars say the same. -/
structure EquivG (g h : GramG) : Prop where
  first : g.names.head? = h.names.head?
  names : List.Perm g.names h.names
  terms : List.Perm g.terms h.terms
  rules : List.Perm (rulesX g) (rulesX h)
theorem EquivG.symm {g h : GramG} (e : EquivG g h) : EquivG h g := ⟨e.first.symm, e.names.symm, e.terms.symm, e.rules.symm⟩
theorem EquivG.refl (g : GramG) : EquivG g g := ⟨rfl, List.Perm.refl _, List.Perm.refl _, List.Perm.refl _⟩
theorem EquivG.trans {a b c : GramG} (h : EquivG a b) (k : EquivG b c) : EquivG a c := ⟨h.first.trans k.first, h.names.trans k.names, h.terms.trans k.terms, h.rules.trans k.rules⟩
theorem find_ge (l : List (List UInt8)) (s : List UInt8) : -1 ≤ findG l s ∧ findG l s ≤ (l.length : Int) := by
  by_cases h : s ∈ l
  · obtain ⟨k, hk, e, -⟩ := find_yes h
    rw [e]
    omega
  · rw [find_no h]
    omega
theorem sym_ge {ns ts : List (List UInt8)} (h : ts.length ≤ 256) (i : ItemD) : -1000 ≤ symG ns ts i := by
  unfold symG
  split
  · have := (find_ge ts i.text).2; omega
  · have := (find_ge ns i.text).1; omega
theorem symX_few {ns ts : List (List UInt8)} (h : ts.length ≤ 256) (p : RuleX) : FewS (symX ns ts p) := fun s hs => by
  obtain ⟨i, -, rfl⟩ := List.mem_map.1 hs
  exact sym_ge h i
theorem canonN_perm (g : GramG) : List.Perm (canonN g) g.names := sortB_perm _ _ _
theorem canonT_perm (g : GramG) : List.Perm (canonT g) g.terms := sortB_perm _ _ _
theorem canonN_congr {g h : GramG} (e : EquivG g h) : canonN g = canonN h := by
  unfold canonN
  cases hg : g.names with
  | nil =>
    have := e.names.length_eq
    rw [hg] at this
    rw [List.eq_nil_of_length_eq_zero this.symm]
  | cons f l =>
    cases hh : h.names with
    | nil => have := e.names.length_eq; rw [hg, hh] at this; simp at this
    | cons f' l' =>
      have h1 := e.first
      have h2 := e.names
      rw [hg, hh] at h1 h2
      have h1' : f = f' := by simpa using h1
      subst h1'
      rw [sort_one, sort_one, sortB_unique ord_bytes (fun _ _ => trivial) (List.Perm.cons_inv h2)]
theorem canonT_congr {g h : GramG} (e : EquivG g h) : canonT g = canonT h := sortB_unique ord_bytes (fun _ _ => trivial) e.terms
theorem canon_congr {g h : GramG} (e : EquivG g h) (ht : g.terms.length ≤ 256) : canonG g = canonG h := by
  unfold canonG
  rw [canonN_congr e, canonT_congr e]
  congr 1
  refine sortB_unique ord_rules (fun y hy => ?_) (e.rules.map _)
  obtain ⟨p, -, rfl⟩ := List.mem_map.1 hy
  exact symX_few (by rw [← canonT_congr e, (canonT_perm g).length_eq]; exact ht) p

/-! Texts and symbols, there and back. -/
def ItemIn (ns ts : List (List UInt8)) (i : ItemD) : Prop := if i.term = true then i.text ∈ ts else i.text ∈ ns
theorem find_get {l : List (List UInt8)} {s : List UInt8} (h : s ∈ l) : ∃ k : Nat, findG l s = (k : Int) ∧ ∃ hk : k < l.length, l[k]'hk = s := by
  obtain ⟨k, hk, e, h1, -⟩ := find_yes h
  exact ⟨k, e, hk, h1⟩
theorem item_sym {ns ts : List (List UInt8)} {i : ItemD} (h : ItemIn ns ts i) : itemG ⟨ns, ts, []⟩ (symG ns ts i) = i := by
  obtain ⟨t, x⟩ := i
  unfold ItemIn at h
  cases t with
  | true =>
    obtain ⟨k, e, hk, h1⟩ := find_get (show x ∈ ts by simpa using h)
    unfold symG itemG
    simp only [if_true]
    rw [e, if_pos (by omega), show (-1 - (-1 - (k : Int))).toNat = k by omega, getD_lt hk, h1]
  | false =>
    obtain ⟨k, e, hk, h1⟩ := find_get (show x ∈ ns by simpa using h)
    unfold symG itemG
    simp only [Bool.false_eq_true, if_false]
    rw [e, if_neg (by omega), Int.toNat_natCast, getD_lt hk, h1]
theorem rule_sym {ns ts : List (List UInt8)} {p : RuleX} (h1 : p.1 ∈ ns) (h2 : ∀ i ∈ p.2, ItemIn ns ts i) : ruleX ns ts (symX ns ts p) = p := by
  obtain ⟨n, l⟩ := p
  obtain ⟨k, e, hk, hn⟩ := find_get h1
  unfold ruleX symX
  simp only
  rw [show findG ns n = (k : Int) from e, Int.toNat_natCast, getD_lt hk, hn, List.map_map]
  congr 1
  refine (List.map_congr_left (fun i hi => ?_)).trans (List.map_id _)
  exact item_sym (h2 i hi)
theorem item_in {g : GramG} {s : Int} (h1 : -(g.terms.length : Int) ≤ s) (h2 : s < (g.names.length : Int)) : ItemIn g.names g.terms (itemG ⟨g.names, g.terms, []⟩ s) := by
  unfold ItemIn itemG
  by_cases h : s < 0
  · rw [if_pos h]
    simp only [if_true]
    rw [getD_lt (by omega)]
    exact List.getElem_mem _
  · rw [if_neg h]
    simp only [Bool.false_eq_true, if_false]
    rw [getD_lt (by omega)]
    exact List.getElem_mem _
theorem ruleX_in {g : GramG} (hv : ValidG g) {p : RuleX} (hp : p ∈ rulesX g) : p.1 ∈ g.names ∧ ∀ i ∈ p.2, ItemIn g.names g.terms i := by
  obtain ⟨r, hr, rfl⟩ := List.mem_map.1 hp
  obtain ⟨h1, h2, -, h4⟩ := hv.rules r hr
  refine ⟨?_, fun i hi => ?_⟩
  · show g.names.getD r.left.toNat [] ∈ g.names
    rw [getD_lt (by omega)]
    exact List.getElem_mem _
  · obtain ⟨s, hs, rfl⟩ := List.mem_map.1 hi
    exact item_in (h4 s hs).1 (h4 s hs).2
theorem ItemIn.perm {ns ts ns' ts' : List (List UInt8)} {i : ItemD} (h : ItemIn ns ts i) (hn : List.Perm ns ns') (ht : List.Perm ts ts') : ItemIn ns' ts' i := by
  unfold ItemIn at h ⊢
  split
  · next q => rw [if_pos q] at h; exact ht.mem_iff.1 h
  · next q => rw [if_neg q] at h; exact hn.mem_iff.1 h
/-- The rules of the canonical grammar say what those of the grammar say. -/
theorem rulesX_canon {g : GramG} (hv : ValidG g) : List.Perm (rulesX (canonG g)) (rulesX g) := by
  have h1 : List.Perm (rulesX (canonG g)) (((rulesX g).map (symX (canonN g) (canonT g))).map (ruleX (canonN g) (canonT g))) := (sortB_perm lessR 0 _).map _
  rw [List.map_map] at h1
  refine h1.trans (List.Perm.of_eq ((List.map_congr_left (fun p hp => ?_)).trans (List.map_id _)))
  obtain ⟨k1, k2⟩ := ruleX_in hv hp
  exact rule_sym ((canonN_perm g).mem_iff.2 k1) (fun i hi => (k2 i hi).perm (canonN_perm g).symm (canonT_perm g).symm)
theorem canon_first {g : GramG} (h : 1 ≤ g.names.length) : (canonN g).head? = g.names.head? := by
  unfold canonN
  cases hg : g.names with
  | nil => rw [hg] at h; simp at h
  | cons f l => rw [sort_one]; rfl
theorem equiv_canon {g : GramG} (hv : ValidG g) : EquivG (canonG g) g := ⟨canon_first hv.one, canonN_perm g, canonT_perm g, rulesX_canon hv⟩
theorem ruleX_inj {g : GramG} (hv : ValidG g) {r s : RuleG} (hr : r ∈ g.rules) (hs : s ∈ g.rules) (e : ruleX g.names g.terms r = ruleX g.names g.terms s) : r = s := by
  have key : ∀ r ∈ g.rules, symX g.names g.terms (ruleX g.names g.terms r) = r := by
    intro r hr
    obtain ⟨h1, h2, -, h4⟩ := hv.rules r hr
    refine RuleG.ext' ?_ ?_
    · show findG g.names (g.names.getD r.left.toNat []) = r.left
      have hl : r.left.toNat < g.names.length := by omega
      rw [getD_lt hl]
      obtain ⟨k, e, -, hk⟩ := find_le hl
      have := hk.2 (fun j hj => nodup_iff.1 hv.nodupN _ hl j hj)
      omega
    · show (r.right.map (itemG ⟨g.names, g.terms, []⟩)).map (symG g.names g.terms) = r.right
      rw [List.map_map]
      refine (List.map_congr_left (fun s hs => ?_)).trans (List.map_id _)
      exact sym_item hv.nodupN hv.nodupT (h4 s hs).1 (h4 s hs).2
  rw [← key r hr, ← key s hs, e]
theorem nodup_map_inj {α β : Type} {f : α → β} {l : List α} (h : ∀ x ∈ l, ∀ y ∈ l, f x = f y → x = y) (hl : l.Nodup) : (l.map f).Nodup := by
  unfold List.Nodup at hl ⊢
  rw [List.pairwise_map]
  exact hl.imp_of_mem (fun ha hb hn e => hn (h _ ha _ hb e))
theorem nodup_of_map {α β : Type} {f : α → β} {l : List α} (h : (l.map f).Nodup) : l.Nodup := by
  unfold List.Nodup at h ⊢
  rw [List.pairwise_map] at h
  exact h.imp (fun hn e => hn (by rw [e]))
theorem rulesX_nodup {g : GramG} (hv : ValidG g) : (rulesX g).Nodup := nodup_map_inj (fun r hr s hs e => ruleX_inj hv hr hs e) hv.nodupR
/-- A grammar that says what a valid one says, within the limits, is valid. -/
theorem equiv_valid {g h : GramG} (hv : ValidG g) (e : EquivG h g) (hl : ∀ r ∈ h.rules, 0 ≤ r.left ∧ r.left < (h.names.length : Int) ∧ ∀ s ∈ r.right, -(h.terms.length : Int) ≤ s ∧ s < (h.names.length : Int)) : ValidG h where
  one := by rw [e.names.length_eq]; exact hv.one
  syms := by rw [e.names.length_eq, e.terms.length_eq]; exact hv.syms
  few := by
    have := e.rules.length_eq
    unfold rulesX at this
    rw [List.length_map, List.length_map] at this
    rw [this]; exact hv.few
  names := fun n hn => hv.names n (e.names.mem_iff.1 hn)
  nodupN := e.names.nodup_iff.2 hv.nodupN
  has := fun i hi => by
    have hN := e.names.nodup_iff.2 hv.nodupN
    have hm : h.names[i]'hi ∈ g.names := e.names.mem_iff.1 (List.getElem_mem hi)
    obtain ⟨j, hj, ej⟩ := List.getElem_of_mem hm
    obtain ⟨r, hr, er⟩ := hv.has j hj
    have hx : ruleX g.names g.terms r ∈ rulesX h := e.rules.mem_iff.2 (List.mem_map.2 ⟨r, hr, rfl⟩)
    obtain ⟨s, hs, es⟩ := List.mem_map.1 hx
    refine ⟨s, hs, ?_⟩
    have h1 : h.names.getD s.left.toNat [] = g.names.getD r.left.toNat [] := congrArg Prod.fst es
    obtain ⟨k1, k2, -⟩ := hl s hs
    rw [er, Int.toNat_natCast, getD_lt hj, ej, getD_lt (by omega)] at h1
    apply Classical.byContradiction
    intro hne
    have hlt : s.left.toNat < i ∨ i < s.left.toNat := by omega
    rcases hlt with q | q
    · exact nodup_iff.1 hN i hi _ q h1
    · exact nodup_iff.1 hN _ (by omega) i q h1.symm
  terms := fun t ht => hv.terms t (e.terms.mem_iff.1 ht)
  nodupT := e.terms.nodup_iff.2 hv.nodupT
  rules := fun r hr => by
    obtain ⟨k1, k2, k3⟩ := hl r hr
    refine ⟨k1, k2, ?_, k3⟩
    have hx : ruleX h.names h.terms r ∈ rulesX g := e.rules.mem_iff.1 (List.mem_map.2 ⟨r, hr, rfl⟩)
    obtain ⟨s, hs, es⟩ := List.mem_map.1 hx
    have h1 := congrArg (fun p : RuleX => p.2.length) es
    simp only [ruleX, List.length_map] at h1
    rw [← h1]
    exact (hv.rules s hs).2.2.1
  nodupR := nodup_of_map (f := ruleX h.names h.terms) (e.rules.nodup_iff.2 (rulesX_nodup hv))
theorem symIn_range {ns ts : List (List UInt8)} {i : ItemD} (h : ItemIn ns ts i) : -(ts.length : Int) ≤ symG ns ts i ∧ symG ns ts i < (ns.length : Int) := by
  unfold ItemIn at h
  unfold symG
  split
  · next q =>
    rw [if_pos q] at h
    obtain ⟨k, e, hk, -⟩ := find_get h
    omega
  · next q =>
    rw [if_neg q] at h
    obtain ⟨k, e, hk, -⟩ := find_get h
    omega
theorem canon_valid {g : GramG} (hv : ValidG g) : ValidG (canonG g) := by
  refine equiv_valid hv (equiv_canon hv) (fun r hr => ?_)
  have hm : r ∈ (rulesX g).map (symX (canonN g) (canonT g)) := sortB_mem.1 hr
  obtain ⟨p, hp, rfl⟩ := List.mem_map.1 hm
  obtain ⟨k1, k2⟩ := ruleX_in hv hp
  obtain ⟨k, e, hk, -⟩ := find_get ((canonN_perm g).mem_iff.2 k1)
  refine ⟨by show 0 ≤ findG (canonN g) p.1; omega, by show findG (canonN g) p.1 < ((canonN g).length : Int); omega, fun s hs => ?_⟩
  obtain ⟨i, hi, rfl⟩ := List.mem_map.1 hs
  exact symIn_range ((k2 i hi).perm (canonN_perm g).symm (canonT_perm g).symm)
theorem canon_terms {g : GramG} (hv : ValidG g) : g.terms.length ≤ 256 := by have := hv.syms; omega
/-- The canonical grammar is its own. -/
theorem canon_twice {g : GramG} (hv : ValidG g) : canonG (canonG g) = canonG g := canon_congr (equiv_canon hv) (canon_terms (canon_valid hv))
theorem canon_sorted {g : GramG} (hv : ValidG g) : (canonG g).rules.Pairwise fun a b => a.left ≤ b.left := by
  have h := sortB_rising ord_rules (l := (rulesX g).map (symX (canonN g) (canonT g))) (fun y hy => by
    obtain ⟨p, -, rfl⟩ := List.mem_map.1 hy
    exact symX_few (by rw [(canonT_perm g).length_eq]; exact canon_terms hv) p)
  refine List.Pairwise.imp (fun {a b} hab => ?_) h
  unfold lessR at hab
  split at hab
  · omega
  · have := of_decide_eq_false hab; omega
end Go.Proofs.Ytapkohdbnfaacaa
