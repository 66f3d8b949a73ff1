/- Several texts in one: LexMath, ParMath, GrmMath, ParBack, ParSound, GrmSz, GrmRes, GrmBk, LexFu. -/
import Derived.Test.YtcmgnhjffhaajaaBs
/-! Plain mathematics of the lexer (layer 12). Nothing here names the program. -/
namespace Go.Proofs.Ytcmgnhjffhaajaa

def letterB (c : UInt8) : Bool := (decide (97 ≤ c.toNat) && decide (c.toNat ≤ 122)) || (decide (65 ≤ c.toNat) && decide (c.toNat ≤ 90))
def moreB (c : UInt8) : Bool := letterB c || (decide (48 ≤ c.toNat) && decide (c.toNat ≤ 57)) || decide (c.toNat = 95)
/-- May this stand in a terminal? -/
def termC (c : UInt8) : Bool := decide (32 ≤ c.toNat) && decide (c.toNat ≤ 126) && !decide (c.toNat = 39) && !decide (c.toNat = 92)
def blankB (c : UInt8) : Bool := decide (c.toNat = 32) || decide (c.toNat = 9) || decide (c.toNat = 10) || decide (c.toNat = 13)
def nameB (s : List UInt8) : Bool := decide (1 ≤ s.length ∧ s.length ≤ 32) && (match s with | [] => false | c :: _ => letterB c) && s.all moreB
def termB (s : List UInt8) : Bool := decide (1 ≤ s.length ∧ s.length ≤ 32) && s.all termC
structure TokD where
  kind : Int
  text : List UInt8
  at_ : Nat
/-- What begins here: its kind, its text, how many bytes it takes; or an error's number. -/
structure NextD where
  kind : Int
  text : List UInt8
  n : Nat
  err : Int
def noneD (e : Int) : NextD := ⟨0, [], 0, e⟩
def termD (t : List UInt8) : NextD :=
  if (t.drop (t.takeWhile termC).length).head? = some 39 ∧ t.takeWhile termC ≠ [] then (if 32 < (t.takeWhile termC).length then noneD 19 else ⟨2, t.takeWhile termC, (t.takeWhile termC).length + 2, 0⟩) else noneD 13
def nextD (c : UInt8) (t : List UInt8) : NextD :=
    if c = 58 then ⟨3, [58], 1, 0⟩ else if c = 124 then ⟨4, [124], 1, 0⟩ else if c = 59 then ⟨5, [59], 1, 0⟩
    else if letterB c then (if 32 < ((c :: t).takeWhile moreB).length then noneD 19 else ⟨1, (c :: t).takeWhile moreB, ((c :: t).takeWhile moreB).length, 0⟩)
    else if c = 39 then termD t else noneD 13
/-- Up to the end of a comment. -/
def restC (r : List UInt8) : List UInt8 := r.dropWhile fun c => !decide (c = 10)
theorem restC_le : ∀ r : List UInt8, (restC r).length ≤ r.length
  | [] => by simp [restC]
  | c :: t => by
    unfold restC
    rw [List.dropWhile_cons]
    split
    · have := restC_le t; unfold restC at this; simp; omega
    · simp
structure LexD where
  toks : List TokD
  at_ : Nat
  err : Int
def consD (x : TokD) (r : LexD) : LexD := if r.err = 0 then ⟨x :: r.toks, 0, 0⟩ else r
def lexD (r : List UInt8) (p : Nat) : LexD :=
  match r with
  | [] => ⟨[], 0, 0⟩
  | c :: t =>
    if blankB c then lexD t (p + 1)
    else if c = 35 then lexD (restC t) (p + 1 + (t.length - (restC t).length))
    else if (nextD c t).err ≠ 0 then ⟨[], p, (nextD c t).err⟩
    else consD ⟨(nextD c t).kind, (nextD c t).text, p⟩ (lexD (t.drop ((nextD c t).n - 1)) (p + (nextD c t).n))
termination_by r.length
decreasing_by
  · simp
  · have := restC_le t; simp; omega
  · simp; omega
def allD (s : List UInt8) : LexD := if 65536 < s.length then ⟨[], 0, 19⟩ else lexD s 0
/-- What was found before, and what the rest gives. -/
def behindD (acc : List TokD) (r : LexD) : LexD := if r.err = 0 then ⟨acc ++ r.toks, 0, 0⟩ else r
theorem next_pos {c : UInt8} {t : List UInt8} (h : (nextD c t).err = 0) : 1 ≤ (nextD c t).n ∧ (nextD c t).n ≤ (c :: t).length := by
  unfold nextD at h ⊢
  split
  · simp
  · split
    · simp
    · split
      · simp
      · next h1 h2 h3 =>
        rw [if_neg h1, if_neg h2, if_neg h3] at h
        split
        · next h4 =>
          rw [if_pos h4] at h
          split
          · next h5 => rw [if_pos h5] at h; simp [noneD] at h
          · have hm : moreB c = true := by unfold moreB; rw [h4]; simp
            have := (List.takeWhile_prefix moreB (l := c :: t)).length_le
            rw [List.takeWhile_cons, if_pos hm]
            rw [List.takeWhile_cons, if_pos hm] at this
            simp at this ⊢
            omega
        · next h4 =>
          rw [if_neg h4] at h
          split
          · next h5 =>
            rw [if_pos h5] at h
            unfold termD at h ⊢
            split
            · next h6 =>
              rw [if_pos h6] at h
              split
              · next h7 => rw [if_pos h7] at h; simp [noneD] at h
              · have h8 : (t.takeWhile termC).length < t.length := by
                  have := h6.1
                  rcases Nat.lt_or_ge (t.takeWhile termC).length t.length with q | q
                  · exact q
                  · rw [List.drop_eq_nil_of_le q] at this; simp at this
                simp
                omega
            · next h6 => rw [if_neg h6] at h; simp [noneD] at h
          · next h5 => rw [if_neg h5] at h; simp [noneD] at h
theorem lex_nil (p : Nat) : lexD [] p = ⟨[], 0, 0⟩ := by rw [lexD]
theorem lex_blank {c : UInt8} (t : List UInt8) (p : Nat) (h : blankB c = true) : lexD (c :: t) p = lexD t (p + 1) := by rw [lexD, if_pos h]
theorem lex_note (t : List UInt8) (p : Nat) : lexD (35 :: t) p = lexD (restC t) (p + 1 + (t.length - (restC t).length)) := by rw [lexD, if_neg (by decide), if_pos rfl]
theorem lex_err {c : UInt8} (t : List UInt8) (p : Nat) (h1 : blankB c = false) (h2 : c ≠ 35) (h3 : (nextD c t).err ≠ 0) : lexD (c :: t) p = ⟨[], p, (nextD c t).err⟩ := by
  rw [lexD, if_neg (by simp [h1]), if_neg h2, if_pos h3]
theorem lex_tok {c : UInt8} (t : List UInt8) (p : Nat) (h1 : blankB c = false) (h2 : c ≠ 35) (h3 : (nextD c t).err = 0) : lexD (c :: t) p = consD ⟨(nextD c t).kind, (nextD c t).text, p⟩ (lexD ((c :: t).drop (nextD c t).n) (p + (nextD c t).n)) := by
  rw [lexD, if_neg (by simp [h1]), if_neg h2, if_neg (by simp [h3])]
  have := (next_pos h3).1
  rw [show (c :: t).drop (nextD c t).n = t.drop ((nextD c t).n - 1) from by
    obtain ⟨m, hm⟩ : ∃ m, (nextD c t).n = m + 1 := ⟨(nextD c t).n - 1, by omega⟩
    rw [hm]; simp]
theorem behind_cons (acc : List TokD) (x : TokD) (r : LexD) : behindD acc (consD x r) = behindD (acc ++ [x]) r := by
  unfold behindD consD
  by_cases h : r.err = 0
  · simp [h]
  · simp [h]
theorem letter_num {c : UInt8} (h : letterB c = true) : c ≠ 58 ∧ c ≠ 124 ∧ c ≠ 59 ∧ c ≠ 35 ∧ blankB c = false ∧ moreB c = true := by
  have hm : moreB c = true := by unfold moreB; rw [h]; simp
  refine ⟨?_, ?_, ?_, ?_, ?_, hm⟩
  · rintro rfl; simp [letterB] at h
  · rintro rfl; simp [letterB] at h
  · rintro rfl; simp [letterB] at h
  · rintro rfl; simp [letterB] at h
  · unfold letterB at h
    unfold blankB
    simp at h ⊢
    omega
theorem takeWhile_all {p : UInt8 → Bool} {l : List UInt8} (h : l.all p = true) : l.takeWhile p = l := by
  induction l with
  | nil => rfl
  | cons c t ih =>
    rw [List.all_cons, Bool.and_eq_true] at h
    rw [List.takeWhile_cons, if_pos h.1, ih h.2]
/-- What ends a run ends it, whatever follows. -/
theorem takeWhile_stop {p : UInt8 → Bool} : ∀ (l : List UInt8) (x : UInt8) (q : List UInt8), p x = false → (l ++ x :: q).takeWhile p = l.takeWhile p
  | [], x, q, h => by simp [h]
  | c :: t, x, q, h => by
    rw [List.cons_append, List.takeWhile_cons, List.takeWhile_cons, takeWhile_stop t x q h]
theorem takeWhile_in {p : UInt8 → Bool} : ∀ (l q : List UInt8), (l.takeWhile p).length < l.length → (l ++ q).takeWhile p = l.takeWhile p
  | [], q, h => by simp at h
  | c :: t, q, h => by
    rw [List.cons_append, List.takeWhile_cons, List.takeWhile_cons]
    rw [List.takeWhile_cons] at h
    split
    · next hc =>
      rw [if_pos hc] at h
      rw [takeWhile_in t q (by simpa using h)]
    · rfl
theorem name_one {s : List UInt8} (h : nameB s = true) (p : Nat) : lexD s p = ⟨[⟨1, s, p⟩], 0, 0⟩ := by
  unfold nameB at h
  rw [Bool.and_eq_true, Bool.and_eq_true] at h
  obtain ⟨⟨h1, h2⟩, h3⟩ := h
  have h1' := of_decide_eq_true h1
  cases s with
  | nil => simp at h1'
  | cons c t =>
    simp only at h2
    obtain ⟨e1, e2, e3, e4, e5, e6⟩ := letter_num h2
    have hn : nextD c t = ⟨1, c :: t, (c :: t).length, 0⟩ := by
      unfold nextD
      rw [if_neg e1, if_neg e2, if_neg e3, if_pos h2, takeWhile_all h3, if_neg (by omega)]
    rw [lex_tok t p e5 e4 (by rw [hn]), hn]
    simp only [List.drop_length]
    rw [lex_nil]
    rfl
theorem term_one {s : List UInt8} (h : termB s = true) (p : Nat) : lexD (39 :: (s ++ [39])) p = ⟨[⟨2, s, p⟩], 0, 0⟩ := by
  unfold termB at h
  rw [Bool.and_eq_true] at h
  have h1' := of_decide_eq_true h.1
  have ht : (s ++ [39]).takeWhile termC = s := by rw [takeWhile_stop s 39 [] (by decide), takeWhile_all h.2]
  have hn : nextD 39 (s ++ [39]) = ⟨2, s, s.length + 2, 0⟩ := by
    unfold nextD
    rw [if_neg (by decide), if_neg (by decide), if_neg (by decide), if_neg (by decide), if_pos rfl]
    unfold termD
    rw [ht, if_pos ⟨by simp, by intro e; rw [e] at h1'; simp at h1'⟩, if_neg (by omega)]
  rw [lex_tok _ p (by decide) (by decide) (by rw [hn]), hn]
  rw [List.drop_eq_nil_of_le (by simp), lex_nil]
  rfl
theorem lex_ok {r : List UInt8} {p : Nat} (h : (lexD r p).err = 0) : (lexD r p).at_ = 0 := by
  induction r, p using lexD.induct with
  | case1 p => rw [lex_nil]
  | case2 p c t hb ih => rw [lex_blank t p hb] at h ⊢; exact ih h
  | case3 p t hb ih => rw [lex_note] at h ⊢; exact ih h
  | case4 p c t hb h3 he => rw [lex_err t p (by simpa using hb) h3 he] at h; exact absurd h he
  | case5 p c t hb h3 he ih =>
    rw [lexD, if_neg hb, if_neg h3, if_neg he] at h ⊢
    unfold consD at h ⊢
    split
    · rfl
    · next hq => rw [if_neg hq] at h; exact absurd h hq
def shiftT (k : Nat) (x : TokD) : TokD := ⟨x.kind, x.text, x.at_ + k⟩
theorem lex_shift (k : Nat) {r : List UInt8} {p : Nat} : (lexD r p).err = 0 → lexD r (p + k) = ⟨(lexD r p).toks.map (shiftT k), 0, 0⟩ := by
  induction r, p using lexD.induct with
  | case1 p => intro _; rw [lex_nil, lex_nil]; rfl
  | case2 p c t hb ih => intro h; rw [lex_blank t p hb] at h ⊢; rw [lex_blank t _ hb, ← ih h, show p + k + 1 = p + 1 + k from by omega]
  | case3 p t hb ih =>
    intro h
    rw [lex_note] at h ⊢
    rw [lex_note, ← ih h, show p + k + 1 + (t.length - (restC t).length) = p + 1 + (t.length - (restC t).length) + k from by omega]
  | case4 p c t hb h3 he => intro h; rw [lex_err t p (by simpa using hb) h3 he] at h; exact absurd h he
  | case5 p c t hb h3 he ih =>
    intro h
    rw [lexD, if_neg hb, if_neg h3, if_neg he] at h ⊢
    rw [lexD, if_neg hb, if_neg h3, if_neg he]
    have he2 : (lexD (t.drop ((nextD c t).n - 1)) (p + (nextD c t).n)).err = 0 := by
      unfold consD at h
      split at h
      · assumption
      · next hq => exact absurd h hq
    rw [show p + k + (nextD c t).n = p + (nextD c t).n + k from by omega, ih he2]
    unfold consD
    simp [he2, shiftT]
theorem next_same {c : UInt8} {t : List UInt8} (q : List UInt8) (h : (nextD c t).err = 0) : nextD c (t ++ 32 :: q) = nextD c t := by
  unfold nextD at h ⊢
  by_cases h1 : c = 58
  · rw [if_pos h1, if_pos h1]
  · rw [if_neg h1] at h ⊢
    rw [if_neg h1]
    by_cases h2 : c = 124
    · rw [if_pos h2, if_pos h2]
    · rw [if_neg h2] at h ⊢
      rw [if_neg h2]
      by_cases h3 : c = 59
      · rw [if_pos h3, if_pos h3]
      · rw [if_neg h3] at h ⊢
        rw [if_neg h3]
        by_cases h4 : letterB c = true
        · rw [if_pos h4, if_pos h4, ← List.cons_append, takeWhile_stop (c :: t) 32 q (by decide)]
        · rw [if_neg h4] at h ⊢
          rw [if_neg h4]
          by_cases h5 : c = 39
          · rw [if_pos h5] at h ⊢
            rw [if_pos h5]
            unfold termD at h ⊢
            by_cases h6 : (t.drop (t.takeWhile termC).length).head? = some 39 ∧ t.takeWhile termC ≠ []
            · have h8 : (t.takeWhile termC).length < t.length := by
                have := h6.1
                rcases Nat.lt_or_ge (t.takeWhile termC).length t.length with z | z
                · exact z
                · rw [List.drop_eq_nil_of_le z] at this; simp at this
              rw [takeWhile_in t _ h8]
              have h9 : ((t ++ 32 :: q).drop (t.takeWhile termC).length).head? = (t.drop (t.takeWhile termC).length).head? := by
                rw [List.drop_append_of_le_length (by omega), List.head?_append]
                rw [h6.1]; rfl
              rw [h9]
            · rw [if_neg h6] at h; simp [noneD] at h
          · rw [if_neg h5, if_neg h5]
theorem lex_front {r : List UInt8} {p : Nat} : ∀ (q : List UInt8) (y : List TokD), (35 : UInt8) ∉ r → (lexD r p).err = 0 → lexD (32 :: q) (p + r.length) = ⟨y, 0, 0⟩ → lexD (r ++ 32 :: q) p = ⟨(lexD r p).toks ++ y, 0, 0⟩ := by
  induction r, p using lexD.induct with
  | case1 p => intro q y _ _ h; rw [lex_nil]; simpa using h
  | case2 p c t hb ih =>
    intro q y hn h hy
    rw [lex_blank t p hb] at h ⊢
    rw [List.cons_append, lex_blank _ p hb]
    exact ih q y (fun hm => hn (by simp [hm])) h (by rw [← hy]; congr 1; simp; omega)
  | case3 p t hb ih => intro q y hn; simp at hn
  | case4 p c t hb h3 he => intro q y hn h; rw [lex_err t p (by simpa using hb) h3 he] at h; exact absurd h he
  | case5 p c t hb h3 he ih =>
    intro q y hn h hy
    have he0 : (nextD c t).err = 0 := by simpa using he
    have hpos := next_pos he0
    have hb' : blankB c = false := by simpa using hb
    rw [lex_tok t p hb' h3 he0] at h ⊢
    have hd : t.drop ((nextD c t).n - 1) = (c :: t).drop (nextD c t).n := by
      obtain ⟨m, hm⟩ : ∃ m, (nextD c t).n = m + 1 := ⟨(nextD c t).n - 1, by omega⟩
      rw [hm]; simp
    rw [hd] at ih
    have he2 : (lexD ((c :: t).drop (nextD c t).n) (p + (nextD c t).n)).err = 0 := by
      unfold consD at h
      split at h
      · assumption
      · next hq => exact absurd h hq
    have hs := next_same q he0
    rw [List.cons_append, lex_tok (t ++ 32 :: q) p hb' h3 (by rw [hs]; exact he0), hs, ← List.cons_append, List.drop_append_of_le_length hpos.2]
    rw [ih q y (fun hm => hn (List.mem_of_mem_drop hm)) he2 (by rw [← hy]; congr 1; rw [List.length_drop]; omega)]
    unfold consD
    simp [he2]
theorem restC_stop : ∀ (m q : List UInt8), (10 : UInt8) ∉ m → restC (m ++ 10 :: q) = 10 :: q
  | [], q, _ => by simp [restC]
  | c :: t, q, h => by
    have := restC_stop t q (fun hm => h (by simp [hm]))
    unfold restC at this ⊢
    rw [List.cons_append, List.dropWhile_cons, if_pos (by simp; intro e; exact h (by simp [e]))]
    exact this
theorem lex_between (m b : List UInt8) (p : Nat) (h : (10 : UInt8) ∉ m) : lexD (32 :: 35 :: (m ++ 10 :: 9 :: 13 :: b)) p = lexD b (p + (m.length + 5)) := by
  rw [lex_blank _ p (by decide), lex_note, restC_stop m _ h, lex_blank _ _ (by decide), lex_blank _ _ (by decide), lex_blank _ _ (by decide)]
  congr 1
  simp
  omega
/-- Blanks and a remark between two texts. -/
theorem lex_blanks (a m b : List UInt8) (ha : (lexD a 0).err = 0) (hb : (lexD b 0).err = 0) (hn : (35 : UInt8) ∉ a) (h : (10 : UInt8) ∉ m) :
    lexD (a ++ 32 :: 35 :: (m ++ 10 :: 9 :: 13 :: b)) 0 = ⟨(lexD a 0).toks ++ (lexD b 0).toks.map (shiftT (a.length + m.length + 5)), 0, 0⟩ := by
  refine lex_front _ _ hn ha ?_
  rw [lex_between m b _ h, ← lex_shift (a.length + m.length + 5) hb]
  congr 1
  omega
theorem restC_len (t : List UInt8) : (restC t).length ≤ t.length := restC_le t
theorem lex_len {r : List UInt8} {p : Nat} : (lexD r p).toks.length ≤ r.length ∧ ∀ t ∈ (lexD r p).toks, t.at_ ≤ p + r.length := by
  induction r, p using lexD.induct with
  | case1 p => rw [lex_nil]; simp
  | case2 p c t hb ih => rw [lex_blank t p hb]; exact ⟨by simp; omega, fun x hx => by have := ih.2 x hx; simp; omega⟩
  | case3 p t hb ih =>
    rw [lex_note]
    have := restC_le t
    exact ⟨by simp; omega, fun x hx => by have := ih.2 x hx; simp; omega⟩
  | case4 p c t hb h3 he => rw [lex_err t p (by simpa using hb) h3 he]; simp
  | case5 p c t hb h3 he ih =>
    rw [lexD, if_neg hb, if_neg h3, if_neg he]
    have he0 : (nextD c t).err = 0 := by simpa using he
    have hpos := next_pos he0
    rw [List.length_cons] at hpos
    unfold consD
    split
    · refine ⟨?_, fun x hx => ?_⟩
      · have := ih.1
        rw [List.length_drop] at this
        simp; omega
      · rw [List.mem_cons] at hx
        rcases hx with rfl | hx
        · simp
        · have := ih.2 x hx
          rw [List.length_drop] at this
          simp; omega
    · refine ⟨?_, fun x hx => ?_⟩
      · have := ih.1
        rw [List.length_drop] at this
        simp; omega
      · have := ih.2 x hx
        rw [List.length_drop] at this
        simp; omega
end Go.Proofs.Ytcmgnhjffhaajaa

/-! Plain mathematics of the parser of rules (layer 13). Nothing here names the program. -/
namespace Go.Proofs.Ytcmgnhjffhaajaa

structure ItemD where
  term : Bool
  text : List UInt8
structure LineD where
  name : List UInt8
  alts : List (List ItemD)
/-- A token's kind and text. -/
abbrev Tk := Int × List UInt8
def TokD.tk (t : TokD) : Tk := (t.kind, t.text)
/-- Alternatives that were read, or how many tokens were left where it went wrong; and how many are left. -/
structure BodyD where
  ok : Bool
  alts : List (List ItemD)
  left : List Tk
def bodyD : List Tk → List ItemD → List (List ItemD) → BodyD
  | [], _, _ => ⟨false, [], []⟩
  | t :: r, cur, done =>
    if t.1 = 1 ∨ t.1 = 2 then bodyD r (cur ++ [⟨decide (t.1 = 2), t.2⟩]) done
    else if t.1 = 4 then bodyD r [] (done ++ [cur])
    else if t.1 = 5 then ⟨true, done ++ [cur], r⟩
    else ⟨false, [], t :: r⟩
structure RuleD where
  ok : Bool
  line : LineD
  left : List Tk
def nameD (n : List UInt8) : List Tk → RuleD
  | [] => ⟨false, ⟨[], []⟩, []⟩
  | c :: q => if c.1 = 3 then ⟨(bodyD q [] []).ok, ⟨n, (bodyD q [] []).alts⟩, (bodyD q [] []).left⟩ else ⟨false, ⟨[], []⟩, c :: q⟩
def ruleD : List Tk → RuleD
  | [] => ⟨false, ⟨[], []⟩, []⟩
  | t :: r => if t.1 ≠ 1 then ⟨false, ⟨[], []⟩, t :: r⟩ else nameD t.2 r
theorem body_left : ∀ (r : List Tk) (cur : List ItemD) (done : List (List ItemD)), (bodyD r cur done).left.length ≤ r.length ∧ ((bodyD r cur done).ok = true → (bodyD r cur done).left.length < r.length)
  | [], cur, done => by simp [bodyD]
  | t :: r, cur, done => by
    unfold bodyD
    split
    · have := body_left r (cur ++ [⟨decide (t.1 = 2), t.2⟩]) done
      exact ⟨by simp; omega, fun h => by have := this.2 h; simp; omega⟩
    · split
      · have := body_left r [] (done ++ [cur])
        exact ⟨by simp; omega, fun h => by have := this.2 h; simp; omega⟩
      · split
        · simp
        · simp
theorem name_left (n : List UInt8) (r : List Tk) : (nameD n r).left.length ≤ r.length ∧ ((nameD n r).ok = true → (nameD n r).left.length < r.length) := by
  cases r with
  | nil => simp [nameD]
  | cons c q =>
    have e : nameD n (c :: q) = if c.1 = 3 then ⟨(bodyD q [] []).ok, ⟨n, (bodyD q [] []).alts⟩, (bodyD q [] []).left⟩ else ⟨false, ⟨[], []⟩, c :: q⟩ := rfl
    rw [e, List.length_cons]
    by_cases h3 : c.1 = 3
    · rw [if_pos h3]
      have := body_left q [] []
      exact ⟨by simp only; omega, fun h => by have := this.2 h; simp only; omega⟩
    · rw [if_neg h3]
      simp
theorem rule_left (r : List Tk) : (ruleD r).left.length ≤ r.length ∧ ((ruleD r).ok = true → (ruleD r).left.length < r.length) := by
  cases r with
  | nil => simp [ruleD]
  | cons t r =>
    have e : ruleD (t :: r) = if t.1 ≠ 1 then ⟨false, ⟨[], []⟩, t :: r⟩ else nameD t.2 r := rfl
    rw [e, List.length_cons]
    by_cases h1 : t.1 ≠ 1
    · rw [if_pos h1]
      simp
    · rw [if_neg h1]
      have := name_left t.2 r
      exact ⟨by omega, fun h => by have := this.2 h; omega⟩
/-- Lines that were read, or how many tokens were left where it went wrong. -/
structure LinesD where
  ok : Bool
  lines : List LineD
  left : Nat
def linesD (r : List Tk) : LinesD :=
  match r with
  | [] => ⟨true, [], 0⟩
  | t :: q =>
    if h : (ruleD (t :: q)).ok = true then
      (if (linesD (ruleD (t :: q)).left).ok then ⟨true, (ruleD (t :: q)).line :: (linesD (ruleD (t :: q)).left).lines, 0⟩ else linesD (ruleD (t :: q)).left)
    else ⟨false, [], (ruleD (t :: q)).left.length⟩
termination_by r.length
decreasing_by
  all_goals exact (rule_left (t :: q)).2 h
/-- What a text comes to. -/
structure ParD where
  lines : List LineD
  at_ : Nat
  err : Int
def offT (m : List UInt8) (toks : List TokD) (left : Nat) : Nat := match toks[toks.length - left]? with | some t => t.at_ | none => m.length
def parD (m : List UInt8) : ParD :=
  if (allD m).err ≠ 0 then ⟨[], (allD m).at_, (allD m).err⟩
  else if (linesD ((allD m).toks.map TokD.tk)).ok = false then ⟨[], offT m (allD m).toks (linesD ((allD m).toks.map TokD.tk)).left, 14⟩
  else if (linesD ((allD m).toks.map TokD.tk)).lines = [] then ⟨[], m.length, 14⟩
  else ⟨(linesD ((allD m).toks.map TokD.tk)).lines, 0, 0⟩
def itemT (i : ItemD) : List UInt8 := if i.term then [32, 39] ++ i.text ++ [39] else 32 :: i.text
def altT (a : List ItemD) : List UInt8 := a.flatMap itemT
def altsT : List (List ItemD) → List UInt8
  | [] => []
  | a :: r => altT a ++ r.flatMap fun b => [32, 124] ++ altT b
def lineT (l : LineD) : List UInt8 := l.name ++ [32, 58] ++ altsT l.alts ++ [32, 59, 10]
def textD (l : List LineD) : List UInt8 := l.flatMap lineT
/-- The tokens of lines. -/
def itemK (i : ItemD) : Tk := (if i.term then 2 else 1, i.text)
def altsK : List (List ItemD) → List Tk
  | [] => []
  | a :: r => a.map itemK ++ r.flatMap fun b => (4, [124]) :: b.map itemK
def lineK (l : LineD) : List Tk := (1, l.name) :: (3, [58]) :: (altsK l.alts ++ [(5, [59])])
theorem body_items : ∀ (a : List ItemD) (q : List Tk) (cur : List ItemD) (done : List (List ItemD)), bodyD (a.map itemK ++ q) cur done = bodyD q (cur ++ a) done
  | [], q, cur, done => by simp
  | i :: r, q, cur, done => by
    rw [List.map_cons, List.cons_append, bodyD]
    have h : (itemK i).1 = 1 ∨ (itemK i).1 = 2 := by unfold itemK; cases i.term <;> simp
    have h2 : (⟨decide ((itemK i).1 = 2), (itemK i).2⟩ : ItemD) = i := by unfold itemK; obtain ⟨b, x⟩ := i; cases b <;> simp
    rw [if_pos h, h2, body_items r q]
    simp
theorem body_bars : ∀ (r : List (List ItemD)) (q : List Tk) (cur : List ItemD) (done : List (List ItemD)), bodyD ((r.flatMap fun b => (4, [124]) :: b.map itemK) ++ (5, [59]) :: q) cur done = ⟨true, done ++ cur :: r, q⟩
  | [], q, cur, done => by simp [bodyD]
  | b :: r, q, cur, done => by
    rw [List.flatMap_cons, List.cons_append, List.cons_append, bodyD, if_neg (by simp), if_pos rfl, List.append_assoc, body_items, body_bars r q]
    simp
theorem body_back (l : LineD) (h : l.alts ≠ []) (q : List Tk) : ruleD (lineK l ++ q) = ⟨true, l, q⟩ := by
  obtain ⟨n, al⟩ := l
  cases al with
  | nil => exact absurd rfl h
  | cons a r =>
    unfold lineK altsK
    simp only [List.cons_append, List.append_assoc, List.nil_append]
    have hb := body_items a ((r.flatMap fun b => (4, [124]) :: b.map itemK) ++ (5, [59]) :: q) [] []
    rw [body_bars] at hb
    have e1 : ∀ r : List Tk, ruleD ((1, n) :: r) = nameD n r := fun r => by simp [ruleD]
    have e2 : ∀ r : List Tk, nameD n ((3, [58]) :: r) = ⟨(bodyD r [] []).ok, ⟨n, (bodyD r [] []).alts⟩, (bodyD r [] []).left⟩ := fun r => by simp [nameD]
    rw [e1, e2, hb]
    simp
theorem lines_back : ∀ (l : List LineD), (∀ x ∈ l, x.alts ≠ []) → linesD (l.flatMap lineK) = ⟨true, l, 0⟩
  | [], _ => by rw [List.flatMap_nil, linesD]
  | x :: l, h => by
    have hb := body_back x (h x (by simp)) (l.flatMap lineK)
    have ih := lines_back l (fun y hy => h y (by simp [hy]))
    rw [List.flatMap_cons]
    have hc : lineK x ++ l.flatMap lineK = (1, x.name) :: ((3, [58]) :: (altsK x.alts ++ [(5, [59])]) ++ l.flatMap lineK) := rfl
    rw [hc] at hb ⊢
    rw [linesD, dif_pos (by rw [hb]), hb]
    simp only
    rw [ih]
    rfl
end Go.Proofs.Ytcmgnhjffhaajaa

/-! Plain mathematics of grammars (layer 14). Nothing here names the program. -/
namespace Go.Proofs.Ytcmgnhjffhaajaa

structure RuleG where
  left : Int
  right : List Int
structure GramG where
  names : List (List UInt8)
  terms : List (List UInt8)
  rules : List RuleG
theorem RuleG.ext' {a b : RuleG} (h1 : a.left = b.left) (h2 : a.right = b.right) : a = b := by cases a; cases b; simp_all
theorem GramG.ext' {a b : GramG} (h1 : a.names = b.names) (h2 : a.terms = b.terms) (h3 : a.rules = b.rules) : a = b := by cases a; cases b; simp_all
/-- A truth as a Bool. -/
noncomputable def boolOf (p : Prop) : Bool := @decide p (Classical.propDecidable p)
theorem boolOf_true {p : Prop} (h : p) : boolOf p = true := by unfold boolOf; exact @decide_eq_true p (Classical.propDecidable p) h
theorem boolOf_false {p : Prop} (h : ¬ p) : boolOf p = false := by unfold boolOf; exact @decide_eq_false p (Classical.propDecidable p) h
theorem boolOf_congr {p q : Prop} (h : p ↔ q) : boolOf p = boolOf q := by rw [show p = q from propext h]
theorem of_boolOf {p : Prop} (h : boolOf p = true) : p := Classical.byContradiction fun hn => by rw [boolOf_false hn] at h; cases h
theorem boolOf_cases (p : Prop) : (p ∧ boolOf p = true) ∨ (¬ p ∧ boolOf p = false) := (Classical.em p).elim (fun h => .inl ⟨h, boolOf_true h⟩) (fun h => .inr ⟨h, boolOf_false h⟩)
/-- The place of a text in a list; -1: it is not there. -/
def findG : List (List UInt8) → List UInt8 → Int
  | [], _ => -1
  | x :: l, s => if x = s then 0 else if findG l s < 0 then -1 else findG l s + 1
theorem find_at : ∀ {l : List (List UInt8)} {s : List UInt8} {k : Nat} (hk : k < l.length), l[k] = s → (∀ j (h : j < k), l[j]'(by omega) ≠ s) → findG l s = (k : Int)
  | [], s, k, hk, _, _ => by simp at hk
  | x :: l, s, k, hk, h1, h2 => by
    unfold findG
    cases k with
    | zero => rw [if_pos (by simpa using h1)]; rfl
    | succ k =>
      have h0 : ¬ x = s := by simpa using h2 0 (by omega)
      have := find_at (l := l) (s := s) (k := k) (by simpa using hk) (by simpa using h1) (fun j h => by simpa using h2 (j + 1) (by omega))
      rw [if_neg h0, this, if_neg (by omega)]
      omega
theorem find_no : ∀ {l : List (List UInt8)} {s : List UInt8}, s ∉ l → findG l s = -1
  | [], s, _ => rfl
  | x :: l, s, h => by
    unfold findG
    rw [if_neg (fun e => h (by simp [e])), find_no (fun hm => h (by simp [hm])), if_pos (by omega)]
theorem find_yes : ∀ {l : List (List UInt8)} {s : List UInt8}, s ∈ l → ∃ (k : Nat) (hk : k < l.length), findG l s = (k : Int) ∧ l[k] = s ∧ ∀ j (h : j < k), l[j]'(by omega) ≠ s
  | [], s, h => by simp at h
  | x :: l, s, h => by
    unfold findG
    by_cases e : x = s
    · exact ⟨0, by simp, by rw [if_pos e]; rfl, by simpa using e, fun j hj => by omega⟩
    · have hm : s ∈ l := by
        rcases List.mem_cons.1 h with q | q
        · exact absurd q.symm e
        · exact q
      obtain ⟨k, hk, h1, h2, h3⟩ := find_yes hm
      refine ⟨k + 1, by simp; omega, by rw [if_neg e, h1, if_neg (by omega)]; omega, by simpa using h2, fun j hj => ?_⟩
      cases j with
      | zero => simpa using e
      | succ j => simpa using h3 j (by omega)
theorem find_le {l : List (List UInt8)} {i : Nat} (hi : i < l.length) : ∃ k : Nat, findG l l[i] = (k : Int) ∧ k ≤ i ∧ (k = i ↔ ∀ j (h : j < i), l[j]'(by omega) ≠ l[i]) := by
  obtain ⟨k, hk, h1, h2, h3⟩ := find_yes (List.getElem_mem hi)
  have hle : k ≤ i := by
    rcases Nat.lt_or_ge i k with q | q
    · exact absurd rfl (h3 i q)
    · exact q
  refine ⟨k, h1, hle, fun e => ?_, fun h => ?_⟩
  · subst e; exact h3
  · rcases Nat.lt_or_ge k i with q | q
    · exact absurd h2 (h k q)
    · omega
theorem nodup_iff {α : Type} {l : List α} : l.Nodup ↔ ∀ i (hi : i < l.length) j (hj : j < i), l[j]'(by omega) ≠ l[i] := by
  unfold List.Nodup
  rw [List.pairwise_iff_getElem]
  exact ⟨fun h i hi j hj => h j i (by omega) hi hj, fun h i j hi hj hij => h j hj i hij⟩
/-- A grammar that may be. -/
structure ValidG (g : GramG) : Prop where
  one : 1 ≤ g.names.length
  syms : g.names.length + g.terms.length ≤ 256
  few : g.rules.length ≤ 4096
  names : ∀ n ∈ g.names, nameB n = true
  nodupN : g.names.Nodup
  has : ∀ i : Nat, i < g.names.length → ∃ r ∈ g.rules, r.left = (i : Int)
  terms : ∀ t ∈ g.terms, termB t = true
  nodupT : g.terms.Nodup
  rules : ∀ r ∈ g.rules, 0 ≤ r.left ∧ r.left < (g.names.length : Int) ∧ r.right.length ≤ 64 ∧ ∀ s ∈ r.right, -(g.terms.length : Int) ≤ s ∧ s < (g.names.length : Int)
  nodupR : g.rules.Nodup
noncomputable def validB (g : GramG) : Bool := boolOf (ValidG g)
noncomputable def sameB (g h : GramG) : Bool := boolOf (g = h)
/-- The rules of a nonterminal: their numbers. -/
def ofFrom : List RuleG → Int → Nat → List Int
  | [], _, _ => []
  | r :: l, a, i => if r.left = a then (i : Int) :: ofFrom l a (i + 1) else ofFrom l a (i + 1)
def ofG (g : GramG) (a : Int) : List Int := ofFrom g.rules a 0
/-- A small grammar. -/
def FewG (g : GramG) : Prop := g.names.length ≤ 12 ∧ g.terms.length ≤ 12 ∧ g.rules.length ≤ 40 ∧ (∀ r ∈ g.rules, r.right.length ≤ 20) ∧ (∀ n ∈ g.names, n.length ≤ 40) ∧ ∀ t ∈ g.terms, t.length ≤ 40
noncomputable def fewB (g : GramG) : Int := if boolOf (FewG g) = true then 1 else 0
/-- A symbol as an item. -/
def itemG (g : GramG) (s : Int) : ItemD := if s < 0 then ⟨true, g.terms.getD (-1 - s).toNat []⟩ else ⟨false, g.names.getD s.toNat []⟩
def altsG (g : GramG) (i : Nat) : List (List ItemD) := (g.rules.filter fun r => decide (r.left = (i : Int))).map fun r => r.right.map (itemG g)
/-- A grammar's lines. -/
def linesG (g : GramG) : List LineD := g.names.zipIdx.map fun p => ⟨p.1, altsG g p.2⟩
/-- The terminals of items, in the order in which they first stand. -/
def addT (acc : List (List UInt8)) (i : ItemD) : List (List UInt8) := if i.term = true ∧ i.text ∉ acc then acc ++ [i.text] else acc
def itemsOf (ls : List LineD) : List ItemD := ls.flatMap fun l => l.alts.flatten
def termsOf (is : List ItemD) : List (List UInt8) := is.foldl addT []
def symG (names terms : List (List UInt8)) (i : ItemD) : Int := if i.term then -1 - findG terms i.text else findG names i.text
def rulesOf (names terms : List (List UInt8)) (ls : List LineD) : List RuleG := ls.zipIdx.flatMap fun p => p.1.alts.map fun a => ⟨(p.2 : Int), a.map (symG names terms)⟩
def gramOf (ls : List LineD) : GramG := ⟨ls.map (·.name), termsOf (itemsOf ls), rulesOf (ls.map (·.name)) (termsOf (itemsOf ls)) ls⟩
def emptyG : GramG := ⟨[], [], []⟩
structure ResD where
  g : GramG
  err : Int
/-- The alternatives are too many, or too long. -/
def BoundL (ls : List LineD) : Prop := (∃ l ∈ ls, ∃ a ∈ l.alts, 64 < a.length) ∨ 4096 < (ls.map fun l => l.alts.length).sum ∨ 256 < ls.length
def UndefL (ls : List LineD) : Prop := ∃ i ∈ itemsOf ls, i.term = false ∧ i.text ∉ ls.map (·.name)
/-- What lines come to. -/
noncomputable def resolveG (ls : List LineD) : ResD :=
  if boolOf (BoundL ls) = true then ⟨emptyG, 19⟩
  else if boolOf ((ls.map (·.name)).Nodup) = false then ⟨emptyG, 15⟩
  else if boolOf (UndefL ls) = true then ⟨emptyG, 16⟩
  else if 256 < (gramOf ls).names.length + (gramOf ls).terms.length then ⟨emptyG, 19⟩
  else if boolOf ((gramOf ls).rules.Nodup) = false then ⟨emptyG, 15⟩
  else ⟨gramOf ls, 0⟩
/-- How many terminals have been seen; none: one came too early. -/
def seenG : List Int → Nat → Option Nat
  | [], n => some n
  | s :: l, n => if s < 0 ∧ (n : Int) < -1 - s then none else if s < 0 ∧ -1 - s = (n : Int) then seenG l (n + 1) else seenG l n
/-- The rules stand by rising left sides, the terminals in their order. -/
def OrderG (g : GramG) : Prop := (∀ i (h : i + 1 < g.rules.length), (g.rules[i]'(by omega)).left ≤ (g.rules[i + 1]'h).left) ∧ seenG (g.rules.flatMap (·.right)) 0 = some g.terms.length
end Go.Proofs.Ytcmgnhjffhaajaa

/-! Lines al text are read al the same lines (layer 13): plain mathematics. -/
namespace Go.Proofs.Ytcmgnhjffhaajaa

/-- What a token may be. -/
def tkOk (k : Tk) : Prop := (k.1 = 1 ∧ nameB k.2 = true) ∨ (k.1 = 2 ∧ termB k.2 = true) ∨ k.1 = 3 ∨ k.1 = 4 ∨ k.1 = 5
theorem takeWhile_yes (p : UInt8 → Bool) : ∀ l : List UInt8, (l.takeWhile p).all p = true
  | [] => rfl
  | c :: t => by
    rw [List.takeWhile_cons]
    split
    · next h => rw [List.all_cons, h, takeWhile_yes p t]; rfl
    · rfl
theorem next_ok {c : UInt8} {t : List UInt8} (h : (nextD c t).err = 0) : tkOk ((nextD c t).kind, (nextD c t).text) ∧ (nextD c t).text.length ≤ (nextD c t).n := by
  unfold nextD at h ⊢
  by_cases h1 : c = 58
  · rw [if_pos h1]; exact ⟨.inr (.inr (.inl rfl)), Nat.le_refl _⟩
  · rw [if_neg h1] at h ⊢
    by_cases h2 : c = 124
    · rw [if_pos h2]; exact ⟨.inr (.inr (.inr (.inl rfl))), Nat.le_refl _⟩
    · rw [if_neg h2] at h ⊢
      by_cases h3 : c = 59
      · rw [if_pos h3]; exact ⟨.inr (.inr (.inr (.inr rfl))), Nat.le_refl _⟩
      · rw [if_neg h3] at h ⊢
        by_cases h4 : letterB c = true
        · rw [if_pos h4] at h ⊢
          by_cases h5 : 32 < ((c :: t).takeWhile moreB).length
          · rw [if_pos h5] at h; simp [noneD] at h
          · rw [if_neg h5]
            refine ⟨.inl ⟨rfl, ?_⟩, Nat.le_refl _⟩
            have hm : moreB c = true := (letter_num h4).2.2.2.2.2
            have hy := takeWhile_yes moreB (c :: t)
            have hc : (c :: t).takeWhile moreB = c :: t.takeWhile moreB := by rw [List.takeWhile_cons, if_pos hm]
            unfold nameB
            simp only
            rw [hy, hc, decide_eq_true (by rw [hc] at h5; simp at h5 ⊢; omega)]
            simp only
            rw [h4]; rfl
        · rw [if_neg h4] at h ⊢
          by_cases h5 : c = 39
          · rw [if_pos h5] at h ⊢
            unfold termD at h ⊢
            by_cases h6 : (t.drop (t.takeWhile termC).length).head? = some 39 ∧ t.takeWhile termC ≠ []
            · rw [if_pos h6] at h ⊢
              by_cases h7 : 32 < (t.takeWhile termC).length
              · rw [if_pos h7] at h; simp [noneD] at h
              · rw [if_neg h7]
                refine ⟨.inr (.inl ⟨rfl, ?_⟩), by simp⟩
                have hp : 0 < (t.takeWhile termC).length := List.length_pos_iff.2 h6.2
                unfold termB
                simp only
                rw [takeWhile_yes termC t, decide_eq_true (by omega)]; rfl
            · rw [if_neg h6] at h; simp [noneD] at h
          · rw [if_neg h5] at h; simp [noneD] at h
def wtK (k : Tk) : Nat := k.2.length + 4
theorem lex_sound {r : List UInt8} {p : Nat} : (∀ t ∈ (lexD r p).toks, tkOk t.tk) ∧ (((lexD r p).toks.map fun t => wtK t.tk).sum ≤ 5 * r.length) := by
  induction r, p using lexD.induct with
  | case1 p => rw [lex_nil]; simp
  | case2 p c t hb ih => rw [lex_blank t p hb]; exact ⟨ih.1, by have := ih.2; simp only [List.length_cons]; omega⟩
  | case3 p t hb ih =>
    rw [lex_note]
    have := restC_le t
    exact ⟨ih.1, by have := ih.2; simp only [List.length_cons]; omega⟩
  | case4 p c t hb h3 he => rw [lex_err t p (by simpa using hb) h3 he]; simp
  | case5 p c t hb h3 he ih =>
    rw [lexD, if_neg hb, if_neg h3, if_neg he]
    have he0 : (nextD c t).err = 0 := by simpa using he
    have hpos := next_pos he0
    have hok := next_ok he0
    have ih2 := ih.2
    rw [List.length_cons] at hpos ⊢
    rw [List.length_drop] at ih2
    unfold consD
    split
    · refine ⟨fun x hx => ?_, ?_⟩
      · rw [List.mem_cons] at hx
        rcases hx with rfl | hx
        · exact hok.1
        · exact ih.1 x hx
      · rw [List.map_cons, List.sum_cons]
        have : wtK (TokD.tk ⟨(nextD c t).kind, (nextD c t).text, p⟩) = (nextD c t).text.length + 4 := rfl
        rw [this]
        have := hok.2
        omega
    · exact ⟨ih.1, by omega⟩
/-- r gives these tokens, wherever it stands. -/
def Lx (r : List UInt8) (ks : List Tk) : Prop := ∀ p, (lexD r p).err = 0 ∧ (lexD r p).toks.map TokD.tk = ks
theorem Lx.nil : Lx [] [] := fun p => by rw [lex_nil]; exact ⟨rfl, rfl⟩
theorem Lx.blank {c : UInt8} {r : List UInt8} {ks : List Tk} (hc : blankB c = true) (h : Lx r ks) : Lx (c :: r) ks := fun p => by rw [lex_blank r p hc]; exact h (p + 1)
theorem cons_ok {x : TokD} {r : LexD} {ks : List Tk} (h : r.err = 0 ∧ r.toks.map TokD.tk = ks) : (consD x r).err = 0 ∧ (consD x r).toks.map TokD.tk = x.tk :: ks := by
  unfold consD
  rw [if_pos h.1]
  exact ⟨rfl, by rw [List.map_cons, h.2]⟩
theorem Lx.one {c : UInt8} {k : Int} {r : List UInt8} {ks : List Tk} (hc : ∀ t, nextD c t = ⟨k, [c], 1, 0⟩) (hb : blankB c = false) (h35 : c ≠ 35) (h : Lx r ks) : Lx (c :: r) ((k, [c]) :: ks) := fun p => by
  rw [lex_tok r p hb h35 (by rw [hc]), hc]
  exact cons_ok (h (p + 1))
theorem Lx.name {n : List UInt8} {x : UInt8} {q : List UInt8} {ks : List Tk} (hn : nameB n = true) (hx : moreB x = false) (h : Lx (x :: q) ks) : Lx (n ++ x :: q) ((1, n) :: ks) := fun p => by
  unfold nameB at hn
  rw [Bool.and_eq_true, Bool.and_eq_true] at hn
  obtain ⟨⟨h1, h2⟩, h3⟩ := hn
  have h1' := of_decide_eq_true h1
  cases n with
  | nil => simp at h1'
  | cons c t =>
    simp only at h2
    obtain ⟨e1, e2, e3, e4, e5, e6⟩ := letter_num h2
    have hnx : nextD c (t ++ x :: q) = ⟨1, c :: t, (c :: t).length, 0⟩ := by
      unfold nextD
      rw [if_neg e1, if_neg e2, if_neg e3, if_pos h2, ← List.cons_append, takeWhile_stop (c :: t) x q hx, takeWhile_all h3, if_neg (by omega)]
    rw [List.cons_append, lex_tok _ p e5 e4 (by rw [hnx]), hnx, ← List.cons_append]
    simp only
    rw [List.drop_left]
    exact cons_ok (h _)
theorem Lx.term {t : List UInt8} {q : List UInt8} {ks : List Tk} (ht : termB t = true) (h : Lx q ks) : Lx (39 :: (t ++ 39 :: q)) ((2, t) :: ks) := fun p => by
  unfold termB at ht
  rw [Bool.and_eq_true] at ht
  have h1' := of_decide_eq_true ht.1
  have htw : (t ++ 39 :: q).takeWhile termC = t := by rw [takeWhile_stop t 39 q (by decide), takeWhile_all ht.2]
  have hnx : nextD 39 (t ++ 39 :: q) = ⟨2, t, t.length + 2, 0⟩ := by
    unfold nextD
    rw [if_neg (by decide), if_neg (by decide), if_neg (by decide), if_neg (by decide), if_pos rfl]
    unfold termD
    rw [htw, if_pos ⟨by simp, by intro e; rw [e] at h1'; simp at h1'⟩, if_neg (by omega)]
  rw [lex_tok _ p (by decide) (by decide) (by rw [hnx]), hnx]
  simp only
  have hd : (39 :: (t ++ 39 :: q)).drop (t.length + 2) = q := by
    rw [List.drop_succ_cons, List.drop_append, List.drop_eq_nil_of_le (by omega), show t.length + 1 - t.length = 1 from by omega]; rfl
  rw [hd]
  exact cons_ok (h _)
def itemOk (i : ItemD) : Prop := (if i.term then termB i.text else nameB i.text) = true
theorem lx_item {i : ItemD} (hi : itemOk i) {q : List UInt8} {ks : List Tk} (h : Lx (32 :: q) ks) : Lx (itemT i ++ 32 :: q) (itemK i :: ks) := by
  obtain ⟨b, x⟩ := i
  cases b with
  | true =>
    have : itemT ⟨true, x⟩ ++ 32 :: q = 32 :: 39 :: (x ++ 39 :: 32 :: q) := by simp [itemT]
    rw [this]
    exact (Lx.term hi h).blank (by decide)
  | false =>
    have : itemT ⟨false, x⟩ ++ 32 :: q = 32 :: (x ++ 32 :: q) := by simp [itemT]
    rw [this]
    exact (Lx.name hi (by decide) h).blank (by decide)
theorem lx_alt : ∀ (a : List ItemD), (∀ i ∈ a, itemOk i) → ∀ {q : List UInt8} {ks : List Tk}, Lx (32 :: q) ks → Lx (altT a ++ 32 :: q) (a.map itemK ++ ks) ∧ ∃ q', altT a ++ 32 :: q = 32 :: q'
  | [], _, q, ks, h => ⟨by simpa [altT] using h, q, rfl⟩
  | i :: r, hi, q, ks, h => by
    obtain ⟨h1, q', e⟩ := lx_alt r (fun x hx => hi x (by simp [hx])) h
    have h2 : altT (i :: r) ++ 32 :: q = itemT i ++ (altT r ++ 32 :: q) := by simp [altT]
    rw [h2]
    rw [e] at h1 ⊢
    refine ⟨lx_item (hi i (by simp)) h1, ?_⟩
    obtain ⟨b, x⟩ := i
    cases b <;> exact ⟨_, rfl⟩
theorem lx_bars : ∀ (r : List (List ItemD)), (∀ a ∈ r, ∀ i ∈ a, itemOk i) → ∀ {q : List UInt8} {ks : List Tk}, Lx (32 :: q) ks → Lx ((r.flatMap fun b => [32, 124] ++ altT b) ++ 32 :: q) ((r.flatMap fun b => (4, [124]) :: b.map itemK) ++ ks) ∧ ∃ q', (r.flatMap fun b => [32, 124] ++ altT b) ++ 32 :: q = 32 :: q'
  | [], _, q, ks, h => ⟨by simpa using h, q, rfl⟩
  | b :: r, hi, q, ks, h => by
    obtain ⟨h1, q', e⟩ := lx_bars r (fun a ha => hi a (by simp [ha])) h
    rw [e] at h1
    obtain ⟨h2, q2, e2⟩ := lx_alt b (hi b (by simp)) h1
    have h3 : (List.flatMap (fun b => [32, 124] ++ altT b) (b :: r)) ++ 32 :: q = 32 :: 124 :: (altT b ++ 32 :: q') := by
      rw [List.flatMap_cons, List.append_assoc, e]; simp
    rw [h3]
    refine ⟨?_, _, rfl⟩
    have := (Lx.one (c := 124) (k := 4) (fun t => rfl) (by decide) (by decide) h2).blank (c := 32) (by decide)
    simpa using this
def lineOk (l : LineD) : Prop := nameB l.name = true ∧ l.alts ≠ [] ∧ ∀ a ∈ l.alts, ∀ i ∈ a, itemOk i
theorem lx_line {l : LineD} (hl : lineOk l) {q : List UInt8} {ks : List Tk} (h : Lx q ks) : Lx (lineT l ++ q) (lineK l ++ ks) := by
  obtain ⟨n, al⟩ := l
  obtain ⟨h1, h2, h3⟩ := hl
  simp only at h1 h2 h3
  cases al with
  | nil => exact absurd rfl h2
  | cons a r =>
    have hend : Lx (32 :: 59 :: 10 :: q) ((5, [59]) :: ks) := (Lx.one (c := 59) (k := 5) (fun t => rfl) (by decide) (by decide) (h.blank (c := 10) (by decide))).blank (by decide)
    obtain ⟨g1, q1, e1⟩ := lx_bars r (fun b hb => h3 b (by simp [hb])) hend
    rw [e1] at g1
    obtain ⟨g2, q2, e2⟩ := lx_alt a (h3 a (by simp)) g1
    have hall : lineT ⟨n, a :: r⟩ ++ q = n ++ 32 :: 58 :: (altT a ++ 32 :: q1) := by
      rw [← e1]; simp [lineT, altsT]
    rw [hall]
    have := Lx.name h1 (x := 32) (by decide) ((Lx.one (c := 58) (k := 3) (fun t => rfl) (by decide) (by decide) g2).blank (c := 32) (by decide))
    simpa [lineK, altsK] using this
theorem lx_text : ∀ (l : List LineD), (∀ x ∈ l, lineOk x) → Lx (textD l) (l.flatMap lineK)
  | [], _ => Lx.nil
  | x :: l, h => by
    unfold textD
    rw [List.flatMap_cons, List.flatMap_cons]
    exact lx_line (h x (by simp)) (lx_text l (fun y hy => h y (by simp [hy])))
/-- Lines, al text, are read al the same. -/
theorem par_text {l : List LineD} (h : ∀ x ∈ l, lineOk x) (hne : l ≠ []) (hs : (textD l).length ≤ 65536) : parD (textD l) = ⟨l, 0, 0⟩ := by
  have ha : allD (textD l) = lexD (textD l) 0 := by unfold allD; rw [if_neg (by omega)]
  obtain ⟨h1, h2⟩ := lx_text l h 0
  have hb := lines_back l (fun x hx => (h x hx).2.1)
  unfold parD
  rw [ha, if_neg (by simp [h1]), h2, hb, if_neg (by simp), if_neg hne]
end Go.Proofs.Ytcmgnhjffhaajaa

/-! What is read of any text is valid, and its text is not too long (layer 13): plain mathematics. -/
namespace Go.Proofs.Ytcmgnhjffhaajaa

def wtL (r : List Tk) : Nat := (r.map wtK).sum
def barsT (l : List (List ItemD)) : List UInt8 := l.flatMap fun b => [32, 124] ++ altT b
theorem alts_bars {l : List (List ItemD)} (h : l ≠ []) : (altsT l).length + 2 = (barsT l).length := by
  cases l with
  | nil => exact absurd rfl h
  | cons a r => simp [altsT, barsT]
theorem bars_snoc (l : List (List ItemD)) (a : List ItemD) : (barsT (l ++ [a])).length = (barsT l).length + 2 + (altT a).length := by simp [barsT]; omega
theorem alt_snoc (a : List ItemD) (i : ItemD) : (altT (a ++ [i])).length = (altT a).length + (itemT i).length := by simp [altT]
theorem item_len (i : ItemD) : (itemT i).length ≤ i.text.length + 3 := by unfold itemT; split <;> simp <;> omega
theorem body_sound : ∀ (r : List Tk) (cur : List ItemD) (done : List (List ItemD)), (∀ t ∈ r, tkOk t) → (∀ i ∈ cur, itemOk i) → (∀ a ∈ done, ∀ i ∈ a, itemOk i) → (bodyD r cur done).ok = true →
    (bodyD r cur done).alts ≠ [] ∧ (∀ a ∈ (bodyD r cur done).alts, ∀ i ∈ a, itemOk i) ∧ (barsT (bodyD r cur done).alts).length + 4 + wtL (bodyD r cur done).left ≤ (barsT (done ++ [cur])).length + wtL r ∧ ∀ t ∈ (bodyD r cur done).left, tkOk t
  | [], cur, done, _, _, _, h => by simp [bodyD] at h
  | t :: r, cur, done, ht, hc, hd, h => by
    have htr : ∀ x ∈ r, tkOk x := fun x hx => ht x (by simp [hx])
    have hw : wtL (t :: r) = t.2.length + 4 + wtL r := by simp [wtL, wtK]
    unfold bodyD at h ⊢
    by_cases h1 : t.1 = 1 ∨ t.1 = 2
    · rw [if_pos h1] at h ⊢
      have hi : itemOk ⟨decide (t.1 = 2), t.2⟩ := by
        have := ht t (by simp)
        unfold tkOk at this
        unfold itemOk
        simp only
        rcases h1 with h1 | h1
        · rw [h1] at this ⊢; simpa using this
        · rw [h1] at this ⊢; simpa using this
      obtain ⟨g1, g2, g3, g4⟩ := body_sound r (cur ++ [⟨decide (t.1 = 2), t.2⟩]) done htr (fun i him => by
        rcases List.mem_append.1 him with q | q
        · exact hc i q
        · obtain rfl := List.mem_singleton.1 q; exact hi) hd h
      refine ⟨g1, g2, ?_, g4⟩
      have := item_len ⟨decide (t.1 = 2), t.2⟩
      rw [bars_snoc] at g3 ⊢
      rw [alt_snoc] at g3
      simp only at this
      omega
    · rw [if_neg h1] at h ⊢
      by_cases h4 : t.1 = 4
      · rw [if_pos h4] at h ⊢
        obtain ⟨g1, g2, g3, g4⟩ := body_sound r [] (done ++ [cur]) htr (by simp) (fun a ha => by
          rcases List.mem_append.1 ha with q | q
          · exact hd a q
          · obtain rfl := List.mem_singleton.1 q; exact hc) h
        refine ⟨g1, g2, ?_, g4⟩
        rw [bars_snoc (done ++ [cur])] at g3
        simp [altT] at g3
        omega
      · rw [if_neg h4] at h ⊢
        by_cases h5 : t.1 = 5
        · rw [if_pos h5]
          refine ⟨by simp, fun a ha => ?_, by simp only; omega, htr⟩
          rcases List.mem_append.1 ha with q | q
          · exact hd a q
          · obtain rfl := List.mem_singleton.1 q; exact hc
        · rw [if_neg h5] at h; cases h
theorem rule_sound {r : List Tk} (ht : ∀ t ∈ r, tkOk t) (h : (ruleD r).ok = true) : lineOk (ruleD r).line ∧ (lineT (ruleD r).line).length + wtL (ruleD r).left ≤ wtL r ∧ ∀ t ∈ (ruleD r).left, tkOk t := by
  cases r with
  | nil => simp [ruleD] at h
  | cons t r =>
    have e : ruleD (t :: r) = if t.1 ≠ 1 then ⟨false, ⟨[], []⟩, t :: r⟩ else nameD t.2 r := rfl
    rw [e] at h ⊢
    by_cases h1 : t.1 ≠ 1
    · rw [if_pos h1] at h; cases h
    · rw [if_neg h1] at h ⊢
      cases r with
      | nil => simp [nameD] at h
      | cons c q =>
        have e2 : nameD t.2 (c :: q) = if c.1 = 3 then ⟨(bodyD q [] []).ok, ⟨t.2, (bodyD q [] []).alts⟩, (bodyD q [] []).left⟩ else ⟨false, ⟨[], []⟩, c :: q⟩ := rfl
        rw [e2] at h ⊢
        by_cases h3 : c.1 = 3
        · rw [if_pos h3] at h ⊢
          simp only at h ⊢
          obtain ⟨g1, g2, g3, g4⟩ := body_sound q [] [] (fun x hx => ht x (by simp [hx])) (by simp) (by simp) h
          have hn : nameB t.2 = true := by
            have := ht t (by simp)
            unfold tkOk at this
            have h1' : t.1 = 1 := by simpa using h1
            rw [h1'] at this
            simpa using this
          refine ⟨⟨hn, g1, g2⟩, ?_, g4⟩
          have hab := alts_bars g1
          have hl : (lineT ⟨t.2, (bodyD q [] []).alts⟩).length = t.2.length + 5 + (altsT (bodyD q [] []).alts).length := by simp [lineT]; omega
          have hw : wtL (t :: c :: q) = t.2.length + 4 + (c.2.length + 4 + wtL q) := by simp [wtL, wtK]
          have hb : (barsT ([] ++ [([] : List ItemD)])).length = 2 := by simp [barsT, altT]
          rw [hb] at g3
          rw [hl, hw]
          omega
        · rw [if_neg h3] at h; cases h
theorem lines_sound (n : Nat) : ∀ (r : List Tk), r.length ≤ n → (∀ t ∈ r, tkOk t) → (linesD r).ok = true → (∀ x ∈ (linesD r).lines, lineOk x) ∧ (textD (linesD r).lines).length ≤ wtL r := by
  induction n with
  | zero =>
    intro r hr _ _
    have : r = [] := List.length_eq_zero_iff.1 (by omega)
    subst this
    rw [linesD]; simp [textD]
  | succ n ih =>
    intro r hr ht h
    cases r with
    | nil => rw [linesD]; simp [textD]
    | cons t q =>
      rw [linesD] at h ⊢
      by_cases hk : (ruleD (t :: q)).ok = true
      · rw [dif_pos hk] at h ⊢
        obtain ⟨g1, g2, g3⟩ := rule_sound ht hk
        have hl := (rule_left (t :: q)).2 hk
        by_cases hi : (linesD (ruleD (t :: q)).left).ok = true
        · rw [if_pos hi] at h ⊢
          obtain ⟨k1, k2⟩ := ih _ (by omega) g3 hi
          refine ⟨fun x hx => ?_, ?_⟩
          · rw [List.mem_cons] at hx
            rcases hx with rfl | hx
            · exact g1
            · exact k1 x hx
          · have : textD ((ruleD (t :: q)).line :: (linesD (ruleD (t :: q)).left).lines) = lineT (ruleD (t :: q)).line ++ textD (linesD (ruleD (t :: q)).left).lines := by simp [textD]
            rw [this, List.length_append]
            omega
        · rw [if_neg hi] at h; exact absurd h hi
      · rw [dif_neg hk] at h; cases h
/-- What a text gives, al text, gives the same. -/
theorem par_back {m : List UInt8} (hm : m.length ≤ 2000) (h : (parD m).err = 0) : (parD m).at_ = 0 ∧ (textD (parD m).lines).length ≤ 10000 ∧ parD (textD (parD m).lines) = ⟨(parD m).lines, 0, 0⟩ := by
  have ha : allD m = lexD m 0 := by unfold allD; rw [if_neg (by omega)]
  have hs := lex_sound (r := m) (p := 0)
  have hw : wtL ((lexD m 0).toks.map TokD.tk) ≤ 5 * m.length := by
    unfold wtL
    rw [List.map_map]
    exact hs.2
  unfold parD at h ⊢
  rw [ha] at h ⊢
  by_cases h1 : (lexD m 0).err ≠ 0
  · rw [if_pos h1] at h; exact absurd h h1
  · rw [if_neg h1] at h ⊢
    by_cases h2 : (linesD ((lexD m 0).toks.map TokD.tk)).ok = false
    · rw [if_pos h2] at h; simp at h
    · rw [if_neg h2] at h ⊢
      by_cases h3 : (linesD ((lexD m 0).toks.map TokD.tk)).lines = []
      · rw [if_pos h3] at h; simp at h
      · rw [if_neg h3]
        obtain ⟨g1, g2⟩ := lines_sound _ ((lexD m 0).toks.map TokD.tk) (Nat.le_refl _) (fun t ht => by
          obtain ⟨x, hx, rfl⟩ := List.mem_map.1 ht
          exact hs.1 x hx) (by simpa using h2)
        have hlen : (textD (linesD ((lexD m 0).toks.map TokD.tk)).lines).length ≤ 10000 := by omega
        refine ⟨rfl, hlen, ?_⟩
        have := par_text g1 h3 (by omega)
        unfold parD at this
        exact this
end Go.Proofs.Ytcmgnhjffhaajaa

/-! The sizes of grammars and lines (layer 14). Nothing here names the program. -/
namespace Go.Proofs.Ytcmgnhjffhaajaa

/-- No part is larger than any machine of today would have it. -/
structure SizeG (g : GramG) : Prop where
  names : g.names.length ≤ 100000
  terms : g.terms.length ≤ 100000
  rules : g.rules.length ≤ 100000
  right : ∀ r ∈ g.rules, r.right.length ≤ 100000
  name : ∀ n ∈ g.names, n.length ≤ 100000
  term : ∀ t ∈ g.terms, t.length ≤ 100000
/-- The symbols are what 64 bits hold (below). -/
def IntG (g : GramG) : Prop := ∀ r ∈ g.rules, ∀ s ∈ r.right, -9223372036854775808 ≤ s
structure SizeL (ls : List LineD) : Prop where
  lines : ls.length ≤ 100000
  alts : ∀ l ∈ ls, l.alts.length ≤ 100000
  name : ∀ l ∈ ls, l.name.length ≤ 100000
  items : ∀ l ∈ ls, ∀ a ∈ l.alts, a.length ≤ 100000
  text : ∀ l ∈ ls, ∀ a ∈ l.alts, ∀ i ∈ a, i.text.length ≤ 100000
end Go.Proofs.Ytcmgnhjffhaajaa

/-! What lines that were read come to is a grammar that may be (layer 14): plain mathematics. -/
namespace Go.Proofs.Ytcmgnhjffhaajaa

theorem par_lines {m : List UInt8} (hm : m.length ≤ 2000) (h : (parD m).err = 0) : (∀ x ∈ (parD m).lines, lineOk x) ∧ (parD m).lines ≠ [] ∧ (textD (parD m).lines).length ≤ 10000 := by
  refine ⟨?_, ?_, (par_back hm h).2.1⟩
  · have ha : allD m = lexD m 0 := by unfold allD; rw [if_neg (by omega)]
    have hs := lex_sound (r := m) (p := 0)
    unfold parD at h ⊢
    rw [ha] at h ⊢
    by_cases h1 : (lexD m 0).err ≠ 0
    · rw [if_pos h1] at h; exact absurd h h1
    · rw [if_neg h1] at h ⊢
      by_cases h2 : (linesD ((lexD m 0).toks.map TokD.tk)).ok = false
      · rw [if_pos h2] at h; simp at h
      · rw [if_neg h2] at h ⊢
        by_cases h3 : (linesD ((lexD m 0).toks.map TokD.tk)).lines = []
        · rw [if_pos h3] at h; simp at h
        · rw [if_neg h3]
          exact (lines_sound _ ((lexD m 0).toks.map TokD.tk) (Nat.le_refl _) (fun t ht => by
            obtain ⟨x, hx, rfl⟩ := List.mem_map.1 ht
            exact hs.1 x hx) (by simpa using h2)).1
  · unfold parD at h ⊢
    split at h
    · next q => exact absurd h q
    · next q =>
      rw [if_neg q]
      split at h
      · simp at h
      · next q2 =>
        rw [if_neg q2]
        split at h
        · simp at h
        · next q3 => rw [if_neg q3]; exact q3
theorem mem_textD {ls : List LineD} {l : LineD} (h : l ∈ ls) : (lineT l).length ≤ (textD ls).length := by
  induction ls with
  | nil => simp at h
  | cons x r ih =>
    have e : (textD (x :: r)).length = (lineT x).length + (textD r).length := by simp [textD]
    rcases List.mem_cons.1 h with rfl | h
    · omega
    · have := ih h; omega
theorem lineT_len (l : LineD) : (lineT l).length = l.name.length + (altsT l.alts).length + 5 := by simp [lineT]; omega
theorem len_textD (ls : List LineD) : ls.length ≤ (textD ls).length := by
  induction ls with
  | nil => simp
  | cons x r ih =>
    have e : (textD (x :: r)).length = (lineT x).length + (textD r).length := by simp [textD]
    have := lineT_len x
    simp only [List.length_cons]
    omega
theorem itemT_len (i : ItemD) : i.text.length + 1 ≤ (itemT i).length := by unfold itemT; split <;> simp
theorem mem_altT {a : List ItemD} {i : ItemD} (h : i ∈ a) : (itemT i).length ≤ (altT a).length := by
  induction a with
  | nil => simp at h
  | cons x r ih =>
    have e : (altT (x :: r)).length = (itemT x).length + (altT r).length := by simp [altT]
    rcases List.mem_cons.1 h with rfl | h
    · omega
    · have := ih h; omega
theorem len_altT (a : List ItemD) : a.length ≤ (altT a).length := by
  induction a with
  | nil => simp
  | cons x r ih =>
    have e : (altT (x :: r)).length = (itemT x).length + (altT r).length := by simp [altT]
    have := itemT_len x
    simp only [List.length_cons]
    omega
def barsL (r : List (List ItemD)) : List UInt8 := r.flatMap fun b => [32, 124] ++ altT b
theorem len_barsL (r : List (List ItemD)) : r.length ≤ (barsL r).length := by
  induction r with
  | nil => simp
  | cons x r ih =>
    have e : (barsL (x :: r)).length = 2 + (altT x).length + (barsL r).length := by simp [barsL]; omega
    simp only [List.length_cons]
    omega
theorem mem_barsL {r : List (List ItemD)} {a : List ItemD} (h : a ∈ r) : (altT a).length ≤ (barsL r).length := by
  induction r with
  | nil => simp at h
  | cons x r ih =>
    have e : (barsL (x :: r)).length = 2 + (altT x).length + (barsL r).length := by simp [barsL]; omega
    rcases List.mem_cons.1 h with rfl | h
    · omega
    · have := ih h; omega
theorem altsT_cons (a : List ItemD) (r : List (List ItemD)) : altsT (a :: r) = altT a ++ barsL r := rfl
theorem len_altsT (al : List (List ItemD)) : al.length ≤ (altsT al).length + 1 := by
  cases al with
  | nil => simp
  | cons a r =>
    rw [altsT_cons]
    have := len_barsL r
    simp only [List.length_cons, List.length_append]
    omega
theorem mem_altsT {al : List (List ItemD)} {a : List ItemD} (h : a ∈ al) : (altT a).length ≤ (altsT al).length := by
  cases al with
  | nil => simp at h
  | cons x r =>
    rw [altsT_cons, List.length_append]
    rcases List.mem_cons.1 h with rfl | h
    · omega
    · have := mem_barsL h; omega
theorem size_lines {ls : List LineD} (h : (textD ls).length ≤ 10000) : SizeL ls := by
  have hl : ∀ l ∈ ls, l.name.length + (altsT l.alts).length ≤ 10000 := fun l hm => by
    have h1 := mem_textD hm
    have h2 := lineT_len l
    omega
  refine ⟨by have := len_textD ls; omega, fun l hm => ?_, fun l hm => by have := hl l hm; omega, fun l hm a ha => ?_, fun l hm a ha i hi => ?_⟩
  · have := hl l hm; have := len_altsT l.alts; omega
  · have := hl l hm; have := mem_altsT ha; have := len_altT a; omega
  · have := hl l hm; have := mem_altsT ha; have := mem_altT hi; have := itemT_len i; omega
theorem name_len {m : List UInt8} (h : nameB m = true) : m.length ≤ 32 := by
  unfold nameB at h
  rw [Bool.and_eq_true, Bool.and_eq_true] at h
  exact (of_decide_eq_true h.1.1).2
theorem term_len {m : List UInt8} (h : termB m = true) : m.length ≤ 32 := by
  unfold termB at h
  rw [Bool.and_eq_true] at h
  exact (of_decide_eq_true h.1).2
theorem valid_size {g : GramG} (h : ValidG g) : SizeG g := by
  have h1 := h.syms
  have h2 := h.few
  exact ⟨by omega, by omega, by omega, fun r hr => by have := (h.rules r hr).2.2.1; omega, fun n hn => by have := name_len (h.names n hn); omega, fun n hn => by have := term_len (h.terms n hn); omega⟩
theorem valid_int {g : GramG} (h : ValidG g) : IntG g := fun r hr s hs => by
  have h1 := h.syms
  have := ((h.rules r hr).2.2.2 s hs).1
  omega
theorem empty_int : IntG emptyG := by unfold IntG; decide
theorem empty_size : SizeG emptyG := ⟨by decide, by decide, by decide, by decide, by decide, by decide⟩
theorem empty_not : ¬ ValidG emptyG := fun h => by have := h.one; simp [emptyG] at this
/-- The terminals of items: which they are, and that none is there twice. -/
theorem addT_nodup {acc : List (List UInt8)} (i : ItemD) (h : acc.Nodup) : (addT acc i).Nodup := by
  unfold addT
  split
  · next q => rw [List.nodup_append]; exact ⟨h, by simp, fun a ha b hb => by have hb' : b = i.text := (by simpa using hb); subst hb'; exact fun e => q.2 (e ▸ ha)⟩
  · exact h
theorem foldT_nodup : ∀ (is : List ItemD) (acc : List (List UInt8)), acc.Nodup → (is.foldl addT acc).Nodup
  | [], _, h => h
  | i :: r, acc, h => foldT_nodup r _ (addT_nodup i h)
theorem addT_mem {acc : List (List UInt8)} {i : ItemD} {t : List UInt8} : t ∈ addT acc i ↔ t ∈ acc ∨ (i.term = true ∧ t = i.text) := by
  unfold addT
  split
  · next q => rw [List.mem_append]; simp [q.1]
  · next q =>
    refine ⟨.inl, fun h => h.elim id (fun h => ?_)⟩
    rcases Classical.em (i.text ∈ acc) with z | z
    · rw [h.2]; exact z
    · exact absurd ⟨h.1, z⟩ q
theorem foldT_mem : ∀ (is : List ItemD) (acc : List (List UInt8)) (t : List UInt8), t ∈ is.foldl addT acc ↔ t ∈ acc ∨ ∃ i ∈ is, i.term = true ∧ t = i.text
  | [], acc, t => by simp
  | i :: r, acc, t => by
    rw [List.foldl_cons, foldT_mem r, addT_mem]
    simp only [List.mem_cons]
    refine ⟨?_, ?_⟩
    · rintro ((h | h) | ⟨j, hj, h⟩)
      · exact .inl h
      · exact .inr ⟨i, .inl rfl, h⟩
      · exact .inr ⟨j, .inr hj, h⟩
    · rintro (h | ⟨j, rfl | hj, h⟩)
      · exact .inl (.inl h)
      · exact .inl (.inr h)
      · exact .inr ⟨j, hj, h⟩
theorem terms_mem {is : List ItemD} {t : List UInt8} : t ∈ termsOf is ↔ ∃ i ∈ is, i.term = true ∧ t = i.text := by
  unfold termsOf
  rw [foldT_mem]
  simp
theorem items_mem {ls : List LineD} {i : ItemD} : i ∈ itemsOf ls ↔ ∃ l ∈ ls, ∃ a ∈ l.alts, i ∈ a := by
  unfold itemsOf
  simp [List.mem_flatMap, List.mem_flatten]
theorem rules_mem {names terms : List (List UInt8)} {ls : List LineD} {r : RuleG} : r ∈ rulesOf names terms ls ↔ ∃ (i : Nat) (l : LineD), ls[i]? = some l ∧ ∃ a ∈ l.alts, r = ⟨(i : Int), a.map (symG names terms)⟩ := by
  unfold rulesOf
  rw [List.mem_flatMap]
  refine ⟨?_, ?_⟩
  · rintro ⟨⟨l, i⟩, h, h2⟩
    rw [List.mk_mem_zipIdx_iff_getElem?] at h
    obtain ⟨a, ha, rfl⟩ := List.mem_map.1 h2
    exact ⟨i, l, h, a, ha, rfl⟩
  · rintro ⟨i, l, h, a, ha, rfl⟩
    exact ⟨(l, i), List.mk_mem_zipIdx_iff_getElem?.2 h, List.mem_map.2 ⟨a, ha, rfl⟩⟩
theorem rules_len_from (f : Nat → List ItemD → RuleG) : ∀ (ls : List LineD) (k : Nat), ((ls.zipIdx k).flatMap fun p => p.1.alts.map (f p.2)).length = (ls.map fun l => l.alts.length).sum
  | [], k => rfl
  | l :: r, k => by
    rw [List.zipIdx_cons, List.flatMap_cons, List.length_append, rules_len_from f r (k + 1)]
    simp
theorem rules_len (names terms : List (List UInt8)) (ls : List LineD) : (rulesOf names terms ls).length = (ls.map fun l => l.alts.length).sum := rules_len_from (fun i a => ⟨(i : Int), a.map (symG names terms)⟩) ls 0
theorem sym_range {names terms : List (List UInt8)} {i : ItemD} (h1 : 1 ≤ names.length) (ht : i.term = true → i.text ∈ terms) (hn : i.term = false → i.text ∈ names) : -(terms.length : Int) ≤ symG names terms i ∧ symG names terms i < (names.length : Int) := by
  unfold symG
  cases hb : i.term with
  | true =>
    obtain ⟨k, hk, e, -⟩ := find_yes (ht hb)
    rw [if_pos rfl, e]
    omega
  | false =>
    obtain ⟨k, hk, e, -⟩ := find_yes (hn hb)
    rw [if_neg (by simp), e]
    omega
theorem res_valid {ls : List LineD} (hok : ∀ x ∈ ls, lineOk x) (hne : ls ≠ []) : ((resolveG ls).err = 0 ∧ ValidG (resolveG ls).g) ∨ ((resolveG ls).err ≠ 0 ∧ (resolveG ls).g = emptyG) := by
  unfold resolveG
  by_cases h1 : boolOf (BoundL ls) = true
  · rw [if_pos h1]; right; simp
  rw [if_neg h1]
  by_cases h2 : boolOf ((ls.map (·.name)).Nodup) = false
  · rw [if_pos h2]; right; simp
  rw [if_neg h2]
  by_cases h3 : boolOf (UndefL ls) = true
  · rw [if_pos h3]; right; simp
  rw [if_neg h3]
  by_cases h4 : 256 < (gramOf ls).names.length + (gramOf ls).terms.length
  · rw [if_pos h4]; right; simp
  rw [if_neg h4]
  by_cases h5 : boolOf ((gramOf ls).rules.Nodup) = false
  · rw [if_pos h5]; right; simp
  rw [if_neg h5]
  left
  refine ⟨rfl, ?_⟩
  show ValidG (gramOf ls)
  have hB : ¬ BoundL ls := fun h => h1 (boolOf_true h)
  have hN : (ls.map (·.name)).Nodup := of_boolOf (by simpa using h2)
  have hU : ¬ UndefL ls := fun h => h3 (boolOf_true h)
  have hR : (gramOf ls).rules.Nodup := of_boolOf (by simpa using h5)
  have hpos : 1 ≤ ls.length := List.length_pos_iff.2 hne
  have hnl : (gramOf ls).names.length = ls.length := by simp [gramOf]
  refine ⟨by omega, by omega, ?_, ?_, hN, ?_, ?_, foldT_nodup _ _ (by simp), ?_, hR⟩
  · show (rulesOf _ _ ls).length ≤ 4096
    rw [rules_len]
    rcases Nat.lt_or_ge 4096 (ls.map fun l => l.alts.length).sum with q | q
    · exact absurd (.inr (.inl q)) hB
    · exact q
  · intro n hn
    obtain ⟨l, hl, rfl⟩ := List.mem_map.1 (show n ∈ ls.map (·.name) from hn)
    exact (hok l hl).1
  · intro i hi
    rw [hnl] at hi
    obtain ⟨a, ha⟩ := List.exists_mem_of_ne_nil _ (hok _ (List.getElem_mem hi)).2.1
    exact ⟨_, rules_mem.2 ⟨i, ls[i], List.getElem?_eq_getElem hi, a, ha, rfl⟩, rfl⟩
  · intro t ht
    obtain ⟨i, hi, hti, rfl⟩ := terms_mem.1 (show t ∈ termsOf (itemsOf ls) from ht)
    obtain ⟨l, hl, a, ha, hia⟩ := items_mem.1 hi
    have := (hok l hl).2.2 a ha i hia
    unfold itemOk at this
    rw [if_pos hti] at this
    exact this
  · intro r hr
    obtain ⟨i, l, hl, a, ha, rfl⟩ := rules_mem.1 (show r ∈ rulesOf _ _ ls from hr)
    have hil : i < ls.length := by
      rcases Nat.lt_or_ge i ls.length with q | q
      · exact q
      · rw [List.getElem?_eq_none q] at hl; cases hl
    have hlm : l ∈ ls := List.mem_of_getElem? hl
    refine ⟨by simp, by simp only; omega, ?_, fun s hs => ?_⟩
    · simp only [List.length_map]
      rcases Nat.lt_or_ge 64 a.length with q | q
      · exact absurd (.inl ⟨l, hlm, a, ha, q⟩) hB
      · exact q
    · obtain ⟨it, hit, rfl⟩ := List.mem_map.1 hs
      have him : it ∈ itemsOf ls := items_mem.2 ⟨l, hlm, a, ha, hit⟩
      refine sym_range (by rw [← hnl] at hpos; exact hpos) (fun hb => terms_mem.2 ⟨it, him, hb, rfl⟩) (fun hb => ?_)
      rcases Classical.em (it.text ∈ ls.map (·.name)) with q | q
      · exact q
      · exact absurd ⟨it, him, hb, q⟩ hU
end Go.Proofs.Ytcmgnhjffhaajaa

/-! The lines of a grammar that stands in order come to the grammar again (layer 14): plain mathematics. -/
namespace Go.Proofs.Ytcmgnhjffhaajaa

theorem lines_names (g : GramG) : (linesG g).map (·.name) = g.names := by
  unfold linesG
  rw [List.map_map]
  have : ((fun l : LineD => l.name) ∘ fun p : List UInt8 × Nat => (⟨p.1, altsG g p.2⟩ : LineD)) = Prod.fst := rfl
  rw [this]
  simp
theorem flat_none {α β : Type} {is : List α} {f : α → List β} (h : ∀ i ∈ is, f i = []) : is.flatMap f = [] := by
  induction is with
  | nil => rfl
  | cons x r ih => rw [List.flatMap_cons, h x (by simp), ih (fun i hi => h i (by simp [hi]))]; rfl
theorem flat_same {α β : Type} {is : List α} {f k : α → List β} (h : ∀ i ∈ is, f i = k i) : is.flatMap f = is.flatMap k := by
  induction is with
  | nil => rfl
  | cons x r ih => rw [List.flatMap_cons, List.flatMap_cons, h x (by simp), ih (fun i hi => h i (by simp [hi]))]
def ruleF (l : List RuleG) (i : Nat) : List RuleG := l.filter fun r => decide (r.left = (i : Int))
/-- Rules by rising left sides, block by block. -/
theorem sorted_flat (k n : Nat) : ∀ (l : List RuleG), (l.Pairwise fun a b => a.left ≤ b.left) → (∀ r ∈ l, (k : Int) ≤ r.left ∧ r.left < ((k + n : Nat) : Int)) → (List.range' k n).flatMap (ruleF l) = l
  | [], _, _ => flat_none (fun i _ => rfl)
  | r :: l, hp, hr => by
    rw [List.pairwise_cons] at hp
    have ih := sorted_flat k n l hp.2 (fun x hx => hr x (by simp [hx]))
    obtain ⟨g1, g2⟩ := hr r (by simp)
    obtain ⟨j, hj⟩ : ∃ j : Nat, r.left = (j : Int) := ⟨r.left.toNat, by omega⟩
    obtain ⟨a, rfl⟩ : ∃ a, j = k + a := ⟨j - k, by omega⟩
    obtain ⟨b, rfl⟩ : ∃ b, n = a + (b + 1) := ⟨n - a - 1, by omega⟩
    have hs : List.range' k (a + (b + 1)) = List.range' k a ++ (k + a) :: List.range' (k + a + 1) b := by
      rw [← List.range'_append_1 (s := k) (m := a) (n := b + 1), List.range'_succ]
    rw [hs, List.flatMap_append, List.flatMap_cons] at ih ⊢
    have e1 : (List.range' k a).flatMap (ruleF (r :: l)) = [] := flat_none (fun i hi => by
      have hi' := (List.mem_range'_1.1 hi)
      unfold ruleF
      rw [List.filter_eq_nil_iff]
      intro x hx
      rcases List.mem_cons.1 hx with rfl | hx
      · simp; omega
      · have := hp.1 x hx; simp; omega)
    have e2 : (List.range' k a).flatMap (ruleF l) = [] := flat_none (fun i hi => by
      have hi' := (List.mem_range'_1.1 hi)
      unfold ruleF
      rw [List.filter_eq_nil_iff]
      intro x hx
      have := hp.1 x hx; simp; omega)
    have e3 : (List.range' (k + a + 1) b).flatMap (ruleF (r :: l)) = (List.range' (k + a + 1) b).flatMap (ruleF l) := flat_same (fun i hi => by
      have hi' := (List.mem_range'_1.1 hi)
      unfold ruleF
      rw [List.filter_cons_of_neg (by simp; omega)])
    have e4 : ruleF (r :: l) (k + a) = r :: ruleF l (k + a) := by
      unfold ruleF
      rw [List.filter_cons_of_pos (by simp [hj])]
    rw [e2, List.nil_append] at ih
    rw [e1, e3, e4, List.nil_append, List.cons_append, ih]
theorem sorted_pair {l : List RuleG} (h : ∀ i (hi : i + 1 < l.length), (l[i]'(by omega)).left ≤ (l[i + 1]'hi).left) : l.Pairwise fun a b => a.left ≤ b.left := by
  rw [List.pairwise_iff_getElem]
  intro i j hi hj hij
  obtain ⟨d, rfl⟩ : ∃ d, j = i + 1 + d := ⟨j - i - 1, by omega⟩
  induction d with
  | zero => exact h i hj
  | succ d ih => exact Int.le_trans (ih (by omega) (by omega)) (h (i + 1 + d) hj)
/-- A flat map over a grammar's lines is one over its nonterminals. -/
theorem lines_flat {β : Type} (g : GramG) (h : Nat → List (List ItemD) → List β) : ∀ (ns : List (List UInt8)) (k : Nat), ((((ns.zipIdx k).map fun p => (⟨p.1, altsG g p.2⟩ : LineD)).zipIdx k).flatMap fun p => h p.2 p.1.alts) = (List.range' k ns.length).flatMap fun i => h i (altsG g i)
  | [], k => rfl
  | n :: r, k => by
    rw [List.zipIdx_cons, List.map_cons, List.zipIdx_cons, List.flatMap_cons, lines_flat g h r (k + 1), List.length_cons, List.range'_succ, List.flatMap_cons]
theorem zip_flat {α β : Type} (h : α → List β) : ∀ (l : List α) (k : Nat), ((l.zipIdx k).flatMap fun p => h p.1) = l.flatMap h
  | [], k => rfl
  | x :: r, k => by rw [List.zipIdx_cons, List.flatMap_cons, List.flatMap_cons, zip_flat h r (k + 1)]
theorem getD_lt {l : List (List UInt8)} {k : Nat} (h : k < l.length) : l.getD k [] = l[k] := by simp [List.getD, List.getElem?_eq_getElem h]
theorem sym_item {g : GramG} (hN : g.names.Nodup) (hT : g.terms.Nodup) {s : Int} (h1 : -(g.terms.length : Int) ≤ s) (h2 : s < (g.names.length : Int)) : symG g.names g.terms (itemG g s) = s := by
  unfold itemG symG
  by_cases h : s < 0
  · rw [if_pos h]
    have hk : (-1 - s).toNat < g.terms.length := by omega
    simp only [if_true]
    rw [getD_lt hk, find_at (k := (-1 - s).toNat) hk rfl (fun j hj => nodup_iff.1 hT _ hk j hj)]
    omega
  · rw [if_neg h]
    have hk : s.toNat < g.names.length := by omega
    simp only [Bool.false_eq_true, if_false]
    rw [getD_lt hk, find_at (k := s.toNat) hk rfl (fun j hj => nodup_iff.1 hN _ hk j hj)]
    omega
/-- The terminals of symbols, in the order in which they are seen. -/
theorem seen_fold {g : GramG} (hT : g.terms.Nodup) : ∀ (l : List Int) (n m : Nat), (∀ s ∈ l, -(g.terms.length : Int) ≤ s) → n ≤ g.terms.length → seenG l n = some m → (l.map (itemG g)).foldl addT (g.terms.take n) = g.terms.take m
  | [], n, m, _, _, h => by
    have : n = m := by simpa [seenG] using h
    rw [this]; rfl
  | s :: l, n, m, hr, hn, h => by
    rw [List.map_cons, List.foldl_cons]
    unfold seenG at h
    have hr' : ∀ s ∈ l, -(g.terms.length : Int) ≤ s := fun x hx => hr x (by simp [hx])
    have h1 := hr s (by simp)
    by_cases hs : s < 0
    · by_cases hgt : (n : Int) < -1 - s
      · rw [if_pos ⟨hs, hgt⟩] at h; cases h
      · rw [if_neg (fun q => hgt q.2)] at h
        have hk : (-1 - s).toNat < g.terms.length := by omega
        have hit : itemG g s = ⟨true, g.terms[(-1 - s).toNat]⟩ := by unfold itemG; rw [if_pos hs, getD_lt hk]
        by_cases he : -1 - s = (n : Int)
        · rw [if_pos ⟨hs, he⟩] at h
          have hkn : (-1 - s).toNat = n := by omega
          have hnt : n < g.terms.length := by omega
          rw [← seen_fold hT l (n + 1) m hr' (by omega) h]
          congr 1
          rw [hit]
          unfold addT
          have hno : g.terms[n] ∉ g.terms.take n := fun hm => by
            obtain ⟨j, hj, e⟩ := List.getElem_of_mem hm
            rw [List.length_take] at hj
            rw [List.getElem_take] at e
            exact nodup_iff.1 hT n hnt j (by omega) e
          have : ((⟨true, g.terms[(-1 - s).toNat]⟩ : ItemD)).text = g.terms[n] := by simp only [hkn]
          rw [if_pos ⟨rfl, by rw [this]; exact hno⟩, this, List.take_succ_eq_append_getElem hnt]
        · rw [if_neg (fun q => he q.2)] at h
          rw [← seen_fold hT l n m hr' hn h]
          congr 1
          rw [hit]
          unfold addT
          have hlt : (-1 - s).toNat < n := by omega
          have hin : g.terms[(-1 - s).toNat] ∈ g.terms.take n := by
            rw [List.mem_take_iff_getElem]
            exact ⟨(-1 - s).toNat, by omega, rfl⟩
          rw [if_neg (fun q => q.2 hin)]
    · rw [if_neg (fun q => hs q.1), if_neg (fun q => hs q.1)] at h
      rw [← seen_fold hT l n m hr' hn h]
      congr 1
      unfold itemG addT
      rw [if_neg hs, if_neg (fun q => by cases q.1)]
theorem rules_same {g : GramG} (h : ValidG g) (ho : OrderG g) : rulesOf g.names g.terms (linesG g) = g.rules := by
  have hf := lines_flat g (fun i al => al.map fun a => (⟨(i : Int), a.map (symG g.names g.terms)⟩ : RuleG)) g.names 0
  have e : rulesOf g.names g.terms (linesG g) = (List.range' 0 g.names.length).flatMap fun i => (altsG g i).map fun a => (⟨(i : Int), a.map (symG g.names g.terms)⟩ : RuleG) := hf
  rw [e, flat_same (k := ruleF g.rules) (fun i _ => ?_)]
  · exact sorted_flat 0 g.names.length g.rules (sorted_pair ho.1) (fun r hr => ⟨by have := (h.rules r hr).1; omega, by have := (h.rules r hr).2.1; omega⟩)
  · unfold altsG ruleF
    rw [List.map_map]
    have hid : ∀ r ∈ g.rules.filter (fun r => decide (r.left = (i : Int))), ((fun a => (⟨(i : Int), a.map (symG g.names g.terms)⟩ : RuleG)) ∘ fun r : RuleG => r.right.map (itemG g)) r = r := by
      intro r hr
      obtain ⟨h1, h2⟩ := List.mem_filter.1 hr
      have h2' := of_decide_eq_true h2
      obtain ⟨-, -, -, h3⟩ := h.rules r h1
      refine RuleG.ext' h2'.symm ?_
      show (r.right.map (itemG g)).map (symG g.names g.terms) = r.right
      rw [List.map_map]
      refine (List.map_congr_left (fun s hs => ?_)).trans (List.map_id _)
      exact sym_item h.nodupN h.nodupT (h3 s hs).1 (h3 s hs).2
    exact (List.map_congr_left hid).trans (List.map_id _)
theorem items_same {g : GramG} (h : ValidG g) (ho : OrderG g) : itemsOf (linesG g) = (g.rules.flatMap (·.right)).map (itemG g) := by
  have hf := lines_flat g (fun _ al => al.flatten) g.names 0
  have e : itemsOf (linesG g) = (List.range' 0 g.names.length).flatMap fun i => (altsG g i).flatten := by
    unfold itemsOf
    rw [← zip_flat (fun l : LineD => l.alts.flatten) (linesG g) 0]
    exact hf
  have e2 : ((List.range' 0 g.names.length).flatMap (ruleF g.rules)).flatMap (fun r => r.right.map (itemG g)) = (List.range' 0 g.names.length).flatMap fun i => (altsG g i).flatten := by
    rw [List.flatMap_assoc]
    refine flat_same (fun i _ => ?_)
    unfold altsG ruleF
    rw [List.flatMap_def]
  rw [e, ← e2, sorted_flat 0 g.names.length g.rules (sorted_pair ho.1) (fun r hr => ⟨by have := (h.rules r hr).1; omega, by have := (h.rules r hr).2.1; omega⟩), List.map_flatMap]
theorem gram_same {g : GramG} (h : ValidG g) (ho : OrderG g) : gramOf (linesG g) = g := by
  have ht : termsOf (itemsOf (linesG g)) = g.terms := by
    rw [items_same h ho]
    have := seen_fold h.nodupT (g.rules.flatMap (·.right)) 0 g.terms.length (fun s hs => by
      obtain ⟨r, hr, hs⟩ := List.mem_flatMap.1 hs
      exact ((h.rules r hr).2.2.2 s hs).1) (Nat.zero_le _) ho.2
    rw [List.take_zero, List.take_length] at this
    exact this
  refine GramG.ext' (lines_names g) ht ?_
  show rulesOf ((linesG g).map (·.name)) (termsOf (itemsOf (linesG g))) (linesG g) = g.rules
  rw [lines_names, ht]
  exact rules_same h ho
theorem resolve_back {g : GramG} (h : ValidG g) (ho : OrderG g) : resolveG (linesG g) = ⟨g, 0⟩ := by
  have hlen : (linesG g).length = g.names.length := by simp [linesG]
  have hal : ∀ l ∈ linesG g, ∀ a ∈ l.alts, ∃ r ∈ g.rules, a = r.right.map (itemG g) := by
    intro l hl a ha
    obtain ⟨⟨n, i⟩, -, rfl⟩ := List.mem_map.1 hl
    obtain ⟨r, hr, rfl⟩ := List.mem_map.1 ha
    exact ⟨r, (List.mem_filter.1 hr).1, rfl⟩
  have hsum : ((linesG g).map fun l => l.alts.length).sum = g.rules.length := by
    rw [← rules_len g.names g.terms, rules_same h ho]
  unfold resolveG
  rw [gram_same h ho, lines_names]
  rw [if_neg (by
    rw [boolOf_false]
    · simp
    · rintro (⟨l, hl, a, ha, q⟩ | q | q)
      · obtain ⟨r, hr, rfl⟩ := hal l hl a ha
        have := (h.rules r hr).2.2.1
        simp at q; omega
      · have := h.few; omega
      · have := h.syms; omega)]
  rw [if_neg (by rw [boolOf_true h.nodupN]; simp)]
  rw [if_neg (by
    rw [boolOf_false]
    · simp
    · rintro ⟨i, hi, h1, h2⟩
      obtain ⟨l, hl, a, ha, hia⟩ := items_mem.1 hi
      obtain ⟨r, hr, rfl⟩ := hal l hl a ha
      obtain ⟨s, hs, rfl⟩ := List.mem_map.1 hia
      obtain ⟨k1, k2⟩ := (h.rules r hr).2.2.2 s hs
      rw [lines_names] at h2
      unfold itemG at h1 h2
      by_cases hneg : s < 0
      · rw [if_pos hneg] at h1; cases h1
      · rw [if_neg hneg] at h2
        have hk : s.toNat < g.names.length := by omega
        rw [getD_lt hk] at h2
        exact h2 (List.getElem_mem hk))]
  rw [if_neg (by have := h.syms; omega)]
  rw [if_neg (by rw [boolOf_true h.nodupR]; simp)]
theorem lines_size {g : GramG} (h : ValidG g) : SizeL (linesG g) := by
  have hv := valid_size h
  have hl : ∀ l ∈ linesG g, ∃ n ∈ g.names, l.name = n ∧ ∃ i, l.alts = altsG g i := by
    intro l hl
    obtain ⟨⟨n, i⟩, hm, rfl⟩ := List.mem_map.1 hl
    exact ⟨n, (List.fst_mem_of_mem_zipIdx hm), rfl, i, rfl⟩
  refine ⟨by simp [linesG]; exact hv.names, fun l hm => ?_, fun l hm => ?_, fun l hm a ha => ?_, fun l hm a ha i hi => ?_⟩
  · obtain ⟨n, -, -, i, e⟩ := hl l hm
    rw [e]
    unfold altsG
    rw [List.length_map]
    have := List.length_filter_le (fun r : RuleG => decide (r.left = (i : Int))) g.rules
    have := hv.rules
    omega
  · obtain ⟨n, hn, e, -⟩ := hl l hm
    rw [e]; exact hv.name n hn
  · obtain ⟨n, -, -, j, e⟩ := hl l hm
    rw [e] at ha
    obtain ⟨r, hr, rfl⟩ := List.mem_map.1 ha
    rw [List.length_map]
    exact hv.right r (List.mem_filter.1 hr).1
  · obtain ⟨n, -, -, j, e⟩ := hl l hm
    rw [e] at ha
    obtain ⟨r, hr, rfl⟩ := List.mem_map.1 ha
    obtain ⟨s, hs, rfl⟩ := List.mem_map.1 hi
    obtain ⟨k1, k2⟩ := (h.rules r (List.mem_filter.1 hr).1).2.2.2 s hs
    unfold itemG
    split
    · have hk : (-1 - s).toNat < g.terms.length := by omega
      simp only
      rw [getD_lt hk]; exact hv.term _ (List.getElem_mem hk)
    · have hk : s.toNat < g.names.length := by omega
      simp only
      rw [getD_lt hk]; exact hv.name _ (List.getElem_mem hk)
end Go.Proofs.Ytcmgnhjffhaajaa

/-! The lexer by counted steps, and what it gives of the chapter's examples (layer 12): plain mathematics. -/
namespace Go.Proofs.Ytcmgnhjffhaajaa

/-- lexD, by steps that are counted. -/
def lexF : Nat → List UInt8 → Nat → LexD
  | 0, _, _ => ⟨[], 0, 0⟩
  | _ + 1, [], _ => ⟨[], 0, 0⟩
  | k + 1, c :: t, p =>
    if blankB c then lexF k t (p + 1)
    else if c = 35 then lexF k (restC t) (p + 1 + (t.length - (restC t).length))
    else if (nextD c t).err ≠ 0 then ⟨[], p, (nextD c t).err⟩
    else consD ⟨(nextD c t).kind, (nextD c t).text, p⟩ (lexF k (t.drop ((nextD c t).n - 1)) (p + (nextD c t).n))
theorem lex_steps : ∀ (k : Nat) (r : List UInt8) (p : Nat), r.length ≤ k → lexD r p = lexF k r p
  | 0, [], p, _ => by rw [lex_nil]; rfl
  | 0, _ :: _, _, h => by simp at h
  | k + 1, [], p, _ => by rw [lex_nil]; rfl
  | k + 1, c :: t, p, h => by
    have ht : t.length ≤ k := by simpa using h
    have h1 := lex_steps k t (p + 1) ht
    have h2 := lex_steps k (restC t) (p + 1 + (t.length - (restC t).length)) (Nat.le_trans (restC_le t) ht)
    have h3 := lex_steps k (t.drop ((nextD c t).n - 1)) (p + (nextD c t).n) (by rw [List.length_drop]; omega)
    rw [lexD, h1, h2, h3]
    rfl
theorem aw_one : allD [83, 32, 58, 32, 39, 97, 39, 32, 83, 32, 124, 32, 59] = ⟨[⟨1, [83], 0⟩, ⟨3, [58], 2⟩, ⟨2, [97], 4⟩, ⟨1, [83], 8⟩, ⟨4, [124], 10⟩, ⟨5, [59], 12⟩], 0, 0⟩ := by
  unfold allD
  rw [if_neg (by decide), lex_steps 13 _ _ (by decide)]
  rfl
theorem aw_two : allD [83, 32, 58, 32, 36] = ⟨[], 4, 13⟩ := by
  unfold allD
  rw [if_neg (by decide), lex_steps 5 _ _ (by decide)]
  rfl
theorem aw_three : allD [39, 97] = ⟨[], 0, 13⟩ := by
  unfold allD
  rw [if_neg (by decide), lex_steps 2 _ _ (by decide)]
  rfl
end Go.Proofs.Ytcmgnhjffhaajaa
