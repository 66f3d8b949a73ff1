/- Plain mathematics of the lexer (layer 12). Nothing here names the program. -/
import Derived.Test.YtboljohhkfidfaaBase
namespace Go.Proofs.Ytboljohhkfidfaa

def letterB (c : UInt8) : Bool := (decide (97 ≤ c.toNat) && decide (c.toNat ≤ 122)) || (decide (65 ≤ c.toNat) && decide (c.toNat ≤ 90))
def moreB (c : UInt8) : Bool := letterB c || (decide (48 ≤ c.toNat) && decide (c.toNat ≤ 57)) || decide (c.toNat = 95)
/-- May this stand in a terminal? -/
def termC (c : UInt8) : Bool := decide (32 ≤ c.toNat) && decide (c.toNat ≤ 126) && !decide (c.toNat = 39) && !decide (c.toNat = 92)
def blankB (c : UInt8) : Bool := decide (c.toNat = 32) || decide (c.toNat = 9) || decide (c.toNat = 10) || decide (c.toNat = 13)
def nameB (s : List UInt8) : Bool := decide (1 ≤ s.length ∧ s.length ≤ 32) && (match s with | [] => false | c :: _ => letterB c) && s.all moreB
def termB (s : List UInt8) : Bool := decide (1 ≤ s.length ∧ s.length ≤ 32) && s.all termC
structure TokD where
  kind : Int
  text : List UInt8
  at_ : Nat
/-- What begins here: its kind, its text, how many bytes it takes; or an error's number. -/
structure NextD where
  kind : Int
  text : List UInt8
  n : Nat
  err : Int
def noneD (e : Int) : NextD := ⟨0, [], 0, e⟩
def termD (t : List UInt8) : NextD :=
  if (t.drop (t.takeWhile termC).length).head? = some 39 ∧ t.takeWhile termC ≠ [] then (if 32 < (t.takeWhile termC).length then noneD 19 else ⟨2, t.takeWhile termC, (t.takeWhile termC).length + 2, 0⟩) else noneD 13
def nextD (c : UInt8) (t : List UInt8) : NextD :=
    if c = 58 then ⟨3, [58], 1, 0⟩ else if c = 124 then ⟨4, [124], 1, 0⟩ else if c = 59 then ⟨5, [59], 1, 0⟩
    else if letterB c then (if 32 < ((c :: t).takeWhile moreB).length then noneD 19 else ⟨1, (c :: t).takeWhile moreB, ((c :: t).takeWhile moreB).length, 0⟩)
    else if c = 39 then termD t else noneD 13
/-- Up to the end of a comment. -/
def restC (r : List UInt8) : List UInt8 := r.dropWhile fun c => !decide (c = 10)
theorem restC_le : ∀ r : List UInt8, (restC r).length ≤ r.length
  | [] => by simp [restC]
  | c :: t => by
    unfold restC
    rw [List.dropWhile_cons]
    split
    · have := restC_le t; unfold restC at this; simp; omega
    · simp
structure LexD where
  toks : List TokD
  at_ : Nat
  err : Int
def consD (x : TokD) (r : LexD) : LexD := if r.err = 0 then ⟨x :: r.toks, 0, 0⟩ else r
def lexD (r : List UInt8) (p : Nat) : LexD :=
  match r with
  | [] => ⟨[], 0, 0⟩
  | c :: t =>
    if blankB c then lexD t (p + 1)
    else if c = 35 then lexD (restC t) (p + 1 + (t.length - (restC t).length))
    else if (nextD c t).err ≠ 0 then ⟨[], p, (nextD c t).err⟩
    else consD ⟨(nextD c t).kind, (nextD c t).text, p⟩ (lexD (t.drop ((nextD c t).n - 1)) (p + (nextD c t).n))
termination_by r.length
decreasing_by
  · simp
  · have := restC_le t; simp; omega
  · simp; omega
def allD (s : List UInt8) : LexD := if 65536 < s.length then ⟨[], 0, 19⟩ else lexD s 0
/-- What was found before, and what the rest gives. -/
def behindD (acc : List TokD) (r : LexD) : LexD := if r.err = 0 then ⟨acc ++ r.toks, 0, 0⟩ else r
theorem next_pos {c : UInt8} {t : List UInt8} (h : (nextD c t).err = 0) : 1 ≤ (nextD c t).n ∧ (nextD c t).n ≤ (c :: t).length := by
  unfold nextD at h ⊢
  split
  · simp
  · split
    · simp
    · split
      · simp
      · next h1 h2 h3 =>
        rw [if_neg h1, if_neg h2, if_neg h3] at h
        split
        · next h4 =>
          rw [if_pos h4] at h
          split
          · next h5 => rw [if_pos h5] at h; simp [noneD] at h
          · have hm : moreB c = true := by unfold moreB; rw [h4]; simp
            have := (List.takeWhile_prefix moreB (l := c :: t)).length_le
            rw [List.takeWhile_cons, if_pos hm]
            rw [List.takeWhile_cons, if_pos hm] at this
            simp at this ⊢
            omega
        · next h4 =>
          rw [if_neg h4] at h
          split
          · next h5 =>
            rw [if_pos h5] at h
            unfold termD at h ⊢
            split
            · next h6 =>
              rw [if_pos h6] at h
              split
              · next h7 => rw [if_pos h7] at h; simp [noneD] at h
              · have h8 : (t.takeWhile termC).length < t.length := by
                  have := h6.1
                  rcases Nat.lt_or_ge (t.takeWhile termC).length t.length with q | q
                  · exact q
                  · rw [List.drop_eq_nil_of_le q] at this; simp at this
                simp
                omega
            · next h6 => rw [if_neg h6] at h; simp [noneD] at h
          · next h5 => rw [if_neg h5] at h; simp [noneD] at h
theorem lex_nil (p : Nat) : lexD [] p = ⟨[], 0, 0⟩ := by rw [lexD]
theorem lex_blank {c : UInt8} (t : List UInt8) (p : Nat) (h : blankB c = true) : lexD (c :: t) p = lexD t (p + 1) := by rw [lexD, if_pos h]
theorem lex_note (t : List UInt8) (p : Nat) : lexD (35 :: t) p = lexD (restC t) (p + 1 + (t.length - (restC t).length)) := by rw [lexD, if_neg (by decide), if_pos rfl]
theorem lex_err {c : UInt8} (t : List UInt8) (p : Nat) (h1 : blankB c = false) (h2 : c ≠ 35) (h3 : (nextD c t).err ≠ 0) : lexD (c :: t) p = ⟨[], p, (nextD c t).err⟩ := by
  rw [lexD, if_neg (by simp [h1]), if_neg h2, if_pos h3]
theorem lex_tok {c : UInt8} (t : List UInt8) (p : Nat) (h1 : blankB c = false) (h2 : c ≠ 35) (h3 : (nextD c t).err = 0) : lexD (c :: t) p = consD ⟨(nextD c t).kind, (nextD c t).text, p⟩ (lexD ((c :: t).drop (nextD c t).n) (p + (nextD c t).n)) := by
  rw [lexD, if_neg (by simp [h1]), if_neg h2, if_neg (by simp [h3])]
  have := (next_pos h3).1
  rw [show (c :: t).drop (nextD c t).n = t.drop ((nextD c t).n - 1) from by
    obtain ⟨m, hm⟩ : ∃ m, (nextD c t).n = m + 1 := ⟨(nextD c t).n - 1, by omega⟩
    rw [hm]; simp]
theorem behind_cons (acc : List TokD) (x : TokD) (r : LexD) : behindD acc (consD x r) = behindD (acc ++ [x]) r := by
  unfold behindD consD
  by_cases h : r.err = 0
  · simp [h]
  · simp [h]
theorem letter_num {c : UInt8} (h : letterB c = true) : c ≠ 58 ∧ c ≠ 124 ∧ c ≠ 59 ∧ c ≠ 35 ∧ blankB c = false ∧ moreB c = true := by
  have hm : moreB c = true := by unfold moreB; rw [h]; simp
  refine ⟨?_, ?_, ?_, ?_, ?_, hm⟩
  · rintro rfl; simp [letterB] at h
  · rintro rfl; simp [letterB] at h
  · rintro rfl; simp [letterB] at h
  · rintro rfl; simp [letterB] at h
  · unfold letterB at h
    unfold blankB
    simp at h ⊢
    omega
theorem takeWhile_all {p : UInt8 → Bool} {l : List UInt8} (h : l.all p = true) : l.takeWhile p = l := by
  induction l with
  | nil => rfl
  | cons c t ih =>
    rw [List.all_cons, Bool.and_eq_true] at h
    rw [List.takeWhile_cons, if_pos h.1, ih h.2]
/-- What ends a run ends it, whatever follows. -/
theorem takeWhile_stop {p : UInt8 → Bool} : ∀ (l : List UInt8) (x : UInt8) (q : List UInt8), p x = false → (l ++ x :: q).takeWhile p = l.takeWhile p
  | [], x, q, h => by simp [h]
  | c :: t, x, q, h => by
    rw [List.cons_append, List.takeWhile_cons, List.takeWhile_cons, takeWhile_stop t x q h]
theorem takeWhile_in {p : UInt8 → Bool} : ∀ (l q : List UInt8), (l.takeWhile p).length < l.length → (l ++ q).takeWhile p = l.takeWhile p
  | [], q, h => by simp at h
  | c :: t, q, h => by
    rw [List.cons_append, List.takeWhile_cons, List.takeWhile_cons]
    rw [List.takeWhile_cons] at h
    split
    · next hc =>
      rw [if_pos hc] at h
      rw [takeWhile_in t q (by simpa using h)]
    · rfl
theorem name_one {s : List UInt8} (h : nameB s = true) (p : Nat) : lexD s p = ⟨[⟨1, s, p⟩], 0, 0⟩ := by
  unfold nameB at h
  rw [Bool.and_eq_true, Bool.and_eq_true] at h
  obtain ⟨⟨h1, h2⟩, h3⟩ := h
  have h1' := of_decide_eq_true h1
  cases s with
  | nil => simp at h1'
  | cons c t =>
    simp only at h2
    obtain ⟨e1, e2, e3, e4, e5, e6⟩ := letter_num h2
    have hn : nextD c t = ⟨1, c :: t, (c :: t).length, 0⟩ := by
      unfold nextD
      rw [if_neg e1, if_neg e2, if_neg e3, if_pos h2, takeWhile_all h3, if_neg (by omega)]
    rw [lex_tok t p e5 e4 (by rw [hn]), hn]
    simp only [List.drop_length]
    rw [lex_nil]
    rfl
theorem term_one {s : List UInt8} (h : termB s = true) (p : Nat) : lexD (39 :: (s ++ [39])) p = ⟨[⟨2, s, p⟩], 0, 0⟩ := by
  unfold termB at h
  rw [Bool.and_eq_true] at h
  have h1' := of_decide_eq_true h.1
  have ht : (s ++ [39]).takeWhile termC = s := by rw [takeWhile_stop s 39 [] (by decide), takeWhile_all h.2]
  have hn : nextD 39 (s ++ [39]) = ⟨2, s, s.length + 2, 0⟩ := by
    unfold nextD
    rw [if_neg (by decide), if_neg (by decide), if_neg (by decide), if_neg (by decide), if_pos rfl]
    unfold termD
    rw [ht, if_pos ⟨by simp, by intro e; rw [e] at h1'; simp at h1'⟩, if_neg (by omega)]
  rw [lex_tok _ p (by decide) (by decide) (by rw [hn]), hn]
  rw [List.drop_eq_nil_of_le (by simp), lex_nil]
  rfl
theorem lex_ok {r : List UInt8} {p : Nat} (h : (lexD r p).err = 0) : (lexD r p).at_ = 0 := by
  induction r, p using lexD.induct with
  | case1 p => rw [lex_nil]
  | case2 p c t hb ih => rw [lex_blank t p hb] at h ⊢; exact ih h
  | case3 p t hb ih => rw [lex_note] at h ⊢; exact ih h
  | case4 p c t hb h3 he => rw [lex_err t p (by simpa using hb) h3 he] at h; exact absurd h he
  | case5 p c t hb h3 he ih =>
    rw [lexD, if_neg hb, if_neg h3, if_neg he] at h ⊢
    unfold consD at h ⊢
    split
    · rfl
    · next hq => rw [if_neg hq] at h; exact absurd h hq
def shiftT (k : Nat) (x : TokD) : TokD := ⟨x.kind, x.text, x.at_ + k⟩
theorem lex_shift (k : Nat) {r : List UInt8} {p : Nat} : (lexD r p).err = 0 → lexD r (p + k) = ⟨(lexD r p).toks.map (shiftT k), 0, 0⟩ := by
  induction r, p using lexD.induct with
  | case1 p => intro _; rw [lex_nil, lex_nil]; rfl
  | case2 p c t hb ih => intro h; rw [lex_blank t p hb] at h ⊢; rw [lex_blank t _ hb, ← ih h, show p + k + 1 = p + 1 + k from by omega]
  | case3 p t hb ih =>
    intro h
    rw [lex_note] at h ⊢
    rw [lex_note, ← ih h, show p + k + 1 + (t.length - (restC t).length) = p + 1 + (t.length - (restC t).length) + k from by omega]
  | case4 p c t hb h3 he => intro h; rw [lex_err t p (by simpa using hb) h3 he] at h; exact absurd h he
  | case5 p c t hb h3 he ih =>
    intro h
    rw [lexD, if_neg hb, if_neg h3, if_neg he] at h ⊢
    rw [lexD, if_neg hb, if_neg h3, if_neg he]
    have he2 : (lexD (t.drop ((nextD c t).n - 1)) (p + (nextD c t).n)).err = 0 := by
      unfold consD at h
      split at h
      · assumption
      · next hq => exact absurd h hq
    rw [show p + k + (nextD c t).n = p + (nextD c t).n + k from by omega, ih he2]
    unfold consD
    simp [he2, shiftT]
theorem next_same {c : UInt8} {t : List UInt8} (q : List UInt8) (h : (nextD c t).err = 0) : nextD c (t ++ 32 :: q) = nextD c t := by
  unfold nextD at h ⊢
  by_cases h1 : c = 58
  · rw [if_pos h1, if_pos h1]
  · rw [if_neg h1] at h ⊢
    rw [if_neg h1]
    by_cases h2 : c = 124
    · rw [if_pos h2, if_pos h2]
    · rw [if_neg h2] at h ⊢
      rw [if_neg h2]
      by_cases h3 : c = 59
      · rw [if_pos h3, if_pos h3]
      · rw [if_neg h3] at h ⊢
        rw [if_neg h3]
        by_cases h4 : letterB c = true
        · rw [if_pos h4, if_pos h4, ← List.cons_append, takeWhile_stop (c :: t) 32 q (by decide)]
        · rw [if_neg h4] at h ⊢
          rw [if_neg h4]
          by_cases h5 : c = 39
          · rw [if_pos h5] at h ⊢
            rw [if_pos h5]
            unfold termD at h ⊢
            by_cases h6 : (t.drop (t.takeWhile termC).length).head? = some 39 ∧ t.takeWhile termC ≠ []
            · have h8 : (t.takeWhile termC).length < t.length := by
                have := h6.1
                rcases Nat.lt_or_ge (t.takeWhile termC).length t.length with z | z
                · exact z
                · rw [List.drop_eq_nil_of_le z] at this; simp at this
              rw [takeWhile_in t _ h8]
              have h9 : ((t ++ 32 :: q).drop (t.takeWhile termC).length).head? = (t.drop (t.takeWhile termC).length).head? := by
                rw [List.drop_append_of_le_length (by omega), List.head?_append]
                rw [h6.1]; rfl
              rw [h9]
            · rw [if_neg h6] at h; simp [noneD] at h
          · rw [if_neg h5, if_neg h5]
theorem lex_front {r : List UInt8} {p : Nat} : ∀ (q : List UInt8) (y : List TokD), (35 : UInt8) ∉ r → (lexD r p).err = 0 → lexD (32 :: q) (p + r.length) = ⟨y, 0, 0⟩ → lexD (r ++ 32 :: q) p = ⟨(lexD r p).toks ++ y, 0, 0⟩ := by
  induction r, p using lexD.induct with
  | case1 p => intro q y _ _ h; rw [lex_nil]; simpa using h
  | case2 p c t hb ih =>
    intro q y hn h hy
    rw [lex_blank t p hb] at h ⊢
    rw [List.cons_append, lex_blank _ p hb]
    exact ih q y (fun hm => hn (by simp [hm])) h (by rw [← hy]; congr 1; simp; omega)
  | case3 p t hb ih => intro q y hn; simp at hn
  | case4 p c t hb h3 he => intro q y hn h; rw [lex_err t p (by simpa using hb) h3 he] at h; exact absurd h he
  | case5 p c t hb h3 he ih =>
    intro q y hn h hy
    have he0 : (nextD c t).err = 0 := by simpa using he
    have hpos := next_pos he0
    have hb' : blankB c = false := by simpa using hb
    rw [lex_tok t p hb' h3 he0] at h ⊢
    have hd : t.drop ((nextD c t).n - 1) = (c :: t).drop (nextD c t).n := by
      obtain ⟨m, hm⟩ : ∃ m, (nextD c t).n = m + 1 := ⟨(nextD c t).n - 1, by omega⟩
      rw [hm]; simp
    rw [hd] at ih
    have he2 : (lexD ((c :: t).drop (nextD c t).n) (p + (nextD c t).n)).err = 0 := by
      unfold consD at h
      split at h
      · assumption
      · next hq => exact absurd h hq
    have hs := next_same q he0
    rw [List.cons_append, lex_tok (t ++ 32 :: q) p hb' h3 (by rw [hs]; exact he0), hs, ← List.cons_append, List.drop_append_of_le_length hpos.2]
    rw [ih q y (fun hm => hn (List.mem_of_mem_drop hm)) he2 (by rw [← hy]; congr 1; rw [List.length_drop]; omega)]
    unfold consD
    simp [he2]
theorem restC_stop : ∀ (m q : List UInt8), (10 : UInt8) ∉ m → restC (m ++ 10 :: q) = 10 :: q
  | [], q, _ => by simp [restC]
  | c :: t, q, h => by
    have := restC_stop t q (fun hm => h (by simp [hm]))
    unfold restC at this ⊢
    rw [List.cons_append, List.dropWhile_cons, if_pos (by simp; intro e; exact h (by simp [e]))]
    exact this
theorem lex_between (m b : List UInt8) (p : Nat) (h : (10 : UInt8) ∉ m) : lexD (32 :: 35 :: (m ++ 10 :: 9 :: 13 :: b)) p = lexD b (p + (m.length + 5)) := by
  rw [lex_blank _ p (by decide), lex_note, restC_stop m _ h, lex_blank _ _ (by decide), lex_blank _ _ (by decide), lex_blank _ _ (by decide)]
  congr 1
  simp
  omega
/-- Blanks and a remark between two texts. -/
theorem lex_blanks (a m b : List UInt8) (ha : (lexD a 0).err = 0) (hb : (lexD b 0).err = 0) (hn : (35 : UInt8) ∉ a) (h : (10 : UInt8) ∉ m) :
    lexD (a ++ 32 :: 35 :: (m ++ 10 :: 9 :: 13 :: b)) 0 = ⟨(lexD a 0).toks ++ (lexD b 0).toks.map (shiftT (a.length + m.length + 5)), 0, 0⟩ := by
  refine lex_front _ _ hn ha ?_
  rw [lex_between m b _ h, ← lex_shift (a.length + m.length + 5) hb]
  congr 1
  omega
theorem restC_len (t : List UInt8) : (restC t).length ≤ t.length := restC_le t
theorem lex_len {r : List UInt8} {p : Nat} : (lexD r p).toks.length ≤ r.length ∧ ∀ t ∈ (lexD r p).toks, t.at_ ≤ p + r.length := by
  induction r, p using lexD.induct with
  | case1 p => rw [lex_nil]; simp
  | case2 p c t hb ih => rw [lex_blank t p hb]; exact ⟨by simp; omega, fun x hx => by have := ih.2 x hx; simp; omega⟩
  | case3 p t hb ih =>
    rw [lex_note]
    have := restC_le t
    exact ⟨by simp; omega, fun x hx => by have := ih.2 x hx; simp; omega⟩
  | case4 p c t hb h3 he => rw [lex_err t p (by simpa using hb) h3 he]; simp
  | case5 p c t hb h3 he ih =>
    rw [lexD, if_neg hb, if_neg h3, if_neg he]
    have he0 : (nextD c t).err = 0 := by simpa using he
    have hpos := next_pos he0
    rw [List.length_cons] at hpos
    unfold consD
    split
    · refine ⟨?_, fun x hx => ?_⟩
      · have := ih.1
        rw [List.length_drop] at this
        simp; omega
      · rw [List.mem_cons] at hx
        rcases hx with rfl | hx
        · simp
        · have := ih.2 x hx
          rw [List.length_drop] at this
          simp; omega
    · refine ⟨?_, fun x hx => ?_⟩
      · have := ih.1
        rw [List.length_drop] at this
        simp; omega
      · have := ih.2 x hx
        rw [List.length_drop] at this
        simp; omega
end Go.Proofs.Ytboljohhkfidfaa
