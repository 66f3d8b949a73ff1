/- Several texts in one: LexMath, ParMath, GrmMath, ParBack, ParSound, GrmSz, GrmFz, WelMath, WelLen, PropF, WelStp, WelRch, WelTel, WelFil, WelEx. -/
import Derived.Test.YtamoalnbcmnciaaBs
/-! Plain mathematics of the lexer (layer 12). Nothing here names the program. -/
namespace Go.Proofs.Ytamoalnbcmnciaa

def letterB (c : UInt8) : Bool := (decide (97 ≤ c.toNat) && decide (c.toNat ≤ 122)) || (decide (65 ≤ c.toNat) && decide (c.toNat ≤ 90))
def moreB (c : UInt8) : Bool := letterB c || (decide (48 ≤ c.toNat) && decide (c.toNat ≤ 57)) || decide (c.toNat = 95)
/-- May this stand in a terminal? -/
def termC (c : UInt8) : Bool := decide (32 ≤ c.toNat) && decide (c.toNat ≤ 126) && !decide (c.toNat = 39) && !decide (c.toNat = 92)
def blankB (c : UInt8) : Bool := decide (c.toNat = 32) || decide (c.toNat = 9) || decide (c.toNat = 10) || decide (c.toNat = 13)
def nameB (s : List UInt8) : Bool := decide (1 ≤ s.length ∧ s.length ≤ 32) && (match s with | [] => false | c :: _ => letterB c) && s.all moreB
def termB (s : List UInt8) : Bool := decide (1 ≤ s.length ∧ s.length ≤ 32) && s.all termC
structure TokD where
  kind : Int
  text : List UInt8
  at_ : Nat
/-- What begins here: its kind, its text, how many bytes it takes; or an error's number. -/
structure NextD where
  kind : Int
  text : List UInt8
  n : Nat
  err : Int
def noneD (e : Int) : NextD := ⟨0, [], 0, e⟩
def termD (t : List UInt8) : NextD :=
  if (t.drop (t.takeWhile termC).length).head? = some 39 ∧ t.takeWhile termC ≠ [] then (if 32 < (t.takeWhile termC).length then noneD 19 else ⟨2, t.takeWhile termC, (t.takeWhile termC).length + 2, 0⟩) else noneD 13
def nextD (c : UInt8) (t : List UInt8) : NextD :=
    if c = 58 then ⟨3, [58], 1, 0⟩ else if c = 124 then ⟨4, [124], 1, 0⟩ else if c = 59 then ⟨5, [59], 1, 0⟩
    else if letterB c then (if 32 < ((c :: t).takeWhile moreB).length then noneD 19 else ⟨1, (c :: t).takeWhile moreB, ((c :: t).takeWhile moreB).length, 0⟩)
    else if c = 39 then termD t else noneD 13
/-- Up to the end of a comment. -/
def restC (r : List UInt8) : List UInt8 := r.dropWhile fun c => !decide (c = 10)
theorem restC_le : ∀ r : List UInt8, (restC r).length ≤ r.length
  | [] => by simp [restC]
  | c :: t => by
    unfold restC
    rw [List.dropWhile_cons]
    split
    · have := restC_le t; unfold restC at this; simp; omega
    · simp
structure LexD where
  toks : List TokD
  at_ : Nat
  err : Int
def consD (x : TokD) (r : LexD) : LexD := if r.err = 0 then ⟨x :: r.toks, 0, 0⟩ else r
def lexD (r : List UInt8) (p : Nat) : LexD :=
  match r with
  | [] => ⟨[], 0, 0⟩
  | c :: t =>
    if blankB c then lexD t (p + 1)
    else if c = 35 then lexD (restC t) (p + 1 + (t.length - (restC t).length))
    else if (nextD c t).err ≠ 0 then ⟨[], p, (nextD c t).err⟩
    else consD ⟨(nextD c t).kind, (nextD c t).text, p⟩ (lexD (t.drop ((nextD c t).n - 1)) (p + (nextD c t).n))
termination_by r.length
decreasing_by
  · simp
  · have := restC_le t; simp; omega
  · simp; omega
def allD (s : List UInt8) : LexD := if 65536 < s.length then ⟨[], 0, 19⟩ else lexD s 0
/-- What was found before, and what the rest gives. -/
def behindD (acc : List TokD) (r : LexD) : LexD := if r.err = 0 then ⟨acc ++ r.toks, 0, 0⟩ else r
theorem next_pos {c : UInt8} {t : List UInt8} (h : (nextD c t).err = 0) : 1 ≤ (nextD c t).n ∧ (nextD c t).n ≤ (c :: t).length := by
  unfold nextD at h ⊢
  split
  · simp
  · split
    · simp
    · split
      · simp
      · next h1 h2 h3 =>
        rw [if_neg h1, if_neg h2, if_neg h3] at h
        split
        · next h4 =>
          rw [if_pos h4] at h
          split
          · next h5 => rw [if_pos h5] at h; simp [noneD] at h
          · have hm : moreB c = true := by unfold moreB; rw [h4]; simp
            have := (List.takeWhile_prefix moreB (l := c :: t)).length_le
            rw [List.takeWhile_cons, if_pos hm]
            rw [List.takeWhile_cons, if_pos hm] at this
            simp at this ⊢
            omega
        · next h4 =>
          rw [if_neg h4] at h
          split
          · next h5 =>
            rw [if_pos h5] at h
            unfold termD at h ⊢
            split
            · next h6 =>
              rw [if_pos h6] at h
              split
              · next h7 => rw [if_pos h7] at h; simp [noneD] at h
              · have h8 : (t.takeWhile termC).length < t.length := by
                  have := h6.1
                  rcases Nat.lt_or_ge (t.takeWhile termC).length t.length with q | q
                  · exact q
                  · rw [List.drop_eq_nil_of_le q] at this; simp at this
                simp
                omega
            · next h6 => rw [if_neg h6] at h; simp [noneD] at h
          · next h5 => rw [if_neg h5] at h; simp [noneD] at h
theorem lex_nil (p : Nat) : lexD [] p = ⟨[], 0, 0⟩ := by rw [lexD]
theorem lex_blank {c : UInt8} (t : List UInt8) (p : Nat) (h : blankB c = true) : lexD (c :: t) p = lexD t (p + 1) := by rw [lexD, if_pos h]
theorem lex_note (t : List UInt8) (p : Nat) : lexD (35 :: t) p = lexD (restC t) (p + 1 + (t.length - (restC t).length)) := by rw [lexD, if_neg (by decide), if_pos rfl]
theorem lex_err {c : UInt8} (t : List UInt8) (p : Nat) (h1 : blankB c = false) (h2 : c ≠ 35) (h3 : (nextD c t).err ≠ 0) : lexD (c :: t) p = ⟨[], p, (nextD c t).err⟩ := by
  rw [lexD, if_neg (by simp [h1]), if_neg h2, if_pos h3]
theorem lex_tok {c : UInt8} (t : List UInt8) (p : Nat) (h1 : blankB c = false) (h2 : c ≠ 35) (h3 : (nextD c t).err = 0) : lexD (c :: t) p = consD ⟨(nextD c t).kind, (nextD c t).text, p⟩ (lexD ((c :: t).drop (nextD c t).n) (p + (nextD c t).n)) := by
  rw [lexD, if_neg (by simp [h1]), if_neg h2, if_neg (by simp [h3])]
  have := (next_pos h3).1
  rw [show (c :: t).drop (nextD c t).n = t.drop ((nextD c t).n - 1) from by
    obtain ⟨m, hm⟩ : ∃ m, (nextD c t).n = m + 1 := ⟨(nextD c t).n - 1, by omega⟩
    rw [hm]; simp]
theorem behind_cons (acc : List TokD) (x : TokD) (r : LexD) : behindD acc (consD x r) = behindD (acc ++ [x]) r := by
  unfold behindD consD
  by_cases h : r.err = 0
  · simp [h]
  · simp [h]
theorem letter_num {c : UInt8} (h : letterB c = true) : c ≠ 58 ∧ c ≠ 124 ∧ c ≠ 59 ∧ c ≠ 35 ∧ blankB c = false ∧ moreB c = true := by
  have hm : moreB c = true := by unfold moreB; rw [h]; simp
  refine ⟨?_, ?_, ?_, ?_, ?_, hm⟩
  · rintro rfl; simp [letterB] at h
  · rintro rfl; simp [letterB] at h
  · rintro rfl; simp [letterB] at h
  · rintro rfl; simp [letterB] at h
  · unfold letterB at h
    unfold blankB
    simp at h ⊢
    omega
theorem takeWhile_all {p : UInt8 → Bool} {l : List UInt8} (h : l.all p = true) : l.takeWhile p = l := by
  induction l with
  | nil => rfl
  | cons c t ih =>
    rw [List.all_cons, Bool.and_eq_true] at h
    rw [List.takeWhile_cons, if_pos h.1, ih h.2]
/-- What ends a run ends it, whatever follows. -/
theorem takeWhile_stop {p : UInt8 → Bool} : ∀ (l : List UInt8) (x : UInt8) (q : List UInt8), p x = false → (l ++ x :: q).takeWhile p = l.takeWhile p
  | [], x, q, h => by simp [h]
  | c :: t, x, q, h => by
    rw [List.cons_append, List.takeWhile_cons, List.takeWhile_cons, takeWhile_stop t x q h]
theorem takeWhile_in {p : UInt8 → Bool} : ∀ (l q : List UInt8), (l.takeWhile p).length < l.length → (l ++ q).takeWhile p = l.takeWhile p
  | [], q, h => by simp at h
  | c :: t, q, h => by
    rw [List.cons_append, List.takeWhile_cons, List.takeWhile_cons]
    rw [List.takeWhile_cons] at h
    split
    · next hc =>
      rw [if_pos hc] at h
      rw [takeWhile_in t q (by simpa using h)]
    · rfl
theorem name_one {s : List UInt8} (h : nameB s = true) (p : Nat) : lexD s p = ⟨[⟨1, s, p⟩], 0, 0⟩ := by
  unfold nameB at h
  rw [Bool.and_eq_true, Bool.and_eq_true] at h
  obtain ⟨⟨h1, h2⟩, h3⟩ := h
  have h1' := of_decide_eq_true h1
  cases s with
  | nil => simp at h1'
  | cons c t =>
    simp only at h2
    obtain ⟨e1, e2, e3, e4, e5, e6⟩ := letter_num h2
    have hn : nextD c t = ⟨1, c :: t, (c :: t).length, 0⟩ := by
      unfold nextD
      rw [if_neg e1, if_neg e2, if_neg e3, if_pos h2, takeWhile_all h3, if_neg (by omega)]
    rw [lex_tok t p e5 e4 (by rw [hn]), hn]
    simp only [List.drop_length]
    rw [lex_nil]
    rfl
theorem term_one {s : List UInt8} (h : termB s = true) (p : Nat) : lexD (39 :: (s ++ [39])) p = ⟨[⟨2, s, p⟩], 0, 0⟩ := by
  unfold termB at h
  rw [Bool.and_eq_true] at h
  have h1' := of_decide_eq_true h.1
  have ht : (s ++ [39]).takeWhile termC = s := by rw [takeWhile_stop s 39 [] (by decide), takeWhile_all h.2]
  have hn : nextD 39 (s ++ [39]) = ⟨2, s, s.length + 2, 0⟩ := by
    unfold nextD
    rw [if_neg (by decide), if_neg (by decide), if_neg (by decide), if_neg (by decide), if_pos rfl]
    unfold termD
    rw [ht, if_pos ⟨by simp, by intro e; rw [e] at h1'; simp at h1'⟩, if_neg (by omega)]
  rw [lex_tok _ p (by decide) (by decide) (by rw [hn]), hn]
  rw [List.drop_eq_nil_of_le (by simp), lex_nil]
  rfl
theorem lex_ok {r : List UInt8} {p : Nat} (h : (lexD r p).err = 0) : (lexD r p).at_ = 0 := by
  induction r, p using lexD.induct with
  | case1 p => rw [lex_nil]
  | case2 p c t hb ih => rw [lex_blank t p hb] at h ⊢; exact ih h
  | case3 p t hb ih => rw [lex_note] at h ⊢; exact ih h
  | case4 p c t hb h3 he => rw [lex_err t p (by simpa using hb) h3 he] at h; exact absurd h he
  | case5 p c t hb h3 he ih =>
    rw [lexD, if_neg hb, if_neg h3, if_neg he] at h ⊢
    unfold consD at h ⊢
    split
    · rfl
    · next hq => rw [if_neg hq] at h; exact absurd h hq
def shiftT (k : Nat) (x : TokD) : TokD := ⟨x.kind, x.text, x.at_ + k⟩
theorem lex_shift (k : Nat) {r : List UInt8} {p : Nat} : (lexD r p).err = 0 → lexD r (p + k) = ⟨(lexD r p).toks.map (shiftT k), 0, 0⟩ := by
  induction r, p using lexD.induct with
  | case1 p => intro _; rw [lex_nil, lex_nil]; rfl
  | case2 p c t hb ih => intro h; rw [lex_blank t p hb] at h ⊢; rw [lex_blank t _ hb, ← ih h, show p + k + 1 = p + 1 + k from by omega]
  | case3 p t hb ih =>
    intro h
    rw [lex_note] at h ⊢
    rw [lex_note, ← ih h, show p + k + 1 + (t.length - (restC t).length) = p + 1 + (t.length - (restC t).length) + k from by omega]
  | case4 p c t hb h3 he => intro h; rw [lex_err t p (by simpa using hb) h3 he] at h; exact absurd h he
  | case5 p c t hb h3 he ih =>
    intro h
    rw [lexD, if_neg hb, if_neg h3, if_neg he] at h ⊢
    rw [lexD, if_neg hb, if_neg h3, if_neg he]
    have he2 : (lexD (t.drop ((nextD c t).n - 1)) (p + (nextD c t).n)).err = 0 := by
      unfold consD at h
      split at h
      · assumption
      · next hq => exact absurd h hq
    rw [show p + k + (nextD c t).n = p + (nextD c t).n + k from by omega, ih he2]
    unfold consD
    simp [he2, shiftT]
theorem next_same {c : UInt8} {t : List UInt8} (q : List UInt8) (h : (nextD c t).err = 0) : nextD c (t ++ 32 :: q) = nextD c t := by
  unfold nextD at h ⊢
  by_cases h1 : c = 58
  · rw [if_pos h1, if_pos h1]
  · rw [if_neg h1] at h ⊢
    rw [if_neg h1]
    by_cases h2 : c = 124
    · rw [if_pos h2, if_pos h2]
    · rw [if_neg h2] at h ⊢
      rw [if_neg h2]
      by_cases h3 : c = 59
      · rw [if_pos h3, if_pos h3]
      · rw [if_neg h3] at h ⊢
        rw [if_neg h3]
        by_cases h4 : letterB c = true
        · rw [if_pos h4, if_pos h4, ← List.cons_append, takeWhile_stop (c :: t) 32 q (by decide)]
        · rw [if_neg h4] at h ⊢
          rw [if_neg h4]
          by_cases h5 : c = 39
          · rw [if_pos h5] at h ⊢
            rw [if_pos h5]
            unfold termD at h ⊢
            by_cases h6 : (t.drop (t.takeWhile termC).length).head? = some 39 ∧ t.takeWhile termC ≠ []
            · have h8 : (t.takeWhile termC).length < t.length := by
                have := h6.1
                rcases Nat.lt_or_ge (t.takeWhile termC).length t.length with z | z
                · exact z
                · rw [List.drop_eq_nil_of_le z] at this; simp at this
              rw [takeWhile_in t _ h8]
              have h9 : ((t ++ 32 :: q).drop (t.takeWhile termC).length).head? = (t.drop (t.takeWhile termC).length).head? := by
                rw [List.drop_append_of_le_length (by omega), List.head?_append]
                rw [h6.1]; rfl
              rw [h9]
            · rw [if_neg h6] at h; simp [noneD] at h
          · rw [if_neg h5, if_neg h5]
theorem lex_front {r : List UInt8} {p : Nat} : ∀ (q : List UInt8) (y : List TokD), (35 : UInt8) ∉ r → (lexD r p).err = 0 → lexD (32 :: q) (p + r.length) = ⟨y, 0, 0⟩ → lexD (r ++ 32 :: q) p = ⟨(lexD r p).toks ++ y, 0, 0⟩ := by
  induction r, p using lexD.induct with
  | case1 p => intro q y _ _ h; rw [lex_nil]; simpa using h
  | case2 p c t hb ih =>
    intro q y hn h hy
    rw [lex_blank t p hb] at h ⊢
    rw [List.cons_append, lex_blank _ p hb]
    exact ih q y (fun hm => hn (by simp [hm])) h (by rw [← hy]; congr 1; simp; omega)
  | case3 p t hb ih => intro q y hn; simp at hn
  | case4 p c t hb h3 he => intro q y hn h; rw [lex_err t p (by simpa using hb) h3 he] at h; exact absurd h he
  | case5 p c t hb h3 he ih =>
    intro q y hn h hy
    have he0 : (nextD c t).err = 0 := by simpa using he
    have hpos := next_pos he0
    have hb' : blankB c = false := by simpa using hb
    rw [lex_tok t p hb' h3 he0] at h ⊢
    have hd : t.drop ((nextD c t).n - 1) = (c :: t).drop (nextD c t).n := by
      obtain ⟨m, hm⟩ : ∃ m, (nextD c t).n = m + 1 := ⟨(nextD c t).n - 1, by omega⟩
      rw [hm]; simp
    rw [hd] at ih
    have he2 : (lexD ((c :: t).drop (nextD c t).n) (p + (nextD c t).n)).err = 0 := by
      unfold consD at h
      split at h
      · assumption
      · next hq => exact absurd h hq
    have hs := next_same q he0
    rw [List.cons_append, lex_tok (t ++ 32 :: q) p hb' h3 (by rw [hs]; exact he0), hs, ← List.cons_append, List.drop_append_of_le_length hpos.2]
    rw [ih q y (fun hm => hn (List.mem_of_mem_drop hm)) he2 (by rw [← hy]; congr 1; rw [List.length_drop]; omega)]
    unfold consD
    simp [he2]
theorem restC_stop : ∀ (m q : List UInt8), (10 : UInt8) ∉ m → restC (m ++ 10 :: q) = 10 :: q
  | [], q, _ => by simp [restC]
  | c :: t, q, h => by
    have := restC_stop t q (fun hm => h (by simp [hm]))
    unfold restC at this ⊢
    rw [List.cons_append, List.dropWhile_cons, if_pos (by simp; intro e; exact h (by simp [e]))]
    exact this
theorem lex_between (m b : List UInt8) (p : Nat) (h : (10 : UInt8) ∉ m) : lexD (32 :: 35 :: (m ++ 10 :: 9 :: 13 :: b)) p = lexD b (p + (m.length + 5)) := by
  rw [lex_blank _ p (by decide), lex_note, restC_stop m _ h, lex_blank _ _ (by decide), lex_blank _ _ (by decide), lex_blank _ _ (by decide)]
  congr 1
  simp
  omega
/-- Blanks and a remark between two texts. -/
theorem lex_blanks (a m b : List UInt8) (ha : (lexD a 0).err = 0) (hb : (lexD b 0).err = 0) (hn : (35 : UInt8) ∉ a) (h : (10 : UInt8) ∉ m) :
    lexD (a ++ 32 :: 35 :: (m ++ 10 :: 9 :: 13 :: b)) 0 = ⟨(lexD a 0).toks ++ (lexD b 0).toks.map (shiftT (a.length + m.length + 5)), 0, 0⟩ := by
  refine lex_front _ _ hn ha ?_
  rw [lex_between m b _ h, ← lex_shift (a.length + m.length + 5) hb]
  congr 1
  omega
theorem restC_len (t : List UInt8) : (restC t).length ≤ t.length := restC_le t
theorem lex_len {r : List UInt8} {p : Nat} : (lexD r p).toks.length ≤ r.length ∧ ∀ t ∈ (lexD r p).toks, t.at_ ≤ p + r.length := by
  induction r, p using lexD.induct with
  | case1 p => rw [lex_nil]; simp
  | case2 p c t hb ih => rw [lex_blank t p hb]; exact ⟨by simp; omega, fun x hx => by have := ih.2 x hx; simp; omega⟩
  | case3 p t hb ih =>
    rw [lex_note]
    have := restC_le t
    exact ⟨by simp; omega, fun x hx => by have := ih.2 x hx; simp; omega⟩
  | case4 p c t hb h3 he => rw [lex_err t p (by simpa using hb) h3 he]; simp
  | case5 p c t hb h3 he ih =>
    rw [lexD, if_neg hb, if_neg h3, if_neg he]
    have he0 : (nextD c t).err = 0 := by simpa using he
    have hpos := next_pos he0
    rw [List.length_cons] at hpos
    unfold consD
    split
    · refine ⟨?_, fun x hx => ?_⟩
      · have := ih.1
        rw [List.length_drop] at this
        simp; omega
      · rw [List.mem_cons] at hx
        rcases hx with rfl | hx
        · simp
        · have := ih.2 x hx
          rw [List.length_drop] at this
          simp; omega
    · refine ⟨?_, fun x hx => ?_⟩
      · have := ih.1
        rw [List.length_drop] at this
        simp; omega
      · have := ih.2 x hx
        rw [List.length_drop] at this
        simp; omega
end Go.Proofs.Ytamoalnbcmnciaa

/-! Plain mathematics of the parser of rules (layer 13). Nothing here names the program. -/
namespace Go.Proofs.Ytamoalnbcmnciaa

structure ItemD where
  term : Bool
  text : List UInt8
structure LineD where
  name : List UInt8
  alts : List (List ItemD)
/-- A token's kind and text. -/
abbrev Tk := Int × List UInt8
def TokD.tk (t : TokD) : Tk := (t.kind, t.text)
/-- Alternatives that were read, or how many tokens were left where it went wrong; and how many are left. -/
structure BodyD where
  ok : Bool
  alts : List (List ItemD)
  left : List Tk
def bodyD : List Tk → List ItemD → List (List ItemD) → BodyD
  | [], _, _ => ⟨false, [], []⟩
  | t :: r, cur, done =>
    if t.1 = 1 ∨ t.1 = 2 then bodyD r (cur ++ [⟨decide (t.1 = 2), t.2⟩]) done
    else if t.1 = 4 then bodyD r [] (done ++ [cur])
    else if t.1 = 5 then ⟨true, done ++ [cur], r⟩
    else ⟨false, [], t :: r⟩
structure RuleD where
  ok : Bool
  line : LineD
  left : List Tk
def nameD (n : List UInt8) : List Tk → RuleD
  | [] => ⟨false, ⟨[], []⟩, []⟩
  | c :: q => if c.1 = 3 then ⟨(bodyD q [] []).ok, ⟨n, (bodyD q [] []).alts⟩, (bodyD q [] []).left⟩ else ⟨false, ⟨[], []⟩, c :: q⟩
def ruleD : List Tk → RuleD
  | [] => ⟨false, ⟨[], []⟩, []⟩
  | t :: r => if t.1 ≠ 1 then ⟨false, ⟨[], []⟩, t :: r⟩ else nameD t.2 r
theorem body_left : ∀ (r : List Tk) (cur : List ItemD) (done : List (List ItemD)), (bodyD r cur done).left.length ≤ r.length ∧ ((bodyD r cur done).ok = true → (bodyD r cur done).left.length < r.length)
  | [], cur, done => by simp [bodyD]
  | t :: r, cur, done => by
    unfold bodyD
    split
    · have := body_left r (cur ++ [⟨decide (t.1 = 2), t.2⟩]) done
      exact ⟨by simp; omega, fun h => by have := this.2 h; simp; omega⟩
    · split
      · have := body_left r [] (done ++ [cur])
        exact ⟨by simp; omega, fun h => by have := this.2 h; simp; omega⟩
      · split
        · simp
        · simp
theorem name_left (n : List UInt8) (r : List Tk) : (nameD n r).left.length ≤ r.length ∧ ((nameD n r).ok = true → (nameD n r).left.length < r.length) := by
  cases r with
  | nil => simp [nameD]
  | cons c q =>
    have e : nameD n (c :: q) = if c.1 = 3 then ⟨(bodyD q [] []).ok, ⟨n, (bodyD q [] []).alts⟩, (bodyD q [] []).left⟩ else ⟨false, ⟨[], []⟩, c :: q⟩ := rfl
    rw [e, List.length_cons]
    by_cases h3 : c.1 = 3
    · rw [if_pos h3]
      have := body_left q [] []
      exact ⟨by simp only; omega, fun h => by have := this.2 h; simp only; omega⟩
    · rw [if_neg h3]
      simp
theorem rule_left (r : List Tk) : (ruleD r).left.length ≤ r.length ∧ ((ruleD r).ok = true → (ruleD r).left.length < r.length) := by
  cases r with
  | nil => simp [ruleD]
  | cons t r =>
    have e : ruleD (t :: r) = if t.1 ≠ 1 then ⟨false, ⟨[], []⟩, t :: r⟩ else nameD t.2 r := rfl
    rw [e, List.length_cons]
    by_cases h1 : t.1 ≠ 1
    · rw [if_pos h1]
      simp
    · rw [if_neg h1]
      have := name_left t.2 r
      exact ⟨by omega, fun h => by have := this.2 h; omega⟩
/-- Lines that were read, or how many tokens were left where it went wrong. -/
structure LinesD where
  ok : Bool
  lines : List LineD
  left : Nat
def linesD (r : List Tk) : LinesD :=
  match r with
  | [] => ⟨true, [], 0⟩
  | t :: q =>
    if h : (ruleD (t :: q)).ok = true then
      (if (linesD (ruleD (t :: q)).left).ok then ⟨true, (ruleD (t :: q)).line :: (linesD (ruleD (t :: q)).left).lines, 0⟩ else linesD (ruleD (t :: q)).left)
    else ⟨false, [], (ruleD (t :: q)).left.length⟩
termination_by r.length
decreasing_by
  all_goals exact (rule_left (t :: q)).2 h
/-- What a text comes to. -/
structure ParD where
  lines : List LineD
  at_ : Nat
  err : Int
def offT (m : List UInt8) (toks : List TokD) (left : Nat) : Nat := match toks[toks.length - left]? with | some t => t.at_ | none => m.length
def parD (m : List UInt8) : ParD :=
  if (allD m).err ≠ 0 then ⟨[], (allD m).at_, (allD m).err⟩
  else if (linesD ((allD m).toks.map TokD.tk)).ok = false then ⟨[], offT m (allD m).toks (linesD ((allD m).toks.map TokD.tk)).left, 14⟩
  else if (linesD ((allD m).toks.map TokD.tk)).lines = [] then ⟨[], m.length, 14⟩
  else ⟨(linesD ((allD m).toks.map TokD.tk)).lines, 0, 0⟩
def itemT (i : ItemD) : List UInt8 := if i.term then [32, 39] ++ i.text ++ [39] else 32 :: i.text
def altT (a : List ItemD) : List UInt8 := a.flatMap itemT
def altsT : List (List ItemD) → List UInt8
  | [] => []
  | a :: r => altT a ++ r.flatMap fun b => [32, 124] ++ altT b
def lineT (l : LineD) : List UInt8 := l.name ++ [32, 58] ++ altsT l.alts ++ [32, 59, 10]
def textD (l : List LineD) : List UInt8 := l.flatMap lineT
/-- The tokens of lines. -/
def itemK (i : ItemD) : Tk := (if i.term then 2 else 1, i.text)
def altsK : List (List ItemD) → List Tk
  | [] => []
  | a :: r => a.map itemK ++ r.flatMap fun b => (4, [124]) :: b.map itemK
def lineK (l : LineD) : List Tk := (1, l.name) :: (3, [58]) :: (altsK l.alts ++ [(5, [59])])
theorem body_items : ∀ (a : List ItemD) (q : List Tk) (cur : List ItemD) (done : List (List ItemD)), bodyD (a.map itemK ++ q) cur done = bodyD q (cur ++ a) done
  | [], q, cur, done => by simp
  | i :: r, q, cur, done => by
    rw [List.map_cons, List.cons_append, bodyD]
    have h : (itemK i).1 = 1 ∨ (itemK i).1 = 2 := by unfold itemK; cases i.term <;> simp
    have h2 : (⟨decide ((itemK i).1 = 2), (itemK i).2⟩ : ItemD) = i := by unfold itemK; obtain ⟨b, x⟩ := i; cases b <;> simp
    rw [if_pos h, h2, body_items r q]
    simp
theorem body_bars : ∀ (r : List (List ItemD)) (q : List Tk) (cur : List ItemD) (done : List (List ItemD)), bodyD ((r.flatMap fun b => (4, [124]) :: b.map itemK) ++ (5, [59]) :: q) cur done = ⟨true, done ++ cur :: r, q⟩
  | [], q, cur, done => by simp [bodyD]
  | b :: r, q, cur, done => by
    rw [List.flatMap_cons, List.cons_append, List.cons_append, bodyD, if_neg (by simp), if_pos rfl, List.append_assoc, body_items, body_bars r q]
    simp
theorem body_back (l : LineD) (h : l.alts ≠ []) (q : List Tk) : ruleD (lineK l ++ q) = ⟨true, l, q⟩ := by
  obtain ⟨n, al⟩ := l
  cases al with
  | nil => exact absurd rfl h
  | cons a r =>
    unfold lineK altsK
    simp only [List.cons_append, List.append_assoc, List.nil_append]
    have hb := body_items a ((r.flatMap fun b => (4, [124]) :: b.map itemK) ++ (5, [59]) :: q) [] []
    rw [body_bars] at hb
    have e1 : ∀ r : List Tk, ruleD ((1, n) :: r) = nameD n r := fun r => by simp [ruleD]
    have e2 : ∀ r : List Tk, nameD n ((3, [58]) :: r) = ⟨(bodyD r [] []).ok, ⟨n, (bodyD r [] []).alts⟩, (bodyD r [] []).left⟩ := fun r => by simp [nameD]
    rw [e1, e2, hb]
    simp
theorem lines_back : ∀ (l : List LineD), (∀ x ∈ l, x.alts ≠ []) → linesD (l.flatMap lineK) = ⟨true, l, 0⟩
  | [], _ => by rw [List.flatMap_nil, linesD]
  | x :: l, h => by
    have hb := body_back x (h x (by simp)) (l.flatMap lineK)
    have ih := lines_back l (fun y hy => h y (by simp [hy]))
    rw [List.flatMap_cons]
    have hc : lineK x ++ l.flatMap lineK = (1, x.name) :: ((3, [58]) :: (altsK x.alts ++ [(5, [59])]) ++ l.flatMap lineK) := rfl
    rw [hc] at hb ⊢
    rw [linesD, dif_pos (by rw [hb]), hb]
    simp only
    rw [ih]
    rfl
end Go.Proofs.Ytamoalnbcmnciaa

/-! Plain mathematics of grammars (layer 14). Nothing here names the program. -/
namespace Go.Proofs.Ytamoalnbcmnciaa

structure RuleG where
  left : Int
  right : List Int
structure GramG where
  names : List (List UInt8)
  terms : List (List UInt8)
  rules : List RuleG
theorem RuleG.ext' {a b : RuleG} (h1 : a.left = b.left) (h2 : a.right = b.right) : a = b := by cases a; cases b; simp_all
theorem GramG.ext' {a b : GramG} (h1 : a.names = b.names) (h2 : a.terms = b.terms) (h3 : a.rules = b.rules) : a = b := by cases a; cases b; simp_all
/-- A truth as a Bool. -/
noncomputable def boolOf (p : Prop) : Bool := @decide p (Classical.propDecidable p)
theorem boolOf_true {p : Prop} (h : p) : boolOf p = true := by unfold boolOf; exact @decide_eq_true p (Classical.propDecidable p) h
theorem boolOf_false {p : Prop} (h : ¬ p) : boolOf p = false := by unfold boolOf; exact @decide_eq_false p (Classical.propDecidable p) h
theorem boolOf_congr {p q : Prop} (h : p ↔ q) : boolOf p = boolOf q := by rw [show p = q from propext h]
theorem of_boolOf {p : Prop} (h : boolOf p = true) : p := Classical.byContradiction fun hn => by rw [boolOf_false hn] at h; cases h
theorem boolOf_cases (p : Prop) : (p ∧ boolOf p = true) ∨ (¬ p ∧ boolOf p = false) := (Classical.em p).elim (fun h => .inl ⟨h, boolOf_true h⟩) (fun h => .inr ⟨h, boolOf_false h⟩)
/-- The place of a text in a list; -1: it is not there. -/
def findG : List (List UInt8) → List UInt8 → Int
  | [], _ => -1
  | x :: l, s => if x = s then 0 else if findG l s < 0 then -1 else findG l s + 1
theorem find_at : ∀ {l : List (List UInt8)} {s : List UInt8} {k : Nat} (hk : k < l.length), l[k] = s → (∀ j (h : j < k), l[j]'(by omega) ≠ s) → findG l s = (k : Int)
  | [], s, k, hk, _, _ => by simp at hk
  | x :: l, s, k, hk, h1, h2 => by
    unfold findG
    cases k with
    | zero => rw [if_pos (by simpa using h1)]; rfl
    | succ k =>
      have h0 : ¬ x = s := by simpa using h2 0 (by omega)
      have := find_at (l := l) (s := s) (k := k) (by simpa using hk) (by simpa using h1) (fun j h => by simpa using h2 (j + 1) (by omega))
      rw [if_neg h0, this, if_neg (by omega)]
      omega
theorem find_no : ∀ {l : List (List UInt8)} {s : List UInt8}, s ∉ l → findG l s = -1
  | [], s, _ => rfl
  | x :: l, s, h => by
    unfold findG
    rw [if_neg (fun e => h (by simp [e])), find_no (fun hm => h (by simp [hm])), if_pos (by omega)]
theorem find_yes : ∀ {l : List (List UInt8)} {s : List UInt8}, s ∈ l → ∃ (k : Nat) (hk : k < l.length), findG l s = (k : Int) ∧ l[k] = s ∧ ∀ j (h : j < k), l[j]'(by omega) ≠ s
  | [], s, h => by simp at h
  | x :: l, s, h => by
    unfold findG
    by_cases e : x = s
    · exact ⟨0, by simp, by rw [if_pos e]; rfl, by simpa using e, fun j hj => by omega⟩
    · have hm : s ∈ l := by
        rcases List.mem_cons.1 h with q | q
        · exact absurd q.symm e
        · exact q
      obtain ⟨k, hk, h1, h2, h3⟩ := find_yes hm
      refine ⟨k + 1, by simp; omega, by rw [if_neg e, h1, if_neg (by omega)]; omega, by simpa using h2, fun j hj => ?_⟩
      cases j with
      | zero => simpa using e
      | succ j => simpa using h3 j (by omega)
theorem find_le {l : List (List UInt8)} {i : Nat} (hi : i < l.length) : ∃ k : Nat, findG l l[i] = (k : Int) ∧ k ≤ i ∧ (k = i ↔ ∀ j (h : j < i), l[j]'(by omega) ≠ l[i]) := by
  obtain ⟨k, hk, h1, h2, h3⟩ := find_yes (List.getElem_mem hi)
  have hle : k ≤ i := by
    rcases Nat.lt_or_ge i k with q | q
    · exact absurd rfl (h3 i q)
    · exact q
  refine ⟨k, h1, hle, fun e => ?_, fun h => ?_⟩
  · subst e; exact h3
  · rcases Nat.lt_or_ge k i with q | q
    · exact absurd h2 (h k q)
    · omega
theorem nodup_iff {α : Type} {l : List α} : l.Nodup ↔ ∀ i (hi : i < l.length) j (hj : j < i), l[j]'(by omega) ≠ l[i] := by
  unfold List.Nodup
  rw [List.pairwise_iff_getElem]
  exact ⟨fun h i hi j hj => h j i (by omega) hi hj, fun h i j hi hj hij => h j hj i hij⟩
/-- A grammar that may be. -/
structure ValidG (g : GramG) : Prop where
  one : 1 ≤ g.names.length
  syms : g.names.length + g.terms.length ≤ 256
  few : g.rules.length ≤ 4096
  names : ∀ n ∈ g.names, nameB n = true
  nodupN : g.names.Nodup
  has : ∀ i : Nat, i < g.names.length → ∃ r ∈ g.rules, r.left = (i : Int)
  terms : ∀ t ∈ g.terms, termB t = true
  nodupT : g.terms.Nodup
  rules : ∀ r ∈ g.rules, 0 ≤ r.left ∧ r.left < (g.names.length : Int) ∧ r.right.length ≤ 64 ∧ ∀ s ∈ r.right, -(g.terms.length : Int) ≤ s ∧ s < (g.names.length : Int)
  nodupR : g.rules.Nodup
noncomputable def validB (g : GramG) : Bool := boolOf (ValidG g)
noncomputable def sameB (g h : GramG) : Bool := boolOf (g = h)
/-- The rules of a nonterminal: their numbers. -/
def ofFrom : List RuleG → Int → Nat → List Int
  | [], _, _ => []
  | r :: l, a, i => if r.left = a then (i : Int) :: ofFrom l a (i + 1) else ofFrom l a (i + 1)
def ofG (g : GramG) (a : Int) : List Int := ofFrom g.rules a 0
/-- A small grammar. -/
def FewG (g : GramG) : Prop := g.names.length ≤ 12 ∧ g.terms.length ≤ 12 ∧ g.rules.length ≤ 40 ∧ (∀ r ∈ g.rules, r.right.length ≤ 20) ∧ (∀ n ∈ g.names, n.length ≤ 40) ∧ ∀ t ∈ g.terms, t.length ≤ 40
noncomputable def fewB (g : GramG) : Int := if boolOf (FewG g) = true then 1 else 0
/-- A symbol as an item. -/
def itemG (g : GramG) (s : Int) : ItemD := if s < 0 then ⟨true, g.terms.getD (-1 - s).toNat []⟩ else ⟨false, g.names.getD s.toNat []⟩
def altsG (g : GramG) (i : Nat) : List (List ItemD) := (g.rules.filter fun r => decide (r.left = (i : Int))).map fun r => r.right.map (itemG g)
/-- A grammar's lines. -/
def linesG (g : GramG) : List LineD := g.names.zipIdx.map fun p => ⟨p.1, altsG g p.2⟩
/-- The terminals of items, in the order in which they first stand. -/
def addT (acc : List (List UInt8)) (i : ItemD) : List (List UInt8) := if i.term = true ∧ i.text ∉ acc then acc ++ [i.text] else acc
def itemsOf (ls : List LineD) : List ItemD := ls.flatMap fun l => l.alts.flatten
def termsOf (is : List ItemD) : List (List UInt8) := is.foldl addT []
def symG (names terms : List (List UInt8)) (i : ItemD) : Int := if i.term then -1 - findG terms i.text else findG names i.text
def rulesOf (names terms : List (List UInt8)) (ls : List LineD) : List RuleG := ls.zipIdx.flatMap fun p => p.1.alts.map fun a => ⟨(p.2 : Int), a.map (symG names terms)⟩
def gramOf (ls : List LineD) : GramG := ⟨ls.map (·.name), termsOf (itemsOf ls), rulesOf (ls.map (·.name)) (termsOf (itemsOf ls)) ls⟩
def emptyG : GramG := ⟨[], [], []⟩
structure ResD where
  g : GramG
  err : Int
/-- The alternatives are too many, or too long. -/
def BoundL (ls : List LineD) : Prop := (∃ l ∈ ls, ∃ a ∈ l.alts, 64 < a.length) ∨ 4096 < (ls.map fun l => l.alts.length).sum ∨ 256 < ls.length
def UndefL (ls : List LineD) : Prop := ∃ i ∈ itemsOf ls, i.term = false ∧ i.text ∉ ls.map (·.name)
/-- What lines come to. -/
noncomputable def resolveG (ls : List LineD) : ResD :=
  if boolOf (BoundL ls) = true then ⟨emptyG, 19⟩
  else if boolOf ((ls.map (·.name)).Nodup) = false then ⟨emptyG, 15⟩
  else if boolOf (UndefL ls) = true then ⟨emptyG, 16⟩
  else if 256 < (gramOf ls).names.length + (gramOf ls).terms.length then ⟨emptyG, 19⟩
  else if boolOf ((gramOf ls).rules.Nodup) = false then ⟨emptyG, 15⟩
  else ⟨gramOf ls, 0⟩
/-- How many terminals have been seen; none: one came too early. -/
def seenG : List Int → Nat → Option Nat
  | [], n => some n
  | s :: l, n => if s < 0 ∧ (n : Int) < -1 - s then none else if s < 0 ∧ -1 - s = (n : Int) then seenG l (n + 1) else seenG l n
/-- The rules stand by rising left sides, the terminals in their order. -/
def OrderG (g : GramG) : Prop := (∀ i (h : i + 1 < g.rules.length), (g.rules[i]'(by omega)).left ≤ (g.rules[i + 1]'h).left) ∧ seenG (g.rules.flatMap (·.right)) 0 = some g.terms.length
end Go.Proofs.Ytamoalnbcmnciaa

/-! Lines al text are read al the same lines (layer 13): plain mathematics. -/
namespace Go.Proofs.Ytamoalnbcmnciaa

/-- What a token may be. -/
def tkOk (k : Tk) : Prop := (k.1 = 1 ∧ nameB k.2 = true) ∨ (k.1 = 2 ∧ termB k.2 = true) ∨ k.1 = 3 ∨ k.1 = 4 ∨ k.1 = 5
theorem takeWhile_yes (p : UInt8 → Bool) : ∀ l : List UInt8, (l.takeWhile p).all p = true
  | [] => rfl
  | c :: t => by
    rw [List.takeWhile_cons]
    split
    · next h => rw [List.all_cons, h, takeWhile_yes p t]; rfl
    · rfl
theorem next_ok {c : UInt8} {t : List UInt8} (h : (nextD c t).err = 0) : tkOk ((nextD c t).kind, (nextD c t).text) ∧ (nextD c t).text.length ≤ (nextD c t).n := by
  unfold nextD at h ⊢
  by_cases h1 : c = 58
  · rw [if_pos h1]; exact ⟨.inr (.inr (.inl rfl)), Nat.le_refl _⟩
  · rw [if_neg h1] at h ⊢
    by_cases h2 : c = 124
    · rw [if_pos h2]; exact ⟨.inr (.inr (.inr (.inl rfl))), Nat.le_refl _⟩
    · rw [if_neg h2] at h ⊢
      by_cases h3 : c = 59
      · rw [if_pos h3]; exact ⟨.inr (.inr (.inr (.inr rfl))), Nat.le_refl _⟩
      · rw [if_neg h3] at h ⊢
        by_cases h4 : letterB c = true
        · rw [if_pos h4] at h ⊢
          by_cases h5 : 32 < ((c :: t).takeWhile moreB).length
          · rw [if_pos h5] at h; simp [noneD] at h
          · rw [if_neg h5]
            refine ⟨.inl ⟨rfl, ?_⟩, Nat.le_refl _⟩
            have hm : moreB c = true := (letter_num h4).2.2.2.2.2
            have hy := takeWhile_yes moreB (c :: t)
            have hc : (c :: t).takeWhile moreB = c :: t.takeWhile moreB := by rw [List.takeWhile_cons, if_pos hm]
            unfold nameB
            simp only
            rw [hy, hc, decide_eq_true (by rw [hc] at h5; simp at h5 ⊢; omega)]
            simp only
            rw [h4]; rfl
        · rw [if_neg h4] at h ⊢
          by_cases h5 : c = 39
          · rw [if_pos h5] at h ⊢
            unfold termD at h ⊢
            by_cases h6 : (t.drop (t.takeWhile termC).length).head? = some 39 ∧ t.takeWhile termC ≠ []
            · rw [if_pos h6] at h ⊢
              by_cases h7 : 32 < (t.takeWhile termC).length
              · rw [if_pos h7] at h; simp [noneD] at h
              · rw [if_neg h7]
                refine ⟨.inr (.inl ⟨rfl, ?_⟩), by simp⟩
                have hp : 0 < (t.takeWhile termC).length := List.length_pos_iff.2 h6.2
                unfold termB
                simp only
                rw [takeWhile_yes termC t, decide_eq_true (by omega)]; rfl
            · rw [if_neg h6] at h; simp [noneD] at h
          · rw [if_neg h5] at h; simp [noneD] at h
def wtK (k : Tk) : Nat := k.2.length + 4
theorem lex_sound {r : List UInt8} {p : Nat} : (∀ t ∈ (lexD r p).toks, tkOk t.tk) ∧ (((lexD r p).toks.map fun t => wtK t.tk).sum ≤ 5 * r.length) := by
  induction r, p using lexD.induct with
  | case1 p => rw [lex_nil]; simp
  | case2 p c t hb ih => rw [lex_blank t p hb]; exact ⟨ih.1, by have := ih.2; simp only [List.length_cons]; omega⟩
  | case3 p t hb ih =>
    rw [lex_note]
    have := restC_le t
    exact ⟨ih.1, by have := ih.2; simp only [List.length_cons]; omega⟩
  | case4 p c t hb h3 he => rw [lex_err t p (by simpa using hb) h3 he]; simp
  | case5 p c t hb h3 he ih =>
    rw [lexD, if_neg hb, if_neg h3, if_neg he]
    have he0 : (nextD c t).err = 0 := by simpa using he
    have hpos := next_pos he0
    have hok := next_ok he0
    have ih2 := ih.2
    rw [List.length_cons] at hpos ⊢
    rw [List.length_drop] at ih2
    unfold consD
    split
    · refine ⟨fun x hx => ?_, ?_⟩
      · rw [List.mem_cons] at hx
        rcases hx with rfl | hx
        · exact hok.1
        · exact ih.1 x hx
      · rw [List.map_cons, List.sum_cons]
        have : wtK (TokD.tk ⟨(nextD c t).kind, (nextD c t).text, p⟩) = (nextD c t).text.length + 4 := rfl
        rw [this]
        have := hok.2
        omega
    · exact ⟨ih.1, by omega⟩
/-- r gives these tokens, wherever it stands. -/
def Lx (r : List UInt8) (ks : List Tk) : Prop := ∀ p, (lexD r p).err = 0 ∧ (lexD r p).toks.map TokD.tk = ks
theorem Lx.nil : Lx [] [] := fun p => by rw [lex_nil]; exact ⟨rfl, rfl⟩
theorem Lx.blank {c : UInt8} {r : List UInt8} {ks : List Tk} (hc : blankB c = true) (h : Lx r ks) : Lx (c :: r) ks := fun p => by rw [lex_blank r p hc]; exact h (p + 1)
theorem cons_ok {x : TokD} {r : LexD} {ks : List Tk} (h : r.err = 0 ∧ r.toks.map TokD.tk = ks) : (consD x r).err = 0 ∧ (consD x r).toks.map TokD.tk = x.tk :: ks := by
  unfold consD
  rw [if_pos h.1]
  exact ⟨rfl, by rw [List.map_cons, h.2]⟩
theorem Lx.one {c : UInt8} {k : Int} {r : List UInt8} {ks : List Tk} (hc : ∀ t, nextD c t = ⟨k, [c], 1, 0⟩) (hb : blankB c = false) (h35 : c ≠ 35) (h : Lx r ks) : Lx (c :: r) ((k, [c]) :: ks) := fun p => by
  rw [lex_tok r p hb h35 (by rw [hc]), hc]
  exact cons_ok (h (p + 1))
theorem Lx.name {n : List UInt8} {x : UInt8} {q : List UInt8} {ks : List Tk} (hn : nameB n = true) (hx : moreB x = false) (h : Lx (x :: q) ks) : Lx (n ++ x :: q) ((1, n) :: ks) := fun p => by
  unfold nameB at hn
  rw [Bool.and_eq_true, Bool.and_eq_true] at hn
  obtain ⟨⟨h1, h2⟩, h3⟩ := hn
  have h1' := of_decide_eq_true h1
  cases n with
  | nil => simp at h1'
  | cons c t =>
    simp only at h2
    obtain ⟨e1, e2, e3, e4, e5, e6⟩ := letter_num h2
    have hnx : nextD c (t ++ x :: q) = ⟨1, c :: t, (c :: t).length, 0⟩ := by
      unfold nextD
      rw [if_neg e1, if_neg e2, if_neg e3, if_pos h2, ← List.cons_append, takeWhile_stop (c :: t) x q hx, takeWhile_all h3, if_neg (by omega)]
    rw [List.cons_append, lex_tok _ p e5 e4 (by rw [hnx]), hnx, ← List.cons_append]
    simp only
    rw [List.drop_left]
    exact cons_ok (h _)
theorem Lx.term {t : List UInt8} {q : List UInt8} {ks : List Tk} (ht : termB t = true) (h : Lx q ks) : Lx (39 :: (t ++ 39 :: q)) ((2, t) :: ks) := fun p => by
  unfold termB at ht
  rw [Bool.and_eq_true] at ht
  have h1' := of_decide_eq_true ht.1
  have htw : (t ++ 39 :: q).takeWhile termC = t := by rw [takeWhile_stop t 39 q (by decide), takeWhile_all ht.2]
  have hnx : nextD 39 (t ++ 39 :: q) = ⟨2, t, t.length + 2, 0⟩ := by
    unfold nextD
    rw [if_neg (by decide), if_neg (by decide), if_neg (by decide), if_neg (by decide), if_pos rfl]
    unfold termD
    rw [htw, if_pos ⟨by simp, by intro e; rw [e] at h1'; simp at h1'⟩, if_neg (by omega)]
  rw [lex_tok _ p (by decide) (by decide) (by rw [hnx]), hnx]
  simp only
  have hd : (39 :: (t ++ 39 :: q)).drop (t.length + 2) = q := by
    rw [List.drop_succ_cons, List.drop_append, List.drop_eq_nil_of_le (by omega), show t.length + 1 - t.length = 1 from by omega]; rfl
  rw [hd]
  exact cons_ok (h _)
def itemOk (i : ItemD) : Prop := (if i.term then termB i.text else nameB i.text) = true
theorem lx_item {i : ItemD} (hi : itemOk i) {q : List UInt8} {ks : List Tk} (h : Lx (32 :: q) ks) : Lx (itemT i ++ 32 :: q) (itemK i :: ks) := by
  obtain ⟨b, x⟩ := i
  cases b with
  | true =>
    have : itemT ⟨true, x⟩ ++ 32 :: q = 32 :: 39 :: (x ++ 39 :: 32 :: q) := by simp [itemT]
    rw [this]
    exact (Lx.term hi h).blank (by decide)
  | false =>
    have : itemT ⟨false, x⟩ ++ 32 :: q = 32 :: (x ++ 32 :: q) := by simp [itemT]
    rw [this]
    exact (Lx.name hi (by decide) h).blank (by decide)
theorem lx_alt : ∀ (a : List ItemD), (∀ i ∈ a, itemOk i) → ∀ {q : List UInt8} {ks : List Tk}, Lx (32 :: q) ks → Lx (altT a ++ 32 :: q) (a.map itemK ++ ks) ∧ ∃ q', altT a ++ 32 :: q = 32 :: q'
  | [], _, q, ks, h => ⟨by simpa [altT] using h, q, rfl⟩
  | i :: r, hi, q, ks, h => by
    obtain ⟨h1, q', e⟩ := lx_alt r (fun x hx => hi x (by simp [hx])) h
    have h2 : altT (i :: r) ++ 32 :: q = itemT i ++ (altT r ++ 32 :: q) := by simp [altT]
    rw [h2]
    rw [e] at h1 ⊢
    refine ⟨lx_item (hi i (by simp)) h1, ?_⟩
    obtain ⟨b, x⟩ := i
    cases b <;> exact ⟨_, rfl⟩
theorem lx_bars : ∀ (r : List (List ItemD)), (∀ a ∈ r, ∀ i ∈ a, itemOk i) → ∀ {q : List UInt8} {ks : List Tk}, Lx (32 :: q) ks → Lx ((r.flatMap fun b => [32, 124] ++ altT b) ++ 32 :: q) ((r.flatMap fun b => (4, [124]) :: b.map itemK) ++ ks) ∧ ∃ q', (r.flatMap fun b => [32, 124] ++ altT b) ++ 32 :: q = 32 :: q'
  | [], _, q, ks, h => ⟨by simpa using h, q, rfl⟩
  | b :: r, hi, q, ks, h => by
    obtain ⟨h1, q', e⟩ := lx_bars r (fun a ha => hi a (by simp [ha])) h
    rw [e] at h1
    obtain ⟨h2, q2, e2⟩ := lx_alt b (hi b (by simp)) h1
    have h3 : (List.flatMap (fun b => [32, 124] ++ altT b) (b :: r)) ++ 32 :: q = 32 :: 124 :: (altT b ++ 32 :: q') := by
      rw [List.flatMap_cons, List.append_assoc, e]; simp
    rw [h3]
    refine ⟨?_, _, rfl⟩
    have := (Lx.one (c := 124) (k := 4) (fun t => rfl) (by decide) (by decide) h2).blank (c := 32) (by decide)
    simpa using this
def lineOk (l : LineD) : Prop := nameB l.name = true ∧ l.alts ≠ [] ∧ ∀ a ∈ l.alts, ∀ i ∈ a, itemOk i
theorem lx_line {l : LineD} (hl : lineOk l) {q : List UInt8} {ks : List Tk} (h : Lx q ks) : Lx (lineT l ++ q) (lineK l ++ ks) := by
  obtain ⟨n, al⟩ := l
  obtain ⟨h1, h2, h3⟩ := hl
  simp only at h1 h2 h3
  cases al with
  | nil => exact absurd rfl h2
  | cons a r =>
    have hend : Lx (32 :: 59 :: 10 :: q) ((5, [59]) :: ks) := (Lx.one (c := 59) (k := 5) (fun t => rfl) (by decide) (by decide) (h.blank (c := 10) (by decide))).blank (by decide)
    obtain ⟨g1, q1, e1⟩ := lx_bars r (fun b hb => h3 b (by simp [hb])) hend
    rw [e1] at g1
    obtain ⟨g2, q2, e2⟩ := lx_alt a (h3 a (by simp)) g1
    have hall : lineT ⟨n, a :: r⟩ ++ q = n ++ 32 :: 58 :: (altT a ++ 32 :: q1) := by
      rw [← e1]; simp [lineT, altsT]
    rw [hall]
    have := Lx.name h1 (x := 32) (by decide) ((Lx.one (c := 58) (k := 3) (fun t => rfl) (by decide) (by decide) g2).blank (c := 32) (by decide))
    simpa [lineK, altsK] using this
theorem lx_text : ∀ (l : List LineD), (∀ x ∈ l, lineOk x) → Lx (textD l) (l.flatMap lineK)
  | [], _ => Lx.nil
  | x :: l, h => by
    unfold textD
    rw [List.flatMap_cons, List.flatMap_cons]
    exact lx_line (h x (by simp)) (lx_text l (fun y hy => h y (by simp [hy])))
/-- Lines, al text, are read al the same. -/
theorem par_text {l : List LineD} (h : ∀ x ∈ l, lineOk x) (hne : l ≠ []) (hs : (textD l).length ≤ 65536) : parD (textD l) = ⟨l, 0, 0⟩ := by
  have ha : allD (textD l) = lexD (textD l) 0 := by unfold allD; rw [if_neg (by omega)]
  obtain ⟨h1, h2⟩ := lx_text l h 0
  have hb := lines_back l (fun x hx => (h x hx).2.1)
  unfold parD
  rw [ha, if_neg (by simp [h1]), h2, hb, if_neg (by simp), if_neg hne]
end Go.Proofs.Ytamoalnbcmnciaa

/-! What is read of any text is valid, and its text is not too long (layer 13): plain mathematics. -/
namespace Go.Proofs.Ytamoalnbcmnciaa

def wtL (r : List Tk) : Nat := (r.map wtK).sum
def barsT (l : List (List ItemD)) : List UInt8 := l.flatMap fun b => [32, 124] ++ altT b
theorem alts_bars {l : List (List ItemD)} (h : l ≠ []) : (altsT l).length + 2 = (barsT l).length := by
  cases l with
  | nil => exact absurd rfl h
  | cons a r => simp [altsT, barsT]
theorem bars_snoc (l : List (List ItemD)) (a : List ItemD) : (barsT (l ++ [a])).length = (barsT l).length + 2 + (altT a).length := by simp [barsT]; omega
theorem alt_snoc (a : List ItemD) (i : ItemD) : (altT (a ++ [i])).length = (altT a).length + (itemT i).length := by simp [altT]
theorem item_len (i : ItemD) : (itemT i).length ≤ i.text.length + 3 := by unfold itemT; split <;> simp <;> omega
theorem body_sound : ∀ (r : List Tk) (cur : List ItemD) (done : List (List ItemD)), (∀ t ∈ r, tkOk t) → (∀ i ∈ cur, itemOk i) → (∀ a ∈ done, ∀ i ∈ a, itemOk i) → (bodyD r cur done).ok = true →
    (bodyD r cur done).alts ≠ [] ∧ (∀ a ∈ (bodyD r cur done).alts, ∀ i ∈ a, itemOk i) ∧ (barsT (bodyD r cur done).alts).length + 4 + wtL (bodyD r cur done).left ≤ (barsT (done ++ [cur])).length + wtL r ∧ ∀ t ∈ (bodyD r cur done).left, tkOk t
  | [], cur, done, _, _, _, h => by simp [bodyD] at h
  | t :: r, cur, done, ht, hc, hd, h => by
    have htr : ∀ x ∈ r, tkOk x := fun x hx => ht x (by simp [hx])
    have hw : wtL (t :: r) = t.2.length + 4 + wtL r := by simp [wtL, wtK]
    unfold bodyD at h ⊢
    by_cases h1 : t.1 = 1 ∨ t.1 = 2
    · rw [if_pos h1] at h ⊢
      have hi : itemOk ⟨decide (t.1 = 2), t.2⟩ := by
        have := ht t (by simp)
        unfold tkOk at this
        unfold itemOk
        simp only
        rcases h1 with h1 | h1
        · rw [h1] at this ⊢; simpa using this
        · rw [h1] at this ⊢; simpa using this
      obtain ⟨g1, g2, g3, g4⟩ := body_sound r (cur ++ [⟨decide (t.1 = 2), t.2⟩]) done htr (fun i him => by
        rcases List.mem_append.1 him with q | q
        · exact hc i q
        · obtain rfl := List.mem_singleton.1 q; exact hi) hd h
      refine ⟨g1, g2, ?_, g4⟩
      have := item_len ⟨decide (t.1 = 2), t.2⟩
      rw [bars_snoc] at g3 ⊢
      rw [alt_snoc] at g3
      simp only at this
      omega
    · rw [if_neg h1] at h ⊢
      by_cases h4 : t.1 = 4
      · rw [if_pos h4] at h ⊢
        obtain ⟨g1, g2, g3, g4⟩ := body_sound r [] (done ++ [cur]) htr (by simp) (fun a ha => by
          rcases List.mem_append.1 ha with q | q
          · exact hd a q
          · obtain rfl := List.mem_singleton.1 q; exact hc) h
        refine ⟨g1, g2, ?_, g4⟩
        rw [bars_snoc (done ++ [cur])] at g3
        simp [altT] at g3
        omega
      · rw [if_neg h4] at h ⊢
        by_cases h5 : t.1 = 5
        · rw [if_pos h5]
          refine ⟨by simp, fun a ha => ?_, by simp only; omega, htr⟩
          rcases List.mem_append.1 ha with q | q
          · exact hd a q
          · obtain rfl := List.mem_singleton.1 q; exact hc
        · rw [if_neg h5] at h; cases h
theorem rule_sound {r : List Tk} (ht : ∀ t ∈ r, tkOk t) (h : (ruleD r).ok = true) : lineOk (ruleD r).line ∧ (lineT (ruleD r).line).length + wtL (ruleD r).left ≤ wtL r ∧ ∀ t ∈ (ruleD r).left, tkOk t := by
  cases r with
  | nil => simp [ruleD] at h
  | cons t r =>
    have e : ruleD (t :: r) = if t.1 ≠ 1 then ⟨false, ⟨[], []⟩, t :: r⟩ else nameD t.2 r := rfl
    rw [e] at h ⊢
    by_cases h1 : t.1 ≠ 1
    · rw [if_pos h1] at h; cases h
    · rw [if_neg h1] at h ⊢
      cases r with
      | nil => simp [nameD] at h
      | cons c q =>
        have e2 : nameD t.2 (c :: q) = if c.1 = 3 then ⟨(bodyD q [] []).ok, ⟨t.2, (bodyD q [] []).alts⟩, (bodyD q [] []).left⟩ else ⟨false, ⟨[], []⟩, c :: q⟩ := rfl
        rw [e2] at h ⊢
        by_cases h3 : c.1 = 3
        · rw [if_pos h3] at h ⊢
          simp only at h ⊢
          obtain ⟨g1, g2, g3, g4⟩ := body_sound q [] [] (fun x hx => ht x (by simp [hx])) (by simp) (by simp) h
          have hn : nameB t.2 = true := by
            have := ht t (by simp)
            unfold tkOk at this
            have h1' : t.1 = 1 := by simpa using h1
            rw [h1'] at this
            simpa using this
          refine ⟨⟨hn, g1, g2⟩, ?_, g4⟩
          have hab := alts_bars g1
          have hl : (lineT ⟨t.2, (bodyD q [] []).alts⟩).length = t.2.length + 5 + (altsT (bodyD q [] []).alts).length := by simp [lineT]; omega
          have hw : wtL (t :: c :: q) = t.2.length + 4 + (c.2.length + 4 + wtL q) := by simp [wtL, wtK]
          have hb : (barsT ([] ++ [([] : List ItemD)])).length = 2 := by simp [barsT, altT]
          rw [hb] at g3
          rw [hl, hw]
          omega
        · rw [if_neg h3] at h; cases h
theorem lines_sound (n : Nat) : ∀ (r : List Tk), r.length ≤ n → (∀ t ∈ r, tkOk t) → (linesD r).ok = true → (∀ x ∈ (linesD r).lines, lineOk x) ∧ (textD (linesD r).lines).length ≤ wtL r := by
  induction n with
  | zero =>
    intro r hr _ _
    have : r = [] := List.length_eq_zero_iff.1 (by omega)
    subst this
    rw [linesD]; simp [textD]
  | succ n ih =>
    intro r hr ht h
    cases r with
    | nil => rw [linesD]; simp [textD]
    | cons t q =>
      rw [linesD] at h ⊢
      by_cases hk : (ruleD (t :: q)).ok = true
      · rw [dif_pos hk] at h ⊢
        obtain ⟨g1, g2, g3⟩ := rule_sound ht hk
        have hl := (rule_left (t :: q)).2 hk
        by_cases hi : (linesD (ruleD (t :: q)).left).ok = true
        · rw [if_pos hi] at h ⊢
          obtain ⟨k1, k2⟩ := ih _ (by omega) g3 hi
          refine ⟨fun x hx => ?_, ?_⟩
          · rw [List.mem_cons] at hx
            rcases hx with rfl | hx
            · exact g1
            · exact k1 x hx
          · have : textD ((ruleD (t :: q)).line :: (linesD (ruleD (t :: q)).left).lines) = lineT (ruleD (t :: q)).line ++ textD (linesD (ruleD (t :: q)).left).lines := by simp [textD]
            rw [this, List.length_append]
            omega
        · rw [if_neg hi] at h; exact absurd h hi
      · rw [dif_neg hk] at h; cases h
/-- What a text gives, al text, gives the same. -/
theorem par_back {m : List UInt8} (hm : m.length ≤ 2000) (h : (parD m).err = 0) : (parD m).at_ = 0 ∧ (textD (parD m).lines).length ≤ 10000 ∧ parD (textD (parD m).lines) = ⟨(parD m).lines, 0, 0⟩ := by
  have ha : allD m = lexD m 0 := by unfold allD; rw [if_neg (by omega)]
  have hs := lex_sound (r := m) (p := 0)
  have hw : wtL ((lexD m 0).toks.map TokD.tk) ≤ 5 * m.length := by
    unfold wtL
    rw [List.map_map]
    exact hs.2
  unfold parD at h ⊢
  rw [ha] at h ⊢
  by_cases h1 : (lexD m 0).err ≠ 0
  · rw [if_pos h1] at h; exact absurd h h1
  · rw [if_neg h1] at h ⊢
    by_cases h2 : (linesD ((lexD m 0).toks.map TokD.tk)).ok = false
    · rw [if_pos h2] at h; simp at h
    · rw [if_neg h2] at h ⊢
      by_cases h3 : (linesD ((lexD m 0).toks.map TokD.tk)).lines = []
      · rw [if_pos h3] at h; simp at h
      · rw [if_neg h3]
        obtain ⟨g1, g2⟩ := lines_sound _ ((lexD m 0).toks.map TokD.tk) (Nat.le_refl _) (fun t ht => by
          obtain ⟨x, hx, rfl⟩ := List.mem_map.1 ht
          exact hs.1 x hx) (by simpa using h2)
        have hlen : (textD (linesD ((lexD m 0).toks.map TokD.tk)).lines).length ≤ 10000 := by omega
        refine ⟨rfl, hlen, ?_⟩
        have := par_text g1 h3 (by omega)
        unfold parD at this
        exact this
end Go.Proofs.Ytamoalnbcmnciaa

/-! The sizes of grammars and lines (layer 14). Nothing here names the program. -/
namespace Go.Proofs.Ytamoalnbcmnciaa

/-- No part is larger than any machine of today would have it. -/
structure SizeG (g : GramG) : Prop where
  names : g.names.length ≤ 100000
  terms : g.terms.length ≤ 100000
  rules : g.rules.length ≤ 100000
  right : ∀ r ∈ g.rules, r.right.length ≤ 100000
  name : ∀ n ∈ g.names, n.length ≤ 100000
  term : ∀ t ∈ g.terms, t.length ≤ 100000
/-- The symbols are what 64 bits hold (below). -/
def IntG (g : GramG) : Prop := ∀ r ∈ g.rules, ∀ s ∈ r.right, -9223372036854775808 ≤ s
structure SizeL (ls : List LineD) : Prop where
  lines : ls.length ≤ 100000
  alts : ∀ l ∈ ls, l.alts.length ≤ 100000
  name : ∀ l ∈ ls, l.name.length ≤ 100000
  items : ∀ l ∈ ls, ∀ a ∈ l.alts, a.length ≤ 100000
  text : ∀ l ∈ ls, ∀ a ∈ l.alts, ∀ i ∈ a, i.text.length ≤ 100000
end Go.Proofs.Ytamoalnbcmnciaa

/-! Few and sizes (layer 14; split out of GrmF). -/
namespace Go.Proofs.Ytamoalnbcmnciaa
open Go.RowKit


theorem few_size {g : GramG} (h : fewB g ≠ 0) : SizeG g := by
  rcases boolOf_cases (FewG g) with ⟨hf, -⟩ | ⟨-, he⟩
  · obtain ⟨h1, h2, h3, h4, h5, h6⟩ := hf
    exact ⟨by omega, by omega, by omega, fun r hr => by have := h4 r hr; omega, fun r hr => by have := h5 r hr; omega, fun r hr => by have := h6 r hr; omega⟩
  · exact absurd (show fewB g = 0 by unfold fewB; rw [he]; rfl) h
theorem few_two (g : GramG) : fewB g = 0 ∨ fewB g = 1 := by unfold fewB; split <;> simp
end Go.Proofs.Ytamoalnbcmnciaa

/-! Plain mathematics of reduced grammars (layer 15): what is productive, what is reached, and that rounds find it. Nothing here names the program. -/
namespace Go.Proofs.Ytamoalnbcmnciaa

/-- A nonterminal that derives a string of terminals. -/
inductive ProdN (g : GramG) : Nat → Prop
  | mk (r : RuleG) (i : Nat) : r ∈ g.rules → r.left = (i : Int) → (∀ s ∈ r.right, 0 ≤ s → ProdN g s.toNat) → ProdN g i
/-- A nonterminal that stands in something that the first one derives. -/
inductive ReachN (g : GramG) : Nat → Prop
  | zero : ReachN g 0
  | step (r : RuleG) (i : Nat) (s : Int) : r ∈ g.rules → r.left = (i : Int) → ReachN g i → s ∈ r.right → 0 ≤ s → ReachN g s.toNat
/-- A terminal that stands in a rule of a nonterminal that is reached. -/
def UsedG (g : GramG) (t : Nat) : Prop := ∃ r ∈ g.rules, (∃ i : Nat, r.left = (i : Int) ∧ ReachN g i) ∧ (-1 - (t : Int)) ∈ r.right
noncomputable def prodL (g : GramG) : List Bool := (List.range g.names.length).map fun i => boolOf (ProdN g i)
noncomputable def reachL (g : GramG) : List Bool := (List.range g.names.length).map fun i => boolOf (ReachN g i)
/-- What is wrong with a grammar. -/
noncomputable def checkG (g : GramG) : Int :=
  if validB g = false then 1
  else if boolOf (∀ i, i < g.names.length → ProdN g i) = false then 18
  else if boolOf ((∀ i, i < g.names.length → ReachN g i) ∧ ∀ t, t < g.terms.length → UsedG g t) = false then 17
  else 0
theorem prodL_len (g : GramG) : (prodL g).length = g.names.length := by simp [prodL]
theorem reachL_len (g : GramG) : (reachL g).length = g.names.length := by simp [reachL]

/-! Rounds over a list of marks. -/
def marked (o : List Bool) (i : Nat) : Prop := o[i]? = some true
def belowM (a b : List Bool) : Prop := a.length = b.length ∧ ∀ i, marked a i → marked b i
theorem belowM.refl (a : List Bool) : belowM a a := ⟨rfl, fun _ h => h⟩
theorem belowM.trans {a b c : List Bool} (h : belowM a b) (k : belowM b c) : belowM a c := ⟨h.1.trans k.1, fun i hi => k.2 i (h.2 i hi)⟩
theorem marks_ext {a b : List Bool} (hl : a.length = b.length) (h : ∀ i, marked a i ↔ marked b i) : a = b := by
  apply List.ext_getElem hl
  intro i h1 h2
  have := h i
  unfold marked at this
  rw [List.getElem?_eq_getElem h1, List.getElem?_eq_getElem h2, Option.some.injEq, Option.some.injEq] at this
  cases ha : a[i] <;> cases hb : b[i] <;> simp_all
theorem belowM.antisymm {a b : List Bool} (h : belowM a b) (k : belowM b a) : a = b := marks_ext h.1 fun i => ⟨h.2 i, k.2 i⟩
/-- How many marks. -/
def marks (o : List Bool) : Nat := (o.filter id).length
theorem marks_le (o : List Bool) : marks o ≤ o.length := List.length_filter_le _ _
theorem below_marks : ∀ {a b : List Bool}, belowM a b → marks a ≤ marks b ∧ (marks a = marks b → a = b)
  | [], [], _ => ⟨Nat.le_refl _, fun _ => rfl⟩
  | [], _ :: _, h => by have := h.1; simp at this
  | _ :: _, [], h => by have := h.1; simp at this
  | x :: a, y :: b, h => by
    have ht : belowM a b := ⟨by have := h.1; simpa using this, fun i hi => by have := h.2 (i + 1) (by simpa [marked] using hi); simpa [marked] using this⟩
    obtain ⟨h1, h2⟩ := below_marks ht
    have hx : x = true → y = true := fun e => by have := h.2 0 (by simp [marked, e]); simpa [marked] using this
    unfold marks at h1 h2 ⊢
    cases x <;> cases y <;> simp at hx ⊢
    · exact ⟨h1, fun e => h2 e⟩
    · omega
    · exact ⟨h1, fun e => h2 e⟩
def iterL (F : List Bool → List Bool) : Nat → List Bool → List Bool
  | 0, o => o
  | n + 1, o => F (iterL F n o)
theorem iter_len {F : List Bool → List Bool} (hF : ∀ o, belowM o (F o)) (o : List Bool) : ∀ n, (iterL F n o).length = o.length
  | 0 => rfl
  | n + 1 => by rw [iterL, ← (hF _).1, iter_len hF o n]
/-- As many rounds as there can be marks, and one more, change nothing any more. -/
theorem iter_stable {F : List Bool → List Bool} (hF : ∀ o, belowM o (F o)) (o : List Bool) (n : Nat) (hn : o.length ≤ n) : F (iterL F n o) = iterL F n o := by
  have key : ∀ n, F (iterL F n o) = iterL F n o ∨ n < marks (iterL F (n + 1) o) := by
    intro n
    induction n with
    | zero =>
      by_cases e : F o = o
      · exact .inl e
      · right
        obtain ⟨h1, h2⟩ := below_marks (hF o)
        have : marks o ≠ marks (F o) := fun q => e (h2 q).symm
        show 0 < marks (F o)
        omega
    | succ n ih =>
      by_cases e : F (iterL F (n + 1) o) = iterL F (n + 1) o
      · exact .inl e
      · right
        rcases ih with ih | ih
        · exact (e (by show F (F (iterL F n o)) = F (iterL F n o); rw [ih, ih])).elim
        · obtain ⟨h1, h2⟩ := below_marks (hF (iterL F (n + 1) o))
          have : marks (iterL F (n + 1) o) ≠ marks (F (iterL F (n + 1) o)) := fun q => e (h2 q).symm
          show n + 1 < marks (F (iterL F (n + 1) o))
          omega
  rcases key n with h | h
  · exact h
  · have h1 := marks_le (iterL F (n + 1) o)
    rw [iter_len hF] at h1
    omega
/-- Steps that only set marks: where all of them together change nothing, none does. -/
theorem fold_below {α : Type} {f : List Bool → α → List Bool} (hf : ∀ o x, belowM o (f o x)) : ∀ (l : List α) (o : List Bool), belowM o (l.foldl f o)
  | [], o => belowM.refl o
  | x :: l, o => (hf o x).trans (fold_below hf l (f o x))
theorem fold_stable {α : Type} {f : List Bool → α → List Bool} (hf : ∀ o x, belowM o (f o x)) : ∀ (l : List α) (o : List Bool), l.foldl f o = o → ∀ x ∈ l, f o x = o
  | [], _, _, x, hx => by simp at hx
  | y :: l, o, h, x, hx => by
    have h1 : f o y = o := (hf o y).antisymm (by have := fold_below hf l (f o y); rw [List.foldl_cons] at h; rw [h] at this; exact this) |>.symm
    rw [List.foldl_cons, h1] at h
    rcases List.mem_cons.1 hx with rfl | hx
    · exact h1
    · exact fold_stable hf l o h x hx
theorem set_below (o : List Bool) (k : Nat) : belowM o (o.set k true) := ⟨by simp, fun i hi => by
  unfold marked at hi ⊢
  rw [List.getElem?_set]
  split
  · next e =>
    subst e
    split
    · rfl
    · next q => rw [List.getElem?_eq_none (by omega)] at hi; cases hi
  · exact hi⟩
theorem set_marked {o : List Bool} {k : Nat} (hk : k < o.length) : marked (o.set k true) k := by
  unfold marked; rw [List.getElem?_set_self hk]
theorem set_other {o : List Bool} {k i : Nat} (h : marked (o.set k true) i) : i = k ∨ marked o i := by
  unfold marked at h ⊢
  rw [List.getElem?_set] at h
  split at h
  · next e => exact .inl e.symm
  · exact .inr h
theorem false_marked (n i : Nat) : ¬ marked (List.replicate n false) i := by
  unfold marked
  rw [List.getElem?_replicate]
  split <;> simp

/-! What is productive. -/
/-- All nonterminals of a right side are marked. -/
def allM (o : List Bool) (right : List Int) : Prop := ∀ s ∈ right, 0 ≤ s → marked o s.toNat
noncomputable def prodS (o : List Bool) (r : RuleG) : List Bool := @ite _ (allM o r.right) (Classical.propDecidable _) (o.set r.left.toNat true) o
theorem prodS_below (o : List Bool) (r : RuleG) : belowM o (prodS o r) := by
  unfold prodS; split
  · exact set_below o _
  · exact belowM.refl o
noncomputable def prodR (g : GramG) (o : List Bool) : List Bool := g.rules.foldl prodS o
theorem prodR_below (g : GramG) (o : List Bool) : belowM o (prodR g o) := fold_below prodS_below _ _
theorem prodS_sound {g : GramG} (hv : ValidG g) {o : List Bool} {r : RuleG} (hr : r ∈ g.rules) (h : ∀ i, marked o i → ProdN g i) : ∀ i, marked (prodS o r) i → ProdN g i := by
  intro i hi
  unfold prodS at hi
  split at hi
  · next q =>
    rcases set_other hi with e | hi
    · have := (hv.rules r hr).1
      exact .mk r i hr (by omega) (fun s hs h0 => h _ (q s hs h0))
    · exact h i hi
  · exact h i hi
theorem prodR_sound {g : GramG} (hv : ValidG g) {o : List Bool} (h : ∀ i, marked o i → ProdN g i) : ∀ i, marked (prodR g o) i → ProdN g i := by
  have key : ∀ (l : List RuleG) (o : List Bool), (∀ r ∈ l, r ∈ g.rules) → (∀ i, marked o i → ProdN g i) → ∀ i, marked (l.foldl prodS o) i → ProdN g i := by
    intro l
    induction l with
    | nil => intro o _ h; exact h
    | cons x l ih => intro o hl h; exact ih _ (fun r hr => hl r (by simp [hr])) (prodS_sound hv (hl x (by simp)) h)
  exact key g.rules o (fun _ h => h) h
/-- Marks that a round leaves as they are hold all that is productive. -/
theorem prod_closed {g : GramG} (hv : ValidG g) {o : List Bool} (hl : o.length = g.names.length) (h : prodR g o = o) : ∀ i, ProdN g i → marked o i := by
  intro i hi
  induction hi with
  | mk r i hr he _ ih =>
    have h1 := fold_stable prodS_below g.rules o h r hr
    unfold prodS at h1
    rw [if_pos (show allM o r.right from ih)] at h1
    have h2 := (hv.rules r hr).2.1
    rw [← h1, show r.left.toNat = i by omega]
    exact set_marked (by omega)
theorem prod_stable {g : GramG} (hv : ValidG g) {o : List Bool} (hl : o.length = g.names.length) (hs : ∀ i, marked o i → ProdN g i) (h : prodR g o = o) : o = prodL g := by
  refine marks_ext (by rw [hl, prodL_len]) (fun i => ?_)
  by_cases hi : i < g.names.length
  · have : marked (prodL g) i ↔ ProdN g i := by
      unfold marked prodL
      rw [List.getElem?_map, List.getElem?_range hi]
      simp only [Option.map_some, Option.some.injEq]
      exact ⟨of_boolOf, boolOf_true⟩
    rw [this]
    exact ⟨hs i, prod_closed hv hl h i⟩
  · unfold marked
    rw [List.getElem?_eq_none (by omega), List.getElem?_eq_none (by rw [prodL_len]; omega)]
theorem iter_sound {g : GramG} (hv : ValidG g) : ∀ n, ∀ i, marked (iterL (prodR g) n (List.replicate g.names.length false)) i → ProdN g i
  | 0 => fun i hi => (false_marked _ _ hi).elim
  | n + 1 => prodR_sound hv (iter_sound hv n)
theorem prod_rounds {g : GramG} (hv : ValidG g) (n : Nat) (hn : g.names.length ≤ n) : iterL (prodR g) n (List.replicate g.names.length false) = prodL g := by
  have hl : (iterL (prodR g) n (List.replicate g.names.length false)).length = g.names.length := by rw [iter_len (prodR_below g), List.length_replicate]
  exact prod_stable hv hl (iter_sound hv n) (iter_stable (prodR_below g) _ n (by rw [List.length_replicate]; exact hn))

/-! What is reached. -/
/-- The symbols of rules, each with the left side. -/
def pairsG (g : GramG) : List (Int × Int) := g.rules.flatMap fun r => r.right.map fun s => (r.left, s)
noncomputable def reachS (o : List Bool) (p : Int × Int) : List Bool := @ite _ (0 ≤ p.2 ∧ marked o p.1.toNat) (Classical.propDecidable _) (o.set p.2.toNat true) o
theorem reachS_below (o : List Bool) (p : Int × Int) : belowM o (reachS o p) := by
  unfold reachS; split
  · exact set_below o _
  · exact belowM.refl o
noncomputable def reachR (g : GramG) (o : List Bool) : List Bool := (pairsG g).foldl reachS o
theorem reachR_below (g : GramG) (o : List Bool) : belowM o (reachR g o) := fold_below reachS_below _ _
theorem pairs_mem {g : GramG} {p : Int × Int} : p ∈ pairsG g ↔ ∃ r ∈ g.rules, p.1 = r.left ∧ p.2 ∈ r.right := by
  unfold pairsG
  simp only [List.mem_flatMap, List.mem_map]
  constructor
  · rintro ⟨r, hr, s, hs, rfl⟩; exact ⟨r, hr, rfl, hs⟩
  · rintro ⟨r, hr, h1, h2⟩; exact ⟨r, hr, p.2, h2, by rw [← h1]⟩
theorem reachR_sound {g : GramG} (hv : ValidG g) {o : List Bool} (h : ∀ i, marked o i → ReachN g i) : ∀ i, marked (reachR g o) i → ReachN g i := by
  have key : ∀ (l : List (Int × Int)) (o : List Bool), (∀ p ∈ l, p ∈ pairsG g) → (∀ i, marked o i → ReachN g i) → ∀ i, marked (l.foldl reachS o) i → ReachN g i := by
    intro l
    induction l with
    | nil => intro o _ h; exact h
    | cons x l ih =>
      intro o hl h
      refine ih _ (fun r hr => hl r (by simp [hr])) (fun i hi => ?_)
      unfold reachS at hi
      split at hi
      · next q =>
        rcases set_other hi with e | hi
        · obtain ⟨r, hr, h1, h2⟩ := pairs_mem.1 (hl x (by simp))
          have := (hv.rules r hr).1
          rw [e]
          exact .step r x.1.toNat x.2 hr (by omega) (h _ q.2) h2 q.1
        · exact h i hi
      · exact h i hi
  exact key (pairsG g) o (fun _ h => h) h
theorem reach_closed {g : GramG} (hv : ValidG g) {o : List Bool} (hl : o.length = g.names.length) (h0 : marked o 0) (h : reachR g o = o) : ∀ i, ReachN g i → marked o i := by
  intro i hi
  induction hi with
  | zero => exact h0
  | step r i s hr he _ hs hp ih =>
    have h1 := fold_stable reachS_below (pairsG g) o h (r.left, s) (pairs_mem.2 ⟨r, hr, rfl, hs⟩)
    unfold reachS at h1
    rw [if_pos ⟨hp, by simp only; rw [he]; exact ih⟩] at h1
    have h2 := ((hv.rules r hr).2.2.2 s hs).2
    rw [← h1]
    exact set_marked (by omega)
theorem reach_stable {g : GramG} (hv : ValidG g) {o : List Bool} (hl : o.length = g.names.length) (h0 : marked o 0) (hs : ∀ i, marked o i → ReachN g i) (h : reachR g o = o) : o = reachL g := by
  refine marks_ext (by rw [hl, reachL_len]) (fun i => ?_)
  by_cases hi : i < g.names.length
  · have : marked (reachL g) i ↔ ReachN g i := by
      unfold marked reachL
      rw [List.getElem?_map, List.getElem?_range hi]
      simp only [Option.map_some, Option.some.injEq]
      exact ⟨of_boolOf, boolOf_true⟩
    rw [this]
    exact ⟨hs i, reach_closed hv hl h0 h i⟩
  · unfold marked
    rw [List.getElem?_eq_none (by omega), List.getElem?_eq_none (by rw [reachL_len]; omega)]
def firstM (n : Nat) : List Bool := (List.replicate n false).set 0 true
theorem first_len (n : Nat) : (firstM n).length = n := by simp [firstM]
theorem first_marked {n : Nat} (h : 1 ≤ n) : marked (firstM n) 0 := set_marked (by simp; omega)
theorem first_sound (g : GramG) {n i : Nat} (h : marked (firstM n) i) : ReachN g i := by
  rcases set_other h with rfl | h
  · exact .zero
  · exact (false_marked _ _ h).elim
theorem iterR_sound {g : GramG} (hv : ValidG g) : ∀ n, ∀ i, marked (iterL (reachR g) n (firstM g.names.length)) i → ReachN g i
  | 0 => fun i hi => first_sound g hi
  | n + 1 => reachR_sound hv (iterR_sound hv n)
theorem iter_below {F : List Bool → List Bool} (hF : ∀ o, belowM o (F o)) (o : List Bool) : ∀ n, belowM o (iterL F n o)
  | 0 => belowM.refl o
  | n + 1 => (iter_below hF o n).trans (hF _)
theorem reach_rounds {g : GramG} (hv : ValidG g) (n : Nat) (hn : g.names.length ≤ n) : iterL (reachR g) n (firstM g.names.length) = reachL g := by
  have hl : (iterL (reachR g) n (firstM g.names.length)).length = g.names.length := by rw [iter_len (reachR_below g), first_len]
  exact reach_stable hv hl ((iter_below (reachR_below g) _ n).2 0 (first_marked hv.one)) (iterR_sound hv n) (iter_stable (reachR_below g) _ n (by rw [first_len]; exact hn))
end Go.Proofs.Ytamoalnbcmnciaa

/-! Plain mathematics of the lengths of what is derived (layer 15). Nothing here names the program. -/
namespace Go.Proofs.Ytamoalnbcmnciaa

/-- A string of symbols derives a string of n terminals. -/
inductive LenN (g : GramG) : List Int → Nat → Prop
  | nil : LenN g [] 0
  | term (s : Int) (r : List Int) (n : Nat) : s < 0 → LenN g r n → LenN g (s :: r) (n + 1)
  | non (ρ : RuleG) (i : Nat) (r : List Int) (a n : Nat) : ρ ∈ g.rules → ρ.left = (i : Int) → LenN g ρ.right a → LenN g r n → LenN g ((i : Int) :: r) (a + n)
theorem len_append {g : GramG} {a b : List Int} {m n : Nat} (h : LenN g a m) (k : LenN g b n) : LenN g (a ++ b) (m + n) := by
  induction h with
  | nil => simpa using k
  | term s r m hs _ ih => rw [show m + 1 + n = (m + n) + 1 by omega]; exact .term s _ _ hs ih
  | non ρ i r a m hm he h1 _ _ ih2 => rw [Nat.add_assoc]; exact .non ρ i _ a _ hm he h1 ih2
theorem len_one {g : GramG} {i n : Nat} : LenN g [(i : Int)] n ↔ ∃ ρ ∈ g.rules, ρ.left = (i : Int) ∧ LenN g ρ.right n := by
  constructor
  · intro h
    generalize hx : ([(i : Int)] : List Int) = x at h
    cases h with
    | nil => cases hx
    | term s r m hs _ => injection hx with e _; omega
    | non ρ j r a m hm he h1 h2 =>
      injection hx with e1 e2
      subst e2
      cases h2
      exact ⟨ρ, hm, by omega, h1⟩
  · rintro ⟨ρ, hm, he, h⟩
    have := LenN.non ρ i [] n 0 hm he h .nil
    simpa using this
theorem len_prod {g : GramG} (hv : ValidG g) : ∀ {x : List Int} {n : Nat}, LenN g x n → ∀ s ∈ x, 0 ≤ s → ProdN g s.toNat := by
  intro x n h
  induction h with
  | nil => intro s hs; simp at hs
  | term s r n hs _ ih =>
    intro u hu h0
    rcases List.mem_cons.1 hu with rfl | hu
    · omega
    · exact ih u hu h0
  | non ρ i r a n hm he _ _ ih1 ih2 =>
    intro u hu h0
    rcases List.mem_cons.1 hu with rfl | hu
    · exact .mk ρ _ hm (by rw [he]; simp) ih1
    · exact ih2 u hu h0
theorem prod_len {g : GramG} : ∀ {i : Nat}, ProdN g i → ∃ n, LenN g [(i : Int)] n := by
  intro i h
  induction h with
  | mk r i hr he _ ih =>
    have key : ∀ x : List Int, (∀ s ∈ x, s ∈ r.right) → ∃ n, LenN g x n := by
      intro x
      induction x with
      | nil => intro _; exact ⟨0, .nil⟩
      | cons s x ihx =>
        intro hx
        obtain ⟨n, hn⟩ := ihx (fun u hu => hx u (by simp [hu]))
        by_cases h0 : 0 ≤ s
        · obtain ⟨m, hm⟩ := ih s (hx s (by simp)) h0
          have e : ((s.toNat : Nat) : Int) = s := by omega
          rw [e] at hm
          exact ⟨m + n, len_append (a := [s]) hm hn⟩
        · exact ⟨n + 1, .term s x n (by omega) hn⟩
    obtain ⟨n, hn⟩ := key r.right (fun s hs => hs)
    exact ⟨n, len_one.2 ⟨r, hr, he, hn⟩⟩
theorem prod_iff_len {g : GramG} (hv : ValidG g) {i : Nat} : ProdN g i ↔ ∃ n, LenN g [(i : Int)] n :=
  ⟨prod_len, fun ⟨_, h⟩ => by have := len_prod hv h (i : Int) (by simp) (by omega); simpa using this⟩
/-- The least length, if there is one. -/
def LeastN (g : GramG) (i m : Nat) : Prop := LenN g [(i : Int)] m ∧ ∀ n, LenN g [(i : Int)] n → m ≤ n
theorem least_of {p : Nat → Prop} : ∀ n, p n → ∃ m, p m ∧ ∀ k, p k → m ≤ k := by
  intro n
  induction n using Nat.strongRecOn with
  | ind n ih =>
    intro h
    by_cases q : ∃ k, k < n ∧ p k
    · obtain ⟨k, hk, hp⟩ := q; exact ih k hk hp
    · exact ⟨n, h, fun k hp => Nat.le_of_not_lt fun hk => q ⟨k, hk, hp⟩⟩
/-- What Shortest tells of a nonterminal. -/
def ShortIs (g : GramG) (i : Nat) (v : Int) : Prop := (v = -1 ∧ ¬ ProdN g i) ∨ ∃ m, LeastN g i m ∧ v = ((min m 1000000 : Nat) : Int)
theorem short_exists {g : GramG} (hv : ValidG g) (i : Nat) : ∃ v, ShortIs g i v := by
  by_cases h : ProdN g i
  · obtain ⟨n, hn⟩ := prod_len h
    obtain ⟨m, h1, h2⟩ := least_of n hn
    exact ⟨_, .inr ⟨m, ⟨h1, h2⟩, rfl⟩⟩
  · exact ⟨-1, .inl ⟨rfl, h⟩⟩
theorem short_unique {g : GramG} (hv : ValidG g) {i : Nat} {v w : Int} (h : ShortIs g i v) (k : ShortIs g i w) : v = w := by
  rcases h with ⟨rfl, h⟩ | ⟨m, h, rfl⟩ <;> rcases k with ⟨rfl, k⟩ | ⟨n, k, rfl⟩
  · rfl
  · exact (h ((prod_iff_len hv).2 ⟨n, k.1⟩)).elim
  · exact (k ((prod_iff_len hv).2 ⟨m, h.1⟩)).elim
  · have := h.2 n k.1
    have := k.2 m h.1
    rw [show m = n by omega]
theorem short_sign {g : GramG} (hv : ValidG g) {i : Nat} {v : Int} (h : ShortIs g i v) : (0 ≤ v ↔ ProdN g i) := by
  rcases h with ⟨rfl, h⟩ | ⟨m, h, rfl⟩
  · exact ⟨fun q => by omega, fun q => (h q).elim⟩
  · exact ⟨fun _ => (prod_iff_len hv).2 ⟨m, h.1⟩, fun _ => by omega⟩
/-- What the statement asks of lengths of up to six. -/
theorem short_small {g : GramG} (hv : ValidG g) {i n : Nat} (hn : n ≤ 6) {v : Int} (h : ShortIs g i v) : ((n : Int) = v → LenN g [(i : Int)] n) ∧ (LenN g [(i : Int)] n → 0 ≤ v ∧ v ≤ (n : Int)) := by
  rcases h with ⟨rfl, h⟩ | ⟨m, h, rfl⟩
  · exact ⟨fun q => by omega, fun q => (h ((prod_iff_len hv).2 ⟨n, q⟩)).elim⟩
  · constructor
    · intro q
      rw [show n = m by omega]
      exact h.1
    · intro q
      have := h.2 n q
      omega

/-! The lengths of up to six, found round by round: mark i * 7 + n. -/
/-- So many terminals can come out of a right side, where the marks tell of each nonterminal. -/
def fillP (o : List Bool) : List Int → Nat → Prop
  | [], n => n = 0
  | s :: r, n => (s < 0 ∧ ∃ m, n = m + 1 ∧ fillP o r m) ∨ (0 ≤ s ∧ ∃ k m, n = k + m ∧ k ≤ 6 ∧ marked o (s.toNat * 7 + k) ∧ fillP o r m)
theorem fillP_mono {a b : List Bool} (h : belowM a b) : ∀ (x : List Int) (n : Nat), fillP a x n → fillP b x n
  | [], n, q => q
  | s :: r, n, q => by
    rcases q with ⟨h0, m, e, q⟩ | ⟨h0, k, m, e, hk, hm, q⟩
    · exact .inl ⟨h0, m, e, fillP_mono h r m q⟩
    · exact .inr ⟨h0, k, m, e, hk, h.2 _ hm, fillP_mono h r m q⟩
noncomputable def lenS1 (o0 : List Bool) (r : RuleG) (o : List Bool) (n : Nat) : List Bool := @ite _ (fillP o0 r.right n) (Classical.propDecidable _) (o.set (r.left.toNat * 7 + n) true) o
theorem lenS1_below (o0 : List Bool) (r : RuleG) (o : List Bool) (n : Nat) : belowM o (lenS1 o0 r o n) := by
  unfold lenS1; split
  · exact set_below o _
  · exact belowM.refl o
noncomputable def lenS (o : List Bool) (r : RuleG) : List Bool := (List.range 7).foldl (lenS1 o r) o
theorem lenS_below (o : List Bool) (r : RuleG) : belowM o (lenS o r) := fold_below (lenS1_below o r) _ _
noncomputable def lenR (g : GramG) (o : List Bool) : List Bool := g.rules.foldl lenS o
theorem lenR_below (g : GramG) (o : List Bool) : belowM o (lenR g o) := fold_below lenS_below _ _
/-- The marks are true. -/
def TrueM (g : GramG) (o : List Bool) : Prop := ∀ i n, n ≤ 6 → marked o (i * 7 + n) → LenN g [(i : Int)] n
theorem fillP_sound {g : GramG} {o : List Bool} (h : TrueM g o) : ∀ (x : List Int) (n : Nat), fillP o x n → LenN g x n
  | [], n, q => by obtain rfl : n = 0 := q; exact .nil
  | s :: r, n, q => by
    rcases q with ⟨h0, m, rfl, q⟩ | ⟨h0, k, m, rfl, hk, hm, q⟩
    · exact .term s r m h0 (fillP_sound h r m q)
    · have h1 := h _ k hk hm
      rw [show ((s.toNat : Nat) : Int) = s by omega] at h1
      exact len_append (a := [s]) h1 (fillP_sound h r m q)
theorem lenS_sound {g : GramG} (hv : ValidG g) {o : List Bool} {r : RuleG} (hr : r ∈ g.rules) (h : TrueM g o) : TrueM g (lenS o r) := by
  have key : ∀ (l : List Nat) (o' : List Bool), (∀ n ∈ l, n < 7) → TrueM g o' → TrueM g (l.foldl (lenS1 o r) o') := by
    intro l
    induction l with
    | nil => intro o' _ h'; exact h'
    | cons x l ih =>
      intro o' hl h'
      refine ih _ (fun n hn => hl n (by simp [hn])) (fun i n hn hm => ?_)
      unfold lenS1 at hm
      split at hm
      · next q =>
        rcases set_other hm with e | hm
        · have hx := hl x (by simp)
          have h1 : i = r.left.toNat := by omega
          have h2 : n = x := by omega
          subst h1 h2
          have := (hv.rules r hr).1
          exact len_one.2 ⟨r, hr, by omega, fillP_sound h _ _ q⟩
        · exact h' i n hn hm
      · exact h' i n hn hm
  exact key (List.range 7) o (fun n hn => List.mem_range.1 hn) h
theorem lenR_sound {g : GramG} (hv : ValidG g) {o : List Bool} (h : TrueM g o) : TrueM g (lenR g o) := by
  have key : ∀ (l : List RuleG) (o : List Bool), (∀ r ∈ l, r ∈ g.rules) → TrueM g o → TrueM g (l.foldl lenS o) := by
    intro l
    induction l with
    | nil => intro o _ h; exact h
    | cons x l ih => intro o hl h; exact ih _ (fun r hr => hl r (by simp [hr])) (lenS_sound hv (hl x (by simp)) h)
  exact key g.rules o (fun _ h => h) h
theorem lens_iter_sound {g : GramG} (hv : ValidG g) (N : Nat) : ∀ n, TrueM g (iterL (lenR g) n (List.replicate N false))
  | 0 => fun i n _ hm => (false_marked _ _ hm).elim
  | n + 1 => lenR_sound hv (lens_iter_sound hv N n)
/-- Marks that a round leaves as they are hold every length of up to six. -/
theorem len_closed {g : GramG} (hv : ValidG g) {o : List Bool} (hl : o.length = g.names.length * 7) (h : lenR g o = o) : ∀ {x : List Int} {n : Nat}, LenN g x n → n ≤ 6 → fillP o x n := by
  intro x n q
  induction q with
  | nil => intro _; rfl
  | term s r n hs _ ih => intro hn; exact .inl ⟨hs, n, rfl, ih (by omega)⟩
  | non ρ i r a n hm he _ _ ih1 ih2 =>
    intro hn
    refine .inr ⟨by omega, a, n, rfl, by omega, ?_, ih2 (by omega)⟩
    have h1 := fold_stable lenS_below g.rules o h ρ hm
    have h2 := fold_stable (lenS1_below o ρ) (List.range 7) o h1 a (List.mem_range.2 (by omega))
    unfold lenS1 at h2
    rw [if_pos (ih1 (by omega))] at h2
    have h3 := (hv.rules ρ hm).2.1
    rw [← h2, show ((i : Int)).toNat = i by simp, show ρ.left.toNat = i by omega]
    exact set_marked (by omega)
theorem len_rounds {g : GramG} (hv : ValidG g) (k : Nat) (hk : g.names.length * 7 ≤ k) {i n : Nat} (hi : i < g.names.length) (hn : n ≤ 6) : marked (iterL (lenR g) k (List.replicate (g.names.length * 7) false)) (i * 7 + n) ↔ LenN g [(i : Int)] n := by
  refine ⟨lens_iter_sound hv _ k i n hn, fun h => ?_⟩
  have hl : (iterL (lenR g) k (List.replicate (g.names.length * 7) false)).length = g.names.length * 7 := by rw [iter_len (lenR_below g), List.length_replicate]
  have hs := iter_stable (lenR_below g) (List.replicate (g.names.length * 7) false) k (by rw [List.length_replicate]; exact hk)
  rcases len_closed hv hl hs h hn with ⟨h0, _⟩ | ⟨_, a, m, e, _, hm, hf⟩
  · omega
  · obtain rfl : m = 0 := hf
    rw [e]
    simpa using hm
end Go.Proofs.Ytamoalnbcmnciaa

/-! Plain mathematics of propagate (layer 15): rounds over the rules until one finds nothing new. Nothing here names the program. -/
namespace Go.Proofs.Ytamoalnbcmnciaa

def roundF {σ : Type} (F : σ → RuleG → σ × Bool) : List RuleG → σ × Bool → σ × Bool
  | [], x => x
  | r :: l, x => roundF F l ((F x.1 r).1, x.2 || (F x.1 r).2)
def propF {σ : Type} (F : σ → RuleG → σ × Bool) (rules : List RuleG) : Nat → σ → σ
  | 0, s => s
  | n + 1, s => if (roundF F rules (s, false)).2 = true then propF F rules n (roundF F rules (s, false)).1 else (roundF F rules (s, false)).1
theorem round_drop {σ : Type} (F : σ → RuleG → σ × Bool) {rules : List RuleG} {k : Nat} (h : k < rules.length) (st : σ) (m : Bool) :
    roundF F (rules.drop k) (st, m) = roundF F (rules.drop (k + 1)) ((F st (rules[k]'h)).1, m || (F st (rules[k]'h)).2) := by
  rw [List.drop_eq_getElem_cons h, roundF]
theorem round_end {σ : Type} (F : σ → RuleG → σ × Bool) {rules : List RuleG} {k : Nat} (h : rules.length ≤ k) (x : σ × Bool) : roundF F (rules.drop k) x = x := by
  rw [List.drop_eq_nil_of_le h, roundF]
end Go.Proofs.Ytamoalnbcmnciaa

/-! Plain mathematics of the steps of the program's well (layer 15): the lengths. Nothing here names the program. -/
namespace Go.Proofs.Ytamoalnbcmnciaa

/-- The length of what a symbol derives, by what is known of the nonterminals. -/
def symLen (s : List Int) (x : Int) : Int := if x < 0 then 1 else (s[x.toNat]?).getD (-1)
def lenGo (s : List Int) : List Int → Int → Int
  | [], a => if a ≤ 1000000 then a else 1000000
  | x :: r, a => if symLen s x = -1 then -1 else lenGo s r (a + symLen s x)
def lenOf (s right : List Int) : Int := lenGo s right 0
/-- The lengths that are known are lengths. -/
def LenOk (s : List Int) : Prop := ∀ v ∈ s, -1 ≤ v ∧ v ≤ 1000000
theorem symLen_neg {s : List Int} {x : Int} (h : x < 0) : symLen s x = 1 := if_pos h
theorem symLen_nat {s : List Int} {m : Nat} (h : m < s.length) : symLen s (m : Int) = s[m]'h := by
  unfold symLen
  rw [if_neg (by omega), Int.toNat_natCast, List.getElem?_eq_getElem h]
  rfl
/-- What one rule does to the lengths. -/
def stepL (s : List Int) (r : RuleG) : List Int × Bool :=
  if lenOf s r.right = -1 ∨ ((s[r.left.toNat]?).getD (-1) ≠ -1 ∧ (s[r.left.toNat]?).getD (-1) ≤ lenOf s r.right) then (s, false) else (s.set r.left.toNat (lenOf s r.right), true)
theorem lenGo_ok {s : List Int} (h : LenOk s) : ∀ (r : List Int) (a : Int), 0 ≤ a → -1 ≤ lenGo s r a ∧ lenGo s r a ≤ 1000000
  | [], a, ha => by unfold lenGo; split <;> omega
  | x :: r, a, ha => by
    unfold lenGo
    have hx : -1 ≤ symLen s x := by
      unfold symLen
      split
      · omega
      · cases e : s[x.toNat]? with
        | none => simp
        | some v => exact (h v (List.mem_of_getElem? e)).1
    split
    · omega
    · exact lenGo_ok h r _ (by omega)
theorem stepL_ok {s : List Int} {r : RuleG} (h : LenOk s) : LenOk (stepL s r).1 := by
  unfold stepL
  split
  · exact h
  · intro v hv
    rcases List.mem_or_eq_of_mem_set hv with hv | rfl
    · exact h v hv
    · exact lenGo_ok h _ _ (by decide)
theorem stepL_len (s : List Int) (r : RuleG) : (stepL s r).1.length = s.length := by
  unfold stepL
  split
  · rfl
  · simp
/-- The lengths that the program finds. -/
def lensP (g : GramG) : List Int := propF stepL g.rules g.names.length (List.replicate g.names.length (-1))

/-- What is known of a nonterminal. -/
def atL (s : List Int) (i : Nat) : Int := (s[i]?).getD (-1)
def SndL (g : GramG) (s : List Int) : Prop := ∀ i, atL s i ≠ -1 → ∃ m, LenN g [(i : Int)] m ∧ atL s i = ((min m 1000000 : Nat) : Int)
theorem lenGo_sound {g : GramG} {s : List Int} (hs : SndL g s) : ∀ (r : List Int) (a A : Nat), min a 1000000 = min A 1000000 → lenGo s r (a : Int) ≠ -1 → ∃ n, LenN g r n ∧ lenGo s r (a : Int) = ((min (A + n) 1000000 : Nat) : Int)
  | [], a, A, hc, _ => ⟨0, .nil, by unfold lenGo; split <;> omega⟩
  | x :: r, a, A, hc, hne => by
    unfold lenGo at hne ⊢
    by_cases hx : symLen s x = -1
    · rw [if_pos hx] at hne; exact (hne rfl).elim
    · rw [if_neg hx] at hne ⊢
      by_cases h0 : x < 0
      · rw [symLen_neg h0] at hne ⊢
        obtain ⟨n, hn, he⟩ := lenGo_sound hs r (a + 1) (A + 1) (by omega) (by simpa using hne)
        refine ⟨n + 1, .term x r n h0 hn, ?_⟩
        rw [show (a : Int) + 1 = ((a + 1 : Nat) : Int) by omega, he]
        omega
      · have hv : symLen s x = atL s x.toNat := by unfold symLen atL; rw [if_neg h0]
        rw [hv] at hne hx ⊢
        obtain ⟨m, hm, hv2⟩ := hs _ hx
        rw [hv2] at hne ⊢
        rw [show (a : Int) + ((min m 1000000 : Nat) : Int) = ((a + min m 1000000 : Nat) : Int) by omega] at hne ⊢
        obtain ⟨n, hn, he⟩ := lenGo_sound hs r (a + min m 1000000) (A + m) (by omega) hne
        rw [show ((x.toNat : Nat) : Int) = x by omega] at hm
        refine ⟨m + n, len_append (a := [x]) hm hn, ?_⟩
        rw [he]
        omega
/-- No shorter string is missed. -/
def FinL (g : GramG) (s : List Int) (i : Nat) : Prop := ∀ n, LenN g [(i : Int)] n → atL s i ≠ -1 ∧ atL s i ≤ ((min n 1000000 : Nat) : Int)
theorem lenGo_bound {g : GramG} {s : List Int} (hok : LenOk s) {x : List Int} {n : Nat} (h : LenN g x n) : (∀ y ∈ x, 0 ≤ y → FinL g s y.toNat) → ∀ a A : Nat, min a 1000000 ≤ min A 1000000 → lenGo s x (a : Int) ≠ -1 ∧ lenGo s x (a : Int) ≤ ((min (A + n) 1000000 : Nat) : Int) := by
  induction h with
  | nil => intro _ a A hc; unfold lenGo; split <;> omega
  | term y r n h0 _ ih =>
    intro hf a A hc
    unfold lenGo
    rw [symLen_neg h0, if_neg (by decide)]
    have := ih (fun z hz => hf z (by simp [hz])) (a + 1) (A + 1) (by omega)
    rw [show (a : Int) + 1 = ((a + 1 : Nat) : Int) by omega]
    refine ⟨this.1, ?_⟩
    have h2 := this.2
    omega
  | non ρ i r k n hm he h1 _ _ ih2 =>
    intro hf a A hc
    have hi := hf (i : Int) (by simp) (by omega) k (by rw [Int.toNat_natCast]; exact len_one.2 ⟨ρ, hm, he, h1⟩)
    rw [Int.toNat_natCast] at hi
    have hv : symLen s (i : Int) = atL s i := by unfold symLen atL; rw [if_neg (by omega), Int.toNat_natCast]
    unfold lenGo
    rw [hv, if_neg hi.1]
    obtain ⟨v, hvv⟩ : ∃ v : Nat, atL s i = (v : Int) := ⟨(atL s i).toNat, by
      have : -1 ≤ atL s i := by
        unfold atL
        cases e : s[i]? with
        | none => simp
        | some u => exact (hok u (List.mem_of_getElem? e)).1
      have := hi.1
      omega⟩
    have h3 := hi.2
    rw [hvv] at h3 ⊢
    have := ih2 (fun z hz => hf z (by simp [hz])) (a + v) (A + k) (by omega)
    rw [show (a : Int) + (v : Int) = ((a + v : Nat) : Int) by omega]
    refine ⟨this.1, ?_⟩
    have h2 := this.2
    omega
/-- Lengths only get better. -/
def ImpL (s t : List Int) : Prop := t.length = s.length ∧ ∀ i, atL s i ≠ -1 → atL t i ≠ -1 ∧ atL t i ≤ atL s i
theorem ImpL.refl (s : List Int) : ImpL s s := ⟨rfl, fun _ h => ⟨h, Int.le_refl _⟩⟩
theorem ImpL.trans {a b c : List Int} (h : ImpL a b) (k : ImpL b c) : ImpL a c := ⟨k.1.trans h.1, fun i hi => by
  have h1 := h.2 i hi
  have h2 := k.2 i h1.1
  exact ⟨h2.1, Int.le_trans h2.2 h1.2⟩⟩
theorem FinL.imp {g : GramG} {s t : List Int} {i : Nat} (h : FinL g s i) (k : ImpL s t) : FinL g t i := fun n hn => by
  have h1 := h n hn
  have h2 := k.2 i h1.1
  exact ⟨h2.1, Int.le_trans h2.2 h1.2⟩
theorem atL_set {s : List Int} {k : Nat} (v : Int) (i : Nat) (hk : k < s.length) : atL (s.set k v) i = if i = k then v else atL s i := by
  unfold atL
  rw [List.getElem?_set]
  by_cases e : k = i
  · subst e; simp [hk]
  · rw [if_neg e, if_neg (fun q => e q.symm)]
theorem stepL_imp {s : List Int} {r : RuleG} (hr : r.left.toNat < s.length) : ImpL s (stepL s r).1 := by
  unfold stepL
  split
  · exact ImpL.refl s
  · next h =>
    refine ⟨by simp, fun i hi => ?_⟩
    simp only
    rw [atL_set _ _ hr]
    split
    · next e =>
      subst e
      unfold atL at hi ⊢
      constructor
      · exact fun q => h (.inl q)
      · exact Int.le_of_lt (Int.not_le.1 fun q => h (.inr ⟨hi, q⟩))
    · exact ⟨hi, Int.le_refl _⟩
theorem stepL_sound {g : GramG} {s : List Int} {r : RuleG} (hs : SndL g s) (hm : r ∈ g.rules) (h0 : 0 ≤ r.left) (hr : r.left.toNat < s.length) : SndL g (stepL s r).1 := by
  unfold stepL
  split
  · exact hs
  · next h =>
    intro i hi
    simp only at hi ⊢
    rw [atL_set _ _ hr] at hi ⊢
    split
    · next e =>
      rw [if_pos e] at hi
      obtain ⟨n, hn, he⟩ := lenGo_sound hs r.right 0 0 rfl hi
      refine ⟨n, ?_, by rw [show lenOf s r.right = lenGo s r.right ((0 : Nat) : Int) from rfl, he]; omega⟩
      exact len_one.2 ⟨r, hm, by omega, hn⟩
    · next e =>
      rw [if_neg e] at hi
      exact hs i hi
/-- Behind the rule, the left side is at most as long as what its right side derives. -/
theorem stepL_bound {g : GramG} {s : List Int} {r : RuleG} (hok : LenOk s) (hr : r.left.toNat < s.length) (hf : ∀ y ∈ r.right, 0 ≤ y → FinL g s y.toNat) {n : Nat} (hn : LenN g r.right n) :
    atL (stepL s r).1 r.left.toNat ≠ -1 ∧ atL (stepL s r).1 r.left.toNat ≤ ((min n 1000000 : Nat) : Int) := by
  have hb := lenGo_bound hok hn hf 0 0 (Nat.le_refl _)
  rw [Nat.zero_add] at hb
  have hb1 : lenOf s r.right ≠ -1 := hb.1
  have hb2 : lenOf s r.right ≤ ((min n 1000000 : Nat) : Int) := hb.2
  unfold stepL
  split
  · next h =>
    rcases h with h | ⟨h1, h2⟩
    · exact (hb1 h).elim
    · exact ⟨h1, Int.le_trans h2 hb2⟩
  · simp only
    rw [atL_set _ _ hr, if_pos rfl]
    exact ⟨hb1, hb2⟩

/-! A round. -/
structure InvL (g : GramG) (s : List Int) : Prop where
  len : s.length = g.names.length
  ok : LenOk s
  snd : SndL g s
theorem stepL_inv {g : GramG} (hv : ValidG g) {s : List Int} (h : InvL g s) {r : RuleG} (hr : r ∈ g.rules) : InvL g (stepL s r).1 ∧ ImpL s (stepL s r).1 := by
  have := hv.rules r hr
  have hl : r.left.toNat < s.length := by rw [h.len]; omega
  exact ⟨⟨(stepL_len s r).trans h.len, stepL_ok h.ok, stepL_sound h.snd hr this.1 hl⟩, stepL_imp hl⟩
theorem roundL_inv {g : GramG} (hv : ValidG g) : ∀ (l : List RuleG), (∀ r ∈ l, r ∈ g.rules) → ∀ (s : List Int) (m : Bool), InvL g s → InvL g (roundF stepL l (s, m)).1 ∧ ImpL s (roundF stepL l (s, m)).1 ∧
    (∀ r ∈ l, (∀ y ∈ r.right, 0 ≤ y → FinL g s y.toNat) → ∀ n, LenN g r.right n → atL (roundF stepL l (s, m)).1 r.left.toNat ≠ -1 ∧ atL (roundF stepL l (s, m)).1 r.left.toNat ≤ ((min n 1000000 : Nat) : Int)) ∧
    ((roundF stepL l (s, m)).2 = false → (roundF stepL l (s, m)).1 = s)
  | [], _, s, m, h => ⟨h, ImpL.refl s, fun r hr => by simp at hr, fun _ => rfl⟩
  | x :: l, hl, s, m, h => by
    obtain ⟨h1, h2⟩ := stepL_inv hv h (hl x (by simp))
    obtain ⟨k1, k2, k3, k4⟩ := roundL_inv hv l (fun r hr => hl r (by simp [hr])) (stepL s x).1 (m || (stepL s x).2) h1
    refine ⟨k1, h2.trans k2, fun r hr hf n hn => ?_, fun q => ?_⟩
    · rcases List.mem_cons.1 hr with rfl | hr
      · have hb := stepL_bound h.ok (by have := hv.rules r (hl r (by simp)); rw [h.len]; omega) hf hn
        have h5 := k2.2 _ hb.1
        exact ⟨h5.1, Int.le_trans h5.2 hb.2⟩
      · exact k3 r hr (fun y hy h0 => (hf y hy h0).imp h2) n hn
    · have hq : (roundF stepL l ((stepL s x).1, m || (stepL s x).2)).2 = false := q
      have h5 := k4 hq
      have h6 : ∀ (l : List RuleG) (y : List Int × Bool), (roundF stepL l y).2 = false → y.2 = false := by
        intro l
        induction l with
        | nil => intro y q; exact q
        | cons z l ih => intro y q; have := ih _ q; simp only [Bool.or_eq_false_iff] at this; exact this.1
      have h7 := h6 l _ hq
      simp only [Bool.or_eq_false_iff] at h7
      show (roundF stepL l ((stepL s x).1, m || (stepL s x).2)).1 = s
      rw [h5]
      have h8 := h7.2
      unfold stepL at h8 ⊢
      split
      · rfl
      · next e => rw [if_neg e] at h8; cases h8
/-- Where a round makes no further nonterminal final, all are. -/
theorem all_final {g : GramG} (hv : ValidG g) {s : List Int} (h : InvL g s) (hs : ∀ i, FinL g (roundF stepL g.rules (s, false)).1 i → FinL g s i) : ∀ i, FinL g s i := by
  obtain ⟨-, -, k3, -⟩ := roundL_inv hv g.rules (fun _ h => h) s false h
  have key : ∀ {x : List Int} {n : Nat}, LenN g x n → (∀ y ∈ x, 0 ≤ y → FinL g s y.toNat) ∨ ∃ m, m < n ∧ LenN g x m := by
    intro x n hx
    induction hx with
    | nil => exact .inl (fun y hy => by simp at hy)
    | term y r n h0 _ ih =>
      rcases ih with ih | ⟨m, hm, hr⟩
      · exact .inl (fun z hz hz0 => by
          rcases List.mem_cons.1 hz with rfl | hz
          · omega
          · exact ih z hz hz0)
      · exact .inr ⟨m + 1, by omega, .term y r m h0 hr⟩
    | non ρ i r a n hm he h1 h2 ih1 ih2 =>
      by_cases hf : FinL g s i
      · rcases ih2 with ih2 | ⟨m, hm2, hr⟩
        · exact .inl (fun z hz hz0 => by
            rcases List.mem_cons.1 hz with rfl | hz
            · rw [Int.toNat_natCast]; exact hf
            · exact ih2 z hz hz0)
        · exact .inr ⟨a + m, by omega, .non ρ i r a m hm he h1 hr⟩
      · right
        have hn1 : ¬ FinL g (roundF stepL g.rules (s, false)).1 i := fun q => hf (hs i q)
        rcases ih1 with ih1 | ⟨m, hm2, hr⟩
        · have hb := k3 ρ hm ih1 a h1
          rw [he, Int.toNat_natCast] at hb
          have : ∃ m, LenN g [(i : Int)] m ∧ m < a := by
            apply Classical.byContradiction
            intro q
            refine hn1 (fun m hm3 => ⟨hb.1, Int.le_trans hb.2 ?_⟩)
            have : ¬ m < a := fun hlt => q ⟨m, hm3, hlt⟩
            omega
          obtain ⟨m, hm3, hlt⟩ := this
          exact ⟨m + n, by omega, len_append (a := [(i : Int)]) hm3 h2⟩
        · exact ⟨m + n, by omega, .non ρ i r m n hm he hr h2⟩
  intro i n hn
  obtain ⟨m, h1, h2⟩ := least_of (p := fun n => LenN g [(i : Int)] n) n hn
  rcases key h1 with hk | ⟨k, hk, hk2⟩
  · have := hk (i : Int) (by simp) (by omega)
    rw [Int.toNat_natCast] at this
    exact this n hn
  · have := h2 k hk2
    omega
noncomputable def finM (g : GramG) (s : List Int) : List Bool := (List.range g.names.length).map fun i => boolOf (FinL g s i)
theorem finM_len (g : GramG) (s : List Int) : (finM g s).length = g.names.length := by simp [finM]
theorem finM_marked {g : GramG} {s : List Int} {i : Nat} (hi : i < g.names.length) : marked (finM g s) i ↔ FinL g s i := by
  unfold marked finM
  rw [List.getElem?_map, List.getElem?_range hi]
  simp only [Option.map_some, Option.some.injEq]
  exact ⟨of_boolOf, boolOf_true⟩
theorem marked_lt {o : List Bool} {i : Nat} (h : marked o i) : i < o.length := by
  unfold marked at h
  exact (List.getElem?_eq_some_iff.1 h).1
theorem finM_below {g : GramG} {s t : List Int} (h : ImpL s t) : belowM (finM g s) (finM g t) := ⟨by rw [finM_len, finM_len], fun i hi => by
  have hl := marked_lt hi
  rw [finM_len] at hl
  exact (finM_marked hl).2 (((finM_marked hl).1 hi).imp h)⟩
theorem marks_full : ∀ {o : List Bool}, marks o = o.length → ∀ i, i < o.length → marked o i
  | [], _, i, hi => by simp at hi
  | x :: o, h, i, hi => by
    cases x with
    | false =>
      have h1 : marks (false :: o) = marks o := rfl
      have h2 := marks_le o
      simp only [List.length_cons] at h
      omega
    | true =>
      have h1 : marks (true :: o) = marks o + 1 := rfl
      cases i with
      | zero => rfl
      | succ i =>
        have := marks_full (o := o) (by simp only [List.length_cons] at h; omega) i (by simpa using hi)
        unfold marked at this ⊢
        simpa using this
theorem fin_out {g : GramG} (hv : ValidG g) {s : List Int} {i : Nat} (hi : ¬ i < g.names.length) : FinL g s i := fun n hn => by
  obtain ⟨ρ, hm, he, -⟩ := len_one.1 hn
  have := hv.rules ρ hm
  omega
theorem propL_final {g : GramG} (hv : ValidG g) : ∀ (n : Nat) (s : List Int), InvL g s → g.names.length ≤ marks (finM g s) + n → InvL g (propF stepL g.rules n s) ∧ ∀ i, FinL g (propF stepL g.rules n s) i
  | 0, s, h, hn => ⟨h, fun i => by
    by_cases hi : i < g.names.length
    · have h1 := marks_le (finM g s)
      rw [finM_len] at h1
      show FinL g s i
      exact (finM_marked hi).1 (marks_full (by rw [finM_len]; omega) i (by rw [finM_len]; exact hi))
    · exact fin_out hv hi⟩
  | n + 1, s, h, hn => by
    obtain ⟨k1, k2, -, k4⟩ := roundL_inv hv g.rules (fun _ h => h) s false h
    have hbl := finM_below (g := g) k2
    obtain ⟨m1, m2⟩ := below_marks hbl
    have hall : finM g s = finM g (roundF stepL g.rules (s, false)).1 → ∀ i, FinL g s i := fun e =>
      all_final hv h (fun i hi => by
        by_cases hl : i < g.names.length
        · have := (finM_marked hl).2 hi
          rw [← e] at this
          exact (finM_marked hl).1 this
        · exact fin_out hv hl)
    rw [propF]
    by_cases hm : (roundF stepL g.rules (s, false)).2 = true
    · rw [if_pos hm]
      by_cases he : marks (finM g s) = marks (finM g (roundF stepL g.rules (s, false)).1)
      · have hall' := hall (m2 he)
        have key : ∀ (n : Nat) (t : List Int), InvL g t → (∀ i, FinL g t i) → InvL g (propF stepL g.rules n t) ∧ ∀ i, FinL g (propF stepL g.rules n t) i := by
          intro n
          induction n with
          | zero => intro t ht hf; exact ⟨ht, hf⟩
          | succ n ih =>
            intro t ht hf
            obtain ⟨j1, j2, -, -⟩ := roundL_inv hv g.rules (fun _ h => h) t false ht
            rw [propF]
            split
            · exact ih _ j1 (fun i => (hf i).imp j2)
            · exact ⟨j1, fun i => (hf i).imp j2⟩
        exact key n _ k1 (fun i => (hall' i).imp k2)
      · exact propL_final hv n _ k1 (by omega)
    · have hm' : (roundF stepL g.rules (s, false)).2 = false := by simpa using hm
      rw [if_neg hm]
      refine ⟨k1, fun i => ?_⟩
      have e := k4 hm'
      exact (hall (by rw [e]) i).imp k2
theorem inv_first (g : GramG) : InvL g (List.replicate g.names.length (-1)) := by
  refine ⟨by simp, fun v hv => by rw [List.eq_of_mem_replicate hv]; omega, fun i hi => ?_⟩
  refine (hi ?_).elim
  unfold atL
  rw [List.getElem?_replicate]
  split <;> rfl
/-- What the program finds of lengths is what there is. -/
theorem lensP_short {g : GramG} (hv : ValidG g) : (lensP g).length = g.names.length ∧ ∀ i (h : i < (lensP g).length), ShortIs g i ((lensP g)[i]'h) := by
  obtain ⟨h1, h2⟩ := propL_final hv g.names.length _ (inv_first g) (by omega)
  refine ⟨h1.len, fun i hi => ?_⟩
  have hat : atL (lensP g) i = (lensP g)[i]'hi := by unfold atL; rw [List.getElem?_eq_getElem hi]; rfl
  rw [← hat]
  by_cases hp : ProdN g i
  · obtain ⟨n, hn⟩ := prod_len hp
    obtain ⟨m, hm1, hm2⟩ := least_of (p := fun n => LenN g [(i : Int)] n) n hn
    obtain ⟨f1, f2⟩ := h2 i m hm1
    obtain ⟨k, hk, he⟩ := h1.snd i f1
    have h3 := hm2 k hk
    right
    refine ⟨m, ⟨hm1, hm2⟩, ?_⟩
    have h4 : atL (lensP g) i = ((min k 1000000 : Nat) : Int) := he
    have h5 : atL (lensP g) i ≤ ((min m 1000000 : Nat) : Int) := f2
    omega
  · left
    refine ⟨?_, hp⟩
    apply Classical.byContradiction
    intro q
    obtain ⟨k, hk, -⟩ := h1.snd i q
    exact hp ((prod_iff_len hv).2 ⟨k, hk⟩)
end Go.Proofs.Ytamoalnbcmnciaa

/-! Plain mathematics of the steps of the program's well (layer 15): what is reached. Nothing here names the program. -/
namespace Go.Proofs.Ytamoalnbcmnciaa

/-- What one rule does to what is reached. -/
def goR1 (x : (List Bool × List Bool) × Bool) (y : Int) : (List Bool × List Bool) × Bool :=
  if y < 0 then ((x.1.1, x.1.2.set (-1 - y).toNat true), x.2) else if (x.1.1[y.toNat]?).getD false = true then x else ((x.1.1.set y.toNat true, x.1.2), true)
def goR (right : List Int) (x : (List Bool × List Bool) × Bool) : (List Bool × List Bool) × Bool := right.foldl goR1 x
def stepR (s : List Bool × List Bool) (r : RuleG) : (List Bool × List Bool) × Bool := if (s.1[r.left.toNat]?).getD false = true then goR r.right (s, false) else (s, false)
theorem goR_drop {right : List Int} {k : Nat} (h : k < right.length) (x : (List Bool × List Bool) × Bool) : goR (right.drop k) x = goR (right.drop (k + 1)) (goR1 x (right[k]'h)) := by
  unfold goR; rw [List.drop_eq_getElem_cons h, List.foldl_cons]
theorem goR_end {right : List Int} {k : Nat} (h : right.length ≤ k) (x : (List Bool × List Bool) × Bool) : goR (right.drop k) x = x := by
  unfold goR; rw [List.drop_eq_nil_of_le h, List.foldl_nil]
theorem goR1_len (x : (List Bool × List Bool) × Bool) (y : Int) : (goR1 x y).1.1.length = x.1.1.length ∧ (goR1 x y).1.2.length = x.1.2.length := by
  unfold goR1
  split
  · simp
  · split <;> simp
theorem goR_len : ∀ (r : List Int) (x : (List Bool × List Bool) × Bool), (goR r x).1.1.length = x.1.1.length ∧ (goR r x).1.2.length = x.1.2.length
  | [], x => ⟨rfl, rfl⟩
  | y :: r, x => by
    have h := goR_len r (goR1 x y)
    have k := goR1_len x y
    unfold goR at h ⊢
    rw [List.foldl_cons]
    exact ⟨h.1.trans k.1, h.2.trans k.2⟩
theorem stepR_len (s : List Bool × List Bool) (r : RuleG) : (stepR s r).1.1.length = s.1.length ∧ (stepR s r).1.2.length = s.2.length := by
  unfold stepR
  split
  · exact goR_len _ _
  · exact ⟨rfl, rfl⟩
/-- What is reached, as the program finds it. -/
def reachedP (g : GramG) : List Bool × List Bool := propF stepR g.rules g.names.length ((List.replicate g.names.length false).set 0 true, List.replicate g.terms.length false)
noncomputable def usedL (g : GramG) : List Bool := (List.range g.terms.length).map fun t => boolOf (UsedG g t)
theorem usedL_len (g : GramG) : (usedL g).length = g.terms.length := by simp [usedL]

theorem marked_getD {o : List Bool} {i : Nat} : (o[i]?).getD false = true ↔ marked o i := by
  unfold marked
  cases e : o[i]? with
  | none => simp
  | some b => simp
theorem marks_set {o : List Bool} {i : Nat} (hi : i < o.length) (hn : ¬ marked o i) : marks o < marks (o.set i true) := by
  obtain ⟨h1, h2⟩ := below_marks (set_below o i)
  have : marks o ≠ marks (o.set i true) := fun e => hn (by rw [h2 e]; exact set_marked hi)
  omega
/-- A symbol of a valid rule: what it does. -/
structure InvR (g : GramG) (s : List Bool × List Bool) : Prop where
  len : s.1.length = g.names.length
  lent : s.2.length = g.terms.length
  names : ∀ i, marked s.1 i → ReachN g i
  terms : ∀ t, marked s.2 t → UsedG g t
theorem goR1_step {g : GramG} {s : List Bool × List Bool} {m : Bool} (h : InvR g s) {r : RuleG} (hr : r ∈ g.rules) {i : Nat} (hi : r.left = (i : Int)) (hrch : ReachN g i) {y : Int} (hy : y ∈ r.right) (hb : -(g.terms.length : Int) ≤ y ∧ y < (g.names.length : Int)) :
    InvR g (goR1 (s, m) y).1 ∧ belowM s.1 (goR1 (s, m) y).1.1 ∧ belowM s.2 (goR1 (s, m) y).1.2 ∧ (m = true → (goR1 (s, m) y).2 = true) ∧ ((goR1 (s, m) y).2 = true → m = true ∨ marks s.1 < marks (goR1 (s, m) y).1.1) ∧
    ((goR1 (s, m) y).2 = false → (goR1 (s, m) y).1.1 = s.1) ∧ (y < 0 → marked (goR1 (s, m) y).1.2 (-1 - y).toNat) := by
  unfold goR1
  by_cases h0 : y < 0
  · rw [if_pos h0]
    refine ⟨⟨h.len, by simp [h.lent], h.names, fun t ht => ?_⟩, belowM.refl _, set_below _ _, id, .inl, fun _ => rfl, fun _ => set_marked (by rw [h.lent]; omega)⟩
    rcases set_other ht with e | ht
    · refine ⟨r, hr, ⟨i, hi, hrch⟩, ?_⟩
      rw [show (-1 - (t : Int)) = y by omega]
      exact hy
    · exact h.terms t ht
  · rw [if_neg h0]
    by_cases hm : marked s.1 y.toNat
    · rw [if_pos (marked_getD.2 hm)]
      exact ⟨h, belowM.refl _, belowM.refl _, id, .inl, fun _ => rfl, fun q => (h0 q).elim⟩
    · rw [if_neg (fun q => hm (marked_getD.1 q))]
      refine ⟨⟨by simp [h.len], h.lent, fun j hj => ?_, h.terms⟩, set_below _ _, belowM.refl _, fun _ => rfl, fun _ => .inr (marks_set (by rw [h.len]; omega) hm), fun q => (by cases q), fun q => (h0 q).elim⟩
      rcases set_other hj with e | hj
      · rw [e]; exact .step r i y hr hi hrch hy (by omega)
      · exact h.names j hj
theorem goR_all {g : GramG} {r : RuleG} (hr : r ∈ g.rules) {i : Nat} (hi : r.left = (i : Int)) (hrch : ReachN g i) : ∀ (l : List Int), (∀ y ∈ l, y ∈ r.right ∧ -(g.terms.length : Int) ≤ y ∧ y < (g.names.length : Int)) → ∀ (s : List Bool × List Bool) (m : Bool), InvR g s →
    InvR g (goR l (s, m)).1 ∧ belowM s.1 (goR l (s, m)).1.1 ∧ belowM s.2 (goR l (s, m)).1.2 ∧ (m = true → (goR l (s, m)).2 = true) ∧ ((goR l (s, m)).2 = true → m = true ∨ marks s.1 < marks (goR l (s, m)).1.1) ∧
    ((goR l (s, m)).2 = false → (goR l (s, m)).1.1 = s.1) ∧ (∀ y ∈ l, y < 0 → marked (goR l (s, m)).1.2 (-1 - y).toNat) ∧ (∀ y ∈ l, 0 ≤ y → marked (goR l (s, m)).1.1 y.toNat)
  | [], _, s, m, h => ⟨h, belowM.refl _, belowM.refl _, id, .inl, fun _ => rfl, fun y hy => by simp at hy, fun y hy => by simp at hy⟩
  | y :: l, hl, s, m, h => by
    obtain ⟨a1, a2, a3, a4, a5, a6, a7⟩ := goR1_step (m := m) h hr hi hrch (hl y (by simp)).1 (hl y (by simp)).2
    obtain ⟨b1, b2, b3, b4, b5, b6, b7, b8⟩ := goR_all hr hi hrch l (fun z hz => hl z (by simp [hz])) (goR1 (s, m) y).1 (goR1 (s, m) y).2 a1
    have e : goR (y :: l) (s, m) = goR l ((goR1 (s, m) y).1, (goR1 (s, m) y).2) := rfl
    rw [e]
    refine ⟨b1, a2.trans b2, a3.trans b3, fun q => b4 (a4 q), fun q => ?_, fun q => ?_, fun z hz h0 => ?_, fun z hz h0 => ?_⟩
    · have := (below_marks a2).1
      have := (below_marks b2).1
      rcases b5 q with q | q
      · rcases a5 q with q | q
        · exact .inl q
        · right; omega
      · right; omega
    · have h1 := b6 q
      have h2 : (goR1 (s, m) y).2 = false := by
        cases q2 : (goR1 (s, m) y).2 with
        | false => rfl
        | true => have := b4 q2; rw [this] at q; cases q
      exact h1.trans (a6 h2)
    · rcases List.mem_cons.1 hz with rfl | hz
      · exact b3.2 _ (a7 h0)
      · exact b7 z hz h0
    · rcases List.mem_cons.1 hz with rfl | hz
      · refine b2.2 _ ?_
        unfold goR1
        rw [if_neg (by omega)]
        split
        · next q => exact marked_getD.1 q
        · exact set_marked (by rw [h.len]; have := (hl z (by simp)).2.2; omega)
      · exact b8 z hz h0
/-- One rule. -/
theorem stepR_all {g : GramG} (hv : ValidG g) {s : List Bool × List Bool} (h : InvR g s) {r : RuleG} (hr : r ∈ g.rules) :
    InvR g (stepR s r).1 ∧ belowM s.1 (stepR s r).1.1 ∧ belowM s.2 (stepR s r).1.2 ∧ ((stepR s r).2 = true → marks s.1 < marks (stepR s r).1.1) ∧ ((stepR s r).2 = false → (stepR s r).1.1 = s.1) ∧
    (marked s.1 r.left.toNat → (∀ y ∈ r.right, y < 0 → marked (stepR s r).1.2 (-1 - y).toNat) ∧ ∀ y ∈ r.right, 0 ≤ y → marked (stepR s r).1.1 y.toNat) := by
  have hb := hv.rules r hr
  unfold stepR
  by_cases hm : marked s.1 r.left.toNat
  · rw [if_pos (marked_getD.2 hm)]
    have hrch := h.names _ hm
    obtain ⟨b1, b2, b3, -, b5, b6, b7, b8⟩ := goR_all hr (i := r.left.toNat) (by omega) hrch r.right (fun y hy => ⟨hy, hb.2.2.2 y hy⟩) s false h
    exact ⟨b1, b2, b3, fun q => (b5 q).elim (fun e => by cases e) id, b6, fun _ => ⟨b7, b8⟩⟩
  · rw [if_neg (fun q => hm (marked_getD.1 q))]
    exact ⟨h, belowM.refl _, belowM.refl _, fun q => (by cases q), fun _ => rfl, fun q => (hm q).elim⟩
theorem roundR_all {g : GramG} (hv : ValidG g) : ∀ (l : List RuleG), (∀ r ∈ l, r ∈ g.rules) → ∀ (s : List Bool × List Bool) (m : Bool), InvR g s →
    InvR g (roundF stepR l (s, m)).1 ∧ belowM s.1 (roundF stepR l (s, m)).1.1 ∧ belowM s.2 (roundF stepR l (s, m)).1.2 ∧ ((roundF stepR l (s, m)).2 = true → m = true ∨ marks s.1 < marks (roundF stepR l (s, m)).1.1) ∧
    ((roundF stepR l (s, m)).2 = false → m = false ∧ (roundF stepR l (s, m)).1.1 = s.1 ∧ ∀ r ∈ l, marked s.1 r.left.toNat → (∀ y ∈ r.right, y < 0 → marked (roundF stepR l (s, m)).1.2 (-1 - y).toNat) ∧ ∀ y ∈ r.right, 0 ≤ y → marked s.1 y.toNat)
  | [], _, s, m, h => ⟨h, belowM.refl _, belowM.refl _, .inl, fun q => ⟨q, rfl, fun r hr => by simp at hr⟩⟩
  | x :: l, hl, s, m, h => by
    obtain ⟨a1, a2, a3, a4, a5, a6⟩ := stepR_all hv h (hl x (by simp))
    obtain ⟨b1, b2, b3, b4, b5⟩ := roundR_all hv l (fun r hr => hl r (by simp [hr])) (stepR s x).1 (m || (stepR s x).2) a1
    have e : roundF stepR (x :: l) (s, m) = roundF stepR l ((stepR s x).1, m || (stepR s x).2) := rfl
    rw [e]
    refine ⟨b1, a2.trans b2, a3.trans b3, fun q => ?_, fun q => ?_⟩
    · have := (below_marks a2).1
      have := (below_marks b2).1
      rcases b4 q with q | q
      · simp only [Bool.or_eq_true] at q
        rcases q with q | q
        · exact .inl q
        · have := a4 q
          right; omega
      · right; omega
    · obtain ⟨c1, c2, c3⟩ := b5 q
      simp only [Bool.or_eq_false_iff] at c1
      have hx := a5 c1.2
      refine ⟨c1.1, c2.trans hx, fun r hr hm => ?_⟩
      rcases List.mem_cons.1 hr with rfl | hr
      · obtain ⟨d1, d2⟩ := a6 hm
        exact ⟨fun y hy h0 => b3.2 _ (d1 y hy h0), fun y hy h0 => by have := d2 y hy h0; rwa [hx] at this⟩
      · have := c3 r hr (by rw [hx]; exact hm)
        rw [hx] at this
        exact this
theorem used_marked {g : GramG} {t : Nat} (ht : t < g.terms.length) : marked (usedL g) t ↔ UsedG g t := by
  unfold marked usedL
  rw [List.getElem?_map, List.getElem?_range ht]
  simp only [Option.map_some, Option.some.injEq]
  exact ⟨of_boolOf, boolOf_true⟩
theorem reach_marked {g : GramG} {i : Nat} (hi : i < g.names.length) : marked (reachL g) i ↔ ReachN g i := by
  unfold marked reachL
  rw [List.getElem?_map, List.getElem?_range hi]
  simp only [Option.map_some, Option.some.injEq]
  exact ⟨of_boolOf, boolOf_true⟩
theorem marked_in {o : List Bool} {i : Nat} (h : marked o i) : i < o.length := by
  unfold marked at h
  exact (List.getElem?_eq_some_iff.1 h).1
theorem propR_final {g : GramG} (hv : ValidG g) : ∀ (n : Nat) (s : List Bool × List Bool), InvR g s → marked s.1 0 → g.names.length < marks s.1 + n → propF stepR g.rules n s = (reachL g, usedL g)
  | 0, s, h, _, hn => by have := marks_le s.1; rw [h.len] at this; omega
  | n + 1, s, h, h0, hn => by
    obtain ⟨b1, b2, b3, b4, b5⟩ := roundR_all hv g.rules (fun _ h => h) s false h
    rw [propF]
    by_cases hm : (roundF stepR g.rules (s, false)).2 = true
    · rw [if_pos hm]
      rcases b4 hm with q | q
      · cases q
      · exact propR_final hv n _ b1 (b2.2 0 h0) (by omega)
    · rw [if_neg hm]
      obtain ⟨-, c2, c3⟩ := b5 (by simpa using hm)
      have hcl : ∀ i, ReachN g i → marked s.1 i := by
        intro i hi
        induction hi with
        | zero => exact h0
        | step r i y hr he _ hy hp ih => exact (c3 r hr (by rw [he, Int.toNat_natCast]; exact ih)).2 y hy hp
      refine Prod.ext ?_ ?_
      · rw [c2]
        refine marks_ext (by rw [h.len, reachL_len]) (fun i => ?_)
        by_cases hi : i < g.names.length
        · rw [reach_marked hi]; exact ⟨h.names i, hcl i⟩
        · exact ⟨fun q => (hi (by rw [← h.len]; exact marked_in q)).elim, fun q => (hi (by rw [← reachL_len g]; exact marked_in q)).elim⟩
      · refine marks_ext (by rw [b1.lent, usedL_len]) (fun t => ?_)
        by_cases ht : t < g.terms.length
        · rw [used_marked ht]
          refine ⟨b1.terms t, fun q => ?_⟩
          obtain ⟨r, hr, ⟨i, he, hi⟩, hy⟩ := q
          have := (c3 r hr (by rw [he, Int.toNat_natCast]; exact hcl i hi)).1 _ hy (by omega)
          rwa [show (-1 - (-1 - (t : Int))).toNat = t by omega] at this
        · exact ⟨fun q => (ht (by rw [← b1.lent]; exact marked_in q)).elim, fun q => (ht (by rw [← usedL_len g]; exact marked_in q)).elim⟩
/-- What the program finds reached is what is reached. -/
theorem reachedP_is {g : GramG} (hv : ValidG g) : reachedP g = (reachL g, usedL g) := by
  refine propR_final hv g.names.length _ ⟨by simp, by simp, fun i hi => first_sound g hi, fun t ht => (false_marked _ _ ht).elim⟩ (first_marked hv.one) ?_
  have h1 := marks_set (o := List.replicate g.names.length false) (i := 0) (by simp; exact hv.one) (false_marked _ _)
  show g.names.length < marks ((List.replicate g.names.length false).set 0 true) + g.names.length
  omega
end Go.Proofs.Ytamoalnbcmnciaa

/-! Plain mathematics of what the program's well tells (layer 15). Nothing here names the program. -/
namespace Go.Proofs.Ytamoalnbcmnciaa

theorem short_none {g : GramG} {i : Nat} {v : Int} (h : ShortIs g i v) : v = -1 ↔ ¬ ProdN g i := by
  rcases h with ⟨rfl, h⟩ | ⟨m, hm, rfl⟩
  · exact ⟨fun _ => h, fun _ => rfl⟩
  · refine ⟨fun q => by omega, fun q => ?_⟩
    obtain ⟨ρ, hr, he, hl⟩ := len_one.1 hm.1
    refine (q ?_).elim
    have key : ∀ {x : List Int} {n : Nat}, LenN g x n → ∀ s ∈ x, 0 ≤ s → ProdN g s.toNat := by
      intro x n hx
      induction hx with
      | nil => intro s hs; simp at hs
      | term s r n h0 _ ih =>
        intro u hu hu0
        rcases List.mem_cons.1 hu with rfl | hu
        · omega
        · exact ih u hu hu0
      | non ρ j r a n hm he _ _ ih1 ih2 =>
        intro u hu hu0
        rcases List.mem_cons.1 hu with rfl | hu
        · exact .mk ρ _ hm (by rw [he]; simp) ih1
        · exact ih2 u hu hu0
    exact .mk ρ i hr he (key hl)
theorem none_mem {g : GramG} (hv : ValidG g) : (-1 : Int) ∈ lensP g ↔ ¬ ∀ i, i < g.names.length → ProdN g i := by
  obtain ⟨h1, h2⟩ := lensP_short hv
  constructor
  · intro hm q
    obtain ⟨i, hi, e⟩ := List.getElem_of_mem hm
    exact (short_none (h2 i hi)).1 e (q i (by omega))
  · intro q
    apply Classical.byContradiction
    intro hn
    refine q (fun i hi => Classical.byContradiction fun hp => hn ?_)
    have := (short_none (h2 i (by omega))).2 hp
    rw [← this]
    exact List.getElem_mem _
theorem prodL_is {g : GramG} (hv : ValidG g) : prodL g = (lensP g).map fun v => v != -1 := by
  obtain ⟨h1, h2⟩ := lensP_short hv
  unfold prodL
  apply List.ext_getElem
  · rw [List.length_map, List.length_map, List.length_range, h1]
  · intro i a b
    rw [List.length_map] at b
    rw [List.getElem_map, List.getElem_map, List.getElem_range]
    have := short_none (h2 i b)
    by_cases hp : ProdN g i
    · rw [boolOf_true hp]
      exact (bne_iff_ne.2 (fun q => this.1 q hp)).symm
    · rw [boolOf_false hp, this.2 hp]
      rfl
theorem marks_mem {n : Nat} {p : Nat → Prop} : false ∈ ((List.range n).map fun i => boolOf (p i)) ↔ ¬ ∀ i, i < n → p i := by
  rw [List.mem_map]
  constructor
  · rintro ⟨i, hi, e⟩ q
    rw [boolOf_true (q i (List.mem_range.1 hi))] at e
    cases e
  · intro q
    apply Classical.byContradiction
    intro hn
    exact q (fun i hi => Classical.byContradiction fun hp => hn ⟨i, List.mem_range.2 hi, boolOf_false hp⟩)
theorem check_is {g : GramG} (hv : ValidG g) : checkG g = if (-1 : Int) ∈ lensP g then 18 else if false ∈ reachL g then 17 else if false ∈ usedL g then 17 else 0 := by
  unfold checkG
  rw [if_neg (by unfold validB; rw [boolOf_true hv]; decide)]
  by_cases h1 : (-1 : Int) ∈ lensP g
  · rw [if_pos h1, if_pos (boolOf_false ((none_mem hv).1 h1))]
  · have h2 : ∀ i, i < g.names.length → ProdN g i := Classical.byContradiction fun q => h1 ((none_mem hv).2 q)
    rw [if_neg h1, if_neg (by rw [boolOf_true h2]; decide)]
    by_cases h3 : false ∈ reachL g
    · rw [if_pos h3, if_pos (boolOf_false (fun q => (marks_mem (p := fun i => ReachN g i)).1 h3 q.1))]
    · have h4 : ∀ i, i < g.names.length → ReachN g i := Classical.byContradiction fun q => h3 ((marks_mem (p := fun i => ReachN g i)).2 q)
      rw [if_neg h3]
      by_cases h5 : false ∈ usedL g
      · rw [if_pos h5, if_pos (boolOf_false (fun q => (marks_mem (p := fun t => UsedG g t)).1 h5 q.2))]
      · have h6 : ∀ t, t < g.terms.length → UsedG g t := Classical.byContradiction fun q => h5 ((marks_mem (p := fun t => UsedG g t)).2 q)
        rw [if_neg h5, if_neg (by rw [boolOf_true ⟨h4, h6⟩]; decide)]
end Go.Proofs.Ytamoalnbcmnciaa

/-! Plain mathematics of the law's fill and lengths (layer 15): strings of symbols from the left, rows of seven marks. Nothing here names the program. -/
namespace Go.Proofs.Ytamoalnbcmnciaa

/-- So many terminals can come of one symbol. -/
def oneP (o : List Bool) (s : Int) (k : Nat) : Prop := (s < 0 ∧ k = 1) ∨ (0 ≤ s ∧ k ≤ 6 ∧ marked o (s.toNat * 7 + k))
theorem fillP_cons {o : List Bool} {s : Int} {r : List Int} {n : Nat} : fillP o (s :: r) n ↔ ∃ k m, n = k + m ∧ oneP o s k ∧ fillP o r m := by
  constructor
  · rintro (⟨h0, m, e, q⟩ | ⟨h0, k, m, e, hk, hm, q⟩)
    · exact ⟨1, m, by omega, .inl ⟨h0, rfl⟩, q⟩
    · exact ⟨k, m, e, .inr ⟨h0, hk, hm⟩, q⟩
  · rintro ⟨k, m, e, (⟨h0, hk⟩ | ⟨h0, hk, hm⟩), q⟩
    · exact .inl ⟨h0, m, by omega, q⟩
    · exact .inr ⟨h0, k, m, e, hk, hm, q⟩
theorem fillP_snoc {o : List Bool} : ∀ {r : List Int} {s : Int} {n : Nat}, fillP o (r ++ [s]) n ↔ ∃ m k, n = m + k ∧ fillP o r m ∧ oneP o s k
  | [], s, n => by
    rw [List.nil_append, fillP_cons]
    constructor
    · rintro ⟨k, m, e, h1, h2⟩
      have h2' : m = 0 := h2
      exact ⟨0, k, by omega, rfl, h1⟩
    · rintro ⟨m, k, e, h1, h2⟩
      have h1' : m = 0 := h1
      exact ⟨k, 0, by omega, h2, rfl⟩
  | x :: r, s, n => by
    rw [List.cons_append, fillP_cons]
    constructor
    · rintro ⟨k, m, e, h1, h2⟩
      obtain ⟨m', k', e', h3, h4⟩ := fillP_snoc.1 h2
      exact ⟨k + m', k', by omega, fillP_cons.2 ⟨k, m', rfl, h1, h3⟩, h4⟩
    · rintro ⟨m, k, e, h1, h2⟩
      obtain ⟨k', m', e', h3, h4⟩ := fillP_cons.1 h1
      exact ⟨k', m' + k, by omega, h3, fillP_snoc.2 ⟨m', k, rfl, h4, h2⟩⟩
theorem take_snoc {r : List Int} {i : Nat} (h : i < r.length) : r.take (i + 1) = r.take i ++ [r[i]'h] := List.take_succ_eq_append_getElem h
/-- Rows of seven. -/
def Sevens (ms : List (List Bool)) : Prop := ∀ m ∈ ms, m.length = 7
theorem seven_at : ∀ {ms : List (List Bool)} {i k : Nat}, Sevens ms → (h : i < ms.length) → k < 7 → ms.flatten[i * 7 + k]? = (ms[i]'h)[k]?
  | [], i, k, _, h, _ => by simp at h
  | m :: ms, 0, k, hs, _, hk => by
    have hm := hs m (by simp)
    rw [List.flatten_cons, Nat.zero_mul, Nat.zero_add, List.getElem?_append_left (by omega)]
    rfl
  | m :: ms, i + 1, k, hs, h, hk => by
    have hm := hs m (by simp)
    rw [List.flatten_cons, List.getElem?_append_right (by omega), hm, show (i + 1) * 7 + k - 7 = i * 7 + k by omega]
    exact seven_at (fun x hx => hs x (by simp [hx])) (by simpa using h) hk
theorem seven_marked {ms : List (List Bool)} {i k : Nat} (hs : Sevens ms) (h : i < ms.length) (hk : k < 7) : marked ms.flatten (i * 7 + k) ↔ marked (ms[i]'h) k := by
  unfold marked; rw [seven_at hs h hk]
theorem seven_set : ∀ {ms : List (List Bool)} {i k : Nat}, Sevens ms → (h : i < ms.length) → k < 7 → (ms.set i ((ms[i]'h).set k true)).flatten = ms.flatten.set (i * 7 + k) true
  | [], i, k, _, h, _ => by simp at h
  | m :: ms, 0, k, hs, _, hk => by
    have hm := hs m (by simp)
    show (m.set k true :: ms).flatten = _
    rw [List.flatten_cons, List.flatten_cons, Nat.zero_mul, Nat.zero_add, List.set_append_left _ _ (by omega)]
  | m :: ms, i + 1, k, hs, h, hk => by
    have hm := hs m (by simp)
    have ih := seven_set (ms := ms) (i := i) (k := k) (fun x hx => hs x (by simp [hx])) (by simpa using h) hk
    show (m :: ms.set i ((ms[i]'_).set k true)).flatten = _
    rw [List.flatten_cons, List.flatten_cons, List.set_append_right _ _ (by omega), hm, show (i + 1) * 7 + k - 7 = i * 7 + k by omega, ih]
theorem sevens_set {ms : List (List Bool)} {i : Nat} {m : List Bool} (hs : Sevens ms) (hm : m.length = 7) : Sevens (ms.set i m) := fun x hx => by
  rcases List.mem_or_eq_of_mem_set hx with h | h
  · exact hs x h
  · rw [h]; exact hm
theorem sevens_first (N : Nat) : Sevens (List.replicate N (List.replicate 7 false)) := fun m hm => by rw [List.eq_of_mem_replicate hm]; simp
theorem flat_first : ∀ (N : Nat), (List.replicate N (List.replicate 7 false)).flatten = List.replicate (N * 7) false
  | 0 => by simp
  | n + 1 => by
    rw [List.replicate_succ, List.flatten_cons, flat_first n, List.replicate_append_replicate]
    congr 1
    omega
theorem lenS_range (o : List Bool) (r : RuleG) (n : Nat) : (List.range (n + 1)).foldl (lenS1 o r) o = lenS1 o r ((List.range n).foldl (lenS1 o r) o) n := by
  rw [List.range_succ, List.foldl_append]
  rfl
end Go.Proofs.Ytamoalnbcmnciaa

/-! The chapter's examples (layer 15), as grammars. Nothing here names the program. -/
namespace Go.Proofs.Ytamoalnbcmnciaa

def exA : GramG := ⟨[[83], [65]], [[97]], [⟨0, [1]⟩, ⟨1, [1, -1]⟩]⟩
def exB : GramG := ⟨[[83], [66]], [[97], [98]], [⟨0, [-1]⟩, ⟨1, [-2]⟩]⟩
def exC : GramG := ⟨[[83]], [[97]], [⟨0, [-1]⟩]⟩
theorem valid_exA : ValidG exA where
  one := by decide
  syms := by decide
  few := by decide
  names := by decide
  nodupN := by decide
  has := fun i hi => by
    have hi' : i < 2 := hi
    rcases (by omega : i = 0 ∨ i = 1) with rfl | rfl
    · exact ⟨⟨0, [1]⟩, (by simp [exA]), rfl⟩
    · exact ⟨⟨1, [1, -1]⟩, (by simp [exA]), rfl⟩
  terms := by decide
  nodupT := by decide
  rules := by decide
  nodupR := by simp [exA]
theorem valid_exB : ValidG exB where
  one := by decide
  syms := by decide
  few := by decide
  names := by decide
  nodupN := by decide
  has := fun i hi => by
    have hi' : i < 2 := hi
    rcases (by omega : i = 0 ∨ i = 1) with rfl | rfl
    · exact ⟨⟨0, [-1]⟩, (by simp [exB]), rfl⟩
    · exact ⟨⟨1, [-2]⟩, (by simp [exB]), rfl⟩
  terms := by decide
  nodupT := by decide
  rules := by decide
  nodupR := by simp [exB]
theorem valid_exC : ValidG exC where
  one := by decide
  syms := by decide
  few := by decide
  names := by decide
  nodupN := by decide
  has := fun i hi => by
    have hi' : i < 1 := hi
    obtain rfl : i = 0 := by omega
    exact ⟨⟨0, [-1]⟩, (by simp [exC]), rfl⟩
  terms := by decide
  nodupT := by decide
  rules := by decide
  nodupR := by simp [exC]
theorem noneA : ∀ i, ProdN exA i → False := by
  intro i h
  induction h with
  | mk r i hr he _ ih =>
    have : (1 : Int) ∈ r.right := by
      have hr' : r = ⟨0, [1]⟩ ∨ r = ⟨1, [1, -1]⟩ := by simpa [exA] using hr
      rcases hr' with rfl | rfl <;> simp
    exact ih 1 this (by decide)
theorem checkA : checkG exA = 18 := by
  unfold checkG
  rw [if_neg (by unfold validB; rw [boolOf_true valid_exA]; decide), if_pos (boolOf_false (fun h => noneA 0 (h 0 (by decide))))]
theorem onlyB : ∀ i, ReachN exB i → i = 0 := by
  intro i h
  induction h with
  | zero => rfl
  | step r i s hr he _ hs hp ih =>
    have hr' : r = ⟨0, [-1]⟩ ∨ r = ⟨1, [-2]⟩ := by simpa [exB] using hr
    rcases hr' with rfl | rfl
    · have : s = -1 := by simpa using hs
      omega
    · have : s = -2 := by simpa using hs
      omega
theorem checkB : checkG exB = 17 := by
  have hp : ∀ i, i < exB.names.length → ProdN exB i := by
    intro i hi
    have hi' : i < 2 := hi
    rcases (by omega : i = 0 ∨ i = 1) with rfl | rfl
    · exact .mk ⟨0, [-1]⟩ 0 (by simp [exB]) rfl (fun s hs h0 => by obtain rfl : s = -1 := (by simpa using hs); exact absurd h0 (by decide))
    · exact .mk ⟨1, [-2]⟩ 1 (by simp [exB]) rfl (fun s hs h0 => by obtain rfl : s = -2 := (by simpa using hs); exact absurd h0 (by decide))
  unfold checkG
  rw [if_neg (by unfold validB; rw [boolOf_true valid_exB]; decide), if_neg (by rw [boolOf_true hp]; decide), if_pos (boolOf_false (fun h => by have := onlyB 1 (h.1 1 (by decide)); omega))]
theorem checkC : checkG exC = 0 := by
  have hp : ∀ i, i < exC.names.length → ProdN exC i := by
    intro i hi
    have hi' : i < 1 := hi
    obtain rfl : i = 0 := by omega
    exact .mk ⟨0, [-1]⟩ 0 (by simp [exC]) rfl (fun s hs h0 => by obtain rfl : s = -1 := (by simpa using hs); exact absurd h0 (by decide))
  have hr : (∀ i, i < exC.names.length → ReachN exC i) ∧ ∀ t, t < exC.terms.length → UsedG exC t := by
    refine ⟨fun i hi => ?_, fun t ht => ?_⟩
    · have hi' : i < 1 := hi
      obtain rfl : i = 0 := by omega
      exact .zero
    · have ht' : t < 1 := ht
      obtain rfl : t = 0 := by omega
      exact ⟨⟨0, [-1]⟩, (by simp [exC]), ⟨0, rfl, .zero⟩, by decide⟩
  unfold checkG
  rw [if_neg (by unfold validB; rw [boolOf_true valid_exC]; decide), if_neg (by rw [boolOf_true hp]; decide), if_neg (by rw [boolOf_true hr]; decide)]
theorem sizeA : SizeG exA := ⟨by decide, by decide, by decide, by decide, by decide, by decide⟩
theorem sizeB : SizeG exB := ⟨by decide, by decide, by decide, by decide, by decide, by decide⟩
theorem sizeC : SizeG exC := ⟨by decide, by decide, by decide, by decide, by decide, by decide⟩
theorem intA : IntG exA := by unfold IntG; decide
theorem intB : IntG exB := by unfold IntG; decide
theorem intC : IntG exC := by unfold IntG; decide
end Go.Proofs.Ytamoalnbcmnciaa
