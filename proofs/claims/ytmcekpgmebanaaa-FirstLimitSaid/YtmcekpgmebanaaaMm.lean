/- Several texts in one: LexMath, ParMath, GrmMath, DirMath, WrdMath, WstMath, SrtMath, GrmSz, ParBack, ParSound, GrmRes, GrmBk, CanMath, WelMath, WelLen, PropF, WelStp, WelRch, WelTel, DerMath, FirMath, FrsMath, FofMath. -/
import Derived.Test.YtmcekpgmebanaaaBs
set_option linter.unusedVariables false
set_option linter.unusedSimpArgs false
/-! Plain mathematics of the lexer (layer 12). Nothing here names the program. -/
namespace Go.Proofs.Ytmcekpgmebanaaa

def letterB (c : UInt8) : Bool := (decide (97 ≤ c.toNat) && decide (c.toNat ≤ 122)) || (decide (65 ≤ c.toNat) && decide (c.toNat ≤ 90))
def moreB (c : UInt8) : Bool := letterB c || (decide (48 ≤ c.toNat) && decide (c.toNat ≤ 57)) || decide (c.toNat = 95)
/-- May this stand in a terminal? -/
def termC (c : UInt8) : Bool := decide (32 ≤ c.toNat) && decide (c.toNat ≤ 126) && !decide (c.toNat = 39) && !decide (c.toNat = 92)
def blankB (c : UInt8) : Bool := decide (c.toNat = 32) || decide (c.toNat = 9) || decide (c.toNat = 10) || decide (c.toNat = 13)
def nameB (s : List UInt8) : Bool := decide (1 ≤ s.length ∧ s.length ≤ 32) && (match s with | [] => false | c :: _ => letterB c) && s.all moreB
def termB (s : List UInt8) : Bool := decide (1 ≤ s.length ∧ s.length ≤ 32) && s.all termC
structure TokD where
  kind : Int
  text : List UInt8
  at_ : Nat
/-- What begins here: its kind, its text, how many bytes it takes; or an error's number. -/
structure NextD where
  kind : Int
  text : List UInt8
  n : Nat
  err : Int
def noneD (e : Int) : NextD := ⟨0, [], 0, e⟩
def termD (t : List UInt8) : NextD :=
  if (t.drop (t.takeWhile termC).length).head? = some 39 ∧ t.takeWhile termC ≠ [] then (if 32 < (t.takeWhile termC).length then noneD 19 else ⟨2, t.takeWhile termC, (t.takeWhile termC).length + 2, 0⟩) else noneD 13
def nextD (c : UInt8) (t : List UInt8) : NextD :=
    if c = 58 then ⟨3, [58], 1, 0⟩ else if c = 124 then ⟨4, [124], 1, 0⟩ else if c = 59 then ⟨5, [59], 1, 0⟩
    else if letterB c then (if 32 < ((c :: t).takeWhile moreB).length then noneD 19 else ⟨1, (c :: t).takeWhile moreB, ((c :: t).takeWhile moreB).length, 0⟩)
    else if c = 39 then termD t else noneD 13
/-- Up to the end of a comment. -/
def restC (r : List UInt8) : List UInt8 := r.dropWhile fun c => !decide (c = 10)
theorem restC_le : ∀ r : List UInt8, (restC r).length ≤ r.length
  | [] => by simp [restC]
  | c :: t => by
    unfold restC
    rw [List.dropWhile_cons]
    split
    · have := restC_le t; unfold restC at this; simp; omega
    · simp
structure LexD where
  toks : List TokD
  at_ : Nat
  err : Int
def consD (x : TokD) (r : LexD) : LexD := if r.err = 0 then ⟨x :: r.toks, 0, 0⟩ else r
def lexD (r : List UInt8) (p : Nat) : LexD :=
  match r with
  | [] => ⟨[], 0, 0⟩
  | c :: t =>
    if blankB c then lexD t (p + 1)
    else if c = 35 then lexD (restC t) (p + 1 + (t.length - (restC t).length))
    else if (nextD c t).err ≠ 0 then ⟨[], p, (nextD c t).err⟩
    else consD ⟨(nextD c t).kind, (nextD c t).text, p⟩ (lexD (t.drop ((nextD c t).n - 1)) (p + (nextD c t).n))
termination_by r.length
decreasing_by
  · simp
  · have := restC_le t; simp; omega
  · simp; omega
def allD (s : List UInt8) : LexD := if 65536 < s.length then ⟨[], 0, 19⟩ else lexD s 0
/-- What was found before, and what the rest gives. -/
def behindD (acc : List TokD) (r : LexD) : LexD := if r.err = 0 then ⟨acc ++ r.toks, 0, 0⟩ else r
theorem next_pos {c : UInt8} {t : List UInt8} (h : (nextD c t).err = 0) : 1 ≤ (nextD c t).n ∧ (nextD c t).n ≤ (c :: t).length := by
  unfold nextD at h ⊢
  split
  · simp
  · split
    · simp
    · split
      · simp
      · next h1 h2 h3 =>
        rw [if_neg h1, if_neg h2, if_neg h3] at h
        split
        · next h4 =>
          rw [if_pos h4] at h
          split
          · next h5 => rw [if_pos h5] at h; simp [noneD] at h
          · have hm : moreB c = true := by unfold moreB; rw [h4]; simp
            have := (List.takeWhile_prefix moreB (l := c :: t)).length_le
            rw [List.takeWhile_cons, if_pos hm]
            rw [List.takeWhile_cons, if_pos hm] at this
            simp at this ⊢
            omega
        · next h4 =>
          rw [if_neg h4] at h
          split
          · next h5 =>
            rw [if_pos h5] at h
            unfold termD at h ⊢
            split
            · next h6 =>
              rw [if_pos h6] at h
              split
              · next h7 => rw [if_pos h7] at h; simp [noneD] at h
              · have h8 : (t.takeWhile termC).length < t.length := by
                  have := h6.1
                  rcases Nat.lt_or_ge (t.takeWhile termC).length t.length with q | q
                  · exact q
                  · rw [List.drop_eq_nil_of_le q] at this; simp at this
                simp
                omega
            · next h6 => rw [if_neg h6] at h; simp [noneD] at h
          · next h5 => rw [if_neg h5] at h; simp [noneD] at h
theorem lex_nil (p : Nat) : lexD [] p = ⟨[], 0, 0⟩ := by rw [lexD]
theorem lex_blank {c : UInt8} (t : List UInt8) (p : Nat) (h : blankB c = true) : lexD (c :: t) p = lexD t (p + 1) := by rw [lexD, if_pos h]
theorem lex_note (t : List UInt8) (p : Nat) : lexD (35 :: t) p = lexD (restC t) (p + 1 + (t.length - (restC t).length)) := by rw [lexD, if_neg (by decide), if_pos rfl]
theorem lex_err {c : UInt8} (t : List UInt8) (p : Nat) (h1 : blankB c = false) (h2 : c ≠ 35) (h3 : (nextD c t).err ≠ 0) : lexD (c :: t) p = ⟨[], p, (nextD c t).err⟩ := by
  rw [lexD, if_neg (by simp [h1]), if_neg h2, if_pos h3]
theorem lex_tok {c : UInt8} (t : List UInt8) (p : Nat) (h1 : blankB c = false) (h2 : c ≠ 35) (h3 : (nextD c t).err = 0) : lexD (c :: t) p = consD ⟨(nextD c t).kind, (nextD c t).text, p⟩ (lexD ((c :: t).drop (nextD c t).n) (p + (nextD c t).n)) := by
  rw [lexD, if_neg (by simp [h1]), if_neg h2, if_neg (by simp [h3])]
  have := (next_pos h3).1
  rw [show (c :: t).drop (nextD c t).n = t.drop ((nextD c t).n - 1) from by
    obtain ⟨m, hm⟩ : ∃ m, (nextD c t).n = m + 1 := ⟨(nextD c t).n - 1, by omega⟩
    rw [hm]; simp]
theorem behind_cons (acc : List TokD) (x : TokD) (r : LexD) : behindD acc (consD x r) = behindD (acc ++ [x]) r := by
  unfold behindD consD
  by_cases h : r.err = 0
  · simp [h]
  · simp [h]
theorem letter_num {c : UInt8} (h : letterB c = true) : c ≠ 58 ∧ c ≠ 124 ∧ c ≠ 59 ∧ c ≠ 35 ∧ blankB c = false ∧ moreB c = true := by
  have hm : moreB c = true := by unfold moreB; rw [h]; simp
  refine ⟨?_, ?_, ?_, ?_, ?_, hm⟩
  · rintro rfl; simp [letterB] at h
  · rintro rfl; simp [letterB] at h
  · rintro rfl; simp [letterB] at h
  · rintro rfl; simp [letterB] at h
  · unfold letterB at h
    unfold blankB
    simp at h ⊢
    omega
theorem takeWhile_all {p : UInt8 → Bool} {l : List UInt8} (h : l.all p = true) : l.takeWhile p = l := by
  induction l with
  | nil => rfl
  | cons c t ih =>
    rw [List.all_cons, Bool.and_eq_true] at h
    rw [List.takeWhile_cons, if_pos h.1, ih h.2]
/-- What ends a run ends it, whatever follows. -/
theorem takeWhile_stop {p : UInt8 → Bool} : ∀ (l : List UInt8) (x : UInt8) (q : List UInt8), p x = false → (l ++ x :: q).takeWhile p = l.takeWhile p
  | [], x, q, h => by simp [h]
  | c :: t, x, q, h => by
    rw [List.cons_append, List.takeWhile_cons, List.takeWhile_cons, takeWhile_stop t x q h]
theorem takeWhile_in {p : UInt8 → Bool} : ∀ (l q : List UInt8), (l.takeWhile p).length < l.length → (l ++ q).takeWhile p = l.takeWhile p
  | [], q, h => by simp at h
  | c :: t, q, h => by
    rw [List.cons_append, List.takeWhile_cons, List.takeWhile_cons]
    rw [List.takeWhile_cons] at h
    split
    · next hc =>
      rw [if_pos hc] at h
      rw [takeWhile_in t q (by simpa using h)]
    · rfl
theorem name_one {s : List UInt8} (h : nameB s = true) (p : Nat) : lexD s p = ⟨[⟨1, s, p⟩], 0, 0⟩ := by
  unfold nameB at h
  rw [Bool.and_eq_true, Bool.and_eq_true] at h
  obtain ⟨⟨h1, h2⟩, h3⟩ := h
  have h1' := of_decide_eq_true h1
  cases s with
  | nil => simp at h1'
  | cons c t =>
    simp only at h2
    obtain ⟨e1, e2, e3, e4, e5, e6⟩ := letter_num h2
    have hn : nextD c t = ⟨1, c :: t, (c :: t).length, 0⟩ := by
      unfold nextD
      rw [if_neg e1, if_neg e2, if_neg e3, if_pos h2, takeWhile_all h3, if_neg (by omega)]
    rw [lex_tok t p e5 e4 (by rw [hn]), hn]
    simp only [List.drop_length]
    rw [lex_nil]
    rfl
theorem term_one {s : List UInt8} (h : termB s = true) (p : Nat) : lexD (39 :: (s ++ [39])) p = ⟨[⟨2, s, p⟩], 0, 0⟩ := by
  unfold termB at h
  rw [Bool.and_eq_true] at h
  have h1' := of_decide_eq_true h.1
  have ht : (s ++ [39]).takeWhile termC = s := by rw [takeWhile_stop s 39 [] (by decide), takeWhile_all h.2]
  have hn : nextD 39 (s ++ [39]) = ⟨2, s, s.length + 2, 0⟩ := by
    unfold nextD
    rw [if_neg (by decide), if_neg (by decide), if_neg (by decide), if_neg (by decide), if_pos rfl]
    unfold termD
    rw [ht, if_pos ⟨by simp, by intro e; rw [e] at h1'; simp at h1'⟩, if_neg (by omega)]
  rw [lex_tok _ p (by decide) (by decide) (by rw [hn]), hn]
  rw [List.drop_eq_nil_of_le (by simp), lex_nil]
  rfl
theorem lex_ok {r : List UInt8} {p : Nat} (h : (lexD r p).err = 0) : (lexD r p).at_ = 0 := by
  induction r, p using lexD.induct with
  | case1 p => rw [lex_nil]
  | case2 p c t hb ih => rw [lex_blank t p hb] at h ⊢; exact ih h
  | case3 p t hb ih => rw [lex_note] at h ⊢; exact ih h
  | case4 p c t hb h3 he => rw [lex_err t p (by simpa using hb) h3 he] at h; exact absurd h he
  | case5 p c t hb h3 he ih =>
    rw [lexD, if_neg hb, if_neg h3, if_neg he] at h ⊢
    unfold consD at h ⊢
    split
    · rfl
    · next hq => rw [if_neg hq] at h; exact absurd h hq
def shiftT (k : Nat) (x : TokD) : TokD := ⟨x.kind, x.text, x.at_ + k⟩
theorem lex_shift (k : Nat) {r : List UInt8} {p : Nat} : (lexD r p).err = 0 → lexD r (p + k) = ⟨(lexD r p).toks.map (shiftT k), 0, 0⟩ := by
  induction r, p using lexD.induct with
  | case1 p => intro _; rw [lex_nil, lex_nil]; rfl
  | case2 p c t hb ih => intro h; rw [lex_blank t p hb] at h ⊢; rw [lex_blank t _ hb, ← ih h, show p + k + 1 = p + 1 + k from by omega]
  | case3 p t hb ih =>
    intro h
    rw [lex_note] at h ⊢
    rw [lex_note, ← ih h, show p + k + 1 + (t.length - (restC t).length) = p + 1 + (t.length - (restC t).length) + k from by omega]
  | case4 p c t hb h3 he => intro h; rw [lex_err t p (by simpa using hb) h3 he] at h; exact absurd h he
  | case5 p c t hb h3 he ih =>
    intro h
    rw [lexD, if_neg hb, if_neg h3, if_neg he] at h ⊢
    rw [lexD, if_neg hb, if_neg h3, if_neg he]
    have he2 : (lexD (t.drop ((nextD c t).n - 1)) (p + (nextD c t).n)).err = 0 := by
      unfold consD at h
      split at h
      · assumption
      · next hq => exact absurd h hq
    rw [show p + k + (nextD c t).n = p + (nextD c t).n + k from by omega, ih he2]
    unfold consD
    simp [he2, shiftT]
theorem next_same {c : UInt8} {t : List UInt8} (q : List UInt8) (h : (nextD c t).err = 0) : nextD c (t ++ 32 :: q) = nextD c t := by
  unfold nextD at h ⊢
  by_cases h1 : c = 58
  · rw [if_pos h1, if_pos h1]
  · rw [if_neg h1] at h ⊢
    rw [if_neg h1]
    by_cases h2 : c = 124
    · rw [if_pos h2, if_pos h2]
    · rw [if_neg h2] at h ⊢
      rw [if_neg h2]
      by_cases h3 : c = 59
      · rw [if_pos h3, if_pos h3]
      · rw [if_neg h3] at h ⊢
        rw [if_neg h3]
        by_cases h4 : letterB c = true
        · rw [if_pos h4, if_pos h4, ← List.cons_append, takeWhile_stop (c :: t) 32 q (by decide)]
        · rw [if_neg h4] at h ⊢
          rw [if_neg h4]
          by_cases h5 : c = 39
          · rw [if_pos h5] at h ⊢
            rw [if_pos h5]
            unfold termD at h ⊢
            by_cases h6 : (t.drop (t.takeWhile termC).length).head? = some 39 ∧ t.takeWhile termC ≠ []
            · have h8 : (t.takeWhile termC).length < t.length := by
                have := h6.1
                rcases Nat.lt_or_ge (t.takeWhile termC).length t.length with z | z
                · exact z
                · rw [List.drop_eq_nil_of_le z] at this; simp at this
              rw [takeWhile_in t _ h8]
              have h9 : ((t ++ 32 :: q).drop (t.takeWhile termC).length).head? = (t.drop (t.takeWhile termC).length).head? := by
                rw [List.drop_append_of_le_length (by omega), List.head?_append]
                rw [h6.1]; rfl
              rw [h9]
            · rw [if_neg h6] at h; simp [noneD] at h
          · rw [if_neg h5, if_neg h5]
theorem lex_front {r : List UInt8} {p : Nat} : ∀ (q : List UInt8) (y : List TokD), (35 : UInt8) ∉ r → (lexD r p).err = 0 → lexD (32 :: q) (p + r.length) = ⟨y, 0, 0⟩ → lexD (r ++ 32 :: q) p = ⟨(lexD r p).toks ++ y, 0, 0⟩ := by
  induction r, p using lexD.induct with
  | case1 p => intro q y _ _ h; rw [lex_nil]; simpa using h
  | case2 p c t hb ih =>
    intro q y hn h hy
    rw [lex_blank t p hb] at h ⊢
    rw [List.cons_append, lex_blank _ p hb]
    exact ih q y (fun hm => hn (by simp [hm])) h (by rw [← hy]; congr 1; simp; omega)
  | case3 p t hb ih => intro q y hn; simp at hn
  | case4 p c t hb h3 he => intro q y hn h; rw [lex_err t p (by simpa using hb) h3 he] at h; exact absurd h he
  | case5 p c t hb h3 he ih =>
    intro q y hn h hy
    have he0 : (nextD c t).err = 0 := by simpa using he
    have hpos := next_pos he0
    have hb' : blankB c = false := by simpa using hb
    rw [lex_tok t p hb' h3 he0] at h ⊢
    have hd : t.drop ((nextD c t).n - 1) = (c :: t).drop (nextD c t).n := by
      obtain ⟨m, hm⟩ : ∃ m, (nextD c t).n = m + 1 := ⟨(nextD c t).n - 1, by omega⟩
      rw [hm]; simp
    rw [hd] at ih
    have he2 : (lexD ((c :: t).drop (nextD c t).n) (p + (nextD c t).n)).err = 0 := by
      unfold consD at h
      split at h
      · assumption
      · next hq => exact absurd h hq
    have hs := next_same q he0
    rw [List.cons_append, lex_tok (t ++ 32 :: q) p hb' h3 (by rw [hs]; exact he0), hs, ← List.cons_append, List.drop_append_of_le_length hpos.2]
    rw [ih q y (fun hm => hn (List.mem_of_mem_drop hm)) he2 (by rw [← hy]; congr 1; rw [List.length_drop]; omega)]
    unfold consD
    simp [he2]
theorem restC_stop : ∀ (m q : List UInt8), (10 : UInt8) ∉ m → restC (m ++ 10 :: q) = 10 :: q
  | [], q, _ => by simp [restC]
  | c :: t, q, h => by
    have := restC_stop t q (fun hm => h (by simp [hm]))
    unfold restC at this ⊢
    rw [List.cons_append, List.dropWhile_cons, if_pos (by simp; intro e; exact h (by simp [e]))]
    exact this
theorem lex_between (m b : List UInt8) (p : Nat) (h : (10 : UInt8) ∉ m) : lexD (32 :: 35 :: (m ++ 10 :: 9 :: 13 :: b)) p = lexD b (p + (m.length + 5)) := by
  rw [lex_blank _ p (by decide), lex_note, restC_stop m _ h, lex_blank _ _ (by decide), lex_blank _ _ (by decide), lex_blank _ _ (by decide)]
  congr 1
  simp
  omega
/-- Blanks and a remark between two texts. -/
theorem lex_blanks (a m b : List UInt8) (ha : (lexD a 0).err = 0) (hb : (lexD b 0).err = 0) (hn : (35 : UInt8) ∉ a) (h : (10 : UInt8) ∉ m) :
    lexD (a ++ 32 :: 35 :: (m ++ 10 :: 9 :: 13 :: b)) 0 = ⟨(lexD a 0).toks ++ (lexD b 0).toks.map (shiftT (a.length + m.length + 5)), 0, 0⟩ := by
  refine lex_front _ _ hn ha ?_
  rw [lex_between m b _ h, ← lex_shift (a.length + m.length + 5) hb]
  congr 1
  omega
theorem restC_len (t : List UInt8) : (restC t).length ≤ t.length := restC_le t
theorem lex_len {r : List UInt8} {p : Nat} : (lexD r p).toks.length ≤ r.length ∧ ∀ t ∈ (lexD r p).toks, t.at_ ≤ p + r.length := by
  induction r, p using lexD.induct with
  | case1 p => rw [lex_nil]; simp
  | case2 p c t hb ih => rw [lex_blank t p hb]; exact ⟨by simp; omega, fun x hx => by have := ih.2 x hx; simp; omega⟩
  | case3 p t hb ih =>
    rw [lex_note]
    have := restC_le t
    exact ⟨by simp; omega, fun x hx => by have := ih.2 x hx; simp; omega⟩
  | case4 p c t hb h3 he => rw [lex_err t p (by simpa using hb) h3 he]; simp
  | case5 p c t hb h3 he ih =>
    rw [lexD, if_neg hb, if_neg h3, if_neg he]
    have he0 : (nextD c t).err = 0 := by simpa using he
    have hpos := next_pos he0
    rw [List.length_cons] at hpos
    unfold consD
    split
    · refine ⟨?_, fun x hx => ?_⟩
      · have := ih.1
        rw [List.length_drop] at this
        simp; omega
      · rw [List.mem_cons] at hx
        rcases hx with rfl | hx
        · simp
        · have := ih.2 x hx
          rw [List.length_drop] at this
          simp; omega
    · refine ⟨?_, fun x hx => ?_⟩
      · have := ih.1
        rw [List.length_drop] at this
        simp; omega
      · have := ih.2 x hx
        rw [List.length_drop] at this
        simp; omega
end Go.Proofs.Ytmcekpgmebanaaa

/-! Plain mathematics of the parser of rules (layer 13). Nothing here names the program. -/
namespace Go.Proofs.Ytmcekpgmebanaaa

structure ItemD where
  term : Bool
  text : List UInt8
structure LineD where
  name : List UInt8
  alts : List (List ItemD)
/-- A token's kind and text. -/
abbrev Tk := Int × List UInt8
def TokD.tk (t : TokD) : Tk := (t.kind, t.text)
/-- Alternatives that were read, or how many tokens were left where it went wrong; and how many are left. -/
structure BodyD where
  ok : Bool
  alts : List (List ItemD)
  left : List Tk
def bodyD : List Tk → List ItemD → List (List ItemD) → BodyD
  | [], _, _ => ⟨false, [], []⟩
  | t :: r, cur, done =>
    if t.1 = 1 ∨ t.1 = 2 then bodyD r (cur ++ [⟨decide (t.1 = 2), t.2⟩]) done
    else if t.1 = 4 then bodyD r [] (done ++ [cur])
    else if t.1 = 5 then ⟨true, done ++ [cur], r⟩
    else ⟨false, [], t :: r⟩
structure RuleD where
  ok : Bool
  line : LineD
  left : List Tk
def nameD (n : List UInt8) : List Tk → RuleD
  | [] => ⟨false, ⟨[], []⟩, []⟩
  | c :: q => if c.1 = 3 then ⟨(bodyD q [] []).ok, ⟨n, (bodyD q [] []).alts⟩, (bodyD q [] []).left⟩ else ⟨false, ⟨[], []⟩, c :: q⟩
def ruleD : List Tk → RuleD
  | [] => ⟨false, ⟨[], []⟩, []⟩
  | t :: r => if t.1 ≠ 1 then ⟨false, ⟨[], []⟩, t :: r⟩ else nameD t.2 r
theorem body_left : ∀ (r : List Tk) (cur : List ItemD) (done : List (List ItemD)), (bodyD r cur done).left.length ≤ r.length ∧ ((bodyD r cur done).ok = true → (bodyD r cur done).left.length < r.length)
  | [], cur, done => by simp [bodyD]
  | t :: r, cur, done => by
    unfold bodyD
    split
    · have := body_left r (cur ++ [⟨decide (t.1 = 2), t.2⟩]) done
      exact ⟨by simp; omega, fun h => by have := this.2 h; simp; omega⟩
    · split
      · have := body_left r [] (done ++ [cur])
        exact ⟨by simp; omega, fun h => by have := this.2 h; simp; omega⟩
      · split
        · simp
        · simp
theorem name_left (n : List UInt8) (r : List Tk) : (nameD n r).left.length ≤ r.length ∧ ((nameD n r).ok = true → (nameD n r).left.length < r.length) := by
  cases r with
  | nil => simp [nameD]
  | cons c q =>
    have e : nameD n (c :: q) = if c.1 = 3 then ⟨(bodyD q [] []).ok, ⟨n, (bodyD q [] []).alts⟩, (bodyD q [] []).left⟩ else ⟨false, ⟨[], []⟩, c :: q⟩ := rfl
    rw [e, List.length_cons]
    by_cases h3 : c.1 = 3
    · rw [if_pos h3]
      have := body_left q [] []
      exact ⟨by simp only; omega, fun h => by have := this.2 h; simp only; omega⟩
    · rw [if_neg h3]
      simp
theorem rule_left (r : List Tk) : (ruleD r).left.length ≤ r.length ∧ ((ruleD r).ok = true → (ruleD r).left.length < r.length) := by
  cases r with
  | nil => simp [ruleD]
  | cons t r =>
    have e : ruleD (t :: r) = if t.1 ≠ 1 then ⟨false, ⟨[], []⟩, t :: r⟩ else nameD t.2 r := rfl
    rw [e, List.length_cons]
    by_cases h1 : t.1 ≠ 1
    · rw [if_pos h1]
      simp
    · rw [if_neg h1]
      have := name_left t.2 r
      exact ⟨by omega, fun h => by have := this.2 h; omega⟩
/-- Lines that were read, or how many tokens were left where it went wrong. -/
structure LinesD where
  ok : Bool
  lines : List LineD
  left : Nat
def linesD (r : List Tk) : LinesD :=
  match r with
  | [] => ⟨true, [], 0⟩
  | t :: q =>
    if h : (ruleD (t :: q)).ok = true then
      (if (linesD (ruleD (t :: q)).left).ok then ⟨true, (ruleD (t :: q)).line :: (linesD (ruleD (t :: q)).left).lines, 0⟩ else linesD (ruleD (t :: q)).left)
    else ⟨false, [], (ruleD (t :: q)).left.length⟩
termination_by r.length
decreasing_by
  all_goals exact (rule_left (t :: q)).2 h
/-- What a text comes to. -/
structure ParD where
  lines : List LineD
  at_ : Nat
  err : Int
def offT (m : List UInt8) (toks : List TokD) (left : Nat) : Nat := match toks[toks.length - left]? with | some t => t.at_ | none => m.length
def parD (m : List UInt8) : ParD :=
  if (allD m).err ≠ 0 then ⟨[], (allD m).at_, (allD m).err⟩
  else if (linesD ((allD m).toks.map TokD.tk)).ok = false then ⟨[], offT m (allD m).toks (linesD ((allD m).toks.map TokD.tk)).left, 14⟩
  else if (linesD ((allD m).toks.map TokD.tk)).lines = [] then ⟨[], m.length, 14⟩
  else ⟨(linesD ((allD m).toks.map TokD.tk)).lines, 0, 0⟩
def itemT (i : ItemD) : List UInt8 := if i.term then [32, 39] ++ i.text ++ [39] else 32 :: i.text
def altT (a : List ItemD) : List UInt8 := a.flatMap itemT
def altsT : List (List ItemD) → List UInt8
  | [] => []
  | a :: r => altT a ++ r.flatMap fun b => [32, 124] ++ altT b
def lineT (l : LineD) : List UInt8 := l.name ++ [32, 58] ++ altsT l.alts ++ [32, 59, 10]
def textD (l : List LineD) : List UInt8 := l.flatMap lineT
/-- The tokens of lines. -/
def itemK (i : ItemD) : Tk := (if i.term then 2 else 1, i.text)
def altsK : List (List ItemD) → List Tk
  | [] => []
  | a :: r => a.map itemK ++ r.flatMap fun b => (4, [124]) :: b.map itemK
def lineK (l : LineD) : List Tk := (1, l.name) :: (3, [58]) :: (altsK l.alts ++ [(5, [59])])
theorem body_items : ∀ (a : List ItemD) (q : List Tk) (cur : List ItemD) (done : List (List ItemD)), bodyD (a.map itemK ++ q) cur done = bodyD q (cur ++ a) done
  | [], q, cur, done => by simp
  | i :: r, q, cur, done => by
    rw [List.map_cons, List.cons_append, bodyD]
    have h : (itemK i).1 = 1 ∨ (itemK i).1 = 2 := by unfold itemK; cases i.term <;> simp
    have h2 : (⟨decide ((itemK i).1 = 2), (itemK i).2⟩ : ItemD) = i := by unfold itemK; obtain ⟨b, x⟩ := i; cases b <;> simp
    rw [if_pos h, h2, body_items r q]
    simp
theorem body_bars : ∀ (r : List (List ItemD)) (q : List Tk) (cur : List ItemD) (done : List (List ItemD)), bodyD ((r.flatMap fun b => (4, [124]) :: b.map itemK) ++ (5, [59]) :: q) cur done = ⟨true, done ++ cur :: r, q⟩
  | [], q, cur, done => by simp [bodyD]
  | b :: r, q, cur, done => by
    rw [List.flatMap_cons, List.cons_append, List.cons_append, bodyD, if_neg (by simp), if_pos rfl, List.append_assoc, body_items, body_bars r q]
    simp
theorem body_back (l : LineD) (h : l.alts ≠ []) (q : List Tk) : ruleD (lineK l ++ q) = ⟨true, l, q⟩ := by
  obtain ⟨n, al⟩ := l
  cases al with
  | nil => exact absurd rfl h
  | cons a r =>
    unfold lineK altsK
    simp only [List.cons_append, List.append_assoc, List.nil_append]
    have hb := body_items a ((r.flatMap fun b => (4, [124]) :: b.map itemK) ++ (5, [59]) :: q) [] []
    rw [body_bars] at hb
    have e1 : ∀ r : List Tk, ruleD ((1, n) :: r) = nameD n r := fun r => by simp [ruleD]
    have e2 : ∀ r : List Tk, nameD n ((3, [58]) :: r) = ⟨(bodyD r [] []).ok, ⟨n, (bodyD r [] []).alts⟩, (bodyD r [] []).left⟩ := fun r => by simp [nameD]
    rw [e1, e2, hb]
    simp
theorem lines_back : ∀ (l : List LineD), (∀ x ∈ l, x.alts ≠ []) → linesD (l.flatMap lineK) = ⟨true, l, 0⟩
  | [], _ => by rw [List.flatMap_nil, linesD]
  | x :: l, h => by
    have hb := body_back x (h x (by simp)) (l.flatMap lineK)
    have ih := lines_back l (fun y hy => h y (by simp [hy]))
    rw [List.flatMap_cons]
    have hc : lineK x ++ l.flatMap lineK = (1, x.name) :: ((3, [58]) :: (altsK x.alts ++ [(5, [59])]) ++ l.flatMap lineK) := rfl
    rw [hc] at hb ⊢
    rw [linesD, dif_pos (by rw [hb]), hb]
    simp only
    rw [ih]
    rfl
end Go.Proofs.Ytmcekpgmebanaaa

/-! Plain mathematics of grammars (layer 14). Nothing here names the program. -/
namespace Go.Proofs.Ytmcekpgmebanaaa

structure RuleG where
  left : Int
  right : List Int
structure GramG where
  names : List (List UInt8)
  terms : List (List UInt8)
  rules : List RuleG
theorem RuleG.ext' {a b : RuleG} (h1 : a.left = b.left) (h2 : a.right = b.right) : a = b := by cases a; cases b; simp_all
theorem GramG.ext' {a b : GramG} (h1 : a.names = b.names) (h2 : a.terms = b.terms) (h3 : a.rules = b.rules) : a = b := by cases a; cases b; simp_all
/-- A truth as a Bool. -/
noncomputable def boolOf (p : Prop) : Bool := @decide p (Classical.propDecidable p)
theorem boolOf_true {p : Prop} (h : p) : boolOf p = true := by unfold boolOf; exact @decide_eq_true p (Classical.propDecidable p) h
theorem boolOf_false {p : Prop} (h : ¬ p) : boolOf p = false := by unfold boolOf; exact @decide_eq_false p (Classical.propDecidable p) h
theorem boolOf_congr {p q : Prop} (h : p ↔ q) : boolOf p = boolOf q := by rw [show p = q from propext h]
theorem of_boolOf {p : Prop} (h : boolOf p = true) : p := Classical.byContradiction fun hn => by rw [boolOf_false hn] at h; cases h
theorem boolOf_cases (p : Prop) : (p ∧ boolOf p = true) ∨ (¬ p ∧ boolOf p = false) := (Classical.em p).elim (fun h => .inl ⟨h, boolOf_true h⟩) (fun h => .inr ⟨h, boolOf_false h⟩)
/-- The place of a text in a list; -1: it is not there. -/
def findG : List (List UInt8) → List UInt8 → Int
  | [], _ => -1
  | x :: l, s => if x = s then 0 else if findG l s < 0 then -1 else findG l s + 1
theorem find_at : ∀ {l : List (List UInt8)} {s : List UInt8} {k : Nat} (hk : k < l.length), l[k] = s → (∀ j (h : j < k), l[j]'(by omega) ≠ s) → findG l s = (k : Int)
  | [], s, k, hk, _, _ => by simp at hk
  | x :: l, s, k, hk, h1, h2 => by
    unfold findG
    cases k with
    | zero => rw [if_pos (by simpa using h1)]; rfl
    | succ k =>
      have h0 : ¬ x = s := by simpa using h2 0 (by omega)
      have := find_at (l := l) (s := s) (k := k) (by simpa using hk) (by simpa using h1) (fun j h => by simpa using h2 (j + 1) (by omega))
      rw [if_neg h0, this, if_neg (by omega)]
      omega
theorem find_no : ∀ {l : List (List UInt8)} {s : List UInt8}, s ∉ l → findG l s = -1
  | [], s, _ => rfl
  | x :: l, s, h => by
    unfold findG
    rw [if_neg (fun e => h (by simp [e])), find_no (fun hm => h (by simp [hm])), if_pos (by omega)]
theorem find_yes : ∀ {l : List (List UInt8)} {s : List UInt8}, s ∈ l → ∃ (k : Nat) (hk : k < l.length), findG l s = (k : Int) ∧ l[k] = s ∧ ∀ j (h : j < k), l[j]'(by omega) ≠ s
  | [], s, h => by simp at h
  | x :: l, s, h => by
    unfold findG
    by_cases e : x = s
    · exact ⟨0, by simp, by rw [if_pos e]; rfl, by simpa using e, fun j hj => by omega⟩
    · have hm : s ∈ l := by
        rcases List.mem_cons.1 h with q | q
        · exact absurd q.symm e
        · exact q
      obtain ⟨k, hk, h1, h2, h3⟩ := find_yes hm
      refine ⟨k + 1, by simp; omega, by rw [if_neg e, h1, if_neg (by omega)]; omega, by simpa using h2, fun j hj => ?_⟩
      cases j with
      | zero => simpa using e
      | succ j => simpa using h3 j (by omega)
theorem find_le {l : List (List UInt8)} {i : Nat} (hi : i < l.length) : ∃ k : Nat, findG l l[i] = (k : Int) ∧ k ≤ i ∧ (k = i ↔ ∀ j (h : j < i), l[j]'(by omega) ≠ l[i]) := by
  obtain ⟨k, hk, h1, h2, h3⟩ := find_yes (List.getElem_mem hi)
  have hle : k ≤ i := by
    rcases Nat.lt_or_ge i k with q | q
    · exact absurd rfl (h3 i q)
    · exact q
  refine ⟨k, h1, hle, fun e => ?_, fun h => ?_⟩
  · subst e; exact h3
  · rcases Nat.lt_or_ge k i with q | q
    · exact absurd h2 (h k q)
    · omega
theorem nodup_iff {α : Type} {l : List α} : l.Nodup ↔ ∀ i (hi : i < l.length) j (hj : j < i), l[j]'(by omega) ≠ l[i] := by
  unfold List.Nodup
  rw [List.pairwise_iff_getElem]
  exact ⟨fun h i hi j hj => h j i (by omega) hi hj, fun h i j hi hj hij => h j hj i hij⟩
/-- A grammar that may be. -/
structure ValidG (g : GramG) : Prop where
  one : 1 ≤ g.names.length
  syms : g.names.length + g.terms.length ≤ 256
  few : g.rules.length ≤ 4096
  names : ∀ n ∈ g.names, nameB n = true
  nodupN : g.names.Nodup
  has : ∀ i : Nat, i < g.names.length → ∃ r ∈ g.rules, r.left = (i : Int)
  terms : ∀ t ∈ g.terms, termB t = true
  nodupT : g.terms.Nodup
  rules : ∀ r ∈ g.rules, 0 ≤ r.left ∧ r.left < (g.names.length : Int) ∧ r.right.length ≤ 64 ∧ ∀ s ∈ r.right, -(g.terms.length : Int) ≤ s ∧ s < (g.names.length : Int)
  nodupR : g.rules.Nodup
noncomputable def validB (g : GramG) : Bool := boolOf (ValidG g)
noncomputable def sameB (g h : GramG) : Bool := boolOf (g = h)
/-- The rules of a nonterminal: their numbers. -/
def ofFrom : List RuleG → Int → Nat → List Int
  | [], _, _ => []
  | r :: l, a, i => if r.left = a then (i : Int) :: ofFrom l a (i + 1) else ofFrom l a (i + 1)
def ofG (g : GramG) (a : Int) : List Int := ofFrom g.rules a 0
/-- A small grammar. -/
def FewG (g : GramG) : Prop := g.names.length ≤ 12 ∧ g.terms.length ≤ 12 ∧ g.rules.length ≤ 40 ∧ (∀ r ∈ g.rules, r.right.length ≤ 20) ∧ (∀ n ∈ g.names, n.length ≤ 40) ∧ ∀ t ∈ g.terms, t.length ≤ 40
noncomputable def fewB (g : GramG) : Int := if boolOf (FewG g) = true then 1 else 0
/-- A symbol as an item. -/
def itemG (g : GramG) (s : Int) : ItemD := if s < 0 then ⟨true, g.terms.getD (-1 - s).toNat []⟩ else ⟨false, g.names.getD s.toNat []⟩
def altsG (g : GramG) (i : Nat) : List (List ItemD) := (g.rules.filter fun r => decide (r.left = (i : Int))).map fun r => r.right.map (itemG g)
/-- A grammar's lines. -/
def linesG (g : GramG) : List LineD := g.names.zipIdx.map fun p => ⟨p.1, altsG g p.2⟩
/-- The terminals of items, in the order in which they first stand. -/
def addT (acc : List (List UInt8)) (i : ItemD) : List (List UInt8) := if i.term = true ∧ i.text ∉ acc then acc ++ [i.text] else acc
def itemsOf (ls : List LineD) : List ItemD := ls.flatMap fun l => l.alts.flatten
def termsOf (is : List ItemD) : List (List UInt8) := is.foldl addT []
def symG (names terms : List (List UInt8)) (i : ItemD) : Int := if i.term then -1 - findG terms i.text else findG names i.text
def rulesOf (names terms : List (List UInt8)) (ls : List LineD) : List RuleG := ls.zipIdx.flatMap fun p => p.1.alts.map fun a => ⟨(p.2 : Int), a.map (symG names terms)⟩
def gramOf (ls : List LineD) : GramG := ⟨ls.map (·.name), termsOf (itemsOf ls), rulesOf (ls.map (·.name)) (termsOf (itemsOf ls)) ls⟩
def emptyG : GramG := ⟨[], [], []⟩
structure ResD where
  g : GramG
  err : Int
/-- The alternatives are too many, or too long. -/
def BoundL (ls : List LineD) : Prop := (∃ l ∈ ls, ∃ a ∈ l.alts, 64 < a.length) ∨ 4096 < (ls.map fun l => l.alts.length).sum ∨ 256 < ls.length
def UndefL (ls : List LineD) : Prop := ∃ i ∈ itemsOf ls, i.term = false ∧ i.text ∉ ls.map (·.name)
/-- What lines come to. -/
noncomputable def resolveG (ls : List LineD) : ResD :=
  if boolOf (BoundL ls) = true then ⟨emptyG, 19⟩
  else if boolOf ((ls.map (·.name)).Nodup) = false then ⟨emptyG, 15⟩
  else if boolOf (UndefL ls) = true then ⟨emptyG, 16⟩
  else if 256 < (gramOf ls).names.length + (gramOf ls).terms.length then ⟨emptyG, 19⟩
  else if boolOf ((gramOf ls).rules.Nodup) = false then ⟨emptyG, 15⟩
  else ⟨gramOf ls, 0⟩
/-- How many terminals have been seen; none: one came too early. -/
def seenG : List Int → Nat → Option Nat
  | [], n => some n
  | s :: l, n => if s < 0 ∧ (n : Int) < -1 - s then none else if s < 0 ∧ -1 - s = (n : Int) then seenG l (n + 1) else seenG l n
/-- The rules stand by rising left sides, the terminals in their order. -/
def OrderG (g : GramG) : Prop := (∀ i (h : i + 1 < g.rules.length), (g.rules[i]'(by omega)).left ≤ (g.rules[i + 1]'h).left) ∧ seenG (g.rules.flatMap (·.right)) 0 = some g.terms.length
end Go.Proofs.Ytmcekpgmebanaaa

/-! Plain mathematics of directories as sorted lists (layer 9). Nothing here names the program. -/
namespace Go.Proofs.Ytmcekpgmebanaaa

/-- Byte by byte; a string that is a prefix of another one precedes it. -/
def lessB : List UInt8 → List UInt8 → Bool
  | _, [] => false
  | [], _ :: _ => true
  | a :: x, b :: y => if a = b then lessB x y else decide (a.toNat < b.toNat)
theorem lessB_irr : ∀ a : List UInt8, lessB a a = false
  | [] => rfl
  | a :: x => by rw [lessB, if_pos rfl]; exact lessB_irr x
theorem lessB_trans : ∀ a b c : List UInt8, lessB a b = true → lessB b c = true → lessB a c = true
  | _, [], _, h, _ => by cases ‹List UInt8› <;> simp [lessB] at h
  | _, _ :: _, [], _, h => by simp [lessB] at h
  | [], _ :: _, _ :: _, _, _ => rfl
  | a :: x, b :: y, c :: z, h, k => by
    rw [lessB] at h k ⊢
    by_cases e : a = b
    · subst e
      rw [if_pos rfl] at h
      by_cases e2 : a = c
      · subst e2
        rw [if_pos rfl] at k ⊢
        exact lessB_trans x y z h k
      · rw [if_neg e2] at k ⊢
        exact k
    · rw [if_neg e] at h
      have h' := of_decide_eq_true h
      by_cases e2 : b = c
      · subst e2
        rw [if_neg e]
        exact h
      · rw [if_neg e2] at k
        have k' := of_decide_eq_true k
        have e3 : a ≠ c := by intro q; subst q; omega
        rw [if_neg e3]
        exact decide_eq_true (by omega)
theorem lessB_total : ∀ a b : List UInt8, a ≠ b → lessB a b = false → lessB b a = true
  | [], [], h, _ => (h rfl).elim
  | [], _ :: _, _, h => by simp [lessB] at h
  | _ :: _, [], _, _ => rfl
  | a :: x, b :: y, h, k => by
    rw [lessB] at k ⊢
    by_cases e : a = b
    · subst e
      rw [if_pos rfl] at k ⊢
      exact lessB_total x y (fun q => h (by rw [q])) k
    · rw [if_neg e] at k
      rw [if_neg (Ne.symm e)]
      have := of_decide_eq_false k
      have hne : a.toNat ≠ b.toNat := fun q => e (UInt8.toNat_inj.1 q)
      exact decide_eq_true (by omega)
theorem lessB_ne {a b : List UInt8} (h : lessB a b = true) : a ≠ b := by rintro rfl; rw [lessB_irr] at h; cases h
theorem lessB_asym {a b : List UInt8} (h : lessB a b = true) : lessB b a = false := by
  cases k : lessB b a with
  | false => rfl
  | true => have := lessB_trans _ _ _ h k; rw [lessB_irr] at this; cases this
/-- Where the first i bytes are the same, the others tell. -/
theorem lessB_drop : ∀ (i : Nat) (a b : List UInt8), a.take i = b.take i → i ≤ a.length → i ≤ b.length → lessB a b = lessB (a.drop i) (b.drop i)
  | 0, _, _, _, _, _ => rfl
  | _ + 1, [], _, _, h, _ => by simp at h
  | _ + 1, _ :: _, [], _, _, h => by simp at h
  | i + 1, a :: x, b :: y, h, h1, h2 => by
    simp only [List.take_succ_cons, List.cons.injEq] at h
    obtain ⟨rfl, h⟩ := h
    rw [lessB, if_pos rfl, List.drop_succ_cons, List.drop_succ_cons]
    exact lessB_drop i x y h (by simpa using h1) (by simpa using h2)
theorem lessB_at (i : Nat) (a b : List UInt8) (h : a.take i = b.take i) (h1 : i < a.length) (h2 : i < b.length) (hne : a[i]'h1 ≠ b[i]'h2) : lessB a b = decide ((a[i]'h1).toNat < (b[i]'h2).toNat) := by
  rw [lessB_drop i a b h (by omega) (by omega), List.drop_eq_getElem_cons h1, List.drop_eq_getElem_cons h2, lessB, if_neg hne]
theorem lessB_end (a b : List UInt8) (i : Nat) (hi : i = min a.length b.length) (h : a.take i = b.take i) : lessB a b = decide (a.length < b.length) := by
  rw [lessB_drop i a b h (by omega) (by omega)]
  rcases Nat.lt_or_ge a.length b.length with q | q
  · rw [decide_eq_true q, List.drop_eq_nil_of_le (by omega), List.drop_eq_getElem_cons (show i < b.length by omega)]
    rfl
  · rw [decide_eq_false (by omega), (show b.drop i = [] from List.drop_eq_nil_of_le (by omega))]
    cases a.drop i <;> rfl

/-- A name and its number. -/
abbrev Ent := List UInt8 × Int
def findL : List Ent → List UInt8 → Option Nat
  | [], _ => none
  | e :: r, m => if e.1 = m then some 0 else (findL r m).map (· + 1)
def lookL (l : List Ent) (m : List UInt8) : Option Int := (l.find? fun e => e.1 = m).map (·.2)
def withoutL (l : List Ent) (m : List UInt8) : List Ent := l.filter fun e => e.1 ≠ m
/-- The entry ahead of the first one that it precedes. -/
def insL (x : Ent) : List Ent → List Ent
  | [] => [x]
  | e :: r => if lessB x.1 e.1 then x :: e :: r else e :: insL x r
def withL (l : List Ent) (m : List UInt8) (n : Int) : List Ent := insL (m, n) (withoutL l m)
def sortedL (l : List Ent) : Prop := l.Pairwise fun a b => lessB a.1 b.1 = true

theorem lookL_nil (m : List UInt8) : lookL [] m = none := rfl
theorem lookL_cons (e : Ent) (r : List Ent) (m : List UInt8) : lookL (e :: r) m = if e.1 = m then some e.2 else lookL r m := by
  unfold lookL
  rw [List.find?_cons]
  by_cases h : e.1 = m <;> simp [h]
theorem findL_some : ∀ (l : List Ent) (m : List UInt8) (i : Nat), findL l m = some i → ∃ h : i < l.length, (l[i]'h).1 = m ∧ lookL l m = some (l[i]'h).2
  | [], _, _, h => by cases h
  | e :: r, m, i, h => by
    rw [findL] at h
    by_cases q : e.1 = m
    · rw [if_pos q] at h
      cases h
      exact ⟨by simp, q, by rw [lookL_cons, if_pos q]; rfl⟩
    · rw [if_neg q] at h
      cases hf : findL r m with
      | none => rw [hf] at h; cases h
      | some j =>
        rw [hf] at h
        cases h
        obtain ⟨h1, h2, h3⟩ := findL_some r m j hf
        exact ⟨by simp; omega, by simpa using h2, by rw [lookL_cons, if_neg q, h3]; simp⟩
theorem findL_none : ∀ (l : List Ent) (m : List UInt8), findL l m = none ↔ lookL l m = none
  | [], _ => by simp [findL, lookL]
  | e :: r, m => by
    rw [findL, lookL_cons]
    by_cases q : e.1 = m
    · simp [q]
    · rw [if_neg q, if_neg q]
      simp [findL_none r m]
theorem look_without (l : List Ent) (m x : List UInt8) : lookL (withoutL l m) x = if x = m then none else lookL l x := by
  induction l with
  | nil => simp [withoutL, lookL]
  | cons e r ih =>
    unfold withoutL at ih ⊢
    rw [List.filter_cons]
    by_cases q : e.1 = m
    · rw [if_neg (by simp [q]), ih, lookL_cons]
      by_cases z : x = m
      · rw [if_pos z, if_pos z]
      · rw [if_neg z, if_neg z, if_neg (by intro h; exact z (h.symm.trans q))]
    · rw [if_pos (by simp [q]), lookL_cons, lookL_cons, ih]
      by_cases z : e.1 = x
      · rw [if_pos z, if_neg (by intro h; exact q (z.trans h)), if_pos z]
      · rw [if_neg z, if_neg z]
theorem look_ins (y : Ent) : ∀ (l : List Ent) (x : List UInt8), lookL l y.1 = none → lookL (insL y l) x = if x = y.1 then some y.2 else lookL l x
  | [], x, _ => by
    rw [insL, lookL_cons]
    by_cases z : x = y.1
    · rw [if_pos z.symm, if_pos z]
    · rw [if_neg (fun h => z h.symm), if_neg z]
  | e :: r, x, h => by
    rw [lookL_cons] at h
    by_cases q : e.1 = y.1
    · rw [if_pos q] at h; cases h
    · rw [if_neg q] at h
      rw [insL]
      by_cases c : lessB y.1 e.1 = true
      · rw [if_pos c, lookL_cons]
        by_cases z : x = y.1
        · rw [if_pos z.symm, if_pos z]
        · rw [if_neg (fun h => z h.symm), if_neg z]
      · rw [if_neg c, lookL_cons, lookL_cons, look_ins y r x h]
        by_cases z : e.1 = x
        · rw [if_pos z, if_neg (by intro h; exact q (z.trans h)), if_pos z]
        · rw [if_neg z, if_neg z]
theorem look_with (l : List Ent) (m : List UInt8) (n : Int) (x : List UInt8) : lookL (withL l m n) x = if x = m then some n else lookL l x := by
  rw [withL, look_ins _ _ _ (by rw [look_without, if_pos rfl]), look_without]
  by_cases z : x = m
  · rw [if_pos z, if_pos z]
  · rw [if_neg z, if_neg z, if_neg z]
theorem sorted_without {l : List Ent} (h : sortedL l) (m : List UInt8) : sortedL (withoutL l m) := List.Pairwise.filter _ h
theorem mem_ins (y : Ent) : ∀ (l : List Ent) (e : Ent), e ∈ insL y l → e = y ∨ e ∈ l
  | [], e, h => by simp [insL] at h; exact .inl h
  | a :: r, e, h => by
    rw [insL] at h
    split at h
    · rcases List.mem_cons.1 h with h | h
      · exact .inl h
      · exact .inr h
    · rcases List.mem_cons.1 h with h | h
      · exact .inr (by simp [h])
      · rcases mem_ins y r e h with h | h
        · exact .inl h
        · exact .inr (by simp [h])
theorem sorted_ins (y : Ent) : ∀ l : List Ent, sortedL l → (∀ e ∈ l, e.1 ≠ y.1) → sortedL (insL y l)
  | [], _, _ => by simp [insL, sortedL]
  | e :: r, h, hn => by
    obtain ⟨h1, h2⟩ := List.pairwise_cons.1 h
    rw [insL]
    by_cases c : lessB y.1 e.1 = true
    · rw [if_pos c]
      refine List.pairwise_cons.2 ⟨fun a ha => ?_, h⟩
      rcases List.mem_cons.1 ha with rfl | ha
      · exact c
      · exact lessB_trans _ _ _ c (h1 a ha)
    · rw [if_neg c]
      refine List.pairwise_cons.2 ⟨fun a ha => ?_, sorted_ins y r h2 (fun a ha => hn a (by simp [ha]))⟩
      rcases mem_ins y r a ha with rfl | ha
      · exact lessB_total _ _ (Ne.symm (hn e (by simp))) (by simpa using c)
      · exact h1 a ha
theorem sorted_with {l : List Ent} (h : sortedL l) (m : List UInt8) (n : Int) : sortedL (withL l m n) :=
  sorted_ins _ _ (sorted_without h m) (fun e he => by simpa [withoutL] using (List.mem_filter.1 he).2)
theorem look_mem {l : List Ent} (h : sortedL l) : ∀ e, e ∈ l → lookL l e.1 = some e.2 := by
  induction l with
  | nil => intro e he; cases he
  | cons a r ih =>
    intro e he
    obtain ⟨h1, h2⟩ := List.pairwise_cons.1 h
    rw [lookL_cons]
    rcases List.mem_cons.1 he with rfl | he
    · rw [if_pos rfl]
    · rw [if_neg (lessB_ne (h1 e he)), ih h2 e he]
theorem mem_look {l : List Ent} {m : List UInt8} {n : Int} (h : lookL l m = some n) : (m, n) ∈ l := by
  unfold lookL at h
  obtain ⟨e, he, h2⟩ := Option.map_eq_some_iff.1 h
  have h3 := List.find?_some he
  have h4 := List.mem_of_find?_eq_some he
  simp only [decide_eq_true_eq] at h3
  rw [← h3, ← h2]
  exact h4
/-- The names of a sorted list are the only ascending list of what is there. -/
theorem names_unique : ∀ (ns : List (List UInt8)) (l : List Ent), ns.Pairwise (fun a b => lessB a b = true) → sortedL l → (∀ m, m ∈ ns ↔ lookL l m ≠ none) → ns = l.map (·.1)
  | [], [], _, _, _ => rfl
  | [], e :: r, _, _, h => by
    have := (h e.1).2 (by rw [lookL_cons, if_pos rfl]; simp)
    cases this
  | n :: ns, [], _, _, h => by
    have := (h n).1 (by simp)
    exact (this rfl).elim
  | n :: ns, e :: r, hp, hs, h => by
    obtain ⟨p1, p2⟩ := List.pairwise_cons.1 hp
    obtain ⟨s1, s2⟩ := List.pairwise_cons.1 hs
    have hmem : ∀ m, lookL (e :: r) m ≠ none → m = e.1 ∨ lessB e.1 m = true := by
      intro m hm
      cases hq : lookL (e :: r) m with
      | none => exact (hm hq).elim
      | some v =>
        rcases List.mem_cons.1 (mem_look hq) with q | q
        · left; rw [← q]
        · right; exact s1 _ q
    have he : e.1 = n := by
      rcases List.mem_cons.1 ((h e.1).2 (by rw [lookL_cons, if_pos rfl]; simp)) with q | q
      · exact q
      · rcases hmem n ((h n).1 (by simp)) with q2 | q2
        · exact q2.symm
        · have := lessB_asym (p1 _ q); rw [q2] at this; cases this
    have hrest : ∀ m, m ∈ ns ↔ lookL r m ≠ none := by
      intro m
      by_cases q : e.1 = m
      · constructor
        · intro hm
          have := lessB_ne (p1 m hm)
          exact (this (he.symm.trans q)).elim
        · intro hm
          cases hq : lookL r m with
          | none => exact (hm hq).elim
          | some v => exact ((lessB_ne (s1 _ (mem_look hq))) q).elim
      · have h2 := h m
        rw [lookL_cons, if_neg q, List.mem_cons] at h2
        rw [← h2]
        constructor
        · exact .inr
        · rintro (h3 | h3)
          · exact (q (he.trans h3.symm)).elim
          · exact h3
    rw [List.map_cons, names_unique ns r p2 s2 hrest, he]
theorem sorted_eq : ∀ (l l' : List Ent), sortedL l → sortedL l' → (∀ m, lookL l m = lookL l' m) → l = l' := by
  intro l l' h h' hl
  have hn : l.map (·.1) = l'.map (·.1) := names_unique _ l' (List.pairwise_map.2 h) h' (fun m => by
    rw [← hl m]
    constructor
    · intro hm
      obtain ⟨e, he, rfl⟩ := List.mem_map.1 hm
      rw [look_mem h e he]; simp
    · intro hm
      cases hq : lookL l m with
      | none => exact (hm hq).elim
      | some v => exact List.mem_map.2 ⟨(m, v), mem_look hq, rfl⟩)
  have hlen : l.length = l'.length := by simpa using congrArg List.length hn
  apply List.ext_getElem hlen
  intro i h1 h2
  have e1 : (l[i]'h1).1 = (l'[i]'h2).1 := by
    have := congrArg (fun x => x[i]?) hn
    simpa [h1, h2] using this
  have a1 := look_mem h _ (List.getElem_mem h1)
  have a2 := look_mem h' _ (List.getElem_mem h2)
  rw [hl, e1, a2] at a1
  exact Prod.ext e1 (Option.some.inj a1).symm

/-- What was done: put (0), dropped (1), moved (2). -/
structure OpD where
  kind : Int
  a : List UInt8
  b : List UInt8
  n : Int
def applyL (l : List Ent) (o : OpD) : List Ent :=
  if o.kind = 0 then withL l o.a o.n else if o.kind = 1 then withoutL l o.a else
    match lookL l o.a with
    | none => l
    | some v => withL (withoutL l o.a) o.b v
theorem sorted_apply {l : List Ent} (h : sortedL l) (o : OpD) : sortedL (applyL l o) := by
  unfold applyL
  split
  · exact sorted_with h _ _
  · split
    · exact sorted_without h _
    · split
      · exact h
      · exact sorted_with (sorted_without h _) _ _
/-- What a name's number is behind an operation. -/
theorem look_apply (l : List Ent) (o : OpD) (x : List UInt8) : lookL (applyL l o) x =
    if o.kind = 0 then (if x = o.a then some o.n else lookL l x) else if o.kind = 1 then (if x = o.a then none else lookL l x) else
      match lookL l o.a with
      | none => lookL l x
      | some v => if x = o.b then some v else if x = o.a then none else lookL l x := by
  unfold applyL
  split
  · exact look_with _ _ _ _
  · split
    · exact look_without _ _ _
    · split
      · rfl
      · rw [look_with, look_without]
def mayL (l : List Ent) (o : OpD) : Bool := (lookL l o.a).isSome == decide (o.kind ≠ 0)
/-- What a crash leaves. -/
def crashL : List Ent → List OpD → List Bool → List Ent
  | l, o :: r, true :: k => crashL (applyL l o) r k
  | l, _, _ => l
theorem sorted_crash : ∀ (l : List Ent) (r : List OpD) (k : List Bool), sortedL l → sortedL (crashL l r k)
  | l, [], _, h => by simpa [crashL] using h
  | l, _ :: _, [], h => by simpa [crashL] using h
  | l, _ :: _, false :: _, h => by simpa [crashL] using h
  | l, o :: r, true :: k, h => by rw [crashL]; exact sorted_crash _ r k (sorted_apply h o)
/-- All of what is pending, kept. -/
theorem crash_all : ∀ (l : List Ent) (r : List OpD) (m : Nat), m = r.length → crashL l r (List.replicate m true) = r.foldl applyL l
  | l, [], _, h => by subst h; rfl
  | l, o :: r, _, h => by subst h; rw [List.length_cons, List.replicate_succ, crashL, crash_all _ r _ rfl]; rfl
theorem crash_none (l : List Ent) (r : List OpD) : crashL l r [] = l := by cases r <;> rfl
theorem dropsame (o : OpD) (h : o.kind ≠ 0) (h1 : o.kind ≠ 1) (hab : o.a = o.b) (l : List Ent) (hl : sortedL l) : applyL l o = l := by
  apply sorted_eq _ _ (sorted_apply hl o) hl
  intro m
  rw [look_apply, if_neg h, if_neg h1]
  split
  · rfl
  · next v hv =>
    rw [← hab]
    by_cases q : m = o.a
    · rw [if_pos q, q, hv]
    · rw [if_neg q, if_neg q]
end Go.Proofs.Ytmcekpgmebanaaa

/-! Lookahead words (layer 18): plain mathematics. Nothing here names the program. -/
namespace Go.Proofs.Ytmcekpgmebanaaa

def cutW (w : List UInt8) (k : Int) : List UInt8 := w.take k.toNat
def belowW (w : List UInt8) (n : Int) : Bool := w.all fun b => decide ((b.toNat : Int) < n)
def validW (w : List UInt8) (t k : Int) : Bool := decide ((w.length : Int) ≤ k) && belowW w t
def extW (t : Nat) (w : List UInt8) : List (List UInt8) := (List.range t).map fun i => w ++ [UInt8.ofNat i]
/-- The words when so many of them are extended. -/
def wordsW (t : Nat) : Nat → List (List UInt8)
  | 0 => [[]]
  | j + 1 => wordsW t j ++ extW t ((wordsW t j).getD j [])
def wordW (t j i : Nat) : List UInt8 := (wordsW t j).getD i []
def goesW (t k j : Nat) : Prop := j < (wordsW t j).length ∧ (wordW t j j).length < k
def AllIs (t k : Nat) (r : Option (List (List UInt8))) : Prop :=
  ∃ j, (∀ i, i < j → goesW t k i ∧ (wordsW t i).length + t ≤ 4096) ∧ ((¬ goesW t k j ∧ r = some (wordsW t j)) ∨ (goesW t k j ∧ 4096 < (wordsW t j).length + t ∧ r = none))
theorem AllIs.one {t k : Nat} {r r' : Option (List (List UInt8))} (h : AllIs t k r) (h' : AllIs t k r') : r = r' := by
  obtain ⟨j, h1, h2⟩ := h
  obtain ⟨j', h1', h2'⟩ := h'
  have key : ∀ (j j' : Nat) (r r' : Option (List (List UInt8))), (∀ i, i < j' → goesW t k i ∧ (wordsW t i).length + t ≤ 4096) → ((¬ goesW t k j ∧ r = some (wordsW t j)) ∨ (goesW t k j ∧ 4096 < (wordsW t j).length + t ∧ r = none)) → j' ≤ j := by
    intro j j' r r' a b
    apply Nat.le_of_not_lt
    intro hlt
    obtain ⟨c, d⟩ := a j hlt
    rcases b with ⟨b, -⟩ | ⟨-, b, -⟩
    · exact b c
    · omega
  have e : j = j' := Nat.le_antisymm (key j' j r' r h1 h2') (key j j' r r' h1' h2)
  subst e
  rcases h2 with ⟨a, rfl⟩ | ⟨a, b, rfl⟩ <;> rcases h2' with ⟨a', rfl⟩ | ⟨a', b', rfl⟩
  · rfl
  · exact (a a').elim
  · exact (a' a).elim
  · rfl
def AllV (t k : Int) (l : List (List UInt8)) : Prop :=
  ((k < 0 ∨ t < 0 ∨ 256 < t) ∧ l = []) ∨ (0 ≤ k ∧ 0 ≤ t ∧ t ≤ 256 ∧ ∃ r, AllIs t.toNat k.toNat r ∧ l = r.getD [])
theorem AllV.one {t k : Int} {l l' : List (List UInt8)} (h : AllV t k l) (h' : AllV t k l') : l = l' := by
  rcases h with ⟨a, rfl⟩ | ⟨a, b, c, r, d, rfl⟩ <;> rcases h' with ⟨a', rfl⟩ | ⟨a', b', c', r', d', rfl⟩
  · rfl
  · omega
  · omega
  · rw [d.one d']
theorem extW_len (t : Nat) (w : List UInt8) : (extW t w).length = t := by simp [extW]
theorem wordsW_len (t : Nat) : ∀ j, (wordsW t j).length = 1 + j * t
  | 0 => by simp [wordsW]
  | j + 1 => by rw [wordsW, List.length_append, wordsW_len t j, extW_len, Nat.succ_mul]; omega
theorem wordsW_pre (t : Nat) : ∀ {i j : Nat}, i ≤ j → ∃ s, wordsW t j = wordsW t i ++ s := by
  intro i j h
  induction j with
  | zero => obtain rfl : i = 0 := by omega
            exact ⟨[], by simp⟩
  | succ j ih =>
    by_cases e : i = j + 1
    · subst e; exact ⟨[], by simp⟩
    · obtain ⟨s, hs⟩ := ih (by omega)
      exact ⟨s ++ extW t ((wordsW t j).getD j []), by rw [wordsW, ← List.append_assoc, ← hs]⟩
theorem wordW_pre (t : Nat) {i j q : Nat} (h : i ≤ j) (hq : q < (wordsW t i).length) : wordW t j q = wordW t i q := by
  obtain ⟨s, hs⟩ := wordsW_pre t h
  unfold wordW
  rw [hs, List.getD_eq_getElem?_getD, List.getD_eq_getElem?_getD, List.getElem?_append_left hq]
theorem wordsW_mem (t : Nat) : ∀ (j : Nat) (w : List UInt8), w ∈ wordsW t (j + 1) → w ∈ wordsW t j ∨ ∃ i, i < t ∧ w = wordW t j j ++ [UInt8.ofNat i] := by
  intro j w h
  rw [wordsW] at h
  rcases List.mem_append.1 h with h | h
  · exact .inl h
  · obtain ⟨i, hi, rfl⟩ := List.mem_map.1 h
    exact .inr ⟨i, List.mem_range.1 hi, rfl⟩
theorem wordW_all (t j q : Nat) (P : List UInt8 → Prop) (h0 : P []) (h : ∀ w ∈ wordsW t j, P w) : P (wordW t j q) := by
  unfold wordW
  rw [List.getD_eq_getElem?_getD]
  rcases Nat.lt_or_ge q (wordsW t j).length with hq | hq
  · rw [List.getElem?_eq_getElem hq]; exact h _ (List.getElem_mem hq)
  · rw [List.getElem?_eq_none hq]; exact h0
theorem wordsW_short (t : Nat) : ∀ (j : Nat), ∀ w ∈ wordsW t j, w.length ≤ j
  | 0, w, h => by simp [wordsW] at h; simp [h]
  | j + 1, w, h => by
    rcases wordsW_mem t j w h with h | ⟨i, _, rfl⟩
    · have := wordsW_short t j w h; omega
    · have := wordW_all t j j (fun w => w.length ≤ j) (by simp) (wordsW_short t j)
      simp; omega
theorem wordsW_below (t : Nat) (ht : t ≤ 256) : ∀ (j : Nat), ∀ w ∈ wordsW t j, ∀ b ∈ w, b.toNat < t
  | 0, w, h => by simp [wordsW] at h; simp [h]
  | j + 1, w, h => by
    rcases wordsW_mem t j w h with h | ⟨i, hi, rfl⟩
    · exact wordsW_below t ht j w h
    · intro b hb
      rcases List.mem_append.1 hb with hb | hb
      · exact wordW_all t j j (fun w => ∀ b ∈ w, b.toNat < t) (by simp) (wordsW_below t ht j) b hb
      · obtain rfl := List.mem_singleton.1 hb
        rw [UInt8.toNat_ofNat']; omega
theorem wordsW_most (t k : Nat) : ∀ (j : Nat), (∀ i, i < j → goesW t k i) → ∀ w ∈ wordsW t j, w.length ≤ k
  | 0, _, w, h => by simp [wordsW] at h; simp [h]
  | j + 1, hg, w, h => by
    rcases wordsW_mem t j w h with h | ⟨i, _, rfl⟩
    · exact wordsW_most t k j (fun i hi => hg i (by omega)) w h
    · have := (hg j (by omega)).2
      simp; omega
theorem all_valid {t k : Int} {l : List (List UInt8)} (h : AllV t k l) : ∀ w ∈ l, validW w t k = true := by
  rcases h with ⟨-, rfl⟩ | ⟨h0, h1, h2, r, ⟨j, hj, hr⟩, rfl⟩
  · simp
  · rcases hr with ⟨-, rfl⟩ | ⟨-, -, rfl⟩
    · intro w hw
      have a := wordsW_most t.toNat k.toNat j (fun i hi => (hj i hi).1) w hw
      have b := wordsW_below t.toNat (by omega) j w hw
      unfold validW belowW
      rw [Bool.and_eq_true, decide_eq_true_eq, List.all_eq_true]
      exact ⟨by omega, fun x hx => decide_eq_true (by have := b x hx; omega)⟩
    · simp
/-- A level: from one on, as many as there were, all words are of one length; then those behind them are one longer. -/
theorem wordsW_level (t f m : Nat) (h : ∀ i, f ≤ i → i < (wordsW t f).length → (wordW t f i).length = m) :
    ∀ j, f ≤ j → j ≤ (wordsW t f).length → ∀ i, (wordsW t f).length ≤ i → i < (wordsW t j).length → (wordW t j i).length = m + 1 := by
  intro j hfj
  induction j with
  | zero =>
    intro _ i h1 h2
    obtain rfl : f = 0 := by omega
    omega
  | succ j ih =>
    intro hj i h1 h2
    by_cases hf : f = j + 1
    · subst hf; omega
    · by_cases hi : i < (wordsW t j).length
      · rw [wordW_pre t (Nat.le_succ j) hi]
        exact ih (by omega) (by omega) i h1 hi
      · have hw : (wordW t j j).length = m := by
          rw [wordW_pre t (show f ≤ j by omega) (by omega)]
          exact h j (by omega) (by omega)
        unfold wordW
        rw [List.getD_eq_getElem?_getD, List.getElem?_eq_getElem h2, Option.getD_some]
        simp only [wordsW]
        rw [List.getElem_append_right (by omega)]
        simp only [extW, List.getElem_map, List.length_append]
        rw [show ((wordsW t j).getD j []).length = m from hw]
        rfl
/-- The level that stands at the end of the words: none of its words goes on. -/
theorem level_end (t k f : Nat) (h : ∀ i, f ≤ i → i < (wordsW t f).length → (wordW t f i).length = k) : ¬ goesW t k f := by
  rintro ⟨h1, h2⟩
  have := h f (Nat.le_refl _) h1
  omega
theorem extW_next (t n : Nat) (w : List UInt8) (h : n < t) : (extW t w).take (n + 1) = (extW t w).take n ++ [w ++ [UInt8.ofNat n]] := by
  rw [List.take_succ_eq_append_getElem (by rw [extW_len]; exact h)]
  simp [extW]
theorem extW_all (t : Nat) (w : List UInt8) : (extW t w).take t = extW t w := List.take_of_length_le (by rw [extW_len]; exact Nat.le_refl t)
end Go.Proofs.Ytmcekpgmebanaaa

/-! Sets of words (layer 19): plain mathematics. Nothing here names the program. -/
namespace Go.Proofs.Ytmcekpgmebanaaa

abbrev Words := List (List UInt8)
/-- A set: words in strictly ascending order. -/
def setW (l : Words) : Prop := l.Pairwise fun a b => lessB a b = true
/-- The place of a word among the first so many of a list, looked for from the end. -/
def placeW (l : Words) (w : List UInt8) : Nat → Nat
  | 0 => 0
  | k + 1 => if lessB w (l.getD k []) = true then placeW l w k else k + 1
def putW (l : Words) (w : List UInt8) : Words := if w ∈ l then l else l.take (placeW l w l.length) ++ [w] ++ l.drop (placeW l w l.length)
def ofW (l : Words) : Words := l.foldl putW []
def catsW (k : Int) (a b : Words) : Words := a.flatMap fun x => b.map fun y => cutW (x ++ y) k
def catW (k : Int) (a b : Words) : Words := ofW (catsW k a b)

theorem placeW_spec (l : Words) (w : List UInt8) : ∀ k, placeW l w k ≤ k ∧ (∀ j, placeW l w k ≤ j → j < k → lessB w (l.getD j []) = true) ∧ (placeW l w k = 0 ∨ lessB w (l.getD (placeW l w k - 1) []) = false)
  | 0 => ⟨Nat.le_refl _, fun j _ h => by omega, .inl rfl⟩
  | k + 1 => by
    obtain ⟨h1, h2, h3⟩ := placeW_spec l w k
    unfold placeW
    by_cases c : lessB w (l.getD k []) = true
    · rw [if_pos c]
      refine ⟨by omega, fun j hj hk => ?_, h3⟩
      by_cases e : j = k
      · subst e; exact c
      · exact h2 j hj (by omega)
    · rw [if_neg c]
      exact ⟨Nat.le_refl _, fun j hj hk => by omega, .inr (by simpa using c)⟩
theorem mem_putW {l : Words} {w x : List UInt8} : x ∈ putW l w ↔ x = w ∨ x ∈ l := by
  unfold putW
  split
  · rename_i h
    constructor
    · exact .inr
    · rintro (rfl | h') <;> assumption
  · rw [List.mem_append, List.mem_append, List.mem_singleton]
    have e := List.take_append_drop (placeW l w l.length) l
    constructor
    · rintro ((h | h) | h)
      · exact .inr (List.mem_of_mem_take h)
      · exact .inl h
      · exact .inr (List.mem_of_mem_drop h)
    · rintro (h | h)
      · exact .inl (.inr h)
      · rw [← e, List.mem_append] at h
        rcases h with h | h
        · exact .inl (.inl h)
        · exact .inr h
theorem setW.get {l : Words} (h : setW l) {i j : Nat} (hij : i < j) (hj : j < l.length) : lessB (l.getD i []) (l.getD j []) = true := by
  rw [List.getD_eq_getElem?_getD, List.getD_eq_getElem?_getD, List.getElem?_eq_getElem hj, List.getElem?_eq_getElem (Nat.lt_trans hij hj)]
  exact List.pairwise_iff_getElem.1 h i j _ hj hij
theorem set_putW {l : Words} {w : List UInt8} (h : setW l) : setW (putW l w) := by
  unfold putW
  split
  · exact h
  · rename_i hw
    obtain ⟨h1, h2, h3⟩ := placeW_spec l w l.length
    generalize placeW l w l.length = p at *
    have hlow : ∀ i, i < p → lessB (l.getD i []) w = true := by
      intro i hi
      rcases h3 with h3 | h3
      · omega
      · have hp : p - 1 < l.length := by omega
        have hm : l.getD (p - 1) [] ∈ l := by
          rw [List.getD_eq_getElem?_getD, List.getElem?_eq_getElem hp]; exact List.getElem_mem hp
        have hl := lessB_total w (l.getD (p - 1) []) (fun e => hw (e ▸ hm)) h3
        by_cases e : i = p - 1
        · subst e; exact hl
        · exact lessB_trans _ _ _ (h.get (show i < p - 1 by omega) hp) hl
    unfold setW
    rw [List.append_assoc, List.pairwise_append]
    refine ⟨List.Pairwise.sublist (List.take_sublist _ _) h, ?_, ?_⟩
    · rw [List.singleton_append, List.pairwise_cons]
      refine ⟨fun x hx => ?_, List.Pairwise.sublist (List.drop_sublist _ _) h⟩
      obtain ⟨i, hi, rfl⟩ := List.getElem_of_mem hx
      rw [List.length_drop] at hi
      have := h2 (p + i) (by omega) (by omega)
      rw [List.getD_eq_getElem?_getD, List.getElem?_eq_getElem (by omega)] at this
      rw [List.getElem_drop]
      exact this
    · intro a ha b hb
      obtain ⟨i, hi, rfl⟩ := List.getElem_of_mem ha
      rw [List.length_take] at hi
      have hia : lessB ((l.take p)[i]'(by rw [List.length_take]; exact hi)) w = true := by
        have := hlow i (by omega)
        rw [List.getD_eq_getElem?_getD, List.getElem?_eq_getElem (by omega)] at this
        rw [List.getElem_take]
        exact this
      rcases List.mem_append.1 hb with hb | hb
      · rw [List.mem_singleton.1 hb]; exact hia
      · obtain ⟨j, hj, rfl⟩ := List.getElem_of_mem hb
        rw [List.length_drop] at hj
        have := h.get (show i < p + j by omega) (by omega)
        rw [List.getD_eq_getElem?_getD, List.getD_eq_getElem?_getD, List.getElem?_eq_getElem (by omega), List.getElem?_eq_getElem (by omega)] at this
        rw [List.getElem_take, List.getElem_drop]
        exact this
theorem fold_put (l : Words) : ∀ o : Words, setW o → setW (l.foldl putW o) ∧ ∀ x, x ∈ l.foldl putW o ↔ x ∈ o ∨ x ∈ l := by
  induction l with
  | nil => exact fun o h => ⟨h, fun x => by simp⟩
  | cons y l ih =>
    intro o h
    obtain ⟨h1, h2⟩ := ih (putW o y) (set_putW h)
    refine ⟨h1, fun x => ?_⟩
    rw [List.foldl_cons, h2 x, mem_putW, List.mem_cons]
    constructor
    · rintro ((a | a) | a)
      · exact .inr (.inl a)
      · exact .inl a
      · exact .inr (.inr a)
    · rintro (a | a | a)
      · exact .inl (.inr a)
      · exact .inl (.inl a)
      · exact .inr a
theorem set_nil : setW [] := List.Pairwise.nil
theorem set_ofW (l : Words) : setW (ofW l) := (fold_put l [] set_nil).1
theorem mem_ofW {l : Words} {x : List UInt8} : x ∈ ofW l ↔ x ∈ l := by
  unfold ofW
  rw [(fold_put l [] set_nil).2 x]
  simp
theorem setW.tail {x : List UInt8} {l : Words} (h : setW (x :: l)) : setW l := (List.pairwise_cons.1 h).2
theorem setW.head {x : List UInt8} {l : Words} (h : setW (x :: l)) : ∀ y ∈ l, lessB x y = true := (List.pairwise_cons.1 h).1
theorem setW.one : ∀ {a b : Words}, setW a → setW b → (∀ x, x ∈ a ↔ x ∈ b) → a = b
  | [], [], _, _, _ => rfl
  | [], y :: b, _, _, h => by have := (h y).2 (by simp); simp at this
  | x :: a, [], _, _, h => by have := (h x).1 (by simp); simp at this
  | x :: a, y :: b, ha, hb, h => by
    have e : x = y := by
      apply Classical.byContradiction
      intro hne
      have h1 := (h x).1 (by simp)
      have h2 := (h y).2 (by simp)
      rcases List.mem_cons.1 h1 with h1 | h1
      · exact hne h1
      · rcases List.mem_cons.1 h2 with h2 | h2
        · exact hne h2.symm
        · have a1 := hb.head x h1
          have a2 := ha.head y h2
          rw [lessB_asym a1] at a2
          cases a2
    subst e
    congr 1
    refine setW.one ha.tail hb.tail fun z => ?_
    have hz := h z
    rw [List.mem_cons, List.mem_cons] at hz
    constructor
    · intro hm
      rcases hz.1 (.inr hm) with e | e
      · subst e; have := ha.head z hm; rw [lessB_irr] at this; cases this
      · exact e
    · intro hm
      rcases hz.2 (.inr hm) with e | e
      · subst e; have := hb.head z hm; rw [lessB_irr] at this; cases this
      · exact e
theorem ofW_set {l : Words} (h : setW l) : ofW l = l := (set_ofW l).one h (fun _ => mem_ofW)
theorem ofW_same {a b : Words} (h : ∀ x, x ∈ a ↔ x ∈ b) : ofW a = ofW b := (set_ofW a).one (set_ofW b) (fun x => by rw [mem_ofW, mem_ofW, h x])
theorem putW_len (l : Words) (w : List UInt8) : (putW l w).length ≤ l.length + 1 := by
  unfold putW
  split
  · omega
  · simp; omega
theorem fold_len (l : Words) : ∀ o : Words, (l.foldl putW o).length ≤ o.length + l.length := by
  induction l with
  | nil => intro o; simp
  | cons y l ih =>
    intro o
    have := ih (putW o y)
    have := putW_len o y
    rw [List.foldl_cons, List.length_cons]
    omega
theorem ofW_len (l : Words) : (ofW l).length ≤ l.length := by have := fold_len l []; simpa [ofW] using this
theorem ofW_next {l : Words} {i : Nat} (h : i < l.length) : ofW (l.take (i + 1)) = putW (ofW (l.take i)) (l[i]'h) := by
  unfold ofW
  rw [List.take_succ_eq_append_getElem h, List.foldl_append]
  rfl
theorem mem_catW {k : Int} {a b : Words} {w : List UInt8} : w ∈ catW k a b ↔ ∃ x ∈ a, ∃ y ∈ b, w = cutW (x ++ y) k := by
  unfold catW catsW
  rw [mem_ofW, List.mem_flatMap]
  constructor
  · rintro ⟨x, hx, h⟩
    obtain ⟨y, hy, rfl⟩ := List.mem_map.1 h
    exact ⟨x, hx, y, hy, rfl⟩
  · rintro ⟨x, hx, y, hy, rfl⟩
    exact ⟨x, hx, List.mem_map.2 ⟨y, hy, rfl⟩⟩
theorem set_catW (k : Int) (a b : Words) : setW (catW k a b) := set_ofW _
theorem catsW_len (k : Int) : ∀ (a b : Words), (catsW k a b).length = a.length * b.length
  | [], b => by simp [catsW]
  | x :: a, b => by
    have := catsW_len k a b
    unfold catsW at this ⊢
    rw [List.flatMap_cons, List.length_append, this, List.length_map, List.length_cons, Nat.succ_mul]
    omega
theorem catW_len (k : Int) (a b : Words) : (catW k a b).length ≤ a.length * b.length := by
  have := ofW_len (catsW k a b)
  rw [catsW_len] at this
  exact this
theorem setW.nodup {l : Words} (h : setW l) : l.Nodup := List.Pairwise.imp (fun h => lessB_ne h) h
theorem nodup_le : ∀ (l m : Words), l.Nodup → (∀ x ∈ l, x ∈ m) → l.length ≤ m.length
  | [], m, _, _ => by simp
  | x :: l, m, hn, hs => by
    obtain ⟨hx, hn'⟩ := List.nodup_cons.1 hn
    have hm := hs x (by simp)
    have h1 := nodup_le l (m.erase x) hn' (fun y hy => (List.mem_erase_of_ne (show y ≠ x from fun e => hx (by rw [← e]; exact hy))).2 (hs y (by simp [hy])))
    rw [List.length_erase_of_mem hm] at h1
    have := List.length_pos_of_mem hm
    rw [List.length_cons]
    omega
/-- A list without repetitions, put in order, stays as long. -/
theorem ofW_nodup_len {l : Words} (h : l.Nodup) : (ofW l).length = l.length := by
  refine Nat.le_antisymm (ofW_len l) ?_
  exact nodup_le l (ofW l) h (fun x hx => mem_ofW.2 hx)
def isSetB : Words → Bool
  | x :: y :: l => lessB x y && isSetB (y :: l)
  | _ => true
theorem isSetB_iff : ∀ l : Words, isSetB l = true ↔ setW l
  | [] => by simp [isSetB, setW]
  | [x] => by simp [isSetB, setW]
  | x :: y :: l => by
    rw [isSetB, Bool.and_eq_true, isSetB_iff (y :: l), show setW (x :: y :: l) ↔ (∀ z ∈ y :: l, lessB x z = true) ∧ setW (y :: l) from List.pairwise_cons]
    constructor
    · rintro ⟨h1, h2⟩
      refine ⟨fun z hz => ?_, h2⟩
      rcases List.mem_cons.1 hz with rfl | hz
      · exact h1
      · exact lessB_trans _ _ _ h1 (setW.head h2 z hz)
    · rintro ⟨h1, h2⟩
      exact ⟨h1 y (by simp), h2⟩
theorem isSetB_get {l : Words} (h : isSetB l = true) (i : Nat) (hi : i + 1 < l.length) : lessB (l[i]'(by omega)) (l[i + 1]'hi) = true :=
  List.pairwise_iff_getElem.1 ((isSetB_iff l).1 h) i (i + 1) _ hi (Nat.lt_succ_self i)
theorem isSetB_of : ∀ {l : Words}, (∀ i (hi : i + 1 < l.length), lessB (l[i]'(by omega)) (l[i + 1]'hi) = true) → isSetB l = true
  | [], _ => rfl
  | [x], _ => rfl
  | x :: y :: l, h => by
    rw [isSetB, Bool.and_eq_true]
    exact ⟨h 0 (by simp), isSetB_of (fun i hi => h (i + 1) (by simpa using hi))⟩
end Go.Proofs.Ytmcekpgmebanaaa

/-! Plain mathematics of sorting by insertion from behind, as a document may write it; orders on texts, symbols and rules (layer 16). Nothing here names the program. -/
namespace Go.Proofs.Ytmcekpgmebanaaa

/-- A strict order in which different things of D can be told apart. -/
structure Ord {α : Type} (D : α → Prop) (lt : α → α → Bool) : Prop where
  irr : ∀ a, lt a a = false
  trans : ∀ a b c, lt a b = true → lt b c = true → lt a c = true
  tot : ∀ a b, D a → D b → a ≠ b → lt a b = false → lt b a = true
/-- Where x goes among the first n, not before the first 'stay'. -/
def insPos {α : Type} (lt : α → α → Bool) (stay : Nat) (x : α) (out : List α) : Nat → Nat
  | 0 => 0
  | n + 1 => if stay < n + 1 ∧ (out[n]?.map (lt x)) = some true then insPos lt stay x out n else n + 1
def insB {α : Type} (lt : α → α → Bool) (stay : Nat) (out : List α) (x : α) : List α := out.take (insPos lt stay x out out.length) ++ x :: out.drop (insPos lt stay x out out.length)
def sortB {α : Type} (lt : α → α → Bool) (stay : Nat) (l : List α) : List α := l.foldl (insB lt stay) []
theorem insPos_le {α : Type} (lt : α → α → Bool) (stay : Nat) (x : α) (out : List α) : ∀ n, insPos lt stay x out n ≤ n
  | 0 => Nat.le_refl _
  | n + 1 => by
    unfold insPos
    split
    · have := insPos_le lt stay x out n; omega
    · exact Nat.le_refl _
theorem insB_perm {α : Type} (lt : α → α → Bool) (stay : Nat) (out : List α) (x : α) : List.Perm (insB lt stay out x) (x :: out) := by
  unfold insB
  have h := (List.perm_middle (a := x) (l₁ := out.take (insPos lt stay x out out.length)) (l₂ := out.drop (insPos lt stay x out out.length)))
  rw [List.take_append_drop] at h
  exact h
theorem sortB_fold {α : Type} (lt : α → α → Bool) (stay : Nat) : ∀ (l out : List α), List.Perm (l.foldl (insB lt stay) out) (out ++ l)
  | [], out => by rw [List.append_nil]; exact List.Perm.refl _
  | x :: l, out => by
    rw [List.foldl_cons]
    refine (sortB_fold lt stay l _).trans ?_
    refine ((insB_perm lt stay out x).append_right l).trans ?_
    rw [List.cons_append]
    exact List.perm_middle.symm
theorem sortB_perm {α : Type} (lt : α → α → Bool) (stay : Nat) (l : List α) : List.Perm (sortB lt stay l) l := sortB_fold lt stay l []
theorem sortB_len {α : Type} (lt : α → α → Bool) (stay : Nat) (l : List α) : (sortB lt stay l).length = l.length := (sortB_perm lt stay l).length_eq
/-- Nothing stands ahead of what it is less than. -/
def Rising {α : Type} (lt : α → α → Bool) (l : List α) : Prop := l.Pairwise fun a b => lt b a = false
theorem le_trans_of {α : Type} {D : α → Prop} {lt : α → α → Bool} (h : Ord D lt) {a b c : α} (da : D a) (db : D b) (h1 : lt b a = false) (h2 : lt c b = false) : lt c a = false := by
  cases e : lt c a with
  | false => rfl
  | true =>
    exfalso
    by_cases e1 : a = b
    · subst e1; rw [h2] at e; cases e
    · have h3 : lt a b = true := h.tot b a db da (fun q => e1 q.symm) h1
      have := h.trans c a b e h3
      rw [h2] at this
      cases this
theorem take_pos {α : Type} {lt : α → α → Bool} {x : α} {out : List α} : ∀ n, n ≤ out.length → ∀ j (h : j < out.length), insPos lt 0 x out n ≤ j → j < n → lt x (out[j]'h) = true
  | 0, _, j, _, _, h2 => by omega
  | n + 1, hn, j, h, h1, h2 => by
    unfold insPos at h1
    split at h1
    · next q =>
      by_cases e : j = n
      · subst e
        have := q.2
        rw [List.getElem?_eq_getElem h] at this
        simpa using this
      · exact take_pos n (by omega) j h h1 (by omega)
    · omega
theorem pos_ahead {α : Type} {lt : α → α → Bool} {x : α} {out : List α} : ∀ n, n ≤ out.length → ∀ p, p = insPos lt 0 x out n → 0 < p → ∃ h : p - 1 < out.length, lt x (out[p - 1]'h) = false
  | 0, _, p, e, h => by rw [e] at h; simp [insPos] at h
  | n + 1, hn, p, e, hpos => by
    have e1 : insPos lt 0 x out (n + 1) = if 0 < n + 1 ∧ (out[n]?.map (lt x)) = some true then insPos lt 0 x out n else n + 1 := rfl
    by_cases q : 0 < n + 1 ∧ (out[n]?.map (lt x)) = some true
    · rw [if_pos q] at e1
      exact pos_ahead n (by omega) p (e.trans e1) hpos
    · rw [if_neg q] at e1
      obtain rfl : p = n + 1 := e.trans e1
      refine ⟨by omega, ?_⟩
      show lt x (out[n]'(by omega)) = false
      have hq : ¬ (out[n]?.map (lt x)) = some true := fun e => q ⟨by omega, e⟩
      rw [List.getElem?_eq_getElem (by omega)] at hq
      simpa using hq
theorem rising_insB {α : Type} {D : α → Prop} {lt : α → α → Bool} (h : Ord D lt) {out : List α} (x : α) (hd : ∀ y ∈ out, D y) (ho : Rising lt out) : Rising lt (insB lt 0 out x) := by
  unfold insB Rising
  have hp := insPos_le lt 0 x out out.length
  obtain ⟨p, hpe⟩ : ∃ p, p = insPos lt 0 x out out.length := ⟨_, rfl⟩
  have h1 : ∀ j (hj : j < out.length), p ≤ j → lt x (out[j]'hj) = true := fun j hj hpj => take_pos out.length (Nat.le_refl _) j hj (by rw [← hpe]; exact hpj) hj
  have h2 : ∀ j (hj : j < out.length), j < p → lt x (out[j]'hj) = false := by
    intro j hj hjp
    obtain ⟨hq, hlt⟩ := pos_ahead (lt := lt) (x := x) (out := out) out.length (Nat.le_refl _) p hpe (by omega)
    by_cases e : j = p - 1
    · subst e; exact hlt
    · exact le_trans_of h (hd _ (List.getElem_mem hj)) (hd _ (List.getElem_mem hq)) (List.pairwise_iff_getElem.1 ho j (p - 1) hj hq (by omega)) hlt
  rw [← hpe] at hp ⊢
  rw [List.pairwise_append, List.pairwise_cons]
  refine ⟨List.Pairwise.sublist (List.take_sublist _ _) ho, ⟨fun y hy => ?_, List.Pairwise.sublist (List.drop_sublist _ _) ho⟩, fun a ha b hb => ?_⟩
  · obtain ⟨j, hj, rfl⟩ := List.getElem_of_mem hy
    rw [List.length_drop] at hj
    rw [List.getElem_drop]
    have h3 := h1 (p + j) (by omega) (by omega)
    cases e : lt (out[p + j]'(by omega)) x with
    | false => rfl
    | true => have := h.trans _ _ _ h3 e; rw [h.irr] at this; cases this
  · obtain ⟨i, hi, rfl⟩ := List.getElem_of_mem ha
    rw [List.length_take] at hi
    rw [List.getElem_take]
    have hx := h2 i (by omega) (by omega)
    rcases List.mem_cons.1 hb with rfl | hb
    · exact hx
    · obtain ⟨j, hj, rfl⟩ := List.getElem_of_mem hb
      rw [List.length_drop] at hj
      rw [List.getElem_drop]
      exact List.pairwise_iff_getElem.1 ho i (p + j) (by omega) (by omega) (by omega)
theorem insB_mem {α : Type} {lt : α → α → Bool} {stay : Nat} {out : List α} {x y : α} : y ∈ insB lt stay out x ↔ y = x ∨ y ∈ out := by
  rw [(insB_perm lt stay out x).mem_iff, List.mem_cons]
theorem rising_fold {α : Type} {D : α → Prop} {lt : α → α → Bool} (h : Ord D lt) : ∀ (l out : List α), (∀ y ∈ l, D y) → (∀ y ∈ out, D y) → Rising lt out → Rising lt (l.foldl (insB lt 0) out)
  | [], _, _, _, ho => ho
  | x :: l, _, hl, hd, ho => rising_fold h l _ (fun y hy => hl y (by simp [hy])) (fun y hy => (insB_mem.1 hy).elim (fun e => e ▸ hl x (by simp)) (hd y)) (rising_insB h x hd ho)
theorem sortB_rising {α : Type} {D : α → Prop} {lt : α → α → Bool} (h : Ord D lt) {l : List α} (hl : ∀ y ∈ l, D y) : Rising lt (sortB lt 0 l) := rising_fold h l [] hl (by simp) List.Pairwise.nil
/-- There is one rising list of the same things. -/
theorem rising_unique {α : Type} {D : α → Prop} {lt : α → α → Bool} (h : Ord D lt) : ∀ {a b : List α}, (∀ y ∈ a, D y) → List.Perm a b → Rising lt a → Rising lt b → a = b
  | [], b, _, hp, _, _ => by have := hp.length_eq; simp at this; exact (List.eq_nil_of_length_eq_zero this.symm).symm
  | x :: a, [], _, hp, _, _ => by have := hp.length_eq; simp at this
  | x :: a, y :: b, hd, hp, ha, hb => by
    obtain ⟨ha1, ha2⟩ := List.pairwise_cons.1 ha
    obtain ⟨hb1, hb2⟩ := List.pairwise_cons.1 hb
    have e : x = y := by
      apply Classical.byContradiction
      intro hne
      have hx : x ∈ b := by
        rcases List.mem_cons.1 (hp.mem_iff.1 (by simp : x ∈ x :: a)) with q | q
        · exact absurd q hne
        · exact q
      have hy : y ∈ a := by
        rcases List.mem_cons.1 (hp.mem_iff.2 (by simp : y ∈ y :: b)) with q | q
        · exact absurd q.symm hne
        · exact q
      have h1 := ha1 y hy
      have h2 := hb1 x hx
      have := h.tot x y (hd x (by simp)) (hd y (by simp [hy])) hne h2
      rw [h1] at this
      cases this
    subst e
    rw [rising_unique h (fun z hz => hd z (by simp [hz])) (List.Perm.cons_inv hp) ha2 hb2]
theorem sortB_mem {α : Type} {lt : α → α → Bool} {stay : Nat} {l : List α} {y : α} : y ∈ sortB lt stay l ↔ y ∈ l := (sortB_perm lt stay l).mem_iff
theorem sortB_unique {α : Type} {D : α → Prop} {lt : α → α → Bool} (h : Ord D lt) {a b : List α} (hd : ∀ y ∈ a, D y) (hp : List.Perm a b) : sortB lt 0 a = sortB lt 0 b :=
  rising_unique h (fun y hy => hd y (sortB_mem.1 hy)) (((sortB_perm lt 0 a).trans hp).trans (sortB_perm lt 0 b).symm) (sortB_rising h hd) (sortB_rising h (fun y hy => hd y (hp.mem_iff.2 hy)))
theorem sortB_id {α : Type} {D : α → Prop} {lt : α → α → Bool} (h : Ord D lt) {a : List α} (hd : ∀ y ∈ a, D y) (ha : Rising lt a) : sortB lt 0 a = a := rising_unique h (fun y hy => hd y (sortB_mem.1 hy)) (sortB_perm lt 0 a) (sortB_rising h hd) ha

/-! The first one stays. -/
theorem insPos_one {α : Type} (lt : α → α → Bool) (x f : α) (out : List α) : ∀ n, insPos lt 1 x (f :: out) (n + 1) = insPos lt 0 x out n + 1
  | 0 => by
    have e1 : insPos lt 1 x (f :: out) 1 = if 1 < 1 ∧ ((f :: out)[0]?.map (lt x)) = some true then insPos lt 1 x (f :: out) 0 else 1 := rfl
    rw [e1, if_neg (fun h => absurd h.1 (by omega))]
    rfl
  | n + 1 => by
    have e1 : insPos lt 1 x (f :: out) (n + 1 + 1) = if 1 < n + 1 + 1 ∧ (out[n]?.map (lt x)) = some true then insPos lt 1 x (f :: out) (n + 1) else n + 1 + 1 := rfl
    have e2 : insPos lt 0 x out (n + 1) = if 0 < n + 1 ∧ (out[n]?.map (lt x)) = some true then insPos lt 0 x out n else n + 1 := rfl
    rw [e1, e2]
    by_cases q : (out[n]?.map (lt x)) = some true
    · rw [if_pos ⟨by omega, q⟩, if_pos ⟨by omega, q⟩]
      exact insPos_one lt x f out n
    · rw [if_neg (fun h => q h.2), if_neg (fun h => q h.2)]
theorem insB_one {α : Type} (lt : α → α → Bool) (x f : α) (out : List α) : insB lt 1 (f :: out) x = f :: insB lt 0 out x := by
  unfold insB
  rw [List.length_cons, insPos_one]
  rfl
theorem fold_one {α : Type} (lt : α → α → Bool) (f : α) : ∀ (l out : List α), l.foldl (insB lt 1) (f :: out) = f :: l.foldl (insB lt 0) out
  | [], _ => rfl
  | x :: l, out => by rw [List.foldl_cons, List.foldl_cons, insB_one, fold_one lt f l]
theorem sort_one {α : Type} (lt : α → α → Bool) (f : α) (l : List α) : sortB lt 1 (f :: l) = f :: sortB lt 0 l := by
  unfold sortB
  rw [List.foldl_cons]
  exact fold_one lt f l []

/-! Orders. -/
def AnyS (_ : List UInt8) : Prop := True
theorem ord_bytes : Ord AnyS lessB := ⟨lessB_irr, lessB_trans, fun a b _ _ => lessB_total a b⟩
/-- The rank of a symbol: terminals ahead. -/
def rankG (s : Int) : Int := if s < 0 then -1 - s else 1000 + s
def lessSyms : List Int → List Int → Bool
  | [], [] => false
  | [], _ :: _ => true
  | _ :: _, [] => false
  | a :: x, b :: y => if a = b then lessSyms x y else decide (rankG a < rankG b)
def lessR (a b : RuleG) : Bool := if a.left = b.left then lessSyms a.right b.right else decide (a.left < b.left)
/-- The symbols of a rule are as few as a grammar's. -/
def FewS (r : RuleG) : Prop := ∀ s ∈ r.right, -1000 ≤ s
theorem rank_inj {a b : Int} (ha : -1000 ≤ a) (hb : -1000 ≤ b) (h : rankG a = rankG b) : a = b := by
  unfold rankG at h
  split at h <;> split at h <;> omega
theorem syms_irr : ∀ a, lessSyms a a = false
  | [] => rfl
  | a :: x => by unfold lessSyms; rw [if_pos rfl]; exact syms_irr x
theorem syms_trans : ∀ a b c, lessSyms a b = true → lessSyms b c = true → lessSyms a c = true
  | [], [], _, h, _ => by simp [lessSyms] at h
  | [], _ :: _, [], _, k => by simp [lessSyms] at k
  | [], _ :: _, _ :: _, _, _ => rfl
  | _ :: _, [], _, h, _ => by simp [lessSyms] at h
  | _ :: _, _ :: _, [], _, k => by simp [lessSyms] at k
  | a :: x, b :: y, c :: z, h, k => by
    unfold lessSyms at h k ⊢
    by_cases e1 : a = b
    · rw [if_pos e1] at h
      by_cases e2 : b = c
      · rw [if_pos e2] at k
        rw [if_pos (e1.trans e2)]
        exact syms_trans x y z h k
      · rw [if_neg e2] at k
        rw [if_neg (fun e => e2 (e1.symm.trans e)), e1]
        exact k
    · rw [if_neg e1] at h
      by_cases e2 : b = c
      · subst e2
        rw [if_neg e1]
        exact h
      · rw [if_neg e2] at k
        have h' := of_decide_eq_true h
        have k' := of_decide_eq_true k
        rw [if_neg (fun e => by subst e; omega)]
        exact decide_eq_true (by omega)
theorem syms_tot : ∀ a b, (∀ s ∈ a, -1000 ≤ s) → (∀ s ∈ b, -1000 ≤ s) → a ≠ b → lessSyms a b = false → lessSyms b a = true
  | [], [], _, _, h, _ => (h rfl).elim
  | [], _ :: _, _, _, _, k => by simp [lessSyms] at k
  | _ :: _, [], _, _, _, _ => rfl
  | a :: x, b :: y, ha, hb, h, k => by
    unfold lessSyms at k ⊢
    by_cases e : a = b
    · rw [if_pos e] at k
      rw [if_pos e.symm]
      exact syms_tot x y (fun s hs => ha s (by simp [hs])) (fun s hs => hb s (by simp [hs])) (fun q => h (by rw [e, q])) k
    · rw [if_neg e] at k
      rw [if_neg (fun q => e q.symm)]
      have k' := of_decide_eq_false k
      have : rankG a ≠ rankG b := fun q => e (rank_inj (ha a (by simp)) (hb b (by simp)) q)
      exact decide_eq_true (by omega)
theorem ord_rules : Ord FewS lessR where
  irr := fun a => by unfold lessR; rw [if_pos rfl]; exact syms_irr _
  trans := fun a b c h k => by
    unfold lessR at h k ⊢
    by_cases e1 : a.left = b.left
    · rw [if_pos e1] at h
      by_cases e2 : b.left = c.left
      · rw [if_pos e2] at k
        rw [if_pos (e1.trans e2)]
        exact syms_trans _ _ _ h k
      · rw [if_neg e2] at k
        rw [if_neg (fun e => e2 (e1.symm.trans e)), e1]
        exact k
    · rw [if_neg e1] at h
      by_cases e2 : b.left = c.left
      · rw [if_neg (fun e => e1 (e.trans e2.symm)), ← e2]
        exact h
      · rw [if_neg e2] at k
        have h' := of_decide_eq_true h
        have k' := of_decide_eq_true k
        rw [if_neg (by omega)]
        exact decide_eq_true (by omega)
  tot := fun a b ha hb h k => by
    unfold lessR at k ⊢
    by_cases e : a.left = b.left
    · rw [if_pos e] at k
      rw [if_pos e.symm]
      exact syms_tot _ _ ha hb (fun q => h (RuleG.ext' e q)) k
    · rw [if_neg e] at k
      rw [if_neg (fun q => e q.symm)]
      have k' := of_decide_eq_false k
      exact decide_eq_true (by omega)
theorem syms_at : ∀ (k : Nat) (a b : List Int) (ha : k < a.length) (hb : k < b.length), (∀ j (_ : j < k) (h1 : j < a.length) (h2 : j < b.length), a[j]'h1 = b[j]'h2) → a[k]'ha ≠ b[k]'hb → lessSyms a b = decide (rankG (a[k]'ha) < rankG (b[k]'hb))
  | _, [], _, ha, _, _, _ => by simp at ha
  | _, _ :: _, [], _, hb, _, _ => by simp at hb
  | 0, x :: a, y :: b, _, _, _, hne => by
    have hne' : x ≠ y := hne
    unfold lessSyms
    rw [if_neg hne']
    rfl
  | k + 1, x :: a, y :: b, ha, hb, hall, hne => by
    have e : x = y := hall 0 (by omega) (by simp) (by simp)
    have ih := syms_at k a b (by simpa using ha) (by simpa using hb) (fun j hj h1 h2 => hall (j + 1) (by omega) (by simpa using h1) (by simpa using h2)) hne
    unfold lessSyms
    rw [if_pos e]
    exact ih
theorem syms_end : ∀ (a b : List Int), (∀ j (h1 : j < a.length) (h2 : j < b.length), a[j]'h1 = b[j]'h2) → lessSyms a b = decide (a.length < b.length)
  | [], [], _ => rfl
  | [], _ :: _, _ => (decide_eq_true (by simp)).symm
  | _ :: _, [], _ => (decide_eq_false (by simp)).symm
  | x :: a, y :: b, hall => by
    have e : x = y := hall 0 (by simp) (by simp)
    have ih := syms_end a b (fun j h1 h2 => hall (j + 1) (by simpa using h1) (by simpa using h2))
    unfold lessSyms
    rw [if_pos e, ih]
    simp
end Go.Proofs.Ytmcekpgmebanaaa

/-! The sizes of grammars and lines (layer 14). Nothing here names the program. -/
namespace Go.Proofs.Ytmcekpgmebanaaa

/-- No part is larger than any machine of today would have it. -/
structure SizeG (g : GramG) : Prop where
  names : g.names.length ≤ 100000
  terms : g.terms.length ≤ 100000
  rules : g.rules.length ≤ 100000
  right : ∀ r ∈ g.rules, r.right.length ≤ 100000
  name : ∀ n ∈ g.names, n.length ≤ 100000
  term : ∀ t ∈ g.terms, t.length ≤ 100000
/-- The symbols are what 64 bits hold (below). -/
def IntG (g : GramG) : Prop := ∀ r ∈ g.rules, ∀ s ∈ r.right, -9223372036854775808 ≤ s
structure SizeL (ls : List LineD) : Prop where
  lines : ls.length ≤ 100000
  alts : ∀ l ∈ ls, l.alts.length ≤ 100000
  name : ∀ l ∈ ls, l.name.length ≤ 100000
  items : ∀ l ∈ ls, ∀ a ∈ l.alts, a.length ≤ 100000
  text : ∀ l ∈ ls, ∀ a ∈ l.alts, ∀ i ∈ a, i.text.length ≤ 100000
end Go.Proofs.Ytmcekpgmebanaaa

/-! Lines al text are read al the same lines (layer 13): plain mathematics. -/
namespace Go.Proofs.Ytmcekpgmebanaaa

/-- What a token may be. -/
def tkOk (k : Tk) : Prop := (k.1 = 1 ∧ nameB k.2 = true) ∨ (k.1 = 2 ∧ termB k.2 = true) ∨ k.1 = 3 ∨ k.1 = 4 ∨ k.1 = 5
theorem takeWhile_yes (p : UInt8 → Bool) : ∀ l : List UInt8, (l.takeWhile p).all p = true
  | [] => rfl
  | c :: t => by
    rw [List.takeWhile_cons]
    split
    · next h => rw [List.all_cons, h, takeWhile_yes p t]; rfl
    · rfl
theorem next_ok {c : UInt8} {t : List UInt8} (h : (nextD c t).err = 0) : tkOk ((nextD c t).kind, (nextD c t).text) ∧ (nextD c t).text.length ≤ (nextD c t).n := by
  unfold nextD at h ⊢
  by_cases h1 : c = 58
  · rw [if_pos h1]; exact ⟨.inr (.inr (.inl rfl)), Nat.le_refl _⟩
  · rw [if_neg h1] at h ⊢
    by_cases h2 : c = 124
    · rw [if_pos h2]; exact ⟨.inr (.inr (.inr (.inl rfl))), Nat.le_refl _⟩
    · rw [if_neg h2] at h ⊢
      by_cases h3 : c = 59
      · rw [if_pos h3]; exact ⟨.inr (.inr (.inr (.inr rfl))), Nat.le_refl _⟩
      · rw [if_neg h3] at h ⊢
        by_cases h4 : letterB c = true
        · rw [if_pos h4] at h ⊢
          by_cases h5 : 32 < ((c :: t).takeWhile moreB).length
          · rw [if_pos h5] at h; simp [noneD] at h
          · rw [if_neg h5]
            refine ⟨.inl ⟨rfl, ?_⟩, Nat.le_refl _⟩
            have hm : moreB c = true := (letter_num h4).2.2.2.2.2
            have hy := takeWhile_yes moreB (c :: t)
            have hc : (c :: t).takeWhile moreB = c :: t.takeWhile moreB := by rw [List.takeWhile_cons, if_pos hm]
            unfold nameB
            simp only
            rw [hy, hc, decide_eq_true (by rw [hc] at h5; simp at h5 ⊢; omega)]
            simp only
            rw [h4]; rfl
        · rw [if_neg h4] at h ⊢
          by_cases h5 : c = 39
          · rw [if_pos h5] at h ⊢
            unfold termD at h ⊢
            by_cases h6 : (t.drop (t.takeWhile termC).length).head? = some 39 ∧ t.takeWhile termC ≠ []
            · rw [if_pos h6] at h ⊢
              by_cases h7 : 32 < (t.takeWhile termC).length
              · rw [if_pos h7] at h; simp [noneD] at h
              · rw [if_neg h7]
                refine ⟨.inr (.inl ⟨rfl, ?_⟩), by simp⟩
                have hp : 0 < (t.takeWhile termC).length := List.length_pos_iff.2 h6.2
                unfold termB
                simp only
                rw [takeWhile_yes termC t, decide_eq_true (by omega)]; rfl
            · rw [if_neg h6] at h; simp [noneD] at h
          · rw [if_neg h5] at h; simp [noneD] at h
def wtK (k : Tk) : Nat := k.2.length + 4
theorem lex_sound {r : List UInt8} {p : Nat} : (∀ t ∈ (lexD r p).toks, tkOk t.tk) ∧ (((lexD r p).toks.map fun t => wtK t.tk).sum ≤ 5 * r.length) := by
  induction r, p using lexD.induct with
  | case1 p => rw [lex_nil]; simp
  | case2 p c t hb ih => rw [lex_blank t p hb]; exact ⟨ih.1, by have := ih.2; simp only [List.length_cons]; omega⟩
  | case3 p t hb ih =>
    rw [lex_note]
    have := restC_le t
    exact ⟨ih.1, by have := ih.2; simp only [List.length_cons]; omega⟩
  | case4 p c t hb h3 he => rw [lex_err t p (by simpa using hb) h3 he]; simp
  | case5 p c t hb h3 he ih =>
    rw [lexD, if_neg hb, if_neg h3, if_neg he]
    have he0 : (nextD c t).err = 0 := by simpa using he
    have hpos := next_pos he0
    have hok := next_ok he0
    have ih2 := ih.2
    rw [List.length_cons] at hpos ⊢
    rw [List.length_drop] at ih2
    unfold consD
    split
    · refine ⟨fun x hx => ?_, ?_⟩
      · rw [List.mem_cons] at hx
        rcases hx with rfl | hx
        · exact hok.1
        · exact ih.1 x hx
      · rw [List.map_cons, List.sum_cons]
        have : wtK (TokD.tk ⟨(nextD c t).kind, (nextD c t).text, p⟩) = (nextD c t).text.length + 4 := rfl
        rw [this]
        have := hok.2
        omega
    · exact ⟨ih.1, by omega⟩
/-- r gives these tokens, wherever it stands. -/
def Lx (r : List UInt8) (ks : List Tk) : Prop := ∀ p, (lexD r p).err = 0 ∧ (lexD r p).toks.map TokD.tk = ks
theorem Lx.nil : Lx [] [] := fun p => by rw [lex_nil]; exact ⟨rfl, rfl⟩
theorem Lx.blank {c : UInt8} {r : List UInt8} {ks : List Tk} (hc : blankB c = true) (h : Lx r ks) : Lx (c :: r) ks := fun p => by rw [lex_blank r p hc]; exact h (p + 1)
theorem cons_ok {x : TokD} {r : LexD} {ks : List Tk} (h : r.err = 0 ∧ r.toks.map TokD.tk = ks) : (consD x r).err = 0 ∧ (consD x r).toks.map TokD.tk = x.tk :: ks := by
  unfold consD
  rw [if_pos h.1]
  exact ⟨rfl, by rw [List.map_cons, h.2]⟩
theorem Lx.one {c : UInt8} {k : Int} {r : List UInt8} {ks : List Tk} (hc : ∀ t, nextD c t = ⟨k, [c], 1, 0⟩) (hb : blankB c = false) (h35 : c ≠ 35) (h : Lx r ks) : Lx (c :: r) ((k, [c]) :: ks) := fun p => by
  rw [lex_tok r p hb h35 (by rw [hc]), hc]
  exact cons_ok (h (p + 1))
theorem Lx.name {n : List UInt8} {x : UInt8} {q : List UInt8} {ks : List Tk} (hn : nameB n = true) (hx : moreB x = false) (h : Lx (x :: q) ks) : Lx (n ++ x :: q) ((1, n) :: ks) := fun p => by
  unfold nameB at hn
  rw [Bool.and_eq_true, Bool.and_eq_true] at hn
  obtain ⟨⟨h1, h2⟩, h3⟩ := hn
  have h1' := of_decide_eq_true h1
  cases n with
  | nil => simp at h1'
  | cons c t =>
    simp only at h2
    obtain ⟨e1, e2, e3, e4, e5, e6⟩ := letter_num h2
    have hnx : nextD c (t ++ x :: q) = ⟨1, c :: t, (c :: t).length, 0⟩ := by
      unfold nextD
      rw [if_neg e1, if_neg e2, if_neg e3, if_pos h2, ← List.cons_append, takeWhile_stop (c :: t) x q hx, takeWhile_all h3, if_neg (by omega)]
    rw [List.cons_append, lex_tok _ p e5 e4 (by rw [hnx]), hnx, ← List.cons_append]
    simp only
    rw [List.drop_left]
    exact cons_ok (h _)
theorem Lx.term {t : List UInt8} {q : List UInt8} {ks : List Tk} (ht : termB t = true) (h : Lx q ks) : Lx (39 :: (t ++ 39 :: q)) ((2, t) :: ks) := fun p => by
  unfold termB at ht
  rw [Bool.and_eq_true] at ht
  have h1' := of_decide_eq_true ht.1
  have htw : (t ++ 39 :: q).takeWhile termC = t := by rw [takeWhile_stop t 39 q (by decide), takeWhile_all ht.2]
  have hnx : nextD 39 (t ++ 39 :: q) = ⟨2, t, t.length + 2, 0⟩ := by
    unfold nextD
    rw [if_neg (by decide), if_neg (by decide), if_neg (by decide), if_neg (by decide), if_pos rfl]
    unfold termD
    rw [htw, if_pos ⟨by simp, by intro e; rw [e] at h1'; simp at h1'⟩, if_neg (by omega)]
  rw [lex_tok _ p (by decide) (by decide) (by rw [hnx]), hnx]
  simp only
  have hd : (39 :: (t ++ 39 :: q)).drop (t.length + 2) = q := by
    rw [List.drop_succ_cons, List.drop_append, List.drop_eq_nil_of_le (by omega), show t.length + 1 - t.length = 1 from by omega]; rfl
  rw [hd]
  exact cons_ok (h _)
def itemOk (i : ItemD) : Prop := (if i.term then termB i.text else nameB i.text) = true
theorem lx_item {i : ItemD} (hi : itemOk i) {q : List UInt8} {ks : List Tk} (h : Lx (32 :: q) ks) : Lx (itemT i ++ 32 :: q) (itemK i :: ks) := by
  obtain ⟨b, x⟩ := i
  cases b with
  | true =>
    have : itemT ⟨true, x⟩ ++ 32 :: q = 32 :: 39 :: (x ++ 39 :: 32 :: q) := by simp [itemT]
    rw [this]
    exact (Lx.term hi h).blank (by decide)
  | false =>
    have : itemT ⟨false, x⟩ ++ 32 :: q = 32 :: (x ++ 32 :: q) := by simp [itemT]
    rw [this]
    exact (Lx.name hi (by decide) h).blank (by decide)
theorem lx_alt : ∀ (a : List ItemD), (∀ i ∈ a, itemOk i) → ∀ {q : List UInt8} {ks : List Tk}, Lx (32 :: q) ks → Lx (altT a ++ 32 :: q) (a.map itemK ++ ks) ∧ ∃ q', altT a ++ 32 :: q = 32 :: q'
  | [], _, q, ks, h => ⟨by simpa [altT] using h, q, rfl⟩
  | i :: r, hi, q, ks, h => by
    obtain ⟨h1, q', e⟩ := lx_alt r (fun x hx => hi x (by simp [hx])) h
    have h2 : altT (i :: r) ++ 32 :: q = itemT i ++ (altT r ++ 32 :: q) := by simp [altT]
    rw [h2]
    rw [e] at h1 ⊢
    refine ⟨lx_item (hi i (by simp)) h1, ?_⟩
    obtain ⟨b, x⟩ := i
    cases b <;> exact ⟨_, rfl⟩
theorem lx_bars : ∀ (r : List (List ItemD)), (∀ a ∈ r, ∀ i ∈ a, itemOk i) → ∀ {q : List UInt8} {ks : List Tk}, Lx (32 :: q) ks → Lx ((r.flatMap fun b => [32, 124] ++ altT b) ++ 32 :: q) ((r.flatMap fun b => (4, [124]) :: b.map itemK) ++ ks) ∧ ∃ q', (r.flatMap fun b => [32, 124] ++ altT b) ++ 32 :: q = 32 :: q'
  | [], _, q, ks, h => ⟨by simpa using h, q, rfl⟩
  | b :: r, hi, q, ks, h => by
    obtain ⟨h1, q', e⟩ := lx_bars r (fun a ha => hi a (by simp [ha])) h
    rw [e] at h1
    obtain ⟨h2, q2, e2⟩ := lx_alt b (hi b (by simp)) h1
    have h3 : (List.flatMap (fun b => [32, 124] ++ altT b) (b :: r)) ++ 32 :: q = 32 :: 124 :: (altT b ++ 32 :: q') := by
      rw [List.flatMap_cons, List.append_assoc, e]; simp
    rw [h3]
    refine ⟨?_, _, rfl⟩
    have := (Lx.one (c := 124) (k := 4) (fun t => rfl) (by decide) (by decide) h2).blank (c := 32) (by decide)
    simpa using this
def lineOk (l : LineD) : Prop := nameB l.name = true ∧ l.alts ≠ [] ∧ ∀ a ∈ l.alts, ∀ i ∈ a, itemOk i
theorem lx_line {l : LineD} (hl : lineOk l) {q : List UInt8} {ks : List Tk} (h : Lx q ks) : Lx (lineT l ++ q) (lineK l ++ ks) := by
  obtain ⟨n, al⟩ := l
  obtain ⟨h1, h2, h3⟩ := hl
  simp only at h1 h2 h3
  cases al with
  | nil => exact absurd rfl h2
  | cons a r =>
    have hend : Lx (32 :: 59 :: 10 :: q) ((5, [59]) :: ks) := (Lx.one (c := 59) (k := 5) (fun t => rfl) (by decide) (by decide) (h.blank (c := 10) (by decide))).blank (by decide)
    obtain ⟨g1, q1, e1⟩ := lx_bars r (fun b hb => h3 b (by simp [hb])) hend
    rw [e1] at g1
    obtain ⟨g2, q2, e2⟩ := lx_alt a (h3 a (by simp)) g1
    have hall : lineT ⟨n, a :: r⟩ ++ q = n ++ 32 :: 58 :: (altT a ++ 32 :: q1) := by
      rw [← e1]; simp [lineT, altsT]
    rw [hall]
    have := Lx.name h1 (x := 32) (by decide) ((Lx.one (c := 58) (k := 3) (fun t => rfl) (by decide) (by decide) g2).blank (c := 32) (by decide))
    simpa [lineK, altsK] using this
theorem lx_text : ∀ (l : List LineD), (∀ x ∈ l, lineOk x) → Lx (textD l) (l.flatMap lineK)
  | [], _ => Lx.nil
  | x :: l, h => by
    unfold textD
    rw [List.flatMap_cons, List.flatMap_cons]
    exact lx_line (h x (by simp)) (lx_text l (fun y hy => h y (by simp [hy])))
/-- Lines, al text, are read al the same. -/
theorem par_text {l : List LineD} (h : ∀ x ∈ l, lineOk x) (hne : l ≠ []) (hs : (textD l).length ≤ 65536) : parD (textD l) = ⟨l, 0, 0⟩ := by
  have ha : allD (textD l) = lexD (textD l) 0 := by unfold allD; rw [if_neg (by omega)]
  obtain ⟨h1, h2⟩ := lx_text l h 0
  have hb := lines_back l (fun x hx => (h x hx).2.1)
  unfold parD
  rw [ha, if_neg (by simp [h1]), h2, hb, if_neg (by simp), if_neg hne]
end Go.Proofs.Ytmcekpgmebanaaa

/-! What is read of any text is valid, and its text is not too long (layer 13): plain mathematics. -/
namespace Go.Proofs.Ytmcekpgmebanaaa

def wtL (r : List Tk) : Nat := (r.map wtK).sum
def barsT (l : List (List ItemD)) : List UInt8 := l.flatMap fun b => [32, 124] ++ altT b
theorem alts_bars {l : List (List ItemD)} (h : l ≠ []) : (altsT l).length + 2 = (barsT l).length := by
  cases l with
  | nil => exact absurd rfl h
  | cons a r => simp [altsT, barsT]
theorem bars_snoc (l : List (List ItemD)) (a : List ItemD) : (barsT (l ++ [a])).length = (barsT l).length + 2 + (altT a).length := by simp [barsT]; omega
theorem alt_snoc (a : List ItemD) (i : ItemD) : (altT (a ++ [i])).length = (altT a).length + (itemT i).length := by simp [altT]
theorem item_len (i : ItemD) : (itemT i).length ≤ i.text.length + 3 := by unfold itemT; split <;> simp <;> omega
theorem body_sound : ∀ (r : List Tk) (cur : List ItemD) (done : List (List ItemD)), (∀ t ∈ r, tkOk t) → (∀ i ∈ cur, itemOk i) → (∀ a ∈ done, ∀ i ∈ a, itemOk i) → (bodyD r cur done).ok = true →
    (bodyD r cur done).alts ≠ [] ∧ (∀ a ∈ (bodyD r cur done).alts, ∀ i ∈ a, itemOk i) ∧ (barsT (bodyD r cur done).alts).length + 4 + wtL (bodyD r cur done).left ≤ (barsT (done ++ [cur])).length + wtL r ∧ ∀ t ∈ (bodyD r cur done).left, tkOk t
  | [], cur, done, _, _, _, h => by simp [bodyD] at h
  | t :: r, cur, done, ht, hc, hd, h => by
    have htr : ∀ x ∈ r, tkOk x := fun x hx => ht x (by simp [hx])
    have hw : wtL (t :: r) = t.2.length + 4 + wtL r := by simp [wtL, wtK]
    unfold bodyD at h ⊢
    by_cases h1 : t.1 = 1 ∨ t.1 = 2
    · rw [if_pos h1] at h ⊢
      have hi : itemOk ⟨decide (t.1 = 2), t.2⟩ := by
        have := ht t (by simp)
        unfold tkOk at this
        unfold itemOk
        simp only
        rcases h1 with h1 | h1
        · rw [h1] at this ⊢; simpa using this
        · rw [h1] at this ⊢; simpa using this
      obtain ⟨g1, g2, g3, g4⟩ := body_sound r (cur ++ [⟨decide (t.1 = 2), t.2⟩]) done htr (fun i him => by
        rcases List.mem_append.1 him with q | q
        · exact hc i q
        · obtain rfl := List.mem_singleton.1 q; exact hi) hd h
      refine ⟨g1, g2, ?_, g4⟩
      have := item_len ⟨decide (t.1 = 2), t.2⟩
      rw [bars_snoc] at g3 ⊢
      rw [alt_snoc] at g3
      simp only at this
      omega
    · rw [if_neg h1] at h ⊢
      by_cases h4 : t.1 = 4
      · rw [if_pos h4] at h ⊢
        obtain ⟨g1, g2, g3, g4⟩ := body_sound r [] (done ++ [cur]) htr (by simp) (fun a ha => by
          rcases List.mem_append.1 ha with q | q
          · exact hd a q
          · obtain rfl := List.mem_singleton.1 q; exact hc) h
        refine ⟨g1, g2, ?_, g4⟩
        rw [bars_snoc (done ++ [cur])] at g3
        simp [altT] at g3
        omega
      · rw [if_neg h4] at h ⊢
        by_cases h5 : t.1 = 5
        · rw [if_pos h5]
          refine ⟨by simp, fun a ha => ?_, by simp only; omega, htr⟩
          rcases List.mem_append.1 ha with q | q
          · exact hd a q
          · obtain rfl := List.mem_singleton.1 q; exact hc
        · rw [if_neg h5] at h; cases h
theorem rule_sound {r : List Tk} (ht : ∀ t ∈ r, tkOk t) (h : (ruleD r).ok = true) : lineOk (ruleD r).line ∧ (lineT (ruleD r).line).length + wtL (ruleD r).left ≤ wtL r ∧ ∀ t ∈ (ruleD r).left, tkOk t := by
  cases r with
  | nil => simp [ruleD] at h
  | cons t r =>
    have e : ruleD (t :: r) = if t.1 ≠ 1 then ⟨false, ⟨[], []⟩, t :: r⟩ else nameD t.2 r := rfl
    rw [e] at h ⊢
    by_cases h1 : t.1 ≠ 1
    · rw [if_pos h1] at h; cases h
    · rw [if_neg h1] at h ⊢
      cases r with
      | nil => simp [nameD] at h
      | cons c q =>
        have e2 : nameD t.2 (c :: q) = if c.1 = 3 then ⟨(bodyD q [] []).ok, ⟨t.2, (bodyD q [] []).alts⟩, (bodyD q [] []).left⟩ else ⟨false, ⟨[], []⟩, c :: q⟩ := rfl
        rw [e2] at h ⊢
        by_cases h3 : c.1 = 3
        · rw [if_pos h3] at h ⊢
          simp only at h ⊢
          obtain ⟨g1, g2, g3, g4⟩ := body_sound q [] [] (fun x hx => ht x (by simp [hx])) (by simp) (by simp) h
          have hn : nameB t.2 = true := by
            have := ht t (by simp)
            unfold tkOk at this
            have h1' : t.1 = 1 := by simpa using h1
            rw [h1'] at this
            simpa using this
          refine ⟨⟨hn, g1, g2⟩, ?_, g4⟩
          have hab := alts_bars g1
          have hl : (lineT ⟨t.2, (bodyD q [] []).alts⟩).length = t.2.length + 5 + (altsT (bodyD q [] []).alts).length := by simp [lineT]; omega
          have hw : wtL (t :: c :: q) = t.2.length + 4 + (c.2.length + 4 + wtL q) := by simp [wtL, wtK]
          have hb : (barsT ([] ++ [([] : List ItemD)])).length = 2 := by simp [barsT, altT]
          rw [hb] at g3
          rw [hl, hw]
          omega
        · rw [if_neg h3] at h; cases h
theorem lines_sound (n : Nat) : ∀ (r : List Tk), r.length ≤ n → (∀ t ∈ r, tkOk t) → (linesD r).ok = true → (∀ x ∈ (linesD r).lines, lineOk x) ∧ (textD (linesD r).lines).length ≤ wtL r := by
  induction n with
  | zero =>
    intro r hr _ _
    have : r = [] := List.length_eq_zero_iff.1 (by omega)
    subst this
    rw [linesD]; simp [textD]
  | succ n ih =>
    intro r hr ht h
    cases r with
    | nil => rw [linesD]; simp [textD]
    | cons t q =>
      rw [linesD] at h ⊢
      by_cases hk : (ruleD (t :: q)).ok = true
      · rw [dif_pos hk] at h ⊢
        obtain ⟨g1, g2, g3⟩ := rule_sound ht hk
        have hl := (rule_left (t :: q)).2 hk
        by_cases hi : (linesD (ruleD (t :: q)).left).ok = true
        · rw [if_pos hi] at h ⊢
          obtain ⟨k1, k2⟩ := ih _ (by omega) g3 hi
          refine ⟨fun x hx => ?_, ?_⟩
          · rw [List.mem_cons] at hx
            rcases hx with rfl | hx
            · exact g1
            · exact k1 x hx
          · have : textD ((ruleD (t :: q)).line :: (linesD (ruleD (t :: q)).left).lines) = lineT (ruleD (t :: q)).line ++ textD (linesD (ruleD (t :: q)).left).lines := by simp [textD]
            rw [this, List.length_append]
            omega
        · rw [if_neg hi] at h; exact absurd h hi
      · rw [dif_neg hk] at h; cases h
/-- What a text gives, al text, gives the same. -/
theorem par_back {m : List UInt8} (hm : m.length ≤ 2000) (h : (parD m).err = 0) : (parD m).at_ = 0 ∧ (textD (parD m).lines).length ≤ 10000 ∧ parD (textD (parD m).lines) = ⟨(parD m).lines, 0, 0⟩ := by
  have ha : allD m = lexD m 0 := by unfold allD; rw [if_neg (by omega)]
  have hs := lex_sound (r := m) (p := 0)
  have hw : wtL ((lexD m 0).toks.map TokD.tk) ≤ 5 * m.length := by
    unfold wtL
    rw [List.map_map]
    exact hs.2
  unfold parD at h ⊢
  rw [ha] at h ⊢
  by_cases h1 : (lexD m 0).err ≠ 0
  · rw [if_pos h1] at h; exact absurd h h1
  · rw [if_neg h1] at h ⊢
    by_cases h2 : (linesD ((lexD m 0).toks.map TokD.tk)).ok = false
    · rw [if_pos h2] at h; simp at h
    · rw [if_neg h2] at h ⊢
      by_cases h3 : (linesD ((lexD m 0).toks.map TokD.tk)).lines = []
      · rw [if_pos h3] at h; simp at h
      · rw [if_neg h3]
        obtain ⟨g1, g2⟩ := lines_sound _ ((lexD m 0).toks.map TokD.tk) (Nat.le_refl _) (fun t ht => by
          obtain ⟨x, hx, rfl⟩ := List.mem_map.1 ht
          exact hs.1 x hx) (by simpa using h2)
        have hlen : (textD (linesD ((lexD m 0).toks.map TokD.tk)).lines).length ≤ 10000 := by omega
        refine ⟨rfl, hlen, ?_⟩
        have := par_text g1 h3 (by omega)
        unfold parD at this
        exact this
end Go.Proofs.Ytmcekpgmebanaaa

/-! What lines that were read come to is a grammar that may be (layer 14): plain mathematics. -/
namespace Go.Proofs.Ytmcekpgmebanaaa

theorem par_lines {m : List UInt8} (hm : m.length ≤ 2000) (h : (parD m).err = 0) : (∀ x ∈ (parD m).lines, lineOk x) ∧ (parD m).lines ≠ [] ∧ (textD (parD m).lines).length ≤ 10000 := by
  refine ⟨?_, ?_, (par_back hm h).2.1⟩
  · have ha : allD m = lexD m 0 := by unfold allD; rw [if_neg (by omega)]
    have hs := lex_sound (r := m) (p := 0)
    unfold parD at h ⊢
    rw [ha] at h ⊢
    by_cases h1 : (lexD m 0).err ≠ 0
    · rw [if_pos h1] at h; exact absurd h h1
    · rw [if_neg h1] at h ⊢
      by_cases h2 : (linesD ((lexD m 0).toks.map TokD.tk)).ok = false
      · rw [if_pos h2] at h; simp at h
      · rw [if_neg h2] at h ⊢
        by_cases h3 : (linesD ((lexD m 0).toks.map TokD.tk)).lines = []
        · rw [if_pos h3] at h; simp at h
        · rw [if_neg h3]
          exact (lines_sound _ ((lexD m 0).toks.map TokD.tk) (Nat.le_refl _) (fun t ht => by
            obtain ⟨x, hx, rfl⟩ := List.mem_map.1 ht
            exact hs.1 x hx) (by simpa using h2)).1
  · unfold parD at h ⊢
    split at h
    · next q => exact absurd h q
    · next q =>
      rw [if_neg q]
      split at h
      · simp at h
      · next q2 =>
        rw [if_neg q2]
        split at h
        · simp at h
        · next q3 => rw [if_neg q3]; exact q3
theorem mem_textD {ls : List LineD} {l : LineD} (h : l ∈ ls) : (lineT l).length ≤ (textD ls).length := by
  induction ls with
  | nil => simp at h
  | cons x r ih =>
    have e : (textD (x :: r)).length = (lineT x).length + (textD r).length := by simp [textD]
    rcases List.mem_cons.1 h with rfl | h
    · omega
    · have := ih h; omega
theorem lineT_len (l : LineD) : (lineT l).length = l.name.length + (altsT l.alts).length + 5 := by simp [lineT]; omega
theorem len_textD (ls : List LineD) : ls.length ≤ (textD ls).length := by
  induction ls with
  | nil => simp
  | cons x r ih =>
    have e : (textD (x :: r)).length = (lineT x).length + (textD r).length := by simp [textD]
    have := lineT_len x
    simp only [List.length_cons]
    omega
theorem itemT_len (i : ItemD) : i.text.length + 1 ≤ (itemT i).length := by unfold itemT; split <;> simp
theorem mem_altT {a : List ItemD} {i : ItemD} (h : i ∈ a) : (itemT i).length ≤ (altT a).length := by
  induction a with
  | nil => simp at h
  | cons x r ih =>
    have e : (altT (x :: r)).length = (itemT x).length + (altT r).length := by simp [altT]
    rcases List.mem_cons.1 h with rfl | h
    · omega
    · have := ih h; omega
theorem len_altT (a : List ItemD) : a.length ≤ (altT a).length := by
  induction a with
  | nil => simp
  | cons x r ih =>
    have e : (altT (x :: r)).length = (itemT x).length + (altT r).length := by simp [altT]
    have := itemT_len x
    simp only [List.length_cons]
    omega
def barsL (r : List (List ItemD)) : List UInt8 := r.flatMap fun b => [32, 124] ++ altT b
theorem len_barsL (r : List (List ItemD)) : r.length ≤ (barsL r).length := by
  induction r with
  | nil => simp
  | cons x r ih =>
    have e : (barsL (x :: r)).length = 2 + (altT x).length + (barsL r).length := by simp [barsL]; omega
    simp only [List.length_cons]
    omega
theorem mem_barsL {r : List (List ItemD)} {a : List ItemD} (h : a ∈ r) : (altT a).length ≤ (barsL r).length := by
  induction r with
  | nil => simp at h
  | cons x r ih =>
    have e : (barsL (x :: r)).length = 2 + (altT x).length + (barsL r).length := by simp [barsL]; omega
    rcases List.mem_cons.1 h with rfl | h
    · omega
    · have := ih h; omega
theorem altsT_cons (a : List ItemD) (r : List (List ItemD)) : altsT (a :: r) = altT a ++ barsL r := rfl
theorem len_altsT (al : List (List ItemD)) : al.length ≤ (altsT al).length + 1 := by
  cases al with
  | nil => simp
  | cons a r =>
    rw [altsT_cons]
    have := len_barsL r
    simp only [List.length_cons, List.length_append]
    omega
theorem mem_altsT {al : List (List ItemD)} {a : List ItemD} (h : a ∈ al) : (altT a).length ≤ (altsT al).length := by
  cases al with
  | nil => simp at h
  | cons x r =>
    rw [altsT_cons, List.length_append]
    rcases List.mem_cons.1 h with rfl | h
    · omega
    · have := mem_barsL h; omega
theorem size_lines {ls : List LineD} (h : (textD ls).length ≤ 10000) : SizeL ls := by
  have hl : ∀ l ∈ ls, l.name.length + (altsT l.alts).length ≤ 10000 := fun l hm => by
    have h1 := mem_textD hm
    have h2 := lineT_len l
    omega
  refine ⟨by have := len_textD ls; omega, fun l hm => ?_, fun l hm => by have := hl l hm; omega, fun l hm a ha => ?_, fun l hm a ha i hi => ?_⟩
  · have := hl l hm; have := len_altsT l.alts; omega
  · have := hl l hm; have := mem_altsT ha; have := len_altT a; omega
  · have := hl l hm; have := mem_altsT ha; have := mem_altT hi; have := itemT_len i; omega
theorem name_len {m : List UInt8} (h : nameB m = true) : m.length ≤ 32 := by
  unfold nameB at h
  rw [Bool.and_eq_true, Bool.and_eq_true] at h
  exact (of_decide_eq_true h.1.1).2
theorem term_len {m : List UInt8} (h : termB m = true) : m.length ≤ 32 := by
  unfold termB at h
  rw [Bool.and_eq_true] at h
  exact (of_decide_eq_true h.1).2
theorem valid_size {g : GramG} (h : ValidG g) : SizeG g := by
  have h1 := h.syms
  have h2 := h.few
  exact ⟨by omega, by omega, by omega, fun r hr => by have := (h.rules r hr).2.2.1; omega, fun n hn => by have := name_len (h.names n hn); omega, fun n hn => by have := term_len (h.terms n hn); omega⟩
theorem valid_int {g : GramG} (h : ValidG g) : IntG g := fun r hr s hs => by
  have h1 := h.syms
  have := ((h.rules r hr).2.2.2 s hs).1
  omega
theorem empty_int : IntG emptyG := by unfold IntG; decide
theorem empty_size : SizeG emptyG := ⟨by decide, by decide, by decide, by decide, by decide, by decide⟩
theorem empty_not : ¬ ValidG emptyG := fun h => by have := h.one; simp [emptyG] at this
/-- The terminals of items: which they are, and that none is there twice. -/
theorem addT_nodup {acc : List (List UInt8)} (i : ItemD) (h : acc.Nodup) : (addT acc i).Nodup := by
  unfold addT
  split
  · next q => rw [List.nodup_append]; exact ⟨h, by simp, fun a ha b hb => by have hb' : b = i.text := (by simpa using hb); subst hb'; exact fun e => q.2 (e ▸ ha)⟩
  · exact h
theorem foldT_nodup : ∀ (is : List ItemD) (acc : List (List UInt8)), acc.Nodup → (is.foldl addT acc).Nodup
  | [], _, h => h
  | i :: r, acc, h => foldT_nodup r _ (addT_nodup i h)
theorem addT_mem {acc : List (List UInt8)} {i : ItemD} {t : List UInt8} : t ∈ addT acc i ↔ t ∈ acc ∨ (i.term = true ∧ t = i.text) := by
  unfold addT
  split
  · next q => rw [List.mem_append]; simp [q.1]
  · next q =>
    refine ⟨.inl, fun h => h.elim id (fun h => ?_)⟩
    rcases Classical.em (i.text ∈ acc) with z | z
    · rw [h.2]; exact z
    · exact absurd ⟨h.1, z⟩ q
theorem foldT_mem : ∀ (is : List ItemD) (acc : List (List UInt8)) (t : List UInt8), t ∈ is.foldl addT acc ↔ t ∈ acc ∨ ∃ i ∈ is, i.term = true ∧ t = i.text
  | [], acc, t => by simp
  | i :: r, acc, t => by
    rw [List.foldl_cons, foldT_mem r, addT_mem]
    simp only [List.mem_cons]
    refine ⟨?_, ?_⟩
    · rintro ((h | h) | ⟨j, hj, h⟩)
      · exact .inl h
      · exact .inr ⟨i, .inl rfl, h⟩
      · exact .inr ⟨j, .inr hj, h⟩
    · rintro (h | ⟨j, rfl | hj, h⟩)
      · exact .inl (.inl h)
      · exact .inl (.inr h)
      · exact .inr ⟨j, hj, h⟩
theorem terms_mem {is : List ItemD} {t : List UInt8} : t ∈ termsOf is ↔ ∃ i ∈ is, i.term = true ∧ t = i.text := by
  unfold termsOf
  rw [foldT_mem]
  simp
theorem items_mem {ls : List LineD} {i : ItemD} : i ∈ itemsOf ls ↔ ∃ l ∈ ls, ∃ a ∈ l.alts, i ∈ a := by
  unfold itemsOf
  simp [List.mem_flatMap, List.mem_flatten]
theorem rules_mem {names terms : List (List UInt8)} {ls : List LineD} {r : RuleG} : r ∈ rulesOf names terms ls ↔ ∃ (i : Nat) (l : LineD), ls[i]? = some l ∧ ∃ a ∈ l.alts, r = ⟨(i : Int), a.map (symG names terms)⟩ := by
  unfold rulesOf
  rw [List.mem_flatMap]
  refine ⟨?_, ?_⟩
  · rintro ⟨⟨l, i⟩, h, h2⟩
    rw [List.mk_mem_zipIdx_iff_getElem?] at h
    obtain ⟨a, ha, rfl⟩ := List.mem_map.1 h2
    exact ⟨i, l, h, a, ha, rfl⟩
  · rintro ⟨i, l, h, a, ha, rfl⟩
    exact ⟨(l, i), List.mk_mem_zipIdx_iff_getElem?.2 h, List.mem_map.2 ⟨a, ha, rfl⟩⟩
theorem rules_len_from (f : Nat → List ItemD → RuleG) : ∀ (ls : List LineD) (k : Nat), ((ls.zipIdx k).flatMap fun p => p.1.alts.map (f p.2)).length = (ls.map fun l => l.alts.length).sum
  | [], k => rfl
  | l :: r, k => by
    rw [List.zipIdx_cons, List.flatMap_cons, List.length_append, rules_len_from f r (k + 1)]
    simp
theorem rules_len (names terms : List (List UInt8)) (ls : List LineD) : (rulesOf names terms ls).length = (ls.map fun l => l.alts.length).sum := rules_len_from (fun i a => ⟨(i : Int), a.map (symG names terms)⟩) ls 0
theorem sym_range {names terms : List (List UInt8)} {i : ItemD} (h1 : 1 ≤ names.length) (ht : i.term = true → i.text ∈ terms) (hn : i.term = false → i.text ∈ names) : -(terms.length : Int) ≤ symG names terms i ∧ symG names terms i < (names.length : Int) := by
  unfold symG
  cases hb : i.term with
  | true =>
    obtain ⟨k, hk, e, -⟩ := find_yes (ht hb)
    rw [if_pos rfl, e]
    omega
  | false =>
    obtain ⟨k, hk, e, -⟩ := find_yes (hn hb)
    rw [if_neg (by simp), e]
    omega
theorem res_valid {ls : List LineD} (hok : ∀ x ∈ ls, lineOk x) (hne : ls ≠ []) : ((resolveG ls).err = 0 ∧ ValidG (resolveG ls).g) ∨ ((resolveG ls).err ≠ 0 ∧ (resolveG ls).g = emptyG) := by
  unfold resolveG
  by_cases h1 : boolOf (BoundL ls) = true
  · rw [if_pos h1]; right; simp
  rw [if_neg h1]
  by_cases h2 : boolOf ((ls.map (·.name)).Nodup) = false
  · rw [if_pos h2]; right; simp
  rw [if_neg h2]
  by_cases h3 : boolOf (UndefL ls) = true
  · rw [if_pos h3]; right; simp
  rw [if_neg h3]
  by_cases h4 : 256 < (gramOf ls).names.length + (gramOf ls).terms.length
  · rw [if_pos h4]; right; simp
  rw [if_neg h4]
  by_cases h5 : boolOf ((gramOf ls).rules.Nodup) = false
  · rw [if_pos h5]; right; simp
  rw [if_neg h5]
  left
  refine ⟨rfl, ?_⟩
  show ValidG (gramOf ls)
  have hB : ¬ BoundL ls := fun h => h1 (boolOf_true h)
  have hN : (ls.map (·.name)).Nodup := of_boolOf (by simpa using h2)
  have hU : ¬ UndefL ls := fun h => h3 (boolOf_true h)
  have hR : (gramOf ls).rules.Nodup := of_boolOf (by simpa using h5)
  have hpos : 1 ≤ ls.length := List.length_pos_iff.2 hne
  have hnl : (gramOf ls).names.length = ls.length := by simp [gramOf]
  refine ⟨by omega, by omega, ?_, ?_, hN, ?_, ?_, foldT_nodup _ _ (by simp), ?_, hR⟩
  · show (rulesOf _ _ ls).length ≤ 4096
    rw [rules_len]
    rcases Nat.lt_or_ge 4096 (ls.map fun l => l.alts.length).sum with q | q
    · exact absurd (.inr (.inl q)) hB
    · exact q
  · intro n hn
    obtain ⟨l, hl, rfl⟩ := List.mem_map.1 (show n ∈ ls.map (·.name) from hn)
    exact (hok l hl).1
  · intro i hi
    rw [hnl] at hi
    obtain ⟨a, ha⟩ := List.exists_mem_of_ne_nil _ (hok _ (List.getElem_mem hi)).2.1
    exact ⟨_, rules_mem.2 ⟨i, ls[i], List.getElem?_eq_getElem hi, a, ha, rfl⟩, rfl⟩
  · intro t ht
    obtain ⟨i, hi, hti, rfl⟩ := terms_mem.1 (show t ∈ termsOf (itemsOf ls) from ht)
    obtain ⟨l, hl, a, ha, hia⟩ := items_mem.1 hi
    have := (hok l hl).2.2 a ha i hia
    unfold itemOk at this
    rw [if_pos hti] at this
    exact this
  · intro r hr
    obtain ⟨i, l, hl, a, ha, rfl⟩ := rules_mem.1 (show r ∈ rulesOf _ _ ls from hr)
    have hil : i < ls.length := by
      rcases Nat.lt_or_ge i ls.length with q | q
      · exact q
      · rw [List.getElem?_eq_none q] at hl; cases hl
    have hlm : l ∈ ls := List.mem_of_getElem? hl
    refine ⟨by simp, by simp only; omega, ?_, fun s hs => ?_⟩
    · simp only [List.length_map]
      rcases Nat.lt_or_ge 64 a.length with q | q
      · exact absurd (.inl ⟨l, hlm, a, ha, q⟩) hB
      · exact q
    · obtain ⟨it, hit, rfl⟩ := List.mem_map.1 hs
      have him : it ∈ itemsOf ls := items_mem.2 ⟨l, hlm, a, ha, hit⟩
      refine sym_range (by rw [← hnl] at hpos; exact hpos) (fun hb => terms_mem.2 ⟨it, him, hb, rfl⟩) (fun hb => ?_)
      rcases Classical.em (it.text ∈ ls.map (·.name)) with q | q
      · exact q
      · exact absurd ⟨it, him, hb, q⟩ hU
end Go.Proofs.Ytmcekpgmebanaaa

/-! The lines of a grammar that stands in order come to the grammar again (layer 14): plain mathematics. -/
namespace Go.Proofs.Ytmcekpgmebanaaa

theorem lines_names (g : GramG) : (linesG g).map (·.name) = g.names := by
  unfold linesG
  rw [List.map_map]
  have : ((fun l : LineD => l.name) ∘ fun p : List UInt8 × Nat => (⟨p.1, altsG g p.2⟩ : LineD)) = Prod.fst := rfl
  rw [this]
  simp
theorem flat_none {α β : Type} {is : List α} {f : α → List β} (h : ∀ i ∈ is, f i = []) : is.flatMap f = [] := by
  induction is with
  | nil => rfl
  | cons x r ih => rw [List.flatMap_cons, h x (by simp), ih (fun i hi => h i (by simp [hi]))]; rfl
theorem flat_same {α β : Type} {is : List α} {f k : α → List β} (h : ∀ i ∈ is, f i = k i) : is.flatMap f = is.flatMap k := by
  induction is with
  | nil => rfl
  | cons x r ih => rw [List.flatMap_cons, List.flatMap_cons, h x (by simp), ih (fun i hi => h i (by simp [hi]))]
def ruleF (l : List RuleG) (i : Nat) : List RuleG := l.filter fun r => decide (r.left = (i : Int))
/-- Rules by rising left sides, block by block. -/
theorem sorted_flat (k n : Nat) : ∀ (l : List RuleG), (l.Pairwise fun a b => a.left ≤ b.left) → (∀ r ∈ l, (k : Int) ≤ r.left ∧ r.left < ((k + n : Nat) : Int)) → (List.range' k n).flatMap (ruleF l) = l
  | [], _, _ => flat_none (fun i _ => rfl)
  | r :: l, hp, hr => by
    rw [List.pairwise_cons] at hp
    have ih := sorted_flat k n l hp.2 (fun x hx => hr x (by simp [hx]))
    obtain ⟨g1, g2⟩ := hr r (by simp)
    obtain ⟨j, hj⟩ : ∃ j : Nat, r.left = (j : Int) := ⟨r.left.toNat, by omega⟩
    obtain ⟨a, rfl⟩ : ∃ a, j = k + a := ⟨j - k, by omega⟩
    obtain ⟨b, rfl⟩ : ∃ b, n = a + (b + 1) := ⟨n - a - 1, by omega⟩
    have hs : List.range' k (a + (b + 1)) = List.range' k a ++ (k + a) :: List.range' (k + a + 1) b := by
      rw [← List.range'_append_1 (s := k) (m := a) (n := b + 1), List.range'_succ]
    rw [hs, List.flatMap_append, List.flatMap_cons] at ih ⊢
    have e1 : (List.range' k a).flatMap (ruleF (r :: l)) = [] := flat_none (fun i hi => by
      have hi' := (List.mem_range'_1.1 hi)
      unfold ruleF
      rw [List.filter_eq_nil_iff]
      intro x hx
      rcases List.mem_cons.1 hx with rfl | hx
      · simp; omega
      · have := hp.1 x hx; simp; omega)
    have e2 : (List.range' k a).flatMap (ruleF l) = [] := flat_none (fun i hi => by
      have hi' := (List.mem_range'_1.1 hi)
      unfold ruleF
      rw [List.filter_eq_nil_iff]
      intro x hx
      have := hp.1 x hx; simp; omega)
    have e3 : (List.range' (k + a + 1) b).flatMap (ruleF (r :: l)) = (List.range' (k + a + 1) b).flatMap (ruleF l) := flat_same (fun i hi => by
      have hi' := (List.mem_range'_1.1 hi)
      unfold ruleF
      rw [List.filter_cons_of_neg (by simp; omega)])
    have e4 : ruleF (r :: l) (k + a) = r :: ruleF l (k + a) := by
      unfold ruleF
      rw [List.filter_cons_of_pos (by simp [hj])]
    rw [e2, List.nil_append] at ih
    rw [e1, e3, e4, List.nil_append, List.cons_append, ih]
theorem sorted_pair {l : List RuleG} (h : ∀ i (hi : i + 1 < l.length), (l[i]'(by omega)).left ≤ (l[i + 1]'hi).left) : l.Pairwise fun a b => a.left ≤ b.left := by
  rw [List.pairwise_iff_getElem]
  intro i j hi hj hij
  obtain ⟨d, rfl⟩ : ∃ d, j = i + 1 + d := ⟨j - i - 1, by omega⟩
  induction d with
  | zero => exact h i hj
  | succ d ih => exact Int.le_trans (ih (by omega) (by omega)) (h (i + 1 + d) hj)
/-- A flat map over a grammar's lines is one over its nonterminals. -/
theorem lines_flat {β : Type} (g : GramG) (h : Nat → List (List ItemD) → List β) : ∀ (ns : List (List UInt8)) (k : Nat), ((((ns.zipIdx k).map fun p => (⟨p.1, altsG g p.2⟩ : LineD)).zipIdx k).flatMap fun p => h p.2 p.1.alts) = (List.range' k ns.length).flatMap fun i => h i (altsG g i)
  | [], k => rfl
  | n :: r, k => by
    rw [List.zipIdx_cons, List.map_cons, List.zipIdx_cons, List.flatMap_cons, lines_flat g h r (k + 1), List.length_cons, List.range'_succ, List.flatMap_cons]
theorem zip_flat {α β : Type} (h : α → List β) : ∀ (l : List α) (k : Nat), ((l.zipIdx k).flatMap fun p => h p.1) = l.flatMap h
  | [], k => rfl
  | x :: r, k => by rw [List.zipIdx_cons, List.flatMap_cons, List.flatMap_cons, zip_flat h r (k + 1)]
theorem getD_lt {l : List (List UInt8)} {k : Nat} (h : k < l.length) : l.getD k [] = l[k] := by simp [List.getD, List.getElem?_eq_getElem h]
theorem sym_item {g : GramG} (hN : g.names.Nodup) (hT : g.terms.Nodup) {s : Int} (h1 : -(g.terms.length : Int) ≤ s) (h2 : s < (g.names.length : Int)) : symG g.names g.terms (itemG g s) = s := by
  unfold itemG symG
  by_cases h : s < 0
  · rw [if_pos h]
    have hk : (-1 - s).toNat < g.terms.length := by omega
    simp only [if_true]
    rw [getD_lt hk, find_at (k := (-1 - s).toNat) hk rfl (fun j hj => nodup_iff.1 hT _ hk j hj)]
    omega
  · rw [if_neg h]
    have hk : s.toNat < g.names.length := by omega
    simp only [Bool.false_eq_true, if_false]
    rw [getD_lt hk, find_at (k := s.toNat) hk rfl (fun j hj => nodup_iff.1 hN _ hk j hj)]
    omega
/-- The terminals of symbols, in the order in which they are seen. -/
theorem seen_fold {g : GramG} (hT : g.terms.Nodup) : ∀ (l : List Int) (n m : Nat), (∀ s ∈ l, -(g.terms.length : Int) ≤ s) → n ≤ g.terms.length → seenG l n = some m → (l.map (itemG g)).foldl addT (g.terms.take n) = g.terms.take m
  | [], n, m, _, _, h => by
    have : n = m := by simpa [seenG] using h
    rw [this]; rfl
  | s :: l, n, m, hr, hn, h => by
    rw [List.map_cons, List.foldl_cons]
    unfold seenG at h
    have hr' : ∀ s ∈ l, -(g.terms.length : Int) ≤ s := fun x hx => hr x (by simp [hx])
    have h1 := hr s (by simp)
    by_cases hs : s < 0
    · by_cases hgt : (n : Int) < -1 - s
      · rw [if_pos ⟨hs, hgt⟩] at h; cases h
      · rw [if_neg (fun q => hgt q.2)] at h
        have hk : (-1 - s).toNat < g.terms.length := by omega
        have hit : itemG g s = ⟨true, g.terms[(-1 - s).toNat]⟩ := by unfold itemG; rw [if_pos hs, getD_lt hk]
        by_cases he : -1 - s = (n : Int)
        · rw [if_pos ⟨hs, he⟩] at h
          have hkn : (-1 - s).toNat = n := by omega
          have hnt : n < g.terms.length := by omega
          rw [← seen_fold hT l (n + 1) m hr' (by omega) h]
          congr 1
          rw [hit]
          unfold addT
          have hno : g.terms[n] ∉ g.terms.take n := fun hm => by
            obtain ⟨j, hj, e⟩ := List.getElem_of_mem hm
            rw [List.length_take] at hj
            rw [List.getElem_take] at e
            exact nodup_iff.1 hT n hnt j (by omega) e
          have : ((⟨true, g.terms[(-1 - s).toNat]⟩ : ItemD)).text = g.terms[n] := by simp only [hkn]
          rw [if_pos ⟨rfl, by rw [this]; exact hno⟩, this, List.take_succ_eq_append_getElem hnt]
        · rw [if_neg (fun q => he q.2)] at h
          rw [← seen_fold hT l n m hr' hn h]
          congr 1
          rw [hit]
          unfold addT
          have hlt : (-1 - s).toNat < n := by omega
          have hin : g.terms[(-1 - s).toNat] ∈ g.terms.take n := by
            rw [List.mem_take_iff_getElem]
            exact ⟨(-1 - s).toNat, by omega, rfl⟩
          rw [if_neg (fun q => q.2 hin)]
    · rw [if_neg (fun q => hs q.1), if_neg (fun q => hs q.1)] at h
      rw [← seen_fold hT l n m hr' hn h]
      congr 1
      unfold itemG addT
      rw [if_neg hs, if_neg (fun q => by cases q.1)]
theorem rules_same {g : GramG} (h : ValidG g) (ho : OrderG g) : rulesOf g.names g.terms (linesG g) = g.rules := by
  have hf := lines_flat g (fun i al => al.map fun a => (⟨(i : Int), a.map (symG g.names g.terms)⟩ : RuleG)) g.names 0
  have e : rulesOf g.names g.terms (linesG g) = (List.range' 0 g.names.length).flatMap fun i => (altsG g i).map fun a => (⟨(i : Int), a.map (symG g.names g.terms)⟩ : RuleG) := hf
  rw [e, flat_same (k := ruleF g.rules) (fun i _ => ?_)]
  · exact sorted_flat 0 g.names.length g.rules (sorted_pair ho.1) (fun r hr => ⟨by have := (h.rules r hr).1; omega, by have := (h.rules r hr).2.1; omega⟩)
  · unfold altsG ruleF
    rw [List.map_map]
    have hid : ∀ r ∈ g.rules.filter (fun r => decide (r.left = (i : Int))), ((fun a => (⟨(i : Int), a.map (symG g.names g.terms)⟩ : RuleG)) ∘ fun r : RuleG => r.right.map (itemG g)) r = r := by
      intro r hr
      obtain ⟨h1, h2⟩ := List.mem_filter.1 hr
      have h2' := of_decide_eq_true h2
      obtain ⟨-, -, -, h3⟩ := h.rules r h1
      refine RuleG.ext' h2'.symm ?_
      show (r.right.map (itemG g)).map (symG g.names g.terms) = r.right
      rw [List.map_map]
      refine (List.map_congr_left (fun s hs => ?_)).trans (List.map_id _)
      exact sym_item h.nodupN h.nodupT (h3 s hs).1 (h3 s hs).2
    exact (List.map_congr_left hid).trans (List.map_id _)
theorem items_same {g : GramG} (h : ValidG g) (ho : OrderG g) : itemsOf (linesG g) = (g.rules.flatMap (·.right)).map (itemG g) := by
  have hf := lines_flat g (fun _ al => al.flatten) g.names 0
  have e : itemsOf (linesG g) = (List.range' 0 g.names.length).flatMap fun i => (altsG g i).flatten := by
    unfold itemsOf
    rw [← zip_flat (fun l : LineD => l.alts.flatten) (linesG g) 0]
    exact hf
  have e2 : ((List.range' 0 g.names.length).flatMap (ruleF g.rules)).flatMap (fun r => r.right.map (itemG g)) = (List.range' 0 g.names.length).flatMap fun i => (altsG g i).flatten := by
    rw [List.flatMap_assoc]
    refine flat_same (fun i _ => ?_)
    unfold altsG ruleF
    rw [List.flatMap_def]
  rw [e, ← e2, sorted_flat 0 g.names.length g.rules (sorted_pair ho.1) (fun r hr => ⟨by have := (h.rules r hr).1; omega, by have := (h.rules r hr).2.1; omega⟩), List.map_flatMap]
theorem gram_same {g : GramG} (h : ValidG g) (ho : OrderG g) : gramOf (linesG g) = g := by
  have ht : termsOf (itemsOf (linesG g)) = g.terms := by
    rw [items_same h ho]
    have := seen_fold h.nodupT (g.rules.flatMap (·.right)) 0 g.terms.length (fun s hs => by
      obtain ⟨r, hr, hs⟩ := List.mem_flatMap.1 hs
      exact ((h.rules r hr).2.2.2 s hs).1) (Nat.zero_le _) ho.2
    rw [List.take_zero, List.take_length] at this
    exact this
  refine GramG.ext' (lines_names g) ht ?_
  show rulesOf ((linesG g).map (·.name)) (termsOf (itemsOf (linesG g))) (linesG g) = g.rules
  rw [lines_names, ht]
  exact rules_same h ho
theorem resolve_back {g : GramG} (h : ValidG g) (ho : OrderG g) : resolveG (linesG g) = ⟨g, 0⟩ := by
  have hlen : (linesG g).length = g.names.length := by simp [linesG]
  have hal : ∀ l ∈ linesG g, ∀ a ∈ l.alts, ∃ r ∈ g.rules, a = r.right.map (itemG g) := by
    intro l hl a ha
    obtain ⟨⟨n, i⟩, -, rfl⟩ := List.mem_map.1 hl
    obtain ⟨r, hr, rfl⟩ := List.mem_map.1 ha
    exact ⟨r, (List.mem_filter.1 hr).1, rfl⟩
  have hsum : ((linesG g).map fun l => l.alts.length).sum = g.rules.length := by
    rw [← rules_len g.names g.terms, rules_same h ho]
  unfold resolveG
  rw [gram_same h ho, lines_names]
  rw [if_neg (by
    rw [boolOf_false]
    · simp
    · rintro (⟨l, hl, a, ha, q⟩ | q | q)
      · obtain ⟨r, hr, rfl⟩ := hal l hl a ha
        have := (h.rules r hr).2.2.1
        simp at q; omega
      · have := h.few; omega
      · have := h.syms; omega)]
  rw [if_neg (by rw [boolOf_true h.nodupN]; simp)]
  rw [if_neg (by
    rw [boolOf_false]
    · simp
    · rintro ⟨i, hi, h1, h2⟩
      obtain ⟨l, hl, a, ha, hia⟩ := items_mem.1 hi
      obtain ⟨r, hr, rfl⟩ := hal l hl a ha
      obtain ⟨s, hs, rfl⟩ := List.mem_map.1 hia
      obtain ⟨k1, k2⟩ := (h.rules r hr).2.2.2 s hs
      rw [lines_names] at h2
      unfold itemG at h1 h2
      by_cases hneg : s < 0
      · rw [if_pos hneg] at h1; cases h1
      · rw [if_neg hneg] at h2
        have hk : s.toNat < g.names.length := by omega
        rw [getD_lt hk] at h2
        exact h2 (List.getElem_mem hk))]
  rw [if_neg (by have := h.syms; omega)]
  rw [if_neg (by rw [boolOf_true h.nodupR]; simp)]
theorem lines_size {g : GramG} (h : ValidG g) : SizeL (linesG g) := by
  have hv := valid_size h
  have hl : ∀ l ∈ linesG g, ∃ n ∈ g.names, l.name = n ∧ ∃ i, l.alts = altsG g i := by
    intro l hl
    obtain ⟨⟨n, i⟩, hm, rfl⟩ := List.mem_map.1 hl
    exact ⟨n, (List.fst_mem_of_mem_zipIdx hm), rfl, i, rfl⟩
  refine ⟨by simp [linesG]; exact hv.names, fun l hm => ?_, fun l hm => ?_, fun l hm a ha => ?_, fun l hm a ha i hi => ?_⟩
  · obtain ⟨n, -, -, i, e⟩ := hl l hm
    rw [e]
    unfold altsG
    rw [List.length_map]
    have := List.length_filter_le (fun r : RuleG => decide (r.left = (i : Int))) g.rules
    have := hv.rules
    omega
  · obtain ⟨n, hn, e, -⟩ := hl l hm
    rw [e]; exact hv.name n hn
  · obtain ⟨n, -, -, j, e⟩ := hl l hm
    rw [e] at ha
    obtain ⟨r, hr, rfl⟩ := List.mem_map.1 ha
    rw [List.length_map]
    exact hv.right r (List.mem_filter.1 hr).1
  · obtain ⟨n, -, -, j, e⟩ := hl l hm
    rw [e] at ha
    obtain ⟨r, hr, rfl⟩ := List.mem_map.1 ha
    obtain ⟨s, hs, rfl⟩ := List.mem_map.1 hi
    obtain ⟨k1, k2⟩ := (h.rules r (List.mem_filter.1 hr).1).2.2.2 s hs
    unfold itemG
    split
    · have hk : (-1 - s).toNat < g.terms.length := by omega
      simp only
      rw [getD_lt hk]; exact hv.term _ (List.getElem_mem hk)
    · have hk : s.toNat < g.names.length := by omega
      simp only
      rw [getD_lt hk]; exact hv.name _ (List.getElem_mem hk)
end Go.Proofs.Ytmcekpgmebanaaa

/-! Plain mathematics of canonical grammars (layer 16). Nothing here names the program. -/
namespace Go.Proofs.Ytmcekpgmebanaaa

/-- A rule in terms of texts. -/
abbrev RuleX := List UInt8 × List ItemD
def ruleX (ns ts : List (List UInt8)) (r : RuleG) : RuleX := (ns.getD r.left.toNat [], r.right.map (itemG ⟨ns, ts, []⟩))
def symX (ns ts : List (List UInt8)) (p : RuleX) : RuleG := ⟨findG ns p.1, p.2.map (symG ns ts)⟩
def rulesX (g : GramG) : List RuleX := g.rules.map (ruleX g.names g.terms)
/-- The canonical grammar. -/
def canonN (g : GramG) : List (List UInt8) := sortB lessB 1 g.names
def canonT (g : GramG) : List (List UInt8) := sortB lessB 0 g.terms
def canonG (g : GramG) : GramG := ⟨canonN g, canonT g, sortB lessR 0 ((rulesX g).map (symX (canonN g) (canonT g)))⟩
/-- Two grammars say the same. -/
structure EquivG (g h : GramG) : Prop where
  first : g.names.head? = h.names.head?
  names : List.Perm g.names h.names
  terms : List.Perm g.terms h.terms
  rules : List.Perm (rulesX g) (rulesX h)
theorem EquivG.symm {g h : GramG} (e : EquivG g h) : EquivG h g := ⟨e.first.symm, e.names.symm, e.terms.symm, e.rules.symm⟩
theorem EquivG.refl (g : GramG) : EquivG g g := ⟨rfl, List.Perm.refl _, List.Perm.refl _, List.Perm.refl _⟩
theorem EquivG.trans {a b c : GramG} (h : EquivG a b) (k : EquivG b c) : EquivG a c := ⟨h.first.trans k.first, h.names.trans k.names, h.terms.trans k.terms, h.rules.trans k.rules⟩
theorem find_ge (l : List (List UInt8)) (s : List UInt8) : -1 ≤ findG l s ∧ findG l s ≤ (l.length : Int) := by
  by_cases h : s ∈ l
  · obtain ⟨k, hk, e, -⟩ := find_yes h
    rw [e]
    omega
  · rw [find_no h]
    omega
theorem sym_ge {ns ts : List (List UInt8)} (h : ts.length ≤ 256) (i : ItemD) : -1000 ≤ symG ns ts i := by
  unfold symG
  split
  · have := (find_ge ts i.text).2; omega
  · have := (find_ge ns i.text).1; omega
theorem symX_few {ns ts : List (List UInt8)} (h : ts.length ≤ 256) (p : RuleX) : FewS (symX ns ts p) := fun s hs => by
  obtain ⟨i, -, rfl⟩ := List.mem_map.1 hs
  exact sym_ge h i
theorem canonN_perm (g : GramG) : List.Perm (canonN g) g.names := sortB_perm _ _ _
theorem canonT_perm (g : GramG) : List.Perm (canonT g) g.terms := sortB_perm _ _ _
theorem canonN_congr {g h : GramG} (e : EquivG g h) : canonN g = canonN h := by
  unfold canonN
  cases hg : g.names with
  | nil =>
    have := e.names.length_eq
    rw [hg] at this
    rw [List.eq_nil_of_length_eq_zero this.symm]
  | cons f l =>
    cases hh : h.names with
    | nil => have := e.names.length_eq; rw [hg, hh] at this; simp at this
    | cons f' l' =>
      have h1 := e.first
      have h2 := e.names
      rw [hg, hh] at h1 h2
      have h1' : f = f' := by simpa using h1
      subst h1'
      rw [sort_one, sort_one, sortB_unique ord_bytes (fun _ _ => trivial) (List.Perm.cons_inv h2)]
theorem canonT_congr {g h : GramG} (e : EquivG g h) : canonT g = canonT h := sortB_unique ord_bytes (fun _ _ => trivial) e.terms
theorem canon_congr {g h : GramG} (e : EquivG g h) (ht : g.terms.length ≤ 256) : canonG g = canonG h := by
  unfold canonG
  rw [canonN_congr e, canonT_congr e]
  congr 1
  refine sortB_unique ord_rules (fun y hy => ?_) (e.rules.map _)
  obtain ⟨p, -, rfl⟩ := List.mem_map.1 hy
  exact symX_few (by rw [← canonT_congr e, (canonT_perm g).length_eq]; exact ht) p

/-! Texts and symbols, there and back. -/
def ItemIn (ns ts : List (List UInt8)) (i : ItemD) : Prop := if i.term = true then i.text ∈ ts else i.text ∈ ns
theorem find_get {l : List (List UInt8)} {s : List UInt8} (h : s ∈ l) : ∃ k : Nat, findG l s = (k : Int) ∧ ∃ hk : k < l.length, l[k]'hk = s := by
  obtain ⟨k, hk, e, h1, -⟩ := find_yes h
  exact ⟨k, e, hk, h1⟩
theorem item_sym {ns ts : List (List UInt8)} {i : ItemD} (h : ItemIn ns ts i) : itemG ⟨ns, ts, []⟩ (symG ns ts i) = i := by
  obtain ⟨t, x⟩ := i
  unfold ItemIn at h
  cases t with
  | true =>
    obtain ⟨k, e, hk, h1⟩ := find_get (show x ∈ ts by simpa using h)
    unfold symG itemG
    simp only [if_true]
    rw [e, if_pos (by omega), show (-1 - (-1 - (k : Int))).toNat = k by omega, getD_lt hk, h1]
  | false =>
    obtain ⟨k, e, hk, h1⟩ := find_get (show x ∈ ns by simpa using h)
    unfold symG itemG
    simp only [Bool.false_eq_true, if_false]
    rw [e, if_neg (by omega), Int.toNat_natCast, getD_lt hk, h1]
theorem rule_sym {ns ts : List (List UInt8)} {p : RuleX} (h1 : p.1 ∈ ns) (h2 : ∀ i ∈ p.2, ItemIn ns ts i) : ruleX ns ts (symX ns ts p) = p := by
  obtain ⟨n, l⟩ := p
  obtain ⟨k, e, hk, hn⟩ := find_get h1
  unfold ruleX symX
  simp only
  rw [show findG ns n = (k : Int) from e, Int.toNat_natCast, getD_lt hk, hn, List.map_map]
  congr 1
  refine (List.map_congr_left (fun i hi => ?_)).trans (List.map_id _)
  exact item_sym (h2 i hi)
theorem item_in {g : GramG} {s : Int} (h1 : -(g.terms.length : Int) ≤ s) (h2 : s < (g.names.length : Int)) : ItemIn g.names g.terms (itemG ⟨g.names, g.terms, []⟩ s) := by
  unfold ItemIn itemG
  by_cases h : s < 0
  · rw [if_pos h]
    simp only [if_true]
    rw [getD_lt (by omega)]
    exact List.getElem_mem _
  · rw [if_neg h]
    simp only [Bool.false_eq_true, if_false]
    rw [getD_lt (by omega)]
    exact List.getElem_mem _
theorem ruleX_in {g : GramG} (hv : ValidG g) {p : RuleX} (hp : p ∈ rulesX g) : p.1 ∈ g.names ∧ ∀ i ∈ p.2, ItemIn g.names g.terms i := by
  obtain ⟨r, hr, rfl⟩ := List.mem_map.1 hp
  obtain ⟨h1, h2, -, h4⟩ := hv.rules r hr
  refine ⟨?_, fun i hi => ?_⟩
  · show g.names.getD r.left.toNat [] ∈ g.names
    rw [getD_lt (by omega)]
    exact List.getElem_mem _
  · obtain ⟨s, hs, rfl⟩ := List.mem_map.1 hi
    exact item_in (h4 s hs).1 (h4 s hs).2
theorem ItemIn.perm {ns ts ns' ts' : List (List UInt8)} {i : ItemD} (h : ItemIn ns ts i) (hn : List.Perm ns ns') (ht : List.Perm ts ts') : ItemIn ns' ts' i := by
  unfold ItemIn at h ⊢
  split
  · next q => rw [if_pos q] at h; exact ht.mem_iff.1 h
  · next q => rw [if_neg q] at h; exact hn.mem_iff.1 h
/-- The rules of the canonical grammar say what those of the grammar say. -/
theorem rulesX_canon {g : GramG} (hv : ValidG g) : List.Perm (rulesX (canonG g)) (rulesX g) := by
  have h1 : List.Perm (rulesX (canonG g)) (((rulesX g).map (symX (canonN g) (canonT g))).map (ruleX (canonN g) (canonT g))) := (sortB_perm lessR 0 _).map _
  rw [List.map_map] at h1
  refine h1.trans (List.Perm.of_eq ((List.map_congr_left (fun p hp => ?_)).trans (List.map_id _)))
  obtain ⟨k1, k2⟩ := ruleX_in hv hp
  exact rule_sym ((canonN_perm g).mem_iff.2 k1) (fun i hi => (k2 i hi).perm (canonN_perm g).symm (canonT_perm g).symm)
theorem canon_first {g : GramG} (h : 1 ≤ g.names.length) : (canonN g).head? = g.names.head? := by
  unfold canonN
  cases hg : g.names with
  | nil => rw [hg] at h; simp at h
  | cons f l => rw [sort_one]; rfl
theorem equiv_canon {g : GramG} (hv : ValidG g) : EquivG (canonG g) g := ⟨canon_first hv.one, canonN_perm g, canonT_perm g, rulesX_canon hv⟩
theorem ruleX_inj {g : GramG} (hv : ValidG g) {r s : RuleG} (hr : r ∈ g.rules) (hs : s ∈ g.rules) (e : ruleX g.names g.terms r = ruleX g.names g.terms s) : r = s := by
  have key : ∀ r ∈ g.rules, symX g.names g.terms (ruleX g.names g.terms r) = r := by
    intro r hr
    obtain ⟨h1, h2, -, h4⟩ := hv.rules r hr
    refine RuleG.ext' ?_ ?_
    · show findG g.names (g.names.getD r.left.toNat []) = r.left
      have hl : r.left.toNat < g.names.length := by omega
      rw [getD_lt hl]
      obtain ⟨k, e, -, hk⟩ := find_le hl
      have := hk.2 (fun j hj => nodup_iff.1 hv.nodupN _ hl j hj)
      omega
    · show (r.right.map (itemG ⟨g.names, g.terms, []⟩)).map (symG g.names g.terms) = r.right
      rw [List.map_map]
      refine (List.map_congr_left (fun s hs => ?_)).trans (List.map_id _)
      exact sym_item hv.nodupN hv.nodupT (h4 s hs).1 (h4 s hs).2
  rw [← key r hr, ← key s hs, e]
theorem nodup_map_inj {α β : Type} {f : α → β} {l : List α} (h : ∀ x ∈ l, ∀ y ∈ l, f x = f y → x = y) (hl : l.Nodup) : (l.map f).Nodup := by
  unfold List.Nodup at hl ⊢
  rw [List.pairwise_map]
  exact hl.imp_of_mem (fun ha hb hn e => hn (h _ ha _ hb e))
theorem nodup_of_map {α β : Type} {f : α → β} {l : List α} (h : (l.map f).Nodup) : l.Nodup := by
  unfold List.Nodup at h ⊢
  rw [List.pairwise_map] at h
  exact h.imp (fun hn e => hn (by rw [e]))
theorem rulesX_nodup {g : GramG} (hv : ValidG g) : (rulesX g).Nodup := nodup_map_inj (fun r hr s hs e => ruleX_inj hv hr hs e) hv.nodupR
/-- A grammar that says what a valid one says, within the limits, is valid. -/
theorem equiv_valid {g h : GramG} (hv : ValidG g) (e : EquivG h g) (hl : ∀ r ∈ h.rules, 0 ≤ r.left ∧ r.left < (h.names.length : Int) ∧ ∀ s ∈ r.right, -(h.terms.length : Int) ≤ s ∧ s < (h.names.length : Int)) : ValidG h where
  one := by rw [e.names.length_eq]; exact hv.one
  syms := by rw [e.names.length_eq, e.terms.length_eq]; exact hv.syms
  few := by
    have := e.rules.length_eq
    unfold rulesX at this
    rw [List.length_map, List.length_map] at this
    rw [this]; exact hv.few
  names := fun n hn => hv.names n (e.names.mem_iff.1 hn)
  nodupN := e.names.nodup_iff.2 hv.nodupN
  has := fun i hi => by
    have hN := e.names.nodup_iff.2 hv.nodupN
    have hm : h.names[i]'hi ∈ g.names := e.names.mem_iff.1 (List.getElem_mem hi)
    obtain ⟨j, hj, ej⟩ := List.getElem_of_mem hm
    obtain ⟨r, hr, er⟩ := hv.has j hj
    have hx : ruleX g.names g.terms r ∈ rulesX h := e.rules.mem_iff.2 (List.mem_map.2 ⟨r, hr, rfl⟩)
    obtain ⟨s, hs, es⟩ := List.mem_map.1 hx
    refine ⟨s, hs, ?_⟩
    have h1 : h.names.getD s.left.toNat [] = g.names.getD r.left.toNat [] := congrArg Prod.fst es
    obtain ⟨k1, k2, -⟩ := hl s hs
    rw [er, Int.toNat_natCast, getD_lt hj, ej, getD_lt (by omega)] at h1
    apply Classical.byContradiction
    intro hne
    have hlt : s.left.toNat < i ∨ i < s.left.toNat := by omega
    rcases hlt with q | q
    · exact nodup_iff.1 hN i hi _ q h1
    · exact nodup_iff.1 hN _ (by omega) i q h1.symm
  terms := fun t ht => hv.terms t (e.terms.mem_iff.1 ht)
  nodupT := e.terms.nodup_iff.2 hv.nodupT
  rules := fun r hr => by
    obtain ⟨k1, k2, k3⟩ := hl r hr
    refine ⟨k1, k2, ?_, k3⟩
    have hx : ruleX h.names h.terms r ∈ rulesX g := e.rules.mem_iff.1 (List.mem_map.2 ⟨r, hr, rfl⟩)
    obtain ⟨s, hs, es⟩ := List.mem_map.1 hx
    have h1 := congrArg (fun p : RuleX => p.2.length) es
    simp only [ruleX, List.length_map] at h1
    rw [← h1]
    exact (hv.rules s hs).2.2.1
  nodupR := nodup_of_map (f := ruleX h.names h.terms) (e.rules.nodup_iff.2 (rulesX_nodup hv))
theorem symIn_range {ns ts : List (List UInt8)} {i : ItemD} (h : ItemIn ns ts i) : -(ts.length : Int) ≤ symG ns ts i ∧ symG ns ts i < (ns.length : Int) := by
  unfold ItemIn at h
  unfold symG
  split
  · next q =>
    rw [if_pos q] at h
    obtain ⟨k, e, hk, -⟩ := find_get h
    omega
  · next q =>
    rw [if_neg q] at h
    obtain ⟨k, e, hk, -⟩ := find_get h
    omega
theorem canon_valid {g : GramG} (hv : ValidG g) : ValidG (canonG g) := by
  refine equiv_valid hv (equiv_canon hv) (fun r hr => ?_)
  have hm : r ∈ (rulesX g).map (symX (canonN g) (canonT g)) := sortB_mem.1 hr
  obtain ⟨p, hp, rfl⟩ := List.mem_map.1 hm
  obtain ⟨k1, k2⟩ := ruleX_in hv hp
  obtain ⟨k, e, hk, -⟩ := find_get ((canonN_perm g).mem_iff.2 k1)
  refine ⟨by show 0 ≤ findG (canonN g) p.1; omega, by show findG (canonN g) p.1 < ((canonN g).length : Int); omega, fun s hs => ?_⟩
  obtain ⟨i, hi, rfl⟩ := List.mem_map.1 hs
  exact symIn_range ((k2 i hi).perm (canonN_perm g).symm (canonT_perm g).symm)
theorem canon_terms {g : GramG} (hv : ValidG g) : g.terms.length ≤ 256 := by have := hv.syms; omega
/-- The canonical grammar is its own. -/
theorem canon_twice {g : GramG} (hv : ValidG g) : canonG (canonG g) = canonG g := canon_congr (equiv_canon hv) (canon_terms (canon_valid hv))
theorem canon_sorted {g : GramG} (hv : ValidG g) : (canonG g).rules.Pairwise fun a b => a.left ≤ b.left := by
  have h := sortB_rising ord_rules (l := (rulesX g).map (symX (canonN g) (canonT g))) (fun y hy => by
    obtain ⟨p, -, rfl⟩ := List.mem_map.1 hy
    exact symX_few (by rw [(canonT_perm g).length_eq]; exact canon_terms hv) p)
  refine List.Pairwise.imp (fun {a b} hab => ?_) h
  unfold lessR at hab
  split at hab
  · omega
  · have := of_decide_eq_false hab; omega
end Go.Proofs.Ytmcekpgmebanaaa

/-! Plain mathematics of reduced grammars (layer 15): what is productive, what is reached, and that rounds find it. Nothing here names the program. -/
namespace Go.Proofs.Ytmcekpgmebanaaa

/-- A nonterminal that derives a string of terminals. -/
inductive ProdN (g : GramG) : Nat → Prop
  | mk (r : RuleG) (i : Nat) : r ∈ g.rules → r.left = (i : Int) → (∀ s ∈ r.right, 0 ≤ s → ProdN g s.toNat) → ProdN g i
/-- A nonterminal that stands in something that the first one derives. -/
inductive ReachN (g : GramG) : Nat → Prop
  | zero : ReachN g 0
  | step (r : RuleG) (i : Nat) (s : Int) : r ∈ g.rules → r.left = (i : Int) → ReachN g i → s ∈ r.right → 0 ≤ s → ReachN g s.toNat
/-- A terminal that stands in a rule of a nonterminal that is reached. -/
def UsedG (g : GramG) (t : Nat) : Prop := ∃ r ∈ g.rules, (∃ i : Nat, r.left = (i : Int) ∧ ReachN g i) ∧ (-1 - (t : Int)) ∈ r.right
noncomputable def prodL (g : GramG) : List Bool := (List.range g.names.length).map fun i => boolOf (ProdN g i)
noncomputable def reachL (g : GramG) : List Bool := (List.range g.names.length).map fun i => boolOf (ReachN g i)
/-- What is wrong with a grammar. -/
noncomputable def checkG (g : GramG) : Int :=
  if validB g = false then 1
  else if boolOf (∀ i, i < g.names.length → ProdN g i) = false then 18
  else if boolOf ((∀ i, i < g.names.length → ReachN g i) ∧ ∀ t, t < g.terms.length → UsedG g t) = false then 17
  else 0
theorem prodL_len (g : GramG) : (prodL g).length = g.names.length := by simp [prodL]
theorem reachL_len (g : GramG) : (reachL g).length = g.names.length := by simp [reachL]

/-! Rounds over a list of marks. -/
def marked (o : List Bool) (i : Nat) : Prop := o[i]? = some true
def belowM (a b : List Bool) : Prop := a.length = b.length ∧ ∀ i, marked a i → marked b i
theorem belowM.refl (a : List Bool) : belowM a a := ⟨rfl, fun _ h => h⟩
theorem belowM.trans {a b c : List Bool} (h : belowM a b) (k : belowM b c) : belowM a c := ⟨h.1.trans k.1, fun i hi => k.2 i (h.2 i hi)⟩
theorem marks_ext {a b : List Bool} (hl : a.length = b.length) (h : ∀ i, marked a i ↔ marked b i) : a = b := by
  apply List.ext_getElem hl
  intro i h1 h2
  have := h i
  unfold marked at this
  rw [List.getElem?_eq_getElem h1, List.getElem?_eq_getElem h2, Option.some.injEq, Option.some.injEq] at this
  cases ha : a[i] <;> cases hb : b[i] <;> simp_all
theorem belowM.antisymm {a b : List Bool} (h : belowM a b) (k : belowM b a) : a = b := marks_ext h.1 fun i => ⟨h.2 i, k.2 i⟩
/-- How many marks. -/
def marks (o : List Bool) : Nat := (o.filter id).length
theorem marks_le (o : List Bool) : marks o ≤ o.length := List.length_filter_le _ _
theorem below_marks : ∀ {a b : List Bool}, belowM a b → marks a ≤ marks b ∧ (marks a = marks b → a = b)
  | [], [], _ => ⟨Nat.le_refl _, fun _ => rfl⟩
  | [], _ :: _, h => by have := h.1; simp at this
  | _ :: _, [], h => by have := h.1; simp at this
  | x :: a, y :: b, h => by
    have ht : belowM a b := ⟨by have := h.1; simpa using this, fun i hi => by have := h.2 (i + 1) (by simpa [marked] using hi); simpa [marked] using this⟩
    obtain ⟨h1, h2⟩ := below_marks ht
    have hx : x = true → y = true := fun e => by have := h.2 0 (by simp [marked, e]); simpa [marked] using this
    unfold marks at h1 h2 ⊢
    cases x <;> cases y <;> simp at hx ⊢
    · exact ⟨h1, fun e => h2 e⟩
    · omega
    · exact ⟨h1, fun e => h2 e⟩
def iterL (F : List Bool → List Bool) : Nat → List Bool → List Bool
  | 0, o => o
  | n + 1, o => F (iterL F n o)
theorem iter_len {F : List Bool → List Bool} (hF : ∀ o, belowM o (F o)) (o : List Bool) : ∀ n, (iterL F n o).length = o.length
  | 0 => rfl
  | n + 1 => by rw [iterL, ← (hF _).1, iter_len hF o n]
/-- As many rounds as there can be marks, and one more, change nothing any more. -/
theorem iter_stable {F : List Bool → List Bool} (hF : ∀ o, belowM o (F o)) (o : List Bool) (n : Nat) (hn : o.length ≤ n) : F (iterL F n o) = iterL F n o := by
  have key : ∀ n, F (iterL F n o) = iterL F n o ∨ n < marks (iterL F (n + 1) o) := by
    intro n
    induction n with
    | zero =>
      by_cases e : F o = o
      · exact .inl e
      · right
        obtain ⟨h1, h2⟩ := below_marks (hF o)
        have : marks o ≠ marks (F o) := fun q => e (h2 q).symm
        show 0 < marks (F o)
        omega
    | succ n ih =>
      by_cases e : F (iterL F (n + 1) o) = iterL F (n + 1) o
      · exact .inl e
      · right
        rcases ih with ih | ih
        · exact (e (by show F (F (iterL F n o)) = F (iterL F n o); rw [ih, ih])).elim
        · obtain ⟨h1, h2⟩ := below_marks (hF (iterL F (n + 1) o))
          have : marks (iterL F (n + 1) o) ≠ marks (F (iterL F (n + 1) o)) := fun q => e (h2 q).symm
          show n + 1 < marks (F (iterL F (n + 1) o))
          omega
  rcases key n with h | h
  · exact h
  · have h1 := marks_le (iterL F (n + 1) o)
    rw [iter_len hF] at h1
    omega
/-- Steps that only set marks: where all of them together change nothing, none does. -/
theorem fold_below {α : Type} {f : List Bool → α → List Bool} (hf : ∀ o x, belowM o (f o x)) : ∀ (l : List α) (o : List Bool), belowM o (l.foldl f o)
  | [], o => belowM.refl o
  | x :: l, o => (hf o x).trans (fold_below hf l (f o x))
theorem fold_stable {α : Type} {f : List Bool → α → List Bool} (hf : ∀ o x, belowM o (f o x)) : ∀ (l : List α) (o : List Bool), l.foldl f o = o → ∀ x ∈ l, f o x = o
  | [], _, _, x, hx => by simp at hx
  | y :: l, o, h, x, hx => by
    have h1 : f o y = o := (hf o y).antisymm (by have := fold_below hf l (f o y); rw [List.foldl_cons] at h; rw [h] at this; exact this) |>.symm
    rw [List.foldl_cons, h1] at h
    rcases List.mem_cons.1 hx with rfl | hx
    · exact h1
    · exact fold_stable hf l o h x hx
theorem set_below (o : List Bool) (k : Nat) : belowM o (o.set k true) := ⟨by simp, fun i hi => by
  unfold marked at hi ⊢
  rw [List.getElem?_set]
  split
  · next e =>
    subst e
    split
    · rfl
    · next q => rw [List.getElem?_eq_none (by omega)] at hi; cases hi
  · exact hi⟩
theorem set_marked {o : List Bool} {k : Nat} (hk : k < o.length) : marked (o.set k true) k := by
  unfold marked; rw [List.getElem?_set_self hk]
theorem set_other {o : List Bool} {k i : Nat} (h : marked (o.set k true) i) : i = k ∨ marked o i := by
  unfold marked at h ⊢
  rw [List.getElem?_set] at h
  split at h
  · next e => exact .inl e.symm
  · exact .inr h
theorem false_marked (n i : Nat) : ¬ marked (List.replicate n false) i := by
  unfold marked
  rw [List.getElem?_replicate]
  split <;> simp

/-! What is productive. -/
/-- All nonterminals of a right side are marked. -/
def allM (o : List Bool) (right : List Int) : Prop := ∀ s ∈ right, 0 ≤ s → marked o s.toNat
noncomputable def prodS (o : List Bool) (r : RuleG) : List Bool := @ite _ (allM o r.right) (Classical.propDecidable _) (o.set r.left.toNat true) o
theorem prodS_below (o : List Bool) (r : RuleG) : belowM o (prodS o r) := by
  unfold prodS; split
  · exact set_below o _
  · exact belowM.refl o
noncomputable def prodR (g : GramG) (o : List Bool) : List Bool := g.rules.foldl prodS o
theorem prodR_below (g : GramG) (o : List Bool) : belowM o (prodR g o) := fold_below prodS_below _ _
theorem prodS_sound {g : GramG} (hv : ValidG g) {o : List Bool} {r : RuleG} (hr : r ∈ g.rules) (h : ∀ i, marked o i → ProdN g i) : ∀ i, marked (prodS o r) i → ProdN g i := by
  intro i hi
  unfold prodS at hi
  split at hi
  · next q =>
    rcases set_other hi with e | hi
    · have := (hv.rules r hr).1
      exact .mk r i hr (by omega) (fun s hs h0 => h _ (q s hs h0))
    · exact h i hi
  · exact h i hi
theorem prodR_sound {g : GramG} (hv : ValidG g) {o : List Bool} (h : ∀ i, marked o i → ProdN g i) : ∀ i, marked (prodR g o) i → ProdN g i := by
  have key : ∀ (l : List RuleG) (o : List Bool), (∀ r ∈ l, r ∈ g.rules) → (∀ i, marked o i → ProdN g i) → ∀ i, marked (l.foldl prodS o) i → ProdN g i := by
    intro l
    induction l with
    | nil => intro o _ h; exact h
    | cons x l ih => intro o hl h; exact ih _ (fun r hr => hl r (by simp [hr])) (prodS_sound hv (hl x (by simp)) h)
  exact key g.rules o (fun _ h => h) h
/-- Marks that a round leaves as they are hold all that is productive. -/
theorem prod_closed {g : GramG} (hv : ValidG g) {o : List Bool} (hl : o.length = g.names.length) (h : prodR g o = o) : ∀ i, ProdN g i → marked o i := by
  intro i hi
  induction hi with
  | mk r i hr he _ ih =>
    have h1 := fold_stable prodS_below g.rules o h r hr
    unfold prodS at h1
    rw [if_pos (show allM o r.right from ih)] at h1
    have h2 := (hv.rules r hr).2.1
    rw [← h1, show r.left.toNat = i by omega]
    exact set_marked (by omega)
theorem prod_stable {g : GramG} (hv : ValidG g) {o : List Bool} (hl : o.length = g.names.length) (hs : ∀ i, marked o i → ProdN g i) (h : prodR g o = o) : o = prodL g := by
  refine marks_ext (by rw [hl, prodL_len]) (fun i => ?_)
  by_cases hi : i < g.names.length
  · have : marked (prodL g) i ↔ ProdN g i := by
      unfold marked prodL
      rw [List.getElem?_map, List.getElem?_range hi]
      simp only [Option.map_some, Option.some.injEq]
      exact ⟨of_boolOf, boolOf_true⟩
    rw [this]
    exact ⟨hs i, prod_closed hv hl h i⟩
  · unfold marked
    rw [List.getElem?_eq_none (by omega), List.getElem?_eq_none (by rw [prodL_len]; omega)]
theorem iter_sound {g : GramG} (hv : ValidG g) : ∀ n, ∀ i, marked (iterL (prodR g) n (List.replicate g.names.length false)) i → ProdN g i
  | 0 => fun i hi => (false_marked _ _ hi).elim
  | n + 1 => prodR_sound hv (iter_sound hv n)
theorem prod_rounds {g : GramG} (hv : ValidG g) (n : Nat) (hn : g.names.length ≤ n) : iterL (prodR g) n (List.replicate g.names.length false) = prodL g := by
  have hl : (iterL (prodR g) n (List.replicate g.names.length false)).length = g.names.length := by rw [iter_len (prodR_below g), List.length_replicate]
  exact prod_stable hv hl (iter_sound hv n) (iter_stable (prodR_below g) _ n (by rw [List.length_replicate]; exact hn))

/-! What is reached. -/
/-- The symbols of rules, each with the left side. -/
def pairsG (g : GramG) : List (Int × Int) := g.rules.flatMap fun r => r.right.map fun s => (r.left, s)
noncomputable def reachS (o : List Bool) (p : Int × Int) : List Bool := @ite _ (0 ≤ p.2 ∧ marked o p.1.toNat) (Classical.propDecidable _) (o.set p.2.toNat true) o
theorem reachS_below (o : List Bool) (p : Int × Int) : belowM o (reachS o p) := by
  unfold reachS; split
  · exact set_below o _
  · exact belowM.refl o
noncomputable def reachR (g : GramG) (o : List Bool) : List Bool := (pairsG g).foldl reachS o
theorem reachR_below (g : GramG) (o : List Bool) : belowM o (reachR g o) := fold_below reachS_below _ _
theorem pairs_mem {g : GramG} {p : Int × Int} : p ∈ pairsG g ↔ ∃ r ∈ g.rules, p.1 = r.left ∧ p.2 ∈ r.right := by
  unfold pairsG
  simp only [List.mem_flatMap, List.mem_map]
  constructor
  · rintro ⟨r, hr, s, hs, rfl⟩; exact ⟨r, hr, rfl, hs⟩
  · rintro ⟨r, hr, h1, h2⟩; exact ⟨r, hr, p.2, h2, by rw [← h1]⟩
theorem reachR_sound {g : GramG} (hv : ValidG g) {o : List Bool} (h : ∀ i, marked o i → ReachN g i) : ∀ i, marked (reachR g o) i → ReachN g i := by
  have key : ∀ (l : List (Int × Int)) (o : List Bool), (∀ p ∈ l, p ∈ pairsG g) → (∀ i, marked o i → ReachN g i) → ∀ i, marked (l.foldl reachS o) i → ReachN g i := by
    intro l
    induction l with
    | nil => intro o _ h; exact h
    | cons x l ih =>
      intro o hl h
      refine ih _ (fun r hr => hl r (by simp [hr])) (fun i hi => ?_)
      unfold reachS at hi
      split at hi
      · next q =>
        rcases set_other hi with e | hi
        · obtain ⟨r, hr, h1, h2⟩ := pairs_mem.1 (hl x (by simp))
          have := (hv.rules r hr).1
          rw [e]
          exact .step r x.1.toNat x.2 hr (by omega) (h _ q.2) h2 q.1
        · exact h i hi
      · exact h i hi
  exact key (pairsG g) o (fun _ h => h) h
theorem reach_closed {g : GramG} (hv : ValidG g) {o : List Bool} (hl : o.length = g.names.length) (h0 : marked o 0) (h : reachR g o = o) : ∀ i, ReachN g i → marked o i := by
  intro i hi
  induction hi with
  | zero => exact h0
  | step r i s hr he _ hs hp ih =>
    have h1 := fold_stable reachS_below (pairsG g) o h (r.left, s) (pairs_mem.2 ⟨r, hr, rfl, hs⟩)
    unfold reachS at h1
    rw [if_pos ⟨hp, by simp only; rw [he]; exact ih⟩] at h1
    have h2 := ((hv.rules r hr).2.2.2 s hs).2
    rw [← h1]
    exact set_marked (by omega)
theorem reach_stable {g : GramG} (hv : ValidG g) {o : List Bool} (hl : o.length = g.names.length) (h0 : marked o 0) (hs : ∀ i, marked o i → ReachN g i) (h : reachR g o = o) : o = reachL g := by
  refine marks_ext (by rw [hl, reachL_len]) (fun i => ?_)
  by_cases hi : i < g.names.length
  · have : marked (reachL g) i ↔ ReachN g i := by
      unfold marked reachL
      rw [List.getElem?_map, List.getElem?_range hi]
      simp only [Option.map_some, Option.some.injEq]
      exact ⟨of_boolOf, boolOf_true⟩
    rw [this]
    exact ⟨hs i, reach_closed hv hl h0 h i⟩
  · unfold marked
    rw [List.getElem?_eq_none (by omega), List.getElem?_eq_none (by rw [reachL_len]; omega)]
def firstM (n : Nat) : List Bool := (List.replicate n false).set 0 true
theorem first_len (n : Nat) : (firstM n).length = n := by simp [firstM]
theorem first_marked {n : Nat} (h : 1 ≤ n) : marked (firstM n) 0 := set_marked (by simp; omega)
theorem first_sound (g : GramG) {n i : Nat} (h : marked (firstM n) i) : ReachN g i := by
  rcases set_other h with rfl | h
  · exact .zero
  · exact (false_marked _ _ h).elim
theorem iterR_sound {g : GramG} (hv : ValidG g) : ∀ n, ∀ i, marked (iterL (reachR g) n (firstM g.names.length)) i → ReachN g i
  | 0 => fun i hi => first_sound g hi
  | n + 1 => reachR_sound hv (iterR_sound hv n)
theorem iter_below {F : List Bool → List Bool} (hF : ∀ o, belowM o (F o)) (o : List Bool) : ∀ n, belowM o (iterL F n o)
  | 0 => belowM.refl o
  | n + 1 => (iter_below hF o n).trans (hF _)
theorem reach_rounds {g : GramG} (hv : ValidG g) (n : Nat) (hn : g.names.length ≤ n) : iterL (reachR g) n (firstM g.names.length) = reachL g := by
  have hl : (iterL (reachR g) n (firstM g.names.length)).length = g.names.length := by rw [iter_len (reachR_below g), first_len]
  exact reach_stable hv hl ((iter_below (reachR_below g) _ n).2 0 (first_marked hv.one)) (iterR_sound hv n) (iter_stable (reachR_below g) _ n (by rw [first_len]; exact hn))
end Go.Proofs.Ytmcekpgmebanaaa

/-! Plain mathematics of the lengths of what is derived (layer 15). Nothing here names the program. -/
namespace Go.Proofs.Ytmcekpgmebanaaa

/-- A string of symbols derives a string of n terminals. -/
inductive LenN (g : GramG) : List Int → Nat → Prop
  | nil : LenN g [] 0
  | term (s : Int) (r : List Int) (n : Nat) : s < 0 → LenN g r n → LenN g (s :: r) (n + 1)
  | non (ρ : RuleG) (i : Nat) (r : List Int) (a n : Nat) : ρ ∈ g.rules → ρ.left = (i : Int) → LenN g ρ.right a → LenN g r n → LenN g ((i : Int) :: r) (a + n)
theorem len_append {g : GramG} {a b : List Int} {m n : Nat} (h : LenN g a m) (k : LenN g b n) : LenN g (a ++ b) (m + n) := by
  induction h with
  | nil => simpa using k
  | term s r m hs _ ih => rw [show m + 1 + n = (m + n) + 1 by omega]; exact .term s _ _ hs ih
  | non ρ i r a m hm he h1 _ _ ih2 => rw [Nat.add_assoc]; exact .non ρ i _ a _ hm he h1 ih2
theorem len_one {g : GramG} {i n : Nat} : LenN g [(i : Int)] n ↔ ∃ ρ ∈ g.rules, ρ.left = (i : Int) ∧ LenN g ρ.right n := by
  constructor
  · intro h
    generalize hx : ([(i : Int)] : List Int) = x at h
    cases h with
    | nil => cases hx
    | term s r m hs _ => injection hx with e _; omega
    | non ρ j r a m hm he h1 h2 =>
      injection hx with e1 e2
      subst e2
      cases h2
      exact ⟨ρ, hm, by omega, h1⟩
  · rintro ⟨ρ, hm, he, h⟩
    have := LenN.non ρ i [] n 0 hm he h .nil
    simpa using this
theorem len_prod {g : GramG} (hv : ValidG g) : ∀ {x : List Int} {n : Nat}, LenN g x n → ∀ s ∈ x, 0 ≤ s → ProdN g s.toNat := by
  intro x n h
  induction h with
  | nil => intro s hs; simp at hs
  | term s r n hs _ ih =>
    intro u hu h0
    rcases List.mem_cons.1 hu with rfl | hu
    · omega
    · exact ih u hu h0
  | non ρ i r a n hm he _ _ ih1 ih2 =>
    intro u hu h0
    rcases List.mem_cons.1 hu with rfl | hu
    · exact .mk ρ _ hm (by rw [he]; simp) ih1
    · exact ih2 u hu h0
theorem prod_len {g : GramG} : ∀ {i : Nat}, ProdN g i → ∃ n, LenN g [(i : Int)] n := by
  intro i h
  induction h with
  | mk r i hr he _ ih =>
    have key : ∀ x : List Int, (∀ s ∈ x, s ∈ r.right) → ∃ n, LenN g x n := by
      intro x
      induction x with
      | nil => intro _; exact ⟨0, .nil⟩
      | cons s x ihx =>
        intro hx
        obtain ⟨n, hn⟩ := ihx (fun u hu => hx u (by simp [hu]))
        by_cases h0 : 0 ≤ s
        · obtain ⟨m, hm⟩ := ih s (hx s (by simp)) h0
          have e : ((s.toNat : Nat) : Int) = s := by omega
          rw [e] at hm
          exact ⟨m + n, len_append (a := [s]) hm hn⟩
        · exact ⟨n + 1, .term s x n (by omega) hn⟩
    obtain ⟨n, hn⟩ := key r.right (fun s hs => hs)
    exact ⟨n, len_one.2 ⟨r, hr, he, hn⟩⟩
theorem prod_iff_len {g : GramG} (hv : ValidG g) {i : Nat} : ProdN g i ↔ ∃ n, LenN g [(i : Int)] n :=
  ⟨prod_len, fun ⟨_, h⟩ => by have := len_prod hv h (i : Int) (by simp) (by omega); simpa using this⟩
/-- The least length, if there is one. -/
def LeastN (g : GramG) (i m : Nat) : Prop := LenN g [(i : Int)] m ∧ ∀ n, LenN g [(i : Int)] n → m ≤ n
theorem least_of {p : Nat → Prop} : ∀ n, p n → ∃ m, p m ∧ ∀ k, p k → m ≤ k := by
  intro n
  induction n using Nat.strongRecOn with
  | ind n ih =>
    intro h
    by_cases q : ∃ k, k < n ∧ p k
    · obtain ⟨k, hk, hp⟩ := q; exact ih k hk hp
    · exact ⟨n, h, fun k hp => Nat.le_of_not_lt fun hk => q ⟨k, hk, hp⟩⟩
/-- What Shortest tells of a nonterminal. -/
def ShortIs (g : GramG) (i : Nat) (v : Int) : Prop := (v = -1 ∧ ¬ ProdN g i) ∨ ∃ m, LeastN g i m ∧ v = ((min m 1000000 : Nat) : Int)
theorem short_exists {g : GramG} (hv : ValidG g) (i : Nat) : ∃ v, ShortIs g i v := by
  by_cases h : ProdN g i
  · obtain ⟨n, hn⟩ := prod_len h
    obtain ⟨m, h1, h2⟩ := least_of n hn
    exact ⟨_, .inr ⟨m, ⟨h1, h2⟩, rfl⟩⟩
  · exact ⟨-1, .inl ⟨rfl, h⟩⟩
theorem short_unique {g : GramG} (hv : ValidG g) {i : Nat} {v w : Int} (h : ShortIs g i v) (k : ShortIs g i w) : v = w := by
  rcases h with ⟨rfl, h⟩ | ⟨m, h, rfl⟩ <;> rcases k with ⟨rfl, k⟩ | ⟨n, k, rfl⟩
  · rfl
  · exact (h ((prod_iff_len hv).2 ⟨n, k.1⟩)).elim
  · exact (k ((prod_iff_len hv).2 ⟨m, h.1⟩)).elim
  · have := h.2 n k.1
    have := k.2 m h.1
    rw [show m = n by omega]
theorem short_sign {g : GramG} (hv : ValidG g) {i : Nat} {v : Int} (h : ShortIs g i v) : (0 ≤ v ↔ ProdN g i) := by
  rcases h with ⟨rfl, h⟩ | ⟨m, h, rfl⟩
  · exact ⟨fun q => by omega, fun q => (h q).elim⟩
  · exact ⟨fun _ => (prod_iff_len hv).2 ⟨m, h.1⟩, fun _ => by omega⟩
/-- What the statement asks of lengths of up to six. -/
theorem short_small {g : GramG} (hv : ValidG g) {i n : Nat} (hn : n ≤ 6) {v : Int} (h : ShortIs g i v) : ((n : Int) = v → LenN g [(i : Int)] n) ∧ (LenN g [(i : Int)] n → 0 ≤ v ∧ v ≤ (n : Int)) := by
  rcases h with ⟨rfl, h⟩ | ⟨m, h, rfl⟩
  · exact ⟨fun q => by omega, fun q => (h ((prod_iff_len hv).2 ⟨n, q⟩)).elim⟩
  · constructor
    · intro q
      rw [show n = m by omega]
      exact h.1
    · intro q
      have := h.2 n q
      omega

/-! The lengths of up to six, found round by round: mark i * 7 + n. -/
/-- So many terminals can come out of a right side, where the marks tell of each nonterminal. -/
def fillP (o : List Bool) : List Int → Nat → Prop
  | [], n => n = 0
  | s :: r, n => (s < 0 ∧ ∃ m, n = m + 1 ∧ fillP o r m) ∨ (0 ≤ s ∧ ∃ k m, n = k + m ∧ k ≤ 6 ∧ marked o (s.toNat * 7 + k) ∧ fillP o r m)
theorem fillP_mono {a b : List Bool} (h : belowM a b) : ∀ (x : List Int) (n : Nat), fillP a x n → fillP b x n
  | [], n, q => q
  | s :: r, n, q => by
    rcases q with ⟨h0, m, e, q⟩ | ⟨h0, k, m, e, hk, hm, q⟩
    · exact .inl ⟨h0, m, e, fillP_mono h r m q⟩
    · exact .inr ⟨h0, k, m, e, hk, h.2 _ hm, fillP_mono h r m q⟩
noncomputable def lenS1 (o0 : List Bool) (r : RuleG) (o : List Bool) (n : Nat) : List Bool := @ite _ (fillP o0 r.right n) (Classical.propDecidable _) (o.set (r.left.toNat * 7 + n) true) o
theorem lenS1_below (o0 : List Bool) (r : RuleG) (o : List Bool) (n : Nat) : belowM o (lenS1 o0 r o n) := by
  unfold lenS1; split
  · exact set_below o _
  · exact belowM.refl o
noncomputable def lenS (o : List Bool) (r : RuleG) : List Bool := (List.range 7).foldl (lenS1 o r) o
theorem lenS_below (o : List Bool) (r : RuleG) : belowM o (lenS o r) := fold_below (lenS1_below o r) _ _
noncomputable def lenR (g : GramG) (o : List Bool) : List Bool := g.rules.foldl lenS o
theorem lenR_below (g : GramG) (o : List Bool) : belowM o (lenR g o) := fold_below lenS_below _ _
/-- The marks are true. -/
def TrueM (g : GramG) (o : List Bool) : Prop := ∀ i n, n ≤ 6 → marked o (i * 7 + n) → LenN g [(i : Int)] n
theorem fillP_sound {g : GramG} {o : List Bool} (h : TrueM g o) : ∀ (x : List Int) (n : Nat), fillP o x n → LenN g x n
  | [], n, q => by obtain rfl : n = 0 := q; exact .nil
  | s :: r, n, q => by
    rcases q with ⟨h0, m, rfl, q⟩ | ⟨h0, k, m, rfl, hk, hm, q⟩
    · exact .term s r m h0 (fillP_sound h r m q)
    · have h1 := h _ k hk hm
      rw [show ((s.toNat : Nat) : Int) = s by omega] at h1
      exact len_append (a := [s]) h1 (fillP_sound h r m q)
theorem lenS_sound {g : GramG} (hv : ValidG g) {o : List Bool} {r : RuleG} (hr : r ∈ g.rules) (h : TrueM g o) : TrueM g (lenS o r) := by
  have key : ∀ (l : List Nat) (o' : List Bool), (∀ n ∈ l, n < 7) → TrueM g o' → TrueM g (l.foldl (lenS1 o r) o') := by
    intro l
    induction l with
    | nil => intro o' _ h'; exact h'
    | cons x l ih =>
      intro o' hl h'
      refine ih _ (fun n hn => hl n (by simp [hn])) (fun i n hn hm => ?_)
      unfold lenS1 at hm
      split at hm
      · next q =>
        rcases set_other hm with e | hm
        · have hx := hl x (by simp)
          have h1 : i = r.left.toNat := by omega
          have h2 : n = x := by omega
          subst h1 h2
          have := (hv.rules r hr).1
          exact len_one.2 ⟨r, hr, by omega, fillP_sound h _ _ q⟩
        · exact h' i n hn hm
      · exact h' i n hn hm
  exact key (List.range 7) o (fun n hn => List.mem_range.1 hn) h
theorem lenR_sound {g : GramG} (hv : ValidG g) {o : List Bool} (h : TrueM g o) : TrueM g (lenR g o) := by
  have key : ∀ (l : List RuleG) (o : List Bool), (∀ r ∈ l, r ∈ g.rules) → TrueM g o → TrueM g (l.foldl lenS o) := by
    intro l
    induction l with
    | nil => intro o _ h; exact h
    | cons x l ih => intro o hl h; exact ih _ (fun r hr => hl r (by simp [hr])) (lenS_sound hv (hl x (by simp)) h)
  exact key g.rules o (fun _ h => h) h
theorem lens_iter_sound {g : GramG} (hv : ValidG g) (N : Nat) : ∀ n, TrueM g (iterL (lenR g) n (List.replicate N false))
  | 0 => fun i n _ hm => (false_marked _ _ hm).elim
  | n + 1 => lenR_sound hv (lens_iter_sound hv N n)
/-- Marks that a round leaves as they are hold every length of up to six. -/
theorem len_closed {g : GramG} (hv : ValidG g) {o : List Bool} (hl : o.length = g.names.length * 7) (h : lenR g o = o) : ∀ {x : List Int} {n : Nat}, LenN g x n → n ≤ 6 → fillP o x n := by
  intro x n q
  induction q with
  | nil => intro _; rfl
  | term s r n hs _ ih => intro hn; exact .inl ⟨hs, n, rfl, ih (by omega)⟩
  | non ρ i r a n hm he _ _ ih1 ih2 =>
    intro hn
    refine .inr ⟨by omega, a, n, rfl, by omega, ?_, ih2 (by omega)⟩
    have h1 := fold_stable lenS_below g.rules o h ρ hm
    have h2 := fold_stable (lenS1_below o ρ) (List.range 7) o h1 a (List.mem_range.2 (by omega))
    unfold lenS1 at h2
    rw [if_pos (ih1 (by omega))] at h2
    have h3 := (hv.rules ρ hm).2.1
    rw [← h2, show ((i : Int)).toNat = i by simp, show ρ.left.toNat = i by omega]
    exact set_marked (by omega)
theorem len_rounds {g : GramG} (hv : ValidG g) (k : Nat) (hk : g.names.length * 7 ≤ k) {i n : Nat} (hi : i < g.names.length) (hn : n ≤ 6) : marked (iterL (lenR g) k (List.replicate (g.names.length * 7) false)) (i * 7 + n) ↔ LenN g [(i : Int)] n := by
  refine ⟨lens_iter_sound hv _ k i n hn, fun h => ?_⟩
  have hl : (iterL (lenR g) k (List.replicate (g.names.length * 7) false)).length = g.names.length * 7 := by rw [iter_len (lenR_below g), List.length_replicate]
  have hs := iter_stable (lenR_below g) (List.replicate (g.names.length * 7) false) k (by rw [List.length_replicate]; exact hk)
  rcases len_closed hv hl hs h hn with ⟨h0, _⟩ | ⟨_, a, m, e, _, hm, hf⟩
  · omega
  · obtain rfl : m = 0 := hf
    rw [e]
    simpa using hm
end Go.Proofs.Ytmcekpgmebanaaa

/-! Plain mathematics of propagate (layer 15): rounds over the rules until one finds nothing new. Nothing here names the program. -/
namespace Go.Proofs.Ytmcekpgmebanaaa

def roundF {σ : Type} (F : σ → RuleG → σ × Bool) : List RuleG → σ × Bool → σ × Bool
  | [], x => x
  | r :: l, x => roundF F l ((F x.1 r).1, x.2 || (F x.1 r).2)
def propF {σ : Type} (F : σ → RuleG → σ × Bool) (rules : List RuleG) : Nat → σ → σ
  | 0, s => s
  | n + 1, s => if (roundF F rules (s, false)).2 = true then propF F rules n (roundF F rules (s, false)).1 else (roundF F rules (s, false)).1
theorem round_drop {σ : Type} (F : σ → RuleG → σ × Bool) {rules : List RuleG} {k : Nat} (h : k < rules.length) (st : σ) (m : Bool) :
    roundF F (rules.drop k) (st, m) = roundF F (rules.drop (k + 1)) ((F st (rules[k]'h)).1, m || (F st (rules[k]'h)).2) := by
  rw [List.drop_eq_getElem_cons h, roundF]
theorem round_end {σ : Type} (F : σ → RuleG → σ × Bool) {rules : List RuleG} {k : Nat} (h : rules.length ≤ k) (x : σ × Bool) : roundF F (rules.drop k) x = x := by
  rw [List.drop_eq_nil_of_le h, roundF]
end Go.Proofs.Ytmcekpgmebanaaa

/-! Plain mathematics of the steps of the program's well (layer 15): the lengths. Nothing here names the program. -/
namespace Go.Proofs.Ytmcekpgmebanaaa

/-- The length of what a symbol derives, by what is known of the nonterminals. -/
def symLen (s : List Int) (x : Int) : Int := if x < 0 then 1 else (s[x.toNat]?).getD (-1)
def lenGo (s : List Int) : List Int → Int → Int
  | [], a => if a ≤ 1000000 then a else 1000000
  | x :: r, a => if symLen s x = -1 then -1 else lenGo s r (a + symLen s x)
def lenOf (s right : List Int) : Int := lenGo s right 0
/-- The lengths that are known are lengths. -/
def LenOk (s : List Int) : Prop := ∀ v ∈ s, -1 ≤ v ∧ v ≤ 1000000
theorem symLen_neg {s : List Int} {x : Int} (h : x < 0) : symLen s x = 1 := if_pos h
theorem symLen_nat {s : List Int} {m : Nat} (h : m < s.length) : symLen s (m : Int) = s[m]'h := by
  unfold symLen
  rw [if_neg (by omega), Int.toNat_natCast, List.getElem?_eq_getElem h]
  rfl
/-- What one rule does to the lengths. -/
def stepL (s : List Int) (r : RuleG) : List Int × Bool :=
  if lenOf s r.right = -1 ∨ ((s[r.left.toNat]?).getD (-1) ≠ -1 ∧ (s[r.left.toNat]?).getD (-1) ≤ lenOf s r.right) then (s, false) else (s.set r.left.toNat (lenOf s r.right), true)
theorem lenGo_ok {s : List Int} (h : LenOk s) : ∀ (r : List Int) (a : Int), 0 ≤ a → -1 ≤ lenGo s r a ∧ lenGo s r a ≤ 1000000
  | [], a, ha => by unfold lenGo; split <;> omega
  | x :: r, a, ha => by
    unfold lenGo
    have hx : -1 ≤ symLen s x := by
      unfold symLen
      split
      · omega
      · cases e : s[x.toNat]? with
        | none => simp
        | some v => exact (h v (List.mem_of_getElem? e)).1
    split
    · omega
    · exact lenGo_ok h r _ (by omega)
theorem stepL_ok {s : List Int} {r : RuleG} (h : LenOk s) : LenOk (stepL s r).1 := by
  unfold stepL
  split
  · exact h
  · intro v hv
    rcases List.mem_or_eq_of_mem_set hv with hv | rfl
    · exact h v hv
    · exact lenGo_ok h _ _ (by decide)
theorem stepL_len (s : List Int) (r : RuleG) : (stepL s r).1.length = s.length := by
  unfold stepL
  split
  · rfl
  · simp
/-- The lengths that the program finds. -/
def lensP (g : GramG) : List Int := propF stepL g.rules g.names.length (List.replicate g.names.length (-1))

/-- What is known of a nonterminal. -/
def atL (s : List Int) (i : Nat) : Int := (s[i]?).getD (-1)
def SndL (g : GramG) (s : List Int) : Prop := ∀ i, atL s i ≠ -1 → ∃ m, LenN g [(i : Int)] m ∧ atL s i = ((min m 1000000 : Nat) : Int)
theorem lenGo_sound {g : GramG} {s : List Int} (hs : SndL g s) : ∀ (r : List Int) (a A : Nat), min a 1000000 = min A 1000000 → lenGo s r (a : Int) ≠ -1 → ∃ n, LenN g r n ∧ lenGo s r (a : Int) = ((min (A + n) 1000000 : Nat) : Int)
  | [], a, A, hc, _ => ⟨0, .nil, by unfold lenGo; split <;> omega⟩
  | x :: r, a, A, hc, hne => by
    unfold lenGo at hne ⊢
    by_cases hx : symLen s x = -1
    · rw [if_pos hx] at hne; exact (hne rfl).elim
    · rw [if_neg hx] at hne ⊢
      by_cases h0 : x < 0
      · rw [symLen_neg h0] at hne ⊢
        obtain ⟨n, hn, he⟩ := lenGo_sound hs r (a + 1) (A + 1) (by omega) (by simpa using hne)
        refine ⟨n + 1, .term x r n h0 hn, ?_⟩
        rw [show (a : Int) + 1 = ((a + 1 : Nat) : Int) by omega, he]
        omega
      · have hv : symLen s x = atL s x.toNat := by unfold symLen atL; rw [if_neg h0]
        rw [hv] at hne hx ⊢
        obtain ⟨m, hm, hv2⟩ := hs _ hx
        rw [hv2] at hne ⊢
        rw [show (a : Int) + ((min m 1000000 : Nat) : Int) = ((a + min m 1000000 : Nat) : Int) by omega] at hne ⊢
        obtain ⟨n, hn, he⟩ := lenGo_sound hs r (a + min m 1000000) (A + m) (by omega) hne
        rw [show ((x.toNat : Nat) : Int) = x by omega] at hm
        refine ⟨m + n, len_append (a := [x]) hm hn, ?_⟩
        rw [he]
        omega
/-- No shorter string is missed. -/
def FinL (g : GramG) (s : List Int) (i : Nat) : Prop := ∀ n, LenN g [(i : Int)] n → atL s i ≠ -1 ∧ atL s i ≤ ((min n 1000000 : Nat) : Int)
theorem lenGo_bound {g : GramG} {s : List Int} (hok : LenOk s) {x : List Int} {n : Nat} (h : LenN g x n) : (∀ y ∈ x, 0 ≤ y → FinL g s y.toNat) → ∀ a A : Nat, min a 1000000 ≤ min A 1000000 → lenGo s x (a : Int) ≠ -1 ∧ lenGo s x (a : Int) ≤ ((min (A + n) 1000000 : Nat) : Int) := by
  induction h with
  | nil => intro _ a A hc; unfold lenGo; split <;> omega
  | term y r n h0 _ ih =>
    intro hf a A hc
    unfold lenGo
    rw [symLen_neg h0, if_neg (by decide)]
    have := ih (fun z hz => hf z (by simp [hz])) (a + 1) (A + 1) (by omega)
    rw [show (a : Int) + 1 = ((a + 1 : Nat) : Int) by omega]
    refine ⟨this.1, ?_⟩
    have h2 := this.2
    omega
  | non ρ i r k n hm he h1 _ _ ih2 =>
    intro hf a A hc
    have hi := hf (i : Int) (by simp) (by omega) k (by rw [Int.toNat_natCast]; exact len_one.2 ⟨ρ, hm, he, h1⟩)
    rw [Int.toNat_natCast] at hi
    have hv : symLen s (i : Int) = atL s i := by unfold symLen atL; rw [if_neg (by omega), Int.toNat_natCast]
    unfold lenGo
    rw [hv, if_neg hi.1]
    obtain ⟨v, hvv⟩ : ∃ v : Nat, atL s i = (v : Int) := ⟨(atL s i).toNat, by
      have : -1 ≤ atL s i := by
        unfold atL
        cases e : s[i]? with
        | none => simp
        | some u => exact (hok u (List.mem_of_getElem? e)).1
      have := hi.1
      omega⟩
    have h3 := hi.2
    rw [hvv] at h3 ⊢
    have := ih2 (fun z hz => hf z (by simp [hz])) (a + v) (A + k) (by omega)
    rw [show (a : Int) + (v : Int) = ((a + v : Nat) : Int) by omega]
    refine ⟨this.1, ?_⟩
    have h2 := this.2
    omega
/-- Lengths only get better. -/
def ImpL (s t : List Int) : Prop := t.length = s.length ∧ ∀ i, atL s i ≠ -1 → atL t i ≠ -1 ∧ atL t i ≤ atL s i
theorem ImpL.refl (s : List Int) : ImpL s s := ⟨rfl, fun _ h => ⟨h, Int.le_refl _⟩⟩
theorem ImpL.trans {a b c : List Int} (h : ImpL a b) (k : ImpL b c) : ImpL a c := ⟨k.1.trans h.1, fun i hi => by
  have h1 := h.2 i hi
  have h2 := k.2 i h1.1
  exact ⟨h2.1, Int.le_trans h2.2 h1.2⟩⟩
theorem FinL.imp {g : GramG} {s t : List Int} {i : Nat} (h : FinL g s i) (k : ImpL s t) : FinL g t i := fun n hn => by
  have h1 := h n hn
  have h2 := k.2 i h1.1
  exact ⟨h2.1, Int.le_trans h2.2 h1.2⟩
theorem atL_set {s : List Int} {k : Nat} (v : Int) (i : Nat) (hk : k < s.length) : atL (s.set k v) i = if i = k then v else atL s i := by
  unfold atL
  rw [List.getElem?_set]
  by_cases e : k = i
  · subst e; simp [hk]
  · rw [if_neg e, if_neg (fun q => e q.symm)]
theorem stepL_imp {s : List Int} {r : RuleG} (hr : r.left.toNat < s.length) : ImpL s (stepL s r).1 := by
  unfold stepL
  split
  · exact ImpL.refl s
  · next h =>
    refine ⟨by simp, fun i hi => ?_⟩
    simp only
    rw [atL_set _ _ hr]
    split
    · next e =>
      subst e
      unfold atL at hi ⊢
      constructor
      · exact fun q => h (.inl q)
      · exact Int.le_of_lt (Int.not_le.1 fun q => h (.inr ⟨hi, q⟩))
    · exact ⟨hi, Int.le_refl _⟩
theorem stepL_sound {g : GramG} {s : List Int} {r : RuleG} (hs : SndL g s) (hm : r ∈ g.rules) (h0 : 0 ≤ r.left) (hr : r.left.toNat < s.length) : SndL g (stepL s r).1 := by
  unfold stepL
  split
  · exact hs
  · next h =>
    intro i hi
    simp only at hi ⊢
    rw [atL_set _ _ hr] at hi ⊢
    split
    · next e =>
      rw [if_pos e] at hi
      obtain ⟨n, hn, he⟩ := lenGo_sound hs r.right 0 0 rfl hi
      refine ⟨n, ?_, by rw [show lenOf s r.right = lenGo s r.right ((0 : Nat) : Int) from rfl, he]; omega⟩
      exact len_one.2 ⟨r, hm, by omega, hn⟩
    · next e =>
      rw [if_neg e] at hi
      exact hs i hi
/-- Behind the rule, the left side is at most as long as what its right side derives. -/
theorem stepL_bound {g : GramG} {s : List Int} {r : RuleG} (hok : LenOk s) (hr : r.left.toNat < s.length) (hf : ∀ y ∈ r.right, 0 ≤ y → FinL g s y.toNat) {n : Nat} (hn : LenN g r.right n) :
    atL (stepL s r).1 r.left.toNat ≠ -1 ∧ atL (stepL s r).1 r.left.toNat ≤ ((min n 1000000 : Nat) : Int) := by
  have hb := lenGo_bound hok hn hf 0 0 (Nat.le_refl _)
  rw [Nat.zero_add] at hb
  have hb1 : lenOf s r.right ≠ -1 := hb.1
  have hb2 : lenOf s r.right ≤ ((min n 1000000 : Nat) : Int) := hb.2
  unfold stepL
  split
  · next h =>
    rcases h with h | ⟨h1, h2⟩
    · exact (hb1 h).elim
    · exact ⟨h1, Int.le_trans h2 hb2⟩
  · simp only
    rw [atL_set _ _ hr, if_pos rfl]
    exact ⟨hb1, hb2⟩

/-! A round. -/
structure InvL (g : GramG) (s : List Int) : Prop where
  len : s.length = g.names.length
  ok : LenOk s
  snd : SndL g s
theorem stepL_inv {g : GramG} (hv : ValidG g) {s : List Int} (h : InvL g s) {r : RuleG} (hr : r ∈ g.rules) : InvL g (stepL s r).1 ∧ ImpL s (stepL s r).1 := by
  have := hv.rules r hr
  have hl : r.left.toNat < s.length := by rw [h.len]; omega
  exact ⟨⟨(stepL_len s r).trans h.len, stepL_ok h.ok, stepL_sound h.snd hr this.1 hl⟩, stepL_imp hl⟩
theorem roundL_inv {g : GramG} (hv : ValidG g) : ∀ (l : List RuleG), (∀ r ∈ l, r ∈ g.rules) → ∀ (s : List Int) (m : Bool), InvL g s → InvL g (roundF stepL l (s, m)).1 ∧ ImpL s (roundF stepL l (s, m)).1 ∧
    (∀ r ∈ l, (∀ y ∈ r.right, 0 ≤ y → FinL g s y.toNat) → ∀ n, LenN g r.right n → atL (roundF stepL l (s, m)).1 r.left.toNat ≠ -1 ∧ atL (roundF stepL l (s, m)).1 r.left.toNat ≤ ((min n 1000000 : Nat) : Int)) ∧
    ((roundF stepL l (s, m)).2 = false → (roundF stepL l (s, m)).1 = s)
  | [], _, s, m, h => ⟨h, ImpL.refl s, fun r hr => by simp at hr, fun _ => rfl⟩
  | x :: l, hl, s, m, h => by
    obtain ⟨h1, h2⟩ := stepL_inv hv h (hl x (by simp))
    obtain ⟨k1, k2, k3, k4⟩ := roundL_inv hv l (fun r hr => hl r (by simp [hr])) (stepL s x).1 (m || (stepL s x).2) h1
    refine ⟨k1, h2.trans k2, fun r hr hf n hn => ?_, fun q => ?_⟩
    · rcases List.mem_cons.1 hr with rfl | hr
      · have hb := stepL_bound h.ok (by have := hv.rules r (hl r (by simp)); rw [h.len]; omega) hf hn
        have h5 := k2.2 _ hb.1
        exact ⟨h5.1, Int.le_trans h5.2 hb.2⟩
      · exact k3 r hr (fun y hy h0 => (hf y hy h0).imp h2) n hn
    · have hq : (roundF stepL l ((stepL s x).1, m || (stepL s x).2)).2 = false := q
      have h5 := k4 hq
      have h6 : ∀ (l : List RuleG) (y : List Int × Bool), (roundF stepL l y).2 = false → y.2 = false := by
        intro l
        induction l with
        | nil => intro y q; exact q
        | cons z l ih => intro y q; have := ih _ q; simp only [Bool.or_eq_false_iff] at this; exact this.1
      have h7 := h6 l _ hq
      simp only [Bool.or_eq_false_iff] at h7
      show (roundF stepL l ((stepL s x).1, m || (stepL s x).2)).1 = s
      rw [h5]
      have h8 := h7.2
      unfold stepL at h8 ⊢
      split
      · rfl
      · next e => rw [if_neg e] at h8; cases h8
/-- Where a round makes no further nonterminal final, all are. -/
theorem all_final {g : GramG} (hv : ValidG g) {s : List Int} (h : InvL g s) (hs : ∀ i, FinL g (roundF stepL g.rules (s, false)).1 i → FinL g s i) : ∀ i, FinL g s i := by
  obtain ⟨-, -, k3, -⟩ := roundL_inv hv g.rules (fun _ h => h) s false h
  have key : ∀ {x : List Int} {n : Nat}, LenN g x n → (∀ y ∈ x, 0 ≤ y → FinL g s y.toNat) ∨ ∃ m, m < n ∧ LenN g x m := by
    intro x n hx
    induction hx with
    | nil => exact .inl (fun y hy => by simp at hy)
    | term y r n h0 _ ih =>
      rcases ih with ih | ⟨m, hm, hr⟩
      · exact .inl (fun z hz hz0 => by
          rcases List.mem_cons.1 hz with rfl | hz
          · omega
          · exact ih z hz hz0)
      · exact .inr ⟨m + 1, by omega, .term y r m h0 hr⟩
    | non ρ i r a n hm he h1 h2 ih1 ih2 =>
      by_cases hf : FinL g s i
      · rcases ih2 with ih2 | ⟨m, hm2, hr⟩
        · exact .inl (fun z hz hz0 => by
            rcases List.mem_cons.1 hz with rfl | hz
            · rw [Int.toNat_natCast]; exact hf
            · exact ih2 z hz hz0)
        · exact .inr ⟨a + m, by omega, .non ρ i r a m hm he h1 hr⟩
      · right
        have hn1 : ¬ FinL g (roundF stepL g.rules (s, false)).1 i := fun q => hf (hs i q)
        rcases ih1 with ih1 | ⟨m, hm2, hr⟩
        · have hb := k3 ρ hm ih1 a h1
          rw [he, Int.toNat_natCast] at hb
          have : ∃ m, LenN g [(i : Int)] m ∧ m < a := by
            apply Classical.byContradiction
            intro q
            refine hn1 (fun m hm3 => ⟨hb.1, Int.le_trans hb.2 ?_⟩)
            have : ¬ m < a := fun hlt => q ⟨m, hm3, hlt⟩
            omega
          obtain ⟨m, hm3, hlt⟩ := this
          exact ⟨m + n, by omega, len_append (a := [(i : Int)]) hm3 h2⟩
        · exact ⟨m + n, by omega, .non ρ i r m n hm he hr h2⟩
  intro i n hn
  obtain ⟨m, h1, h2⟩ := least_of (p := fun n => LenN g [(i : Int)] n) n hn
  rcases key h1 with hk | ⟨k, hk, hk2⟩
  · have := hk (i : Int) (by simp) (by omega)
    rw [Int.toNat_natCast] at this
    exact this n hn
  · have := h2 k hk2
    omega
noncomputable def finM (g : GramG) (s : List Int) : List Bool := (List.range g.names.length).map fun i => boolOf (FinL g s i)
theorem finM_len (g : GramG) (s : List Int) : (finM g s).length = g.names.length := by simp [finM]
theorem finM_marked {g : GramG} {s : List Int} {i : Nat} (hi : i < g.names.length) : marked (finM g s) i ↔ FinL g s i := by
  unfold marked finM
  rw [List.getElem?_map, List.getElem?_range hi]
  simp only [Option.map_some, Option.some.injEq]
  exact ⟨of_boolOf, boolOf_true⟩
theorem marked_lt {o : List Bool} {i : Nat} (h : marked o i) : i < o.length := by
  unfold marked at h
  exact (List.getElem?_eq_some_iff.1 h).1
theorem finM_below {g : GramG} {s t : List Int} (h : ImpL s t) : belowM (finM g s) (finM g t) := ⟨by rw [finM_len, finM_len], fun i hi => by
  have hl := marked_lt hi
  rw [finM_len] at hl
  exact (finM_marked hl).2 (((finM_marked hl).1 hi).imp h)⟩
theorem marks_full : ∀ {o : List Bool}, marks o = o.length → ∀ i, i < o.length → marked o i
  | [], _, i, hi => by simp at hi
  | x :: o, h, i, hi => by
    cases x with
    | false =>
      have h1 : marks (false :: o) = marks o := rfl
      have h2 := marks_le o
      simp only [List.length_cons] at h
      omega
    | true =>
      have h1 : marks (true :: o) = marks o + 1 := rfl
      cases i with
      | zero => rfl
      | succ i =>
        have := marks_full (o := o) (by simp only [List.length_cons] at h; omega) i (by simpa using hi)
        unfold marked at this ⊢
        simpa using this
theorem fin_out {g : GramG} (hv : ValidG g) {s : List Int} {i : Nat} (hi : ¬ i < g.names.length) : FinL g s i := fun n hn => by
  obtain ⟨ρ, hm, he, -⟩ := len_one.1 hn
  have := hv.rules ρ hm
  omega
theorem propL_final {g : GramG} (hv : ValidG g) : ∀ (n : Nat) (s : List Int), InvL g s → g.names.length ≤ marks (finM g s) + n → InvL g (propF stepL g.rules n s) ∧ ∀ i, FinL g (propF stepL g.rules n s) i
  | 0, s, h, hn => ⟨h, fun i => by
    by_cases hi : i < g.names.length
    · have h1 := marks_le (finM g s)
      rw [finM_len] at h1
      show FinL g s i
      exact (finM_marked hi).1 (marks_full (by rw [finM_len]; omega) i (by rw [finM_len]; exact hi))
    · exact fin_out hv hi⟩
  | n + 1, s, h, hn => by
    obtain ⟨k1, k2, -, k4⟩ := roundL_inv hv g.rules (fun _ h => h) s false h
    have hbl := finM_below (g := g) k2
    obtain ⟨m1, m2⟩ := below_marks hbl
    have hall : finM g s = finM g (roundF stepL g.rules (s, false)).1 → ∀ i, FinL g s i := fun e =>
      all_final hv h (fun i hi => by
        by_cases hl : i < g.names.length
        · have := (finM_marked hl).2 hi
          rw [← e] at this
          exact (finM_marked hl).1 this
        · exact fin_out hv hl)
    rw [propF]
    by_cases hm : (roundF stepL g.rules (s, false)).2 = true
    · rw [if_pos hm]
      by_cases he : marks (finM g s) = marks (finM g (roundF stepL g.rules (s, false)).1)
      · have hall' := hall (m2 he)
        have key : ∀ (n : Nat) (t : List Int), InvL g t → (∀ i, FinL g t i) → InvL g (propF stepL g.rules n t) ∧ ∀ i, FinL g (propF stepL g.rules n t) i := by
          intro n
          induction n with
          | zero => intro t ht hf; exact ⟨ht, hf⟩
          | succ n ih =>
            intro t ht hf
            obtain ⟨j1, j2, -, -⟩ := roundL_inv hv g.rules (fun _ h => h) t false ht
            rw [propF]
            split
            · exact ih _ j1 (fun i => (hf i).imp j2)
            · exact ⟨j1, fun i => (hf i).imp j2⟩
        exact key n _ k1 (fun i => (hall' i).imp k2)
      · exact propL_final hv n _ k1 (by omega)
    · have hm' : (roundF stepL g.rules (s, false)).2 = false := by simpa using hm
      rw [if_neg hm]
      refine ⟨k1, fun i => ?_⟩
      have e := k4 hm'
      exact (hall (by rw [e]) i).imp k2
theorem inv_first (g : GramG) : InvL g (List.replicate g.names.length (-1)) := by
  refine ⟨by simp, fun v hv => by rw [List.eq_of_mem_replicate hv]; omega, fun i hi => ?_⟩
  refine (hi ?_).elim
  unfold atL
  rw [List.getElem?_replicate]
  split <;> rfl
/-- What the program finds of lengths is what there is. -/
theorem lensP_short {g : GramG} (hv : ValidG g) : (lensP g).length = g.names.length ∧ ∀ i (h : i < (lensP g).length), ShortIs g i ((lensP g)[i]'h) := by
  obtain ⟨h1, h2⟩ := propL_final hv g.names.length _ (inv_first g) (by omega)
  refine ⟨h1.len, fun i hi => ?_⟩
  have hat : atL (lensP g) i = (lensP g)[i]'hi := by unfold atL; rw [List.getElem?_eq_getElem hi]; rfl
  rw [← hat]
  by_cases hp : ProdN g i
  · obtain ⟨n, hn⟩ := prod_len hp
    obtain ⟨m, hm1, hm2⟩ := least_of (p := fun n => LenN g [(i : Int)] n) n hn
    obtain ⟨f1, f2⟩ := h2 i m hm1
    obtain ⟨k, hk, he⟩ := h1.snd i f1
    have h3 := hm2 k hk
    right
    refine ⟨m, ⟨hm1, hm2⟩, ?_⟩
    have h4 : atL (lensP g) i = ((min k 1000000 : Nat) : Int) := he
    have h5 : atL (lensP g) i ≤ ((min m 1000000 : Nat) : Int) := f2
    omega
  · left
    refine ⟨?_, hp⟩
    apply Classical.byContradiction
    intro q
    obtain ⟨k, hk, -⟩ := h1.snd i q
    exact hp ((prod_iff_len hv).2 ⟨k, hk⟩)
end Go.Proofs.Ytmcekpgmebanaaa

/-! Plain mathematics of the steps of the program's well (layer 15): what is reached. Nothing here names the program. -/
namespace Go.Proofs.Ytmcekpgmebanaaa

/-- What one rule does to what is reached. -/
def goR1 (x : (List Bool × List Bool) × Bool) (y : Int) : (List Bool × List Bool) × Bool :=
  if y < 0 then ((x.1.1, x.1.2.set (-1 - y).toNat true), x.2) else if (x.1.1[y.toNat]?).getD false = true then x else ((x.1.1.set y.toNat true, x.1.2), true)
def goR (right : List Int) (x : (List Bool × List Bool) × Bool) : (List Bool × List Bool) × Bool := right.foldl goR1 x
def stepR (s : List Bool × List Bool) (r : RuleG) : (List Bool × List Bool) × Bool := if (s.1[r.left.toNat]?).getD false = true then goR r.right (s, false) else (s, false)
theorem goR_drop {right : List Int} {k : Nat} (h : k < right.length) (x : (List Bool × List Bool) × Bool) : goR (right.drop k) x = goR (right.drop (k + 1)) (goR1 x (right[k]'h)) := by
  unfold goR; rw [List.drop_eq_getElem_cons h, List.foldl_cons]
theorem goR_end {right : List Int} {k : Nat} (h : right.length ≤ k) (x : (List Bool × List Bool) × Bool) : goR (right.drop k) x = x := by
  unfold goR; rw [List.drop_eq_nil_of_le h, List.foldl_nil]
theorem goR1_len (x : (List Bool × List Bool) × Bool) (y : Int) : (goR1 x y).1.1.length = x.1.1.length ∧ (goR1 x y).1.2.length = x.1.2.length := by
  unfold goR1
  split
  · simp
  · split <;> simp
theorem goR_len : ∀ (r : List Int) (x : (List Bool × List Bool) × Bool), (goR r x).1.1.length = x.1.1.length ∧ (goR r x).1.2.length = x.1.2.length
  | [], x => ⟨rfl, rfl⟩
  | y :: r, x => by
    have h := goR_len r (goR1 x y)
    have k := goR1_len x y
    unfold goR at h ⊢
    rw [List.foldl_cons]
    exact ⟨h.1.trans k.1, h.2.trans k.2⟩
theorem stepR_len (s : List Bool × List Bool) (r : RuleG) : (stepR s r).1.1.length = s.1.length ∧ (stepR s r).1.2.length = s.2.length := by
  unfold stepR
  split
  · exact goR_len _ _
  · exact ⟨rfl, rfl⟩
/-- What is reached, as the program finds it. -/
def reachedP (g : GramG) : List Bool × List Bool := propF stepR g.rules g.names.length ((List.replicate g.names.length false).set 0 true, List.replicate g.terms.length false)
noncomputable def usedL (g : GramG) : List Bool := (List.range g.terms.length).map fun t => boolOf (UsedG g t)
theorem usedL_len (g : GramG) : (usedL g).length = g.terms.length := by simp [usedL]

theorem marked_getD {o : List Bool} {i : Nat} : (o[i]?).getD false = true ↔ marked o i := by
  unfold marked
  cases e : o[i]? with
  | none => simp
  | some b => simp
theorem marks_set {o : List Bool} {i : Nat} (hi : i < o.length) (hn : ¬ marked o i) : marks o < marks (o.set i true) := by
  obtain ⟨h1, h2⟩ := below_marks (set_below o i)
  have : marks o ≠ marks (o.set i true) := fun e => hn (by rw [h2 e]; exact set_marked hi)
  omega
/-- A symbol of a valid rule: what it does. -/
structure InvR (g : GramG) (s : List Bool × List Bool) : Prop where
  len : s.1.length = g.names.length
  lent : s.2.length = g.terms.length
  names : ∀ i, marked s.1 i → ReachN g i
  terms : ∀ t, marked s.2 t → UsedG g t
theorem goR1_step {g : GramG} {s : List Bool × List Bool} {m : Bool} (h : InvR g s) {r : RuleG} (hr : r ∈ g.rules) {i : Nat} (hi : r.left = (i : Int)) (hrch : ReachN g i) {y : Int} (hy : y ∈ r.right) (hb : -(g.terms.length : Int) ≤ y ∧ y < (g.names.length : Int)) :
    InvR g (goR1 (s, m) y).1 ∧ belowM s.1 (goR1 (s, m) y).1.1 ∧ belowM s.2 (goR1 (s, m) y).1.2 ∧ (m = true → (goR1 (s, m) y).2 = true) ∧ ((goR1 (s, m) y).2 = true → m = true ∨ marks s.1 < marks (goR1 (s, m) y).1.1) ∧
    ((goR1 (s, m) y).2 = false → (goR1 (s, m) y).1.1 = s.1) ∧ (y < 0 → marked (goR1 (s, m) y).1.2 (-1 - y).toNat) := by
  unfold goR1
  by_cases h0 : y < 0
  · rw [if_pos h0]
    refine ⟨⟨h.len, by simp [h.lent], h.names, fun t ht => ?_⟩, belowM.refl _, set_below _ _, id, .inl, fun _ => rfl, fun _ => set_marked (by rw [h.lent]; omega)⟩
    rcases set_other ht with e | ht
    · refine ⟨r, hr, ⟨i, hi, hrch⟩, ?_⟩
      rw [show (-1 - (t : Int)) = y by omega]
      exact hy
    · exact h.terms t ht
  · rw [if_neg h0]
    by_cases hm : marked s.1 y.toNat
    · rw [if_pos (marked_getD.2 hm)]
      exact ⟨h, belowM.refl _, belowM.refl _, id, .inl, fun _ => rfl, fun q => (h0 q).elim⟩
    · rw [if_neg (fun q => hm (marked_getD.1 q))]
      refine ⟨⟨by simp [h.len], h.lent, fun j hj => ?_, h.terms⟩, set_below _ _, belowM.refl _, fun _ => rfl, fun _ => .inr (marks_set (by rw [h.len]; omega) hm), fun q => (by cases q), fun q => (h0 q).elim⟩
      rcases set_other hj with e | hj
      · rw [e]; exact .step r i y hr hi hrch hy (by omega)
      · exact h.names j hj
theorem goR_all {g : GramG} {r : RuleG} (hr : r ∈ g.rules) {i : Nat} (hi : r.left = (i : Int)) (hrch : ReachN g i) : ∀ (l : List Int), (∀ y ∈ l, y ∈ r.right ∧ -(g.terms.length : Int) ≤ y ∧ y < (g.names.length : Int)) → ∀ (s : List Bool × List Bool) (m : Bool), InvR g s →
    InvR g (goR l (s, m)).1 ∧ belowM s.1 (goR l (s, m)).1.1 ∧ belowM s.2 (goR l (s, m)).1.2 ∧ (m = true → (goR l (s, m)).2 = true) ∧ ((goR l (s, m)).2 = true → m = true ∨ marks s.1 < marks (goR l (s, m)).1.1) ∧
    ((goR l (s, m)).2 = false → (goR l (s, m)).1.1 = s.1) ∧ (∀ y ∈ l, y < 0 → marked (goR l (s, m)).1.2 (-1 - y).toNat) ∧ (∀ y ∈ l, 0 ≤ y → marked (goR l (s, m)).1.1 y.toNat)
  | [], _, s, m, h => ⟨h, belowM.refl _, belowM.refl _, id, .inl, fun _ => rfl, fun y hy => by simp at hy, fun y hy => by simp at hy⟩
  | y :: l, hl, s, m, h => by
    obtain ⟨a1, a2, a3, a4, a5, a6, a7⟩ := goR1_step (m := m) h hr hi hrch (hl y (by simp)).1 (hl y (by simp)).2
    obtain ⟨b1, b2, b3, b4, b5, b6, b7, b8⟩ := goR_all hr hi hrch l (fun z hz => hl z (by simp [hz])) (goR1 (s, m) y).1 (goR1 (s, m) y).2 a1
    have e : goR (y :: l) (s, m) = goR l ((goR1 (s, m) y).1, (goR1 (s, m) y).2) := rfl
    rw [e]
    refine ⟨b1, a2.trans b2, a3.trans b3, fun q => b4 (a4 q), fun q => ?_, fun q => ?_, fun z hz h0 => ?_, fun z hz h0 => ?_⟩
    · have := (below_marks a2).1
      have := (below_marks b2).1
      rcases b5 q with q | q
      · rcases a5 q with q | q
        · exact .inl q
        · right; omega
      · right; omega
    · have h1 := b6 q
      have h2 : (goR1 (s, m) y).2 = false := by
        cases q2 : (goR1 (s, m) y).2 with
        | false => rfl
        | true => have := b4 q2; rw [this] at q; cases q
      exact h1.trans (a6 h2)
    · rcases List.mem_cons.1 hz with rfl | hz
      · exact b3.2 _ (a7 h0)
      · exact b7 z hz h0
    · rcases List.mem_cons.1 hz with rfl | hz
      · refine b2.2 _ ?_
        unfold goR1
        rw [if_neg (by omega)]
        split
        · next q => exact marked_getD.1 q
        · exact set_marked (by rw [h.len]; have := (hl z (by simp)).2.2; omega)
      · exact b8 z hz h0
/-- One rule. -/
theorem stepR_all {g : GramG} (hv : ValidG g) {s : List Bool × List Bool} (h : InvR g s) {r : RuleG} (hr : r ∈ g.rules) :
    InvR g (stepR s r).1 ∧ belowM s.1 (stepR s r).1.1 ∧ belowM s.2 (stepR s r).1.2 ∧ ((stepR s r).2 = true → marks s.1 < marks (stepR s r).1.1) ∧ ((stepR s r).2 = false → (stepR s r).1.1 = s.1) ∧
    (marked s.1 r.left.toNat → (∀ y ∈ r.right, y < 0 → marked (stepR s r).1.2 (-1 - y).toNat) ∧ ∀ y ∈ r.right, 0 ≤ y → marked (stepR s r).1.1 y.toNat) := by
  have hb := hv.rules r hr
  unfold stepR
  by_cases hm : marked s.1 r.left.toNat
  · rw [if_pos (marked_getD.2 hm)]
    have hrch := h.names _ hm
    obtain ⟨b1, b2, b3, -, b5, b6, b7, b8⟩ := goR_all hr (i := r.left.toNat) (by omega) hrch r.right (fun y hy => ⟨hy, hb.2.2.2 y hy⟩) s false h
    exact ⟨b1, b2, b3, fun q => (b5 q).elim (fun e => by cases e) id, b6, fun _ => ⟨b7, b8⟩⟩
  · rw [if_neg (fun q => hm (marked_getD.1 q))]
    exact ⟨h, belowM.refl _, belowM.refl _, fun q => (by cases q), fun _ => rfl, fun q => (hm q).elim⟩
theorem roundR_all {g : GramG} (hv : ValidG g) : ∀ (l : List RuleG), (∀ r ∈ l, r ∈ g.rules) → ∀ (s : List Bool × List Bool) (m : Bool), InvR g s →
    InvR g (roundF stepR l (s, m)).1 ∧ belowM s.1 (roundF stepR l (s, m)).1.1 ∧ belowM s.2 (roundF stepR l (s, m)).1.2 ∧ ((roundF stepR l (s, m)).2 = true → m = true ∨ marks s.1 < marks (roundF stepR l (s, m)).1.1) ∧
    ((roundF stepR l (s, m)).2 = false → m = false ∧ (roundF stepR l (s, m)).1.1 = s.1 ∧ ∀ r ∈ l, marked s.1 r.left.toNat → (∀ y ∈ r.right, y < 0 → marked (roundF stepR l (s, m)).1.2 (-1 - y).toNat) ∧ ∀ y ∈ r.right, 0 ≤ y → marked s.1 y.toNat)
  | [], _, s, m, h => ⟨h, belowM.refl _, belowM.refl _, .inl, fun q => ⟨q, rfl, fun r hr => by simp at hr⟩⟩
  | x :: l, hl, s, m, h => by
    obtain ⟨a1, a2, a3, a4, a5, a6⟩ := stepR_all hv h (hl x (by simp))
    obtain ⟨b1, b2, b3, b4, b5⟩ := roundR_all hv l (fun r hr => hl r (by simp [hr])) (stepR s x).1 (m || (stepR s x).2) a1
    have e : roundF stepR (x :: l) (s, m) = roundF stepR l ((stepR s x).1, m || (stepR s x).2) := rfl
    rw [e]
    refine ⟨b1, a2.trans b2, a3.trans b3, fun q => ?_, fun q => ?_⟩
    · have := (below_marks a2).1
      have := (below_marks b2).1
      rcases b4 q with q | q
      · simp only [Bool.or_eq_true] at q
        rcases q with q | q
        · exact .inl q
        · have := a4 q
          right; omega
      · right; omega
    · obtain ⟨c1, c2, c3⟩ := b5 q
      simp only [Bool.or_eq_false_iff] at c1
      have hx := a5 c1.2
      refine ⟨c1.1, c2.trans hx, fun r hr hm => ?_⟩
      rcases List.mem_cons.1 hr with rfl | hr
      · obtain ⟨d1, d2⟩ := a6 hm
        exact ⟨fun y hy h0 => b3.2 _ (d1 y hy h0), fun y hy h0 => by have := d2 y hy h0; rwa [hx] at this⟩
      · have := c3 r hr (by rw [hx]; exact hm)
        rw [hx] at this
        exact this
theorem used_marked {g : GramG} {t : Nat} (ht : t < g.terms.length) : marked (usedL g) t ↔ UsedG g t := by
  unfold marked usedL
  rw [List.getElem?_map, List.getElem?_range ht]
  simp only [Option.map_some, Option.some.injEq]
  exact ⟨of_boolOf, boolOf_true⟩
theorem reach_marked {g : GramG} {i : Nat} (hi : i < g.names.length) : marked (reachL g) i ↔ ReachN g i := by
  unfold marked reachL
  rw [List.getElem?_map, List.getElem?_range hi]
  simp only [Option.map_some, Option.some.injEq]
  exact ⟨of_boolOf, boolOf_true⟩
theorem marked_in {o : List Bool} {i : Nat} (h : marked o i) : i < o.length := by
  unfold marked at h
  exact (List.getElem?_eq_some_iff.1 h).1
theorem propR_final {g : GramG} (hv : ValidG g) : ∀ (n : Nat) (s : List Bool × List Bool), InvR g s → marked s.1 0 → g.names.length < marks s.1 + n → propF stepR g.rules n s = (reachL g, usedL g)
  | 0, s, h, _, hn => by have := marks_le s.1; rw [h.len] at this; omega
  | n + 1, s, h, h0, hn => by
    obtain ⟨b1, b2, b3, b4, b5⟩ := roundR_all hv g.rules (fun _ h => h) s false h
    rw [propF]
    by_cases hm : (roundF stepR g.rules (s, false)).2 = true
    · rw [if_pos hm]
      rcases b4 hm with q | q
      · cases q
      · exact propR_final hv n _ b1 (b2.2 0 h0) (by omega)
    · rw [if_neg hm]
      obtain ⟨-, c2, c3⟩ := b5 (by simpa using hm)
      have hcl : ∀ i, ReachN g i → marked s.1 i := by
        intro i hi
        induction hi with
        | zero => exact h0
        | step r i y hr he _ hy hp ih => exact (c3 r hr (by rw [he, Int.toNat_natCast]; exact ih)).2 y hy hp
      refine Prod.ext ?_ ?_
      · rw [c2]
        refine marks_ext (by rw [h.len, reachL_len]) (fun i => ?_)
        by_cases hi : i < g.names.length
        · rw [reach_marked hi]; exact ⟨h.names i, hcl i⟩
        · exact ⟨fun q => (hi (by rw [← h.len]; exact marked_in q)).elim, fun q => (hi (by rw [← reachL_len g]; exact marked_in q)).elim⟩
      · refine marks_ext (by rw [b1.lent, usedL_len]) (fun t => ?_)
        by_cases ht : t < g.terms.length
        · rw [used_marked ht]
          refine ⟨b1.terms t, fun q => ?_⟩
          obtain ⟨r, hr, ⟨i, he, hi⟩, hy⟩ := q
          have := (c3 r hr (by rw [he, Int.toNat_natCast]; exact hcl i hi)).1 _ hy (by omega)
          rwa [show (-1 - (-1 - (t : Int))).toNat = t by omega] at this
        · exact ⟨fun q => (ht (by rw [← b1.lent]; exact marked_in q)).elim, fun q => (ht (by rw [← usedL_len g]; exact marked_in q)).elim⟩
/-- What the program finds reached is what is reached. -/
theorem reachedP_is {g : GramG} (hv : ValidG g) : reachedP g = (reachL g, usedL g) := by
  refine propR_final hv g.names.length _ ⟨by simp, by simp, fun i hi => first_sound g hi, fun t ht => (false_marked _ _ ht).elim⟩ (first_marked hv.one) ?_
  have h1 := marks_set (o := List.replicate g.names.length false) (i := 0) (by simp; exact hv.one) (false_marked _ _)
  show g.names.length < marks ((List.replicate g.names.length false).set 0 true) + g.names.length
  omega
end Go.Proofs.Ytmcekpgmebanaaa

/-! Plain mathematics of what the program's well tells (layer 15). Nothing here names the program. -/
namespace Go.Proofs.Ytmcekpgmebanaaa

theorem short_none {g : GramG} {i : Nat} {v : Int} (h : ShortIs g i v) : v = -1 ↔ ¬ ProdN g i := by
  rcases h with ⟨rfl, h⟩ | ⟨m, hm, rfl⟩
  · exact ⟨fun _ => h, fun _ => rfl⟩
  · refine ⟨fun q => by omega, fun q => ?_⟩
    obtain ⟨ρ, hr, he, hl⟩ := len_one.1 hm.1
    refine (q ?_).elim
    have key : ∀ {x : List Int} {n : Nat}, LenN g x n → ∀ s ∈ x, 0 ≤ s → ProdN g s.toNat := by
      intro x n hx
      induction hx with
      | nil => intro s hs; simp at hs
      | term s r n h0 _ ih =>
        intro u hu hu0
        rcases List.mem_cons.1 hu with rfl | hu
        · omega
        · exact ih u hu hu0
      | non ρ j r a n hm he _ _ ih1 ih2 =>
        intro u hu hu0
        rcases List.mem_cons.1 hu with rfl | hu
        · exact .mk ρ _ hm (by rw [he]; simp) ih1
        · exact ih2 u hu hu0
    exact .mk ρ i hr he (key hl)
theorem none_mem {g : GramG} (hv : ValidG g) : (-1 : Int) ∈ lensP g ↔ ¬ ∀ i, i < g.names.length → ProdN g i := by
  obtain ⟨h1, h2⟩ := lensP_short hv
  constructor
  · intro hm q
    obtain ⟨i, hi, e⟩ := List.getElem_of_mem hm
    exact (short_none (h2 i hi)).1 e (q i (by omega))
  · intro q
    apply Classical.byContradiction
    intro hn
    refine q (fun i hi => Classical.byContradiction fun hp => hn ?_)
    have := (short_none (h2 i (by omega))).2 hp
    rw [← this]
    exact List.getElem_mem _
theorem prodL_is {g : GramG} (hv : ValidG g) : prodL g = (lensP g).map fun v => v != -1 := by
  obtain ⟨h1, h2⟩ := lensP_short hv
  unfold prodL
  apply List.ext_getElem
  · rw [List.length_map, List.length_map, List.length_range, h1]
  · intro i a b
    rw [List.length_map] at b
    rw [List.getElem_map, List.getElem_map, List.getElem_range]
    have := short_none (h2 i b)
    by_cases hp : ProdN g i
    · rw [boolOf_true hp]
      exact (bne_iff_ne.2 (fun q => this.1 q hp)).symm
    · rw [boolOf_false hp, this.2 hp]
      rfl
theorem marks_mem {n : Nat} {p : Nat → Prop} : false ∈ ((List.range n).map fun i => boolOf (p i)) ↔ ¬ ∀ i, i < n → p i := by
  rw [List.mem_map]
  constructor
  · rintro ⟨i, hi, e⟩ q
    rw [boolOf_true (q i (List.mem_range.1 hi))] at e
    cases e
  · intro q
    apply Classical.byContradiction
    intro hn
    exact q (fun i hi => Classical.byContradiction fun hp => hn ⟨i, List.mem_range.2 hi, boolOf_false hp⟩)
theorem check_is {g : GramG} (hv : ValidG g) : checkG g = if (-1 : Int) ∈ lensP g then 18 else if false ∈ reachL g then 17 else if false ∈ usedL g then 17 else 0 := by
  unfold checkG
  rw [if_neg (by unfold validB; rw [boolOf_true hv]; decide)]
  by_cases h1 : (-1 : Int) ∈ lensP g
  · rw [if_pos h1, if_pos (boolOf_false ((none_mem hv).1 h1))]
  · have h2 : ∀ i, i < g.names.length → ProdN g i := Classical.byContradiction fun q => h1 ((none_mem hv).2 q)
    rw [if_neg h1, if_neg (by rw [boolOf_true h2]; decide)]
    by_cases h3 : false ∈ reachL g
    · rw [if_pos h3, if_pos (boolOf_false (fun q => (marks_mem (p := fun i => ReachN g i)).1 h3 q.1))]
    · have h4 : ∀ i, i < g.names.length → ReachN g i := Classical.byContradiction fun q => h3 ((marks_mem (p := fun i => ReachN g i)).2 q)
      rw [if_neg h3]
      by_cases h5 : false ∈ usedL g
      · rw [if_pos h5, if_pos (boolOf_false (fun q => (marks_mem (p := fun t => UsedG g t)).1 h5 q.2))]
      · have h6 : ∀ t, t < g.terms.length → UsedG g t := Classical.byContradiction fun q => h5 ((marks_mem (p := fun t => UsedG g t)).2 q)
        rw [if_neg h5, if_neg (by rw [boolOf_true ⟨h4, h6⟩]; decide)]
end Go.Proofs.Ytmcekpgmebanaaa

/-! What strings of symbols derive (layers 20 to 28), and tables that tell it of a word: plain mathematics. Nothing here names the program. -/
namespace Go.Proofs.Ytmcekpgmebanaaa

/-- A string of symbols derives a string of terminals. -/
inductive DerS (g : GramG) : List Int → List UInt8 → Prop
  | nil : DerS g [] []
  | term (s : Int) (b : UInt8) (ss : List Int) (x : List UInt8) : s < 0 → (b.toNat : Int) = -1 - s → DerS g ss x → DerS g (s :: ss) (b :: x)
  | nont (r : RuleG) (s : Int) (ss : List Int) (y z : List UInt8) : r ∈ g.rules → r.left = s → 0 ≤ s → DerS g r.right y → DerS g ss z → DerS g (s :: ss) (y ++ z)
theorem DerS.nil_iff {g : GramG} {x : List UInt8} : DerS g [] x ↔ x = [] := by
  constructor
  · intro h; cases h; rfl
  · rintro rfl; exact .nil
theorem DerS.cons_iff {g : GramG} {s : Int} {ss : List Int} {x : List UInt8} : DerS g (s :: ss) x ↔ ∃ y z, DerS g [s] y ∧ DerS g ss z ∧ x = y ++ z := by
  constructor
  · intro h
    cases h with
    | term _ b _ x hs hb h => exact ⟨[b], x, .term s b [] [] hs hb .nil, h, rfl⟩
    | nont r _ _ y z hr hl hs hy hz => exact ⟨y, z, by have := DerS.nont r s [] y [] hr hl hs hy .nil; simpa using this, hz, rfl⟩
  · rintro ⟨y, z, hy, hz, rfl⟩
    cases hy with
    | term _ b _ x hs hb h =>
      rw [DerS.nil_iff] at h
      subst h
      exact .term s b ss z hs hb hz
    | nont r _ _ y z' hr hl hs hy h =>
      rw [DerS.nil_iff] at h
      subst h
      rw [List.append_nil]
      exact .nont r s ss y z hr hl hs hy hz
theorem DerS.app_iff {g : GramG} {a b : List Int} {x : List UInt8} : DerS g (a ++ b) x ↔ ∃ y z, DerS g a y ∧ DerS g b z ∧ x = y ++ z := by
  induction a generalizing x with
  | nil => simp [DerS.nil_iff]
  | cons s a ih =>
    rw [List.cons_append, DerS.cons_iff]
    constructor
    · rintro ⟨y, z, hy, hz, rfl⟩
      obtain ⟨p, q, hp, hq, rfl⟩ := ih.1 hz
      exact ⟨y ++ p, q, DerS.cons_iff.2 ⟨y, p, hy, hp, rfl⟩, hq, by simp⟩
    · rintro ⟨y, z, hy, hz, rfl⟩
      obtain ⟨p, q, hp, hq, rfl⟩ := DerS.cons_iff.1 hy
      exact ⟨p, q ++ z, hp, ih.2 ⟨q, z, hq, hz, rfl⟩, by simp⟩
theorem DerS.term_iff {g : GramG} {s : Int} (hs : s < 0) {x : List UInt8} : DerS g [s] x ↔ ∃ b : UInt8, (b.toNat : Int) = -1 - s ∧ x = [b] := by
  constructor
  · intro h
    cases h with
    | term _ b _ x _ hb h => rw [DerS.nil_iff] at h; exact ⟨b, hb, by rw [h]⟩
    | nont r _ _ y z hr hl h0 hy hz => omega
  · rintro ⟨b, hb, rfl⟩
    exact .term s b [] [] hs hb .nil
theorem DerS.nont_iff {g : GramG} {s : Int} (hs : 0 ≤ s) {x : List UInt8} : DerS g [s] x ↔ ∃ r ∈ g.rules, r.left = s ∧ DerS g r.right x := by
  constructor
  · intro h
    cases h with
    | term _ b _ x h0 hb h => omega
    | nont r _ _ y z hr hl h0 hy hz => rw [DerS.nil_iff] at hz; subst hz; exact ⟨r, hr, hl, by rwa [List.append_nil]⟩
  · rintro ⟨r, hr, hl, h⟩
    have := DerS.nont r s [] x [] hr hl hs h .nil
    rwa [List.append_nil] at this

/-! Parts of a word. -/
def partW (w : List UInt8) (p q : Nat) : List UInt8 := (w.take q).drop p
theorem partW_len {w : List UInt8} {p q : Nat} (hq : q ≤ w.length) : (partW w p q).length = q - p := by
  unfold partW
  rw [List.length_drop, List.length_take]
  omega
theorem partW_self (w : List UInt8) (p : Nat) : partW w p p = [] := by unfold partW; exact List.drop_eq_nil_of_le (by rw [List.length_take]; omega)
theorem partW_app {w : List UInt8} {p q r : Nat} (h1 : p ≤ q) (h2 : q ≤ r) (h3 : r ≤ w.length) : partW w p q ++ partW w q r = partW w p r := by
  apply List.ext_getElem?
  intro i
  unfold partW
  rw [List.getElem?_append]
  simp only [List.length_drop, List.length_take, List.getElem?_drop, List.getElem?_take]
  by_cases c : i < min q w.length - p
  · rw [if_pos c, if_pos (by omega), if_pos (by omega)]
  · rw [if_neg c]
    by_cases d : q + (i - (min q w.length - p)) < r
    · rw [if_pos d, if_pos (by omega)]
      congr 1
      omega
    · rw [if_neg d, if_neg (by omega)]
theorem partW_one {w : List UInt8} {p : Nat} (h : p < w.length) : partW w p (p + 1) = [w[p]'h] := by
  apply List.ext_getElem?
  intro i
  unfold partW
  simp only [List.getElem?_drop, List.getElem?_take]
  cases i with
  | zero => simp [h]
  | succ i => simp
theorem partW_all (w : List UInt8) (p : Nat) : partW w p w.length = w.drop p := by unfold partW; rw [List.take_length]
theorem partW_drop {w : List UInt8} {p q : Nat} (h1 : p ≤ q) (h2 : q ≤ w.length) : w.drop p = partW w p q ++ w.drop q := by
  rw [← partW_all w p, ← partW_all w q, partW_app h1 h2 (Nat.le_refl _)]
theorem partW_of {w : List UInt8} {p q : Nat} {x y : List UInt8} (hq : q ≤ w.length) (h1 : p ≤ q) (h : partW w p q = x ++ y) : partW w p (p + x.length) = x ∧ partW w (p + x.length) q = y := by
  have hl := congrArg List.length h
  rw [partW_len hq, List.length_append] at hl
  have e := partW_app (w := w) (p := p) (q := p + x.length) (r := q) (by omega) (by omega) hq
  rw [h] at e
  exact List.append_inj e (by rw [partW_len (by omega)]; omega)

/-! Tables of a word. -/
abbrev TabT := Int → Nat → Nat → Bool
abbrev TabF := Int → Nat → Bool
/-- Does a symbol lead from one place to another? -/
def hitB (T : TabT) (w : List UInt8) (s : Int) (p q : Nat) : Bool :=
  if s < 0 then decide (q = p + 1) && (decide (p < w.length) && decide (((w.getD p 0).toNat : Int) = -1 - s)) else decide (p ≤ q) && T s p q
def atB (l : List Bool) (i : Nat) : Bool := l.getD i false
def mvB (T : TabT) (w : List UInt8) (s : Int) (now : List Bool) : List Bool :=
  (List.range (w.length + 1)).map fun q => (List.range (w.length + 1)).any fun p => atB now p && hitB T w s p q
def endsB (T : TabT) (w : List UInt8) : List Int → List Bool → List Bool
  | [], now => now
  | s :: ss, now => endsB T w ss (mvB T w s now)
def unitB (w : List UInt8) (p : Nat) : List Bool := (List.range (w.length + 1)).map fun i => decide (i = p)
def begB (T : TabT) (F : TabF) (w : List UInt8) : List Int → List Bool → Bool
  | [], now => atB now w.length
  | s :: ss, now => atB now w.length || ((decide (0 ≤ s) && (List.range (w.length + 1)).any fun p => atB now p && F s p) || begB T F w ss (mvB T w s now))
theorem at_map {f : Nat → Bool} {n q : Nat} : atB ((List.range n).map f) q = (decide (q < n) && f q) := by
  unfold atB
  rw [List.getD_eq_getElem?_getD, List.getElem?_map]
  by_cases h : q < n
  · rw [List.getElem?_range h]; simp [h]
  · rw [List.getElem?_eq_none (by simpa using h)]; simp [h]
theorem at_mv {T : TabT} {w : List UInt8} {s : Int} {now : List Bool} {q : Nat} : atB (mvB T w s now) q = true ↔ q ≤ w.length ∧ ∃ p, p ≤ w.length ∧ atB now p = true ∧ hitB T w s p q = true := by
  unfold mvB
  rw [at_map, Bool.and_eq_true, decide_eq_true_eq, List.any_eq_true]
  constructor
  · rintro ⟨h1, p, hp, h⟩
    rw [Bool.and_eq_true] at h
    rw [List.mem_range] at hp
    exact ⟨by omega, p, by omega, h.1, h.2⟩
  · rintro ⟨h1, p, hp, h2, h3⟩
    exact ⟨by omega, p, List.mem_range.2 (by omega), by rw [Bool.and_eq_true]; exact ⟨h2, h3⟩⟩
theorem at_unit {w : List UInt8} {p q : Nat} : atB (unitB w p) q = true ↔ q ≤ w.length ∧ q = p := by
  unfold unitB
  rw [at_map, Bool.and_eq_true, decide_eq_true_eq, decide_eq_true_eq]
  constructor
  · rintro ⟨a, b⟩; exact ⟨by omega, b⟩
  · rintro ⟨a, b⟩; exact ⟨by omega, b⟩
theorem hit_term {T : TabT} {w : List UInt8} {s : Int} {p q : Nat} (hs : s < 0) : hitB T w s p q = true ↔ q = p + 1 ∧ ∃ h : p < w.length, (((w[p]'h).toNat : Nat) : Int) = -1 - s := by
  unfold hitB
  rw [if_pos hs]
  simp only [Bool.and_eq_true, decide_eq_true_eq]
  constructor
  · rintro ⟨a, b, c⟩
    refine ⟨a, b, ?_⟩
    rwa [List.getD_eq_getElem?_getD, List.getElem?_eq_getElem b, Option.getD_some] at c
  · rintro ⟨a, b, c⟩
    refine ⟨a, b, ?_⟩
    rwa [List.getD_eq_getElem?_getD, List.getElem?_eq_getElem b, Option.getD_some]
theorem hit_nont {T : TabT} {w : List UInt8} {s : Int} {p q : Nat} (hs : ¬ s < 0) : hitB T w s p q = true ↔ p ≤ q ∧ T s p q = true := by
  unfold hitB
  rw [if_neg hs]
  simp only [Bool.and_eq_true, decide_eq_true_eq]

/-- What the tables say is true. -/
def SoundT (g : GramG) (w : List UInt8) (T : TabT) : Prop := ∀ s p q, 0 ≤ s → p ≤ q → q ≤ w.length → T s p q = true → DerS g [s] (partW w p q)
def SoundF (g : GramG) (w : List UInt8) (F : TabF) : Prop := ∀ s p, 0 ≤ s → p ≤ w.length → F s p = true → ∃ x, DerS g [s] x ∧ w.drop p <+: x
/-- Each rule has been used. -/
structure ClosedT (g : GramG) (w : List UInt8) (T : TabT) (F : TabF) : Prop where
  ends : ∀ r ∈ g.rules, ∀ p q, p ≤ w.length → q ≤ w.length → atB (endsB T w r.right (unitB w p)) q = true → T r.left p q = true
  begs : ∀ r ∈ g.rules, ∀ p, p ≤ w.length → begB T F w r.right (unitB w p) = true → F r.left p = true
theorem hit_sound {g : GramG} {w : List UInt8} {T : TabT} (h : SoundT g w T) {s : Int} {p q : Nat} (hq : q ≤ w.length) (hh : hitB T w s p q = true) : p ≤ q ∧ DerS g [s] (partW w p q) := by
  by_cases hs : s < 0
  · obtain ⟨rfl, hp, hb⟩ := (hit_term hs).1 hh
    rw [partW_one hp]
    exact ⟨by omega, (DerS.term_iff hs).2 ⟨_, hb, rfl⟩⟩
  · obtain ⟨h1, h2⟩ := (hit_nont hs).1 hh
    exact ⟨h1, h s p q (by omega) h1 hq h2⟩
theorem ends_sound {g : GramG} {w : List UInt8} {T : TabT} (h : SoundT g w T) : ∀ (ss : List Int) (now : List Bool) (q : Nat), q ≤ w.length → atB (endsB T w ss now) q = true → ∃ p, p ≤ q ∧ atB now p = true ∧ DerS g ss (partW w p q)
  | [], now, q, _, hh => ⟨q, Nat.le_refl _, hh, by rw [partW_self]; exact .nil⟩
  | s :: ss, now, q, hq, hh => by
    obtain ⟨m, hm, h1, h2⟩ := ends_sound h ss (mvB T w s now) q hq hh
    obtain ⟨hmn, p, hp, h3, h4⟩ := at_mv.1 h1
    obtain ⟨h5, h6⟩ := hit_sound h hmn h4
    exact ⟨p, by omega, h3, DerS.cons_iff.2 ⟨_, _, h6, h2, (partW_app h5 hm hq).symm⟩⟩
theorem begs_sound {g : GramG} {w : List UInt8} {T : TabT} {F : TabF} (h : SoundT g w T) (k : SoundF g w F) : ∀ (ss : List Int) (now : List Bool), (∀ s ∈ ss, ∃ x, DerS g [s] x) → begB T F w ss now = true → ∃ p, p ≤ w.length ∧ atB now p = true ∧ ∃ x, DerS g ss x ∧ w.drop p <+: x
  | [], now, _, hh => ⟨w.length, Nat.le_refl _, hh, [], .nil, by rw [List.drop_length]; exact List.prefix_rfl⟩
  | s :: ss, now, hp, hh => by
    have some : ∀ (l : List Int), (∀ s ∈ l, ∃ x, DerS g [s] x) → ∃ x, DerS g l x := by
      intro l
      induction l with
      | nil => exact fun _ => ⟨[], .nil⟩
      | cons a l ih =>
        intro hl
        obtain ⟨x, hx⟩ := hl a (by simp)
        obtain ⟨y, hy⟩ := ih (fun s hs => hl s (by simp [hs]))
        exact ⟨x ++ y, DerS.cons_iff.2 ⟨x, y, hx, hy, rfl⟩⟩
    unfold begB at hh
    simp only [Bool.or_eq_true] at hh
    rcases hh with hh | hh | hh
    · obtain ⟨x, hx⟩ := some (s :: ss) hp
      exact ⟨w.length, Nat.le_refl _, hh, x, hx, by rw [List.drop_length]; exact List.nil_prefix⟩
    · simp only [Bool.and_eq_true, decide_eq_true_eq, List.any_eq_true, List.mem_range] at hh
      obtain ⟨hs, p, hpn, h1, h2⟩ := hh
      obtain ⟨x, hx, hpre⟩ := k s p hs (by omega) h2
      obtain ⟨y, hy⟩ := some ss (fun s hs => hp s (by simp [hs]))
      exact ⟨p, by omega, h1, x ++ y, DerS.cons_iff.2 ⟨x, y, hx, hy, rfl⟩, hpre.trans (List.prefix_append _ _)⟩
    · obtain ⟨q, hq, h1, x, hx, hpre⟩ := begs_sound h k ss (mvB T w s now) (fun s hs => hp s (by simp [hs])) hh
      obtain ⟨hqn, p, hpn, h3, h4⟩ := at_mv.1 h1
      obtain ⟨h5, h6⟩ := hit_sound h hqn h4
      refine ⟨p, hpn, h3, partW w p q ++ x, DerS.cons_iff.2 ⟨_, _, h6, hx, rfl⟩, ?_⟩
      rw [partW_drop h5 hqn]
      exact (List.prefix_append_right_inj _).2 hpre
theorem ends_complete {g : GramG} {w : List UInt8} {T : TabT} {F : TabF} (h : ClosedT g w T F) {ss : List Int} {x : List UInt8} (hd : DerS g ss x) :
    ∀ (now : List Bool) (p q : Nat), p ≤ q → q ≤ w.length → atB now p = true → partW w p q = x → atB (endsB T w ss now) q = true := by
  induction hd with
  | nil =>
    intro now p q hpq hq hn hx
    have := congrArg List.length hx
    rw [partW_len hq] at this
    simp at this
    obtain rfl : p = q := by omega
    exact hn
  | term s b ss x hs hb _ ih =>
    intro now p q hpq hq hn hx
    obtain ⟨h1, h2⟩ := partW_of (x := [b]) hq hpq hx
    have hl := congrArg List.length hx
    rw [partW_len hq, List.length_cons] at hl
    have hp : p < w.length := by omega
    simp only [List.length_singleton] at h1 h2
    rw [partW_one hp] at h1
    simp only [List.cons.injEq, and_true] at h1
    refine ih (mvB T w s now) (p + 1) q (by omega) hq ?_ h2
    exact at_mv.2 ⟨by omega, p, by omega, hn, (hit_term hs).2 ⟨rfl, hp, by rw [h1]; exact hb⟩⟩
  | nont r s ss y z hr hl hs _ _ ih1 ih2 =>
    intro now p q hpq hq hn hx
    obtain ⟨h1, h2⟩ := partW_of hq hpq hx
    have hlen := congrArg List.length hx
    rw [partW_len hq, List.length_append] at hlen
    have e1 := ih1 (unitB w p) p (p + y.length) (by omega) (by omega) (at_unit.2 ⟨by omega, rfl⟩) h1
    have e2 := h.ends r hr p (p + y.length) (by omega) (by omega) e1
    rw [hl] at e2
    refine ih2 (mvB T w s now) (p + y.length) q (by omega) hq ?_ h2
    exact at_mv.2 ⟨by omega, p, by omega, hn, (hit_nont (by omega)).2 ⟨by omega, e2⟩⟩
theorem begs_end {T : TabT} {F : TabF} {w : List UInt8} (ss : List Int) {now : List Bool} (h : atB now w.length = true) : begB T F w ss now = true := by
  cases ss with
  | nil => exact h
  | cons s ss => unfold begB; rw [h]; rfl
theorem begs_complete {g : GramG} {w : List UInt8} {T : TabT} {F : TabF} (h : ClosedT g w T F) {ss : List Int} {x : List UInt8} (hd : DerS g ss x) :
    ∀ (now : List Bool) (p : Nat), p ≤ w.length → atB now p = true → w.drop p <+: x → begB T F w ss now = true := by
  induction hd with
  | nil =>
    intro now p hp hn hx
    have := List.prefix_nil.1 hx
    have hl := congrArg List.length this
    rw [List.length_drop] at hl
    simp at hl
    obtain rfl : p = w.length := by omega
    exact hn
  | term s b ss x hs hb _ ih =>
    intro now p hp hn hx
    by_cases e : p = w.length
    · subst e; exact begs_end _ hn
    · have hp' : p < w.length := by omega
      rw [List.drop_eq_getElem_cons hp'] at hx
      obtain ⟨h1, h2⟩ := List.cons_prefix_cons.1 hx
      have hmv := ih (mvB T w s now) (p + 1) (by omega) (at_mv.2 ⟨by omega, p, by omega, hn, (hit_term hs).2 ⟨rfl, hp', by rw [h1]; exact hb⟩⟩) h2
      unfold begB
      rw [hmv]
      simp
  | nont r s ss y z hr hl hs hy _ ih1 ih2 =>
    intro now p hp hn hx
    by_cases c : w.length - p ≤ y.length
    · have hpre : w.drop p <+: y := List.prefix_of_prefix_length_le hx (List.prefix_append _ _) (by rw [List.length_drop]; exact c)
      have e1 := ih1 (unitB w p) p hp (at_unit.2 ⟨hp, rfl⟩) hpre
      have e2 := h.begs r hr p hp e1
      rw [hl] at e2
      unfold begB
      have : (List.range (w.length + 1)).any (fun p => atB now p && F s p) = true := List.any_eq_true.2 ⟨p, List.mem_range.2 (by omega), by rw [hn, e2]; rfl⟩
      rw [this, decide_eq_true hs]
      simp
    · have hpre : y <+: w.drop p := List.prefix_of_prefix_length_le (List.prefix_append _ _) hx (by rw [List.length_drop]; omega)
      have hy' : partW w p (p + y.length) = y := by
        obtain ⟨t, ht⟩ := hpre
        rw [← partW_all w p] at ht
        exact (partW_of (Nat.le_refl _) hp ht.symm).1
      have e1 := ends_complete h hy (unitB w p) p (p + y.length) (by omega) (by omega) (at_unit.2 ⟨hp, rfl⟩) hy'
      have e2 := h.ends r hr p (p + y.length) hp (by omega) e1
      rw [hl] at e2
      have hz : w.drop (p + y.length) <+: z := by
        rw [partW_drop (w := w) (p := p) (q := p + y.length) (by omega) (by omega), hy'] at hx
        exact (List.prefix_append_right_inj _).1 hx
      have hmv := ih2 (mvB T w s now) (p + y.length) (by omega) (at_mv.2 ⟨by omega, p, hp, hn, (hit_nont (by omega)).2 ⟨by omega, e2⟩⟩) hz
      unfold begB
      rw [hmv]
      simp
/-- Tables that are true and closed tell exactly what is derived. -/
theorem ends_exact {g : GramG} {w : List UInt8} {T : TabT} {F : TabF} (hs : SoundT g w T) (hc : ClosedT g w T F) (ss : List Int) : atB (endsB T w ss (unitB w 0)) w.length = true ↔ DerS g ss w := by
  constructor
  · intro h
    obtain ⟨p, hp, h1, h2⟩ := ends_sound hs ss _ _ (Nat.le_refl _) h
    obtain ⟨-, rfl⟩ := at_unit.1 h1
    rwa [partW_all, List.drop_zero] at h2
  · intro h
    exact ends_complete hc h _ 0 _ (Nat.zero_le _) (Nat.le_refl _) (at_unit.2 ⟨Nat.zero_le _, rfl⟩) (by rw [partW_all, List.drop_zero])
theorem begs_exact {g : GramG} {w : List UInt8} {T : TabT} {F : TabF} (hs : SoundT g w T) (hf : SoundF g w F) (hc : ClosedT g w T F) (ss : List Int) (hp : ∀ s ∈ ss, ∃ x, DerS g [s] x) : begB T F w ss (unitB w 0) = true ↔ ∃ x, DerS g ss x ∧ w <+: x := by
  constructor
  · intro h
    obtain ⟨p, hp, h1, x, hx, h2⟩ := begs_sound hs hf ss _ hp h
    obtain ⟨-, rfl⟩ := at_unit.1 h1
    exact ⟨x, hx, by rwa [List.drop_zero] at h2⟩
  · rintro ⟨x, hx, h⟩
    exact begs_complete hc hx _ 0 (Nat.zero_le _) (at_unit.2 ⟨Nat.zero_le _, rfl⟩) (by rwa [List.drop_zero])
end Go.Proofs.Ytmcekpgmebanaaa

/-! First sets (layer 20): plain mathematics. Nothing here names the program. -/
namespace Go.Proofs.Ytmcekpgmebanaaa

/-- The first k terminals of something that is derived. -/
def firstP (g : GramG) (k : Int) (ss : List Int) (u : List UInt8) : Prop := ∃ x, DerS g ss x ∧ u = cutW x k
/-- These are all of them, in order. -/
def IsFirst (g : GramG) (k : Int) (ss : List Int) (l : Words) : Prop := setW l ∧ ∀ u, u ∈ l ↔ firstP g k ss u
theorem IsFirst.one {g : GramG} {k : Int} {ss : List Int} {l m : Words} (h : IsFirst g k ss l) (h' : IsFirst g k ss m) : l = m := h.1.one h'.1 (fun u => (h.2 u).trans (h'.2 u).symm)
/-- More than 4096 of them. -/
def OverP (g : GramG) (k : Int) (ss : List Int) : Prop := ∃ l : Words, l.Nodup ∧ 4096 < l.length ∧ ∀ u ∈ l, firstP g k ss u
/-- Some intermediate set has more than 4096 words. -/
def OverG (g : GramG) (k : Int) : Prop := (∃ i, i < g.names.length ∧ OverP g k [(i : Int)]) ∨ ∃ r ∈ g.rules, ∃ m, m ≤ r.right.length ∧ OverP g k (r.right.take m)
theorem cutW_cutW_left (x y : List UInt8) (k : Int) : cutW (cutW x k ++ y) k = cutW (x ++ y) k := by
  unfold cutW
  rw [List.take_append, List.take_append, List.take_take, List.length_take, Nat.min_self]
  congr 2
  omega
theorem cutW_cutW_right (x y : List UInt8) (k : Int) : cutW (x ++ cutW y k) k = cutW (x ++ y) k := by
  unfold cutW
  rw [List.take_append, List.take_append, List.take_take]
  congr 2
  omega
theorem cutW_both (x y : List UInt8) (k : Int) : cutW (cutW x k ++ cutW y k) k = cutW (x ++ y) k := by rw [cutW_cutW_left, cutW_cutW_right]
theorem firstP_nil {g : GramG} {k : Int} {u : List UInt8} : firstP g k [] u ↔ u = [] := by
  unfold firstP
  constructor
  · rintro ⟨x, hx, rfl⟩
    rw [DerS.nil_iff] at hx
    subst hx
    simp [cutW]
  · rintro rfl
    exact ⟨[], .nil, by simp [cutW]⟩
theorem firstP_app {g : GramG} {k : Int} {a b : List Int} {u : List UInt8} : firstP g k (a ++ b) u ↔ ∃ y z, firstP g k a y ∧ firstP g k b z ∧ u = cutW (y ++ z) k := by
  unfold firstP
  constructor
  · rintro ⟨x, hx, rfl⟩
    obtain ⟨y, z, hy, hz, rfl⟩ := DerS.app_iff.1 hx
    exact ⟨_, _, ⟨y, hy, rfl⟩, ⟨z, hz, rfl⟩, (cutW_both y z k).symm⟩
  · rintro ⟨_, _, ⟨y, hy, rfl⟩, ⟨z, hz, rfl⟩, rfl⟩
    exact ⟨y ++ z, DerS.app_iff.2 ⟨y, z, hy, hz, rfl⟩, cutW_both y z k⟩
/-- The product of two first sets. -/
theorem IsFirst.cat {g : GramG} {k : Int} {a b : List Int} {l m : Words} (h : IsFirst g k a l) (h' : IsFirst g k b m) : IsFirst g k (a ++ b) (catW k l m) := by
  refine ⟨set_catW _ _ _, fun u => ?_⟩
  rw [mem_catW, firstP_app]
  constructor
  · rintro ⟨x, hx, y, hy, rfl⟩
    exact ⟨x, y, (h.2 x).1 hx, (h'.2 y).1 hy, rfl⟩
  · rintro ⟨x, y, hx, hy, rfl⟩
    exact ⟨x, (h.2 x).2 hx, y, (h'.2 y).2 hy, rfl⟩
theorem isFirst_nil (g : GramG) (k : Int) : IsFirst g k [] [[]] := by
  refine ⟨by unfold setW; simp, fun u => ?_⟩
  rw [firstP_nil]
  simp
theorem OverP.iff {g : GramG} {k : Int} {ss : List Int} {l : Words} (h : IsFirst g k ss l) : OverP g k ss ↔ 4096 < l.length := by
  constructor
  · rintro ⟨m, hn, hl, hm⟩
    have := nodup_le m l hn (fun x hx => (h.2 x).2 (hm x hx))
    omega
  · intro hl
    exact ⟨l, h.1.nodup, hl, fun u hu => (h.2 u).1 hu⟩
/-- What a word's tables tell. -/
def firstB (T : TabT) (F : TabF) (w : List UInt8) (k : Int) (ss : List Int) : Bool :=
  if (w.length : Int) = k then begB T F w ss (unitB w 0) else decide ((w.length : Int) < k) && atB (endsB T w ss (unitB w 0)) w.length
theorem firstB_iff {g : GramG} {w : List UInt8} {T : TabT} {F : TabF} (hs : SoundT g w T) (hf : SoundF g w F) (hc : ClosedT g w T F) {k : Int} (hk : (w.length : Int) ≤ k) (ss : List Int) (hp : ∀ s ∈ ss, ∃ x, DerS g [s] x) :
    firstB T F w k ss = true ↔ firstP g k ss w := by
  unfold firstB
  by_cases e : (w.length : Int) = k
  · rw [if_pos e, begs_exact hs hf hc ss hp]
    unfold firstP
    constructor
    · rintro ⟨x, hx, h⟩
      refine ⟨x, hx, ?_⟩
      unfold cutW
      rw [← e, Int.toNat_natCast]
      exact List.prefix_iff_eq_take.1 h
    · rintro ⟨x, hx, h⟩
      refine ⟨x, hx, ?_⟩
      rw [h]
      exact List.take_prefix _ _
  · rw [if_neg e, Bool.and_eq_true, decide_eq_true_eq, ends_exact hs hc]
    unfold firstP
    constructor
    · rintro ⟨h1, h2⟩
      refine ⟨w, h2, ?_⟩
      unfold cutW
      rw [List.take_of_length_le (by omega)]
    · rintro ⟨x, hx, h⟩
      refine ⟨by omega, ?_⟩
      have hl := congrArg List.length h
      unfold cutW at hl h
      rw [List.length_take] at hl
      rw [List.take_of_length_le (by omega)] at h
      rw [h]; exact hx
/-- What is derived has the grammar's terminals alone. -/
theorem ders_below {g : GramG} {t : Nat} (hg : ∀ r ∈ g.rules, ∀ s ∈ r.right, -(t : Int) ≤ s) {ss : List Int} {x : List UInt8} (h : DerS g ss x) : (∀ s ∈ ss, -(t : Int) ≤ s) → ∀ b ∈ x, b.toNat < t := by
  induction h with
  | nil => intro _ b hb; simp at hb
  | term s c ss x hs hc _ ih =>
    intro hss b hb
    rcases List.mem_cons.1 hb with rfl | hb
    · have := hss s (by simp); omega
    · exact ih (fun s hs => hss s (by simp [hs])) b hb
  | nont r s ss y z hr _ _ _ _ ih1 ih2 =>
    intro hss b hb
    rcases List.mem_append.1 hb with hb | hb
    · exact ih1 (hg r hr) b hb
    · exact ih2 (fun s hs => hss s (by simp [hs])) b hb
theorem firstP_below {g : GramG} {t : Nat} (hg : ∀ r ∈ g.rules, ∀ s ∈ r.right, -(t : Int) ≤ s) {k : Int} {ss : List Int} {u : List UInt8} (h : firstP g k ss u) (hss : ∀ s ∈ ss, -(t : Int) ≤ s) : (∀ b ∈ u, b.toNat < t) ∧ u.length ≤ k.toNat := by
  obtain ⟨x, hx, rfl⟩ := h
  refine ⟨fun b hb => ders_below hg hx hss b (List.mem_of_mem_take hb), ?_⟩
  unfold cutW
  rw [List.length_take]
  omega
/-- A productive nonterminal derives something, where each terminal is a byte. -/
theorem prod_ders {g : GramG} (hg : ∀ r ∈ g.rules, ∀ s ∈ r.right, -256 ≤ s) {i : Nat} (h : ProdN g i) : ∃ x, DerS g [(i : Int)] x := by
  induction h with
  | mk r i hr hl _ ih =>
    have key : ∀ l : List Int, (∀ s ∈ l, s ∈ r.right) → ∃ x, DerS g l x := by
      intro l
      induction l with
      | nil => exact fun _ => ⟨[], .nil⟩
      | cons s l ihl =>
        intro hs
        obtain ⟨y, hy⟩ := ihl (fun t ht => hs t (by simp [ht]))
        have hsr := hs s (by simp)
        by_cases h0 : 0 ≤ s
        · obtain ⟨x, hx⟩ := ih s hsr h0
          rw [Int.toNat_of_nonneg h0] at hx
          exact ⟨x ++ y, DerS.cons_iff.2 ⟨x, y, hx, hy, rfl⟩⟩
        · have h1 := hg r hr s hsr
          have hb : (((UInt8.ofNat (-1 - s).toNat).toNat : Nat) : Int) = -1 - s := by
            rw [UInt8.toNat_ofNat_of_lt' (by show (-1 - s).toNat < 256; omega)]; omega
          exact ⟨_, .term s _ l y (by omega) hb hy⟩
    obtain ⟨x, hx⟩ := key r.right (fun s hs => hs)
    exact ⟨x, (DerS.nont_iff (by omega)).2 ⟨r, hr, hl, hx⟩⟩

/-! All words, and how many. -/
theorem wordsW_sorted (t : Nat) : ∀ j, (∀ i i', i ≤ i' → i' < (wordsW t j).length → (wordW t j i).length ≤ (wordW t j i').length) ∧ (j < (wordsW t j).length → ∀ i, i < (wordsW t j).length → (wordW t j i).length ≤ (wordW t j j).length + 1)
  | 0 => by
    constructor
    · intro i i' h1 h2; simp [wordsW] at h2; subst h2; obtain rfl : i = 0 := by omega
      exact Nat.le_refl _
    · intro _ i hi; simp [wordsW] at hi; subst hi; omega
  | j + 1 => by
    obtain ⟨h1, h2⟩ := wordsW_sorted t j
    have hnew : ∀ i, (wordsW t j).length ≤ i → i < (wordsW t (j + 1)).length → (wordW t (j + 1) i).length = (wordW t j j).length + 1 := by
      intro i hi hi2
      unfold wordW
      rw [List.getD_eq_getElem?_getD, List.getElem?_eq_getElem hi2, Option.getD_some]
      simp only [wordsW]
      rw [List.getElem_append_right (by omega)]
      simp only [extW, List.getElem_map, List.length_append]
      rfl
    have hold : ∀ i, i < (wordsW t j).length → wordW t (j + 1) i = wordW t j i := fun i hi => wordW_pre t (Nat.le_succ j) hi
    have hlenle : (wordsW t j).length ≤ (wordsW t (j + 1)).length := by rw [wordsW_len, wordsW_len, Nat.succ_mul]; omega
    have hgrow : (wordsW t j).length < (wordsW t (j + 1)).length → j < (wordsW t j).length := by
      intro hlt
      rw [wordsW_len, wordsW_len, Nat.succ_mul] at hlt
      rw [wordsW_len]
      have : 0 < t := by omega
      have := Nat.le_mul_of_pos_right j this
      omega
    have A : ∀ i i', i ≤ i' → i' < (wordsW t (j + 1)).length → (wordW t (j + 1) i).length ≤ (wordW t (j + 1) i').length := by
      intro i i' hi hi'
      by_cases c : i' < (wordsW t j).length
      · rw [hold i (by omega), hold i' c]; exact h1 i i' hi c
      · rw [hnew i' (by omega) hi']
        by_cases d : i < (wordsW t j).length
        · rw [hold i d]; exact h2 (hgrow (by omega)) i d
        · rw [hnew i (by omega) (by omega)]; exact Nat.le_refl _
    refine ⟨A, fun hj i hi => ?_⟩
    by_cases c : j + 1 < (wordsW t j).length
    · have a := A 0 (j + 1) (Nat.zero_le _) hj
      have b : (wordW t j j).length ≤ (wordW t (j + 1) (j + 1)).length := by rw [hold _ c]; exact h1 j (j + 1) (Nat.le_succ j) c
      by_cases d : i < (wordsW t j).length
      · rw [hold i d]; have := h2 (by omega) i d; omega
      · rw [hnew i (by omega) hi]; omega
    · have b := hnew (j + 1) (by omega) hj
      by_cases d : i < (wordsW t j).length
      · rw [hold i d]; have := h2 (hgrow (by omega)) i d; omega
      · rw [hnew i (by omega) hi]; omega
theorem mem_wordsW_mono {t i j : Nat} (h : i ≤ j) {x : List UInt8} (hx : x ∈ wordsW t i) : x ∈ wordsW t j := by
  obtain ⟨s, hs⟩ := wordsW_pre t h
  rw [hs]; exact List.mem_append_left _ hx
/-- Where nothing is extended any more, every word that is short enough is there. -/
theorem wordsW_has {t k j : Nat} (hn : ¬ goesW t k j) : ∀ (m : Nat) (u : List UInt8), u.length = m → m ≤ k → (∀ b ∈ u, b.toNat < t) → u ∈ wordsW t j
  | 0, u, hu, _, _ => by
    obtain rfl : u = [] := List.eq_nil_of_length_eq_zero hu
    exact mem_wordsW_mono (Nat.zero_le j) (by simp [wordsW])
  | m + 1, u, hu, hk, hb => by
    have hne : u ≠ [] := by intro e; rw [e] at hu; simp at hu
    have e := List.dropLast_concat_getLast hne
    have hv := wordsW_has hn m u.dropLast (by rw [List.length_dropLast]; omega) (by omega) (fun b h => hb b ((List.dropLast_prefix u).subset h))
    obtain ⟨i, hi, hi2⟩ := List.getElem_of_mem hv
    have hw : wordW t j i = u.dropLast := by unfold wordW; rw [List.getD_eq_getElem?_getD, List.getElem?_eq_getElem hi]; exact hi2
    have hij : i < j := by
      apply Classical.byContradiction
      intro hge
      have hjl : j < (wordsW t j).length := by omega
      have h1 := (wordsW_sorted t j).1 j i (by omega) hi
      rw [hw, List.length_dropLast] at h1
      exact hn ⟨hjl, by omega⟩
    have hij2 : i < (wordsW t i).length := by
      apply Classical.byContradiction
      intro hge
      rw [wordsW_len] at hge hi
      rcases Nat.eq_zero_or_pos t with h0 | h0
      · subst h0; omega
      · have := Nat.le_mul_of_pos_right i h0
        omega
    refine mem_wordsW_mono (show i + 1 ≤ j from hij) ?_
    have hwi : (wordsW t i).getD i [] = u.dropLast := by
      have := wordW_pre t (Nat.le_of_lt hij) hij2
      rw [hw] at this
      exact this.symm
    rw [wordsW, hwi]
    refine List.mem_append_right _ (List.mem_map.2 ⟨(u.getLast hne).toNat, List.mem_range.2 (hb _ (List.getLast_mem hne)), ?_⟩)
    rw [show UInt8.ofNat (u.getLast hne).toNat = u.getLast hne by simp]
    exact e
theorem extW_nodup (t : Nat) (ht : t ≤ 256) (w : List UInt8) : (extW t w).Nodup := by
  unfold extW List.Nodup
  rw [List.pairwise_map]
  refine List.Pairwise.imp_of_mem (R := fun a b => a < b) (fun ha hb h e => ?_) List.pairwise_lt_range
  rw [List.mem_range] at ha hb
  have := List.append_cancel_left e
  simp only [List.cons.injEq, and_true] at this
  have h2 := congrArg UInt8.toNat this
  rw [UInt8.toNat_ofNat_of_lt' (by show _ < 256; omega), UInt8.toNat_ofNat_of_lt' (by show _ < 256; omega)] at h2
  omega
theorem wordsW_form (t : Nat) : ∀ j, ∀ x ∈ wordsW t j, x = [] ∨ ∃ i, i < j ∧ i < (wordsW t i).length ∧ ∃ b : Nat, x = wordW t i i ++ [UInt8.ofNat b]
  | 0, x, h => by simp [wordsW] at h; exact .inl h
  | j + 1, x, h => by
    by_cases hj : j < (wordsW t j).length
    · rcases wordsW_mem t j x h with h | ⟨b, _, rfl⟩
      · rcases wordsW_form t j x h with h | ⟨i, hi, h1, h2⟩
        · exact .inl h
        · exact .inr ⟨i, by omega, h1, h2⟩
      · exact .inr ⟨j, by omega, hj, b, rfl⟩
    · have ht : t = 0 := by
        apply Classical.byContradiction
        intro h0
        rw [wordsW_len] at hj
        have := Nat.le_mul_of_pos_right j (show 0 < t by omega)
        omega
      subst ht
      rw [wordsW, show extW 0 ((wordsW 0 j).getD j []) = [] by simp [extW], List.append_nil] at h
      rcases wordsW_form 0 j x h with h | ⟨i, hi, h1, h2⟩
      · exact .inl h
      · exact .inr ⟨i, by omega, h1, h2⟩
theorem wordsW_nodup (t : Nat) (ht : t ≤ 256) : ∀ j, (wordsW t j).Nodup
  | 0 => by simp [wordsW]
  | j + 1 => by
    have ih := wordsW_nodup t ht j
    rw [wordsW]
    rw [List.nodup_append]
    refine ⟨ih, extW_nodup t ht _, ?_⟩
    intro a ha b hb e
    subst e
    obtain ⟨q, hq, rfl⟩ := List.mem_map.1 hb
    rw [List.mem_range] at hq
    have hj : j < (wordsW t j).length := by
      rw [wordsW_len]
      have := Nat.le_mul_of_pos_right j (show 0 < t by omega)
      omega
    rcases wordsW_form t j _ ha with h | ⟨i, hi, h1, c, h2⟩
    · simp at h
    · have h3 := (List.append_inj' h2 rfl).1
      have hwi : wordW t i i = wordW t j i := (wordW_pre t (Nat.le_of_lt hi) h1).symm
      have hij : i < (wordsW t j).length := by omega
      have e1 : (wordsW t j)[j]'hj = (wordsW t j)[i]'hij := by
        have a1 : wordW t j j = (wordsW t j)[j]'hj := by unfold wordW; rw [List.getD_eq_getElem?_getD, List.getElem?_eq_getElem hj]; rfl
        have a2 : wordW t j i = (wordsW t j)[i]'hij := by unfold wordW; rw [List.getD_eq_getElem?_getD, List.getElem?_eq_getElem hij]; rfl
        rw [← a1, ← a2, ← hwi]
        exact h3
      exact (List.pairwise_iff_getElem.1 ih i j hij hj hi) e1.symm
end Go.Proofs.Ytmcekpgmebanaaa

/-! First sets (layer 20): how many words there are; counting; the chapter's example. Nothing here names the program. -/
namespace Go.Proofs.Ytmcekpgmebanaaa

/-- What Sets answers. -/
def FirstOut (g : GramG) (k : Int) (ls : List Words) (c : Int) : Prop :=
  ((k < 1 ∨ 4 < k ∨ checkG g ≠ 0) ∧ ls = [] ∧ c = 1) ∨ ((1 ≤ k ∧ k ≤ 4 ∧ checkG g = 0) ∧ ((OverG g k ∧ ls = [] ∧ c = 21) ∨ (¬ OverG g k ∧ c = 0 ∧ ls.length = g.names.length ∧ ∀ i (h : i < ls.length), IsFirst g k [(i : Int)] (ls[i]'h))))
/-- All words of at most so many letters. -/
def allN (t : Nat) : Nat → Words
  | 0 => [[]]
  | n + 1 => [] :: (List.range t).flatMap fun b => (allN t n).map fun u => UInt8.ofNat b :: u
theorem mem_allN (t : Nat) : ∀ (n : Nat) (u : List UInt8), u.length ≤ n → (∀ b ∈ u, b.toNat < t) → u ∈ allN t n
  | 0, u, h, _ => by
    obtain rfl : u = [] := List.eq_nil_of_length_eq_zero (by omega)
    simp [allN]
  | n + 1, [], _, _ => by simp [allN]
  | n + 1, b :: u, h, hb => by
    rw [allN]
    refine List.mem_cons_of_mem _ (List.mem_flatMap.2 ⟨b.toNat, List.mem_range.2 (hb b (by simp)), List.mem_map.2 ⟨u, mem_allN t n u (by simpa using h) (fun c hc => hb c (by simp [hc])), by simp⟩⟩)
theorem allN_len (t n : Nat) : (allN t (n + 1)).length = 1 + t * (allN t n).length := by
  have key : ∀ l : List Nat, (l.flatMap fun b => (allN t n).map fun u => UInt8.ofNat b :: u).length = l.length * (allN t n).length := by
    intro l
    induction l with
    | nil => simp
    | cons b l ih => rw [List.flatMap_cons, List.length_append, ih, List.length_map, List.length_cons, Nat.succ_mul]; omega
  rw [allN, List.length_cons, key, List.length_range]
  omega
theorem allN_four (t : Nat) (ht : t ≤ 3) : (allN t 4).length ≤ 121 := by
  rw [allN_len, allN_len, allN_len, allN_len, show (allN t 0).length = 1 from rfl]
  rcases (by omega : t = 0 ∨ t = 1 ∨ t = 2 ∨ t = 3) with rfl | rfl | rfl | rfl <;> decide
theorem rules_syms {g : GramG} (hv : ValidG g) : ∀ r ∈ g.rules, ∀ s ∈ r.right, -(g.terms.length : Int) ≤ s := fun r hr s hs => ((hv.rules r hr).2.2.2 s hs).1
theorem notOver {g : GramG} (hv : ValidG g) (ht : g.terms.length ≤ 3) {k : Int} (hk : k ≤ 4) {ss : List Int} (hs : ∀ s ∈ ss, -(g.terms.length : Int) ≤ s) : ¬ OverP g k ss := by
  rintro ⟨l, hn, hl, hm⟩
  have h1 : ∀ u ∈ l, u ∈ allN g.terms.length 4 := fun u hu => by
    obtain ⟨a, b⟩ := firstP_below (rules_syms hv) (hm u hu) hs
    exact mem_allN _ _ u (by omega) a
  have h2 := nodup_le l _ hn h1
  have h3 := allN_four g.terms.length ht
  omega
theorem notOverG {g : GramG} (hv : ValidG g) (ht : g.terms.length ≤ 3) {k : Int} (hk : k ≤ 4) : ¬ OverG g k := by
  rintro (⟨i, -, h⟩ | ⟨r, hr, m, -, h⟩)
  · exact notOver hv ht hk (fun s hs => by obtain rfl : s = (i : Int) := (by simpa using hs); omega) h
  · exact notOver hv ht hk (fun s hs => rules_syms hv r hr s (List.mem_of_mem_take hs)) h
/-! Counting. -/
def hitsW (ls : List Words) (x : List UInt8) : Nat := (ls.filter fun l => decide (x ∈ l)).length
def cntW (ls : List Words) (A : Words) : Nat := (A.map (hitsW ls)).sum
def sumW (ls : List Words) : Nat := (ls.map List.length).sum
theorem hits_take (ls : List Words) (x : List UInt8) (a : Nat) (h : a < ls.length) : hitsW (ls.take (a + 1)) x = hitsW (ls.take a) x + (if x ∈ ls[a]'h then 1 else 0) := by
  rw [List.take_succ_eq_append_getElem h]
  unfold hitsW
  rw [List.filter_append, List.length_append]
  by_cases c : x ∈ ls[a]'h <;> simp [c]
theorem cnt_take (ls : List Words) (A : Words) (i : Nat) (h : i < A.length) : cntW ls (A.take (i + 1)) = cntW ls (A.take i) + hitsW ls (A[i]'h) := by
  rw [List.take_succ_eq_append_getElem h]
  unfold cntW
  rw [List.map_append, List.sum_append, List.map_cons, List.map_nil, List.sum_cons, List.sum_nil, Nat.add_zero]
theorem sum_take (ls : List Words) (a : Nat) (h : a < ls.length) : sumW (ls.take (a + 1)) = sumW (ls.take a) + (ls[a]'h).length := by
  rw [List.take_succ_eq_append_getElem h]
  unfold sumW
  rw [List.map_append, List.sum_append, List.map_cons, List.map_nil, List.sum_cons, List.sum_nil, Nat.add_zero]
theorem cnt_cons (l : Words) (ls : List Words) : ∀ A : Words, cntW (l :: ls) A = (A.filter fun x => decide (x ∈ l)).length + cntW ls A
  | [] => rfl
  | x :: A => by
    have ih := cnt_cons l ls A
    unfold cntW at ih ⊢
    rw [List.map_cons, List.sum_cons, ih, List.map_cons, List.sum_cons]
    have h : hitsW (l :: ls) x = (if x ∈ l then 1 else 0) + hitsW ls x := by
      unfold hitsW
      by_cases c : x ∈ l <;> simp [c]
      omega
    rw [h]
    by_cases c : x ∈ l <;> simp [c] <;> omega
theorem cnt_all (A : Words) (hA : A.Nodup) : ∀ ls : List Words, (∀ l ∈ ls, l.Nodup ∧ ∀ x ∈ l, x ∈ A) → cntW ls A = sumW ls
  | [], _ => by
    unfold cntW sumW
    have : ∀ B : Words, (B.map (hitsW [])).sum = 0 := by
      intro B
      induction B with
      | nil => rfl
      | cons x B ih => rw [List.map_cons, List.sum_cons, ih]; rfl
    rw [this]; rfl
  | l :: ls, h => by
    rw [cnt_cons, cnt_all A hA ls (fun m hm => h m (by simp [hm]))]
    obtain ⟨h1, h2⟩ := h l (by simp)
    have e1 := nodup_le (A.filter fun x => decide (x ∈ l)) l (hA.filter _) (fun x hx => by simpa using (List.mem_filter.1 hx).2)
    have e2 := nodup_le l (A.filter fun x => decide (x ∈ l)) h1 (fun x hx => List.mem_filter.2 ⟨h2 x hx, by simpa using hx⟩)
    unfold sumW
    rw [List.map_cons, List.sum_cons]
    omega
theorem hits_le (ls : List Words) (x : List UInt8) : hitsW ls x ≤ ls.length := List.length_filter_le _ _
theorem cnt_le (ls : List Words) : ∀ A : Words, cntW ls A ≤ A.length * ls.length
  | [] => by simp [cntW]
  | x :: A => by
    have := cnt_le ls A
    have h := hits_le ls x
    unfold cntW at this ⊢
    rw [List.map_cons, List.sum_cons, List.length_cons, Nat.succ_mul]
    omega
theorem cnt_take_le (ls : List Words) (A : Words) (i : Nat) : cntW ls (A.take i) ≤ A.length * ls.length :=
  Nat.le_trans (cnt_le ls _) (Nat.mul_le_mul_right _ (by rw [List.length_take]; omega))
/-! The words that All gives of a small grammar. -/
theorem allV_is {t k : Int} {l : List (List UInt8)} (h : AllV t k l) (ht : 0 ≤ t) (ht3 : t ≤ 3) (hk : 1 ≤ k) (hk4 : k ≤ 4) : l.Nodup ∧ (∀ x ∈ l, (x.length : Int) ≤ k) ∧ l.length ≤ 4096 ∧ ∀ u : List UInt8, (u.length : Int) ≤ k → (∀ b ∈ u, (b.toNat : Int) < t) → u ∈ l := by
  obtain ⟨T, rfl⟩ := Int.eq_ofNat_of_zero_le ht
  obtain ⟨K, rfl⟩ := Int.eq_ofNat_of_zero_le (show 0 ≤ k by omega)
  rcases h with ⟨h, -⟩ | ⟨-, -, -, r, ⟨j, hj, hr⟩, rfl⟩
  · omega
  rw [Int.toNat_natCast, Int.toNat_natCast] at hj hr
  have hg : ∀ i, i < j → goesW T K i := fun i hi => (hj i hi).1
  have hlen : ∀ x ∈ wordsW T j, x.length ≤ K := wordsW_most T K j hg
  have h1 : (wordsW T j).length ≤ 121 := by
    have a := nodup_le (wordsW T j) (allN T 4) (wordsW_nodup T (by omega) j) (fun x hx => mem_allN T 4 x (by have := hlen x hx; omega) (wordsW_below T (by omega) j x hx))
    have b := allN_four T (by omega)
    omega
  rcases hr with ⟨hn, rfl⟩ | ⟨-, h2, -⟩
  · rw [Option.getD_some]
    exact ⟨wordsW_nodup T (by omega) j, fun x hx => by have := hlen x hx; omega, by omega, fun u hu hb => wordsW_has hn u.length u rfl (by omega) (fun b h => by have := hb b h; omega)⟩
  · omega
/-! The chapter's example. -/
def exD : GramG := ⟨[[83]], [[97]], [⟨0, [-1, 0]⟩, ⟨0, []⟩]⟩
theorem valid_exD : ValidG exD where
  one := by decide
  syms := by decide
  few := by decide
  names := by decide
  nodupN := by decide
  has := fun i hi => by
    have hi' : i < 1 := hi
    obtain rfl : i = 0 := by omega
    exact ⟨⟨0, []⟩, (by simp [exD]), rfl⟩
  terms := by decide
  nodupT := by decide
  rules := by decide
  nodupR := by simp [exD]
theorem checkD : checkG exD = 0 := by
  have hp : ∀ i, i < exD.names.length → ProdN exD i := by
    intro i hi
    have hi' : i < 1 := hi
    obtain rfl : i = 0 := by omega
    exact .mk ⟨0, []⟩ 0 (by simp [exD]) rfl (fun s hs => by simp at hs)
  have hr : (∀ i, i < exD.names.length → ReachN exD i) ∧ ∀ t, t < exD.terms.length → UsedG exD t := by
    refine ⟨fun i hi => ?_, fun t ht => ?_⟩
    · have hi' : i < 1 := hi
      obtain rfl : i = 0 := by omega
      exact .zero
    · have ht' : t < 1 := ht
      obtain rfl : t = 0 := by omega
      exact ⟨⟨0, [-1, 0]⟩, (by simp [exD]), ⟨0, rfl, .zero⟩, by decide⟩
  unfold checkG
  rw [if_neg (by unfold validB; rw [boolOf_true valid_exD]; decide), if_neg (by rw [boolOf_true hp]; decide), if_neg (by rw [boolOf_true hr]; decide)]
theorem sizeD : SizeG exD := ⟨by decide, by decide, by decide, by decide, by decide, by decide⟩
theorem intD : IntG exD := by unfold IntG; decide
theorem dersD (n : Nat) : DerS exD [0] (List.replicate n 0) := by
  induction n with
  | zero => exact (DerS.nont_iff (s := 0) (by decide)).2 ⟨⟨0, []⟩, by simp [exD], rfl, .nil⟩
  | succ n ih =>
    refine (DerS.nont_iff (s := 0) (by decide)).2 ⟨⟨0, [-1, 0]⟩, by simp [exD], rfl, ?_⟩
    exact .term (-1) 0 [0] _ (by decide) (by decide) ih
theorem firstD : IsFirst exD 2 [0] [[], [0], [0, 0]] := by
  refine ⟨by unfold setW; decide, fun u => ?_⟩
  constructor
  · intro h
    have h' : u = [] ∨ u = [0] ∨ u = [0, 0] := by simpa using h
    rcases h' with rfl | rfl | rfl
    · exact ⟨_, dersD 0, rfl⟩
    · exact ⟨_, dersD 1, rfl⟩
    · exact ⟨_, dersD 2, rfl⟩
  · intro h
    obtain ⟨h1, h2⟩ := firstP_below (t := 1) (rules_syms valid_exD) h (by decide)
    have := mem_allN 1 2 u h2 h1
    simpa [allN] using this
theorem outD {ls : List Words} {c : Int} (h : FirstOut exD 2 ls c) : c = 0 ∧ ls = [[[], [0], [0, 0]]] := by
  rcases h with ⟨h, -⟩ | ⟨-, ⟨h, -⟩ | ⟨-, hc, hl, hi⟩⟩
  · rw [checkD] at h; omega
  · exact absurd h (notOverG valid_exD (by decide) (by decide))
  · refine ⟨hc, ?_⟩
    have hl' : ls.length = 1 := hl
    match ls, hl' with
    | [l], _ =>
      have e : l = _ := (hi 0 (by simp)).one firstD
      rw [e]
end Go.Proofs.Ytmcekpgmebanaaa

/-! The first set of a string of symbols (layer 20): plain mathematics. Nothing here names the program. -/
namespace Go.Proofs.Ytmcekpgmebanaaa

/-- The words of one symbol. -/
def symW (ls : List Words) (s : Int) : Option Words := if s < 0 then (if -256 ≤ s then some [[UInt8.ofNat (-1 - s).toNat]] else none) else ls[s.toNat]?
/-- The products, one symbol behind the other; none where one is too large or a symbol is none. -/
def fofF (ls : List Words) (k : Int) : List Int → Words → Option Words
  | [], acc => some acc
  | s :: ss, acc => match symW ls s with
    | none => none
    | some m => if 4096 < (catW k acc m).length then none else fofF ls k ss (catW k acc m)
def fofG (ls : List Words) (k : Int) (ss : List Int) : Option Words := fofF ls k ss [[]]
theorem fofF_bad (ls : List Words) (k : Int) : ∀ (ss : List Int) (acc : Words), (∃ s ∈ ss, symW ls s = none) → fofF ls k ss acc = none
  | [], _, ⟨s, h, _⟩ => by simp at h
  | t :: ss, acc, ⟨s, h, hn⟩ => by
    rw [fofF]
    rcases List.mem_cons.1 h with rfl | h
    · rw [hn]
    · cases ht : symW ls t with
      | none => rfl
      | some m =>
        simp only
        split
        · rfl
        · exact fofF_bad ls k ss _ ⟨s, h, hn⟩
theorem sym_over {ls : List Words} {s : Int} (h : (ls.length : Int) ≤ s) : symW ls s = none := by
  unfold symW
  rw [if_neg (by omega), List.getElem?_eq_none (by omega)]
theorem sym_under {ls : List Words} {s : Int} (h : s < -256) : symW ls s = none := by
  unfold symW
  rw [if_pos (by omega), if_neg (by omega)]
theorem sym_nont {ls : List Words} {i : Nat} (h : i < ls.length) : symW ls (i : Int) = some (ls[i]'h) := by
  unfold symW
  rw [if_neg (by omega), Int.toNat_natCast, List.getElem?_eq_getElem h]
theorem sym_term {ls : List Words} {s : Int} (h : s < 0) (h2 : -256 ≤ s) : symW ls s = some [[UInt8.ofNat (-1 - s).toNat]] := by
  unfold symW
  rw [if_pos h, if_pos h2]
theorem isFirst_term (g : GramG) {k : Int} (hk : 1 ≤ k) {s : Int} (h : s < 0) (h2 : -256 ≤ s) : IsFirst g k [s] [[UInt8.ofNat (-1 - s).toNat]] := by
  have hb : ((UInt8.ofNat (-1 - s).toNat).toNat : Int) = -1 - s := by
    rw [UInt8.toNat_ofNat_of_lt' (by show _ < 256; omega)]
    omega
  refine ⟨by unfold setW; simp, fun u => ?_⟩
  rw [List.mem_singleton]
  constructor
  · rintro rfl
    refine ⟨_, (DerS.term_iff h).2 ⟨_, hb, rfl⟩, ?_⟩
    unfold cutW
    rw [List.take_of_length_le (by simp; omega)]
  · rintro ⟨x, hx, rfl⟩
    obtain ⟨b, hb2, rfl⟩ := (DerS.term_iff h).1 hx
    have e : b = UInt8.ofNat (-1 - s).toNat := UInt8.toNat_inj.1 (by omega)
    unfold cutW
    rw [List.take_of_length_le (by simp; omega), e]
/-- The sets are those of the nonterminals. -/
def FirstSets (g : GramG) (k : Int) (ls : List Words) : Prop := ls.length = g.names.length ∧ ∀ i (h : i < ls.length), IsFirst g k [(i : Int)] (ls[i]'h)
theorem isFirst_sym {g : GramG} {k : Int} {ls : List Words} (hk : 1 ≤ k) (hF : FirstSets g k ls) {s : Int} (h1 : -256 ≤ s) (h2 : s < (g.names.length : Int)) : ∃ m, symW ls s = some m ∧ IsFirst g k [s] m := by
  by_cases h : s < 0
  · exact ⟨_, sym_term h h1, isFirst_term g hk h h1⟩
  · obtain ⟨i, rfl⟩ := Int.eq_ofNat_of_zero_le (show 0 ≤ s by omega)
    have hi : i < ls.length := by rw [hF.1]; exact Int.ofNat_lt.1 h2
    exact ⟨_, sym_nont hi, hF.2 i hi⟩
/-- What comes out is the first set, and it is none exactly if the first set of a beginning is too large. -/
theorem fofF_is {g : GramG} {k : Int} {ls : List Words} (hk : 1 ≤ k) (hF : FirstSets g k ls) : ∀ (ss pre : List Int) (acc : Words), IsFirst g k pre acc → (∀ s ∈ ss, -256 ≤ s ∧ s < (g.names.length : Int)) →
    ((∃ m, 0 < m ∧ m ≤ ss.length ∧ OverP g k (pre ++ ss.take m)) ∧ fofF ls k ss acc = none) ∨ ((∀ m, 0 < m → m ≤ ss.length → ¬ OverP g k (pre ++ ss.take m)) ∧ ∃ l, fofF ls k ss acc = some l ∧ IsFirst g k (pre ++ ss) l)
  | [], pre, acc, h, _ => .inr ⟨fun m h1 h2 => by simp at h2; omega, acc, rfl, by rw [List.append_nil]; exact h⟩
  | s :: ss, pre, acc, h, hs => by
    obtain ⟨m, hm, hFm⟩ := isFirst_sym hk hF (hs s (by simp)).1 (hs s (by simp)).2
    have hc : IsFirst g k (pre ++ [s]) (catW k acc m) := h.cat hFm
    rw [fofF, hm]
    simp only
    by_cases ho : 4096 < (catW k acc m).length
    · rw [if_pos ho]
      exact .inl ⟨⟨1, by decide, by simp, by simpa using (OverP.iff hc).2 ho⟩, rfl⟩
    · rw [if_neg ho]
      rcases fofF_is hk hF ss (pre ++ [s]) (catW k acc m) hc (fun t ht => hs t (by simp [ht])) with ⟨⟨n, h1, h2, h3⟩, h4⟩ | ⟨h1, l, h2, h3⟩
      · exact .inl ⟨⟨n + 1, by omega, by simpa using h2, by simpa using h3⟩, h4⟩
      · refine .inr ⟨fun n hn hn2 => ?_, l, h2, by simpa using h3⟩
        cases n with
        | zero => omega
        | succ n =>
          by_cases h0 : n = 0
          · subst h0
            intro hov
            exact ho ((OverP.iff hc).1 (by simpa using hov))
          · have := h1 n (by omega) (by simpa using hn2)
            simpa using this
theorem fofG_is {g : GramG} {k : Int} {ls : List Words} (hk : 1 ≤ k) (hF : FirstSets g k ls) {ss : List Int} (hs : ∀ s ∈ ss, -256 ≤ s ∧ s < (g.names.length : Int)) :
    ((∃ m, 0 < m ∧ m ≤ ss.length ∧ OverP g k (ss.take m)) ∧ fofG ls k ss = none) ∨ ((∀ m, 0 < m → m ≤ ss.length → ¬ OverP g k (ss.take m)) ∧ ∃ l, fofG ls k ss = some l ∧ IsFirst g k ss l) := by
  have := fofF_is hk hF ss [] [[]] (isFirst_nil g k) hs
  simpa [fofG] using this
/-- Of few terminals nothing is too large. -/
theorem fofG_few {g : GramG} (hv : ValidG g) (ht : g.terms.length ≤ 3) {k : Int} (hk : 1 ≤ k) (hk4 : k ≤ 4) {ls : List Words} (hF : FirstSets g k ls) {ss : List Int} (hs : ∀ s ∈ ss, -(g.terms.length : Int) ≤ s ∧ s < (g.names.length : Int)) :
    ∃ l, fofG ls k ss = some l ∧ IsFirst g k ss l := by
  rcases fofG_is hk hF (fun s h => ⟨by have := (hs s h).1; omega, (hs s h).2⟩) with ⟨⟨m, h1, h2, h3⟩, -⟩ | ⟨-, h⟩
  · exact absurd h3 (notOver hv ht hk4 (fun s h => (hs s (List.mem_of_mem_take h)).1))
  · exact h
theorem out_sets {g : GramG} {k : Int} {ls : List Words} {c : Int} (h : FirstOut g k ls c) (ht : g.terms.length ≤ 3) (h1 : 1 ≤ k) (h4 : k ≤ 4) (hc : checkG g = 0) (hv : ValidG g) : c = 0 ∧ FirstSets g k ls := by
  rcases h with ⟨h, -⟩ | ⟨-, ⟨h, -⟩ | ⟨-, h, h5, h6⟩⟩
  · omega
  · exact absurd h (notOverG hv ht h4)
  · exact ⟨h, h5, h6⟩
end Go.Proofs.Ytmcekpgmebanaaa
