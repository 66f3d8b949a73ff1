/- Several texts in one: LexMath, ParMath, GrmMath, DirMath, WrdMath, WstMath, SrtMath, GrmSz, ParBack, ParSound, GrmRes, GrmBk, CanMath, WtlMath, CpM, WsSh, StbMath, GrpMath. -/
import Derived.Lib.SlicesCompact
import Derived.Lib.Bytealg
import Derived.Lib.Small
import Derived.Test.YtmcekpgmebanaaaBs
set_option linter.unusedVariables false
set_option linter.unusedSimpArgs false
/-! Plain mathematics of the lexer (layer 12). Nothing here names the program. -/
namespace Go.Proofs.Ytmcekpgmebanaaa

def letterB (c : UInt8) : Bool := (decide (97 ≤ c.toNat) && decide (c.toNat ≤ 122)) || (decide (65 ≤ c.toNat) && decide (c.toNat ≤ 90))
def moreB (c : UInt8) : Bool := letterB c || (decide (48 ≤ c.toNat) && decide (c.toNat ≤ 57)) || decide (c.toNat = 95)
/-- May this stand in a terminal? -/
def termC (c : UInt8) : Bool := decide (32 ≤ c.toNat) && decide (c.toNat ≤ 126) && !decide (c.toNat = 39) && !decide (c.toNat = 92)
def blankB (c : UInt8) : Bool := decide (c.toNat = 32) || decide (c.toNat = 9) || decide (c.toNat = 10) || decide (c.toNat = 13)
def nameB (s : List UInt8) : Bool := decide (1 ≤ s.length ∧ s.length ≤ 32) && (match s with | [] => false | c :: _ => letterB c) && s.all moreB
def termB (s : List UInt8) : Bool := decide (1 ≤ s.length ∧ s.length ≤ 32) && s.all termC
structure TokD where
  kind : Int
  text : List UInt8
  at_ : Nat
/-- What begins here: its kind, its text, how many bytes it takes; or an error's number. -/
structure NextD where
  kind : Int
  text : List UInt8
  n : Nat
  err : Int
def noneD (e : Int) : NextD := ⟨0, [], 0, e⟩
def termD (t : List UInt8) : NextD :=
  if (t.drop (t.takeWhile termC).length).head? = some 39 ∧ t.takeWhile termC ≠ [] then (if 32 < (t.takeWhile termC).length then noneD 19 else ⟨2, t.takeWhile termC, (t.takeWhile termC).length + 2, 0⟩) else noneD 13
def nextD (c : UInt8) (t : List UInt8) : NextD :=
    if c = 58 then ⟨3, [58], 1, 0⟩ else if c = 124 then ⟨4, [124], 1, 0⟩ else if c = 59 then ⟨5, [59], 1, 0⟩
    else if letterB c then (if 32 < ((c :: t).takeWhile moreB).length then noneD 19 else ⟨1, (c :: t).takeWhile moreB, ((c :: t).takeWhile moreB).length, 0⟩)
    else if c = 39 then termD t else noneD 13
/-- Up to the end of a comment. -/
def restC (r : List UInt8) : List UInt8 := r.dropWhile fun c => !decide (c = 10)
theorem restC_le : ∀ r : List UInt8, (restC r).length ≤ r.length
  | [] => by simp [restC]
  | c :: t => by
    unfold restC
    rw [List.dropWhile_cons]
    split
    · have := restC_le t; unfold restC at this; simp; omega
    · simp
structure LexD where
  toks : List TokD
  at_ : Nat
  err : Int
def consD (x : TokD) (r : LexD) : LexD := if r.err = 0 then ⟨x :: r.toks, 0, 0⟩ else r
def lexD (r : List UInt8) (p : Nat) : LexD :=
  match r with
  | [] => ⟨[], 0, 0⟩
  | c :: t =>
    if blankB c then lexD t (p + 1)
    else if c = 35 then lexD (restC t) (p + 1 + (t.length - (restC t).length))
    else if (nextD c t).err ≠ 0 then ⟨[], p, (nextD c t).err⟩
    else consD ⟨(nextD c t).kind, (nextD c t).text, p⟩ (lexD (t.drop ((nextD c t).n - 1)) (p + (nextD c t).n))
termination_by r.length
decreasing_by
  · simp
  · have := restC_le t; simp; omega
  · simp; omega
def allD (s : List UInt8) : LexD := if 65536 < s.length then ⟨[], 0, 19⟩ else lexD s 0
/-- What was found before, and what the rest gives. -/
def behindD (acc : List TokD) (r : LexD) : LexD := if r.err = 0 then ⟨acc ++ r.toks, 0, 0⟩ else r
theorem next_pos {c : UInt8} {t : List UInt8} (h : (nextD c t).err = 0) : 1 ≤ (nextD c t).n ∧ (nextD c t).n ≤ (c :: t).length := by
  unfold nextD at h ⊢
  split
  · simp
  · split
    · simp
    · split
      · simp
      · next h1 h2 h3 =>
        rw [if_neg h1, if_neg h2, if_neg h3] at h
        split
        · next h4 =>
          rw [if_pos h4] at h
          split
          · next h5 => rw [if_pos h5] at h; simp [noneD] at h
          · have hm : moreB c = true := by unfold moreB; rw [h4]; simp
            have := (List.takeWhile_prefix moreB (l := c :: t)).length_le
            rw [List.takeWhile_cons, if_pos hm]
            rw [List.takeWhile_cons, if_pos hm] at this
            simp at this ⊢
            omega
        · next h4 =>
          rw [if_neg h4] at h
          split
          · next h5 =>
            rw [if_pos h5] at h
            unfold termD at h ⊢
            split
            · next h6 =>
              rw [if_pos h6] at h
              split
              · next h7 => rw [if_pos h7] at h; simp [noneD] at h
              · have h8 : (t.takeWhile termC).length < t.length := by
                  have := h6.1
                  rcases Nat.lt_or_ge (t.takeWhile termC).length t.length with q | q
                  · exact q
                  · rw [List.drop_eq_nil_of_le q] at this; simp at this
                simp
                omega
            · next h6 => rw [if_neg h6] at h; simp [noneD] at h
          · next h5 => rw [if_neg h5] at h; simp [noneD] at h
theorem lex_nil (p : Nat) : lexD [] p = ⟨[], 0, 0⟩ := by rw [lexD]
theorem lex_blank {c : UInt8} (t : List UInt8) (p : Nat) (h : blankB c = true) : lexD (c :: t) p = lexD t (p + 1) := by rw [lexD, if_pos h]
theorem lex_note (t : List UInt8) (p : Nat) : lexD (35 :: t) p = lexD (restC t) (p + 1 + (t.length - (restC t).length)) := by rw [lexD, if_neg (by decide), if_pos rfl]
theorem lex_err {c : UInt8} (t : List UInt8) (p : Nat) (h1 : blankB c = false) (h2 : c ≠ 35) (h3 : (nextD c t).err ≠ 0) : lexD (c :: t) p = ⟨[], p, (nextD c t).err⟩ := by
  rw [lexD, if_neg (by simp [h1]), if_neg h2, if_pos h3]
theorem lex_tok {c : UInt8} (t : List UInt8) (p : Nat) (h1 : blankB c = false) (h2 : c ≠ 35) (h3 : (nextD c t).err = 0) : lexD (c :: t) p = consD ⟨(nextD c t).kind, (nextD c t).text, p⟩ (lexD ((c :: t).drop (nextD c t).n) (p + (nextD c t).n)) := by
  rw [lexD, if_neg (by simp [h1]), if_neg h2, if_neg (by simp [h3])]
  have := (next_pos h3).1
  rw [show (c :: t).drop (nextD c t).n = t.drop ((nextD c t).n - 1) from by
    obtain ⟨m, hm⟩ : ∃ m, (nextD c t).n = m + 1 := ⟨(nextD c t).n - 1, by omega⟩
    rw [hm]; simp]
theorem behind_cons (acc : List TokD) (x : TokD) (r : LexD) : behindD acc (consD x r) = behindD (acc ++ [x]) r := by
  unfold behindD consD
  by_cases h : r.err = 0
  · simp [h]
  · simp [h]
theorem letter_num {c : UInt8} (h : letterB c = true) : c ≠ 58 ∧ c ≠ 124 ∧ c ≠ 59 ∧ c ≠ 35 ∧ blankB c = false ∧ moreB c = true := by
  have hm : moreB c = true := by unfold moreB; rw [h]; simp
  refine ⟨?_, ?_, ?_, ?_, ?_, hm⟩
  · rintro rfl; simp [letterB] at h
  · rintro rfl; simp [letterB] at h
  · rintro rfl; simp [letterB] at h
  · rintro rfl; simp [letterB] at h
  · unfold letterB at h
    unfold blankB
    simp at h ⊢
    omega
theorem takeWhile_all {p : UInt8 → Bool} {l : List UInt8} (h : l.all p = true) : l.takeWhile p = l := by
  induction l with
  | nil => rfl
  | cons c t ih =>
    rw [List.all_cons, Bool.and_eq_true] at h
    rw [List.takeWhile_cons, if_pos h.1, ih h.2]
/-- What ends a run ends it, whatever follows. -/
theorem takeWhile_stop {p : UInt8 → Bool} : ∀ (l : List UInt8) (x : UInt8) (q : List UInt8), p x = false → (l ++ x :: q).takeWhile p = l.takeWhile p
  | [], x, q, h => by simp [h]
  | c :: t, x, q, h => by
    rw [List.cons_append, List.takeWhile_cons, List.takeWhile_cons, takeWhile_stop t x q h]
theorem takeWhile_in {p : UInt8 → Bool} : ∀ (l q : List UInt8), (l.takeWhile p).length < l.length → (l ++ q).takeWhile p = l.takeWhile p
  | [], q, h => by simp at h
  | c :: t, q, h => by
    rw [List.cons_append, List.takeWhile_cons, List.takeWhile_cons]
    rw [List.takeWhile_cons] at h
    split
    · next hc =>
      rw [if_pos hc] at h
      rw [takeWhile_in t q (by simpa using h)]
    · rfl
theorem name_one {s : List UInt8} (h : nameB s = true) (p : Nat) : lexD s p = ⟨[⟨1, s, p⟩], 0, 0⟩ := by
  unfold nameB at h
  rw [Bool.and_eq_true, Bool.and_eq_true] at h
  obtain ⟨⟨h1, h2⟩, h3⟩ := h
  have h1' := of_decide_eq_true h1
  cases s with
  | nil => simp at h1'
  | cons c t =>
    simp only at h2
    obtain ⟨e1, e2, e3, e4, e5, e6⟩ := letter_num h2
    have hn : nextD c t = ⟨1, c :: t, (c :: t).length, 0⟩ := by
      unfold nextD
      rw [if_neg e1, if_neg e2, if_neg e3, if_pos h2, takeWhile_all h3, if_neg (by omega)]
    rw [lex_tok t p e5 e4 (by rw [hn]), hn]
    simp only [List.drop_length]
    rw [lex_nil]
    rfl
theorem term_one {s : List UInt8} (h : termB s = true) (p : Nat) : lexD (39 :: (s ++ [39])) p = ⟨[⟨2, s, p⟩], 0, 0⟩ := by
  unfold termB at h
  rw [Bool.and_eq_true] at h
  have h1' := of_decide_eq_true h.1
  have ht : (s ++ [39]).takeWhile termC = s := by rw [takeWhile_stop s 39 [] (by decide), takeWhile_all h.2]
  have hn : nextD 39 (s ++ [39]) = ⟨2, s, s.length + 2, 0⟩ := by
    unfold nextD
    rw [if_neg (by decide), if_neg (by decide), if_neg (by decide), if_neg (by decide), if_pos rfl]
    unfold termD
    rw [ht, if_pos ⟨by simp, by intro e; rw [e] at h1'; simp at h1'⟩, if_neg (by omega)]
  rw [lex_tok _ p (by decide) (by decide) (by rw [hn]), hn]
  rw [List.drop_eq_nil_of_le (by simp), lex_nil]
  rfl
theorem lex_ok {r : List UInt8} {p : Nat} (h : (lexD r p).err = 0) : (lexD r p).at_ = 0 := by
  induction r, p using lexD.induct with
  | case1 p => rw [lex_nil]
  | case2 p c t hb ih => rw [lex_blank t p hb] at h ⊢; exact ih h
  | case3 p t hb ih => rw [lex_note] at h ⊢; exact ih h
  | case4 p c t hb h3 he => rw [lex_err t p (by simpa using hb) h3 he] at h; exact absurd h he
  | case5 p c t hb h3 he ih =>
    rw [lexD, if_neg hb, if_neg h3, if_neg he] at h ⊢
    unfold consD at h ⊢
    split
    · rfl
    · next hq => rw [if_neg hq] at h; exact absurd h hq
def shiftT (k : Nat) (x : TokD) : TokD := ⟨x.kind, x.text, x.at_ + k⟩
theorem lex_shift (k : Nat) {r : List UInt8} {p : Nat} : (lexD r p).err = 0 → lexD r (p + k) = ⟨(lexD r p).toks.map (shiftT k), 0, 0⟩ := by
  induction r, p using lexD.induct with
  | case1 p => intro _; rw [lex_nil, lex_nil]; rfl
  | case2 p c t hb ih => intro h; rw [lex_blank t p hb] at h ⊢; rw [lex_blank t _ hb, ← ih h, show p + k + 1 = p + 1 + k from by omega]
  | case3 p t hb ih =>
    intro h
    rw [lex_note] at h ⊢
    rw [lex_note, ← ih h, show p + k + 1 + (t.length - (restC t).length) = p + 1 + (t.length - (restC t).length) + k from by omega]
  | case4 p c t hb h3 he => intro h; rw [lex_err t p (by simpa using hb) h3 he] at h; exact absurd h he
  | case5 p c t hb h3 he ih =>
    intro h
    rw [lexD, if_neg hb, if_neg h3, if_neg he] at h ⊢
    rw [lexD, if_neg hb, if_neg h3, if_neg he]
    have he2 : (lexD (t.drop ((nextD c t).n - 1)) (p + (nextD c t).n)).err = 0 := by
      unfold consD at h
      split at h
      · assumption
      · next hq => exact absurd h hq
    rw [show p + k + (nextD c t).n = p + (nextD c t).n + k from by omega, ih he2]
    unfold consD
    simp [he2, shiftT]
theorem next_same {c : UInt8} {t : List UInt8} (q : List UInt8) (h : (nextD c t).err = 0) : nextD c (t ++ 32 :: q) = nextD c t := by
  unfold nextD at h ⊢
  by_cases h1 : c = 58
  · rw [if_pos h1, if_pos h1]
  · rw [if_neg h1] at h ⊢
    rw [if_neg h1]
    by_cases h2 : c = 124
    · rw [if_pos h2, if_pos h2]
    · rw [if_neg h2] at h ⊢
      rw [if_neg h2]
      by_cases h3 : c = 59
      · rw [if_pos h3, if_pos h3]
      · rw [if_neg h3] at h ⊢
        rw [if_neg h3]
        by_cases h4 : letterB c = true
        · rw [if_pos h4, if_pos h4, ← List.cons_append, takeWhile_stop (c :: t) 32 q (by decide)]
        · rw [if_neg h4] at h ⊢
          rw [if_neg h4]
          by_cases h5 : c = 39
          · rw [if_pos h5] at h ⊢
            rw [if_pos h5]
            unfold termD at h ⊢
            by_cases h6 : (t.drop (t.takeWhile termC).length).head? = some 39 ∧ t.takeWhile termC ≠ []
            · have h8 : (t.takeWhile termC).length < t.length := by
                have := h6.1
                rcases Nat.lt_or_ge (t.takeWhile termC).length t.length with z | z
                · exact z
                · rw [List.drop_eq_nil_of_le z] at this; simp at this
              rw [takeWhile_in t _ h8]
              have h9 : ((t ++ 32 :: q).drop (t.takeWhile termC).length).head? = (t.drop (t.takeWhile termC).length).head? := by
                rw [List.drop_append_of_le_length (by omega), List.head?_append]
                rw [h6.1]; rfl
              rw [h9]
            · rw [if_neg h6] at h; simp [noneD] at h
          · rw [if_neg h5, if_neg h5]
theorem lex_front {r : List UInt8} {p : Nat} : ∀ (q : List UInt8) (y : List TokD), (35 : UInt8) ∉ r → (lexD r p).err = 0 → lexD (32 :: q) (p + r.length) = ⟨y, 0, 0⟩ → lexD (r ++ 32 :: q) p = ⟨(lexD r p).toks ++ y, 0, 0⟩ := by
  induction r, p using lexD.induct with
  | case1 p => intro q y _ _ h; rw [lex_nil]; simpa using h
  | case2 p c t hb ih =>
    intro q y hn h hy
    rw [lex_blank t p hb] at h ⊢
    rw [List.cons_append, lex_blank _ p hb]
    exact ih q y (fun hm => hn (by simp [hm])) h (by rw [← hy]; congr 1; simp; omega)
  | case3 p t hb ih => intro q y hn; simp at hn
  | case4 p c t hb h3 he => intro q y hn h; rw [lex_err t p (by simpa using hb) h3 he] at h; exact absurd h he
  | case5 p c t hb h3 he ih =>
    intro q y hn h hy
    have he0 : (nextD c t).err = 0 := by simpa using he
    have hpos := next_pos he0
    have hb' : blankB c = false := by simpa using hb
    rw [lex_tok t p hb' h3 he0] at h ⊢
    have hd : t.drop ((nextD c t).n - 1) = (c :: t).drop (nextD c t).n := by
      obtain ⟨m, hm⟩ : ∃ m, (nextD c t).n = m + 1 := ⟨(nextD c t).n - 1, by omega⟩
      rw [hm]; simp
    rw [hd] at ih
    have he2 : (lexD ((c :: t).drop (nextD c t).n) (p + (nextD c t).n)).err = 0 := by
      unfold consD at h
      split at h
      · assumption
      · next hq => exact absurd h hq
    have hs := next_same q he0
    rw [List.cons_append, lex_tok (t ++ 32 :: q) p hb' h3 (by rw [hs]; exact he0), hs, ← List.cons_append, List.drop_append_of_le_length hpos.2]
    rw [ih q y (fun hm => hn (List.mem_of_mem_drop hm)) he2 (by rw [← hy]; congr 1; rw [List.length_drop]; omega)]
    unfold consD
    simp [he2]
theorem restC_stop : ∀ (m q : List UInt8), (10 : UInt8) ∉ m → restC (m ++ 10 :: q) = 10 :: q
  | [], q, _ => by simp [restC]
  | c :: t, q, h => by
    have := restC_stop t q (fun hm => h (by simp [hm]))
    unfold restC at this ⊢
    rw [List.cons_append, List.dropWhile_cons, if_pos (by simp; intro e; exact h (by simp [e]))]
    exact this
theorem lex_between (m b : List UInt8) (p : Nat) (h : (10 : UInt8) ∉ m) : lexD (32 :: 35 :: (m ++ 10 :: 9 :: 13 :: b)) p = lexD b (p + (m.length + 5)) := by
  rw [lex_blank _ p (by decide), lex_note, restC_stop m _ h, lex_blank _ _ (by decide), lex_blank _ _ (by decide), lex_blank _ _ (by decide)]
  congr 1
  simp
  omega
/-- Blanks and a remark between two texts. -/
theorem lex_blanks (a m b : List UInt8) (ha : (lexD a 0).err = 0) (hb : (lexD b 0).err = 0) (hn : (35 : UInt8) ∉ a) (h : (10 : UInt8) ∉ m) :
    lexD (a ++ 32 :: 35 :: (m ++ 10 :: 9 :: 13 :: b)) 0 = ⟨(lexD a 0).toks ++ (lexD b 0).toks.map (shiftT (a.length + m.length + 5)), 0, 0⟩ := by
  refine lex_front _ _ hn ha ?_
  rw [lex_between m b _ h, ← lex_shift (a.length + m.length + 5) hb]
  congr 1
  omega
theorem restC_len (t : List UInt8) : (restC t).length ≤ t.length := restC_le t
theorem lex_len {r : List UInt8} {p : Nat} : (lexD r p).toks.length ≤ r.length ∧ ∀ t ∈ (lexD r p).toks, t.at_ ≤ p + r.length := by
  induction r, p using lexD.induct with
  | case1 p => rw [lex_nil]; simp
  | case2 p c t hb ih => rw [lex_blank t p hb]; exact ⟨by simp; omega, fun x hx => by have := ih.2 x hx; simp; omega⟩
  | case3 p t hb ih =>
    rw [lex_note]
    have := restC_le t
    exact ⟨by simp; omega, fun x hx => by have := ih.2 x hx; simp; omega⟩
  | case4 p c t hb h3 he => rw [lex_err t p (by simpa using hb) h3 he]; simp
  | case5 p c t hb h3 he ih =>
    rw [lexD, if_neg hb, if_neg h3, if_neg he]
    have he0 : (nextD c t).err = 0 := by simpa using he
    have hpos := next_pos he0
    rw [List.length_cons] at hpos
    unfold consD
    split
    · refine ⟨?_, fun x hx => ?_⟩
      · have := ih.1
        rw [List.length_drop] at this
        simp; omega
      · rw [List.mem_cons] at hx
        rcases hx with rfl | hx
        · simp
        · have := ih.2 x hx
          rw [List.length_drop] at this
          simp; omega
    · refine ⟨?_, fun x hx => ?_⟩
      · have := ih.1
        rw [List.length_drop] at this
        simp; omega
      · have := ih.2 x hx
        rw [List.length_drop] at this
        simp; omega
end Go.Proofs.Ytmcekpgmebanaaa

/-! Plain mathematics of the parser of rules (layer 13). Nothing here names the program. -/
namespace Go.Proofs.Ytmcekpgmebanaaa

structure ItemD where
  term : Bool
  text : List UInt8
structure LineD where
  name : List UInt8
  alts : List (List ItemD)
/-- A token's kind and text. -/
abbrev Tk := Int × List UInt8
def TokD.tk (t : TokD) : Tk := (t.kind, t.text)
/-- Alternatives that were read, or how many tokens were left where it went wrong; and how many are left. -/
structure BodyD where
  ok : Bool
  alts : List (List ItemD)
  left : List Tk
def bodyD : List Tk → List ItemD → List (List ItemD) → BodyD
  | [], _, _ => ⟨false, [], []⟩
  | t :: r, cur, done =>
    if t.1 = 1 ∨ t.1 = 2 then bodyD r (cur ++ [⟨decide (t.1 = 2), t.2⟩]) done
    else if t.1 = 4 then bodyD r [] (done ++ [cur])
    else if t.1 = 5 then ⟨true, done ++ [cur], r⟩
    else ⟨false, [], t :: r⟩
structure RuleD where
  ok : Bool
  line : LineD
  left : List Tk
def nameD (n : List UInt8) : List Tk → RuleD
  | [] => ⟨false, ⟨[], []⟩, []⟩
  | c :: q => if c.1 = 3 then ⟨(bodyD q [] []).ok, ⟨n, (bodyD q [] []).alts⟩, (bodyD q [] []).left⟩ else ⟨false, ⟨[], []⟩, c :: q⟩
def ruleD : List Tk → RuleD
  | [] => ⟨false, ⟨[], []⟩, []⟩
  | t :: r => if t.1 ≠ 1 then ⟨false, ⟨[], []⟩, t :: r⟩ else nameD t.2 r
theorem body_left : ∀ (r : List Tk) (cur : List ItemD) (done : List (List ItemD)), (bodyD r cur done).left.length ≤ r.length ∧ ((bodyD r cur done).ok = true → (bodyD r cur done).left.length < r.length)
  | [], cur, done => by simp [bodyD]
  | t :: r, cur, done => by
    unfold bodyD
    split
    · have := body_left r (cur ++ [⟨decide (t.1 = 2), t.2⟩]) done
      exact ⟨by simp; omega, fun h => by have := this.2 h; simp; omega⟩
    · split
      · have := body_left r [] (done ++ [cur])
        exact ⟨by simp; omega, fun h => by have := this.2 h; simp; omega⟩
      · split
        · simp
        · simp
theorem name_left (n : List UInt8) (r : List Tk) : (nameD n r).left.length ≤ r.length ∧ ((nameD n r).ok = true → (nameD n r).left.length < r.length) := by
  cases r with
  | nil => simp [nameD]
  | cons c q =>
    have e : nameD n (c :: q) = if c.1 = 3 then ⟨(bodyD q [] []).ok, ⟨n, (bodyD q [] []).alts⟩, (bodyD q [] []).left⟩ else ⟨false, ⟨[], []⟩, c :: q⟩ := rfl
    rw [e, List.length_cons]
    by_cases h3 : c.1 = 3
    · rw [if_pos h3]
      have := body_left q [] []
      exact ⟨by simp only; omega, fun h => by have := this.2 h; simp only; omega⟩
    · rw [if_neg h3]
      simp
theorem rule_left (r : List Tk) : (ruleD r).left.length ≤ r.length ∧ ((ruleD r).ok = true → (ruleD r).left.length < r.length) := by
  cases r with
  | nil => simp [ruleD]
  | cons t r =>
    have e : ruleD (t :: r) = if t.1 ≠ 1 then ⟨false, ⟨[], []⟩, t :: r⟩ else nameD t.2 r := rfl
    rw [e, List.length_cons]
    by_cases h1 : t.1 ≠ 1
    · rw [if_pos h1]
      simp
    · rw [if_neg h1]
      have := name_left t.2 r
      exact ⟨by omega, fun h => by have := this.2 h; omega⟩
/-- Lines that were read, or how many tokens were left where it went wrong. -/
structure LinesD where
  ok : Bool
  lines : List LineD
  left : Nat
def linesD (r : List Tk) : LinesD :=
  match r with
  | [] => ⟨true, [], 0⟩
  | t :: q =>
    if h : (ruleD (t :: q)).ok = true then
      (if (linesD (ruleD (t :: q)).left).ok then ⟨true, (ruleD (t :: q)).line :: (linesD (ruleD (t :: q)).left).lines, 0⟩ else linesD (ruleD (t :: q)).left)
    else ⟨false, [], (ruleD (t :: q)).left.length⟩
termination_by r.length
decreasing_by
  all_goals exact (rule_left (t :: q)).2 h
/-- What a text comes to. -/
structure ParD where
  lines : List LineD
  at_ : Nat
  err : Int
def offT (m : List UInt8) (toks : List TokD) (left : Nat) : Nat := match toks[toks.length - left]? with | some t => t.at_ | none => m.length
def parD (m : List UInt8) : ParD :=
  if (allD m).err ≠ 0 then ⟨[], (allD m).at_, (allD m).err⟩
  else if (linesD ((allD m).toks.map TokD.tk)).ok = false then ⟨[], offT m (allD m).toks (linesD ((allD m).toks.map TokD.tk)).left, 14⟩
  else if (linesD ((allD m).toks.map TokD.tk)).lines = [] then ⟨[], m.length, 14⟩
  else ⟨(linesD ((allD m).toks.map TokD.tk)).lines, 0, 0⟩
def itemT (i : ItemD) : List UInt8 := if i.term then [32, 39] ++ i.text ++ [39] else 32 :: i.text
def altT (a : List ItemD) : List UInt8 := a.flatMap itemT
def altsT : List (List ItemD) → List UInt8
  | [] => []
  | a :: r => altT a ++ r.flatMap fun b => [32, 124] ++ altT b
def lineT (l : LineD) : List UInt8 := l.name ++ [32, 58] ++ altsT l.alts ++ [32, 59, 10]
def textD (l : List LineD) : List UInt8 := l.flatMap lineT
/-- The tokens of lines. -/
def itemK (i : ItemD) : Tk := (if i.term then 2 else 1, i.text)
def altsK : List (List ItemD) → List Tk
  | [] => []
  | a :: r => a.map itemK ++ r.flatMap fun b => (4, [124]) :: b.map itemK
def lineK (l : LineD) : List Tk := (1, l.name) :: (3, [58]) :: (altsK l.alts ++ [(5, [59])])
theorem body_items : ∀ (a : List ItemD) (q : List Tk) (cur : List ItemD) (done : List (List ItemD)), bodyD (a.map itemK ++ q) cur done = bodyD q (cur ++ a) done
  | [], q, cur, done => by simp
  | i :: r, q, cur, done => by
    rw [List.map_cons, List.cons_append, bodyD]
    have h : (itemK i).1 = 1 ∨ (itemK i).1 = 2 := by unfold itemK; cases i.term <;> simp
    have h2 : (⟨decide ((itemK i).1 = 2), (itemK i).2⟩ : ItemD) = i := by unfold itemK; obtain ⟨b, x⟩ := i; cases b <;> simp
    rw [if_pos h, h2, body_items r q]
    simp
theorem body_bars : ∀ (r : List (List ItemD)) (q : List Tk) (cur : List ItemD) (done : List (List ItemD)), bodyD ((r.flatMap fun b => (4, [124]) :: b.map itemK) ++ (5, [59]) :: q) cur done = ⟨true, done ++ cur :: r, q⟩
  | [], q, cur, done => by simp [bodyD]
  | b :: r, q, cur, done => by
    rw [List.flatMap_cons, List.cons_append, List.cons_append, bodyD, if_neg (by simp), if_pos rfl, List.append_assoc, body_items, body_bars r q]
    simp
theorem body_back (l : LineD) (h : l.alts ≠ []) (q : List Tk) : ruleD (lineK l ++ q) = ⟨true, l, q⟩ := by
  obtain ⟨n, al⟩ := l
  cases al with
  | nil => exact absurd rfl h
  | cons a r =>
    unfold lineK altsK
    simp only [List.cons_append, List.append_assoc, List.nil_append]
    have hb := body_items a ((r.flatMap fun b => (4, [124]) :: b.map itemK) ++ (5, [59]) :: q) [] []
    rw [body_bars] at hb
    have e1 : ∀ r : List Tk, ruleD ((1, n) :: r) = nameD n r := fun r => by simp [ruleD]
    have e2 : ∀ r : List Tk, nameD n ((3, [58]) :: r) = ⟨(bodyD r [] []).ok, ⟨n, (bodyD r [] []).alts⟩, (bodyD r [] []).left⟩ := fun r => by simp [nameD]
    rw [e1, e2, hb]
    simp
theorem lines_back : ∀ (l : List LineD), (∀ x ∈ l, x.alts ≠ []) → linesD (l.flatMap lineK) = ⟨true, l, 0⟩
  | [], _ => by rw [List.flatMap_nil, linesD]
  | x :: l, h => by
    have hb := body_back x (h x (by simp)) (l.flatMap lineK)
    have ih := lines_back l (fun y hy => h y (by simp [hy]))
    rw [List.flatMap_cons]
    have hc : lineK x ++ l.flatMap lineK = (1, x.name) :: ((3, [58]) :: (altsK x.alts ++ [(5, [59])]) ++ l.flatMap lineK) := rfl
    rw [hc] at hb ⊢
    rw [linesD, dif_pos (by rw [hb]), hb]
    simp only
    rw [ih]
    rfl
end Go.Proofs.Ytmcekpgmebanaaa

/-! Plain mathematics of grammars (layer 14). Nothing here names the program. -/
namespace Go.Proofs.Ytmcekpgmebanaaa

structure RuleG where
  left : Int
  right : List Int
structure GramG where
  names : List (List UInt8)
  terms : List (List UInt8)
  rules : List RuleG
theorem RuleG.ext' {a b : RuleG} (h1 : a.left = b.left) (h2 : a.right = b.right) : a = b := by cases a; cases b; simp_all
theorem GramG.ext' {a b : GramG} (h1 : a.names = b.names) (h2 : a.terms = b.terms) (h3 : a.rules = b.rules) : a = b := by cases a; cases b; simp_all
/-- A truth as a Bool. -/
noncomputable def boolOf (p : Prop) : Bool := @decide p (Classical.propDecidable p)
theorem boolOf_true {p : Prop} (h : p) : boolOf p = true := by unfold boolOf; exact @decide_eq_true p (Classical.propDecidable p) h
theorem boolOf_false {p : Prop} (h : ¬ p) : boolOf p = false := by unfold boolOf; exact @decide_eq_false p (Classical.propDecidable p) h
theorem boolOf_congr {p q : Prop} (h : p ↔ q) : boolOf p = boolOf q := by rw [show p = q from propext h]
theorem of_boolOf {p : Prop} (h : boolOf p = true) : p := Classical.byContradiction fun hn => by rw [boolOf_false hn] at h; cases h
theorem boolOf_cases (p : Prop) : (p ∧ boolOf p = true) ∨ (¬ p ∧ boolOf p = false) := (Classical.em p).elim (fun h => .inl ⟨h, boolOf_true h⟩) (fun h => .inr ⟨h, boolOf_false h⟩)
/-- The place of a text in a list; -1: it is not there. -/
def findG : List (List UInt8) → List UInt8 → Int
  | [], _ => -1
  | x :: l, s => if x = s then 0 else if findG l s < 0 then -1 else findG l s + 1
theorem find_at : ∀ {l : List (List UInt8)} {s : List UInt8} {k : Nat} (hk : k < l.length), l[k] = s → (∀ j (h : j < k), l[j]'(by omega) ≠ s) → findG l s = (k : Int)
  | [], s, k, hk, _, _ => by simp at hk
  | x :: l, s, k, hk, h1, h2 => by
    unfold findG
    cases k with
    | zero => rw [if_pos (by simpa using h1)]; rfl
    | succ k =>
      have h0 : ¬ x = s := by simpa using h2 0 (by omega)
      have := find_at (l := l) (s := s) (k := k) (by simpa using hk) (by simpa using h1) (fun j h => by simpa using h2 (j + 1) (by omega))
      rw [if_neg h0, this, if_neg (by omega)]
      omega
theorem find_no : ∀ {l : List (List UInt8)} {s : List UInt8}, s ∉ l → findG l s = -1
  | [], s, _ => rfl
  | x :: l, s, h => by
    unfold findG
    rw [if_neg (fun e => h (by simp [e])), find_no (fun hm => h (by simp [hm])), if_pos (by omega)]
theorem find_yes : ∀ {l : List (List UInt8)} {s : List UInt8}, s ∈ l → ∃ (k : Nat) (hk : k < l.length), findG l s = (k : Int) ∧ l[k] = s ∧ ∀ j (h : j < k), l[j]'(by omega) ≠ s
  | [], s, h => by simp at h
  | x :: l, s, h => by
    unfold findG
    by_cases e : x = s
    · exact ⟨0, by simp, by rw [if_pos e]; rfl, by simpa using e, fun j hj => by omega⟩
    · have hm : s ∈ l := by
        rcases List.mem_cons.1 h with q | q
        · exact absurd q.symm e
        · exact q
      obtain ⟨k, hk, h1, h2, h3⟩ := find_yes hm
      refine ⟨k + 1, by simp; omega, by rw [if_neg e, h1, if_neg (by omega)]; omega, by simpa using h2, fun j hj => ?_⟩
      cases j with
      | zero => simpa using e
      | succ j => simpa using h3 j (by omega)
theorem find_le {l : List (List UInt8)} {i : Nat} (hi : i < l.length) : ∃ k : Nat, findG l l[i] = (k : Int) ∧ k ≤ i ∧ (k = i ↔ ∀ j (h : j < i), l[j]'(by omega) ≠ l[i]) := by
  obtain ⟨k, hk, h1, h2, h3⟩ := find_yes (List.getElem_mem hi)
  have hle : k ≤ i := by
    rcases Nat.lt_or_ge i k with q | q
    · exact absurd rfl (h3 i q)
    · exact q
  refine ⟨k, h1, hle, fun e => ?_, fun h => ?_⟩
  · subst e; exact h3
  · rcases Nat.lt_or_ge k i with q | q
    · exact absurd h2 (h k q)
    · omega
theorem nodup_iff {α : Type} {l : List α} : l.Nodup ↔ ∀ i (hi : i < l.length) j (hj : j < i), l[j]'(by omega) ≠ l[i] := by
  unfold List.Nodup
  rw [List.pairwise_iff_getElem]
  exact ⟨fun h i hi j hj => h j i (by omega) hi hj, fun h i j hi hj hij => h j hj i hij⟩
/-- A grammar that may be. -/
structure ValidG (g : GramG) : Prop where
  one : 1 ≤ g.names.length
  syms : g.names.length + g.terms.length ≤ 256
  few : g.rules.length ≤ 4096
  names : ∀ n ∈ g.names, nameB n = true
  nodupN : g.names.Nodup
  has : ∀ i : Nat, i < g.names.length → ∃ r ∈ g.rules, r.left = (i : Int)
  terms : ∀ t ∈ g.terms, termB t = true
  nodupT : g.terms.Nodup
  rules : ∀ r ∈ g.rules, 0 ≤ r.left ∧ r.left < (g.names.length : Int) ∧ r.right.length ≤ 64 ∧ ∀ s ∈ r.right, -(g.terms.length : Int) ≤ s ∧ s < (g.names.length : Int)
  nodupR : g.rules.Nodup
noncomputable def validB (g : GramG) : Bool := boolOf (ValidG g)
noncomputable def sameB (g h : GramG) : Bool := boolOf (g = h)
/-- The rules of a nonterminal: their numbers. -/
def ofFrom : List RuleG → Int → Nat → List Int
  | [], _, _ => []
  | r :: l, a, i => if r.left = a then (i : Int) :: ofFrom l a (i + 1) else ofFrom l a (i + 1)
def ofG (g : GramG) (a : Int) : List Int := ofFrom g.rules a 0
/-- A small grammar. -/
def FewG (g : GramG) : Prop := g.names.length ≤ 12 ∧ g.terms.length ≤ 12 ∧ g.rules.length ≤ 40 ∧ (∀ r ∈ g.rules, r.right.length ≤ 20) ∧ (∀ n ∈ g.names, n.length ≤ 40) ∧ ∀ t ∈ g.terms, t.length ≤ 40
noncomputable def fewB (g : GramG) : Int := if boolOf (FewG g) = true then 1 else 0
/-- A symbol as an item. -/
def itemG (g : GramG) (s : Int) : ItemD := if s < 0 then ⟨true, g.terms.getD (-1 - s).toNat []⟩ else ⟨false, g.names.getD s.toNat []⟩
def altsG (g : GramG) (i : Nat) : List (List ItemD) := (g.rules.filter fun r => decide (r.left = (i : Int))).map fun r => r.right.map (itemG g)
/-- A grammar's lines. -/
def linesG (g : GramG) : List LineD := g.names.zipIdx.map fun p => ⟨p.1, altsG g p.2⟩
/-- The terminals of items, in the order in which they first stand. -/
def addT (acc : List (List UInt8)) (i : ItemD) : List (List UInt8) := if i.term = true ∧ i.text ∉ acc then acc ++ [i.text] else acc
def itemsOf (ls : List LineD) : List ItemD := ls.flatMap fun l => l.alts.flatten
def termsOf (is : List ItemD) : List (List UInt8) := is.foldl addT []
def symG (names terms : List (List UInt8)) (i : ItemD) : Int := if i.term then -1 - findG terms i.text else findG names i.text
def rulesOf (names terms : List (List UInt8)) (ls : List LineD) : List RuleG := ls.zipIdx.flatMap fun p => p.1.alts.map fun a => ⟨(p.2 : Int), a.map (symG names terms)⟩
def gramOf (ls : List LineD) : GramG := ⟨ls.map (·.name), termsOf (itemsOf ls), rulesOf (ls.map (·.name)) (termsOf (itemsOf ls)) ls⟩
def emptyG : GramG := ⟨[], [], []⟩
structure ResD where
  g : GramG
  err : Int
/-- The alternatives are too many, or too long. -/
def BoundL (ls : List LineD) : Prop := (∃ l ∈ ls, ∃ a ∈ l.alts, 64 < a.length) ∨ 4096 < (ls.map fun l => l.alts.length).sum ∨ 256 < ls.length
def UndefL (ls : List LineD) : Prop := ∃ i ∈ itemsOf ls, i.term = false ∧ i.text ∉ ls.map (·.name)
/-- What lines come to. -/
noncomputable def resolveG (ls : List LineD) : ResD :=
  if boolOf (BoundL ls) = true then ⟨emptyG, 19⟩
  else if boolOf ((ls.map (·.name)).Nodup) = false then ⟨emptyG, 15⟩
  else if boolOf (UndefL ls) = true then ⟨emptyG, 16⟩
  else if 256 < (gramOf ls).names.length + (gramOf ls).terms.length then ⟨emptyG, 19⟩
  else if boolOf ((gramOf ls).rules.Nodup) = false then ⟨emptyG, 15⟩
  else ⟨gramOf ls, 0⟩
/-- How many terminals have been seen; none: one came too early. -/
def seenG : List Int → Nat → Option Nat
  | [], n => some n
  | s :: l, n => if s < 0 ∧ (n : Int) < -1 - s then none else if s < 0 ∧ -1 - s = (n : Int) then seenG l (n + 1) else seenG l n
/-- The rules stand by rising left sides, the terminals in their order. -/
def OrderG (g : GramG) : Prop := (∀ i (h : i + 1 < g.rules.length), (g.rules[i]'(by omega)).left ≤ (g.rules[i + 1]'h).left) ∧ seenG (g.rules.flatMap (·.right)) 0 = some g.terms.length
end Go.Proofs.Ytmcekpgmebanaaa

/-! Plain mathematics of directories as sorted lists (layer 9). Nothing here names the program. -/
namespace Go.Proofs.Ytmcekpgmebanaaa

/-- Byte by byte; a string that is a prefix of another one precedes it. -/
def lessB : List UInt8 → List UInt8 → Bool
  | _, [] => false
  | [], _ :: _ => true
  | a :: x, b :: y => if a = b then lessB x y else decide (a.toNat < b.toNat)
theorem lessB_irr : ∀ a : List UInt8, lessB a a = false
  | [] => rfl
  | a :: x => by rw [lessB, if_pos rfl]; exact lessB_irr x
theorem lessB_trans : ∀ a b c : List UInt8, lessB a b = true → lessB b c = true → lessB a c = true
  | _, [], _, h, _ => by cases ‹List UInt8› <;> simp [lessB] at h
  | _, _ :: _, [], _, h => by simp [lessB] at h
  | [], _ :: _, _ :: _, _, _ => rfl
  | a :: x, b :: y, c :: z, h, k => by
    rw [lessB] at h k ⊢
    by_cases e : a = b
    · subst e
      rw [if_pos rfl] at h
      by_cases e2 : a = c
      · subst e2
        rw [if_pos rfl] at k ⊢
        exact lessB_trans x y z h k
      · rw [if_neg e2] at k ⊢
        exact k
    · rw [if_neg e] at h
      have h' := of_decide_eq_true h
      by_cases e2 : b = c
      · subst e2
        rw [if_neg e]
        exact h
      · rw [if_neg e2] at k
        have k' := of_decide_eq_true k
        have e3 : a ≠ c := by intro q; subst q; omega
        rw [if_neg e3]
        exact decide_eq_true (by omega)
theorem lessB_total : ∀ a b : List UInt8, a ≠ b → lessB a b = false → lessB b a = true
  | [], [], h, _ => (h rfl).elim
  | [], _ :: _, _, h => by simp [lessB] at h
  | _ :: _, [], _, _ => rfl
  | a :: x, b :: y, h, k => by
    rw [lessB] at k ⊢
    by_cases e : a = b
    · subst e
      rw [if_pos rfl] at k ⊢
      exact lessB_total x y (fun q => h (by rw [q])) k
    · rw [if_neg e] at k
      rw [if_neg (Ne.symm e)]
      have := of_decide_eq_false k
      have hne : a.toNat ≠ b.toNat := fun q => e (UInt8.toNat_inj.1 q)
      exact decide_eq_true (by omega)
theorem lessB_ne {a b : List UInt8} (h : lessB a b = true) : a ≠ b := by rintro rfl; rw [lessB_irr] at h; cases h
theorem lessB_asym {a b : List UInt8} (h : lessB a b = true) : lessB b a = false := by
  cases k : lessB b a with
  | false => rfl
  | true => have := lessB_trans _ _ _ h k; rw [lessB_irr] at this; cases this
/-- Where the first i bytes are the same, the others tell. -/
theorem lessB_drop : ∀ (i : Nat) (a b : List UInt8), a.take i = b.take i → i ≤ a.length → i ≤ b.length → lessB a b = lessB (a.drop i) (b.drop i)
  | 0, _, _, _, _, _ => rfl
  | _ + 1, [], _, _, h, _ => by simp at h
  | _ + 1, _ :: _, [], _, _, h => by simp at h
  | i + 1, a :: x, b :: y, h, h1, h2 => by
    simp only [List.take_succ_cons, List.cons.injEq] at h
    obtain ⟨rfl, h⟩ := h
    rw [lessB, if_pos rfl, List.drop_succ_cons, List.drop_succ_cons]
    exact lessB_drop i x y h (by simpa using h1) (by simpa using h2)
theorem lessB_at (i : Nat) (a b : List UInt8) (h : a.take i = b.take i) (h1 : i < a.length) (h2 : i < b.length) (hne : a[i]'h1 ≠ b[i]'h2) : lessB a b = decide ((a[i]'h1).toNat < (b[i]'h2).toNat) := by
  rw [lessB_drop i a b h (by omega) (by omega), List.drop_eq_getElem_cons h1, List.drop_eq_getElem_cons h2, lessB, if_neg hne]
theorem lessB_end (a b : List UInt8) (i : Nat) (hi : i = min a.length b.length) (h : a.take i = b.take i) : lessB a b = decide (a.length < b.length) := by
  rw [lessB_drop i a b h (by omega) (by omega)]
  rcases Nat.lt_or_ge a.length b.length with q | q
  · rw [decide_eq_true q, List.drop_eq_nil_of_le (by omega), List.drop_eq_getElem_cons (show i < b.length by omega)]
    rfl
  · rw [decide_eq_false (by omega), (show b.drop i = [] from List.drop_eq_nil_of_le (by omega))]
    cases a.drop i <;> rfl

/-- A name and its number. -/
abbrev Ent := List UInt8 × Int
def findL : List Ent → List UInt8 → Option Nat
  | [], _ => none
  | e :: r, m => if e.1 = m then some 0 else (findL r m).map (· + 1)
def lookL (l : List Ent) (m : List UInt8) : Option Int := (l.find? fun e => e.1 = m).map (·.2)
def withoutL (l : List Ent) (m : List UInt8) : List Ent := l.filter fun e => e.1 ≠ m
/-- The entry ahead of the first one that it precedes. -/
def insL (x : Ent) : List Ent → List Ent
  | [] => [x]
  | e :: r => if lessB x.1 e.1 then x :: e :: r else e :: insL x r
def withL (l : List Ent) (m : List UInt8) (n : Int) : List Ent := insL (m, n) (withoutL l m)
def sortedL (l : List Ent) : Prop := l.Pairwise fun a b => lessB a.1 b.1 = true

theorem lookL_nil (m : List UInt8) : lookL [] m = none := rfl
theorem lookL_cons (e : Ent) (r : List Ent) (m : List UInt8) : lookL (e :: r) m = if e.1 = m then some e.2 else lookL r m := by
  unfold lookL
  rw [List.find?_cons]
  by_cases h : e.1 = m <;> simp [h]
theorem findL_some : ∀ (l : List Ent) (m : List UInt8) (i : Nat), findL l m = some i → ∃ h : i < l.length, (l[i]'h).1 = m ∧ lookL l m = some (l[i]'h).2
  | [], _, _, h => by cases h
  | e :: r, m, i, h => by
    rw [findL] at h
    by_cases q : e.1 = m
    · rw [if_pos q] at h
      cases h
      exact ⟨by simp, q, by rw [lookL_cons, if_pos q]; rfl⟩
    · rw [if_neg q] at h
      cases hf : findL r m with
      | none => rw [hf] at h; cases h
      | some j =>
        rw [hf] at h
        cases h
        obtain ⟨h1, h2, h3⟩ := findL_some r m j hf
        exact ⟨by simp; omega, by simpa using h2, by rw [lookL_cons, if_neg q, h3]; simp⟩
theorem findL_none : ∀ (l : List Ent) (m : List UInt8), findL l m = none ↔ lookL l m = none
  | [], _ => by simp [findL, lookL]
  | e :: r, m => by
    rw [findL, lookL_cons]
    by_cases q : e.1 = m
    · simp [q]
    · rw [if_neg q, if_neg q]
      simp [findL_none r m]
theorem look_without (l : List Ent) (m x : List UInt8) : lookL (withoutL l m) x = if x = m then none else lookL l x := by
  induction l with
  | nil => simp [withoutL, lookL]
  | cons e r ih =>
    unfold withoutL at ih ⊢
    rw [List.filter_cons]
    by_cases q : e.1 = m
    · rw [if_neg (by simp [q]), ih, lookL_cons]
      by_cases z : x = m
      · rw [if_pos z, if_pos z]
      · rw [if_neg z, if_neg z, if_neg (by intro h; exact z (h.symm.trans q))]
    · rw [if_pos (by simp [q]), lookL_cons, lookL_cons, ih]
      by_cases z : e.1 = x
      · rw [if_pos z, if_neg (by intro h; exact q (z.trans h)), if_pos z]
      · rw [if_neg z, if_neg z]
theorem look_ins (y : Ent) : ∀ (l : List Ent) (x : List UInt8), lookL l y.1 = none → lookL (insL y l) x = if x = y.1 then some y.2 else lookL l x
  | [], x, _ => by
    rw [insL, lookL_cons]
    by_cases z : x = y.1
    · rw [if_pos z.symm, if_pos z]
    · rw [if_neg (fun h => z h.symm), if_neg z]
  | e :: r, x, h => by
    rw [lookL_cons] at h
    by_cases q : e.1 = y.1
    · rw [if_pos q] at h; cases h
    · rw [if_neg q] at h
      rw [insL]
      by_cases c : lessB y.1 e.1 = true
      · rw [if_pos c, lookL_cons]
        by_cases z : x = y.1
        · rw [if_pos z.symm, if_pos z]
        · rw [if_neg (fun h => z h.symm), if_neg z]
      · rw [if_neg c, lookL_cons, lookL_cons, look_ins y r x h]
        by_cases z : e.1 = x
        · rw [if_pos z, if_neg (by intro h; exact q (z.trans h)), if_pos z]
        · rw [if_neg z, if_neg z]
theorem look_with (l : List Ent) (m : List UInt8) (n : Int) (x : List UInt8) : lookL (withL l m n) x = if x = m then some n else lookL l x := by
  rw [withL, look_ins _ _ _ (by rw [look_without, if_pos rfl]), look_without]
  by_cases z : x = m
  · rw [if_pos z, if_pos z]
  · rw [if_neg z, if_neg z, if_neg z]
theorem sorted_without {l : List Ent} (h : sortedL l) (m : List UInt8) : sortedL (withoutL l m) := List.Pairwise.filter _ h
theorem mem_ins (y : Ent) : ∀ (l : List Ent) (e : Ent), e ∈ insL y l → e = y ∨ e ∈ l
  | [], e, h => by simp [insL] at h; exact .inl h
  | a :: r, e, h => by
    rw [insL] at h
    split at h
    · rcases List.mem_cons.1 h with h | h
      · exact .inl h
      · exact .inr h
    · rcases List.mem_cons.1 h with h | h
      · exact .inr (by simp [h])
      · rcases mem_ins y r e h with h | h
        · exact .inl h
        · exact .inr (by simp [h])
theorem sorted_ins (y : Ent) : ∀ l : List Ent, sortedL l → (∀ e ∈ l, e.1 ≠ y.1) → sortedL (insL y l)
  | [], _, _ => by simp [insL, sortedL]
  | e :: r, h, hn => by
    obtain ⟨h1, h2⟩ := List.pairwise_cons.1 h
    rw [insL]
    by_cases c : lessB y.1 e.1 = true
    · rw [if_pos c]
      refine List.pairwise_cons.2 ⟨fun a ha => ?_, h⟩
      rcases List.mem_cons.1 ha with rfl | ha
      · exact c
      · exact lessB_trans _ _ _ c (h1 a ha)
    · rw [if_neg c]
      refine List.pairwise_cons.2 ⟨fun a ha => ?_, sorted_ins y r h2 (fun a ha => hn a (by simp [ha]))⟩
      rcases mem_ins y r a ha with rfl | ha
      · exact lessB_total _ _ (Ne.symm (hn e (by simp))) (by simpa using c)
      · exact h1 a ha
theorem sorted_with {l : List Ent} (h : sortedL l) (m : List UInt8) (n : Int) : sortedL (withL l m n) :=
  sorted_ins _ _ (sorted_without h m) (fun e he => by simpa [withoutL] using (List.mem_filter.1 he).2)
theorem look_mem {l : List Ent} (h : sortedL l) : ∀ e, e ∈ l → lookL l e.1 = some e.2 := by
  induction l with
  | nil => intro e he; cases he
  | cons a r ih =>
    intro e he
    obtain ⟨h1, h2⟩ := List.pairwise_cons.1 h
    rw [lookL_cons]
    rcases List.mem_cons.1 he with rfl | he
    · rw [if_pos rfl]
    · rw [if_neg (lessB_ne (h1 e he)), ih h2 e he]
theorem mem_look {l : List Ent} {m : List UInt8} {n : Int} (h : lookL l m = some n) : (m, n) ∈ l := by
  unfold lookL at h
  obtain ⟨e, he, h2⟩ := Option.map_eq_some_iff.1 h
  have h3 := List.find?_some he
  have h4 := List.mem_of_find?_eq_some he
  simp only [decide_eq_true_eq] at h3
  rw [← h3, ← h2]
  exact h4
/-- The names of a sorted list are the only ascending list of what is there. -/
theorem names_unique : ∀ (ns : List (List UInt8)) (l : List Ent), ns.Pairwise (fun a b => lessB a b = true) → sortedL l → (∀ m, m ∈ ns ↔ lookL l m ≠ none) → ns = l.map (·.1)
  | [], [], _, _, _ => rfl
  | [], e :: r, _, _, h => by
    have := (h e.1).2 (by rw [lookL_cons, if_pos rfl]; simp)
    cases this
  | n :: ns, [], _, _, h => by
    have := (h n).1 (by simp)
    exact (this rfl).elim
  | n :: ns, e :: r, hp, hs, h => by
    obtain ⟨p1, p2⟩ := List.pairwise_cons.1 hp
    obtain ⟨s1, s2⟩ := List.pairwise_cons.1 hs
    have hmem : ∀ m, lookL (e :: r) m ≠ none → m = e.1 ∨ lessB e.1 m = true := by
      intro m hm
      cases hq : lookL (e :: r) m with
      | none => exact (hm hq).elim
      | some v =>
        rcases List.mem_cons.1 (mem_look hq) with q | q
        · left; rw [← q]
        · right; exact s1 _ q
    have he : e.1 = n := by
      rcases List.mem_cons.1 ((h e.1).2 (by rw [lookL_cons, if_pos rfl]; simp)) with q | q
      · exact q
      · rcases hmem n ((h n).1 (by simp)) with q2 | q2
        · exact q2.symm
        · have := lessB_asym (p1 _ q); rw [q2] at this; cases this
    have hrest : ∀ m, m ∈ ns ↔ lookL r m ≠ none := by
      intro m
      by_cases q : e.1 = m
      · constructor
        · intro hm
          have := lessB_ne (p1 m hm)
          exact (this (he.symm.trans q)).elim
        · intro hm
          cases hq : lookL r m with
          | none => exact (hm hq).elim
          | some v => exact ((lessB_ne (s1 _ (mem_look hq))) q).elim
      · have h2 := h m
        rw [lookL_cons, if_neg q, List.mem_cons] at h2
        rw [← h2]
        constructor
        · exact .inr
        · rintro (h3 | h3)
          · exact (q (he.trans h3.symm)).elim
          · exact h3
    rw [List.map_cons, names_unique ns r p2 s2 hrest, he]
theorem sorted_eq : ∀ (l l' : List Ent), sortedL l → sortedL l' → (∀ m, lookL l m = lookL l' m) → l = l' := by
  intro l l' h h' hl
  have hn : l.map (·.1) = l'.map (·.1) := names_unique _ l' (List.pairwise_map.2 h) h' (fun m => by
    rw [← hl m]
    constructor
    · intro hm
      obtain ⟨e, he, rfl⟩ := List.mem_map.1 hm
      rw [look_mem h e he]; simp
    · intro hm
      cases hq : lookL l m with
      | none => exact (hm hq).elim
      | some v => exact List.mem_map.2 ⟨(m, v), mem_look hq, rfl⟩)
  have hlen : l.length = l'.length := by simpa using congrArg List.length hn
  apply List.ext_getElem hlen
  intro i h1 h2
  have e1 : (l[i]'h1).1 = (l'[i]'h2).1 := by
    have := congrArg (fun x => x[i]?) hn
    simpa [h1, h2] using this
  have a1 := look_mem h _ (List.getElem_mem h1)
  have a2 := look_mem h' _ (List.getElem_mem h2)
  rw [hl, e1, a2] at a1
  exact Prod.ext e1 (Option.some.inj a1).symm

/-- What was done: put (0), dropped (1), moved (2). -/
structure OpD where
  kind : Int
  a : List UInt8
  b : List UInt8
  n : Int
def applyL (l : List Ent) (o : OpD) : List Ent :=
  if o.kind = 0 then withL l o.a o.n else if o.kind = 1 then withoutL l o.a else
    match lookL l o.a with
    | none => l
    | some v => withL (withoutL l o.a) o.b v
theorem sorted_apply {l : List Ent} (h : sortedL l) (o : OpD) : sortedL (applyL l o) := by
  unfold applyL
  split
  · exact sorted_with h _ _
  · split
    · exact sorted_without h _
    · split
      · exact h
      · exact sorted_with (sorted_without h _) _ _
/-- What a name's number is behind an operation. -/
theorem look_apply (l : List Ent) (o : OpD) (x : List UInt8) : lookL (applyL l o) x =
    if o.kind = 0 then (if x = o.a then some o.n else lookL l x) else if o.kind = 1 then (if x = o.a then none else lookL l x) else
      match lookL l o.a with
      | none => lookL l x
      | some v => if x = o.b then some v else if x = o.a then none else lookL l x := by
  unfold applyL
  split
  · exact look_with _ _ _ _
  · split
    · exact look_without _ _ _
    · split
      · rfl
      · rw [look_with, look_without]
def mayL (l : List Ent) (o : OpD) : Bool := (lookL l o.a).isSome == decide (o.kind ≠ 0)
/-- What a crash leaves. -/
def crashL : List Ent → List OpD → List Bool → List Ent
  | l, o :: r, true :: k => crashL (applyL l o) r k
  | l, _, _ => l
theorem sorted_crash : ∀ (l : List Ent) (r : List OpD) (k : List Bool), sortedL l → sortedL (crashL l r k)
  | l, [], _, h => by simpa [crashL] using h
  | l, _ :: _, [], h => by simpa [crashL] using h
  | l, _ :: _, false :: _, h => by simpa [crashL] using h
  | l, o :: r, true :: k, h => by rw [crashL]; exact sorted_crash _ r k (sorted_apply h o)
/-- All of what is pending, kept. -/
theorem crash_all : ∀ (l : List Ent) (r : List OpD) (m : Nat), m = r.length → crashL l r (List.replicate m true) = r.foldl applyL l
  | l, [], _, h => by subst h; rfl
  | l, o :: r, _, h => by subst h; rw [List.length_cons, List.replicate_succ, crashL, crash_all _ r _ rfl]; rfl
theorem crash_none (l : List Ent) (r : List OpD) : crashL l r [] = l := by cases r <;> rfl
theorem dropsame (o : OpD) (h : o.kind ≠ 0) (h1 : o.kind ≠ 1) (hab : o.a = o.b) (l : List Ent) (hl : sortedL l) : applyL l o = l := by
  apply sorted_eq _ _ (sorted_apply hl o) hl
  intro m
  rw [look_apply, if_neg h, if_neg h1]
  split
  · rfl
  · next v hv =>
    rw [← hab]
    by_cases q : m = o.a
    · rw [if_pos q, q, hv]
    · rw [if_neg q, if_neg q]
end Go.Proofs.Ytmcekpgmebanaaa

/-! Lookahead words (layer 18): plain mathematics. Nothing here names the program. -/
namespace Go.Proofs.Ytmcekpgmebanaaa

def cutW (w : List UInt8) (k : Int) : List UInt8 := w.take k.toNat
def belowW (w : List UInt8) (n : Int) : Bool := w.all fun b => decide ((b.toNat : Int) < n)
def validW (w : List UInt8) (t k : Int) : Bool := decide ((w.length : Int) ≤ k) && belowW w t
def extW (t : Nat) (w : List UInt8) : List (List UInt8) := (List.range t).map fun i => w ++ [UInt8.ofNat i]
/-- The words when so many of them are extended. -/
def wordsW (t : Nat) : Nat → List (List UInt8)
  | 0 => [[]]
  | j + 1 => wordsW t j ++ extW t ((wordsW t j).getD j [])
def wordW (t j i : Nat) : List UInt8 := (wordsW t j).getD i []
def goesW (t k j : Nat) : Prop := j < (wordsW t j).length ∧ (wordW t j j).length < k
def AllIs (t k : Nat) (r : Option (List (List UInt8))) : Prop :=
  ∃ j, (∀ i, i < j → goesW t k i ∧ (wordsW t i).length + t ≤ 4096) ∧ ((¬ goesW t k j ∧ r = some (wordsW t j)) ∨ (goesW t k j ∧ 4096 < (wordsW t j).length + t ∧ r = none))
theorem AllIs.one {t k : Nat} {r r' : Option (List (List UInt8))} (h : AllIs t k r) (h' : AllIs t k r') : r = r' := by
  obtain ⟨j, h1, h2⟩ := h
  obtain ⟨j', h1', h2'⟩ := h'
  have key : ∀ (j j' : Nat) (r r' : Option (List (List UInt8))), (∀ i, i < j' → goesW t k i ∧ (wordsW t i).length + t ≤ 4096) → ((¬ goesW t k j ∧ r = some (wordsW t j)) ∨ (goesW t k j ∧ 4096 < (wordsW t j).length + t ∧ r = none)) → j' ≤ j := by
    intro j j' r r' a b
    apply Nat.le_of_not_lt
    intro hlt
    obtain ⟨c, d⟩ := a j hlt
    rcases b with ⟨b, -⟩ | ⟨-, b, -⟩
    · exact b c
    · omega
  have e : j = j' := Nat.le_antisymm (key j' j r' r h1 h2') (key j j' r r' h1' h2)
  subst e
  rcases h2 with ⟨a, rfl⟩ | ⟨a, b, rfl⟩ <;> rcases h2' with ⟨a', rfl⟩ | ⟨a', b', rfl⟩
  · rfl
  · exact (a a').elim
  · exact (a' a).elim
  · rfl
def AllV (t k : Int) (l : List (List UInt8)) : Prop :=
  ((k < 0 ∨ t < 0 ∨ 256 < t) ∧ l = []) ∨ (0 ≤ k ∧ 0 ≤ t ∧ t ≤ 256 ∧ ∃ r, AllIs t.toNat k.toNat r ∧ l = r.getD [])
theorem AllV.one {t k : Int} {l l' : List (List UInt8)} (h : AllV t k l) (h' : AllV t k l') : l = l' := by
  rcases h with ⟨a, rfl⟩ | ⟨a, b, c, r, d, rfl⟩ <;> rcases h' with ⟨a', rfl⟩ | ⟨a', b', c', r', d', rfl⟩
  · rfl
  · omega
  · omega
  · rw [d.one d']
theorem extW_len (t : Nat) (w : List UInt8) : (extW t w).length = t := by simp [extW]
theorem wordsW_len (t : Nat) : ∀ j, (wordsW t j).length = 1 + j * t
  | 0 => by simp [wordsW]
  | j + 1 => by rw [wordsW, List.length_append, wordsW_len t j, extW_len, Nat.succ_mul]; omega
theorem wordsW_pre (t : Nat) : ∀ {i j : Nat}, i ≤ j → ∃ s, wordsW t j = wordsW t i ++ s := by
  intro i j h
  induction j with
  | zero => obtain rfl : i = 0 := by omega
            exact ⟨[], by simp⟩
  | succ j ih =>
    by_cases e : i = j + 1
    · subst e; exact ⟨[], by simp⟩
    · obtain ⟨s, hs⟩ := ih (by omega)
      exact ⟨s ++ extW t ((wordsW t j).getD j []), by rw [wordsW, ← List.append_assoc, ← hs]⟩
theorem wordW_pre (t : Nat) {i j q : Nat} (h : i ≤ j) (hq : q < (wordsW t i).length) : wordW t j q = wordW t i q := by
  obtain ⟨s, hs⟩ := wordsW_pre t h
  unfold wordW
  rw [hs, List.getD_eq_getElem?_getD, List.getD_eq_getElem?_getD, List.getElem?_append_left hq]
theorem wordsW_mem (t : Nat) : ∀ (j : Nat) (w : List UInt8), w ∈ wordsW t (j + 1) → w ∈ wordsW t j ∨ ∃ i, i < t ∧ w = wordW t j j ++ [UInt8.ofNat i] := by
  intro j w h
  rw [wordsW] at h
  rcases List.mem_append.1 h with h | h
  · exact .inl h
  · obtain ⟨i, hi, rfl⟩ := List.mem_map.1 h
    exact .inr ⟨i, List.mem_range.1 hi, rfl⟩
theorem wordW_all (t j q : Nat) (P : List UInt8 → Prop) (h0 : P []) (h : ∀ w ∈ wordsW t j, P w) : P (wordW t j q) := by
  unfold wordW
  rw [List.getD_eq_getElem?_getD]
  rcases Nat.lt_or_ge q (wordsW t j).length with hq | hq
  · rw [List.getElem?_eq_getElem hq]; exact h _ (List.getElem_mem hq)
  · rw [List.getElem?_eq_none hq]; exact h0
theorem wordsW_short (t : Nat) : ∀ (j : Nat), ∀ w ∈ wordsW t j, w.length ≤ j
  | 0, w, h => by simp [wordsW] at h; simp [h]
  | j + 1, w, h => by
    rcases wordsW_mem t j w h with h | ⟨i, _, rfl⟩
    · have := wordsW_short t j w h; omega
    · have := wordW_all t j j (fun w => w.length ≤ j) (by simp) (wordsW_short t j)
      simp; omega
theorem wordsW_below (t : Nat) (ht : t ≤ 256) : ∀ (j : Nat), ∀ w ∈ wordsW t j, ∀ b ∈ w, b.toNat < t
  | 0, w, h => by simp [wordsW] at h; simp [h]
  | j + 1, w, h => by
    rcases wordsW_mem t j w h with h | ⟨i, hi, rfl⟩
    · exact wordsW_below t ht j w h
    · intro b hb
      rcases List.mem_append.1 hb with hb | hb
      · exact wordW_all t j j (fun w => ∀ b ∈ w, b.toNat < t) (by simp) (wordsW_below t ht j) b hb
      · obtain rfl := List.mem_singleton.1 hb
        rw [UInt8.toNat_ofNat']; omega
theorem wordsW_most (t k : Nat) : ∀ (j : Nat), (∀ i, i < j → goesW t k i) → ∀ w ∈ wordsW t j, w.length ≤ k
  | 0, _, w, h => by simp [wordsW] at h; simp [h]
  | j + 1, hg, w, h => by
    rcases wordsW_mem t j w h with h | ⟨i, _, rfl⟩
    · exact wordsW_most t k j (fun i hi => hg i (by omega)) w h
    · have := (hg j (by omega)).2
      simp; omega
theorem all_valid {t k : Int} {l : List (List UInt8)} (h : AllV t k l) : ∀ w ∈ l, validW w t k = true := by
  rcases h with ⟨-, rfl⟩ | ⟨h0, h1, h2, r, ⟨j, hj, hr⟩, rfl⟩
  · simp
  · rcases hr with ⟨-, rfl⟩ | ⟨-, -, rfl⟩
    · intro w hw
      have a := wordsW_most t.toNat k.toNat j (fun i hi => (hj i hi).1) w hw
      have b := wordsW_below t.toNat (by omega) j w hw
      unfold validW belowW
      rw [Bool.and_eq_true, decide_eq_true_eq, List.all_eq_true]
      exact ⟨by omega, fun x hx => decide_eq_true (by have := b x hx; omega)⟩
    · simp
/-- A level: from one on, as many as there were, all words are of one length; then those behind them are one longer. -/
theorem wordsW_level (t f m : Nat) (h : ∀ i, f ≤ i → i < (wordsW t f).length → (wordW t f i).length = m) :
    ∀ j, f ≤ j → j ≤ (wordsW t f).length → ∀ i, (wordsW t f).length ≤ i → i < (wordsW t j).length → (wordW t j i).length = m + 1 := by
  intro j hfj
  induction j with
  | zero =>
    intro _ i h1 h2
    obtain rfl : f = 0 := by omega
    omega
  | succ j ih =>
    intro hj i h1 h2
    by_cases hf : f = j + 1
    · subst hf; omega
    · by_cases hi : i < (wordsW t j).length
      · rw [wordW_pre t (Nat.le_succ j) hi]
        exact ih (by omega) (by omega) i h1 hi
      · have hw : (wordW t j j).length = m := by
          rw [wordW_pre t (show f ≤ j by omega) (by omega)]
          exact h j (by omega) (by omega)
        unfold wordW
        rw [List.getD_eq_getElem?_getD, List.getElem?_eq_getElem h2, Option.getD_some]
        simp only [wordsW]
        rw [List.getElem_append_right (by omega)]
        simp only [extW, List.getElem_map, List.length_append]
        rw [show ((wordsW t j).getD j []).length = m from hw]
        rfl
/-- The level that stands at the end of the words: none of its words goes on. -/
theorem level_end (t k f : Nat) (h : ∀ i, f ≤ i → i < (wordsW t f).length → (wordW t f i).length = k) : ¬ goesW t k f := by
  rintro ⟨h1, h2⟩
  have := h f (Nat.le_refl _) h1
  omega
theorem extW_next (t n : Nat) (w : List UInt8) (h : n < t) : (extW t w).take (n + 1) = (extW t w).take n ++ [w ++ [UInt8.ofNat n]] := by
  rw [List.take_succ_eq_append_getElem (by rw [extW_len]; exact h)]
  simp [extW]
theorem extW_all (t : Nat) (w : List UInt8) : (extW t w).take t = extW t w := List.take_of_length_le (by rw [extW_len]; exact Nat.le_refl t)
end Go.Proofs.Ytmcekpgmebanaaa

/-! Sets of words (layer 19): plain mathematics. Nothing here names the program. -/
namespace Go.Proofs.Ytmcekpgmebanaaa

abbrev Words := List (List UInt8)
/-- A set: words in strictly ascending order. -/
def setW (l : Words) : Prop := l.Pairwise fun a b => lessB a b = true
/-- The place of a word among the first so many of a list, looked for from the end. -/
def placeW (l : Words) (w : List UInt8) : Nat → Nat
  | 0 => 0
  | k + 1 => if lessB w (l.getD k []) = true then placeW l w k else k + 1
def putW (l : Words) (w : List UInt8) : Words := if w ∈ l then l else l.take (placeW l w l.length) ++ [w] ++ l.drop (placeW l w l.length)
def ofW (l : Words) : Words := l.foldl putW []
def catsW (k : Int) (a b : Words) : Words := a.flatMap fun x => b.map fun y => cutW (x ++ y) k
def catW (k : Int) (a b : Words) : Words := ofW (catsW k a b)

theorem placeW_spec (l : Words) (w : List UInt8) : ∀ k, placeW l w k ≤ k ∧ (∀ j, placeW l w k ≤ j → j < k → lessB w (l.getD j []) = true) ∧ (placeW l w k = 0 ∨ lessB w (l.getD (placeW l w k - 1) []) = false)
  | 0 => ⟨Nat.le_refl _, fun j _ h => by omega, .inl rfl⟩
  | k + 1 => by
    obtain ⟨h1, h2, h3⟩ := placeW_spec l w k
    unfold placeW
    by_cases c : lessB w (l.getD k []) = true
    · rw [if_pos c]
      refine ⟨by omega, fun j hj hk => ?_, h3⟩
      by_cases e : j = k
      · subst e; exact c
      · exact h2 j hj (by omega)
    · rw [if_neg c]
      exact ⟨Nat.le_refl _, fun j hj hk => by omega, .inr (by simpa using c)⟩
theorem mem_putW {l : Words} {w x : List UInt8} : x ∈ putW l w ↔ x = w ∨ x ∈ l := by
  unfold putW
  split
  · rename_i h
    constructor
    · exact .inr
    · rintro (rfl | h') <;> assumption
  · rw [List.mem_append, List.mem_append, List.mem_singleton]
    have e := List.take_append_drop (placeW l w l.length) l
    constructor
    · rintro ((h | h) | h)
      · exact .inr (List.mem_of_mem_take h)
      · exact .inl h
      · exact .inr (List.mem_of_mem_drop h)
    · rintro (h | h)
      · exact .inl (.inr h)
      · rw [← e, List.mem_append] at h
        rcases h with h | h
        · exact .inl (.inl h)
        · exact .inr h
theorem setW.get {l : Words} (h : setW l) {i j : Nat} (hij : i < j) (hj : j < l.length) : lessB (l.getD i []) (l.getD j []) = true := by
  rw [List.getD_eq_getElem?_getD, List.getD_eq_getElem?_getD, List.getElem?_eq_getElem hj, List.getElem?_eq_getElem (Nat.lt_trans hij hj)]
  exact List.pairwise_iff_getElem.1 h i j _ hj hij
theorem set_putW {l : Words} {w : List UInt8} (h : setW l) : setW (putW l w) := by
  unfold putW
  split
  · exact h
  · rename_i hw
    obtain ⟨h1, h2, h3⟩ := placeW_spec l w l.length
    generalize placeW l w l.length = p at *
    have hlow : ∀ i, i < p → lessB (l.getD i []) w = true := by
      intro i hi
      rcases h3 with h3 | h3
      · omega
      · have hp : p - 1 < l.length := by omega
        have hm : l.getD (p - 1) [] ∈ l := by
          rw [List.getD_eq_getElem?_getD, List.getElem?_eq_getElem hp]; exact List.getElem_mem hp
        have hl := lessB_total w (l.getD (p - 1) []) (fun e => hw (e ▸ hm)) h3
        by_cases e : i = p - 1
        · subst e; exact hl
        · exact lessB_trans _ _ _ (h.get (show i < p - 1 by omega) hp) hl
    unfold setW
    rw [List.append_assoc, List.pairwise_append]
    refine ⟨List.Pairwise.sublist (List.take_sublist _ _) h, ?_, ?_⟩
    · rw [List.singleton_append, List.pairwise_cons]
      refine ⟨fun x hx => ?_, List.Pairwise.sublist (List.drop_sublist _ _) h⟩
      obtain ⟨i, hi, rfl⟩ := List.getElem_of_mem hx
      rw [List.length_drop] at hi
      have := h2 (p + i) (by omega) (by omega)
      rw [List.getD_eq_getElem?_getD, List.getElem?_eq_getElem (by omega)] at this
      rw [List.getElem_drop]
      exact this
    · intro a ha b hb
      obtain ⟨i, hi, rfl⟩ := List.getElem_of_mem ha
      rw [List.length_take] at hi
      have hia : lessB ((l.take p)[i]'(by rw [List.length_take]; exact hi)) w = true := by
        have := hlow i (by omega)
        rw [List.getD_eq_getElem?_getD, List.getElem?_eq_getElem (by omega)] at this
        rw [List.getElem_take]
        exact this
      rcases List.mem_append.1 hb with hb | hb
      · rw [List.mem_singleton.1 hb]; exact hia
      · obtain ⟨j, hj, rfl⟩ := List.getElem_of_mem hb
        rw [List.length_drop] at hj
        have := h.get (show i < p + j by omega) (by omega)
        rw [List.getD_eq_getElem?_getD, List.getD_eq_getElem?_getD, List.getElem?_eq_getElem (by omega), List.getElem?_eq_getElem (by omega)] at this
        rw [List.getElem_take, List.getElem_drop]
        exact this
theorem fold_put (l : Words) : ∀ o : Words, setW o → setW (l.foldl putW o) ∧ ∀ x, x ∈ l.foldl putW o ↔ x ∈ o ∨ x ∈ l := by
  induction l with
  | nil => exact fun o h => ⟨h, fun x => by simp⟩
  | cons y l ih =>
    intro o h
    obtain ⟨h1, h2⟩ := ih (putW o y) (set_putW h)
    refine ⟨h1, fun x => ?_⟩
    rw [List.foldl_cons, h2 x, mem_putW, List.mem_cons]
    constructor
    · rintro ((a | a) | a)
      · exact .inr (.inl a)
      · exact .inl a
      · exact .inr (.inr a)
    · rintro (a | a | a)
      · exact .inl (.inr a)
      · exact .inl (.inl a)
      · exact .inr a
theorem set_nil : setW [] := List.Pairwise.nil
theorem set_ofW (l : Words) : setW (ofW l) := (fold_put l [] set_nil).1
theorem mem_ofW {l : Words} {x : List UInt8} : x ∈ ofW l ↔ x ∈ l := by
  unfold ofW
  rw [(fold_put l [] set_nil).2 x]
  simp
theorem setW.tail {x : List UInt8} {l : Words} (h : setW (x :: l)) : setW l := (List.pairwise_cons.1 h).2
theorem setW.head {x : List UInt8} {l : Words} (h : setW (x :: l)) : ∀ y ∈ l, lessB x y = true := (List.pairwise_cons.1 h).1
theorem setW.one : ∀ {a b : Words}, setW a → setW b → (∀ x, x ∈ a ↔ x ∈ b) → a = b
  | [], [], _, _, _ => rfl
  | [], y :: b, _, _, h => by have := (h y).2 (by simp); simp at this
  | x :: a, [], _, _, h => by have := (h x).1 (by simp); simp at this
  | x :: a, y :: b, ha, hb, h => by
    have e : x = y := by
      apply Classical.byContradiction
      intro hne
      have h1 := (h x).1 (by simp)
      have h2 := (h y).2 (by simp)
      rcases List.mem_cons.1 h1 with h1 | h1
      · exact hne h1
      · rcases List.mem_cons.1 h2 with h2 | h2
        · exact hne h2.symm
        · have a1 := hb.head x h1
          have a2 := ha.head y h2
          rw [lessB_asym a1] at a2
          cases a2
    subst e
    congr 1
    refine setW.one ha.tail hb.tail fun z => ?_
    have hz := h z
    rw [List.mem_cons, List.mem_cons] at hz
    constructor
    · intro hm
      rcases hz.1 (.inr hm) with e | e
      · subst e; have := ha.head z hm; rw [lessB_irr] at this; cases this
      · exact e
    · intro hm
      rcases hz.2 (.inr hm) with e | e
      · subst e; have := hb.head z hm; rw [lessB_irr] at this; cases this
      · exact e
theorem ofW_set {l : Words} (h : setW l) : ofW l = l := (set_ofW l).one h (fun _ => mem_ofW)
theorem ofW_same {a b : Words} (h : ∀ x, x ∈ a ↔ x ∈ b) : ofW a = ofW b := (set_ofW a).one (set_ofW b) (fun x => by rw [mem_ofW, mem_ofW, h x])
theorem putW_len (l : Words) (w : List UInt8) : (putW l w).length ≤ l.length + 1 := by
  unfold putW
  split
  · omega
  · simp; omega
theorem fold_len (l : Words) : ∀ o : Words, (l.foldl putW o).length ≤ o.length + l.length := by
  induction l with
  | nil => intro o; simp
  | cons y l ih =>
    intro o
    have := ih (putW o y)
    have := putW_len o y
    rw [List.foldl_cons, List.length_cons]
    omega
theorem ofW_len (l : Words) : (ofW l).length ≤ l.length := by have := fold_len l []; simpa [ofW] using this
theorem ofW_next {l : Words} {i : Nat} (h : i < l.length) : ofW (l.take (i + 1)) = putW (ofW (l.take i)) (l[i]'h) := by
  unfold ofW
  rw [List.take_succ_eq_append_getElem h, List.foldl_append]
  rfl
theorem mem_catW {k : Int} {a b : Words} {w : List UInt8} : w ∈ catW k a b ↔ ∃ x ∈ a, ∃ y ∈ b, w = cutW (x ++ y) k := by
  unfold catW catsW
  rw [mem_ofW, List.mem_flatMap]
  constructor
  · rintro ⟨x, hx, h⟩
    obtain ⟨y, hy, rfl⟩ := List.mem_map.1 h
    exact ⟨x, hx, y, hy, rfl⟩
  · rintro ⟨x, hx, y, hy, rfl⟩
    exact ⟨x, hx, List.mem_map.2 ⟨y, hy, rfl⟩⟩
theorem set_catW (k : Int) (a b : Words) : setW (catW k a b) := set_ofW _
theorem catsW_len (k : Int) : ∀ (a b : Words), (catsW k a b).length = a.length * b.length
  | [], b => by simp [catsW]
  | x :: a, b => by
    have := catsW_len k a b
    unfold catsW at this ⊢
    rw [List.flatMap_cons, List.length_append, this, List.length_map, List.length_cons, Nat.succ_mul]
    omega
theorem catW_len (k : Int) (a b : Words) : (catW k a b).length ≤ a.length * b.length := by
  have := ofW_len (catsW k a b)
  rw [catsW_len] at this
  exact this
theorem setW.nodup {l : Words} (h : setW l) : l.Nodup := List.Pairwise.imp (fun h => lessB_ne h) h
theorem nodup_le : ∀ (l m : Words), l.Nodup → (∀ x ∈ l, x ∈ m) → l.length ≤ m.length
  | [], m, _, _ => by simp
  | x :: l, m, hn, hs => by
    obtain ⟨hx, hn'⟩ := List.nodup_cons.1 hn
    have hm := hs x (by simp)
    have h1 := nodup_le l (m.erase x) hn' (fun y hy => (List.mem_erase_of_ne (show y ≠ x from fun e => hx (by rw [← e]; exact hy))).2 (hs y (by simp [hy])))
    rw [List.length_erase_of_mem hm] at h1
    have := List.length_pos_of_mem hm
    rw [List.length_cons]
    omega
/-- A list without repetitions, put in order, stays as long. -/
theorem ofW_nodup_len {l : Words} (h : l.Nodup) : (ofW l).length = l.length := by
  refine Nat.le_antisymm (ofW_len l) ?_
  exact nodup_le l (ofW l) h (fun x hx => mem_ofW.2 hx)
def isSetB : Words → Bool
  | x :: y :: l => lessB x y && isSetB (y :: l)
  | _ => true
theorem isSetB_iff : ∀ l : Words, isSetB l = true ↔ setW l
  | [] => by simp [isSetB, setW]
  | [x] => by simp [isSetB, setW]
  | x :: y :: l => by
    rw [isSetB, Bool.and_eq_true, isSetB_iff (y :: l), show setW (x :: y :: l) ↔ (∀ z ∈ y :: l, lessB x z = true) ∧ setW (y :: l) from List.pairwise_cons]
    constructor
    · rintro ⟨h1, h2⟩
      refine ⟨fun z hz => ?_, h2⟩
      rcases List.mem_cons.1 hz with rfl | hz
      · exact h1
      · exact lessB_trans _ _ _ h1 (setW.head h2 z hz)
    · rintro ⟨h1, h2⟩
      exact ⟨h1 y (by simp), h2⟩
theorem isSetB_get {l : Words} (h : isSetB l = true) (i : Nat) (hi : i + 1 < l.length) : lessB (l[i]'(by omega)) (l[i + 1]'hi) = true :=
  List.pairwise_iff_getElem.1 ((isSetB_iff l).1 h) i (i + 1) _ hi (Nat.lt_succ_self i)
theorem isSetB_of : ∀ {l : Words}, (∀ i (hi : i + 1 < l.length), lessB (l[i]'(by omega)) (l[i + 1]'hi) = true) → isSetB l = true
  | [], _ => rfl
  | [x], _ => rfl
  | x :: y :: l, h => by
    rw [isSetB, Bool.and_eq_true]
    exact ⟨h 0 (by simp), isSetB_of (fun i hi => h (i + 1) (by simpa using hi))⟩
end Go.Proofs.Ytmcekpgmebanaaa

/-! Plain mathematics of sorting by insertion from behind, as a document may write it; orders on texts, symbols and rules (layer 16). Nothing here names the program. -/
namespace Go.Proofs.Ytmcekpgmebanaaa

/-- A strict order in which different things of D can be told apart. -/
structure Ord {α : Type} (D : α → Prop) (lt : α → α → Bool) : Prop where
  irr : ∀ a, lt a a = false
  trans : ∀ a b c, lt a b = true → lt b c = true → lt a c = true
  tot : ∀ a b, D a → D b → a ≠ b → lt a b = false → lt b a = true
/-- Where x goes among the first n, not before the first 'stay'. -/
def insPos {α : Type} (lt : α → α → Bool) (stay : Nat) (x : α) (out : List α) : Nat → Nat
  | 0 => 0
  | n + 1 => if stay < n + 1 ∧ (out[n]?.map (lt x)) = some true then insPos lt stay x out n else n + 1
def insB {α : Type} (lt : α → α → Bool) (stay : Nat) (out : List α) (x : α) : List α := out.take (insPos lt stay x out out.length) ++ x :: out.drop (insPos lt stay x out out.length)
def sortB {α : Type} (lt : α → α → Bool) (stay : Nat) (l : List α) : List α := l.foldl (insB lt stay) []
theorem insPos_le {α : Type} (lt : α → α → Bool) (stay : Nat) (x : α) (out : List α) : ∀ n, insPos lt stay x out n ≤ n
  | 0 => Nat.le_refl _
  | n + 1 => by
    unfold insPos
    split
    · have := insPos_le lt stay x out n; omega
    · exact Nat.le_refl _
theorem insB_perm {α : Type} (lt : α → α → Bool) (stay : Nat) (out : List α) (x : α) : List.Perm (insB lt stay out x) (x :: out) := by
  unfold insB
  have h := (List.perm_middle (a := x) (l₁ := out.take (insPos lt stay x out out.length)) (l₂ := out.drop (insPos lt stay x out out.length)))
  rw [List.take_append_drop] at h
  exact h
theorem sortB_fold {α : Type} (lt : α → α → Bool) (stay : Nat) : ∀ (l out : List α), List.Perm (l.foldl (insB lt stay) out) (out ++ l)
  | [], out => by rw [List.append_nil]; exact List.Perm.refl _
  | x :: l, out => by
    rw [List.foldl_cons]
    refine (sortB_fold lt stay l _).trans ?_
    refine ((insB_perm lt stay out x).append_right l).trans ?_
    rw [List.cons_append]
    exact List.perm_middle.symm
theorem sortB_perm {α : Type} (lt : α → α → Bool) (stay : Nat) (l : List α) : List.Perm (sortB lt stay l) l := sortB_fold lt stay l []
theorem sortB_len {α : Type} (lt : α → α → Bool) (stay : Nat) (l : List α) : (sortB lt stay l).length = l.length := (sortB_perm lt stay l).length_eq
/-- Nothing stands ahead of what it is less than. -/
def Rising {α : Type} (lt : α → α → Bool) (l : List α) : Prop := l.Pairwise fun a b => lt b a = false
theorem le_trans_of {α : Type} {D : α → Prop} {lt : α → α → Bool} (h : Ord D lt) {a b c : α} (da : D a) (db : D b) (h1 : lt b a = false) (h2 : lt c b = false) : lt c a = false := by
  cases e : lt c a with
  | false => rfl
  | true =>
    exfalso
    by_cases e1 : a = b
    · subst e1; rw [h2] at e; cases e
    · have h3 : lt a b = true := h.tot b a db da (fun q => e1 q.symm) h1
      have := h.trans c a b e h3
      rw [h2] at this
      cases this
theorem take_pos {α : Type} {lt : α → α → Bool} {x : α} {out : List α} : ∀ n, n ≤ out.length → ∀ j (h : j < out.length), insPos lt 0 x out n ≤ j → j < n → lt x (out[j]'h) = true
  | 0, _, j, _, _, h2 => by omega
  | n + 1, hn, j, h, h1, h2 => by
    unfold insPos at h1
    split at h1
    · next q =>
      by_cases e : j = n
      · subst e
        have := q.2
        rw [List.getElem?_eq_getElem h] at this
        simpa using this
      · exact take_pos n (by omega) j h h1 (by omega)
    · omega
theorem pos_ahead {α : Type} {lt : α → α → Bool} {x : α} {out : List α} : ∀ n, n ≤ out.length → ∀ p, p = insPos lt 0 x out n → 0 < p → ∃ h : p - 1 < out.length, lt x (out[p - 1]'h) = false
  | 0, _, p, e, h => by rw [e] at h; simp [insPos] at h
  | n + 1, hn, p, e, hpos => by
    have e1 : insPos lt 0 x out (n + 1) = if 0 < n + 1 ∧ (out[n]?.map (lt x)) = some true then insPos lt 0 x out n else n + 1 := rfl
    by_cases q : 0 < n + 1 ∧ (out[n]?.map (lt x)) = some true
    · rw [if_pos q] at e1
      exact pos_ahead n (by omega) p (e.trans e1) hpos
    · rw [if_neg q] at e1
      obtain rfl : p = n + 1 := e.trans e1
      refine ⟨by omega, ?_⟩
      show lt x (out[n]'(by omega)) = false
      have hq : ¬ (out[n]?.map (lt x)) = some true := fun e => q ⟨by omega, e⟩
      rw [List.getElem?_eq_getElem (by omega)] at hq
      simpa using hq
theorem rising_insB {α : Type} {D : α → Prop} {lt : α → α → Bool} (h : Ord D lt) {out : List α} (x : α) (hd : ∀ y ∈ out, D y) (ho : Rising lt out) : Rising lt (insB lt 0 out x) := by
  unfold insB Rising
  have hp := insPos_le lt 0 x out out.length
  obtain ⟨p, hpe⟩ : ∃ p, p = insPos lt 0 x out out.length := ⟨_, rfl⟩
  have h1 : ∀ j (hj : j < out.length), p ≤ j → lt x (out[j]'hj) = true := fun j hj hpj => take_pos out.length (Nat.le_refl _) j hj (by rw [← hpe]; exact hpj) hj
  have h2 : ∀ j (hj : j < out.length), j < p → lt x (out[j]'hj) = false := by
    intro j hj hjp
    obtain ⟨hq, hlt⟩ := pos_ahead (lt := lt) (x := x) (out := out) out.length (Nat.le_refl _) p hpe (by omega)
    by_cases e : j = p - 1
    · subst e; exact hlt
    · exact le_trans_of h (hd _ (List.getElem_mem hj)) (hd _ (List.getElem_mem hq)) (List.pairwise_iff_getElem.1 ho j (p - 1) hj hq (by omega)) hlt
  rw [← hpe] at hp ⊢
  rw [List.pairwise_append, List.pairwise_cons]
  refine ⟨List.Pairwise.sublist (List.take_sublist _ _) ho, ⟨fun y hy => ?_, List.Pairwise.sublist (List.drop_sublist _ _) ho⟩, fun a ha b hb => ?_⟩
  · obtain ⟨j, hj, rfl⟩ := List.getElem_of_mem hy
    rw [List.length_drop] at hj
    rw [List.getElem_drop]
    have h3 := h1 (p + j) (by omega) (by omega)
    cases e : lt (out[p + j]'(by omega)) x with
    | false => rfl
    | true => have := h.trans _ _ _ h3 e; rw [h.irr] at this; cases this
  · obtain ⟨i, hi, rfl⟩ := List.getElem_of_mem ha
    rw [List.length_take] at hi
    rw [List.getElem_take]
    have hx := h2 i (by omega) (by omega)
    rcases List.mem_cons.1 hb with rfl | hb
    · exact hx
    · obtain ⟨j, hj, rfl⟩ := List.getElem_of_mem hb
      rw [List.length_drop] at hj
      rw [List.getElem_drop]
      exact List.pairwise_iff_getElem.1 ho i (p + j) (by omega) (by omega) (by omega)
theorem insB_mem {α : Type} {lt : α → α → Bool} {stay : Nat} {out : List α} {x y : α} : y ∈ insB lt stay out x ↔ y = x ∨ y ∈ out := by
  rw [(insB_perm lt stay out x).mem_iff, List.mem_cons]
theorem rising_fold {α : Type} {D : α → Prop} {lt : α → α → Bool} (h : Ord D lt) : ∀ (l out : List α), (∀ y ∈ l, D y) → (∀ y ∈ out, D y) → Rising lt out → Rising lt (l.foldl (insB lt 0) out)
  | [], _, _, _, ho => ho
  | x :: l, _, hl, hd, ho => rising_fold h l _ (fun y hy => hl y (by simp [hy])) (fun y hy => (insB_mem.1 hy).elim (fun e => e ▸ hl x (by simp)) (hd y)) (rising_insB h x hd ho)
theorem sortB_rising {α : Type} {D : α → Prop} {lt : α → α → Bool} (h : Ord D lt) {l : List α} (hl : ∀ y ∈ l, D y) : Rising lt (sortB lt 0 l) := rising_fold h l [] hl (by simp) List.Pairwise.nil
/-- There is one rising list of the same things. -/
theorem rising_unique {α : Type} {D : α → Prop} {lt : α → α → Bool} (h : Ord D lt) : ∀ {a b : List α}, (∀ y ∈ a, D y) → List.Perm a b → Rising lt a → Rising lt b → a = b
  | [], b, _, hp, _, _ => by have := hp.length_eq; simp at this; exact (List.eq_nil_of_length_eq_zero this.symm).symm
  | x :: a, [], _, hp, _, _ => by have := hp.length_eq; simp at this
  | x :: a, y :: b, hd, hp, ha, hb => by
    obtain ⟨ha1, ha2⟩ := List.pairwise_cons.1 ha
    obtain ⟨hb1, hb2⟩ := List.pairwise_cons.1 hb
    have e : x = y := by
      apply Classical.byContradiction
      intro hne
      have hx : x ∈ b := by
        rcases List.mem_cons.1 (hp.mem_iff.1 (by simp : x ∈ x :: a)) with q | q
        · exact absurd q hne
        · exact q
      have hy : y ∈ a := by
        rcases List.mem_cons.1 (hp.mem_iff.2 (by simp : y ∈ y :: b)) with q | q
        · exact absurd q.symm hne
        · exact q
      have h1 := ha1 y hy
      have h2 := hb1 x hx
      have := h.tot x y (hd x (by simp)) (hd y (by simp [hy])) hne h2
      rw [h1] at this
      cases this
    subst e
    rw [rising_unique h (fun z hz => hd z (by simp [hz])) (List.Perm.cons_inv hp) ha2 hb2]
theorem sortB_mem {α : Type} {lt : α → α → Bool} {stay : Nat} {l : List α} {y : α} : y ∈ sortB lt stay l ↔ y ∈ l := (sortB_perm lt stay l).mem_iff
theorem sortB_unique {α : Type} {D : α → Prop} {lt : α → α → Bool} (h : Ord D lt) {a b : List α} (hd : ∀ y ∈ a, D y) (hp : List.Perm a b) : sortB lt 0 a = sortB lt 0 b :=
  rising_unique h (fun y hy => hd y (sortB_mem.1 hy)) (((sortB_perm lt 0 a).trans hp).trans (sortB_perm lt 0 b).symm) (sortB_rising h hd) (sortB_rising h (fun y hy => hd y (hp.mem_iff.2 hy)))
theorem sortB_id {α : Type} {D : α → Prop} {lt : α → α → Bool} (h : Ord D lt) {a : List α} (hd : ∀ y ∈ a, D y) (ha : Rising lt a) : sortB lt 0 a = a := rising_unique h (fun y hy => hd y (sortB_mem.1 hy)) (sortB_perm lt 0 a) (sortB_rising h hd) ha

/-! The first one stays. -/
theorem insPos_one {α : Type} (lt : α → α → Bool) (x f : α) (out : List α) : ∀ n, insPos lt 1 x (f :: out) (n + 1) = insPos lt 0 x out n + 1
  | 0 => by
    have e1 : insPos lt 1 x (f :: out) 1 = if 1 < 1 ∧ ((f :: out)[0]?.map (lt x)) = some true then insPos lt 1 x (f :: out) 0 else 1 := rfl
    rw [e1, if_neg (fun h => absurd h.1 (by omega))]
    rfl
  | n + 1 => by
    have e1 : insPos lt 1 x (f :: out) (n + 1 + 1) = if 1 < n + 1 + 1 ∧ (out[n]?.map (lt x)) = some true then insPos lt 1 x (f :: out) (n + 1) else n + 1 + 1 := rfl
    have e2 : insPos lt 0 x out (n + 1) = if 0 < n + 1 ∧ (out[n]?.map (lt x)) = some true then insPos lt 0 x out n else n + 1 := rfl
    rw [e1, e2]
    by_cases q : (out[n]?.map (lt x)) = some true
    · rw [if_pos ⟨by omega, q⟩, if_pos ⟨by omega, q⟩]
      exact insPos_one lt x f out n
    · rw [if_neg (fun h => q h.2), if_neg (fun h => q h.2)]
theorem insB_one {α : Type} (lt : α → α → Bool) (x f : α) (out : List α) : insB lt 1 (f :: out) x = f :: insB lt 0 out x := by
  unfold insB
  rw [List.length_cons, insPos_one]
  rfl
theorem fold_one {α : Type} (lt : α → α → Bool) (f : α) : ∀ (l out : List α), l.foldl (insB lt 1) (f :: out) = f :: l.foldl (insB lt 0) out
  | [], _ => rfl
  | x :: l, out => by rw [List.foldl_cons, List.foldl_cons, insB_one, fold_one lt f l]
theorem sort_one {α : Type} (lt : α → α → Bool) (f : α) (l : List α) : sortB lt 1 (f :: l) = f :: sortB lt 0 l := by
  unfold sortB
  rw [List.foldl_cons]
  exact fold_one lt f l []

/-! Orders. -/
def AnyS (_ : List UInt8) : Prop := True
theorem ord_bytes : Ord AnyS lessB := ⟨lessB_irr, lessB_trans, fun a b _ _ => lessB_total a b⟩
/-- The rank of a symbol: terminals ahead. -/
def rankG (s : Int) : Int := if s < 0 then -1 - s else 1000 + s
def lessSyms : List Int → List Int → Bool
  | [], [] => false
  | [], _ :: _ => true
  | _ :: _, [] => false
  | a :: x, b :: y => if a = b then lessSyms x y else decide (rankG a < rankG b)
def lessR (a b : RuleG) : Bool := if a.left = b.left then lessSyms a.right b.right else decide (a.left < b.left)
/-- The symbols of a rule are as few as a grammar's. -/
def FewS (r : RuleG) : Prop := ∀ s ∈ r.right, -1000 ≤ s
theorem rank_inj {a b : Int} (ha : -1000 ≤ a) (hb : -1000 ≤ b) (h : rankG a = rankG b) : a = b := by
  unfold rankG at h
  split at h <;> split at h <;> omega
theorem syms_irr : ∀ a, lessSyms a a = false
  | [] => rfl
  | a :: x => by unfold lessSyms; rw [if_pos rfl]; exact syms_irr x
theorem syms_trans : ∀ a b c, lessSyms a b = true → lessSyms b c = true → lessSyms a c = true
  | [], [], _, h, _ => by simp [lessSyms] at h
  | [], _ :: _, [], _, k => by simp [lessSyms] at k
  | [], _ :: _, _ :: _, _, _ => rfl
  | _ :: _, [], _, h, _ => by simp [lessSyms] at h
  | _ :: _, _ :: _, [], _, k => by simp [lessSyms] at k
  | a :: x, b :: y, c :: z, h, k => by
    unfold lessSyms at h k ⊢
    by_cases e1 : a = b
    · rw [if_pos e1] at h
      by_cases e2 : b = c
      · rw [if_pos e2] at k
        rw [if_pos (e1.trans e2)]
        exact syms_trans x y z h k
      · rw [if_neg e2] at k
        rw [if_neg (fun e => e2 (e1.symm.trans e)), e1]
        exact k
    · rw [if_neg e1] at h
      by_cases e2 : b = c
      · subst e2
        rw [if_neg e1]
        exact h
      · rw [if_neg e2] at k
        have h' := of_decide_eq_true h
        have k' := of_decide_eq_true k
        rw [if_neg (fun e => by subst e; omega)]
        exact decide_eq_true (by omega)
theorem syms_tot : ∀ a b, (∀ s ∈ a, -1000 ≤ s) → (∀ s ∈ b, -1000 ≤ s) → a ≠ b → lessSyms a b = false → lessSyms b a = true
  | [], [], _, _, h, _ => (h rfl).elim
  | [], _ :: _, _, _, _, k => by simp [lessSyms] at k
  | _ :: _, [], _, _, _, _ => rfl
  | a :: x, b :: y, ha, hb, h, k => by
    unfold lessSyms at k ⊢
    by_cases e : a = b
    · rw [if_pos e] at k
      rw [if_pos e.symm]
      exact syms_tot x y (fun s hs => ha s (by simp [hs])) (fun s hs => hb s (by simp [hs])) (fun q => h (by rw [e, q])) k
    · rw [if_neg e] at k
      rw [if_neg (fun q => e q.symm)]
      have k' := of_decide_eq_false k
      have : rankG a ≠ rankG b := fun q => e (rank_inj (ha a (by simp)) (hb b (by simp)) q)
      exact decide_eq_true (by omega)
theorem ord_rules : Ord FewS lessR where
  irr := fun a => by unfold lessR; rw [if_pos rfl]; exact syms_irr _
  trans := fun a b c h k => by
    unfold lessR at h k ⊢
    by_cases e1 : a.left = b.left
    · rw [if_pos e1] at h
      by_cases e2 : b.left = c.left
      · rw [if_pos e2] at k
        rw [if_pos (e1.trans e2)]
        exact syms_trans _ _ _ h k
      · rw [if_neg e2] at k
        rw [if_neg (fun e => e2 (e1.symm.trans e)), e1]
        exact k
    · rw [if_neg e1] at h
      by_cases e2 : b.left = c.left
      · rw [if_neg (fun e => e1 (e.trans e2.symm)), ← e2]
        exact h
      · rw [if_neg e2] at k
        have h' := of_decide_eq_true h
        have k' := of_decide_eq_true k
        rw [if_neg (by omega)]
        exact decide_eq_true (by omega)
  tot := fun a b ha hb h k => by
    unfold lessR at k ⊢
    by_cases e : a.left = b.left
    · rw [if_pos e] at k
      rw [if_pos e.symm]
      exact syms_tot _ _ ha hb (fun q => h (RuleG.ext' e q)) k
    · rw [if_neg e] at k
      rw [if_neg (fun q => e q.symm)]
      have k' := of_decide_eq_false k
      exact decide_eq_true (by omega)
theorem syms_at : ∀ (k : Nat) (a b : List Int) (ha : k < a.length) (hb : k < b.length), (∀ j (_ : j < k) (h1 : j < a.length) (h2 : j < b.length), a[j]'h1 = b[j]'h2) → a[k]'ha ≠ b[k]'hb → lessSyms a b = decide (rankG (a[k]'ha) < rankG (b[k]'hb))
  | _, [], _, ha, _, _, _ => by simp at ha
  | _, _ :: _, [], _, hb, _, _ => by simp at hb
  | 0, x :: a, y :: b, _, _, _, hne => by
    have hne' : x ≠ y := hne
    unfold lessSyms
    rw [if_neg hne']
    rfl
  | k + 1, x :: a, y :: b, ha, hb, hall, hne => by
    have e : x = y := hall 0 (by omega) (by simp) (by simp)
    have ih := syms_at k a b (by simpa using ha) (by simpa using hb) (fun j hj h1 h2 => hall (j + 1) (by omega) (by simpa using h1) (by simpa using h2)) hne
    unfold lessSyms
    rw [if_pos e]
    exact ih
theorem syms_end : ∀ (a b : List Int), (∀ j (h1 : j < a.length) (h2 : j < b.length), a[j]'h1 = b[j]'h2) → lessSyms a b = decide (a.length < b.length)
  | [], [], _ => rfl
  | [], _ :: _, _ => (decide_eq_true (by simp)).symm
  | _ :: _, [], _ => (decide_eq_false (by simp)).symm
  | x :: a, y :: b, hall => by
    have e : x = y := hall 0 (by simp) (by simp)
    have ih := syms_end a b (fun j h1 h2 => hall (j + 1) (by simpa using h1) (by simpa using h2))
    unfold lessSyms
    rw [if_pos e, ih]
    simp
end Go.Proofs.Ytmcekpgmebanaaa

/-! The sizes of grammars and lines (layer 14). Nothing here names the program. -/
namespace Go.Proofs.Ytmcekpgmebanaaa

/-- No part is larger than any machine of today would have it. -/
structure SizeG (g : GramG) : Prop where
  names : g.names.length ≤ 100000
  terms : g.terms.length ≤ 100000
  rules : g.rules.length ≤ 100000
  right : ∀ r ∈ g.rules, r.right.length ≤ 100000
  name : ∀ n ∈ g.names, n.length ≤ 100000
  term : ∀ t ∈ g.terms, t.length ≤ 100000
/-- The symbols are what 64 bits hold (below). -/
def IntG (g : GramG) : Prop := ∀ r ∈ g.rules, ∀ s ∈ r.right, -9223372036854775808 ≤ s
structure SizeL (ls : List LineD) : Prop where
  lines : ls.length ≤ 100000
  alts : ∀ l ∈ ls, l.alts.length ≤ 100000
  name : ∀ l ∈ ls, l.name.length ≤ 100000
  items : ∀ l ∈ ls, ∀ a ∈ l.alts, a.length ≤ 100000
  text : ∀ l ∈ ls, ∀ a ∈ l.alts, ∀ i ∈ a, i.text.length ≤ 100000
end Go.Proofs.Ytmcekpgmebanaaa

/-! Lines al text are read al the same lines (layer 13): plain mathematics. -/
namespace Go.Proofs.Ytmcekpgmebanaaa

/-- What a token may be. -/
def tkOk (k : Tk) : Prop := (k.1 = 1 ∧ nameB k.2 = true) ∨ (k.1 = 2 ∧ termB k.2 = true) ∨ k.1 = 3 ∨ k.1 = 4 ∨ k.1 = 5
theorem takeWhile_yes (p : UInt8 → Bool) : ∀ l : List UInt8, (l.takeWhile p).all p = true
  | [] => rfl
  | c :: t => by
    rw [List.takeWhile_cons]
    split
    · next h => rw [List.all_cons, h, takeWhile_yes p t]; rfl
    · rfl
theorem next_ok {c : UInt8} {t : List UInt8} (h : (nextD c t).err = 0) : tkOk ((nextD c t).kind, (nextD c t).text) ∧ (nextD c t).text.length ≤ (nextD c t).n := by
  unfold nextD at h ⊢
  by_cases h1 : c = 58
  · rw [if_pos h1]; exact ⟨.inr (.inr (.inl rfl)), Nat.le_refl _⟩
  · rw [if_neg h1] at h ⊢
    by_cases h2 : c = 124
    · rw [if_pos h2]; exact ⟨.inr (.inr (.inr (.inl rfl))), Nat.le_refl _⟩
    · rw [if_neg h2] at h ⊢
      by_cases h3 : c = 59
      · rw [if_pos h3]; exact ⟨.inr (.inr (.inr (.inr rfl))), Nat.le_refl _⟩
      · rw [if_neg h3] at h ⊢
        by_cases h4 : letterB c = true
        · rw [if_pos h4] at h ⊢
          by_cases h5 : 32 < ((c :: t).takeWhile moreB).length
          · rw [if_pos h5] at h; simp [noneD] at h
          · rw [if_neg h5]
            refine ⟨.inl ⟨rfl, ?_⟩, Nat.le_refl _⟩
            have hm : moreB c = true := (letter_num h4).2.2.2.2.2
            have hy := takeWhile_yes moreB (c :: t)
            have hc : (c :: t).takeWhile moreB = c :: t.takeWhile moreB := by rw [List.takeWhile_cons, if_pos hm]
            unfold nameB
            simp only
            rw [hy, hc, decide_eq_true (by rw [hc] at h5; simp at h5 ⊢; omega)]
            simp only
            rw [h4]; rfl
        · rw [if_neg h4] at h ⊢
          by_cases h5 : c = 39
          · rw [if_pos h5] at h ⊢
            unfold termD at h ⊢
            by_cases h6 : (t.drop (t.takeWhile termC).length).head? = some 39 ∧ t.takeWhile termC ≠ []
            · rw [if_pos h6] at h ⊢
              by_cases h7 : 32 < (t.takeWhile termC).length
              · rw [if_pos h7] at h; simp [noneD] at h
              · rw [if_neg h7]
                refine ⟨.inr (.inl ⟨rfl, ?_⟩), by simp⟩
                have hp : 0 < (t.takeWhile termC).length := List.length_pos_iff.2 h6.2
                unfold termB
                simp only
                rw [takeWhile_yes termC t, decide_eq_true (by omega)]; rfl
            · rw [if_neg h6] at h; simp [noneD] at h
          · rw [if_neg h5] at h; simp [noneD] at h
def wtK (k : Tk) : Nat := k.2.length + 4
theorem lex_sound {r : List UInt8} {p : Nat} : (∀ t ∈ (lexD r p).toks, tkOk t.tk) ∧ (((lexD r p).toks.map fun t => wtK t.tk).sum ≤ 5 * r.length) := by
  induction r, p using lexD.induct with
  | case1 p => rw [lex_nil]; simp
  | case2 p c t hb ih => rw [lex_blank t p hb]; exact ⟨ih.1, by have := ih.2; simp only [List.length_cons]; omega⟩
  | case3 p t hb ih =>
    rw [lex_note]
    have := restC_le t
    exact ⟨ih.1, by have := ih.2; simp only [List.length_cons]; omega⟩
  | case4 p c t hb h3 he => rw [lex_err t p (by simpa using hb) h3 he]; simp
  | case5 p c t hb h3 he ih =>
    rw [lexD, if_neg hb, if_neg h3, if_neg he]
    have he0 : (nextD c t).err = 0 := by simpa using he
    have hpos := next_pos he0
    have hok := next_ok he0
    have ih2 := ih.2
    rw [List.length_cons] at hpos ⊢
    rw [List.length_drop] at ih2
    unfold consD
    split
    · refine ⟨fun x hx => ?_, ?_⟩
      · rw [List.mem_cons] at hx
        rcases hx with rfl | hx
        · exact hok.1
        · exact ih.1 x hx
      · rw [List.map_cons, List.sum_cons]
        have : wtK (TokD.tk ⟨(nextD c t).kind, (nextD c t).text, p⟩) = (nextD c t).text.length + 4 := rfl
        rw [this]
        have := hok.2
        omega
    · exact ⟨ih.1, by omega⟩
/-- r gives these tokens, wherever it stands. -/
def Lx (r : List UInt8) (ks : List Tk) : Prop := ∀ p, (lexD r p).err = 0 ∧ (lexD r p).toks.map TokD.tk = ks
theorem Lx.nil : Lx [] [] := fun p => by rw [lex_nil]; exact ⟨rfl, rfl⟩
theorem Lx.blank {c : UInt8} {r : List UInt8} {ks : List Tk} (hc : blankB c = true) (h : Lx r ks) : Lx (c :: r) ks := fun p => by rw [lex_blank r p hc]; exact h (p + 1)
theorem cons_ok {x : TokD} {r : LexD} {ks : List Tk} (h : r.err = 0 ∧ r.toks.map TokD.tk = ks) : (consD x r).err = 0 ∧ (consD x r).toks.map TokD.tk = x.tk :: ks := by
  unfold consD
  rw [if_pos h.1]
  exact ⟨rfl, by rw [List.map_cons, h.2]⟩
theorem Lx.one {c : UInt8} {k : Int} {r : List UInt8} {ks : List Tk} (hc : ∀ t, nextD c t = ⟨k, [c], 1, 0⟩) (hb : blankB c = false) (h35 : c ≠ 35) (h : Lx r ks) : Lx (c :: r) ((k, [c]) :: ks) := fun p => by
  rw [lex_tok r p hb h35 (by rw [hc]), hc]
  exact cons_ok (h (p + 1))
theorem Lx.name {n : List UInt8} {x : UInt8} {q : List UInt8} {ks : List Tk} (hn : nameB n = true) (hx : moreB x = false) (h : Lx (x :: q) ks) : Lx (n ++ x :: q) ((1, n) :: ks) := fun p => by
  unfold nameB at hn
  rw [Bool.and_eq_true, Bool.and_eq_true] at hn
  obtain ⟨⟨h1, h2⟩, h3⟩ := hn
  have h1' := of_decide_eq_true h1
  cases n with
  | nil => simp at h1'
  | cons c t =>
    simp only at h2
    obtain ⟨e1, e2, e3, e4, e5, e6⟩ := letter_num h2
    have hnx : nextD c (t ++ x :: q) = ⟨1, c :: t, (c :: t).length, 0⟩ := by
      unfold nextD
      rw [if_neg e1, if_neg e2, if_neg e3, if_pos h2, ← List.cons_append, takeWhile_stop (c :: t) x q hx, takeWhile_all h3, if_neg (by omega)]
    rw [List.cons_append, lex_tok _ p e5 e4 (by rw [hnx]), hnx, ← List.cons_append]
    simp only
    rw [List.drop_left]
    exact cons_ok (h _)
theorem Lx.term {t : List UInt8} {q : List UInt8} {ks : List Tk} (ht : termB t = true) (h : Lx q ks) : Lx (39 :: (t ++ 39 :: q)) ((2, t) :: ks) := fun p => by
  unfold termB at ht
  rw [Bool.and_eq_true] at ht
  have h1' := of_decide_eq_true ht.1
  have htw : (t ++ 39 :: q).takeWhile termC = t := by rw [takeWhile_stop t 39 q (by decide), takeWhile_all ht.2]
  have hnx : nextD 39 (t ++ 39 :: q) = ⟨2, t, t.length + 2, 0⟩ := by
    unfold nextD
    rw [if_neg (by decide), if_neg (by decide), if_neg (by decide), if_neg (by decide), if_pos rfl]
    unfold termD
    rw [htw, if_pos ⟨by simp, by intro e; rw [e] at h1'; simp at h1'⟩, if_neg (by omega)]
  rw [lex_tok _ p (by decide) (by decide) (by rw [hnx]), hnx]
  simp only
  have hd : (39 :: (t ++ 39 :: q)).drop (t.length + 2) = q := by
    rw [List.drop_succ_cons, List.drop_append, List.drop_eq_nil_of_le (by omega), show t.length + 1 - t.length = 1 from by omega]; rfl
  rw [hd]
  exact cons_ok (h _)
def itemOk (i : ItemD) : Prop := (if i.term then termB i.text else nameB i.text) = true
theorem lx_item {i : ItemD} (hi : itemOk i) {q : List UInt8} {ks : List Tk} (h : Lx (32 :: q) ks) : Lx (itemT i ++ 32 :: q) (itemK i :: ks) := by
  obtain ⟨b, x⟩ := i
  cases b with
  | true =>
    have : itemT ⟨true, x⟩ ++ 32 :: q = 32 :: 39 :: (x ++ 39 :: 32 :: q) := by simp [itemT]
    rw [this]
    exact (Lx.term hi h).blank (by decide)
  | false =>
    have : itemT ⟨false, x⟩ ++ 32 :: q = 32 :: (x ++ 32 :: q) := by simp [itemT]
    rw [this]
    exact (Lx.name hi (by decide) h).blank (by decide)
theorem lx_alt : ∀ (a : List ItemD), (∀ i ∈ a, itemOk i) → ∀ {q : List UInt8} {ks : List Tk}, Lx (32 :: q) ks → Lx (altT a ++ 32 :: q) (a.map itemK ++ ks) ∧ ∃ q', altT a ++ 32 :: q = 32 :: q'
  | [], _, q, ks, h => ⟨by simpa [altT] using h, q, rfl⟩
  | i :: r, hi, q, ks, h => by
    obtain ⟨h1, q', e⟩ := lx_alt r (fun x hx => hi x (by simp [hx])) h
    have h2 : altT (i :: r) ++ 32 :: q = itemT i ++ (altT r ++ 32 :: q) := by simp [altT]
    rw [h2]
    rw [e] at h1 ⊢
    refine ⟨lx_item (hi i (by simp)) h1, ?_⟩
    obtain ⟨b, x⟩ := i
    cases b <;> exact ⟨_, rfl⟩
theorem lx_bars : ∀ (r : List (List ItemD)), (∀ a ∈ r, ∀ i ∈ a, itemOk i) → ∀ {q : List UInt8} {ks : List Tk}, Lx (32 :: q) ks → Lx ((r.flatMap fun b => [32, 124] ++ altT b) ++ 32 :: q) ((r.flatMap fun b => (4, [124]) :: b.map itemK) ++ ks) ∧ ∃ q', (r.flatMap fun b => [32, 124] ++ altT b) ++ 32 :: q = 32 :: q'
  | [], _, q, ks, h => ⟨by simpa using h, q, rfl⟩
  | b :: r, hi, q, ks, h => by
    obtain ⟨h1, q', e⟩ := lx_bars r (fun a ha => hi a (by simp [ha])) h
    rw [e] at h1
    obtain ⟨h2, q2, e2⟩ := lx_alt b (hi b (by simp)) h1
    have h3 : (List.flatMap (fun b => [32, 124] ++ altT b) (b :: r)) ++ 32 :: q = 32 :: 124 :: (altT b ++ 32 :: q') := by
      rw [List.flatMap_cons, List.append_assoc, e]; simp
    rw [h3]
    refine ⟨?_, _, rfl⟩
    have := (Lx.one (c := 124) (k := 4) (fun t => rfl) (by decide) (by decide) h2).blank (c := 32) (by decide)
    simpa using this
def lineOk (l : LineD) : Prop := nameB l.name = true ∧ l.alts ≠ [] ∧ ∀ a ∈ l.alts, ∀ i ∈ a, itemOk i
theorem lx_line {l : LineD} (hl : lineOk l) {q : List UInt8} {ks : List Tk} (h : Lx q ks) : Lx (lineT l ++ q) (lineK l ++ ks) := by
  obtain ⟨n, al⟩ := l
  obtain ⟨h1, h2, h3⟩ := hl
  simp only at h1 h2 h3
  cases al with
  | nil => exact absurd rfl h2
  | cons a r =>
    have hend : Lx (32 :: 59 :: 10 :: q) ((5, [59]) :: ks) := (Lx.one (c := 59) (k := 5) (fun t => rfl) (by decide) (by decide) (h.blank (c := 10) (by decide))).blank (by decide)
    obtain ⟨g1, q1, e1⟩ := lx_bars r (fun b hb => h3 b (by simp [hb])) hend
    rw [e1] at g1
    obtain ⟨g2, q2, e2⟩ := lx_alt a (h3 a (by simp)) g1
    have hall : lineT ⟨n, a :: r⟩ ++ q = n ++ 32 :: 58 :: (altT a ++ 32 :: q1) := by
      rw [← e1]; simp [lineT, altsT]
    rw [hall]
    have := Lx.name h1 (x := 32) (by decide) ((Lx.one (c := 58) (k := 3) (fun t => rfl) (by decide) (by decide) g2).blank (c := 32) (by decide))
    simpa [lineK, altsK] using this
theorem lx_text : ∀ (l : List LineD), (∀ x ∈ l, lineOk x) → Lx (textD l) (l.flatMap lineK)
  | [], _ => Lx.nil
  | x :: l, h => by
    unfold textD
    rw [List.flatMap_cons, List.flatMap_cons]
    exact lx_line (h x (by simp)) (lx_text l (fun y hy => h y (by simp [hy])))
/-- Lines, al text, are read al the same. -/
theorem par_text {l : List LineD} (h : ∀ x ∈ l, lineOk x) (hne : l ≠ []) (hs : (textD l).length ≤ 65536) : parD (textD l) = ⟨l, 0, 0⟩ := by
  have ha : allD (textD l) = lexD (textD l) 0 := by unfold allD; rw [if_neg (by omega)]
  obtain ⟨h1, h2⟩ := lx_text l h 0
  have hb := lines_back l (fun x hx => (h x hx).2.1)
  unfold parD
  rw [ha, if_neg (by simp [h1]), h2, hb, if_neg (by simp), if_neg hne]
end Go.Proofs.Ytmcekpgmebanaaa

/-! What is read of any text is valid, and its text is not too long (layer 13): plain mathematics. -/
namespace Go.Proofs.Ytmcekpgmebanaaa

def wtL (r : List Tk) : Nat := (r.map wtK).sum
def barsT (l : List (List ItemD)) : List UInt8 := l.flatMap fun b => [32, 124] ++ altT b
theorem alts_bars {l : List (List ItemD)} (h : l ≠ []) : (altsT l).length + 2 = (barsT l).length := by
  cases l with
  | nil => exact absurd rfl h
  | cons a r => simp [altsT, barsT]
theorem bars_snoc (l : List (List ItemD)) (a : List ItemD) : (barsT (l ++ [a])).length = (barsT l).length + 2 + (altT a).length := by simp [barsT]; omega
theorem alt_snoc (a : List ItemD) (i : ItemD) : (altT (a ++ [i])).length = (altT a).length + (itemT i).length := by simp [altT]
theorem item_len (i : ItemD) : (itemT i).length ≤ i.text.length + 3 := by unfold itemT; split <;> simp <;> omega
theorem body_sound : ∀ (r : List Tk) (cur : List ItemD) (done : List (List ItemD)), (∀ t ∈ r, tkOk t) → (∀ i ∈ cur, itemOk i) → (∀ a ∈ done, ∀ i ∈ a, itemOk i) → (bodyD r cur done).ok = true →
    (bodyD r cur done).alts ≠ [] ∧ (∀ a ∈ (bodyD r cur done).alts, ∀ i ∈ a, itemOk i) ∧ (barsT (bodyD r cur done).alts).length + 4 + wtL (bodyD r cur done).left ≤ (barsT (done ++ [cur])).length + wtL r ∧ ∀ t ∈ (bodyD r cur done).left, tkOk t
  | [], cur, done, _, _, _, h => by simp [bodyD] at h
  | t :: r, cur, done, ht, hc, hd, h => by
    have htr : ∀ x ∈ r, tkOk x := fun x hx => ht x (by simp [hx])
    have hw : wtL (t :: r) = t.2.length + 4 + wtL r := by simp [wtL, wtK]
    unfold bodyD at h ⊢
    by_cases h1 : t.1 = 1 ∨ t.1 = 2
    · rw [if_pos h1] at h ⊢
      have hi : itemOk ⟨decide (t.1 = 2), t.2⟩ := by
        have := ht t (by simp)
        unfold tkOk at this
        unfold itemOk
        simp only
        rcases h1 with h1 | h1
        · rw [h1] at this ⊢; simpa using this
        · rw [h1] at this ⊢; simpa using this
      obtain ⟨g1, g2, g3, g4⟩ := body_sound r (cur ++ [⟨decide (t.1 = 2), t.2⟩]) done htr (fun i him => by
        rcases List.mem_append.1 him with q | q
        · exact hc i q
        · obtain rfl := List.mem_singleton.1 q; exact hi) hd h
      refine ⟨g1, g2, ?_, g4⟩
      have := item_len ⟨decide (t.1 = 2), t.2⟩
      rw [bars_snoc] at g3 ⊢
      rw [alt_snoc] at g3
      simp only at this
      omega
    · rw [if_neg h1] at h ⊢
      by_cases h4 : t.1 = 4
      · rw [if_pos h4] at h ⊢
        obtain ⟨g1, g2, g3, g4⟩ := body_sound r [] (done ++ [cur]) htr (by simp) (fun a ha => by
          rcases List.mem_append.1 ha with q | q
          · exact hd a q
          · obtain rfl := List.mem_singleton.1 q; exact hc) h
        refine ⟨g1, g2, ?_, g4⟩
        rw [bars_snoc (done ++ [cur])] at g3
        simp [altT] at g3
        omega
      · rw [if_neg h4] at h ⊢
        by_cases h5 : t.1 = 5
        · rw [if_pos h5]
          refine ⟨by simp, fun a ha => ?_, by simp only; omega, htr⟩
          rcases List.mem_append.1 ha with q | q
          · exact hd a q
          · obtain rfl := List.mem_singleton.1 q; exact hc
        · rw [if_neg h5] at h; cases h
theorem rule_sound {r : List Tk} (ht : ∀ t ∈ r, tkOk t) (h : (ruleD r).ok = true) : lineOk (ruleD r).line ∧ (lineT (ruleD r).line).length + wtL (ruleD r).left ≤ wtL r ∧ ∀ t ∈ (ruleD r).left, tkOk t := by
  cases r with
  | nil => simp [ruleD] at h
  | cons t r =>
    have e : ruleD (t :: r) = if t.1 ≠ 1 then ⟨false, ⟨[], []⟩, t :: r⟩ else nameD t.2 r := rfl
    rw [e] at h ⊢
    by_cases h1 : t.1 ≠ 1
    · rw [if_pos h1] at h; cases h
    · rw [if_neg h1] at h ⊢
      cases r with
      | nil => simp [nameD] at h
      | cons c q =>
        have e2 : nameD t.2 (c :: q) = if c.1 = 3 then ⟨(bodyD q [] []).ok, ⟨t.2, (bodyD q [] []).alts⟩, (bodyD q [] []).left⟩ else ⟨false, ⟨[], []⟩, c :: q⟩ := rfl
        rw [e2] at h ⊢
        by_cases h3 : c.1 = 3
        · rw [if_pos h3] at h ⊢
          simp only at h ⊢
          obtain ⟨g1, g2, g3, g4⟩ := body_sound q [] [] (fun x hx => ht x (by simp [hx])) (by simp) (by simp) h
          have hn : nameB t.2 = true := by
            have := ht t (by simp)
            unfold tkOk at this
            have h1' : t.1 = 1 := by simpa using h1
            rw [h1'] at this
            simpa using this
          refine ⟨⟨hn, g1, g2⟩, ?_, g4⟩
          have hab := alts_bars g1
          have hl : (lineT ⟨t.2, (bodyD q [] []).alts⟩).length = t.2.length + 5 + (altsT (bodyD q [] []).alts).length := by simp [lineT]; omega
          have hw : wtL (t :: c :: q) = t.2.length + 4 + (c.2.length + 4 + wtL q) := by simp [wtL, wtK]
          have hb : (barsT ([] ++ [([] : List ItemD)])).length = 2 := by simp [barsT, altT]
          rw [hb] at g3
          rw [hl, hw]
          omega
        · rw [if_neg h3] at h; cases h
theorem lines_sound (n : Nat) : ∀ (r : List Tk), r.length ≤ n → (∀ t ∈ r, tkOk t) → (linesD r).ok = true → (∀ x ∈ (linesD r).lines, lineOk x) ∧ (textD (linesD r).lines).length ≤ wtL r := by
  induction n with
  | zero =>
    intro r hr _ _
    have : r = [] := List.length_eq_zero_iff.1 (by omega)
    subst this
    rw [linesD]; simp [textD]
  | succ n ih =>
    intro r hr ht h
    cases r with
    | nil => rw [linesD]; simp [textD]
    | cons t q =>
      rw [linesD] at h ⊢
      by_cases hk : (ruleD (t :: q)).ok = true
      · rw [dif_pos hk] at h ⊢
        obtain ⟨g1, g2, g3⟩ := rule_sound ht hk
        have hl := (rule_left (t :: q)).2 hk
        by_cases hi : (linesD (ruleD (t :: q)).left).ok = true
        · rw [if_pos hi] at h ⊢
          obtain ⟨k1, k2⟩ := ih _ (by omega) g3 hi
          refine ⟨fun x hx => ?_, ?_⟩
          · rw [List.mem_cons] at hx
            rcases hx with rfl | hx
            · exact g1
            · exact k1 x hx
          · have : textD ((ruleD (t :: q)).line :: (linesD (ruleD (t :: q)).left).lines) = lineT (ruleD (t :: q)).line ++ textD (linesD (ruleD (t :: q)).left).lines := by simp [textD]
            rw [this, List.length_append]
            omega
        · rw [if_neg hi] at h; exact absurd h hi
      · rw [dif_neg hk] at h; cases h
/-- What a text gives, al text, gives the same. -/
theorem par_back {m : List UInt8} (hm : m.length ≤ 2000) (h : (parD m).err = 0) : (parD m).at_ = 0 ∧ (textD (parD m).lines).length ≤ 10000 ∧ parD (textD (parD m).lines) = ⟨(parD m).lines, 0, 0⟩ := by
  have ha : allD m = lexD m 0 := by unfold allD; rw [if_neg (by omega)]
  have hs := lex_sound (r := m) (p := 0)
  have hw : wtL ((lexD m 0).toks.map TokD.tk) ≤ 5 * m.length := by
    unfold wtL
    rw [List.map_map]
    exact hs.2
  unfold parD at h ⊢
  rw [ha] at h ⊢
  by_cases h1 : (lexD m 0).err ≠ 0
  · rw [if_pos h1] at h; exact absurd h h1
  · rw [if_neg h1] at h ⊢
    by_cases h2 : (linesD ((lexD m 0).toks.map TokD.tk)).ok = false
    · rw [if_pos h2] at h; simp at h
    · rw [if_neg h2] at h ⊢
      by_cases h3 : (linesD ((lexD m 0).toks.map TokD.tk)).lines = []
      · rw [if_pos h3] at h; simp at h
      · rw [if_neg h3]
        obtain ⟨g1, g2⟩ := lines_sound _ ((lexD m 0).toks.map TokD.tk) (Nat.le_refl _) (fun t ht => by
          obtain ⟨x, hx, rfl⟩ := List.mem_map.1 ht
          exact hs.1 x hx) (by simpa using h2)
        have hlen : (textD (linesD ((lexD m 0).toks.map TokD.tk)).lines).length ≤ 10000 := by omega
        refine ⟨rfl, hlen, ?_⟩
        have := par_text g1 h3 (by omega)
        unfold parD at this
        exact this
end Go.Proofs.Ytmcekpgmebanaaa

/-! What lines that were read come to is a grammar that may be (layer 14): plain mathematics. -/
namespace Go.Proofs.Ytmcekpgmebanaaa

theorem par_lines {m : List UInt8} (hm : m.length ≤ 2000) (h : (parD m).err = 0) : (∀ x ∈ (parD m).lines, lineOk x) ∧ (parD m).lines ≠ [] ∧ (textD (parD m).lines).length ≤ 10000 := by
  refine ⟨?_, ?_, (par_back hm h).2.1⟩
  · have ha : allD m = lexD m 0 := by unfold allD; rw [if_neg (by omega)]
    have hs := lex_sound (r := m) (p := 0)
    unfold parD at h ⊢
    rw [ha] at h ⊢
    by_cases h1 : (lexD m 0).err ≠ 0
    · rw [if_pos h1] at h; exact absurd h h1
    · rw [if_neg h1] at h ⊢
      by_cases h2 : (linesD ((lexD m 0).toks.map TokD.tk)).ok = false
      · rw [if_pos h2] at h; simp at h
      · rw [if_neg h2] at h ⊢
        by_cases h3 : (linesD ((lexD m 0).toks.map TokD.tk)).lines = []
        · rw [if_pos h3] at h; simp at h
        · rw [if_neg h3]
          exact (lines_sound _ ((lexD m 0).toks.map TokD.tk) (Nat.le_refl _) (fun t ht => by
            obtain ⟨x, hx, rfl⟩ := List.mem_map.1 ht
            exact hs.1 x hx) (by simpa using h2)).1
  · unfold parD at h ⊢
    split at h
    · next q => exact absurd h q
    · next q =>
      rw [if_neg q]
      split at h
      · simp at h
      · next q2 =>
        rw [if_neg q2]
        split at h
        · simp at h
        · next q3 => rw [if_neg q3]; exact q3
theorem mem_textD {ls : List LineD} {l : LineD} (h : l ∈ ls) : (lineT l).length ≤ (textD ls).length := by
  induction ls with
  | nil => simp at h
  | cons x r ih =>
    have e : (textD (x :: r)).length = (lineT x).length + (textD r).length := by simp [textD]
    rcases List.mem_cons.1 h with rfl | h
    · omega
    · have := ih h; omega
theorem lineT_len (l : LineD) : (lineT l).length = l.name.length + (altsT l.alts).length + 5 := by simp [lineT]; omega
theorem len_textD (ls : List LineD) : ls.length ≤ (textD ls).length := by
  induction ls with
  | nil => simp
  | cons x r ih =>
    have e : (textD (x :: r)).length = (lineT x).length + (textD r).length := by simp [textD]
    have := lineT_len x
    simp only [List.length_cons]
    omega
theorem itemT_len (i : ItemD) : i.text.length + 1 ≤ (itemT i).length := by unfold itemT; split <;> simp
theorem mem_altT {a : List ItemD} {i : ItemD} (h : i ∈ a) : (itemT i).length ≤ (altT a).length := by
  induction a with
  | nil => simp at h
  | cons x r ih =>
    have e : (altT (x :: r)).length = (itemT x).length + (altT r).length := by simp [altT]
    rcases List.mem_cons.1 h with rfl | h
    · omega
    · have := ih h; omega
theorem len_altT (a : List ItemD) : a.length ≤ (altT a).length := by
  induction a with
  | nil => simp
  | cons x r ih =>
    have e : (altT (x :: r)).length = (itemT x).length + (altT r).length := by simp [altT]
    have := itemT_len x
    simp only [List.length_cons]
    omega
def barsL (r : List (List ItemD)) : List UInt8 := r.flatMap fun b => [32, 124] ++ altT b
theorem len_barsL (r : List (List ItemD)) : r.length ≤ (barsL r).length := by
  induction r with
  | nil => simp
  | cons x r ih =>
    have e : (barsL (x :: r)).length = 2 + (altT x).length + (barsL r).length := by simp [barsL]; omega
    simp only [List.length_cons]
    omega
theorem mem_barsL {r : List (List ItemD)} {a : List ItemD} (h : a ∈ r) : (altT a).length ≤ (barsL r).length := by
  induction r with
  | nil => simp at h
  | cons x r ih =>
    have e : (barsL (x :: r)).length = 2 + (altT x).length + (barsL r).length := by simp [barsL]; omega
    rcases List.mem_cons.1 h with rfl | h
    · omega
    · have := ih h; omega
theorem altsT_cons (a : List ItemD) (r : List (List ItemD)) : altsT (a :: r) = altT a ++ barsL r := rfl
theorem len_altsT (al : List (List ItemD)) : al.length ≤ (altsT al).length + 1 := by
  cases al with
  | nil => simp
  | cons a r =>
    rw [altsT_cons]
    have := len_barsL r
    simp only [List.length_cons, List.length_append]
    omega
theorem mem_altsT {al : List (List ItemD)} {a : List ItemD} (h : a ∈ al) : (altT a).length ≤ (altsT al).length := by
  cases al with
  | nil => simp at h
  | cons x r =>
    rw [altsT_cons, List.length_append]
    rcases List.mem_cons.1 h with rfl | h
    · omega
    · have := mem_barsL h; omega
theorem size_lines {ls : List LineD} (h : (textD ls).length ≤ 10000) : SizeL ls := by
  have hl : ∀ l ∈ ls, l.name.length + (altsT l.alts).length ≤ 10000 := fun l hm => by
    have h1 := mem_textD hm
    have h2 := lineT_len l
    omega
  refine ⟨by have := len_textD ls; omega, fun l hm => ?_, fun l hm => by have := hl l hm; omega, fun l hm a ha => ?_, fun l hm a ha i hi => ?_⟩
  · have := hl l hm; have := len_altsT l.alts; omega
  · have := hl l hm; have := mem_altsT ha; have := len_altT a; omega
  · have := hl l hm; have := mem_altsT ha; have := mem_altT hi; have := itemT_len i; omega
theorem name_len {m : List UInt8} (h : nameB m = true) : m.length ≤ 32 := by
  unfold nameB at h
  rw [Bool.and_eq_true, Bool.and_eq_true] at h
  exact (of_decide_eq_true h.1.1).2
theorem term_len {m : List UInt8} (h : termB m = true) : m.length ≤ 32 := by
  unfold termB at h
  rw [Bool.and_eq_true] at h
  exact (of_decide_eq_true h.1).2
theorem valid_size {g : GramG} (h : ValidG g) : SizeG g := by
  have h1 := h.syms
  have h2 := h.few
  exact ⟨by omega, by omega, by omega, fun r hr => by have := (h.rules r hr).2.2.1; omega, fun n hn => by have := name_len (h.names n hn); omega, fun n hn => by have := term_len (h.terms n hn); omega⟩
theorem valid_int {g : GramG} (h : ValidG g) : IntG g := fun r hr s hs => by
  have h1 := h.syms
  have := ((h.rules r hr).2.2.2 s hs).1
  omega
theorem empty_int : IntG emptyG := by unfold IntG; decide
theorem empty_size : SizeG emptyG := ⟨by decide, by decide, by decide, by decide, by decide, by decide⟩
theorem empty_not : ¬ ValidG emptyG := fun h => by have := h.one; simp [emptyG] at this
/-- The terminals of items: which they are, and that none is there twice. -/
theorem addT_nodup {acc : List (List UInt8)} (i : ItemD) (h : acc.Nodup) : (addT acc i).Nodup := by
  unfold addT
  split
  · next q => rw [List.nodup_append]; exact ⟨h, by simp, fun a ha b hb => by have hb' : b = i.text := (by simpa using hb); subst hb'; exact fun e => q.2 (e ▸ ha)⟩
  · exact h
theorem foldT_nodup : ∀ (is : List ItemD) (acc : List (List UInt8)), acc.Nodup → (is.foldl addT acc).Nodup
  | [], _, h => h
  | i :: r, acc, h => foldT_nodup r _ (addT_nodup i h)
theorem addT_mem {acc : List (List UInt8)} {i : ItemD} {t : List UInt8} : t ∈ addT acc i ↔ t ∈ acc ∨ (i.term = true ∧ t = i.text) := by
  unfold addT
  split
  · next q => rw [List.mem_append]; simp [q.1]
  · next q =>
    refine ⟨.inl, fun h => h.elim id (fun h => ?_)⟩
    rcases Classical.em (i.text ∈ acc) with z | z
    · rw [h.2]; exact z
    · exact absurd ⟨h.1, z⟩ q
theorem foldT_mem : ∀ (is : List ItemD) (acc : List (List UInt8)) (t : List UInt8), t ∈ is.foldl addT acc ↔ t ∈ acc ∨ ∃ i ∈ is, i.term = true ∧ t = i.text
  | [], acc, t => by simp
  | i :: r, acc, t => by
    rw [List.foldl_cons, foldT_mem r, addT_mem]
    simp only [List.mem_cons]
    refine ⟨?_, ?_⟩
    · rintro ((h | h) | ⟨j, hj, h⟩)
      · exact .inl h
      · exact .inr ⟨i, .inl rfl, h⟩
      · exact .inr ⟨j, .inr hj, h⟩
    · rintro (h | ⟨j, rfl | hj, h⟩)
      · exact .inl (.inl h)
      · exact .inl (.inr h)
      · exact .inr ⟨j, hj, h⟩
theorem terms_mem {is : List ItemD} {t : List UInt8} : t ∈ termsOf is ↔ ∃ i ∈ is, i.term = true ∧ t = i.text := by
  unfold termsOf
  rw [foldT_mem]
  simp
theorem items_mem {ls : List LineD} {i : ItemD} : i ∈ itemsOf ls ↔ ∃ l ∈ ls, ∃ a ∈ l.alts, i ∈ a := by
  unfold itemsOf
  simp [List.mem_flatMap, List.mem_flatten]
theorem rules_mem {names terms : List (List UInt8)} {ls : List LineD} {r : RuleG} : r ∈ rulesOf names terms ls ↔ ∃ (i : Nat) (l : LineD), ls[i]? = some l ∧ ∃ a ∈ l.alts, r = ⟨(i : Int), a.map (symG names terms)⟩ := by
  unfold rulesOf
  rw [List.mem_flatMap]
  refine ⟨?_, ?_⟩
  · rintro ⟨⟨l, i⟩, h, h2⟩
    rw [List.mk_mem_zipIdx_iff_getElem?] at h
    obtain ⟨a, ha, rfl⟩ := List.mem_map.1 h2
    exact ⟨i, l, h, a, ha, rfl⟩
  · rintro ⟨i, l, h, a, ha, rfl⟩
    exact ⟨(l, i), List.mk_mem_zipIdx_iff_getElem?.2 h, List.mem_map.2 ⟨a, ha, rfl⟩⟩
theorem rules_len_from (f : Nat → List ItemD → RuleG) : ∀ (ls : List LineD) (k : Nat), ((ls.zipIdx k).flatMap fun p => p.1.alts.map (f p.2)).length = (ls.map fun l => l.alts.length).sum
  | [], k => rfl
  | l :: r, k => by
    rw [List.zipIdx_cons, List.flatMap_cons, List.length_append, rules_len_from f r (k + 1)]
    simp
theorem rules_len (names terms : List (List UInt8)) (ls : List LineD) : (rulesOf names terms ls).length = (ls.map fun l => l.alts.length).sum := rules_len_from (fun i a => ⟨(i : Int), a.map (symG names terms)⟩) ls 0
theorem sym_range {names terms : List (List UInt8)} {i : ItemD} (h1 : 1 ≤ names.length) (ht : i.term = true → i.text ∈ terms) (hn : i.term = false → i.text ∈ names) : -(terms.length : Int) ≤ symG names terms i ∧ symG names terms i < (names.length : Int) := by
  unfold symG
  cases hb : i.term with
  | true =>
    obtain ⟨k, hk, e, -⟩ := find_yes (ht hb)
    rw [if_pos rfl, e]
    omega
  | false =>
    obtain ⟨k, hk, e, -⟩ := find_yes (hn hb)
    rw [if_neg (by simp), e]
    omega
theorem res_valid {ls : List LineD} (hok : ∀ x ∈ ls, lineOk x) (hne : ls ≠ []) : ((resolveG ls).err = 0 ∧ ValidG (resolveG ls).g) ∨ ((resolveG ls).err ≠ 0 ∧ (resolveG ls).g = emptyG) := by
  unfold resolveG
  by_cases h1 : boolOf (BoundL ls) = true
  · rw [if_pos h1]; right; simp
  rw [if_neg h1]
  by_cases h2 : boolOf ((ls.map (·.name)).Nodup) = false
  · rw [if_pos h2]; right; simp
  rw [if_neg h2]
  by_cases h3 : boolOf (UndefL ls) = true
  · rw [if_pos h3]; right; simp
  rw [if_neg h3]
  by_cases h4 : 256 < (gramOf ls).names.length + (gramOf ls).terms.length
  · rw [if_pos h4]; right; simp
  rw [if_neg h4]
  by_cases h5 : boolOf ((gramOf ls).rules.Nodup) = false
  · rw [if_pos h5]; right; simp
  rw [if_neg h5]
  left
  refine ⟨rfl, ?_⟩
  show ValidG (gramOf ls)
  have hB : ¬ BoundL ls := fun h => h1 (boolOf_true h)
  have hN : (ls.map (·.name)).Nodup := of_boolOf (by simpa using h2)
  have hU : ¬ UndefL ls := fun h => h3 (boolOf_true h)
  have hR : (gramOf ls).rules.Nodup := of_boolOf (by simpa using h5)
  have hpos : 1 ≤ ls.length := List.length_pos_iff.2 hne
  have hnl : (gramOf ls).names.length = ls.length := by simp [gramOf]
  refine ⟨by omega, by omega, ?_, ?_, hN, ?_, ?_, foldT_nodup _ _ (by simp), ?_, hR⟩
  · show (rulesOf _ _ ls).length ≤ 4096
    rw [rules_len]
    rcases Nat.lt_or_ge 4096 (ls.map fun l => l.alts.length).sum with q | q
    · exact absurd (.inr (.inl q)) hB
    · exact q
  · intro n hn
    obtain ⟨l, hl, rfl⟩ := List.mem_map.1 (show n ∈ ls.map (·.name) from hn)
    exact (hok l hl).1
  · intro i hi
    rw [hnl] at hi
    obtain ⟨a, ha⟩ := List.exists_mem_of_ne_nil _ (hok _ (List.getElem_mem hi)).2.1
    exact ⟨_, rules_mem.2 ⟨i, ls[i], List.getElem?_eq_getElem hi, a, ha, rfl⟩, rfl⟩
  · intro t ht
    obtain ⟨i, hi, hti, rfl⟩ := terms_mem.1 (show t ∈ termsOf (itemsOf ls) from ht)
    obtain ⟨l, hl, a, ha, hia⟩ := items_mem.1 hi
    have := (hok l hl).2.2 a ha i hia
    unfold itemOk at this
    rw [if_pos hti] at this
    exact this
  · intro r hr
    obtain ⟨i, l, hl, a, ha, rfl⟩ := rules_mem.1 (show r ∈ rulesOf _ _ ls from hr)
    have hil : i < ls.length := by
      rcases Nat.lt_or_ge i ls.length with q | q
      · exact q
      · rw [List.getElem?_eq_none q] at hl; cases hl
    have hlm : l ∈ ls := List.mem_of_getElem? hl
    refine ⟨by simp, by simp only; omega, ?_, fun s hs => ?_⟩
    · simp only [List.length_map]
      rcases Nat.lt_or_ge 64 a.length with q | q
      · exact absurd (.inl ⟨l, hlm, a, ha, q⟩) hB
      · exact q
    · obtain ⟨it, hit, rfl⟩ := List.mem_map.1 hs
      have him : it ∈ itemsOf ls := items_mem.2 ⟨l, hlm, a, ha, hit⟩
      refine sym_range (by rw [← hnl] at hpos; exact hpos) (fun hb => terms_mem.2 ⟨it, him, hb, rfl⟩) (fun hb => ?_)
      rcases Classical.em (it.text ∈ ls.map (·.name)) with q | q
      · exact q
      · exact absurd ⟨it, him, hb, q⟩ hU
end Go.Proofs.Ytmcekpgmebanaaa

/-! The lines of a grammar that stands in order come to the grammar again (layer 14): plain mathematics. -/
namespace Go.Proofs.Ytmcekpgmebanaaa

theorem lines_names (g : GramG) : (linesG g).map (·.name) = g.names := by
  unfold linesG
  rw [List.map_map]
  have : ((fun l : LineD => l.name) ∘ fun p : List UInt8 × Nat => (⟨p.1, altsG g p.2⟩ : LineD)) = Prod.fst := rfl
  rw [this]
  simp
theorem flat_none {α β : Type} {is : List α} {f : α → List β} (h : ∀ i ∈ is, f i = []) : is.flatMap f = [] := by
  induction is with
  | nil => rfl
  | cons x r ih => rw [List.flatMap_cons, h x (by simp), ih (fun i hi => h i (by simp [hi]))]; rfl
theorem flat_same {α β : Type} {is : List α} {f k : α → List β} (h : ∀ i ∈ is, f i = k i) : is.flatMap f = is.flatMap k := by
  induction is with
  | nil => rfl
  | cons x r ih => rw [List.flatMap_cons, List.flatMap_cons, h x (by simp), ih (fun i hi => h i (by simp [hi]))]
def ruleF (l : List RuleG) (i : Nat) : List RuleG := l.filter fun r => decide (r.left = (i : Int))
/-- Rules by rising left sides, block by block. -/
theorem sorted_flat (k n : Nat) : ∀ (l : List RuleG), (l.Pairwise fun a b => a.left ≤ b.left) → (∀ r ∈ l, (k : Int) ≤ r.left ∧ r.left < ((k + n : Nat) : Int)) → (List.range' k n).flatMap (ruleF l) = l
  | [], _, _ => flat_none (fun i _ => rfl)
  | r :: l, hp, hr => by
    rw [List.pairwise_cons] at hp
    have ih := sorted_flat k n l hp.2 (fun x hx => hr x (by simp [hx]))
    obtain ⟨g1, g2⟩ := hr r (by simp)
    obtain ⟨j, hj⟩ : ∃ j : Nat, r.left = (j : Int) := ⟨r.left.toNat, by omega⟩
    obtain ⟨a, rfl⟩ : ∃ a, j = k + a := ⟨j - k, by omega⟩
    obtain ⟨b, rfl⟩ : ∃ b, n = a + (b + 1) := ⟨n - a - 1, by omega⟩
    have hs : List.range' k (a + (b + 1)) = List.range' k a ++ (k + a) :: List.range' (k + a + 1) b := by
      rw [← List.range'_append_1 (s := k) (m := a) (n := b + 1), List.range'_succ]
    rw [hs, List.flatMap_append, List.flatMap_cons] at ih ⊢
    have e1 : (List.range' k a).flatMap (ruleF (r :: l)) = [] := flat_none (fun i hi => by
      have hi' := (List.mem_range'_1.1 hi)
      unfold ruleF
      rw [List.filter_eq_nil_iff]
      intro x hx
      rcases List.mem_cons.1 hx with rfl | hx
      · simp; omega
      · have := hp.1 x hx; simp; omega)
    have e2 : (List.range' k a).flatMap (ruleF l) = [] := flat_none (fun i hi => by
      have hi' := (List.mem_range'_1.1 hi)
      unfold ruleF
      rw [List.filter_eq_nil_iff]
      intro x hx
      have := hp.1 x hx; simp; omega)
    have e3 : (List.range' (k + a + 1) b).flatMap (ruleF (r :: l)) = (List.range' (k + a + 1) b).flatMap (ruleF l) := flat_same (fun i hi => by
      have hi' := (List.mem_range'_1.1 hi)
      unfold ruleF
      rw [List.filter_cons_of_neg (by simp; omega)])
    have e4 : ruleF (r :: l) (k + a) = r :: ruleF l (k + a) := by
      unfold ruleF
      rw [List.filter_cons_of_pos (by simp [hj])]
    rw [e2, List.nil_append] at ih
    rw [e1, e3, e4, List.nil_append, List.cons_append, ih]
theorem sorted_pair {l : List RuleG} (h : ∀ i (hi : i + 1 < l.length), (l[i]'(by omega)).left ≤ (l[i + 1]'hi).left) : l.Pairwise fun a b => a.left ≤ b.left := by
  rw [List.pairwise_iff_getElem]
  intro i j hi hj hij
  obtain ⟨d, rfl⟩ : ∃ d, j = i + 1 + d := ⟨j - i - 1, by omega⟩
  induction d with
  | zero => exact h i hj
  | succ d ih => exact Int.le_trans (ih (by omega) (by omega)) (h (i + 1 + d) hj)
/-- A flat map over a grammar's lines is one over its nonterminals. -/
theorem lines_flat {β : Type} (g : GramG) (h : Nat → List (List ItemD) → List β) : ∀ (ns : List (List UInt8)) (k : Nat), ((((ns.zipIdx k).map fun p => (⟨p.1, altsG g p.2⟩ : LineD)).zipIdx k).flatMap fun p => h p.2 p.1.alts) = (List.range' k ns.length).flatMap fun i => h i (altsG g i)
  | [], k => rfl
  | n :: r, k => by
    rw [List.zipIdx_cons, List.map_cons, List.zipIdx_cons, List.flatMap_cons, lines_flat g h r (k + 1), List.length_cons, List.range'_succ, List.flatMap_cons]
theorem zip_flat {α β : Type} (h : α → List β) : ∀ (l : List α) (k : Nat), ((l.zipIdx k).flatMap fun p => h p.1) = l.flatMap h
  | [], k => rfl
  | x :: r, k => by rw [List.zipIdx_cons, List.flatMap_cons, List.flatMap_cons, zip_flat h r (k + 1)]
theorem getD_lt {l : List (List UInt8)} {k : Nat} (h : k < l.length) : l.getD k [] = l[k] := by simp [List.getD, List.getElem?_eq_getElem h]
theorem sym_item {g : GramG} (hN : g.names.Nodup) (hT : g.terms.Nodup) {s : Int} (h1 : -(g.terms.length : Int) ≤ s) (h2 : s < (g.names.length : Int)) : symG g.names g.terms (itemG g s) = s := by
  unfold itemG symG
  by_cases h : s < 0
  · rw [if_pos h]
    have hk : (-1 - s).toNat < g.terms.length := by omega
    simp only [if_true]
    rw [getD_lt hk, find_at (k := (-1 - s).toNat) hk rfl (fun j hj => nodup_iff.1 hT _ hk j hj)]
    omega
  · rw [if_neg h]
    have hk : s.toNat < g.names.length := by omega
    simp only [Bool.false_eq_true, if_false]
    rw [getD_lt hk, find_at (k := s.toNat) hk rfl (fun j hj => nodup_iff.1 hN _ hk j hj)]
    omega
/-- The terminals of symbols, in the order in which they are seen. -/
theorem seen_fold {g : GramG} (hT : g.terms.Nodup) : ∀ (l : List Int) (n m : Nat), (∀ s ∈ l, -(g.terms.length : Int) ≤ s) → n ≤ g.terms.length → seenG l n = some m → (l.map (itemG g)).foldl addT (g.terms.take n) = g.terms.take m
  | [], n, m, _, _, h => by
    have : n = m := by simpa [seenG] using h
    rw [this]; rfl
  | s :: l, n, m, hr, hn, h => by
    rw [List.map_cons, List.foldl_cons]
    unfold seenG at h
    have hr' : ∀ s ∈ l, -(g.terms.length : Int) ≤ s := fun x hx => hr x (by simp [hx])
    have h1 := hr s (by simp)
    by_cases hs : s < 0
    · by_cases hgt : (n : Int) < -1 - s
      · rw [if_pos ⟨hs, hgt⟩] at h; cases h
      · rw [if_neg (fun q => hgt q.2)] at h
        have hk : (-1 - s).toNat < g.terms.length := by omega
        have hit : itemG g s = ⟨true, g.terms[(-1 - s).toNat]⟩ := by unfold itemG; rw [if_pos hs, getD_lt hk]
        by_cases he : -1 - s = (n : Int)
        · rw [if_pos ⟨hs, he⟩] at h
          have hkn : (-1 - s).toNat = n := by omega
          have hnt : n < g.terms.length := by omega
          rw [← seen_fold hT l (n + 1) m hr' (by omega) h]
          congr 1
          rw [hit]
          unfold addT
          have hno : g.terms[n] ∉ g.terms.take n := fun hm => by
            obtain ⟨j, hj, e⟩ := List.getElem_of_mem hm
            rw [List.length_take] at hj
            rw [List.getElem_take] at e
            exact nodup_iff.1 hT n hnt j (by omega) e
          have : ((⟨true, g.terms[(-1 - s).toNat]⟩ : ItemD)).text = g.terms[n] := by simp only [hkn]
          rw [if_pos ⟨rfl, by rw [this]; exact hno⟩, this, List.take_succ_eq_append_getElem hnt]
        · rw [if_neg (fun q => he q.2)] at h
          rw [← seen_fold hT l n m hr' hn h]
          congr 1
          rw [hit]
          unfold addT
          have hlt : (-1 - s).toNat < n := by omega
          have hin : g.terms[(-1 - s).toNat] ∈ g.terms.take n := by
            rw [List.mem_take_iff_getElem]
            exact ⟨(-1 - s).toNat, by omega, rfl⟩
          rw [if_neg (fun q => q.2 hin)]
    · rw [if_neg (fun q => hs q.1), if_neg (fun q => hs q.1)] at h
      rw [← seen_fold hT l n m hr' hn h]
      congr 1
      unfold itemG addT
      rw [if_neg hs, if_neg (fun q => by cases q.1)]
theorem rules_same {g : GramG} (h : ValidG g) (ho : OrderG g) : rulesOf g.names g.terms (linesG g) = g.rules := by
  have hf := lines_flat g (fun i al => al.map fun a => (⟨(i : Int), a.map (symG g.names g.terms)⟩ : RuleG)) g.names 0
  have e : rulesOf g.names g.terms (linesG g) = (List.range' 0 g.names.length).flatMap fun i => (altsG g i).map fun a => (⟨(i : Int), a.map (symG g.names g.terms)⟩ : RuleG) := hf
  rw [e, flat_same (k := ruleF g.rules) (fun i _ => ?_)]
  · exact sorted_flat 0 g.names.length g.rules (sorted_pair ho.1) (fun r hr => ⟨by have := (h.rules r hr).1; omega, by have := (h.rules r hr).2.1; omega⟩)
  · unfold altsG ruleF
    rw [List.map_map]
    have hid : ∀ r ∈ g.rules.filter (fun r => decide (r.left = (i : Int))), ((fun a => (⟨(i : Int), a.map (symG g.names g.terms)⟩ : RuleG)) ∘ fun r : RuleG => r.right.map (itemG g)) r = r := by
      intro r hr
      obtain ⟨h1, h2⟩ := List.mem_filter.1 hr
      have h2' := of_decide_eq_true h2
      obtain ⟨-, -, -, h3⟩ := h.rules r h1
      refine RuleG.ext' h2'.symm ?_
      show (r.right.map (itemG g)).map (symG g.names g.terms) = r.right
      rw [List.map_map]
      refine (List.map_congr_left (fun s hs => ?_)).trans (List.map_id _)
      exact sym_item h.nodupN h.nodupT (h3 s hs).1 (h3 s hs).2
    exact (List.map_congr_left hid).trans (List.map_id _)
theorem items_same {g : GramG} (h : ValidG g) (ho : OrderG g) : itemsOf (linesG g) = (g.rules.flatMap (·.right)).map (itemG g) := by
  have hf := lines_flat g (fun _ al => al.flatten) g.names 0
  have e : itemsOf (linesG g) = (List.range' 0 g.names.length).flatMap fun i => (altsG g i).flatten := by
    unfold itemsOf
    rw [← zip_flat (fun l : LineD => l.alts.flatten) (linesG g) 0]
    exact hf
  have e2 : ((List.range' 0 g.names.length).flatMap (ruleF g.rules)).flatMap (fun r => r.right.map (itemG g)) = (List.range' 0 g.names.length).flatMap fun i => (altsG g i).flatten := by
    rw [List.flatMap_assoc]
    refine flat_same (fun i _ => ?_)
    unfold altsG ruleF
    rw [List.flatMap_def]
  rw [e, ← e2, sorted_flat 0 g.names.length g.rules (sorted_pair ho.1) (fun r hr => ⟨by have := (h.rules r hr).1; omega, by have := (h.rules r hr).2.1; omega⟩), List.map_flatMap]
theorem gram_same {g : GramG} (h : ValidG g) (ho : OrderG g) : gramOf (linesG g) = g := by
  have ht : termsOf (itemsOf (linesG g)) = g.terms := by
    rw [items_same h ho]
    have := seen_fold h.nodupT (g.rules.flatMap (·.right)) 0 g.terms.length (fun s hs => by
      obtain ⟨r, hr, hs⟩ := List.mem_flatMap.1 hs
      exact ((h.rules r hr).2.2.2 s hs).1) (Nat.zero_le _) ho.2
    rw [List.take_zero, List.take_length] at this
    exact this
  refine GramG.ext' (lines_names g) ht ?_
  show rulesOf ((linesG g).map (·.name)) (termsOf (itemsOf (linesG g))) (linesG g) = g.rules
  rw [lines_names, ht]
  exact rules_same h ho
theorem resolve_back {g : GramG} (h : ValidG g) (ho : OrderG g) : resolveG (linesG g) = ⟨g, 0⟩ := by
  have hlen : (linesG g).length = g.names.length := by simp [linesG]
  have hal : ∀ l ∈ linesG g, ∀ a ∈ l.alts, ∃ r ∈ g.rules, a = r.right.map (itemG g) := by
    intro l hl a ha
    obtain ⟨⟨n, i⟩, -, rfl⟩ := List.mem_map.1 hl
    obtain ⟨r, hr, rfl⟩ := List.mem_map.1 ha
    exact ⟨r, (List.mem_filter.1 hr).1, rfl⟩
  have hsum : ((linesG g).map fun l => l.alts.length).sum = g.rules.length := by
    rw [← rules_len g.names g.terms, rules_same h ho]
  unfold resolveG
  rw [gram_same h ho, lines_names]
  rw [if_neg (by
    rw [boolOf_false]
    · simp
    · rintro (⟨l, hl, a, ha, q⟩ | q | q)
      · obtain ⟨r, hr, rfl⟩ := hal l hl a ha
        have := (h.rules r hr).2.2.1
        simp at q; omega
      · have := h.few; omega
      · have := h.syms; omega)]
  rw [if_neg (by rw [boolOf_true h.nodupN]; simp)]
  rw [if_neg (by
    rw [boolOf_false]
    · simp
    · rintro ⟨i, hi, h1, h2⟩
      obtain ⟨l, hl, a, ha, hia⟩ := items_mem.1 hi
      obtain ⟨r, hr, rfl⟩ := hal l hl a ha
      obtain ⟨s, hs, rfl⟩ := List.mem_map.1 hia
      obtain ⟨k1, k2⟩ := (h.rules r hr).2.2.2 s hs
      rw [lines_names] at h2
      unfold itemG at h1 h2
      by_cases hneg : s < 0
      · rw [if_pos hneg] at h1; cases h1
      · rw [if_neg hneg] at h2
        have hk : s.toNat < g.names.length := by omega
        rw [getD_lt hk] at h2
        exact h2 (List.getElem_mem hk))]
  rw [if_neg (by have := h.syms; omega)]
  rw [if_neg (by rw [boolOf_true h.nodupR]; simp)]
theorem lines_size {g : GramG} (h : ValidG g) : SizeL (linesG g) := by
  have hv := valid_size h
  have hl : ∀ l ∈ linesG g, ∃ n ∈ g.names, l.name = n ∧ ∃ i, l.alts = altsG g i := by
    intro l hl
    obtain ⟨⟨n, i⟩, hm, rfl⟩ := List.mem_map.1 hl
    exact ⟨n, (List.fst_mem_of_mem_zipIdx hm), rfl, i, rfl⟩
  refine ⟨by simp [linesG]; exact hv.names, fun l hm => ?_, fun l hm => ?_, fun l hm a ha => ?_, fun l hm a ha i hi => ?_⟩
  · obtain ⟨n, -, -, i, e⟩ := hl l hm
    rw [e]
    unfold altsG
    rw [List.length_map]
    have := List.length_filter_le (fun r : RuleG => decide (r.left = (i : Int))) g.rules
    have := hv.rules
    omega
  · obtain ⟨n, hn, e, -⟩ := hl l hm
    rw [e]; exact hv.name n hn
  · obtain ⟨n, -, -, j, e⟩ := hl l hm
    rw [e] at ha
    obtain ⟨r, hr, rfl⟩ := List.mem_map.1 ha
    rw [List.length_map]
    exact hv.right r (List.mem_filter.1 hr).1
  · obtain ⟨n, -, -, j, e⟩ := hl l hm
    rw [e] at ha
    obtain ⟨r, hr, rfl⟩ := List.mem_map.1 ha
    obtain ⟨s, hs, rfl⟩ := List.mem_map.1 hi
    obtain ⟨k1, k2⟩ := (h.rules r (List.mem_filter.1 hr).1).2.2.2 s hs
    unfold itemG
    split
    · have hk : (-1 - s).toNat < g.terms.length := by omega
      simp only
      rw [getD_lt hk]; exact hv.term _ (List.getElem_mem hk)
    · have hk : s.toNat < g.names.length := by omega
      simp only
      rw [getD_lt hk]; exact hv.name _ (List.getElem_mem hk)
end Go.Proofs.Ytmcekpgmebanaaa

/-! Plain mathematics of canonical grammars (layer 16). Nothing here names the program. -/
namespace Go.Proofs.Ytmcekpgmebanaaa

/-- A rule in terms of texts. -/
abbrev RuleX := List UInt8 × List ItemD
def ruleX (ns ts : List (List UInt8)) (r : RuleG) : RuleX := (ns.getD r.left.toNat [], r.right.map (itemG ⟨ns, ts, []⟩))
def symX (ns ts : List (List UInt8)) (p : RuleX) : RuleG := ⟨findG ns p.1, p.2.map (symG ns ts)⟩
def rulesX (g : GramG) : List RuleX := g.rules.map (ruleX g.names g.terms)
/-- The canonical grammar. -/
def canonN (g : GramG) : List (List UInt8) := sortB lessB 1 g.names
def canonT (g : GramG) : List (List UInt8) := sortB lessB 0 g.terms
def canonG (g : GramG) : GramG := ⟨canonN g, canonT g, sortB lessR 0 ((rulesX g).map (symX (canonN g) (canonT g)))⟩
/-- Two grammars say the same. -/
structure EquivG (g h : GramG) : Prop where
  first : g.names.head? = h.names.head?
  names : List.Perm g.names h.names
  terms : List.Perm g.terms h.terms
  rules : List.Perm (rulesX g) (rulesX h)
theorem EquivG.symm {g h : GramG} (e : EquivG g h) : EquivG h g := ⟨e.first.symm, e.names.symm, e.terms.symm, e.rules.symm⟩
theorem EquivG.refl (g : GramG) : EquivG g g := ⟨rfl, List.Perm.refl _, List.Perm.refl _, List.Perm.refl _⟩
theorem EquivG.trans {a b c : GramG} (h : EquivG a b) (k : EquivG b c) : EquivG a c := ⟨h.first.trans k.first, h.names.trans k.names, h.terms.trans k.terms, h.rules.trans k.rules⟩
theorem find_ge (l : List (List UInt8)) (s : List UInt8) : -1 ≤ findG l s ∧ findG l s ≤ (l.length : Int) := by
  by_cases h : s ∈ l
  · obtain ⟨k, hk, e, -⟩ := find_yes h
    rw [e]
    omega
  · rw [find_no h]
    omega
theorem sym_ge {ns ts : List (List UInt8)} (h : ts.length ≤ 256) (i : ItemD) : -1000 ≤ symG ns ts i := by
  unfold symG
  split
  · have := (find_ge ts i.text).2; omega
  · have := (find_ge ns i.text).1; omega
theorem symX_few {ns ts : List (List UInt8)} (h : ts.length ≤ 256) (p : RuleX) : FewS (symX ns ts p) := fun s hs => by
  obtain ⟨i, -, rfl⟩ := List.mem_map.1 hs
  exact sym_ge h i
theorem canonN_perm (g : GramG) : List.Perm (canonN g) g.names := sortB_perm _ _ _
theorem canonT_perm (g : GramG) : List.Perm (canonT g) g.terms := sortB_perm _ _ _
theorem canonN_congr {g h : GramG} (e : EquivG g h) : canonN g = canonN h := by
  unfold canonN
  cases hg : g.names with
  | nil =>
    have := e.names.length_eq
    rw [hg] at this
    rw [List.eq_nil_of_length_eq_zero this.symm]
  | cons f l =>
    cases hh : h.names with
    | nil => have := e.names.length_eq; rw [hg, hh] at this; simp at this
    | cons f' l' =>
      have h1 := e.first
      have h2 := e.names
      rw [hg, hh] at h1 h2
      have h1' : f = f' := by simpa using h1
      subst h1'
      rw [sort_one, sort_one, sortB_unique ord_bytes (fun _ _ => trivial) (List.Perm.cons_inv h2)]
theorem canonT_congr {g h : GramG} (e : EquivG g h) : canonT g = canonT h := sortB_unique ord_bytes (fun _ _ => trivial) e.terms
theorem canon_congr {g h : GramG} (e : EquivG g h) (ht : g.terms.length ≤ 256) : canonG g = canonG h := by
  unfold canonG
  rw [canonN_congr e, canonT_congr e]
  congr 1
  refine sortB_unique ord_rules (fun y hy => ?_) (e.rules.map _)
  obtain ⟨p, -, rfl⟩ := List.mem_map.1 hy
  exact symX_few (by rw [← canonT_congr e, (canonT_perm g).length_eq]; exact ht) p

/-! Texts and symbols, there and back. -/
def ItemIn (ns ts : List (List UInt8)) (i : ItemD) : Prop := if i.term = true then i.text ∈ ts else i.text ∈ ns
theorem find_get {l : List (List UInt8)} {s : List UInt8} (h : s ∈ l) : ∃ k : Nat, findG l s = (k : Int) ∧ ∃ hk : k < l.length, l[k]'hk = s := by
  obtain ⟨k, hk, e, h1, -⟩ := find_yes h
  exact ⟨k, e, hk, h1⟩
theorem item_sym {ns ts : List (List UInt8)} {i : ItemD} (h : ItemIn ns ts i) : itemG ⟨ns, ts, []⟩ (symG ns ts i) = i := by
  obtain ⟨t, x⟩ := i
  unfold ItemIn at h
  cases t with
  | true =>
    obtain ⟨k, e, hk, h1⟩ := find_get (show x ∈ ts by simpa using h)
    unfold symG itemG
    simp only [if_true]
    rw [e, if_pos (by omega), show (-1 - (-1 - (k : Int))).toNat = k by omega, getD_lt hk, h1]
  | false =>
    obtain ⟨k, e, hk, h1⟩ := find_get (show x ∈ ns by simpa using h)
    unfold symG itemG
    simp only [Bool.false_eq_true, if_false]
    rw [e, if_neg (by omega), Int.toNat_natCast, getD_lt hk, h1]
theorem rule_sym {ns ts : List (List UInt8)} {p : RuleX} (h1 : p.1 ∈ ns) (h2 : ∀ i ∈ p.2, ItemIn ns ts i) : ruleX ns ts (symX ns ts p) = p := by
  obtain ⟨n, l⟩ := p
  obtain ⟨k, e, hk, hn⟩ := find_get h1
  unfold ruleX symX
  simp only
  rw [show findG ns n = (k : Int) from e, Int.toNat_natCast, getD_lt hk, hn, List.map_map]
  congr 1
  refine (List.map_congr_left (fun i hi => ?_)).trans (List.map_id _)
  exact item_sym (h2 i hi)
theorem item_in {g : GramG} {s : Int} (h1 : -(g.terms.length : Int) ≤ s) (h2 : s < (g.names.length : Int)) : ItemIn g.names g.terms (itemG ⟨g.names, g.terms, []⟩ s) := by
  unfold ItemIn itemG
  by_cases h : s < 0
  · rw [if_pos h]
    simp only [if_true]
    rw [getD_lt (by omega)]
    exact List.getElem_mem _
  · rw [if_neg h]
    simp only [Bool.false_eq_true, if_false]
    rw [getD_lt (by omega)]
    exact List.getElem_mem _
theorem ruleX_in {g : GramG} (hv : ValidG g) {p : RuleX} (hp : p ∈ rulesX g) : p.1 ∈ g.names ∧ ∀ i ∈ p.2, ItemIn g.names g.terms i := by
  obtain ⟨r, hr, rfl⟩ := List.mem_map.1 hp
  obtain ⟨h1, h2, -, h4⟩ := hv.rules r hr
  refine ⟨?_, fun i hi => ?_⟩
  · show g.names.getD r.left.toNat [] ∈ g.names
    rw [getD_lt (by omega)]
    exact List.getElem_mem _
  · obtain ⟨s, hs, rfl⟩ := List.mem_map.1 hi
    exact item_in (h4 s hs).1 (h4 s hs).2
theorem ItemIn.perm {ns ts ns' ts' : List (List UInt8)} {i : ItemD} (h : ItemIn ns ts i) (hn : List.Perm ns ns') (ht : List.Perm ts ts') : ItemIn ns' ts' i := by
  unfold ItemIn at h ⊢
  split
  · next q => rw [if_pos q] at h; exact ht.mem_iff.1 h
  · next q => rw [if_neg q] at h; exact hn.mem_iff.1 h
/-- The rules of the canonical grammar say what those of the grammar say. -/
theorem rulesX_canon {g : GramG} (hv : ValidG g) : List.Perm (rulesX (canonG g)) (rulesX g) := by
  have h1 : List.Perm (rulesX (canonG g)) (((rulesX g).map (symX (canonN g) (canonT g))).map (ruleX (canonN g) (canonT g))) := (sortB_perm lessR 0 _).map _
  rw [List.map_map] at h1
  refine h1.trans (List.Perm.of_eq ((List.map_congr_left (fun p hp => ?_)).trans (List.map_id _)))
  obtain ⟨k1, k2⟩ := ruleX_in hv hp
  exact rule_sym ((canonN_perm g).mem_iff.2 k1) (fun i hi => (k2 i hi).perm (canonN_perm g).symm (canonT_perm g).symm)
theorem canon_first {g : GramG} (h : 1 ≤ g.names.length) : (canonN g).head? = g.names.head? := by
  unfold canonN
  cases hg : g.names with
  | nil => rw [hg] at h; simp at h
  | cons f l => rw [sort_one]; rfl
theorem equiv_canon {g : GramG} (hv : ValidG g) : EquivG (canonG g) g := ⟨canon_first hv.one, canonN_perm g, canonT_perm g, rulesX_canon hv⟩
theorem ruleX_inj {g : GramG} (hv : ValidG g) {r s : RuleG} (hr : r ∈ g.rules) (hs : s ∈ g.rules) (e : ruleX g.names g.terms r = ruleX g.names g.terms s) : r = s := by
  have key : ∀ r ∈ g.rules, symX g.names g.terms (ruleX g.names g.terms r) = r := by
    intro r hr
    obtain ⟨h1, h2, -, h4⟩ := hv.rules r hr
    refine RuleG.ext' ?_ ?_
    · show findG g.names (g.names.getD r.left.toNat []) = r.left
      have hl : r.left.toNat < g.names.length := by omega
      rw [getD_lt hl]
      obtain ⟨k, e, -, hk⟩ := find_le hl
      have := hk.2 (fun j hj => nodup_iff.1 hv.nodupN _ hl j hj)
      omega
    · show (r.right.map (itemG ⟨g.names, g.terms, []⟩)).map (symG g.names g.terms) = r.right
      rw [List.map_map]
      refine (List.map_congr_left (fun s hs => ?_)).trans (List.map_id _)
      exact sym_item hv.nodupN hv.nodupT (h4 s hs).1 (h4 s hs).2
  rw [← key r hr, ← key s hs, e]
theorem nodup_map_inj {α β : Type} {f : α → β} {l : List α} (h : ∀ x ∈ l, ∀ y ∈ l, f x = f y → x = y) (hl : l.Nodup) : (l.map f).Nodup := by
  unfold List.Nodup at hl ⊢
  rw [List.pairwise_map]
  exact hl.imp_of_mem (fun ha hb hn e => hn (h _ ha _ hb e))
theorem nodup_of_map {α β : Type} {f : α → β} {l : List α} (h : (l.map f).Nodup) : l.Nodup := by
  unfold List.Nodup at h ⊢
  rw [List.pairwise_map] at h
  exact h.imp (fun hn e => hn (by rw [e]))
theorem rulesX_nodup {g : GramG} (hv : ValidG g) : (rulesX g).Nodup := nodup_map_inj (fun r hr s hs e => ruleX_inj hv hr hs e) hv.nodupR
/-- A grammar that says what a valid one says, within the limits, is valid. -/
theorem equiv_valid {g h : GramG} (hv : ValidG g) (e : EquivG h g) (hl : ∀ r ∈ h.rules, 0 ≤ r.left ∧ r.left < (h.names.length : Int) ∧ ∀ s ∈ r.right, -(h.terms.length : Int) ≤ s ∧ s < (h.names.length : Int)) : ValidG h where
  one := by rw [e.names.length_eq]; exact hv.one
  syms := by rw [e.names.length_eq, e.terms.length_eq]; exact hv.syms
  few := by
    have := e.rules.length_eq
    unfold rulesX at this
    rw [List.length_map, List.length_map] at this
    rw [this]; exact hv.few
  names := fun n hn => hv.names n (e.names.mem_iff.1 hn)
  nodupN := e.names.nodup_iff.2 hv.nodupN
  has := fun i hi => by
    have hN := e.names.nodup_iff.2 hv.nodupN
    have hm : h.names[i]'hi ∈ g.names := e.names.mem_iff.1 (List.getElem_mem hi)
    obtain ⟨j, hj, ej⟩ := List.getElem_of_mem hm
    obtain ⟨r, hr, er⟩ := hv.has j hj
    have hx : ruleX g.names g.terms r ∈ rulesX h := e.rules.mem_iff.2 (List.mem_map.2 ⟨r, hr, rfl⟩)
    obtain ⟨s, hs, es⟩ := List.mem_map.1 hx
    refine ⟨s, hs, ?_⟩
    have h1 : h.names.getD s.left.toNat [] = g.names.getD r.left.toNat [] := congrArg Prod.fst es
    obtain ⟨k1, k2, -⟩ := hl s hs
    rw [er, Int.toNat_natCast, getD_lt hj, ej, getD_lt (by omega)] at h1
    apply Classical.byContradiction
    intro hne
    have hlt : s.left.toNat < i ∨ i < s.left.toNat := by omega
    rcases hlt with q | q
    · exact nodup_iff.1 hN i hi _ q h1
    · exact nodup_iff.1 hN _ (by omega) i q h1.symm
  terms := fun t ht => hv.terms t (e.terms.mem_iff.1 ht)
  nodupT := e.terms.nodup_iff.2 hv.nodupT
  rules := fun r hr => by
    obtain ⟨k1, k2, k3⟩ := hl r hr
    refine ⟨k1, k2, ?_, k3⟩
    have hx : ruleX h.names h.terms r ∈ rulesX g := e.rules.mem_iff.1 (List.mem_map.2 ⟨r, hr, rfl⟩)
    obtain ⟨s, hs, es⟩ := List.mem_map.1 hx
    have h1 := congrArg (fun p : RuleX => p.2.length) es
    simp only [ruleX, List.length_map] at h1
    rw [← h1]
    exact (hv.rules s hs).2.2.1
  nodupR := nodup_of_map (f := ruleX h.names h.terms) (e.rules.nodup_iff.2 (rulesX_nodup hv))
theorem symIn_range {ns ts : List (List UInt8)} {i : ItemD} (h : ItemIn ns ts i) : -(ts.length : Int) ≤ symG ns ts i ∧ symG ns ts i < (ns.length : Int) := by
  unfold ItemIn at h
  unfold symG
  split
  · next q =>
    rw [if_pos q] at h
    obtain ⟨k, e, hk, -⟩ := find_get h
    omega
  · next q =>
    rw [if_neg q] at h
    obtain ⟨k, e, hk, -⟩ := find_get h
    omega
theorem canon_valid {g : GramG} (hv : ValidG g) : ValidG (canonG g) := by
  refine equiv_valid hv (equiv_canon hv) (fun r hr => ?_)
  have hm : r ∈ (rulesX g).map (symX (canonN g) (canonT g)) := sortB_mem.1 hr
  obtain ⟨p, hp, rfl⟩ := List.mem_map.1 hm
  obtain ⟨k1, k2⟩ := ruleX_in hv hp
  obtain ⟨k, e, hk, -⟩ := find_get ((canonN_perm g).mem_iff.2 k1)
  refine ⟨by show 0 ≤ findG (canonN g) p.1; omega, by show findG (canonN g) p.1 < ((canonN g).length : Int); omega, fun s hs => ?_⟩
  obtain ⟨i, hi, rfl⟩ := List.mem_map.1 hs
  exact symIn_range ((k2 i hi).perm (canonN_perm g).symm (canonT_perm g).symm)
theorem canon_terms {g : GramG} (hv : ValidG g) : g.terms.length ≤ 256 := by have := hv.syms; omega
/-- The canonical grammar is its own. -/
theorem canon_twice {g : GramG} (hv : ValidG g) : canonG (canonG g) = canonG g := canon_congr (equiv_canon hv) (canon_terms (canon_valid hv))
theorem canon_sorted {g : GramG} (hv : ValidG g) : (canonG g).rules.Pairwise fun a b => a.left ≤ b.left := by
  have h := sortB_rising ord_rules (l := (rulesX g).map (symX (canonN g) (canonT g))) (fun y hy => by
    obtain ⟨p, -, rfl⟩ := List.mem_map.1 hy
    exact symX_few (by rw [(canonT_perm g).length_eq]; exact canon_terms hv) p)
  refine List.Pairwise.imp (fun {a b} hab => ?_) h
  unfold lessR at hab
  split at hab
  · omega
  · have := of_decide_eq_false hab; omega
end Go.Proofs.Ytmcekpgmebanaaa

/-! Counting words, cutting sets, products head by head (layer 19): plain mathematics. Nothing here names the program. -/
namespace Go.Proofs.Ytmcekpgmebanaaa
open Go.Lib Go.Sort

/-- Of words, the last first: those that occur at least t times, in the order in which they got there. -/
def fndR (t : Nat) : Words → Words
  | [] => []
  | x :: r => if r.count x + 1 = t then fndR t r ++ [x] else fndR t r
def fndW (t : Nat) (ws : Words) : Words := fndR t ws.reverse
theorem count_rev (ws : Words) (x : List UInt8) : ws.reverse.count x = ws.count x := (List.reverse_perm ws).count_eq x
theorem fndW_nil (t : Nat) : fndW t [] = [] := rfl
theorem fndW_yes {t : Nat} {ws : Words} {x : List UInt8} (h : ws.count x + 1 = t) : fndW t (ws ++ [x]) = fndW t ws ++ [x] := by
  unfold fndW
  rw [List.reverse_append]
  show fndR t (x :: ws.reverse) = _
  rw [fndR, count_rev, if_pos h]
theorem fndW_no {t : Nat} {ws : Words} {x : List UInt8} (h : ¬ ws.count x + 1 = t) : fndW t (ws ++ [x]) = fndW t ws := by
  unfold fndW
  rw [List.reverse_append]
  show fndR t (x :: ws.reverse) = _
  rw [fndR, count_rev, if_neg h]
theorem fndR_spec (t : Nat) (ht : 0 < t) : ∀ r : Words, (fndR t r).Nodup ∧ (∀ x, x ∈ fndR t r ↔ t ≤ r.count x) ∧ (fndR t r).length ≤ r.length
  | [] => ⟨List.nodup_nil, fun x => by simp [fndR]; omega, by simp [fndR]⟩
  | y :: r => by
    obtain ⟨h1, h2, h3⟩ := fndR_spec t ht r
    rw [fndR]
    by_cases c : r.count y + 1 = t
    · rw [if_pos c]
      have hy : y ∉ fndR t r := fun q => by have := (h2 y).1 q; omega
      refine ⟨?_, fun x => ?_, by simp; omega⟩
      · rw [List.nodup_append]
        exact ⟨h1, by simp, fun a ha b hb => by rw [List.mem_singleton.1 hb]; exact fun e => hy (e ▸ ha)⟩
      · rw [List.mem_append, List.mem_singleton, h2 x]
        by_cases e : x = y
        · subst e; rw [List.count_cons_self]; exact ⟨fun _ => by omega, fun _ => .inr rfl⟩
        · rw [List.count_cons_of_ne (fun q => e q.symm)]; exact ⟨fun q => q.elim id (fun q => (e q).elim), .inl⟩
    · rw [if_neg c]
      refine ⟨h1, fun x => ?_, by simp; omega⟩
      rw [h2 x]
      by_cases e : x = y
      · subst e; rw [List.count_cons_self]; omega
      · rw [List.count_cons_of_ne (fun q => e q.symm)]
theorem fndW_nodup {t : Nat} (ht : 0 < t) (ws : Words) : (fndW t ws).Nodup := (fndR_spec t ht ws.reverse).1
theorem mem_fndW {t : Nat} (ht : 0 < t) {ws : Words} {x : List UInt8} : x ∈ fndW t ws ↔ t ≤ ws.count x := by
  unfold fndW
  rw [(fndR_spec t ht ws.reverse).2.1 x, count_rev]
theorem fndW_len {t : Nat} (ht : 0 < t) (ws : Words) : (fndW t ws).length ≤ ws.length := by
  have := (fndR_spec t ht ws.reverse).2.2
  rwa [List.length_reverse] at this
theorem lessB_le : ∀ a b : List UInt8, a ≤ b → a ≠ b → lessB a b = true
  | [], [], _, h => (h rfl).elim
  | [], _ :: _, _, _ => rfl
  | _ :: _, [], h, _ => by simp at h
  | a :: x, b :: y, h, hne => by
    rw [lessB]
    by_cases e : a = b
    · subst e
      rw [if_pos rfl]
      exact lessB_le x y ((List.cons_le_cons_iff.1 h).resolve_left (fun q => absurd q (by simp [UInt8.lt_irrefl]))).2 (fun q => hne (by rw [q]))
    · rw [if_neg e]
      have h1 := List.cons_le_cons_iff.1 h
      rcases h1 with h1 | ⟨h1, _⟩
      · exact decide_eq_true (by simpa [UInt8.lt_iff_toNat_lt] using h1)
      · exact (e h1).elim
def sortW (ss : Words) : Words := ss.mergeSort fun x y => decide (x ≤ y)
theorem set_sortW {ss : Words} (h : ss.Nodup) : setW (sortW ss) := by
  have tr : ∀ a b c : List UInt8, decide (a ≤ b) = true → decide (b ≤ c) = true → decide (a ≤ c) = true := fun a b c h1 h2 => by simp only [decide_eq_true_eq] at *; exact List.le_trans h1 h2
  have to : ∀ a b : List UInt8, (decide (a ≤ b) || decide (b ≤ a)) = true := fun a b => by simp only [Bool.or_eq_true, decide_eq_true_eq]; exact List.le_total a b
  have hp := List.pairwise_mergeSort tr to ss
  have hnd : (sortW ss).Nodup := (List.mergeSort_perm ss (fun x y => decide (x ≤ y))).nodup_iff.2 h
  exact (hp.and hnd).imp (fun {a b} h => lessB_le a b (by simpa using h.1) h.2)
theorem mem_sortW {ss : Words} {x : List UInt8} : x ∈ sortW ss ↔ x ∈ ss := (List.mergeSort_perm ss (fun x y => decide (x ≤ y))).mem_iff
theorem sortW_len (ss : Words) : (sortW ss).length = ss.length := by unfold sortW; simp
theorem fnd_one (ws : Words) : sortW (fndW 1 ws) = ofW ws :=
  (set_sortW (fndW_nodup (by decide) ws)).one (set_ofW ws) (fun x => by
    rw [mem_sortW, mem_fndW (by decide), mem_ofW]
    exact List.one_le_count_iff)
theorem fnd_two {a b : Words} (ha : setW a) (hb : setW b) : sortW (fndW 2 (a ++ b)) = a.filter fun x => decide (x ∈ b) :=
  (set_sortW (fndW_nodup (by decide) _)).one (ha.sublist List.filter_sublist) (fun x => by
    rw [mem_sortW, mem_fndW (by decide), List.mem_filter, List.count_append]
    have h1 : a.count x ≤ 1 := List.nodup_iff_count.1 ha.nodup x
    have h2 : b.count x ≤ 1 := List.nodup_iff_count.1 hb.nodup x
    have h3 : x ∈ a ↔ 1 ≤ a.count x := List.one_le_count_iff.symm
    have h4 : x ∈ b ↔ 1 ≤ b.count x := List.one_le_count_iff.symm
    rw [h3, decide_eq_true_eq, h4]
    omega)

/-- In order, not strictly. -/
def riseW (l : Words) : Prop := l.Pairwise fun a b => lessB b a = false
theorem lessB_pre : ∀ (a b : List UInt8) (n : Nat), lessB a b = true → lessB (b.take n) (a.take n) = false
  | [], [], _, h => by cases h
  | [], _ :: _, n, _ => by rw [List.take_nil]; cases h : List.take n _ <;> rfl
  | _ :: _, [], _, h => by cases h
  | a :: x, b :: y, 0, _ => rfl
  | a :: x, b :: y, n + 1, h => by
    rw [List.take_succ_cons, List.take_succ_cons, lessB]
    rw [lessB] at h
    by_cases e : a = b
    · subst e
      rw [if_pos rfl] at h ⊢
      exact lessB_pre x y n h
    · rw [if_neg e] at h
      rw [if_neg (fun q => e q.symm)]
      simp only [decide_eq_true_eq, decide_eq_false_iff_not] at h ⊢
      omega
theorem rise_cut {l : Words} (h : setW l) (k : Int) : riseW (l.map fun x => cutW x k) :=
  List.pairwise_map.2 (h.imp fun {a b} q => lessB_pre a b k.toNat q)
theorem riseW.get {l : Words} (h : riseW l) {i j : Nat} (hij : i < j) (hj : j < l.length) : lessB (l[j]'hj) (l[i]'(Nat.lt_trans hij hj)) = false :=
  List.pairwise_iff_getElem.1 h i j _ hj hij
theorem compactUpTo_get (d : Array (List UInt8)) (m : Nat) (hm : m ≤ d.size) (h : riseW d.toList) : setW (compactUpTo d m) ∧ (∀ x, x ∈ compactUpTo d m ↔ ∃ j, j < m ∧ d[j]! = x) := by
  induction m with
  | zero => exact ⟨List.Pairwise.nil, fun x => by simp [compactUpTo]⟩
  | succ m ih =>
    obtain ⟨h1, h2⟩ := ih (by omega)
    rw [compactUpTo_succ]
    cases hk : keeps d m with
    | false =>
      rw [if_neg (by simp), List.append_nil]
      refine ⟨h1, fun x => ?_⟩
      rw [h2 x]
      have hm : 0 < m ∧ d[m]! = d[m - 1]! := by
        unfold keeps at hk
        simp only [decide_eq_false_iff_not, not_or, ne_eq, Decidable.not_not] at hk
        exact ⟨by omega, hk.2⟩
      constructor
      · rintro ⟨j, hj, e⟩; exact ⟨j, by omega, e⟩
      · rintro ⟨j, hj, e⟩
        by_cases hjm : j = m
        · subst hjm; exact ⟨j - 1, by omega, by rw [← hm.2]; exact e⟩
        · exact ⟨j, by omega, e⟩
    | true =>
      rw [if_pos rfl]
      have hmd : m < d.size := by omega
      refine ⟨?_, fun x => ?_⟩
      · unfold setW
        rw [List.pairwise_append]
        refine ⟨h1, by simp, fun a ha b hb => ?_⟩
        rw [List.mem_singleton.1 hb]
        obtain ⟨j, hj, rfl⟩ := (h2 a).1 ha
        have hj' : j < d.size := by omega
        have hne : d[m]! ≠ d[m - 1]! := by
          unfold keeps at hk
          rw [decide_eq_true_eq] at hk
          exact hk.resolve_left (by omega)
        have g : ∀ i, i < m → lessB d[m]! d[i]! = false := fun i hi => by
          have := h.get hi (by simpa using hmd)
          rw [getElem!_pos d m hmd, getElem!_pos d i (by omega)]
          simpa using this
        have gp : lessB d[m - 1]! d[m]! = true := lessB_total _ _ hne (g (m - 1) (by omega))
        by_cases hjm : j = m - 1
        · subst hjm; exact gp
        · have gj : lessB d[m - 1]! d[j]! = false := by
            have := h.get (show j < m - 1 by omega) (by simpa using (show m - 1 < d.size by omega))
            rw [getElem!_pos d (m - 1) (by omega), getElem!_pos d j (by omega)]
            simpa using this
          by_cases e : d[j]! = d[m - 1]!
          · rw [e]; exact gp
          · exact lessB_trans _ _ _ (lessB_total _ _ (fun q => e q.symm) gj) gp
      · rw [List.mem_append, List.mem_singleton, h2 x]
        constructor
        · rintro (⟨j, hj, e⟩ | e)
          · exact ⟨j, by omega, e⟩
          · exact ⟨m, by omega, e.symm⟩
        · rintro ⟨j, hj, e⟩
          by_cases hjm : j = m
          · subst hjm; exact .inr e.symm
          · exact .inl ⟨j, by omega, e⟩
def cutsW (l : Words) (k : Int) : Words := ofW (l.map fun x => cutW x k)
theorem compact_cut {l : Words} (h : setW l) (k : Int) : compact (l.map fun x => cutW x k) = cutsW l k := by
  obtain ⟨m, hm⟩ : ∃ m, m = l.map fun x => cutW x k := ⟨_, rfl⟩
  have hr := rise_cut h k
  unfold cutsW
  rw [← hm] at hr ⊢
  obtain ⟨h1, h2⟩ := compactUpTo_get m.toArray m.length (by simp) (by simpa using hr)
  refine setW.one h1 (set_ofW _) (fun x => ?_)
  rw [show compact m = compactUpTo m.toArray m.length from rfl] at *
  rw [h2 x, mem_ofW]
  constructor
  · rintro ⟨j, hj, rfl⟩
    rw [getElem!_pos m.toArray j (by simpa using hj)]
    simp
  · intro hx
    obtain ⟨j, hj, rfl⟩ := List.getElem_of_mem hx
    exact ⟨j, hj, by rw [getElem!_pos m.toArray j (by simpa using hj)]; simp⟩
theorem set_cutsW (l : Words) (k : Int) : setW (cutsW l k) := set_ofW _
theorem mem_cutsW {l : Words} {k : Int} {x : List UInt8} : x ∈ cutsW l k ↔ ∃ y ∈ l, x = cutW y k := by
  unfold cutsW
  rw [mem_ofW, List.mem_map]
  exact ⟨fun ⟨y, h, e⟩ => ⟨y, h, e.symm⟩, fun ⟨y, h, e⟩ => ⟨y, h, e.symm⟩⟩
theorem cutsW_len (l : Words) (k : Int) : (cutsW l k).length ≤ l.length := by
  have := ofW_len (l.map fun x => cutW x k)
  rwa [List.length_map] at this
theorem cut_cut {y : List UInt8} {k m : Int} (h : m ≤ k) : cutW (cutW y k) m = cutW y m := by
  unfold cutW
  rw [List.take_take]
  congr 1
  omega
theorem cuts_cuts {l : Words} {k m : Int} (h : m ≤ k) : cutsW (cutsW l k) m = cutsW l m :=
  (set_cutsW _ _).one (set_cutsW _ _) (fun x => by
    rw [mem_cutsW, mem_cutsW]
    constructor
    · rintro ⟨y, hy, rfl⟩
      obtain ⟨z, hz, rfl⟩ := mem_cutsW.1 hy
      exact ⟨z, hz, cut_cut h⟩
    · rintro ⟨z, hz, rfl⟩
      exact ⟨cutW z k, mem_cutsW.2 ⟨z, hz, rfl⟩, (cut_cut h).symm⟩)
/-- A head as it was cut, and a tail cut to what remains. -/
theorem cut_cat (x y : List UInt8) (k : Int) : cutW x k ++ cutW y (k - ((cutW x k).length : Int)) = cutW (x ++ y) k := by
  unfold cutW
  rw [List.take_append, List.length_take]
  congr 2
  omega
def rowsW (k : Int) (b : Words) (x : List UInt8) : Words := (cutsW b (k - (x.length : Int))).map fun y => x ++ y
def prodW (k : Int) (b hs : Words) : Words := hs.flatMap (rowsW k b)
theorem prodW_snoc (k : Int) (b hs : Words) (x : List UInt8) : prodW k b (hs ++ [x]) = prodW k b hs ++ rowsW k b x := by
  unfold prodW
  rw [List.flatMap_append]
  simp
theorem mem_prodW {k : Int} {a b hs : Words} (hh : ∀ x, x ∈ hs → x ∈ cutsW a k) {w : List UInt8} (h : w ∈ prodW k b hs) : w ∈ catW k a b := by
  unfold prodW at h
  obtain ⟨x, hx, hw⟩ := List.mem_flatMap.1 h
  obtain ⟨u, hu, rfl⟩ := mem_cutsW.1 (hh x hx)
  unfold rowsW at hw
  obtain ⟨y, hy, rfl⟩ := List.mem_map.1 hw
  obtain ⟨z, hz, rfl⟩ := mem_cutsW.1 hy
  exact mem_catW.2 ⟨u, hu, z, hz, cut_cat u z k⟩
theorem prod_all {k : Int} {a b hs : Words} (hh : ∀ x, x ∈ hs ↔ x ∈ cutsW a k) : ofW (prodW k b hs) = catW k a b :=
  (set_ofW _).one (set_catW k a b) (fun w => by
    rw [mem_ofW]
    refine ⟨mem_prodW (fun x hx => (hh x).1 hx), fun h => ?_⟩
    obtain ⟨x, hx, y, hy, rfl⟩ := mem_catW.1 h
    unfold prodW rowsW
    refine List.mem_flatMap.2 ⟨cutW x k, (hh _).2 (mem_cutsW.2 ⟨x, hx, rfl⟩), List.mem_map.2 ⟨_, mem_cutsW.2 ⟨y, hy, rfl⟩, cut_cat x y k⟩⟩)
/-- What was found of the product is not more than the product. -/
theorem found_le {k : Int} {a b hs : Words} (hh : ∀ x, x ∈ hs → x ∈ cutsW a k) : (fndW 1 (prodW k b hs)).length ≤ (catW k a b).length :=
  nodup_le _ _ (fndW_nodup (by decide) _) (fun w hw => mem_prodW hh (List.one_le_count_iff.1 ((mem_fndW (by decide)).1 hw)))
/-- One row of the product is not longer than the product. -/
theorem row_le {k : Int} {a b : Words} {x : List UInt8} (hx : x ∈ cutsW a k) : (cutsW b (k - (x.length : Int))).length ≤ (catW k a b).length := by
  have h1 : (rowsW k b x).length = (cutsW b (k - (x.length : Int))).length := by unfold rowsW; rw [List.length_map]
  rw [← h1]
  refine nodup_le _ _ ?_ (fun w hw => mem_prodW (hs := [x]) (fun y hy => by rw [List.mem_singleton.1 hy]; exact hx) (by unfold prodW; simpa using hw))
  unfold rowsW
  have h2 := (set_cutsW b (k - (x.length : Int))).nodup
  unfold List.Nodup at h2 ⊢
  rw [List.pairwise_map]
  exact h2.imp (fun hn e => hn (List.append_cancel_left e))
theorem found_all {k : Int} {a b hs : Words} (hh : ∀ x, x ∈ hs ↔ x ∈ cutsW a k) : (fndW 1 (prodW k b hs)).length = (catW k a b).length := by
  rw [← prod_all hh, ← fnd_one, sortW_len]
end Go.Proofs.Ytmcekpgmebanaaa

/-! Plain mathematics of the program's canonical grammars (layer 16): an order of numbers, what it picks, its places, rewritten rules. Nothing here names the program. -/
namespace Go.Proofs.Ytmcekpgmebanaaa
open Go.Lib

theorem cmpI_lt (x y : Int) : (compareInt x y < 0) ↔ x < y := by
  unfold compareInt
  split
  · simp; omega
  · split <;> simp <;> omega
theorem cmpI_eq (x y : Int) : (compareInt x y = 0) ↔ x = y := by
  unfold compareInt
  split
  · simp; omega
  · split
    · simp; omega
    · simp; omega
theorem cmpB_lt : ∀ x y : List UInt8, (compareBytes x y < 0) ↔ lessB x y = true
  | [], [] => by simp [compareBytes, lessB]
  | [], _ :: _ => by simp [compareBytes, lessB]
  | _ :: _, [] => by simp [compareBytes, lessB]
  | a :: x, b :: y => by
    unfold compareBytes lessB
    by_cases h : a = b
    · subst h
      rw [if_neg (by simp), if_neg (by simp), if_pos rfl]
      exact cmpB_lt x y
    · rw [if_neg h]
      by_cases h1 : a < b
      · rw [if_pos h1]
        have := UInt8.lt_iff_toNat_lt.1 h1
        simp [this]
      · rw [if_neg h1]
        have h2 : ¬ a.toNat < b.toNat := fun q => h1 (UInt8.lt_iff_toNat_lt.2 q)
        have h3 : a.toNat ≠ b.toNat := fun e => h (UInt8.toNat_inj.1 e)
        have h4 : b < a := UInt8.lt_iff_toNat_lt.2 (by omega)
        rw [if_pos h4]
        simp [h2]

/-- The order of names: the first one stays. -/
def cfN (l : List (List UInt8)) (a b : Nat) : Int := if a = 0 ∨ b = 0 then compareInt a b else compareBytes (l.getD a []) (l.getD b [])
def cfT (l : List (List UInt8)) (a b : Nat) : Int := compareBytes (l.getD a []) (l.getD b [])
theorem cfT_lt (l : List (List UInt8)) (a b : Nat) : cfT l a b < 0 ↔ lessB (l.getD a []) (l.getD b []) = true := cmpB_lt _ _
theorem cfN_lt (l : List (List UInt8)) (a b : Nat) : cfN l a b < 0 ↔ (if a = 0 ∨ b = 0 then a < b else lessB (l.getD a []) (l.getD b []) = true) := by
  unfold cfN
  split
  · rw [cmpI_lt]; omega
  · exact cmpB_lt _ _
/-- What a sort asks of an order of the numbers below n. -/
structure OrdN (n : Nat) (cf : Nat → Nat → Int) : Prop where
  irrefl : ∀ x, x < n → ¬ cf x x < 0
  trans : ∀ x y z, x < n → y < n → z < n → cf x y < 0 → cf y z < 0 → cf x z < 0
  ntrans : ∀ x y z, x < n → y < n → z < n → ¬ cf x y < 0 → ¬ cf y z < 0 → ¬ cf x z < 0
theorem lessB_ntrans {a b c : List UInt8} (h1 : ¬ lessB a b = true) (h2 : ¬ lessB b c = true) : ¬ lessB a c = true := by
  intro h
  have h1' : lessB a b = false := by simpa using h1
  have h2' : lessB b c = false := by simpa using h2
  have := le_trans_of ord_bytes (a := c) (b := b) (c := a) trivial trivial h2' h1'
  rw [this] at h
  cases h
theorem ordT (l : List (List UInt8)) (n : Nat) : OrdN n (cfT l) where
  irrefl x _ := by rw [cfT_lt, lessB_irr]; simp
  trans x y z _ _ _ h1 h2 := by rw [cfT_lt] at *; exact lessB_trans _ _ _ h1 h2
  ntrans x y z _ _ _ h1 h2 := by rw [cfT_lt] at *; exact lessB_ntrans h1 h2
theorem ordN (l : List (List UInt8)) (n : Nat) : OrdN n (cfN l) where
  irrefl x _ := by
    rw [cfN_lt]
    split
    · omega
    · rw [lessB_irr]; simp
  trans x y z _ _ _ h1 h2 := by
    rw [cfN_lt] at *
    by_cases hx : x = 0
    · subst hx
      rw [if_pos (.inl rfl)] at h1 ⊢
      by_cases hz : z = 0
      · subst hz
        rw [if_pos (.inr rfl)] at h2
        omega
      · omega
    · by_cases hz : z = 0
      · subst hz
        rw [if_pos (.inr rfl)] at h2
        omega
      · by_cases hy : y = 0
        · subst hy
          rw [if_pos (.inr rfl)] at h1
          omega
        · rw [if_neg (by omega)] at h1 h2 ⊢
          exact lessB_trans _ _ _ h1 h2
  ntrans x y z _ _ _ h1 h2 := by
    rw [cfN_lt] at *
    by_cases hx : x = 0
    · subst hx
      rw [if_pos (.inl rfl)] at h1 ⊢
      have hy : y = 0 := by omega
      subst hy
      rw [if_pos (.inl rfl)] at h2
      exact h2
    · by_cases hz : z = 0
      · subst hz
        rw [if_pos (.inr rfl)]
        omega
      · by_cases hy : y = 0
        · subst hy
          rw [if_pos (.inl rfl)] at h2
          omega
        · rw [if_neg (by omega)] at h1 h2 ⊢
          exact lessB_ntrans h1 h2
/-- The numbers below n, in an order. -/
structure SortedN (n : Nat) (cf : Nat → Nat → Int) (p : List Nat) : Prop where
  perm : List.Perm p (List.range n)
  order : p.Pairwise fun a b => ¬ cf b a < 0
theorem SortedN.len {n : Nat} {cf : Nat → Nat → Int} {p : List Nat} (h : SortedN n cf p) : p.length = n := by rw [h.perm.length_eq, List.length_range]
theorem SortedN.lt {n : Nat} {cf : Nat → Nat → Int} {p : List Nat} (h : SortedN n cf p) {x : Nat} (hx : x ∈ p) : x < n := List.mem_range.1 (h.perm.mem_iff.1 hx)
theorem SortedN.nodup {n : Nat} {cf : Nat → Nat → Int} {p : List Nat} (h : SortedN n cf p) : p.Nodup := h.perm.nodup_iff.2 List.nodup_range
theorem SortedN.has {n : Nat} {cf : Nat → Nat → Int} {p : List Nat} (h : SortedN n cf p) {x : Nat} (hx : x < n) : x ∈ p := h.perm.mem_iff.2 (List.mem_range.2 hx)
def pickN (l : List (List UInt8)) (p : List Nat) : List (List UInt8) := p.map fun k => l.getD k []
theorem range_get (l : List (List UInt8)) : (List.range l.length).map (fun k => l.getD k []) = l := by
  refine List.ext_getElem (by simp) (fun i h1 h2 => ?_)
  rw [List.getElem_map, List.getElem_range, getD_lt (by simpa using h2)]
theorem pick_perm {l : List (List UInt8)} {cf : Nat → Nat → Int} {p : List Nat} (h : SortedN l.length cf p) : List.Perm (pickN l p) l := by
  have := h.perm.map (fun k => l.getD k [])
  rwa [range_get] at this
theorem pick_terms {l : List (List UInt8)} {p : List Nat} (h : SortedN l.length (cfT l) p) : pickN l p = sortB lessB 0 l := by
  refine rising_unique ord_bytes (fun _ _ => trivial) ((pick_perm h).trans (sortB_perm lessB 0 l).symm) ?_ (sortB_rising ord_bytes (fun _ _ => trivial))
  refine List.pairwise_map.2 (h.order.imp (fun {a b} q => ?_))
  rw [cfT_lt] at q
  simpa using q
theorem pick_names {l : List (List UInt8)} {p : List Nat} (h : SortedN l.length (cfN l) p) : pickN l p = sortB lessB 1 l := by
  cases hl : l with
  | nil =>
    have := h.len
    rw [hl] at this
    rw [List.eq_nil_of_length_eq_zero this]
    rfl
  | cons f l' =>
    have hlen := h.len
    have h0 : 0 ∈ p := h.has (by rw [hl]; simp)
    obtain ⟨x, p', rfl⟩ : ∃ x p', p = x :: p' := by
      cases p with
      | nil => simp at h0
      | cons x p' => exact ⟨x, p', rfl⟩
    have ho := List.pairwise_cons.1 h.order
    have hx : x = 0 := by
      rcases List.mem_cons.1 h0 with q | q
      · exact q.symm
      · have := ho.1 0 q
        rw [cfN_lt, if_pos (.inl rfl)] at this
        omega
    subst hx
    have hnd := List.nodup_cons.1 h.nodup
    have hpp := pick_perm h
    rw [← hl, sort_one_eq hl]
    unfold pickN at hpp ⊢
    rw [List.map_cons] at hpp ⊢
    have e0 : l.getD 0 [] = f := by rw [hl]; rfl
    rw [e0] at hpp ⊢
    have hp2 : List.Perm (p'.map fun k => l.getD k []) l' := List.Perm.cons_inv (a := f) (by rw [← hl]; exact hpp)
    congr 1
    refine rising_unique ord_bytes (fun _ _ => trivial) (hp2.trans (sortB_perm lessB 0 l').symm) ?_ (sortB_rising ord_bytes (fun _ _ => trivial))
    refine List.pairwise_map.2 ?_
    refine List.Pairwise.imp_of_mem (fun {a b} ha hb q => ?_) ho.2
    rw [cfN_lt, if_neg ?_] at q
    · simpa using q
    · rintro (e | e)
      · subst e; exact hnd.1 hb
      · subst e; exact hnd.1 ha
where
  sort_one_eq {l l' : List (List UInt8)} {f : List UInt8} (hl : l = f :: l') : sortB lessB 1 l = f :: sortB lessB 0 l' := by rw [hl, sort_one]
/-- Of each number, at which place it stands. -/
def placesN (p : List Nat) : List Int := (List.range p.length).map fun k => (p.idxOf k : Int)
/-- .. while the first i have been entered. -/
def placesTo (p : List Nat) (i : Nat) : List Int := (List.range p.length).map fun k => if p.idxOf k < i then (p.idxOf k : Int) else 0
theorem places_zero (p : List Nat) : placesTo p 0 = List.replicate p.length 0 := by
  unfold placesTo
  refine List.ext_getElem (by simp) (fun i h1 h2 => ?_)
  simp
theorem places_end {p : List Nat} (h : ∀ k, k < p.length → k ∈ p) : placesTo p p.length = placesN p := by
  unfold placesTo placesN
  refine List.map_congr_left (fun k hk => ?_)
  rw [if_pos (List.idxOf_lt_length_iff.2 (h k (List.mem_range.1 hk)))]
theorem places_next {p : List Nat} (hn : p.Nodup) {i : Nat} (hi : i < p.length) : (placesTo p i).set (p[i]'hi) (i : Int) = placesTo p (i + 1) := by
  unfold placesTo
  refine List.ext_getElem (by simp) (fun k h1 h2 => ?_)
  rw [List.getElem_set]
  have hk : k < p.length := by simpa using h2
  simp only [List.getElem_map, List.getElem_range]
  by_cases e : p[i]'hi = k
  · rw [if_pos e]
    have : p.idxOf k = i := by rw [← e]; exact List.Nodup.idxOf_getElem hn i hi
    rw [this, if_pos (by omega)]
  · rw [if_neg e]
    by_cases q : p.idxOf k < i
    · rw [if_pos q, if_pos (by omega)]
    · rw [if_neg q]
      by_cases q2 : p.idxOf k = i
      · exfalso
        apply e
        have h3 : p.idxOf k < p.length := by omega
        have := List.getElem_idxOf h3
        simp only [q2] at this
        exact this
      · rw [if_neg (by omega)]
theorem places_len (p : List Nat) : (placesN p).length = p.length := by unfold placesN; simp
theorem places_find {l : List (List UInt8)} {cf : Nat → Nat → Int} {p : List Nat} (h : SortedN l.length cf p) (hn : l.Nodup) {k : Nat} (hk : k < l.length) : (placesN p).getD k 0 = findG (pickN l p) (l.getD k []) := by
  have hm : k ∈ p := h.has hk
  have hi : p.idxOf k < p.length := List.idxOf_lt_length_iff.2 hm
  have hg : p[p.idxOf k]'hi = k := List.getElem_idxOf hi
  have hlen : (pickN l p).length = p.length := by unfold pickN; simp
  have e1 : (placesN p).getD k 0 = (p.idxOf k : Int) := by
    unfold placesN
    rw [List.getD_eq_getElem?_getD, List.getElem?_eq_getElem (by simp; rw [h.len]; exact hk)]
    simp
  rw [e1]
  symm
  refine find_at (by rw [hlen]; exact hi) ?_ (fun j hj => ?_)
  · unfold pickN
    rw [List.getElem_map, hg]
  · unfold pickN
    rw [List.getElem_map]
    have hj2 : j < p.length := by omega
    have h1 : p[j]'hj2 ≠ k := fun e => by
      have := List.Nodup.idxOf_getElem h.nodup j hj2
      rw [e] at this
      omega
    have h2 : p[j]'hj2 < l.length := h.lt (List.getElem_mem _)
    rw [getD_lt h2, getD_lt hk]
    intro e
    rcases Nat.lt_trichotomy (p[j]'hj2) k with q | q | q
    · exact nodup_iff.1 hn k hk _ q e
    · exact h1 q
    · exact nodup_iff.1 hn _ h2 _ q e.symm
/-- A symbol, a rule with the new numbers. -/
def renS (qn qt : List Int) (s : Int) : Int := if s < 0 then -1 - qt.getD (-1 - s).toNat 0 else qn.getD s.toNat 0
def renR (qn qt : List Int) (r : RuleG) : RuleG := ⟨renS qn qt r.left, r.right.map (renS qn qt)⟩
theorem ren_rule {g : GramG} (hv : ValidG g) {cn ct : Nat → Nat → Int} {pn pt : List Nat} (hn : SortedN g.names.length cn pn) (ht : SortedN g.terms.length ct pt) {r : RuleG} (hr : r ∈ g.rules) :
    renR (placesN pn) (placesN pt) r = symX (pickN g.names pn) (pickN g.terms pt) (ruleX g.names g.terms r) := by
  obtain ⟨h1, h2, -, h4⟩ := hv.rules r hr
  refine RuleG.ext' ?_ ?_
  · show renS (placesN pn) (placesN pt) r.left = findG (pickN g.names pn) (g.names.getD r.left.toNat [])
    unfold renS
    rw [if_neg (by omega)]
    exact places_find hn hv.nodupN (by omega)
  · show r.right.map _ = (r.right.map _).map _
    rw [List.map_map]
    refine List.map_congr_left (fun s hs => ?_)
    have := h4 s hs
    show renS _ _ s = symG _ _ (itemG _ s)
    unfold renS symG itemG
    by_cases q : s < 0
    · rw [if_pos q, if_pos q, if_pos rfl, places_find ht hv.nodupT (by omega)]
    · rw [if_neg q, if_neg q, if_neg (by simp), places_find hn hv.nodupN (by omega)]
theorem ren_rules {g : GramG} (hv : ValidG g) {cn ct : Nat → Nat → Int} {pn pt : List Nat} (hn : SortedN g.names.length cn pn) (ht : SortedN g.terms.length ct pt) :
    g.rules.map (renR (placesN pn) (placesN pt)) = (rulesX g).map (symX (pickN g.names pn) (pickN g.terms pt)) := by
  unfold rulesX
  rw [List.map_map]
  exact List.map_congr_left (fun r hr => ren_rule hv hn ht hr)

/-- Two symbols compared: terminals first, greater numbers of terminals behind. -/
def cmpS (a b : Int) : Int := if a < 0 ∧ b < 0 then compareInt b a else compareInt a b
def cmpL : List Int → List Int → Int
  | [], [] => 0
  | [], _ :: _ => -1
  | _ :: _, [] => 1
  | a :: x, b :: y => if cmpS a b ≠ 0 then cmpS a b else cmpL x y
def cmpR (a b : RuleG) : Int := if compareInt a.left b.left ≠ 0 then compareInt a.left b.left else cmpL a.right b.right
theorem cmpS_lt {a b : Int} (ha : -1000 ≤ a) (hb : -1000 ≤ b) : cmpS a b < 0 ↔ rankG a < rankG b := by
  unfold cmpS rankG
  split
  · rw [cmpI_lt, if_pos (by omega), if_pos (by omega)]; omega
  · rw [cmpI_lt]
    split <;> split <;> omega
theorem cmpS_eq (a b : Int) : cmpS a b = 0 ↔ a = b := by
  unfold cmpS
  split
  · rw [cmpI_eq]; omega
  · rw [cmpI_eq]
theorem cmpL_lt : ∀ {a b : List Int}, (∀ s ∈ a, -1000 ≤ s) → (∀ s ∈ b, -1000 ≤ s) → (cmpL a b < 0 ↔ lessSyms a b = true)
  | [], [], _, _ => by simp [cmpL, lessSyms]
  | [], _ :: _, _, _ => by simp [cmpL, lessSyms]
  | _ :: _, [], _, _ => by simp [cmpL, lessSyms]
  | a :: x, b :: y, ha, hb => by
    unfold cmpL lessSyms
    by_cases e : a = b
    · rw [if_neg (by simp [(cmpS_eq a b).2 e]), if_pos e]
      exact cmpL_lt (fun s hs => ha s (List.mem_cons_of_mem _ hs)) (fun s hs => hb s (List.mem_cons_of_mem _ hs))
    · rw [if_pos (fun h => e ((cmpS_eq a b).1 h)), if_neg e, cmpS_lt (ha a (by simp)) (hb b (by simp))]
      simp
theorem cmpR_lt {a b : RuleG} (ha : FewS a) (hb : FewS b) : cmpR a b < 0 ↔ lessR a b = true := by
  unfold cmpR lessR
  by_cases e : a.left = b.left
  · rw [if_neg (by simp [(cmpI_eq _ _).2 e]), if_pos e]
    exact cmpL_lt ha hb
  · rw [if_pos (fun h => e ((cmpI_eq _ _).1 h)), if_neg e, cmpI_lt]
    simp
/-- The order of the rules of a list, by their numbers. -/
def cfR (l : List RuleG) (a b : Nat) : Int := cmpR (l.getD a ⟨0, []⟩) (l.getD b ⟨0, []⟩)
theorem few_getD {l : List RuleG} (h : ∀ r ∈ l, FewS r) {k : Nat} (hk : k < l.length) : FewS (l.getD k ⟨0, []⟩) := by
  rw [show l.getD k ⟨0, []⟩ = l[k] by simp [List.getD, List.getElem?_eq_getElem hk]]
  exact h _ (List.getElem_mem _)
theorem ordR {l : List RuleG} (h : ∀ r ∈ l, FewS r) : OrdN l.length (cfR l) where
  irrefl x hx := by
    unfold cfR
    rw [cmpR_lt (few_getD h hx) (few_getD h hx), ord_rules.irr]
    simp
  trans x y z hx hy hz h1 h2 := by
    unfold cfR at *
    rw [cmpR_lt (few_getD h (by assumption)) (few_getD h (by assumption))] at *
    exact ord_rules.trans _ _ _ h1 h2
  ntrans x y z hx hy hz h1 h2 := by
    unfold cfR at *
    rw [cmpR_lt (few_getD h (by assumption)) (few_getD h (by assumption))] at *
    have h1' : lessR (l.getD x ⟨0, []⟩) (l.getD y ⟨0, []⟩) = false := by simpa using h1
    have h2' : lessR (l.getD y ⟨0, []⟩) (l.getD z ⟨0, []⟩) = false := by simpa using h2
    rw [le_trans_of ord_rules (few_getD h hz) (few_getD h hy) h2' h1']
    simp
def pickR (l : List RuleG) (p : List Nat) : List RuleG := p.map fun k => l.getD k ⟨0, []⟩
theorem pick_rules {l : List RuleG} (h : ∀ r ∈ l, FewS r) {p : List Nat} (hs : SortedN l.length (cfR l) p) : pickR l p = sortB lessR 0 l := by
  have hp : List.Perm (pickR l p) l := by
    have := hs.perm.map (fun k => l.getD k ⟨0, []⟩)
    rwa [show (List.range l.length).map (fun k => l.getD k ⟨0, []⟩) = l from List.ext_getElem (by simp) (fun i h1 h2 => by
      simp [List.getD, List.getElem?_eq_getElem h2])] at this
  refine rising_unique ord_rules (fun y hy => h y (hp.mem_iff.1 hy)) (hp.trans (sortB_perm lessR 0 l).symm) ?_ (sortB_rising ord_rules h)
  refine List.pairwise_map.2 (List.Pairwise.imp_of_mem (fun {a b} ha hb q => ?_) hs.order)
  unfold cfR at q
  rw [cmpR_lt (few_getD h (hs.lt hb)) (few_getD h (hs.lt ha))] at q
  simpa using q
theorem canon_parts {g : GramG} (hv : ValidG g) {pn pt pr : List Nat} (hn : SortedN g.names.length (cfN g.names) pn) (ht : SortedN g.terms.length (cfT g.terms) pt)
    (hr : SortedN (g.rules.map (renR (placesN pn) (placesN pt))).length (cfR (g.rules.map (renR (placesN pn) (placesN pt)))) pr) :
    (⟨pickN g.names pn, pickN g.terms pt, pickR (g.rules.map (renR (placesN pn) (placesN pt))) pr⟩ : GramG) = canonG g := by
  have e1 : pickN g.names pn = canonN g := pick_names hn
  have e2 : pickN g.terms pt = canonT g := pick_terms ht
  have hfew : ∀ r ∈ g.rules.map (renR (placesN pn) (placesN pt)), FewS r := by
    rw [ren_rules hv hn ht]
    intro r hr
    obtain ⟨x, -, rfl⟩ := List.mem_map.1 hr
    refine symX_few ?_ x
    rw [e2, (canonT_perm g).length_eq]
    have := hv.syms
    omega
  rw [pick_rules hfew hr, ren_rules hv hn ht, e1, e2]
  rfl
end Go.Proofs.Ytmcekpgmebanaaa

/-! Lists of words that are not too long. (Split out of WsD.) -/
namespace Go.Proofs.Ytmcekpgmebanaaa
open Go.RowKit


/-- Not too many words, none too long. -/
def ShortW (l : Words) : Prop := l.length ≤ 100000 ∧ ∀ x ∈ l, x.length ≤ 1000
theorem ShortW.max {l : Words} (h : ShortW l) : ∀ x ∈ l, x.length ≤ maxLen := fun x hx => by have := h.2 x hx; simp only [maxLen]; omega
end Go.Proofs.Ytmcekpgmebanaaa

/-! Sorting that keeps the order of equals, on lists: blocks that are sorted, their merging by rotation. Plain mathematics; nothing here names the program. -/
namespace Go.Proofs.Ytmcekpgmebanaaa

section
variable {α : Type} (key : α → Nat) (R : α → α → Prop)

/-- Smaller keys first. -/
def SrtK (l : List α) : Prop := l.Pairwise fun x y => key x ≤ key y
/-- Those of equal key stand in a given order. -/
def StbK (l : List α) : Prop := l.Pairwise fun x y => key x = key y → R x y
/-- The same things, and what stood in order still does. -/
def MovK (l m : List α) : Prop := List.Perm m l ∧ (StbK key R l → StbK key R m)
variable {key R}
theorem MovK.refl (l : List α) : MovK key R l l := ⟨List.Perm.refl _, id⟩
theorem MovK.trans {a b c : List α} (h : MovK key R a b) (k : MovK key R b c) : MovK key R a c := ⟨k.1.trans h.1, fun q => k.2 (h.2 q)⟩
theorem MovK.len {a b : List α} (h : MovK key R a b) : b.length = a.length := h.1.length_eq
theorem MovK.frame {a b : List α} (h : MovK key R a b) (p s : List α) : MovK key R (p ++ a ++ s) (p ++ b ++ s) := by
  refine ⟨(h.1.append_left p).append_right s, fun q => ?_⟩
  unfold StbK at q ⊢
  rw [List.pairwise_append, List.pairwise_append] at q ⊢
  obtain ⟨⟨q1, q2, q3⟩, q4, q5⟩ := q
  refine ⟨⟨q1, h.2 q2, fun x hx y hy => q3 x hx y (h.1.mem_iff.1 hy)⟩, q4, fun x hx y hy => q5 x ?_ y hy⟩
  rcases List.mem_append.1 hx with hx | hx
  · exact List.mem_append.2 (.inl hx)
  · exact List.mem_append.2 (.inr (h.1.mem_iff.1 hx))
/-- Two neighbours, where the second has the smaller key, change places. -/
theorem MovK.swap {x y : α} (h : key y < key x) : MovK key R [x, y] [y, x] := by
  refine ⟨List.Perm.swap _ _ _, fun _ => ?_⟩
  unfold StbK
  simp only [List.pairwise_cons, List.mem_singleton, List.not_mem_nil]
  exact ⟨fun z hz e => by subst hz; omega, fun _ h => h.elim, List.Pairwise.nil⟩
/-- Two neighbouring pieces, where all of the second have smaller keys, change places. -/
theorem MovK.rot {u v : List α} (h : ∀ x ∈ u, ∀ y ∈ v, key y < key x) : MovK key R (u ++ v) (v ++ u) := by
  refine ⟨List.perm_append_comm, fun q => ?_⟩
  unfold StbK at q ⊢
  rw [List.pairwise_append] at q ⊢
  exact ⟨q.2.1, q.1, fun x hx y hy e => by have := h y hy x hx; omega⟩
theorem SrtK.append {u v : List α} (hu : SrtK key u) (hv : SrtK key v) (h : ∀ x ∈ u, ∀ y ∈ v, key x ≤ key y) : SrtK key (u ++ v) := List.pairwise_append.2 ⟨hu, hv, h⟩
theorem SrtK.nil : SrtK key ([] : List α) := List.Pairwise.nil
theorem SrtK.left {u v : List α} (h : SrtK key (u ++ v)) : SrtK key u := (List.pairwise_append.1 h).1
theorem SrtK.right {u v : List α} (h : SrtK key (u ++ v)) : SrtK key v := (List.pairwise_append.1 h).2.1
theorem SrtK.cross {u v : List α} (h : SrtK key (u ++ v)) : ∀ x ∈ u, ∀ y ∈ v, key x ≤ key y := (List.pairwise_append.1 h).2.2
theorem SrtK.at {l : List α} (h : SrtK key l) {i j : Nat} (hij : i ≤ j) (hj : j < l.length) : key (l[i]'(by omega)) ≤ key (l[j]'hj) := by
  rcases Nat.lt_or_eq_of_le hij with q | q
  · exact List.pairwise_iff_getElem.1 h i j (by omega) hj q
  · subst q; exact Nat.le_refl _

/-- Blocks of k things each, the last one of at most so many, each sorted. -/
inductive BlkK (key : α → Nat) (k : Nat) : List α → Prop
  | last (x : List α) (h : x.length ≤ k) (hs : SrtK key x) : BlkK key k x
  | cons (x r : List α) (h : x.length = k) (hs : SrtK key x) (hr : BlkK key k r) : BlkK key k (x ++ r)
theorem BlkK.head {k : Nat} {l : List α} (h : BlkK key k l) (hk : k ≤ l.length) : ∃ x r, l = x ++ r ∧ x.length = k ∧ SrtK key x ∧ BlkK key k r := by
  cases h with
  | last _ h hs => exact ⟨l, [], by simp, by omega, hs, .last [] (Nat.zero_le _) .nil⟩
  | cons x r h hs hr => exact ⟨x, r, rfl, h, hs, hr⟩
theorem BlkK.one {k : Nat} {l : List α} (h : BlkK key k l) (hk : l.length ≤ k) : SrtK key l := by
  cases h with
  | last _ h hs => exact hs
  | cons x r h hs hr =>
    rw [List.length_append] at hk
    have : r = [] := List.eq_nil_of_length_eq_zero (by omega)
    subst this
    rw [List.append_nil]
    exact hs
theorem BlkK.two {k : Nat} {l : List α} (h : BlkK key k l) (hk : 2 * k ≤ l.length) : ∃ x y r, l = x ++ y ++ r ∧ x.length = k ∧ y.length = k ∧ SrtK key x ∧ SrtK key y ∧ BlkK key k r := by
  obtain ⟨x, r1, rfl, hx, sx, h1⟩ := h.head (by omega)
  rw [List.length_append] at hk
  obtain ⟨y, r, rfl, hy, sy, h2⟩ := h1.head (by omega)
  exact ⟨x, y, r, by rw [List.append_assoc], hx, hy, sx, sy, h2⟩
theorem BlkK.rest {k : Nat} {l : List α} (h : BlkK key k l) (hk : k < l.length) (hk2 : l.length < 2 * k) : ∃ x y, l = x ++ y ∧ x.length = k ∧ y ≠ [] ∧ SrtK key x ∧ SrtK key y := by
  obtain ⟨x, r, rfl, hx, sx, h1⟩ := h.head (by omega)
  rw [List.length_append] at hk hk2
  exact ⟨x, r, rfl, hx, fun e => by subst e; simp at hk; omega, sx, h1.one (by omega)⟩
/-- What has been done: whatever follows in blocks, the whole is in blocks. -/
def DoneK (key : α → Nat) (k : Nat) (d : List α) : Prop := ∀ r, BlkK key k r → BlkK key k (d ++ r)
theorem DoneK.nil (k : Nat) : DoneK key k ([] : List α) := fun _ h => h
theorem DoneK.snoc {k : Nat} {d x : List α} (h : DoneK key k d) (hl : x.length = k) (hs : SrtK key x) : DoneK key k (d ++ x) := fun r hr => by
  rw [List.append_assoc]
  exact h _ (.cons x r hl hs hr)
theorem DoneK.whole {k : Nat} {d x : List α} (h : DoneK key k d) (hl : x.length ≤ k) (hs : SrtK key x) : BlkK key k (d ++ x) := h _ (.last x hl hs)
end

/-- Binary search in a sorted list: those before are below the mark, those behind are not. -/
structure BinK {α : Type} (key : α → Nat) (v : List α) (e : Nat) (i j : Nat) : Prop where
  le : i ≤ j
  top : j ≤ v.length
  lo : ∀ c (h : c < v.length), c < i → key (v[c]'h) < e
  hi : ∀ c (h : c < v.length), j ≤ c → e ≤ key (v[c]'h)
theorem BinK.start {α : Type} {key : α → Nat} (v : List α) (e : Nat) : BinK key v e 0 v.length := ⟨Nat.zero_le _, Nat.le_refl _, fun _ _ h => by omega, fun _ _ h => by omega⟩
theorem BinK.up {α : Type} {key : α → Nat} {v : List α} {e i j h : Nat} (hs : SrtK key v) (hb : BinK key v e i j) (_ : i ≤ h) (hj : h < j) (hk : ∀ q : h < v.length, key (v[h]'q) < e) : BinK key v e (h + 1) j :=
  ⟨hj, hb.top, fun c hc hch => Nat.lt_of_le_of_lt (hs.at (by omega) (by have := hb.top; omega)) (hk (by have := hb.top; omega)), hb.hi⟩
theorem BinK.down {α : Type} {key : α → Nat} {v : List α} {e i j h : Nat} (hs : SrtK key v) (hb : BinK key v e i j) (hh : i ≤ h) (hj : h < j) (hk : ∀ q : h < v.length, e ≤ key (v[h]'q)) : BinK key v e i h :=
  ⟨hh, by have := hb.top; omega, hb.lo, fun c hc hch => Nat.le_trans (hk (by have := hb.top; omega)) (hs.at hch hc)⟩
theorem BinK.parts {α : Type} {key : α → Nat} {v : List α} {e i : Nat} (hb : BinK key v e i i) : (∀ x ∈ v.take i, key x < e) ∧ (∀ x ∈ v.drop i, e ≤ key x) := by
  refine ⟨fun x hx => ?_, fun x hx => ?_⟩
  · obtain ⟨c, hc, rfl⟩ := List.getElem_of_mem hx
    rw [List.length_take] at hc
    rw [List.getElem_take]
    exact hb.lo c (by omega) (by omega)
  · obtain ⟨c, hc, rfl⟩ := List.getElem_of_mem hx
    rw [List.length_drop] at hc
    rw [List.getElem_drop]
    exact hb.hi (i + c) (by omega) (by omega)

section
variable {α : Type} {key : α → Nat} {R : α → α → Prop}
/-- One thing ahead of a sorted list is put into its place. -/
theorem ins_left {e : α} {v : List α} (hs : SrtK key v) {i : Nat} (hb : BinK key v (key e) i i) : MovK key R (e :: v) (v.take i ++ e :: v.drop i) ∧ SrtK key (v.take i ++ e :: v.drop i) := by
  obtain ⟨h1, h2⟩ := hb.parts
  have hs2 : SrtK key (v.take i ++ v.drop i) := by rw [List.take_append_drop]; exact hs
  refine ⟨?_, SrtK.append hs2.left (List.pairwise_cons.2 ⟨h2, hs2.right⟩) (fun x hx y hy => ?_)⟩
  · have hm : MovK key R ([e] ++ v.take i) (v.take i ++ [e]) := MovK.rot (fun x hx y hy => by
      rw [List.mem_singleton.1 hx]; exact h1 y hy)
    have := hm.frame [] (v.drop i)
    simp only [List.nil_append, List.append_assoc, List.take_append_drop, List.cons_append] at this
    exact this
  · rcases List.mem_cons.1 hy with rfl | hy
    · exact Nat.le_of_lt (h1 x hx)
    · exact hs2.cross x hx y hy
/-- One thing behind a sorted list is put into its place: behind those that are not above it. -/
theorem ins_right {e : α} {u : List α} (hs : SrtK key u) {i : Nat} (hb : BinK key u (key e + 1) i i) : MovK key R (u ++ [e]) (u.take i ++ e :: u.drop i) ∧ SrtK key (u.take i ++ e :: u.drop i) := by
  obtain ⟨h1, h2⟩ := hb.parts
  have hs2 : SrtK key (u.take i ++ u.drop i) := by rw [List.take_append_drop]; exact hs
  refine ⟨?_, SrtK.append hs2.left (List.pairwise_cons.2 ⟨fun y hy => by have := h2 y hy; omega, hs2.right⟩) (fun x hx y hy => ?_)⟩
  · have hm : MovK key R (u.drop i ++ [e]) ([e] ++ u.drop i) := MovK.rot (fun x hx y hy => by
      rw [List.mem_singleton.1 hy]; have := h2 x hx; omega)
    have := hm.frame (u.take i) []
    simp only [List.append_nil, List.singleton_append] at this
    rw [← List.append_assoc, List.take_append_drop] at this
    exact this
  · rcases List.mem_cons.1 hy with rfl | hy
    · have := h1 x hx; omega
    · exact hs2.cross x hx y hy

/-- The search of two halves: how many of the first half's end and of the second half's beginning change places. The pair of c is n - 1 - c, where n is twice the place of the middle, less the start; c counts from the start of the whole. -/
structure SymK (key : α → Nat) (u v : List α) (n lo hi start r : Nat) : Prop where
  le : start ≤ r
  lo_ : lo ≤ start
  hi_ : r ≤ hi
  below : ∀ c (h : c < u.length) (h' : n - 1 - c - u.length < v.length), lo ≤ c → c < start → key (u[c]'h) ≤ key (v[n - 1 - c - u.length]'h')
  above : ∀ c (h : c < u.length) (h' : n - 1 - c - u.length < v.length), r ≤ c → c < hi → key (v[n - 1 - c - u.length]'h') < key (u[c]'h)
/-- The bounds of that search. -/
structure SymB (lu lv n lo hi : Nat) : Prop where
  lo_hi : lo ≤ hi
  hi_u : hi ≤ lu
  n_lo : n ≤ lo + lu + lv
  n_hi : hi + lu ≤ n
  endLo : lo = 0 ∨ n = lo + lu + lv
  endHi : hi = lu ∨ n = hi + lu
theorem SymK.up {u v : List α} {n lo hi start r c : Nat} (hu : SrtK key u) (hv : SrtK key v) (hb : SymB u.length v.length n lo hi) (h : SymK key u v n lo hi start r) (h1 : start ≤ c) (h2 : c < r)
    (hk : ∀ (q : c < u.length) (q' : n - 1 - c - u.length < v.length), key (u[c]'q) ≤ key (v[n - 1 - c - u.length]'q')) : SymK key u v n lo hi (c + 1) r := by
  have a1 := h.hi_
  have a2 := hb.hi_u
  have a3 := hb.n_lo
  have a4 := hb.n_hi
  have a5 := h.lo_
  refine ⟨h2, by omega, h.hi_, fun d hd hd' hl hc => ?_, h.above⟩
  have e1 : key (u[d]'hd) ≤ key (u[c]'(by omega)) := hu.at (by omega) (by omega)
  have e2 := hk (by omega) (by omega)
  have e3 : key (v[n - 1 - c - u.length]'(by omega)) ≤ key (v[n - 1 - d - u.length]'hd') := hv.at (by omega) hd'
  omega
theorem SymK.down {u v : List α} {n lo hi start r c : Nat} (hu : SrtK key u) (hv : SrtK key v) (hb : SymB u.length v.length n lo hi) (h : SymK key u v n lo hi start r) (h1 : start ≤ c) (h2 : c < r)
    (hk : ∀ (q : c < u.length) (q' : n - 1 - c - u.length < v.length), key (v[n - 1 - c - u.length]'q') < key (u[c]'q)) : SymK key u v n lo hi start c := by
  have a1 := h.hi_
  have a2 := hb.hi_u
  have a3 := hb.n_lo
  have a4 := hb.n_hi
  have a5 := h.lo_
  refine ⟨h1, by omega, by omega, h.below, fun d hd hd' hl hc => ?_⟩
  have e1 : key (u[c]'(by omega)) ≤ key (u[d]'hd) := hu.at (by omega) hd
  have e2 := hk (by omega) (by omega)
  have e3 : key (v[n - 1 - d - u.length]'hd') ≤ key (v[n - 1 - c - u.length]'(by omega)) := hv.at (by omega) (by omega)
  omega
/-- The pieces behind the search: u = u1 u2, v = v1 v2; u2 and v1 change places. -/
theorem SymK.parts {u v : List α} {n lo hi s : Nat} (hu : SrtK key u) (hv : SrtK key v) (hb : SymB u.length v.length n lo hi) (h : SymK key u v n lo hi s s) :
    (∀ x ∈ u.drop s, ∀ y ∈ v.take (n - s - u.length), key y < key x) ∧ (∀ x ∈ u.take s, ∀ y ∈ v.drop (n - s - u.length), key x ≤ key y) := by
  have a1 := h.hi_
  have a2 := hb.hi_u
  have a3 := hb.n_lo
  have a4 := hb.n_hi
  have a5 := h.lo_
  have hu2 : SrtK key (u.take s ++ u.drop s) := by rw [List.take_append_drop]; exact hu
  have hv2 : SrtK key (v.take (n - s - u.length) ++ v.drop (n - s - u.length)) := by rw [List.take_append_drop]; exact hv
  refine ⟨fun x hx y hy => ?_, fun x hx y hy => ?_⟩
  · obtain ⟨c, hc, rfl⟩ := List.getElem_of_mem hx
    obtain ⟨d, hd, rfl⟩ := List.getElem_of_mem hy
    rw [List.length_drop] at hc
    rw [List.length_take] at hd
    rw [List.getElem_drop, List.getElem_take]
    by_cases hsh : s < hi
    · have e2 := h.above s (by omega) (by omega) (Nat.le_refl _) hsh
      have e1 : key (u[s]'(by omega)) ≤ key (u[s + c]'(by omega)) := hu.at (by omega) (by omega)
      have e3 : key (v[d]'(by omega)) ≤ key (v[n - 1 - s - u.length]'(by omega)) := hv.at (by omega) (by omega)
      omega
    · rcases hb.endHi with q | q <;> omega
  · obtain ⟨c, hc, rfl⟩ := List.getElem_of_mem hx
    obtain ⟨d, hd, rfl⟩ := List.getElem_of_mem hy
    rw [List.length_take] at hc
    rw [List.length_drop] at hd
    rw [List.getElem_drop, List.getElem_take]
    by_cases hsl : lo < s
    · have e2 := h.below (s - 1) (by omega) (by omega) (by omega) (by omega)
      have e1 : key (u[c]'(by omega)) ≤ key (u[s - 1]'(by omega)) := hu.at (by omega) (by omega)
      have e3 : key (v[n - 1 - (s - 1) - u.length]'(by omega)) ≤ key (v[n - s - u.length + d]'(by omega)) := hv.at (by omega) (by omega)
      omega
    · rcases hb.endLo with q | q <;> omega
/-- Two sorted halves, of which the middle pieces have changed places and then each half has been sorted. -/
theorem sym_merge {u1 u2 v1 v2 x y : List α} (hm : ∀ a ∈ u2, ∀ b ∈ v1, key b < key a) (hl : ∀ a ∈ u1, ∀ b ∈ v2, key a ≤ key b) (hu : SrtK key (u1 ++ u2)) (hv : SrtK key (v1 ++ v2))
    (hx : MovK key R (u1 ++ v1) x) (hy : MovK key R (u2 ++ v2) y) (sx : SrtK key x) (sy : SrtK key y) : MovK key R (u1 ++ u2 ++ (v1 ++ v2)) (x ++ y) ∧ SrtK key (x ++ y) := by
  refine ⟨?_, SrtK.append sx sy (fun a ha b hb => ?_)⟩
  · have m1 : MovK key R (u1 ++ (u2 ++ v1) ++ v2) (u1 ++ (v1 ++ u2) ++ v2) := (MovK.rot hm).frame u1 v2
    have m2 : MovK key R ([] ++ (u1 ++ v1) ++ (u2 ++ v2)) ([] ++ x ++ (u2 ++ v2)) := hx.frame [] _
    have m3 : MovK key R (x ++ (u2 ++ v2) ++ []) (x ++ y ++ []) := hy.frame x []
    have e1 : u1 ++ u2 ++ (v1 ++ v2) = u1 ++ (u2 ++ v1) ++ v2 := by simp
    have e2 : u1 ++ (v1 ++ u2) ++ v2 = [] ++ (u1 ++ v1) ++ (u2 ++ v2) := by simp
    have e3 : [] ++ x ++ (u2 ++ v2) = x ++ (u2 ++ v2) ++ [] := by simp
    have e4 : x ++ y ++ [] = x ++ y := by simp
    rw [e1]
    rw [e2] at m1
    rw [e3] at m2
    rw [e4] at m3
    exact (m1.trans m2).trans m3
  · have ha' := hx.1.mem_iff.1 ha
    have hb' := hy.1.mem_iff.1 hb
    rcases List.mem_append.1 ha' with h1 | h1 <;> rcases List.mem_append.1 hb' with h2 | h2
    · exact hu.cross a h1 b h2
    · exact hl a h1 b h2
    · exact Nat.le_of_lt (hm b h2 a h1)
    · exact hv.cross a h1 b h2
end

/-- Two things change places. -/
def swp {α : Type} (d : α) (l : List α) (i j : Nat) : List α := (l.set i (l.getD j d)).set j (l.getD i d)
theorem swp_len {α : Type} (d : α) (l : List α) (i j : Nat) : (swp d l i j).length = l.length := by unfold swp; simp
theorem swp_get {α : Type} (d : α) (l : List α) {i j : Nat} (hi : i < l.length) (hj : j < l.length) (c : Nat) : (swp d l i j)[c]? = if c = j then l[i]? else if c = i then l[j]? else l[c]? := by
  unfold swp
  rw [List.getElem?_set, List.getElem?_set, List.length_set, List.getD_eq_getElem?_getD, List.getD_eq_getElem?_getD, List.getElem?_eq_getElem hi, List.getElem?_eq_getElem hj]
  simp only [Option.getD_some]
  by_cases h1 : j = c
  · subst h1
    simp [hj]
  · by_cases h2 : i = c
    · subst h2
      have h3 : ¬ i = j := fun e => h1 e.symm
      simp [h1, hi, h3]
    · have h3 : ¬ c = j := fun e => h1 e.symm
      have h4 : ¬ c = i := fun e => h2 e.symm
      simp [h1, h2, h3, h4]
theorem swp_adj {α : Type} (d : α) (A B : List α) (x y : α) {i : Nat} (h : i = A.length) : swp d (A ++ x :: y :: B) i (i + 1) = A ++ y :: x :: B := by
  subst h
  apply List.ext_getElem?
  intro c
  rw [swp_get _ _ (by simp) (by simp)]
  by_cases h1 : c = A.length + 1
  · subst h1
    rw [if_pos rfl, List.getElem?_append_right (Nat.le_refl _), List.getElem?_append_right (by omega)]
    simp
  · rw [if_neg h1]
    by_cases h2 : c = A.length
    · subst h2
      rw [if_pos rfl, List.getElem?_append_right (by omega), List.getElem?_append_right (Nat.le_refl _)]
      simp
    · rw [if_neg h2]
      by_cases h3 : c < A.length
      · rw [List.getElem?_append_left h3, List.getElem?_append_left h3]
      · rw [List.getElem?_append_right (by omega), List.getElem?_append_right (by omega)]
        obtain ⟨q, hq⟩ : ∃ q, c - A.length = q + 2 := ⟨c - A.length - 2, by omega⟩
        rw [hq]
        rfl
theorem swp_adj2 {α : Type} (d : α) (A B : List α) (x y : α) {i : Nat} (h : i = A.length) : swp d (A ++ x :: y :: B) (i + 1) i = A ++ y :: x :: B := by
  subst h
  rw [← swp_adj d A B x y rfl]
  apply List.ext_getElem?
  intro c
  rw [swp_get _ _ (by simp) (by simp), swp_get _ _ (by simp) (by simp)]
  by_cases h1 : c = A.length
  · have : ¬ c = A.length + 1 := by omega
    rw [if_pos h1, if_neg this, if_pos h1]
  · by_cases h2 : c = A.length + 1
    · rw [if_neg h1, if_pos h2, if_pos h2]
    · rw [if_neg h1, if_neg h2, if_neg h2, if_neg h1]
/-- Two pieces of equal length change places, thing by thing. -/
def swpN {α : Type} (d : α) (l : List α) (a b : Nat) : Nat → List α
  | 0 => l
  | n + 1 => swp d (swpN d l a b n) (a + n) (b + n)
theorem swpN_len {α : Type} (d : α) (l : List α) (a b : Nat) : ∀ n, (swpN d l a b n).length = l.length
  | 0 => rfl
  | n + 1 => by rw [swpN, swp_len, swpN_len d l a b n]
theorem swpN_get {α : Type} (d : α) (l : List α) {a b : Nat} : ∀ n, a + n ≤ b → b + n ≤ l.length → ∀ c, (swpN d l a b n)[c]? = if a ≤ c ∧ c < a + n then l[b + (c - a)]? else if b ≤ c ∧ c < b + n then l[a + (c - b)]? else l[c]?
  | 0, _, _, c => by rw [swpN, if_neg (by omega), if_neg (by omega)]
  | n + 1, h1, h2, c => by
    have ih := swpN_get d l (a := a) (b := b) n (by omega) (by omega)
    rw [swpN, swp_get d (swpN d l a b n) (i := a + n) (j := b + n) (by rw [swpN_len]; omega) (by rw [swpN_len]; omega), ih, ih, ih]
    by_cases e1 : c = b + n
    · subst e1
      rw [if_pos rfl, if_neg (by omega), if_neg (by omega), if_neg (by omega), if_pos (by omega), Nat.add_sub_cancel_left]
    · rw [if_neg e1]
      by_cases e2 : c = a + n
      · subst e2
        rw [if_pos rfl, if_neg (by omega), if_neg (by omega), if_pos (by omega), Nat.add_sub_cancel_left]
      · rw [if_neg e2]
        by_cases e3 : a ≤ c ∧ c < a + n
        · rw [if_pos e3, if_pos (show a ≤ c ∧ c < a + (n + 1) by omega)]
        · by_cases e4 : b ≤ c ∧ c < b + n
          · rw [if_neg e3, if_pos e4, if_neg (show ¬ (a ≤ c ∧ c < a + (n + 1)) by omega), if_pos (show b ≤ c ∧ c < b + (n + 1) by omega)]
          · rw [if_neg e3, if_neg e4, if_neg (show ¬ (a ≤ c ∧ c < a + (n + 1)) by omega), if_neg (show ¬ (b ≤ c ∧ c < b + (n + 1)) by omega)]
theorem swpN_parts {α : Type} (d : α) (p u q v s : List α) {a b n : Nat} (ha : a = p.length) (hu : u.length = n) (hv : v.length = n) (hb : b = p.length + n + q.length) : swpN d (p ++ u ++ q ++ v ++ s) a b n = p ++ v ++ q ++ u ++ s := by
  subst ha hb
  apply List.ext_getElem?
  intro c
  rw [swpN_get d (p ++ u ++ q ++ v ++ s) (a := p.length) (b := p.length + n + q.length) n (by omega) (by simp only [List.length_append]; omega)]
  by_cases e1 : c < p.length
  · rw [if_neg (by omega), if_neg (by omega)]
    simp only [List.append_assoc]
    rw [List.getElem?_append_left e1, List.getElem?_append_left e1]
  · by_cases e2 : c < p.length + n
    · rw [if_pos (by omega)]
      simp only [List.append_assoc]
      rw [List.getElem?_append_right (by omega), List.getElem?_append_right (by omega), List.getElem?_append_right (by omega), List.getElem?_append_left (by omega), List.getElem?_append_right (by omega), List.getElem?_append_left (by omega)]
      congr 1
      omega
    · by_cases e3 : c < p.length + n + q.length
      · rw [if_neg (by omega), if_neg (by omega)]
        simp only [List.append_assoc]
        rw [List.getElem?_append_right (by omega), List.getElem?_append_right (by omega), List.getElem?_append_left (by omega), List.getElem?_append_right (by omega), List.getElem?_append_right (by omega), List.getElem?_append_left (by omega)]
        congr 1
        omega
      · by_cases e4 : c < p.length + n + q.length + n
        · rw [if_neg (by omega), if_pos (by omega)]
          simp only [List.append_assoc]
          rw [List.getElem?_append_right (by omega), List.getElem?_append_left (by omega), List.getElem?_append_right (by omega), List.getElem?_append_right (by omega), List.getElem?_append_right (by omega), List.getElem?_append_left (by omega)]
          congr 1
          omega
        · rw [if_neg (by omega), if_neg (by omega)]
          simp only [List.append_assoc]
          rw [List.getElem?_append_right (by omega), List.getElem?_append_right (by omega), List.getElem?_append_right (by omega), List.getElem?_append_right (by omega), List.getElem?_append_right (by omega), List.getElem?_append_right (by omega), List.getElem?_append_right (by omega), List.getElem?_append_right (by omega)]
          congr 1
          omega
/-- Two pieces beside each other change places, in steps: what is left to do. -/
structure RotK {α : Type} (l g : List α) (m i j : Nat) : Prop where
  parts : ∃ p u v s, l = p ++ u ++ v ++ s ∧ g = p ++ v ++ u ++ s ∧ u.length = i ∧ v.length = j ∧ p.length + i = m
theorem RotK.left {α : Type} (d : α) {l g : List α} {m i j : Nat} (h : RotK l g m i j) (hij : j < i) : RotK (swpN d l (m - i) m j) g m (i - j) j := by
  obtain ⟨p, u, v, s, rfl, rfl, hu, hv, hm⟩ := h.parts
  have e : p ++ u ++ v ++ s = p ++ u.take j ++ u.drop j ++ v ++ s := by rw [List.append_assoc p (u.take j), List.take_append_drop]
  have h1 : (u.take j).length = j := by rw [List.length_take]; omega
  have h2 : (u.drop j).length = i - j := by rw [List.length_drop]; omega
  rw [e, swpN_parts d p (u.take j) (u.drop j) v s (by omega) h1 hv (by omega)]
  refine ⟨p ++ v, u.drop j, u.take j, s, by simp, ?_, h2, h1, by rw [List.length_append]; omega⟩
  rw [List.append_assoc (p ++ v) (u.take j), List.take_append_drop]
theorem RotK.right {α : Type} (d : α) {l g : List α} {m i j : Nat} (h : RotK l g m i j) (hij : i < j) : RotK (swpN d l (m - i) (m + j - i) i) g m i (j - i) := by
  obtain ⟨p, u, v, s, rfl, rfl, hu, hv, hm⟩ := h.parts
  have e : p ++ u ++ v ++ s = p ++ u ++ v.take (j - i) ++ v.drop (j - i) ++ s := by rw [List.append_assoc (p ++ u) (v.take (j - i)), List.take_append_drop]
  have h1 : (v.take (j - i)).length = j - i := by rw [List.length_take]; omega
  have h2 : (v.drop (j - i)).length = i := by rw [List.length_drop]; omega
  rw [e, swpN_parts d p u (v.take (j - i)) (v.drop (j - i)) s (by omega) hu h2 (by omega)]
  refine ⟨p, v.drop (j - i), v.take (j - i), u ++ s, by simp, ?_, h2, h1, by omega⟩
  rw [show p ++ v.take (j - i) ++ v.drop (j - i) ++ (u ++ s) = p ++ (v.take (j - i) ++ v.drop (j - i)) ++ u ++ s by simp, List.take_append_drop]
theorem RotK.last {α : Type} (d : α) {l g : List α} {m i : Nat} (h : RotK l g m i i) : swpN d l (m - i) m i = g := by
  obtain ⟨p, u, v, s, rfl, rfl, hu, hv, hm⟩ := h.parts
  have := swpN_parts d p u [] v s (a := m - i) (b := m) (n := i) (by omega) hu hv (by simp; omega)
  simpa using this
end Go.Proofs.Ytmcekpgmebanaaa

/-! Products of sets of words, the heads of one length at once (layer 19): plain mathematics. -/
namespace Go.Proofs.Ytmcekpgmebanaaa

/-- Each of some words, with each of some others behind it. -/
def joinedW (g t : Words) : Words := g.flatMap fun x => t.map fun y => x ++ y
theorem joinedW_len (t : Words) : ∀ g : Words, (joinedW g t).length = g.length * t.length
  | [] => by simp [joinedW]
  | x :: g => by
    have := joinedW_len t g
    unfold joinedW at this ⊢
    rw [List.flatMap_cons, List.length_append, this, List.length_map, List.length_cons, Nat.succ_mul]
    omega
theorem joinedW_snoc (g t : Words) (x : List UInt8) : joinedW (g ++ [x]) t = joinedW g t ++ t.map fun y => x ++ y := by
  unfold joinedW
  rw [List.flatMap_append]
  simp
/-- Words of one length, in ascending order. -/
structure GrpW (g : Words) (n : Nat) : Prop where
  len : ∀ x ∈ g, x.length = n
  set : setW g
theorem prodW_grp {k : Int} {b g : Words} {n : Nat} (hl : ∀ x ∈ g, x.length = n) : prodW k b g = joinedW g (cutsW b (k - (n : Int))) := by
  unfold prodW joinedW
  induction g with
  | nil => rfl
  | cons x g ih =>
    rw [List.flatMap_cons, List.flatMap_cons, ih (fun y hy => hl y (by simp [hy]))]
    unfold rowsW
    rw [hl x (by simp)]
theorem lessB_app : ∀ {x y : List UInt8} (s t : List UInt8), x.length = y.length → lessB x y = true → lessB (x ++ s) (y ++ t) = true
  | [], [], _, _, _, h => by cases h
  | a :: x, b :: y, s, t, hl, h => by
    rw [List.cons_append, List.cons_append, lessB]
    rw [lessB] at h
    by_cases e : a = b
    · rw [if_pos e] at h ⊢
      exact lessB_app s t (by simpa using hl) h
    · rw [if_neg e] at h ⊢
      exact h
theorem lessB_same : ∀ (x : List UInt8) {s t : List UInt8}, lessB s t = true → lessB (x ++ s) (x ++ t) = true
  | [], _, _, h => h
  | a :: x, s, t, h => by
    rw [List.cons_append, List.cons_append, lessB, if_pos rfl]
    exact lessB_same x h
/-- Such a product is a set already. -/
theorem set_joined {g t : Words} {n : Nat} (hl : ∀ x ∈ g, x.length = n) (hg : setW g) (ht : setW t) : setW (joinedW g t) := by
  unfold joinedW setW
  induction g with
  | nil => exact List.Pairwise.nil
  | cons x g ih =>
    rw [List.flatMap_cons]
    unfold setW at hg
    rw [List.pairwise_cons] at hg
    refine List.pairwise_append.2 ⟨List.pairwise_map.2 (ht.imp fun h => lessB_same x h), ih (fun y hy => hl y (by simp [hy])) hg.2, fun u hu v hv => ?_⟩
    obtain ⟨s, _, rfl⟩ := List.mem_map.1 hu
    obtain ⟨y, hy, hv⟩ := List.mem_flatMap.1 hv
    obtain ⟨q, _, rfl⟩ := List.mem_map.1 hv
    exact lessB_app s q (by rw [hl x (by simp), hl y (by simp [hy])]) (hg.1 y hy)
/-- In a list whose equals stand in order, words of one length are in ascending order. -/
theorem grp_set {g : Words} {n : Nat} (hl : ∀ x ∈ g, x.length = n) (h : StbK (List.length (α := UInt8)) (fun a b => lessB a b = true) g) : setW g := by
  unfold setW
  unfold StbK at h
  induction g with
  | nil => exact List.Pairwise.nil
  | cons x g ih =>
    rw [List.pairwise_cons] at h ⊢
    exact ⟨fun y hy => h.1 y hy (by rw [hl x (by simp), hl y (by simp [hy])]), ih (fun y hy => hl y (by simp [hy])) h.2⟩
theorem stb_of_set {l : Words} (h : setW l) : StbK (List.length (α := UInt8)) (fun a b => lessB a b = true) l := by
  unfold StbK
  exact List.Pairwise.imp (S := fun x y => x.length = y.length → lessB x y = true) (fun h _ => h) h
/-- What so many heads of one length give is not more than the product. -/
theorem grp_le {k : Int} {a b g : Words} {n : Nat} (hh : ∀ x, x ∈ g → x ∈ cutsW a k) (hl : ∀ x ∈ g, x.length = n) (hg : setW g) : g.length * (cutsW b (k - (n : Int))).length ≤ (catW k a b).length := by
  rw [← joinedW_len]
  refine nodup_le _ _ (set_joined hl hg (set_cutsW _ _)).nodup (fun w hw => mem_prodW (hs := g) hh ?_)
  rw [prodW_grp hl]
  exact hw
/-- Where nothing was found before and nothing comes behind, these words are the product. -/
theorem grp_all {k : Int} {a b hs g : Words} {n : Nat} (hh : ∀ x, x ∈ hs ↔ x ∈ cutsW a k) (hl : ∀ x ∈ g, x.length = n) (hg : setW g) (hp : prodW k b hs = prodW k b g) : joinedW g (cutsW b (k - (n : Int))) = catW k a b := by
  refine (set_joined hl hg (set_cutsW _ _)).one (set_catW k a b) (fun w => ?_)
  rw [← prodW_grp hl, ← hp, ← prod_all hh, mem_ofW]
theorem fnd_nil {ws : Words} (h : fndW 1 ws = []) : ws = [] := by
  cases ws with
  | nil => rfl
  | cons x r =>
    have : x ∈ fndW 1 (x :: r) := (mem_fndW (by decide)).2 (List.one_le_count_iff.2 (by simp))
    rw [h] at this
    simp at this
end Go.Proofs.Ytmcekpgmebanaaa
