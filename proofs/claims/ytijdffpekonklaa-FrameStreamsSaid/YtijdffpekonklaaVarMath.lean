/- Plain mathematics of varint's encodings: digits in base 128, the least significant first. Nothing here names the program. -/
namespace Go.Proofs.Ytijdffpekonklaa

/-- The encoding of v. -/
def form (v : Nat) : List UInt8 := if v < 128 then [UInt8.ofNat v] else UInt8.ofNat (v % 128 + 128) :: form (v / 128)
termination_by v
decreasing_by omega

theorem form_small {v : Nat} (h : v < 128) : form v = [UInt8.ofNat v] := by rw [form, if_pos h]
theorem form_big {v : Nat} (h : 128 ≤ v) : form v = UInt8.ofNat (v % 128 + 128) :: form (v / 128) := by rw [form, if_neg (by omega)]
theorem form_pos (v : Nat) : 1 ≤ (form v).length := by
  by_cases h : v < 128
  · rw [form_small h]; simp
  · rw [form_big (by omega)]; simp
theorem form_len_le (k : Nat) : ∀ v, v < 128 ^ (k + 1) → (form v).length ≤ k + 1 := by
  induction k with
  | zero => intro v h; rw [form_small (by simpa using h)]; simp
  | succ k ih =>
    intro v h
    by_cases h1 : v < 128
    · rw [form_small h1]; simp
    · rw [form_big (by omega)]
      have := ih (v / 128) (by rw [Nat.pow_succ] at h; exact Nat.div_lt_of_lt_mul (by omega))
      simp; omega
theorem form_len_ge (k : Nat) : ∀ v, 128 ^ k ≤ v → k + 1 ≤ (form v).length := by
  induction k with
  | zero => intro v _; exact form_pos v
  | succ k ih =>
    intro v h
    have hp : 0 < 128 ^ k := Nat.pow_pos (by decide)
    rw [Nat.pow_succ] at h
    rw [form_big (by omega)]
    have := ih (v / 128) ((Nat.le_div_iff_mul_le (by decide)).2 h)
    simp; omega
theorem form_len10 (v : Nat) (h : v ≤ 18446744073709551615) : (form v).length ≤ 10 := form_len_le 9 v (by omega)
theorem form_len_mono (n : Nat) : ∀ a b, b ≤ n → a ≤ b → (form a).length ≤ (form b).length := by
  induction n with
  | zero => intro a b h1 h2; obtain rfl : a = b := by omega
            exact Nat.le_refl _
  | succ n ih =>
    intro a b h1 h2
    by_cases ha : a < 128
    · rw [form_small ha]; exact form_pos b
    · rw [form_big (v := a) (by omega), form_big (v := b) (by omega)]
      have := ih (a / 128) (b / 128) (by omega) (by omega)
      simp; omega

/-- The number with whose encoding the bytes go on, behind i digits that are acc; and how many digits that are. -/
def dec (i acc : Nat) : List UInt8 → Option (Nat × Nat)
  | [] => none
  | b :: r =>
    if 10 ≤ i ∨ (b.toNat = 0 ∧ 0 < i) ∨ (i = 9 ∧ 1 < b.toNat) then none
    else if b.toNat < 128 then some (acc + b.toNat * 128 ^ i, i + 1) else dec (i + 1) (acc + (b.toNat - 128) * 128 ^ i) r

theorem dec_form (n : Nat) : ∀ v i acc (rest : List UInt8), v ≤ n → v * 128 ^ i < 18446744073709551616 → (i = 0 ∨ 0 < v) → dec i acc (form v ++ rest) = some (acc + v * 128 ^ i, i + (form v).length) := by
  induction n with
  | zero =>
    intro v i acc rest h1 h2 h3
    obtain rfl : v = 0 := by omega
    obtain rfl : i = 0 := by omega
    rw [form_small (by omega)]
    simp [dec]
  | succ n ih =>
    intro v i acc rest h1 h2 h3
    have hi : i ≤ 9 := by
      rcases h3 with rfl | h3
      · omega
      · rcases Nat.lt_or_ge 9 i with q | q
        · exfalso
          have e : (128 : Nat) ^ 10 ≤ 128 ^ i := Nat.pow_le_pow_right (by decide) q
          have : 1 * 128 ^ 10 ≤ v * 128 ^ i := Nat.mul_le_mul h3 e
          omega
        · exact q
    by_cases hv : v < 128
    · rw [form_small hv]
      have hb : (UInt8.ofNat v).toNat = v := by rw [UInt8.toNat_ofNat']; omega
      have hc : ¬ (10 ≤ i ∨ (v = 0 ∧ 0 < i) ∨ (i = 9 ∧ 1 < v)) := by
        rintro (h | ⟨h, h'⟩ | ⟨h, h'⟩)
        · omega
        · omega
        · subst h; omega
      simp only [List.singleton_append, dec, hb, if_neg hc, if_pos hv, List.length_singleton]
    · rw [form_big (by omega)]
      have hb : (UInt8.ofNat (v % 128 + 128)).toNat = v % 128 + 128 := by rw [UInt8.toNat_ofNat']; omega
      have h9 : i ≠ 9 := by rintro rfl; omega
      have hc : ¬ (10 ≤ i ∨ (v % 128 + 128 = 0 ∧ 0 < i) ∨ (i = 9 ∧ 1 < v % 128 + 128)) := by omega
      have hdm : v / 128 * 128 + v % 128 = v := by omega
      have hsplit : v / 128 * 128 ^ (i + 1) + v % 128 * 128 ^ i = v * 128 ^ i := by
        rw [Nat.pow_succ, Nat.mul_comm (128 ^ i) 128, ← Nat.mul_assoc, ← Nat.add_mul, hdm]
      have := ih (v / 128) (i + 1) (acc + v % 128 * 128 ^ i) rest (by omega) (by omega) (.inr (by omega))
      simp only [List.cons_append, dec, hb, if_neg hc, if_neg (show ¬ v % 128 + 128 < 128 by omega), Nat.add_sub_cancel, this, List.length_cons, Option.some.injEq, Prod.mk.injEq]
      omega

theorem dec_some : ∀ (bs : List UInt8) (i acc x n : Nat), dec i acc bs = some (x, n) → ∃ v rest, x = acc + v * 128 ^ i ∧ n = i + (form v).length ∧ bs = form v ++ rest ∧ v * 128 ^ i < 18446744073709551616 ∧ (0 < i → 0 < v)
  | [], i, acc, x, n, h => by simp [dec] at h
  | b :: r, i, acc, x, n, h => by
    unfold dec at h
    split at h
    · cases h
    · rename_i hc
      have hi : i ≤ 9 := by omega
      have hbo : UInt8.ofNat b.toNat = b := by simp
      split at h
      · rename_i hb
        simp only [Option.some.injEq, Prod.mk.injEq] at h
        refine ⟨b.toNat, r, h.1.symm, ?_, ?_, ?_, ?_⟩
        · rw [form_small hb]; simp; omega
        · rw [form_small hb, hbo]; rfl
        · by_cases h9 : i = 9
          · subst h9; omega
          · have e : (128 : Nat) ^ i ≤ 128 ^ 8 := Nat.pow_le_pow_right (by decide) (by omega)
            have : b.toNat * 128 ^ i ≤ 128 * 128 ^ 8 := Nat.mul_le_mul (by omega) e
            omega
        · omega
      · rename_i hb
        obtain ⟨v, rest, h1, h2, h3, h4, h5⟩ := dec_some r (i + 1) _ x n h
        have hv := h5 (by omega)
        have hlt := b.toNat_lt
        have hq : (v * 128 + (b.toNat - 128)) / 128 = v := by omega
        have hr : (v * 128 + (b.toNat - 128)) % 128 = b.toNat - 128 := by omega
        have hf : form (v * 128 + (b.toNat - 128)) = b :: form v := by
          rw [form_big (by omega), hq, hr, show b.toNat - 128 + 128 = b.toNat from by omega, hbo]
        have hsplit : (v * 128 + (b.toNat - 128)) * 128 ^ i = v * 128 ^ (i + 1) + (b.toNat - 128) * 128 ^ i := by
          rw [Nat.pow_succ, Nat.add_mul, Nat.mul_comm (128 ^ i) 128, Nat.mul_assoc]
        have hi9 : i + 1 ≤ 9 := by
          rcases Nat.lt_or_ge 8 i with q | q
          · have : i = 9 := by omega
            omega
          · omega
        refine ⟨v * 128 + (b.toNat - 128), rest, by rw [hsplit]; omega, by rw [hf]; simp; omega, by rw [hf, h3]; rfl, ?_, fun _ => by omega⟩
        rw [hsplit]
        obtain ⟨j, hj⟩ : ∃ j, i + 1 + j = 9 := ⟨9 - (i + 1), by omega⟩
        have e9 : (18446744073709551616 : Nat) = 2 * 128 ^ j * 128 ^ (i + 1) := by
          rw [Nat.mul_assoc, ← Nat.pow_add, show j + (i + 1) = 9 from by omega]
        rw [e9] at h4 ⊢
        have hvl : v < 2 * 128 ^ j := Nat.lt_of_mul_lt_mul_right h4
        have hm : (v + 1) * 128 ^ (i + 1) ≤ 2 * 128 ^ j * 128 ^ (i + 1) := Nat.mul_le_mul_right _ hvl
        have hd : (b.toNat - 128) * 128 ^ i < 128 * 128 ^ i := Nat.mul_lt_mul_of_pos_right (by omega) (Nat.pow_pos (by decide))
        have e1 : (128 : Nat) ^ (i + 1) = 128 * 128 ^ i := by rw [Nat.pow_succ, Nat.mul_comm]
        rw [Nat.add_mul, Nat.one_mul] at hm
        omega

/-- The number whose encoding bytes begin with, and the encoding's length. -/
def front (bs : List UInt8) : Option (Nat × Nat) := dec 0 0 bs
theorem front_form (v : Nat) (rest : List UInt8) (h : v ≤ 18446744073709551615) : front (form v ++ rest) = some (v, (form v).length) := by
  have := dec_form v v 0 0 rest (Nat.le_refl _) (by omega) (.inl rfl)
  simpa [front] using this
theorem front_some {bs : List UInt8} {x n : Nat} (h : front bs = some (x, n)) : ∃ rest, bs = form x ++ rest ∧ n = (form x).length ∧ x ≤ 18446744073709551615 := by
  obtain ⟨v, rest, h1, h2, h3, h4, -⟩ := dec_some bs 0 0 x n h
  have e : x = v := by omega
  subst e
  exact ⟨rest, h3, by omega, by omega⟩
theorem front_nil : front [] = none := rfl
theorem front_len {bs : List UInt8} {x n : Nat} (h : front bs = some (x, n)) : 1 ≤ n ∧ n ≤ 10 ∧ n ≤ bs.length := by
  obtain ⟨rest, h1, h2, h3⟩ := front_some h
  have := form_pos x
  have := form_len10 x h3
  rw [h1, List.length_append]
  omega

/-- The encodings of numbers, one behind the other. -/
def forms (l : List Nat) : List UInt8 := l.flatMap form
theorem forms_nil : forms [] = [] := rfl
theorem forms_cons (v : Nat) (l : List Nat) : forms (v :: l) = form v ++ forms l := by simp [forms]
theorem forms_append (a b : List Nat) : forms (a ++ b) = forms a ++ forms b := by simp [forms]
theorem forms_one (v : Nat) : forms [v] = form v := by simp [forms]
theorem forms_len (l : List Nat) (h : ∀ v ∈ l, v ≤ 18446744073709551615) : (forms l).length ≤ 10 * l.length := by
  induction l with
  | nil => simp [forms]
  | cons v l ih =>
    rw [forms_cons, List.length_append, List.length_cons]
    have := ih (fun x hx => h x (by simp [hx]))
    have := form_len10 v (h v (by simp))
    omega

/-- The n numbers whose encodings bytes are. -/
def parse : Nat → List UInt8 → Option (List Nat)
  | 0, bs => if bs = [] then some [] else none
  | n + 1, bs => match front bs with
    | none => none
    | some (x, k) => (parse n (bs.drop k)).map (x :: ·)
theorem parse_forms (l : List Nat) (h : ∀ v ∈ l, v ≤ 18446744073709551615) : parse l.length (forms l) = some l := by
  induction l with
  | nil => rfl
  | cons v l ih =>
    rw [forms_cons, List.length_cons, parse, front_form v _ (h v (by simp))]
    simp only [List.drop_left, ih (fun x hx => h x (by simp [hx])), Option.map_some]
theorem parse_some : ∀ (n : Nat) (bs : List UInt8) (l : List Nat), parse n bs = some l → bs = forms l ∧ l.length = n ∧ ∀ v ∈ l, v ≤ 18446744073709551615
  | 0, bs, l, h => by
    unfold parse at h
    split at h
    · cases h; subst bs; simp [forms]
    · cases h
  | n + 1, bs, l, h => by
    unfold parse at h
    split at h
    · cases h
    · rename_i x k hf
      obtain ⟨l', hl, rfl⟩ := Option.map_eq_some_iff.1 h
      obtain ⟨h1, h2, h3⟩ := parse_some n _ l' hl
      obtain ⟨rest, h4, h5, h6⟩ := front_some hf
      refine ⟨?_, by simp [h2], ?_⟩
      · rw [forms_cons, ← h1, h5]
        subst h4
        simp
      · intro v hv
        rcases List.mem_cons.1 hv with rfl | hv
        · exact h6
        · exact h3 v hv
/-- Encodings of numbers are those of no others. -/
theorem forms_inj (a : List Nat) : ∀ b, (∀ v ∈ a, v ≤ 18446744073709551615) → (∀ v ∈ b, v ≤ 18446744073709551615) → forms a = forms b → a = b := by
  induction a with
  | nil =>
    intro b _ hb h
    cases b with
    | nil => rfl
    | cons y b =>
      have hl := congrArg List.length h
      rw [forms_cons, List.length_append, forms_nil, List.length_nil] at hl
      have := form_pos y
      omega
  | cons x a ih =>
    intro b ha hb h
    cases b with
    | nil =>
      have hl := congrArg List.length h
      rw [forms_cons, List.length_append, forms_nil, List.length_nil] at hl
      have := form_pos x
      omega
    | cons y b =>
      rw [forms_cons, forms_cons] at h
      have h1 := front_form x (forms a) (ha x (by simp))
      have h2 := front_form y (forms b) (hb y (by simp))
      rw [h, h2] at h1
      simp only [Option.some.injEq, Prod.mk.injEq] at h1
      obtain rfl := h1.1
      rw [ih b (fun v hv => ha v (by simp [hv])) (fun v hv => hb v (by simp [hv])) (List.append_cancel_left h)]
theorem parse_other (n : Nat) (l : List Nat) (h : ∀ v ∈ l, v ≤ 18446744073709551615) (hn : n ≠ l.length) : parse n (forms l) = none := by
  cases hp : parse n (forms l) with
  | none => rfl
  | some m =>
    obtain ⟨h1, h2, h3⟩ := parse_some n _ m hp
    exact absurd (by rw [← h2, forms_inj m l h3 h h1.symm]) hn
theorem parse_more (l : List Nat) (more : List UInt8) (h : ∀ v ∈ l, v ≤ 18446744073709551615) (hm : more ≠ []) : parse l.length (forms l ++ more) = none := by
  cases hp : parse l.length (forms l ++ more) with
  | none => rfl
  | some m =>
    exfalso
    obtain ⟨h1, h2, h3⟩ := parse_some _ _ m hp
    have key : ∀ (a b : List Nat), a.length = b.length → (∀ v ∈ a, v ≤ 18446744073709551615) → (∀ v ∈ b, v ≤ 18446744073709551615) → forms a ++ more = forms b → False := by
      intro a
      induction a with
      | nil => intro b hl _ _ e; obtain rfl : b = [] := List.eq_nil_of_length_eq_zero (by simpa using hl.symm)
               exact hm (by simpa [forms] using e)
      | cons x a ih =>
        intro b hl ha hb e
        cases b with
        | nil => simp at hl
        | cons y b =>
          rw [forms_cons, forms_cons, List.append_assoc] at e
          have e1 := front_form x (forms a ++ more) (ha x (by simp))
          have e2 := front_form y (forms b) (hb y (by simp))
          rw [e, e2] at e1
          simp only [Option.some.injEq, Prod.mk.injEq] at e1
          obtain rfl := e1.1
          exact ih b (by simpa using hl) (fun v hv => ha v (by simp [hv])) (fun v hv => hb v (by simp [hv])) (List.append_cancel_left e)
    exact key l m h2.symm h h3 h1
/-- No encoding is the beginning of another one. -/
theorem form_prefix (a b : Nat) (ha : a ≤ 18446744073709551615) (hb : b ≤ 18446744073709551615) (h : form a = (form b).take (form a).length) : a = b := by
  have e : form b = form a ++ (form b).drop (form a).length := by
    have := (List.take_append_drop (form a).length (form b)).symm
    rwa [← h] at this
  have h1 := front_form a ((form b).drop (form a).length) ha
  have h2 := front_form b [] hb
  rw [← e] at h1
  rw [List.append_nil, h1] at h2
  simp only [Option.some.injEq, Prod.mk.injEq] at h2
  exact h2.1

/-- Seven bits a digit: the length of an encoding from the number of bits. -/
theorem form_len_bits (v L : Nat) (h1 : 1 ≤ L) (hlo : 2 ^ (L - 1) ≤ v ||| 1) (hhi : v ||| 1 < 2 ^ L) : (form v).length = (L + 6) / 7 := by
  have hor : v ≤ v ||| 1 ∧ v ||| 1 ≤ v + 1 := by
    constructor
    · exact Nat.left_le_or
    · rcases Nat.mod_two_eq_zero_or_one v with q | q
      · have : v ||| 1 = v + 1 := by
          have := Nat.two_pow_add_eq_or_of_lt (i := 1) (b := 1) (by decide) (v / 2)
          rw [show 2 ^ 1 * (v / 2) = v from by omega] at this
          exact this.symm
        omega
      · have : v ||| 1 = v := by
          have := Nat.two_pow_add_eq_or_of_lt (i := 1) (b := 1) (by decide) (v / 2)
          rw [show 2 ^ 1 * (v / 2) + 1 = v from by omega] at this
          have e2 : (2 ^ 1 * (v / 2) ||| 1) ||| 1 = 2 ^ 1 * (v / 2) ||| 1 := by rw [Nat.or_assoc, Nat.or_self]
          rw [← this] at e2
          exact e2
        omega
  obtain ⟨k, hk⟩ : ∃ k, k = (L - 1) / 7 := ⟨_, rfl⟩
  have e7 : ∀ j : Nat, (128 : Nat) ^ j = 2 ^ (7 * j) := fun j => by rw [Nat.pow_mul]
  have hup : v < 128 ^ (k + 1) := by
    rw [e7]
    have : (2 : Nat) ^ L ≤ 2 ^ (7 * (k + 1)) := Nat.pow_le_pow_right (by decide) (by omega)
    omega
  have h2 := form_len_le k v hup
  by_cases hk0 : k = 0
  · have := form_pos v
    omega
  · have hdn : 128 ^ k ≤ v := by
      have hle : (2 : Nat) ^ (7 * k) ≤ 2 ^ (L - 1) := Nat.pow_le_pow_right (by decide) (by omega)
      rw [e7]
      have hle2 : 2 ^ (7 * k) ≤ v ||| 1 := Nat.le_trans hle hlo
      rcases Nat.lt_or_ge v (2 ^ (7 * k)) with q | q
      · exfalso
        have e : v ||| 1 = 2 ^ (7 * k) := by omega
        have ev : (v ||| 1) % 2 = 1 := by rw [Nat.or_mod_two_eq_one]; exact .inr rfl
        rw [e, show 7 * k = (7 * k - 1) + 1 from by omega, Nat.pow_succ] at ev
        omega
      · exact q
    have := form_len_ge k v hdn
    omega
end Go.Proofs.Ytijdffpekonklaa
