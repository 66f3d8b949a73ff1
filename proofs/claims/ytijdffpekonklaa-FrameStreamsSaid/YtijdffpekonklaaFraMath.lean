/- Plain mathematics of frames: what a byte sequence begins with. It names nothing of the program but what CrcO's text says of crcOf. -/
import Derived.Test.YtijdffpekonklaaVarMath
import Derived.Test.YtijdffpekonklaaCrcO
namespace Go.Proofs.Ytijdffpekonklaa
open Go.RowKit

/-- A checksum's bytes, the least first. -/
def sum4 (n : Nat) : List UInt8 := [UInt8.ofNat (n % 256), UInt8.ofNat (n / 256 % 256), UInt8.ofNat (n / 65536 % 256), UInt8.ofNat (n / 16777216 % 256)]
theorem sum4_length (n : Nat) : (sum4 n).length = 4 := rfl
theorem sum4_step (n k : Nat) (h : k < 4) : ((sum4 n).take k ++ List.replicate (4 - k) 0).set k (UInt8.ofNat (n / 256 ^ k % 256)) = (sum4 n).take (k + 1) ++ List.replicate (4 - (k + 1)) 0 := by
  match k, h with
  | 0, _ => simp [sum4, List.replicate]
  | 1, _ => simp [sum4, List.replicate]
  | 2, _ => simp [sum4, List.replicate]
  | 3, _ => simp [sum4, List.replicate]
theorem u8n (n : Nat) : (UInt8.ofNat (n % 256)).toNat = n % 256 := by rw [UInt8.toNat_ofNat']; omega
theorem sum4_num (n : Nat) (h : n < 4294967296) : (UInt8.ofNat (n % 256)).toNat + 256 * ((UInt8.ofNat (n / 256 % 256)).toNat + 256 * ((UInt8.ofNat (n / 65536 % 256)).toNat + 256 * (UInt8.ofNat (n / 16777216 % 256)).toNat)) = n := by
  rw [u8n, u8n, u8n, u8n]; omega
/-- The register behind bytes and their checksum is always the same. -/
theorem crc_fixed (b : List UInt8) : crcS 4294967295 (b ++ sum4 (crcOf b)) = crcN 32 4294967295 := by
  have h := crcS_ones b
  rw [crcS_append]
  unfold sum4
  rw [crc_tail _ (crcOf b) _ _ _ _ (sum4_num _ (by unfold crcOf; omega))]
  unfold crcOf
  rw [← xor_ones _ h, xor_self_left]

/-- What stands ahead of the checksum, and the frame. -/
def bodyF (k : UInt8) (load : List UInt8) : List UInt8 := k :: (form load.length ++ load)
def sealF (k : UInt8) (load : List UInt8) : List UInt8 := bodyF k load ++ sum4 (crcOf (bodyF k load))
theorem bodyF_length (k : UInt8) (load : List UInt8) : (bodyF k load).length = 1 + (form load.length).length + load.length := by simp [bodyF]; omega
theorem sealF_length (k : UInt8) (load : List UInt8) : (sealF k load).length = 5 + (form load.length).length + load.length := by
  rw [sealF, List.length_append, bodyF_length, sum4_length]; omega

/-- Bytes that end within a varint. -/
def cutB (r : List UInt8) : Bool := decide (r.length < 10) && r.all fun b => decide (128 ≤ b.toNat)
/-- What is wrong with the head (0: nothing), the payload's length, and how many digits that has. -/
def lenOf : List UInt8 → Nat × Nat × Nat
  | [] => (2, 0, 0)
  | _ :: r => match front r with
    | none => (if cutB r then 2 else 3, 0, 0)
    | some (n, d) => if n ≤ 1048576 then (0, n, d) else (3, 0, 0)
def atF (bs : List UInt8) : Nat := 1 + (lenOf bs).2.2
def endF (bs : List UInt8) : Nat := 1 + (lenOf bs).2.2 + (lenOf bs).2.1
def sumOk (bs : List UInt8) : Bool := decide ((bs.take (endF bs + 4)).drop (endF bs) = sum4 (crcOf (bs.take (endF bs))))
def whyF (bs : List UInt8) : Nat :=
  if (lenOf bs).1 = 0 then (if bs.length < endF bs + 4 then 2 else if sumOk bs then 0 else 6) else (lenOf bs).1
def loadF (bs : List UInt8) : List UInt8 := (bs.take (endF bs)).drop (atF bs)
def kindF (bs : List UInt8) : UInt8 := bs.headD 0
def restF (bs : List UInt8) : List UInt8 := bs.drop (endF bs + 4)

theorem lenOf_ok {bs : List UInt8} (h : (lenOf bs).1 = 0) : ∃ k r n d, bs = k :: r ∧ front r = some (n, d) ∧ n ≤ 1048576 ∧ lenOf bs = (0, n, d) := by
  match bs, h with
  | [], h => simp [lenOf] at h
  | k :: r, h =>
    cases hf : front r with
    | none => simp only [lenOf, hf] at h; split at h <;> cases h
    | some x =>
      obtain ⟨n, d⟩ := x
      by_cases hn : n ≤ 1048576
      · exact ⟨k, r, n, d, rfl, hf, hn, by simp only [lenOf, hf, if_pos hn]⟩
      · simp only [lenOf, hf, if_neg hn] at h; cases h
theorem lenOf_bad {bs : List UInt8} (h : (lenOf bs).1 ≠ 0) : lenOf bs = ((lenOf bs).1, 0, 0) ∧ ((lenOf bs).1 = 2 ∨ (lenOf bs).1 = 3) := by
  match bs, h with
  | [], h => exact ⟨rfl, .inl rfl⟩
  | k :: r, h =>
    cases hf : front r with
    | none => simp only [lenOf, hf]; split <;> simp
    | some x =>
      obtain ⟨n, d⟩ := x
      by_cases hn : n ≤ 1048576
      · simp only [lenOf, hf, if_pos hn] at h; exact (h rfl).elim
      · simp only [lenOf, hf, if_neg hn]; simp
theorem whyF_ok {bs : List UInt8} (h : whyF bs = 0) : (lenOf bs).1 = 0 ∧ endF bs + 4 ≤ bs.length ∧ sumOk bs = true := by
  unfold whyF at h
  split at h
  · rename_i h0
    split at h
    · cases h
    · split at h
      · exact ⟨h0, by omega, by assumption⟩
      · cases h
  · contradiction
theorem whyF_lt (bs : List UInt8) : whyF bs = 0 ∨ whyF bs = 2 ∨ whyF bs = 3 ∨ whyF bs = 6 := by
  unfold whyF
  split
  · split
    · simp
    · split <;> simp
  · have := (lenOf_bad (by assumption)).2
    omega

/-- front looks at ten bytes at most. -/
theorem dec_take (l : List UInt8) : ∀ (i acc : Nat), dec i acc (l.take (10 - i)) = dec i acc l := by
  induction l with
  | nil => intro i acc; simp
  | cons b r ih =>
    intro i acc
    by_cases hi : 10 ≤ i
    · rw [show 10 - i = 0 from by omega]
      simp [dec, hi]
    · rw [show 10 - i = (10 - (i + 1)) + 1 from by omega, List.take_succ_cons]
      simp only [dec]
      rw [ih]
theorem front_take (l : List UInt8) : front (l.take 10) = front l := dec_take l 0 0
/-- All digits of an encoding but the last are great. -/
theorem form_great (l : List UInt8) : ∀ (x : Nat) (c : UInt8), form x = l ++ [c] → ∀ b ∈ l, 128 ≤ b.toNat := by
  induction l with
  | nil => intro x c h b hb; cases hb
  | cons a l ih =>
    intro x c h b hb
    by_cases hx : x < 128
    · rw [form_small hx] at h
      have := congrArg List.length h
      simp at this
    · rw [form_big (by omega)] at h
      simp only [List.cons_append, List.cons.injEq] at h
      rcases List.mem_cons.1 hb with rfl | hb
      · rw [← h.1, UInt8.toNat_ofNat']; omega
      · exact ih _ c h.2 b hb
theorem dec_cut (l : List UInt8) : ∀ (i acc : Nat), i + l.length < 10 → (∀ b ∈ l, 128 ≤ b.toNat) → ∃ x, dec i acc (l ++ [1]) = some (x, i + l.length + 1) := by
  induction l with
  | nil =>
    intro i acc h _
    refine ⟨acc + 1 * 128 ^ i, ?_⟩
    simp only [List.nil_append, dec, List.length_nil] at h ⊢
    rw [if_neg (by simp; omega), if_pos (by decide)]
    rfl
  | cons b r ih =>
    intro i acc h hb
    have h1 := hb b (by simp)
    simp only [List.length_cons] at h
    obtain ⟨x, hx⟩ := ih (i + 1) (acc + (b.toNat - 128) * 128 ^ i) (by omega) (fun c hc => hb c (by simp [hc]))
    refine ⟨x, ?_⟩
    simp only [List.cons_append, dec]
    rw [if_neg (by omega), if_neg (by omega), hx, List.length_cons]
    congr 2
    omega
theorem parse1 (l : List UInt8) : (parse 1 l).isSome = true ↔ ∃ x, front l = some (x, l.length) := by
  rw [parse]
  cases hf : front l with
  | none => simp
  | some y =>
    obtain ⟨x, k⟩ := y
    have hl := front_len hf
    simp only [parse]
    by_cases hd : l.drop k = []
    · have : l.length ≤ k := by simpa using hd
      rw [if_pos hd]
      simp
      omega
    · have : ¬ l.length ≤ k := by simpa using hd
      rw [if_neg hd]
      simp
      omega
/-- How the code tells bytes that end within a varint. -/
theorem cut_none {r : List UInt8} (h : front r = none) : (parse 1 (r.take 10 ++ [1])).isSome = cutB r := by
  rw [Bool.eq_iff_iff, parse1]
  constructor
  · rintro ⟨x, hx⟩
    obtain ⟨rest, h1, h2, h3⟩ := front_some hx
    have h10 := form_len10 x h3
    rw [← h2] at h10
    simp only [List.length_append, List.length_take, List.length_singleton] at h10
    have hr : r.take 10 = r := List.take_of_length_le (by omega)
    rw [hr] at h1
    have hrest : rest = [] := by
      have := congrArg List.length h1
      rw [hr] at h2
      simp only [List.length_append, List.length_singleton] at this h2
      exact List.eq_nil_of_length_eq_zero (by omega)
    subst hrest
    rw [List.append_nil] at h1
    have hg := form_great r x 1 h1.symm
    simp only [cutB, Bool.and_eq_true, decide_eq_true_eq, List.all_eq_true]
    exact ⟨by omega, hg⟩
  · intro hc
    simp only [cutB, Bool.and_eq_true, decide_eq_true_eq, List.all_eq_true] at hc
    rw [List.take_of_length_le (by omega)]
    obtain ⟨x, hx⟩ := dec_cut r 0 0 (by omega) hc.2
    refine ⟨x, ?_⟩
    rw [front, hx, List.length_append, List.length_singleton, Nat.zero_add]
theorem cut_some {r : List UInt8} {n d : Nat} (h : front r = some (n, d)) : (parse 1 (r.take 10 ++ [1])).isSome = false := by
  rw [← front_take] at h
  obtain ⟨rest, h1, h2, h3⟩ := front_some h
  rw [Bool.eq_false_iff, Ne, parse1]
  rintro ⟨x, hx⟩
  rw [h1, List.append_assoc, front_form n _ h3] at hx
  simp at hx

/-- A frame is found as it was sealed. -/
theorem lenOf_seal (k : UInt8) (load more : List UInt8) (h : load.length ≤ 1048576) : lenOf (sealF k load ++ more) = (0, load.length, (form load.length).length) := by
  have : front (form load.length ++ (load ++ (sum4 (crcOf (bodyF k load)) ++ more))) = some (load.length, (form load.length).length) := front_form _ _ (by omega)
  simp only [sealF, bodyF, List.cons_append, List.append_assoc, lenOf] at this ⊢
  rw [this]
  simp [h]
theorem endF_seal (k : UInt8) (load more : List UInt8) (h : load.length ≤ 1048576) : endF (sealF k load ++ more) = (bodyF k load).length := by
  rw [endF, lenOf_seal k load more h, bodyF_length]
theorem take_seal (k : UInt8) (load more : List UInt8) : (sealF k load ++ more).take (bodyF k load).length = bodyF k load := by
  rw [sealF, List.append_assoc, List.take_left]
theorem whyF_seal (k : UInt8) (load more : List UInt8) (h : load.length ≤ 1048576) : whyF (sealF k load ++ more) = 0 := by
  have h1 := lenOf_seal k load more h
  have h2 := endF_seal k load more h
  have hs : sumOk (sealF k load ++ more) = true := by
    rw [sumOk, h2, take_seal, decide_eq_true_eq, sealF, List.append_assoc, ← List.append_assoc, show (bodyF k load).length + 4 = (bodyF k load ++ sum4 (crcOf (bodyF k load))).length from by rw [List.length_append, sum4_length], List.take_left, List.drop_left]
  rw [whyF, h1, h2, if_pos rfl, if_neg, if_pos hs]
  rw [List.length_append, sealF_length, bodyF_length]; omega
theorem restF_seal (k : UInt8) (load more : List UInt8) (h : load.length ≤ 1048576) : restF (sealF k load ++ more) = more := by
  rw [restF, endF_seal k load more h, show (bodyF k load).length + 4 = (sealF k load).length from by rw [sealF_length, bodyF_length]; omega, List.drop_left]
theorem loadF_seal (k : UInt8) (load more : List UInt8) (h : load.length ≤ 1048576) : loadF (sealF k load ++ more) = load := by
  rw [loadF, endF_seal k load more h, take_seal, atF, lenOf_seal k load more h, bodyF]
  rw [Nat.add_comm, List.drop_succ_cons, List.drop_left]
theorem kindF_seal (k : UInt8) (load more : List UInt8) : kindF (sealF k load ++ more) = k := rfl

/-- What is found is a frame. -/
theorem found_seal {bs : List UInt8} (h : whyF bs = 0) : bs = sealF (kindF bs) (loadF bs) ++ restF bs ∧ (loadF bs).length ≤ 1048576 := by
  obtain ⟨h0, hl, hs⟩ := whyF_ok h
  obtain ⟨k, r, n, d, rfl, hf, hn, hlen⟩ := lenOf_ok h0
  obtain ⟨rest, h1, h2, h3⟩ := front_some hf
  have he : endF (k :: r) = 1 + d + n := by rw [endF, hlen]
  have ha : atF (k :: r) = 1 + d := by rw [atF, hlen]
  have hload : loadF (k :: r) = rest.take n := by
    rw [loadF, he, ha, h1, h2, show 1 + (form n).length + n = ((form n).length + n) + 1 from by omega, show 1 + (form n).length = (form n).length + 1 from by omega, List.take_succ_cons, List.drop_succ_cons, List.take_length_add_append, List.drop_left]
  rw [he] at hl
  have hrl : rest.length + d = r.length := by rw [h1, h2, List.length_append]; omega
  rw [List.length_cons] at hl
  have hln : (loadF (k :: r)).length = n := by rw [hload, List.length_take]; omega
  have hbody : (k :: r).take (endF (k :: r)) = bodyF k (loadF (k :: r)) := by
    rw [bodyF, hln, hload, he, h1, h2, show 1 + (form n).length + n = ((form n).length + n) + 1 from by omega, List.take_succ_cons, List.take_length_add_append]
  rw [sumOk, hbody, decide_eq_true_eq] at hs
  refine ⟨?_, by omega⟩
  rw [sealF, show kindF (k :: r) = k from rfl, ← hs, restF, ← hbody]
  have e1 : (k :: r).take (endF (k :: r)) = ((k :: r).take (endF (k :: r) + 4)).take (endF (k :: r)) := by rw [List.take_take, Nat.min_eq_left (by omega)]
  rw [e1, List.take_append_drop, List.take_append_drop]
theorem whyF_left {bs : List UInt8} (h : whyF bs = 0) (hr : (restF bs) = []) : bs = sealF (kindF bs) (loadF bs) := by
  have := (found_seal h).1
  rwa [hr, List.append_nil] at this
/-- Bits that are turned within 32 in a row are seen. -/
theorem seal_burst (k : UInt8) (load l : List UInt8) (a turn : Nat) (hl : l.length = (sealF k load).length) (ht : turn < 4294967296) (ht0 : turn ≠ 0) (ha : a + 32 ≤ 8 * (sealF k load).length) (h : le l = le (sealF k load) ^^^ (turn * 2 ^ a)) : whyF l ≠ 0 ∨ restF l ≠ [] := by
  rcases Nat.eq_zero_or_pos (whyF l) with h0 | h0
  · right
    intro hr
    have e := whyF_left h0 hr
    have hc : crcS 4294967295 l = crcS 4294967295 (sealF k load) := by
      rw [e, sealF, crc_fixed, sealF, crc_fixed]
    exact ht0 ((crc_burst 4294967295 a turn l (sealF k load) hl ht ha h).1 hc)
  · left; omega
end Go.Proofs.Ytijdffpekonklaa
