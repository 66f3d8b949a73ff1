/- Hexadecimal digits: plain mathematics. Nothing here names the program. -/
import Derived.Test.YtjlkcdmeiakkbaaDoorBase
set_option linter.unusedVariables false
set_option linter.unusedSimpArgs false
namespace Go.Proofs.YtjlkcdmeiakkbaaDoor
open Go.RowKit

/-- The digits. -/
def dk : List UInt8 := [48, 49, 50, 51, 52, 53, 54, 55, 56, 57, 97, 98, 99, 100, 101, 102]
theorem dk_length : dk.length = 16 := rfl
def hxd (v : Nat) : UInt8 := dk.getD v 0
def hexB (b : UInt8) : List UInt8 := [hxd (b.toNat / 16), hxd (b.toNat % 16)]
def hexOf (bs : List UInt8) : List UInt8 := bs.flatMap hexB
def isD (c : UInt8) : Bool := (decide (48 ≤ c.toNat) && decide (c.toNat ≤ 57)) || (decide (97 ≤ c.toNat) && decide (c.toNat ≤ 102))
def valD (c : UInt8) : Nat := if c.toNat ≤ 57 then c.toNat - 48 else c.toNat - 87
def byteD (a b : UInt8) : UInt8 := UInt8.ofNat (valD a * 16 + valD b)
def unhex : List UInt8 → List UInt8
  | a :: b :: r => byteD a b :: unhex r
  | _ => []
def goodD (s : List UInt8) : Bool := decide (s.length % 2 = 0) && s.all isD

theorem all_u8 (p : UInt8 → Bool) (h : (List.range 256).all (fun n => p (UInt8.ofNat n)) = true) (c : UInt8) : p c = true := by
  have := List.all_eq_true.1 h c.toNat (List.mem_range.2 c.toNat_lt)
  simpa using this
theorem isD_spec (c : UInt8) (h : isD c = true) : valD c < 16 ∧ hxd (valD c) = c := by
  have := all_u8 (fun c => !isD c || (decide (valD c < 16) && decide (hxd (valD c) = c))) (by decide +kernel) c
  simpa [h] using this
theorem hxd_spec (v : Nat) (h : v < 16) : isD (hxd v) = true ∧ valD (hxd v) = v := by
  have : (List.range 16).all (fun v => isD (hxd v) && decide (valD (hxd v) = v)) = true := by decide +kernel
  have := List.all_eq_true.1 this v (List.mem_range.2 h)
  simpa using this
theorem dk_get (v : Nat) (h : v < dk.length) : dk[v]'h = hxd v := by simp [hxd, h]
theorem hxd_inj (i j : Nat) (hi : i < 16) (hj : j < 16) (h : hxd i = hxd j) : i = j := by
  rw [← (hxd_spec i hi).2, ← (hxd_spec j hj).2, h]
theorem byteD_hxd (b : UInt8) : byteD (hxd (b.toNat / 16)) (hxd (b.toNat % 16)) = b := by
  have hb := b.toNat_lt
  rw [byteD, (hxd_spec _ (by omega)).2, (hxd_spec _ (by omega)).2, show b.toNat / 16 * 16 + b.toNat % 16 = b.toNat from by omega]
  simp
theorem byteD_toNat (a b : UInt8) (ha : isD a = true) (hb : isD b = true) : (byteD a b).toNat = valD a * 16 + valD b := by
  have h1 := (isD_spec a ha).1
  have h2 := (isD_spec b hb).1
  rw [byteD, UInt8.toNat_ofNat']
  omega
theorem hexB_byteD (a b : UInt8) (ha : isD a = true) (hb : isD b = true) : hexB (byteD a b) = [a, b] := by
  have h1 := isD_spec a ha
  have h2 := isD_spec b hb
  rw [hexB, byteD_toNat a b ha hb, show (valD a * 16 + valD b) / 16 = valD a from by omega, show (valD a * 16 + valD b) % 16 = valD b from by omega, h1.2, h2.2]
theorem hexOf_cons (b : UInt8) (r : List UInt8) : hexOf (b :: r) = hxd (b.toNat / 16) :: hxd (b.toNat % 16) :: hexOf r := rfl
theorem hexOf_snoc (bs : List UInt8) (b : UInt8) : hexOf (bs ++ [b]) = hexOf bs ++ [hxd (b.toNat / 16), hxd (b.toNat % 16)] := by simp [hexOf, hexB]
theorem hexOf_length : ∀ bs : List UInt8, (hexOf bs).length = 2 * bs.length
  | [] => rfl
  | b :: r => by rw [hexOf_cons, List.length_cons, List.length_cons, hexOf_length r, List.length_cons]; omega
theorem unhex_hexOf : ∀ bs : List UInt8, unhex (hexOf bs) = bs
  | [] => rfl
  | b :: r => by rw [hexOf_cons, unhex, byteD_hxd, unhex_hexOf r]
theorem goodD_hexOf (bs : List UInt8) : goodD (hexOf bs) = true := by
  have h1 : ∀ bs : List UInt8, (hexOf bs).all isD = true := by
    intro bs
    induction bs with
    | nil => rfl
    | cons b r ih =>
      have hb := b.toNat_lt
      rw [hexOf_cons, List.all_cons, List.all_cons, ih, (hxd_spec _ (show b.toNat / 16 < 16 by omega)).1, (hxd_spec _ (show b.toNat % 16 < 16 by omega)).1]
      rfl
  rw [goodD, h1, hexOf_length]
  simp
theorem unhex_length : ∀ s : List UInt8, (unhex s).length = s.length / 2
  | [] => rfl
  | [_] => by simp [unhex]
  | a :: b :: r => by rw [unhex, List.length_cons, unhex_length r, List.length_cons, List.length_cons]; omega
theorem hexOf_unhex : ∀ s : List UInt8, goodD s = true → hexOf (unhex s) = s
  | [], _ => rfl
  | [_], h => by simp [goodD] at h
  | a :: b :: r, h => by
    simp only [goodD, List.length_cons, List.all_cons, Bool.and_eq_true, decide_eq_true_eq] at h
    obtain ⟨h0, ha, hb, hr⟩ := h
    have ih := hexOf_unhex r (by simp only [goodD, Bool.and_eq_true, decide_eq_true_eq]; exact ⟨by omega, hr⟩)
    have hx : hexOf (byteD a b :: unhex r) = hexB (byteD a b) ++ hexOf (unhex r) := rfl
    rw [unhex, hx, hexB_byteD a b ha hb, ih]
    rfl
theorem unhex_get : ∀ (s : List UInt8) (k : Nat) (h : 2 * k + 1 < s.length), (unhex s)[k]? = some (byteD (s[2 * k]'(by omega)) (s[2 * k + 1]'h))
  | [], k, h => by simp at h
  | [_], k, h => by simp at h
  | a :: b :: r, 0, _ => rfl
  | a :: b :: r, k + 1, h => by
    have := unhex_get r k (by simp at h; omega)
    rw [unhex, List.getElem?_cons_succ, this]
    congr 1
/-- The bytes so far, and zeros behind them. -/
def padH (s : List UInt8) (k : Nat) : List UInt8 := (unhex s).take k ++ List.replicate (s.length / 2 - k) 0
theorem padH_length (s : List UInt8) (k : Nat) (h : k ≤ s.length / 2) : (padH s k).length = s.length / 2 := by simp [padH, unhex_length]; omega
theorem padH_zero (s : List UInt8) : padH s 0 = List.replicate (s.length / 2) 0 := by simp [padH]
theorem padH_end (s : List UInt8) : padH s (s.length / 2) = unhex s := by
  simp only [padH, Nat.sub_self, List.replicate_zero, List.append_nil]
  exact List.take_of_length_le (by rw [unhex_length]; exact Nat.le_refl _)
theorem padH_set (s : List UInt8) (k : Nat) (h : 2 * k + 1 < s.length) : (padH s k).set k (byteD (s[2 * k]'(by omega)) (s[2 * k + 1]'h)) = padH s (k + 1) := by
  have hl := unhex_length s
  have hk : k < (unhex s).length := by omega
  have hg := unhex_get s k h
  rw [List.getElem?_eq_getElem hk] at hg
  have hg' := Option.some.inj hg
  apply List.ext_getElem
  · simp only [padH, List.length_set, List.length_append, List.length_take, List.length_replicate]; omega
  · intro j h1 h2
    rw [List.getElem_set]
    by_cases e : k = j
    · subst e
      rw [if_pos rfl, ← hg']
      simp only [padH]
      rw [List.getElem_append_left (by simp; omega), List.getElem_take]
    · rw [if_neg e]
      simp only [padH, List.getElem_append, List.length_take, List.getElem_take, List.getElem_replicate]
      split <;> split <;> first | rfl | (exfalso; omega)
theorem goodD_pair {s : List UInt8} (h : goodD s = true) (k : Nat) (hk : k < s.length) : isD (s[k]'hk) = true := by
  simp only [goodD, Bool.and_eq_true, decide_eq_true_eq] at h
  exact List.all_eq_true.1 h.2 _ (List.getElem_mem hk)
theorem goodD_of {s : List UInt8} (h0 : s.length % 2 = 0) (h : ∀ k, k < s.length / 2 → ∀ h : 2 * k + 1 < s.length, isD (s[2 * k]'(by omega)) = true ∧ isD (s[2 * k + 1]'h) = true) : goodD s = true := by
  simp only [goodD, Bool.and_eq_true, decide_eq_true_eq]
  refine ⟨h0, List.all_eq_true.2 fun x hx => ?_⟩
  obtain ⟨i, hi, rfl⟩ := List.getElem_of_mem hx
  have := h (i / 2) (by omega) (by omega)
  by_cases e : i % 2 = 0
  · have e2 : 2 * (i / 2) = i := by omega
    have := this.1
    simpa only [e2] using this
  · have e2 : 2 * (i / 2) + 1 = i := by omega
    have := this.2
    simpa only [e2] using this
end Go.Proofs.YtjlkcdmeiakkbaaDoor
