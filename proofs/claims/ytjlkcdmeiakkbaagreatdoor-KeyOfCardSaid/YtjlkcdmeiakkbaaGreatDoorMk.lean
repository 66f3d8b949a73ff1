/- Several texts in one: HexMath, KeyMath. -/
import Derived.Lib.ItoaNum
import Derived.Lib.AtoiTie
import Derived.Lib.CutLaws
import Derived.Test.YtjlkcdmeiakkbaaGreatDoorBs
set_option linter.unusedVariables false
set_option linter.unusedSimpArgs false
/-! Hexadecimal digits: plain mathematics. Nothing here names the program. -/
namespace Go.Proofs.YtjlkcdmeiakkbaaGreatDoor
open Go.RowKit

/-- The digits. -/
def dk : List UInt8 := [48, 49, 50, 51, 52, 53, 54, 55, 56, 57, 97, 98, 99, 100, 101, 102]
theorem dk_length : dk.length = 16 := rfl
def hxd (v : Nat) : UInt8 := dk.getD v 0
def hexB (b : UInt8) : List UInt8 := [hxd (b.toNat / 16), hxd (b.toNat % 16)]
def hexOf (bs : List UInt8) : List UInt8 := bs.flatMap hexB
def isD (c : UInt8) : Bool := (decide (48 ≤ c.toNat) && decide (c.toNat ≤ 57)) || (decide (97 ≤ c.toNat) && decide (c.toNat ≤ 102))
def valD (c : UInt8) : Nat := if c.toNat ≤ 57 then c.toNat - 48 else c.toNat - 87
def byteD (a b : UInt8) : UInt8 := UInt8.ofNat (valD a * 16 + valD b)
def unhex : List UInt8 → List UInt8
  | a :: b :: r => byteD a b :: unhex r
  | _ => []
def goodD (s : List UInt8) : Bool := decide (s.length % 2 = 0) && s.all isD

theorem all_u8 (p : UInt8 → Bool) (h : (List.range 256).all (fun n => p (UInt8.ofNat n)) = true) (c : UInt8) : p c = true := by
  have := List.all_eq_true.1 h c.toNat (List.mem_range.2 c.toNat_lt)
  simpa using this
theorem isD_spec (c : UInt8) (h : isD c = true) : valD c < 16 ∧ hxd (valD c) = c := by
  have := all_u8 (fun c => !isD c || (decide (valD c < 16) && decide (hxd (valD c) = c))) (by decide +kernel) c
  simpa [h] using this
theorem hxd_spec (v : Nat) (h : v < 16) : isD (hxd v) = true ∧ valD (hxd v) = v := by
  have : (List.range 16).all (fun v => isD (hxd v) && decide (valD (hxd v) = v)) = true := by decide +kernel
  have := List.all_eq_true.1 this v (List.mem_range.2 h)
  simpa using this
theorem dk_get (v : Nat) (h : v < dk.length) : dk[v]'h = hxd v := by simp [hxd, h]
theorem hxd_inj (i j : Nat) (hi : i < 16) (hj : j < 16) (h : hxd i = hxd j) : i = j := by
  rw [← (hxd_spec i hi).2, ← (hxd_spec j hj).2, h]
theorem byteD_hxd (b : UInt8) : byteD (hxd (b.toNat / 16)) (hxd (b.toNat % 16)) = b := by
  have hb := b.toNat_lt
  rw [byteD, (hxd_spec _ (by omega)).2, (hxd_spec _ (by omega)).2, show b.toNat / 16 * 16 + b.toNat % 16 = b.toNat from by omega]
  simp
theorem byteD_toNat (a b : UInt8) (ha : isD a = true) (hb : isD b = true) : (byteD a b).toNat = valD a * 16 + valD b := by
  have h1 := (isD_spec a ha).1
  have h2 := (isD_spec b hb).1
  rw [byteD, UInt8.toNat_ofNat']
  omega
theorem hexB_byteD (a b : UInt8) (ha : isD a = true) (hb : isD b = true) : hexB (byteD a b) = [a, b] := by
  have h1 := isD_spec a ha
  have h2 := isD_spec b hb
  rw [hexB, byteD_toNat a b ha hb, show (valD a * 16 + valD b) / 16 = valD a from by omega, show (valD a * 16 + valD b) % 16 = valD b from by omega, h1.2, h2.2]
theorem hexOf_cons (b : UInt8) (r : List UInt8) : hexOf (b :: r) = hxd (b.toNat / 16) :: hxd (b.toNat % 16) :: hexOf r := rfl
theorem hexOf_snoc (bs : List UInt8) (b : UInt8) : hexOf (bs ++ [b]) = hexOf bs ++ [hxd (b.toNat / 16), hxd (b.toNat % 16)] := by simp [hexOf, hexB]
theorem hexOf_length : ∀ bs : List UInt8, (hexOf bs).length = 2 * bs.length
  | [] => rfl
  | b :: r => by rw [hexOf_cons, List.length_cons, List.length_cons, hexOf_length r, List.length_cons]; omega
theorem unhex_hexOf : ∀ bs : List UInt8, unhex (hexOf bs) = bs
  | [] => rfl
  | b :: r => by rw [hexOf_cons, unhex, byteD_hxd, unhex_hexOf r]
theorem goodD_hexOf (bs : List UInt8) : goodD (hexOf bs) = true := by
  have h1 : ∀ bs : List UInt8, (hexOf bs).all isD = true := by
    intro bs
    induction bs with
    | nil => rfl
    | cons b r ih =>
      have hb := b.toNat_lt
      rw [hexOf_cons, List.all_cons, List.all_cons, ih, (hxd_spec _ (show b.toNat / 16 < 16 by omega)).1, (hxd_spec _ (show b.toNat % 16 < 16 by omega)).1]
      rfl
  rw [goodD, h1, hexOf_length]
  simp
theorem unhex_length : ∀ s : List UInt8, (unhex s).length = s.length / 2
  | [] => rfl
  | [_] => by simp [unhex]
  | a :: b :: r => by rw [unhex, List.length_cons, unhex_length r, List.length_cons, List.length_cons]; omega
theorem hexOf_unhex : ∀ s : List UInt8, goodD s = true → hexOf (unhex s) = s
  | [], _ => rfl
  | [_], h => by simp [goodD] at h
  | a :: b :: r, h => by
    simp only [goodD, List.length_cons, List.all_cons, Bool.and_eq_true, decide_eq_true_eq] at h
    obtain ⟨h0, ha, hb, hr⟩ := h
    have ih := hexOf_unhex r (by simp only [goodD, Bool.and_eq_true, decide_eq_true_eq]; exact ⟨by omega, hr⟩)
    have hx : hexOf (byteD a b :: unhex r) = hexB (byteD a b) ++ hexOf (unhex r) := rfl
    rw [unhex, hx, hexB_byteD a b ha hb, ih]
    rfl
theorem unhex_get : ∀ (s : List UInt8) (k : Nat) (h : 2 * k + 1 < s.length), (unhex s)[k]? = some (byteD (s[2 * k]'(by omega)) (s[2 * k + 1]'h))
  | [], k, h => by simp at h
  | [_], k, h => by simp at h
  | a :: b :: r, 0, _ => rfl
  | a :: b :: r, k + 1, h => by
    have := unhex_get r k (by simp at h; omega)
    rw [unhex, List.getElem?_cons_succ, this]
    congr 1
/-- The bytes so far, and zeros behind them. -/
def padH (s : List UInt8) (k : Nat) : List UInt8 := (unhex s).take k ++ List.replicate (s.length / 2 - k) 0
theorem padH_length (s : List UInt8) (k : Nat) (h : k ≤ s.length / 2) : (padH s k).length = s.length / 2 := by simp [padH, unhex_length]; omega
theorem padH_zero (s : List UInt8) : padH s 0 = List.replicate (s.length / 2) 0 := by simp [padH]
theorem padH_end (s : List UInt8) : padH s (s.length / 2) = unhex s := by
  simp only [padH, Nat.sub_self, List.replicate_zero, List.append_nil]
  exact List.take_of_length_le (by rw [unhex_length]; exact Nat.le_refl _)
theorem padH_set (s : List UInt8) (k : Nat) (h : 2 * k + 1 < s.length) : (padH s k).set k (byteD (s[2 * k]'(by omega)) (s[2 * k + 1]'h)) = padH s (k + 1) := by
  have hl := unhex_length s
  have hk : k < (unhex s).length := by omega
  have hg := unhex_get s k h
  rw [List.getElem?_eq_getElem hk] at hg
  have hg' := Option.some.inj hg
  apply List.ext_getElem
  · simp only [padH, List.length_set, List.length_append, List.length_take, List.length_replicate]; omega
  · intro j h1 h2
    rw [List.getElem_set]
    by_cases e : k = j
    · subst e
      rw [if_pos rfl, ← hg']
      simp only [padH]
      rw [List.getElem_append_left (by simp; omega), List.getElem_take]
    · rw [if_neg e]
      simp only [padH, List.getElem_append, List.length_take, List.getElem_take, List.getElem_replicate]
      split <;> split <;> first | rfl | (exfalso; omega)
theorem goodD_pair {s : List UInt8} (h : goodD s = true) (k : Nat) (hk : k < s.length) : isD (s[k]'hk) = true := by
  simp only [goodD, Bool.and_eq_true, decide_eq_true_eq] at h
  exact List.all_eq_true.1 h.2 _ (List.getElem_mem hk)
theorem goodD_of {s : List UInt8} (h0 : s.length % 2 = 0) (h : ∀ k, k < s.length / 2 → ∀ h : 2 * k + 1 < s.length, isD (s[2 * k]'(by omega)) = true ∧ isD (s[2 * k + 1]'h) = true) : goodD s = true := by
  simp only [goodD, Bool.and_eq_true, decide_eq_true_eq]
  refine ⟨h0, List.all_eq_true.2 fun x hx => ?_⟩
  obtain ⟨i, hi, rfl⟩ := List.getElem_of_mem hx
  have := h (i / 2) (by omega) (by omega)
  by_cases e : i % 2 = 0
  · have e2 : 2 * (i / 2) = i := by omega
    have := this.1
    simpa only [e2] using this
  · have e2 : 2 * (i / 2) + 1 = i := by omega
    have := this.2
    simpa only [e2] using this
end Go.Proofs.YtjlkcdmeiakkbaaGreatDoor

/-! Stage 17's mathematics: the text of a key and the key of a text; file names and what they name. -/
namespace Go.Proofs.YtjlkcdmeiakkbaaGreatDoor

/-- The text of a key: a hash of 32 bytes and K. -/
def keyT (h : List UInt8) (k : Int) : List UInt8 := if 1 ≤ k ∧ k ≤ 4 then hexOf h ++ [45] ++ Lib.itoa k else []
def zeroH : List UInt8 := List.replicate 32 0
/-- The K that a text of 66 bytes ends in. -/
def lastK (s : List UInt8) : Int := ((s.getD 65 0).toNat : Int) - 48
/-- The key of a text. -/
def keyP (s : List UInt8) : Option (List UInt8 × Int) :=
  if s.length = 66 ∧ goodD (s.take 64) = true ∧ keyT (unhex (s.take 64)) (lastK s) = s then some (unhex (s.take 64), lastK s) else none
/-- The key of a text, or the zero value. -/
def keyD (s : List UInt8) : List UInt8 × Int := (keyP s).getD (zeroH, 0)

theorem itoa_k {k : Int} (h0 : 0 ≤ k) (h1 : k ≤ 9) : Lib.itoa k = [UInt8.ofNat (48 + k.toNat)] := by
  unfold Lib.itoa
  rw [if_neg (by omega), Lib.decDigits_one (by omega)]
theorem keyT_on {h : List UInt8} {k : Int} (h0 : 1 ≤ k) (h1 : k ≤ 4) : keyT h k = hexOf h ++ [45, UInt8.ofNat (48 + k.toNat)] := by
  unfold keyT
  rw [if_pos ⟨h0, h1⟩, itoa_k (by omega) (by omega)]
  simp
theorem keyT_off {h : List UInt8} {k : Int} (hk : ¬ (1 ≤ k ∧ k ≤ 4)) : keyT h k = [] := if_neg hk
theorem keyT_length {h : List UInt8} {k : Int} (hl : h.length = 32) (h0 : 1 ≤ k) (h1 : k ≤ 4) : (keyT h k).length = 66 := by
  rw [keyT_on h0 h1, List.length_append, hexOf_length, hl]
  rfl
theorem keyT_length_le {h : List UInt8} {k : Int} (hl : h.length = 32) : (keyT h k).length ≤ 66 := by
  by_cases hk : 1 ≤ k ∧ k ≤ 4
  · rw [keyT_length hl hk.1 hk.2]; exact Nat.le_refl _
  · rw [keyT_off hk]; simp
theorem keyT_nil {h : List UInt8} {k : Int} (hl : h.length = 32) : keyT h k = [] ↔ ¬ (1 ≤ k ∧ k ≤ 4) := by
  constructor
  · intro e hk
    have := keyT_length hl hk.1 hk.2
    rw [e] at this
    cases this
  · exact keyT_off
theorem zeroH_length : zeroH.length = 32 := rfl
theorem keyP_spec {s h : List UInt8} {k : Int} (e : keyP s = some (h, k)) : h.length = 32 ∧ 1 ≤ k ∧ k ≤ 4 ∧ keyT h k = s ∧ s.length = 66 := by
  unfold keyP at e
  split at e
  · rename_i hc
    obtain ⟨h1, h2, h3⟩ := hc
    injection e with e
    injection e with e1 e2
    subst e1 e2
    refine ⟨by rw [unhex_length, List.length_take, h1]; rfl, ?_⟩
    by_cases hk : 1 ≤ lastK s ∧ lastK s ≤ 4
    · exact ⟨hk.1, hk.2, h3, h1⟩
    · rw [keyT_off hk] at h3
      rw [← h3] at h1
      cases h1
  · cases e
theorem keyP_text {h : List UInt8} {k : Int} (hl : h.length = 32) (h0 : 1 ≤ k) (h1 : k ≤ 4) : keyP (keyT h k) = some (h, k) := by
  have hx : (hexOf h).length = 64 := by rw [hexOf_length, hl]
  have e1 : (keyT h k).take 64 = hexOf h := by rw [keyT_on h0 h1, List.take_append_of_le_length (by omega), List.take_of_length_le (by omega)]
  have e2 : lastK (keyT h k) = k := by
    unfold lastK
    rw [keyT_on h0 h1, List.getD_eq_getElem?_getD, List.getElem?_append_right (by omega), hx]
    simp only [show 65 - 64 = 1 from rfl, List.getElem?_cons_succ, List.getElem?_cons_zero, Option.getD_some, UInt8.toNat_ofNat']
    omega
  unfold keyP
  rw [e1, e2, unhex_hexOf, if_pos ⟨keyT_length hl h0 h1, goodD_hexOf h, rfl⟩]
theorem keyD_length (s : List UInt8) : (keyD s).1.length = 32 := by
  unfold keyD
  cases h : keyP s with
  | none => rfl
  | some x => exact (keyP_spec h).1

/-- What the document asks of a text that is a key's. -/
def docK (s : List UInt8) : Bool := decide (s.length = 66) && (s.getD 64 0 == 45) && decide (49 ≤ (s.getD 65 0).toNat) && decide ((s.getD 65 0).toNat ≤ 52) && goodD (s.take 64)
theorem split66 {s : List UInt8} (h : s.length = 66) : s = s.take 64 ++ [s.getD 64 0, s.getD 65 0] := by
  have e : s.drop 64 = [s.getD 64 0, s.getD 65 0] := by
    apply List.ext_getElem
    · simp [h]
    · intro i h1 h2
      have : i = 0 ∨ i = 1 := by simp at h2; omega
      rcases this with rfl | rfl <;> simp [h]
  rw [← e, List.take_append_drop]
theorem docK_spec (s : List UInt8) : docK s = (keyP s).isSome := by
  unfold docK keyP
  by_cases h1 : s.length = 66
  · by_cases h2 : goodD (s.take 64) = true
    · have hs := split66 h1
      have hx : hexOf (unhex (s.take 64)) = s.take 64 := hexOf_unhex _ h2
      have hb := (s.getD 65 0).toNat_lt
      generalize ea : s.getD 64 0 = a at *
      generalize eb : s.getD 65 0 = b at *
      by_cases h3 : 49 ≤ b.toNat ∧ b.toNat ≤ 52
      · have ek : lastK s = (b.toNat : Int) - 48 := by unfold lastK; rw [eb]
        have et : keyT (unhex (s.take 64)) (lastK s) = s.take 64 ++ [45, b] := by
          rw [keyT_on (by omega) (by omega), hx, ek, show 48 + ((b.toNat : Int) - 48).toNat = b.toNat by omega, UInt8.ofNat_toNat]
        by_cases h4 : a = 45
        · rw [if_pos ⟨h1, h2, by rw [et, ← h4]; exact hs.symm⟩]
          simp [h1, h2, h3.1, h3.2, h4]
        · rw [if_neg]
          · simp [h4]
          · rintro ⟨-, -, e⟩
            rw [et] at e
            have e' := e.trans hs
            simp at e'
            exact h4 e'.symm
      · rw [if_neg]
        · have : (decide (49 ≤ b.toNat) && decide (b.toNat ≤ 52)) = false := by
            rcases Nat.lt_or_ge b.toNat 49 with q | q
            · simp [Nat.not_le.2 q]
            · simp [show ¬ b.toNat ≤ 52 from fun q2 => h3 ⟨q, q2⟩]
          simp only [Bool.and_assoc]
          rw [← Bool.and_assoc (decide (49 ≤ b.toNat)), this]
          simp
        · rintro ⟨-, -, e⟩
          have hn : ¬ (1 ≤ lastK s ∧ lastK s ≤ 4) := by unfold lastK; rw [eb]; omega
          rw [keyT_off hn] at e
          rw [← e] at h1
          cases h1
    · rw [if_neg (fun e => h2 e.2.1)]
      simp [h2]
  · rw [if_neg (fun e => h1 e.1)]
    simp [h1]
theorem lastK_of {s h : List UInt8} {k : Int} (e : keyP s = some (h, k)) : h = unhex (s.take 64) ∧ k = lastK s := by
  unfold keyP at e
  split at e
  · injection e with e; injection e with e1 e2; exact ⟨e1.symm, e2.symm⟩
  · cases e

/-! ### File names -/

def journalB : List UInt8 := [106, 111, 117, 114, 110, 97, 108]
def freshB : List UInt8 := [106, 111, 117, 114, 110, 97, 108, 46, 110, 101, 119]
/-- A name with a number. -/
def numT (c : UInt8) (n : Int) : List UInt8 := if 0 ≤ n ∧ n ≤ 1000000000 then [c, 45] ++ Lib.itoa n else []
/-- The file name of a kind, a key and a number. -/
def nameT (kd : Int) (h : List UInt8) (k n : Int) : List UInt8 :=
  if kd = 1 then (if keyT h k = [] then [] else [111, 45] ++ keyT h k)
  else if kd = 2 then numT 116 n else if kd = 3 then numT 113 n else if kd = 4 then journalB else if kd = 5 then freshB else []
/-- Kind, key, number. -/
structure NameD where
  kd : Int
  h : List UInt8
  k : Int
  n : Int
  deriving DecidableEq
def zeroN : NameD := ⟨0, zeroH, 0, 0⟩
def NameD.text (x : NameD) : List UInt8 := nameT x.kd x.h x.k x.n
/-- The number that Atoi hands back, whatever the error. -/
def atoiV (s : List UInt8) : Int := match Lib.atoiAll s with | .ok v => v | .range => Lib.atoiSat s | _ => 0
/-- The only thing that a text can be the name of. -/
def candN (s : List UInt8) : NameD :=
  if s = journalB then ⟨4, zeroH, 0, 0⟩
  else if s = freshB then ⟨5, zeroH, 0, 0⟩
  else if (Lib.cut s [45]).1 = [111] then ⟨1, (keyD (Lib.cut s [45]).2.1).1, (keyD (Lib.cut s [45]).2.1).2, 0⟩
  else if (Lib.cut s [45]).1 = [116] then ⟨2, zeroH, 0, atoiV (Lib.cut s [45]).2.1⟩
  else if (Lib.cut s [45]).1 = [113] then ⟨3, zeroH, 0, atoiV (Lib.cut s [45]).2.1⟩
  else zeroN
/-- What a text is the name of. -/
def readN (s : List UInt8) : NameD := if (candN s).text = s then candN s else zeroN

theorem index_dash (c : UInt8) (r : List UInt8) (hc : c ≠ 45) : Lib.index (c :: 45 :: r) [45] = 1 := by
  have h1 : ([45] : List UInt8).isPrefixOf (c :: 45 :: r) = false := by
    simp [List.isPrefixOf]
    exact fun e => hc e.symm
  have h2 : Lib.index (45 :: r) [45] = 0 := by
    unfold Lib.index
    simp [List.isPrefixOf]
  rw [show Lib.index (c :: 45 :: r) [45] = (if ([45] : List UInt8).isPrefixOf (c :: 45 :: r) then 0 else if Lib.index (45 :: r) [45] == -1 then -1 else Lib.index (45 :: r) [45] + 1) from by conv => lhs; unfold Lib.index, h1, h2]
  rfl
theorem cut_dash (c : UInt8) (r : List UInt8) (hc : c ≠ 45) : Lib.cut (c :: 45 :: r) [45] = ([c], r, true) := by
  unfold Lib.cut
  rw [index_dash c r hc]
  simp
theorem candN_length (s : List UInt8) : (candN s).h.length = 32 := by
  unfold candN
  split
  · rfl
  · split
    · rfl
    · split
      · exact keyD_length _
      · split
        · rfl
        · split <;> rfl
theorem readN_length (s : List UInt8) : (readN s).h.length = 32 := by
  unfold readN
  split
  · exact candN_length s
  · rfl

/-! ### A numeral is read as its number -/
theorem decFrom_append : ∀ (l m : List UInt8) (acc a : Nat), Lib.decFrom acc l = some a → Lib.decFrom acc (l ++ m) = Lib.decFrom a m
  | [], m, acc, a, h => by
    simp only [Lib.decFrom] at h
    injection h with h
    subst h
    rfl
  | c :: r, m, acc, a, h => by
    simp only [Lib.decFrom, List.cons_append] at h ⊢
    cases hd : Lib.digitVal c with
    | none => rw [hd] at h; cases h
    | some d =>
      rw [hd] at h
      simp only at h ⊢
      exact decFrom_append r m _ a h
theorem digitVal_dec (d : Nat) (h : d < 10) : Lib.digitVal (UInt8.ofNat (48 + d)) = some d := by
  have : ∀ d : Fin 10, Lib.digitVal (UInt8.ofNat (48 + d.val)) = some d.val := by decide
  exact this ⟨d, h⟩
theorem decFrom_dec (u : Nat) : Lib.decFrom 0 (Lib.decDigits u) = some u := by
  induction u using Nat.strongRecOn with
  | _ u ih =>
    by_cases h : u < 10
    · rw [Lib.decDigits_one h]
      simp only [Lib.decFrom, digitVal_dec u h]
      simp
    · rw [Lib.decDigits, dif_neg h, decFrom_append _ _ _ _ (ih (u / 10) (by omega))]
      simp only [Lib.decFrom, digitVal_dec (u % 10) (by omega)]
      congr 1
      omega
theorem decDigits_ne (u : Nat) : Lib.decDigits u ≠ [] := by
  intro e
  have := Lib.decDigits_length u
  rw [e] at this
  have := Lib.nDigits_pos u
  simp at *
  omega
theorem decDigits_head (u : Nat) : ∃ c r, Lib.decDigits u = c :: r ∧ 48 ≤ c.toNat ∧ c.toNat ≤ 57 := by
  induction u using Nat.strongRecOn with
  | _ u ih =>
    by_cases h : u < 10
    · refine ⟨_, [], Lib.decDigits_one h, ?_⟩
      rw [UInt8.toNat_ofNat']
      omega
    · obtain ⟨c, r, e, h1, h2⟩ := ih (u / 10) (by omega)
      exact ⟨c, _, by rw [Lib.decDigits, dif_neg h, e]; rfl, h1, h2⟩
theorem nDigits_le (u : Nat) (h : u ≤ 1000000000) : Lib.nDigits u ≤ 10 := by
  rcases Nat.lt_or_ge 10 (Lib.nDigits u) with q | q
  · exfalso
    have h1 : ∀ (k u : Nat), k < Lib.nDigits u → 10 ^ k ≤ u ∨ k = 0 := by
      intro k
      induction k with
      | zero => intro u _; exact .inr rfl
      | succ k ih =>
        intro u hk
        by_cases h10 : u < 10
        · rw [Lib.nDigits_small h10] at hk; omega
        · rw [Lib.nDigits_big h10] at hk
          rcases ih (u / 10) (by omega) with q | rfl
          · left; rw [Nat.pow_succ]; omega
          · left; omega
    rcases h1 10 u q with q | q
    · omega
    · cases q
  · exact q
theorem atoiV_itoa (n : Int) (h0 : 0 ≤ n) (h1 : n ≤ 1000000000) : atoiV (Lib.itoa n) = n := by
  have e : Lib.itoa n = Lib.decDigits n.toNat := by unfold Lib.itoa; rw [if_neg (by omega)]
  have hl := nDigits_le n.toNat (by omega)
  have ha : Lib.atoi (Lib.decDigits n.toNat) = some n := by
    obtain ⟨c, r, ec, c1, c2⟩ := decDigits_head n.toNat
    have hv := decFrom_dec n.toNat
    rw [ec] at hv ⊢
    have q1 : (c == 45) = false := by rw [beq_eq_false_iff_ne]; rintro rfl; simp at c1
    have q2 : (c == 43) = false := by rw [beq_eq_false_iff_ne]; rintro rfl; simp at c1
    simp only [Lib.atoi, q1, q2]
    simp only [Lib.decNat, List.isEmpty_cons, hv]
    simp
    omega
  unfold atoiV
  rw [e, Lib.atoiAll_short _ (by rw [Lib.decDigits_length]; omega), ha]
  rfl

/-! ### What is written is read -/
theorem nameT_cand (kd : Int) (h : List UInt8) (k n : Int) (hl : h.length = 32) (hne : nameT kd h k n ≠ []) :
    candN (nameT kd h k n) = ⟨kd, if kd = 1 then h else zeroH, if kd = 1 then k else 0, if kd = 2 ∨ kd = 3 then n else 0⟩ := by
  have hj : ∀ (c : UInt8) (r : List UInt8), c ≠ 106 → c :: r ≠ journalB := by
    intro c r hc e
    unfold journalB at e
    injection e with e _
    exact hc e
  have hf : ∀ (c : UInt8) (r : List UInt8), c ≠ 106 → c :: r ≠ freshB := by
    intro c r hc e
    unfold freshB at e
    injection e with e _
    exact hc e
  unfold nameT at hne ⊢
  by_cases e1 : kd = 1
  · subst e1
    rw [if_pos rfl] at hne ⊢
    by_cases e : keyT h k = []
    · rw [if_pos e] at hne; exact (hne rfl).elim
    · rw [if_neg e]
      have hk : 1 ≤ k ∧ k ≤ 4 := Classical.byContradiction fun q => e (keyT_off q)
      unfold candN
      rw [show ([111, 45] : List UInt8) ++ keyT h k = 111 :: 45 :: keyT h k from rfl, if_neg (hj _ _ (by decide)), if_neg (hf _ _ (by decide)), cut_dash _ _ (by decide)]
      simp only [keyD, keyP_text hl hk.1 hk.2]
      simp
  · rw [if_neg e1] at hne ⊢
    by_cases e2 : kd = 2
    · subst e2
      rw [if_pos rfl] at hne ⊢
      unfold numT at hne ⊢
      by_cases hn : 0 ≤ n ∧ n ≤ 1000000000
      · rw [if_pos hn]
        unfold candN
        rw [show ([116, 45] : List UInt8) ++ Lib.itoa n = 116 :: 45 :: Lib.itoa n from rfl, if_neg (hj _ _ (by decide)), if_neg (hf _ _ (by decide)), cut_dash _ _ (by decide)]
        simp [atoiV_itoa n hn.1 hn.2]
      · rw [if_neg hn] at hne; exact (hne rfl).elim
    · rw [if_neg e2] at hne ⊢
      by_cases e3 : kd = 3
      · subst e3
        rw [if_pos rfl] at hne ⊢
        unfold numT at hne ⊢
        by_cases hn : 0 ≤ n ∧ n ≤ 1000000000
        · rw [if_pos hn]
          unfold candN
          rw [show ([113, 45] : List UInt8) ++ Lib.itoa n = 113 :: 45 :: Lib.itoa n from rfl, if_neg (hj _ _ (by decide)), if_neg (hf _ _ (by decide)), cut_dash _ _ (by decide)]
          simp [atoiV_itoa n hn.1 hn.2]
        · rw [if_neg hn] at hne; exact (hne rfl).elim
      · rw [if_neg e3] at hne ⊢
        by_cases e4 : kd = 4
        · subst e4
          unfold candN
          simp
        · rw [if_neg e4] at hne ⊢
          by_cases e5 : kd = 5
          · subst e5
            unfold candN
            simp [freshB, journalB]
          · rw [if_neg e5] at hne; exact (hne rfl).elim
theorem readN_name (kd : Int) (h : List UInt8) (k n : Int) (hl : h.length = 32) (hne : nameT kd h k n ≠ []) :
    readN (nameT kd h k n) = ⟨kd, if kd = 1 then h else zeroH, if kd = 1 then k else 0, if kd = 2 ∨ kd = 3 then n else 0⟩ := by
  have hc := nameT_cand kd h k n hl hne
  unfold readN
  have ht : (candN (nameT kd h k n)).text = nameT kd h k n := by
    rw [hc]
    unfold NameD.text nameT
    by_cases e1 : kd = 1
    · simp [e1]
    · by_cases e2 : kd = 2
      · simp [e2]
      · by_cases e3 : kd = 3
        · simp [e3]
        · simp [e1, e2, e3]
  rw [if_pos ht, hc]
/-- What is read as something is its name. -/
theorem readN_text (s : List UInt8) (h : (readN s).kd ≠ 0) : (readN s).text = s := by
  unfold readN at h ⊢
  split
  · assumption
  · rename_i e
    rw [if_neg e] at h
    exact (h rfl).elim
/-- What is read as nothing is no name. -/
theorem readN_none (s : List UInt8) (h : (readN s).kd = 0) : readN s = zeroN ∧ s ≠ journalB ∧ s ≠ freshB ∧ ∀ r, s = 111 :: 45 :: r → keyP r = none := by
  refine ⟨?_, ?_, ?_, ?_⟩
  · unfold readN at h ⊢
    split
    · rename_i e
      rw [if_pos e] at h
      have hn : (candN s).text = [] := by unfold NameD.text nameT; rw [h]; simp
      rw [hn] at e
      subst e
      decide +kernel
    · rfl
  · rintro rfl
    exact absurd h (by decide +kernel)
  · rintro rfl
    exact absurd h (by decide +kernel)
  · rintro r rfl
    cases hp : keyP r with
    | none => rfl
    | some x =>
      obtain ⟨hh, kk⟩ := x
      obtain ⟨q1, q2, q3, q4, -⟩ := keyP_spec hp
      have hne : keyT hh kk ≠ [] := fun e => (keyT_nil q1).1 e ⟨q2, q3⟩
      have e : nameT 1 hh kk 0 = 111 :: 45 :: r := by
        unfold nameT
        rw [if_pos rfl, if_neg hne, q4]
        rfl
      have := readN_name 1 hh kk 0 q1 (by rw [e]; simp)
      rw [e] at this
      rw [this] at h
      cases h
theorem readN_t7 : readN [116, 45, 55] = ⟨2, zeroH, 0, 7⟩ := by decide +kernel
theorem readN_t07 : readN [116, 45, 48, 55] = zeroN := by decide +kernel
end Go.Proofs.YtjlkcdmeiakkbaaGreatDoor
