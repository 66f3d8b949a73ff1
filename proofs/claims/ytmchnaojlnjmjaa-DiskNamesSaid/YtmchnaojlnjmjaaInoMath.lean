/- Plain mathematics of append-only files and crashes (layer 8). Nothing here names the program. -/
namespace Go.Proofs.Ytmchnaojlnjmjaa

/-- The cut of the k-th sector. -/
def cutAt (cuts : List Int) (k : Nat) : Int := cuts.getD k 0
/-- What a crash leaves of the byte b at i, where s bytes are durable. -/
def keepB (s : Nat) (cuts : List Int) (i : Nat) (b : UInt8) : UInt8 := if ((i % 16 : Nat) : Int) < cutAt cuts (i / 16 - s / 16) then b else 0
/-- The durable bytes and the first j of the others, behind a crash. -/
def leftC (now : List UInt8) (s : Nat) (cuts : List Int) (j : Nat) : List UInt8 := now.take s ++ (List.range j).map fun q => keepB s cuts (s + q) (now.getD (s + q) 0)
/-- How many of n - s bytes a size leaves. -/
def sizeC (n s : Nat) (size : Int) : Nat := min size.toNat (n - s)
/-- What a crash leaves. -/
def crashC (now : List UInt8) (s : Nat) (size : Int) (cuts : List Int) : List UInt8 := leftC now s cuts (sizeC now.length s size)
theorem leftC_zero (now : List UInt8) (s : Nat) (cuts : List Int) : leftC now s cuts 0 = now.take s := by simp [leftC]
theorem leftC_succ (now : List UInt8) (s : Nat) (cuts : List Int) (j : Nat) (h : s + j < now.length) : leftC now s cuts (j + 1) = leftC now s cuts j ++ [keepB s cuts (s + j) (now[s + j]'h)] := by
  simp only [leftC, List.range_succ, List.map_append, List.append_assoc, List.map_cons, List.map_nil]
  simp [List.getD, h]
theorem leftC_length (now : List UInt8) (s : Nat) (cuts : List Int) (j : Nat) (h : s ≤ now.length) : (leftC now s cuts j).length = s + j := by
  simp [leftC]; omega
theorem sizeC_le (n s : Nat) (size : Int) : sizeC n s size ≤ n - s := Nat.min_le_right _ _
theorem crashC_length (now : List UInt8) (s : Nat) (size : Int) (cuts : List Int) (h : s ≤ now.length) : (crashC now s size cuts).length = s + sizeC now.length s size := leftC_length _ _ _ _ h
theorem leftC_get (now : List UInt8) (s : Nat) (cuts : List Int) (j i : Nat) (h : s ≤ now.length) (hj : s + j ≤ now.length) (hi : i < s + j) :
    (leftC now s cuts j)[i]? = some (if i < s then now[i]'(by omega) else keepB s cuts i (now[i]'(by omega))) := by
  unfold leftC
  by_cases q : i < s
  · rw [List.getElem?_append_left (by simp; omega), if_pos q, List.getElem?_take, if_pos q, List.getElem?_eq_getElem (by omega)]
  · have hl : (now.take s).length = s := by simp; omega
    rw [List.getElem?_append_right (by omega), hl, if_neg q, List.getElem?_map, List.getElem?_range (by omega)]
    have e : s + (i - s) = i := by omega
    simp only [Option.map_some, e]
    rw [List.getD_eq_getElem?_getD, List.getElem?_eq_getElem (by omega)]
    rfl
/-- Each byte of what a crash leaves is as it was, or 0; a durable one is as it was. -/
theorem crash_keeps (now : List UInt8) (s : Nat) (size : Int) (cuts : List Int) (h : s ≤ now.length) (i : Nat) (hi : i < (crashC now s size cuts).length) (hn : i < now.length) :
    (crashC now s size cuts)[i]'hi = now[i]'hn ∨ (s ≤ i ∧ (crashC now s size cuts)[i]'hi = 0) := by
  have hl := crashC_length now s size cuts h
  have hs := sizeC_le now.length s size
  have e := leftC_get now s cuts (sizeC now.length s size) i h (by omega) (by omega)
  rw [show leftC now s cuts (sizeC now.length s size) = crashC now s size cuts from rfl, List.getElem?_eq_getElem hi, Option.some.injEq] at e
  rw [e]
  by_cases q : i < s
  · rw [if_pos q]; exact .inl rfl
  · rw [if_neg q, keepB]
    split
    · exact .inl rfl
    · exact .inr ⟨by omega, rfl⟩

/-- In how many sectors the bytes from s up to n stand. -/
def secsC (n s : Nat) : Nat := if s < n then (n - 1) / 16 - s / 16 + 1 else 0
theorem secsC_none (s : Nat) : secsC s s = 0 := by simp [secsC]
theorem secsC_succ (n s : Nat) (h : s ≤ n) : secsC (n + 1) s = secsC n s + (if n = s ∨ n % 16 = 0 then 1 else 0) := by
  unfold secsC
  rw [if_pos (by omega)]
  by_cases q : n = s
  · subst q
    rw [if_neg (by omega), if_pos (.inl rfl)]
    simp
  · rw [if_pos (by omega)]
    by_cases r : n % 16 = 0
    · rw [if_pos (.inr r)]; simp; omega
    · rw [if_neg (by omega)]; simp; omega
/-- The sector of a byte is one of them. -/
theorem secsC_in (n s i : Nat) (h1 : s ≤ i) (h2 : i < n) : i / 16 - s / 16 < secsC n s := by
  unfold secsC
  rw [if_pos (by omega)]
  have := Nat.div_le_div_right (c := 16) (show i ≤ n - 1 by omega)
  omega
/-- Full cuts and the full size lose nothing. -/
theorem crash_whole (now : List UInt8) (s m : Nat) (size : Int) (h : s ≤ now.length) (hs : ((now.length - s : Nat) : Int) ≤ size) (hm : m = secsC now.length s) : crashC now s size (List.replicate m 16) = now := by
  have hz : sizeC now.length s size = now.length - s := by unfold sizeC; omega
  apply List.ext_getElem?
  intro i
  unfold crashC
  rw [hz]
  by_cases q : i < now.length
  · rw [leftC_get now s _ _ i h (by omega) (by omega), List.getElem?_eq_getElem q]
    by_cases r : i < s
    · rw [if_pos r]
    · rw [if_neg r, keepB, if_pos]
      have hk := secsC_in now.length s i (by omega) q
      rw [cutAt, List.getD_eq_getElem?_getD, List.getElem?_replicate, if_pos (by omega)]
      simp; omega
  · rw [List.getElem?_eq_none (by rw [leftC_length _ _ _ _ h]; omega), List.getElem?_eq_none (by omega)]

/-- Bytes in which a bit is turned. -/
def flipC (b : List UInt8) (bit : Int) : List UInt8 :=
  if h : 0 ≤ bit ∧ bit < 8 * (b.length : Int) then b.set (bit.toNat / 8) (UInt8.ofNat ((b[bit.toNat / 8]'(by omega)).toNat ^^^ 2 ^ (bit.toNat % 8))) else b
theorem flipC_length (b : List UInt8) (bit : Int) : (flipC b bit).length = b.length := by
  unfold flipC
  split <;> simp
end Go.Proofs.Ytmchnaojlnjmjaa
