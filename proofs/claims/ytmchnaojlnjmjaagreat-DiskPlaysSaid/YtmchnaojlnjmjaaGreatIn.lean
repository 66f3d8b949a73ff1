/- Several texts in one: InoMath, InoA, InoFl, InoB, InoC, InoD, InoE, InoG. -/
import Derived.LoopTactic
import Derived.BigRegion
import Derived.Laws.BitsAllLaws
import Derived.Lib.SliceRun
import Derived.Deep.DeepCutAuto
import Derived.Test.YtmchnaojlnjmjaaGreatBs
/-! Plain mathematics of append-only files and crashes (layer 8). Nothing here names the program. -/
namespace Go.Proofs.YtmchnaojlnjmjaaGreat

/-- The cut of the k-th sector. -/
def cutAt (cuts : List Int) (k : Nat) : Int := cuts.getD k 0
/-- What a crash leaves of the byte b at i, where s bytes are durable. -/
def keepB (s : Nat) (cuts : List Int) (i : Nat) (b : UInt8) : UInt8 := if ((i % 16 : Nat) : Int) < cutAt cuts (i / 16 - s / 16) then b else 0
/-- The durable bytes and the first j of the others, behind a crash. -/
def leftC (now : List UInt8) (s : Nat) (cuts : List Int) (j : Nat) : List UInt8 := now.take s ++ (List.range j).map fun q => keepB s cuts (s + q) (now.getD (s + q) 0)
/-- How many of n - s bytes a size leaves. -/
def sizeC (n s : Nat) (size : Int) : Nat := min size.toNat (n - s)
/-- What a crash leaves. -/
def crashC (now : List UInt8) (s : Nat) (size : Int) (cuts : List Int) : List UInt8 := leftC now s cuts (sizeC now.length s size)
theorem leftC_zero (now : List UInt8) (s : Nat) (cuts : List Int) : leftC now s cuts 0 = now.take s := by simp [leftC]
theorem leftC_succ (now : List UInt8) (s : Nat) (cuts : List Int) (j : Nat) (h : s + j < now.length) : leftC now s cuts (j + 1) = leftC now s cuts j ++ [keepB s cuts (s + j) (now[s + j]'h)] := by
  simp only [leftC, List.range_succ, List.map_append, List.append_assoc, List.map_cons, List.map_nil]
  simp [List.getD, h]
theorem leftC_length (now : List UInt8) (s : Nat) (cuts : List Int) (j : Nat) (h : s ≤ now.length) : (leftC now s cuts j).length = s + j := by
  simp [leftC]; omega
theorem sizeC_le (n s : Nat) (size : Int) : sizeC n s size ≤ n - s := Nat.min_le_right _ _
theorem crashC_length (now : List UInt8) (s : Nat) (size : Int) (cuts : List Int) (h : s ≤ now.length) : (crashC now s size cuts).length = s + sizeC now.length s size := leftC_length _ _ _ _ h
theorem leftC_get (now : List UInt8) (s : Nat) (cuts : List Int) (j i : Nat) (h : s ≤ now.length) (hj : s + j ≤ now.length) (hi : i < s + j) :
    (leftC now s cuts j)[i]? = some (if i < s then now[i]'(by omega) else keepB s cuts i (now[i]'(by omega))) := by
  unfold leftC
  by_cases q : i < s
  · rw [List.getElem?_append_left (by simp; omega), if_pos q, List.getElem?_take, if_pos q, List.getElem?_eq_getElem (by omega)]
  · have hl : (now.take s).length = s := by simp; omega
    rw [List.getElem?_append_right (by omega), hl, if_neg q, List.getElem?_map, List.getElem?_range (by omega)]
    have e : s + (i - s) = i := by omega
    simp only [Option.map_some, e]
    rw [List.getD_eq_getElem?_getD, List.getElem?_eq_getElem (by omega)]
    rfl
/-- Each byte of what a crash leaves is as it was, or 0; a durable one is as it was. -/
theorem crash_keeps (now : List UInt8) (s : Nat) (size : Int) (cuts : List Int) (h : s ≤ now.length) (i : Nat) (hi : i < (crashC now s size cuts).length) (hn : i < now.length) :
    (crashC now s size cuts)[i]'hi = now[i]'hn ∨ (s ≤ i ∧ (crashC now s size cuts)[i]'hi = 0) := by
  have hl := crashC_length now s size cuts h
  have hs := sizeC_le now.length s size
  have e := leftC_get now s cuts (sizeC now.length s size) i h (by omega) (by omega)
  rw [show leftC now s cuts (sizeC now.length s size) = crashC now s size cuts from rfl, List.getElem?_eq_getElem hi, Option.some.injEq] at e
  rw [e]
  by_cases q : i < s
  · rw [if_pos q]; exact .inl rfl
  · rw [if_neg q, keepB]
    split
    · exact .inl rfl
    · exact .inr ⟨by omega, rfl⟩

/-- In how many sectors the bytes from s up to n stand. -/
def secsC (n s : Nat) : Nat := if s < n then (n - 1) / 16 - s / 16 + 1 else 0
theorem secsC_none (s : Nat) : secsC s s = 0 := by simp [secsC]
theorem secsC_succ (n s : Nat) (h : s ≤ n) : secsC (n + 1) s = secsC n s + (if n = s ∨ n % 16 = 0 then 1 else 0) := by
  unfold secsC
  rw [if_pos (by omega)]
  by_cases q : n = s
  · subst q
    rw [if_neg (by omega), if_pos (.inl rfl)]
    simp
  · rw [if_pos (by omega)]
    by_cases r : n % 16 = 0
    · rw [if_pos (.inr r)]; simp; omega
    · rw [if_neg (by omega)]; simp; omega
/-- The sector of a byte is one of them. -/
theorem secsC_in (n s i : Nat) (h1 : s ≤ i) (h2 : i < n) : i / 16 - s / 16 < secsC n s := by
  unfold secsC
  rw [if_pos (by omega)]
  have := Nat.div_le_div_right (c := 16) (show i ≤ n - 1 by omega)
  omega
/-- Full cuts and the full size lose nothing. -/
theorem crash_whole (now : List UInt8) (s m : Nat) (size : Int) (h : s ≤ now.length) (hs : ((now.length - s : Nat) : Int) ≤ size) (hm : m = secsC now.length s) : crashC now s size (List.replicate m 16) = now := by
  have hz : sizeC now.length s size = now.length - s := by unfold sizeC; omega
  apply List.ext_getElem?
  intro i
  unfold crashC
  rw [hz]
  by_cases q : i < now.length
  · rw [leftC_get now s _ _ i h (by omega) (by omega), List.getElem?_eq_getElem q]
    by_cases r : i < s
    · rw [if_pos r]
    · rw [if_neg r, keepB, if_pos]
      have hk := secsC_in now.length s i (by omega) q
      rw [cutAt, List.getD_eq_getElem?_getD, List.getElem?_replicate, if_pos (by omega)]
      simp; omega
  · rw [List.getElem?_eq_none (by rw [leftC_length _ _ _ _ h]; omega), List.getElem?_eq_none (by omega)]

/-- Bytes in which a bit is turned. -/
def flipC (b : List UInt8) (bit : Int) : List UInt8 :=
  if h : 0 ≤ bit ∧ bit < 8 * (b.length : Int) then b.set (bit.toNat / 8) (UInt8.ofNat ((b[bit.toNat / 8]'(by omega)).toNat ^^^ 2 ^ (bit.toNat % 8))) else b
theorem flipC_length (b : List UInt8) (bit : Int) : (flipC b bit).length = b.length := by
  unfold flipC
  split <;> simp
end Go.Proofs.YtmchnaojlnjmjaaGreat

/-! Contracts of package inode's small functions: clone, New, Len, Safe, Bytes, sectorOf, Sectors, Sync. -/
namespace Go.Proofs.YtmchnaojlnjmjaaGreat
open Go.RowKit

theorem bytesAt.slice {w : World} {v : Value} {bs : List UInt8} (h : bytesAt w v bs) : ∃ a n c, v = .slice a n c := by
  obtain ⟨a, c, rfl, -, -⟩ := h.form
  exact ⟨_, _, _, rfl⟩
theorem bytesAt.lenle {w : World} {v : Value} {bs : List UInt8} (h : bytesAt w v bs) : bs.length ≤ 9223372036854775807 := by have := h.len; simpa [maxLen] using this

/-- The file at p, whose bytes lie in the block g: all of them, and how many are durable. -/
def isF (w : World) (p g : Nat) (now : List UInt8) (s : Nat) : Prop :=
  ∃ (cap : Nat) (cur : List Value), w.heap[p]? = some (.cells #[.slice (some ⟨g, 0, none⟩) now.length cap, .int .i64 (s : Int)] 119 (0, 0)) ∧ w.heap[g]? = some (.cells cur.toArray 5 (0, 0)) ∧
    cur.length = cap ∧ now.length ≤ cap ∧ cap ≤ maxLen ∧ cur.take now.length = cellsB now ∧ g ≠ p ∧ s ≤ now.length
theorem isF.lt {w : World} {p g s : Nat} {now : List UInt8} (h : isF w p g now s) : p < w.heap.size ∧ g < w.heap.size := by
  obtain ⟨cap, cur, h1, h2, _⟩ := h
  exact ⟨(Array.getElem?_eq_some_iff.1 h1).1, (Array.getElem?_eq_some_iff.1 h2).1⟩
theorem isF.ne {w : World} {p g s : Nat} {now : List UInt8} (h : isF w p g now s) : g ≠ p := by
  obtain ⟨cap, cur, h1, h2, _, _, _, _, h3, _⟩ := h
  exact h3
theorem isF.safe {w : World} {p g s : Nat} {now : List UInt8} (h : isF w p g now s) : s ≤ now.length := by
  obtain ⟨cap, cur, h1, h2, _, _, _, _, _, h3⟩ := h
  exact h3
theorem isF.kept {w w' : World} {p g s : Nat} {now : List UInt8} {l : List Nat} (h : isF w p g now s) (hf : Fr l w w') (hp : p ∉ l) (hg : g ∉ l) : isF w' p g now s := by
  obtain ⟨cap, cur, h1, h2, h3⟩ := h
  exact ⟨cap, cur, hf.heap h1 hp, hf.heap h2 hg, h3⟩
theorem isF.below {w w' : World} {p g s : Nat} {now : List UInt8} (h : isF w p g now s) (hf : Fr [] w w') : isF w' p g now s := h.kept hf (by simp) (by simp)
/-- What it gives to a walk. -/
theorem isF.open {w : World} {p g s : Nat} {now : List UInt8} (h : isF w p g now s) :
    ∃ cap : Nat, now.length ≤ cap ∧ cap ≤ 9223372036854775807 ∧ w.cell? ⟨p, 0, none⟩ = some (.slice (some ⟨g, 0, none⟩) now.length cap) ∧ w.cell? ⟨p, 1, none⟩ = some (.int .i64 (s : Int)) ∧ w.frozen? ⟨p, 0, none⟩ = false ∧ w.frozen? ⟨p, 1, none⟩ = false ∧
      bytesAt w (.slice (some ⟨g, 0, none⟩) now.length cap) now := by
  obtain ⟨cap, cur, h1, h2, h3, h4, h5, h6, h7, h8⟩ := h
  refine ⟨cap, h4, by simpa [maxLen] using h5, by rw [cell_of_heap h1]; rfl, by rw [cell_of_heap h1]; rfl, free_of_heap h1 0, free_of_heap h1 1, ?_⟩
  exact .inr ⟨g, 0, cap, rfl, h4, h5, fun i hi => by
    rw [Nat.zero_add, cell_of_heap h2, ← cellsB_get now i hi, ← h6, List.getElem?_take, if_pos hi]; simp⟩

/-- New bytes that the call has made, in a block of their own. -/
def Cloned (w : World) (bs : List UInt8) (e : Ending) (w' : World) : Prop :=
  e = .returned (.slice (some ⟨w.heap.size, 0, none⟩) bs.length bs.length) ∧ w'.heap[w.heap.size]? = some (.cells (cellsB bs).toArray 5 (0, 0)) ∧ Fr [] w w'
set_option maxRecDepth 100000 in
theorem iclone_any (bs : List UInt8) (v : Value) (w : World) (h : bytesAt w v bs) (hl : bs.length ≤ 140737488355328) :
    Calls Tryz.prog 73 #[v] w (Cloned w bs) := by
  obtain ⟨i, hi, hz0, hz1, hz2⟩ := info_parts infoB
  have hlen := h.len
  have hb0 := h
  obtain ⟨a, cap, rfl, -, -⟩ := h.form
  go_enter Tryz.func73, Tryz.ntmps73
  go_wp2_with (first
    | (at_make; refine wpL_make rfl _ _ 38 rfl 5 i (.int .u8 0) 1 Tryz.underlying38 hi hz0 hz1 hz2 rfl bs.length rfl rfl (by omega) hlen ?_; intro w1 hh1 hf1 hs1; have hb1 := hb0.below hf1)
    | (refine wpL_copy rfl (.tmp 7) (.tmp 8) 38 38 rfl 5 Tryz.underlying38 size8 _ _ _ _ bs rfl rfl hb1 (Nat.le_refl _) w.heap.size 0 (List.replicate bs.length (.int .u8 0)) 5 hh1.out (fun _ => rfl) (by simp) ?_; intro w2 hh2 hf2 hs2))
  go_ret
  refine ⟨rfl, ?_, ?_⟩
  · have hh := hh2.out
    rwa [splice_all _ _ (by simp [cellsB])] at hh
  · exact hf1.trans hf2 (by simp) (by simp)

/-- A new file. -/
def Filed (w : World) (bs : List UInt8) (e : Ending) (w' : World) : Prop := ∃ p g, e = .returned (.pointer (some ⟨p, 0, none⟩)) ∧ isF w' p g bs bs.length ∧ Fr [] w w' ∧ w.heap.size ≤ p ∧ w.heap.size ≤ g
set_option maxRecDepth 100000 in
theorem inew_any (bs : List UInt8) (v : Value) (w : World) (h : bytesAt w v bs) (hl : bs.length ≤ 140737488355328) :
    Calls Tryz.prog 48 #[v] w (Filed w bs) := by
  have hlen := h.len
  have HC := Lib.hid (iclone_any bs v w h hl)
  obtain ⟨a, cap, rfl, -, -⟩ := h.form
  go_enter Tryz.func48, Tryz.ntmps48
  go_wp2_with (go_at_call 73; refine HC.out.mono ?_; rintro e w1 ⟨rfl, hh1, hf1⟩)
  go_ret
  have hlt := (Array.getElem?_eq_some_iff.1 hh1).1
  refine ⟨w1.heap.size, w.heap.size, rfl, ⟨bs.length, cellsB bs, heap_alloc_new w1 _, ?_, by simp [cellsB], Nat.le_refl _, hlen, by rw [← cellsB_length bs]; exact List.take_length, by omega, Nat.le_refl _⟩, hf1.trans (Fr.alloc _ _) (by simp) (by simp), hf1.size, Nat.le_refl _⟩
  exact (Fr.alloc w1 _).heap hh1 (by simp)

theorem ilen_any (p g s : Nat) (now : List UInt8) (w : World) (h : isF w p g now s) :
    Calls Tryz.prog 49 #[.pointer (some ⟨p, 0, none⟩)] w fun e w' => e = .returned (.int .i64 (now.length : Nat)) ∧ w = w' := by
  obtain ⟨cap, hle, hmx, hc0, hc1, hf0, hf1, -⟩ := h.open
  go_enter Tryz.func49, Tryz.ntmps49
  go_wp2_with fail
  go_ret
  exact ⟨rfl, rfl⟩
theorem isafe_any (p g s : Nat) (now : List UInt8) (w : World) (h : isF w p g now s) :
    Calls Tryz.prog 94 #[.pointer (some ⟨p, 0, none⟩)] w fun e w' => e = .returned (.int .i64 (s : Int)) ∧ w = w' := by
  obtain ⟨cap, hle, hmx, hc0, hc1, hf0, hf1, -⟩ := h.open
  go_enter Tryz.func94, Tryz.ntmps94
  go_wp2_with fail
  go_ret
  exact ⟨rfl, rfl⟩
/-- Bytes that the call has made. -/
def Bytesd (w : World) (bs : List UInt8) (e : Ending) (w' : World) : Prop := ∃ v, e = .returned v ∧ bytesAt w' v bs ∧ (∀ k, v.ownBlock = some k → w.heap.size ≤ k) ∧ Fr [] w w'
theorem ibytes_any (p g s : Nat) (now : List UInt8) (w : World) (h : isF w p g now s) (hl : now.length ≤ 140737488355328) :
    Calls Tryz.prog 43 #[.pointer (some ⟨p, 0, none⟩)] w (Bytesd w now) := by
  obtain ⟨cap, hle, hmx, hc0, hc1, hf0, hf1, hb⟩ := h.open
  have HC := Lib.hid (iclone_any now _ w hb hl)
  have hlen := hb.len
  clear hb
  go_enter Tryz.func43, Tryz.ntmps43
  go_wp2_with (go_at_call 73; refine HC.out.mono ?_; rintro e w1 ⟨rfl, hh1, hf1⟩)
  go_ret
  exact ⟨_, rfl, bytesAt_of_heap hh1 hlen _ rfl, fun k hk => by cases hk; exact Nat.le_refl _, hf1⟩
theorem isector_any (n : Nat) (w : World) (hn : n ≤ 9223372036854775807) :
    Calls Tryz.prog 84 #[.int .i64 (n : Int)] w fun e w' => e = .returned (.int .i64 ((n / 16 : Nat) : Int)) ∧ w = w' := by
  go_enter Tryz.func84, Tryz.ntmps84
  go_wp2_with fail
  go_ret
  exact ⟨rfl, rfl⟩
set_option maxRecDepth 100000 in
theorem isectors_any (p g s : Nat) (now : List UInt8) (w : World) (h : isF w p g now s) (hl : now.length ≤ 140737488355328) :
    Calls Tryz.prog 82 #[.pointer (some ⟨p, 0, none⟩)] w fun e w' => e = .returned (.int .i64 ((secsC now.length s : Nat) : Int)) ∧ w = w' := by
  have hs := h.safe
  have HL := Lib.hid (ilen_any p g s now w h)
  have HS := Lib.hid (isafe_any p g s now w h)
  clear h
  obtain ⟨n, hn⟩ : ∃ n, n = now.length := ⟨_, rfl⟩
  rw [← hn] at HL hs hl ⊢
  clear hn
  by_cases he : s = n
  · subst he
    have hd : ((s : Int) == (s : Int)) = true := by simp
    have HZ := Lib.hid (secsC_none s)
    go_enter Tryz.func82, Tryz.ntmps82
    go_wp2_with (first
      | (go_at_call 94; refine HS.out.mono ?_; rintro e w1 ⟨rfl, rfl⟩)
      | (go_at_call 49; refine HL.out.mono ?_; rintro e w1 ⟨rfl, rfl⟩))
    go_ret
    exact ⟨by rw [HZ.out]; rfl, rfl⟩
  · have hd : ((s : Int) == (n : Int)) = false := by rw [beq_eq_false_iff_ne]; omega
    have HZ := Lib.hid (show secsC n s = (n - 1) / 16 - s / 16 + 1 from if_pos (by omega))
    have hdv : s / 16 ≤ (n - 1) / 16 := Nat.div_le_div_right (by omega)
    obtain ⟨m, rfl⟩ : ∃ m, n = m + 1 := ⟨n - 1, by omega⟩
    rw [show m + 1 - 1 = m from rfl] at HZ hdv
    have he' := Lib.hid he
    clear he
    go_enter Tryz.func82, Tryz.ntmps82
    go_wp2_with (first
      | (go_at_call 94; refine HS.out.mono ?_; rintro e w1 ⟨rfl, rfl⟩)
      | (go_at_call 49; refine HL.out.mono ?_; rintro e w1 ⟨rfl, rfl⟩)
      | (go_at_call 84; refine (isector_any m _ (by omega)).mono ?_; rintro e w1 ⟨rfl, rfl⟩)
      | (go_at_call 84; refine (isector_any s _ (by omega)).mono ?_; rintro e w1 ⟨rfl, rfl⟩))
    go_ret
    refine ⟨congrArg (fun z => Ending.returned (Value.int .i64 z)) ?_, rfl⟩
    rw [HZ.out]
    omega
set_option maxRecDepth 100000 in
theorem isync_any (p g s : Nat) (now : List UInt8) (w : World) (h : isF w p g now s) :
    Calls Tryz.prog 51 #[.pointer (some ⟨p, 0, none⟩)] w fun e w' => e = .returned (.tuple #[]) ∧ isF w' p g now now.length ∧ Fr [p] w w' := by
  obtain ⟨cap, hle, hmx, hc0, hc1, hf0, hf1, -⟩ := h.open
  go_enter Tryz.func51, Tryz.ntmps51
  go_wp2_with fail
  go_end0
  obtain ⟨cap', cur, h1, h2, h3, h4, h5, h6, h7, h8⟩ := h
  refine ⟨rfl, ⟨cap', cur, heap_setCell_same h1 _, ?_, h3, h4, h5, h6, h7, Nat.le_refl _⟩, Fr.set0 _ _ _ _⟩
  exact (Fr.set0 w p 1 _).heap h2 (by simpa using h7)
end Go.Proofs.YtmchnaojlnjmjaaGreat

/-! Contracts of inode's Flip. -/
namespace Go.Proofs.YtmchnaojlnjmjaaGreat
open Go.RowKit

theorem turn_value (c : UInt8) (p : Nat) : bits .xor .u8 (c.toNat : Int) ((2 : Int) ^ (p % 8) % 256) = ((UInt8.ofNat (c.toNat ^^^ 2 ^ (p % 8))).toNat : Int) := by
  have h8 : 2 ^ (p % 8) < 256 := by
    have : (2 : Nat) ^ (p % 8) ≤ 2 ^ 7 := Nat.pow_le_pow_right (by decide) (by omega)
    omega
  have h := u8_xor_nat c.toNat (2 ^ (p % 8)) c.toNat_lt h8
  have e : (2 : Int) ^ (p % 8) % 256 = ((2 ^ (p % 8) : Nat) : Int) := by
    obtain ⟨z, hz⟩ : ∃ z, z = 2 ^ (p % 8) := ⟨_, rfl⟩
    have h2 : (2 : Int) ^ (p % 8) = (z : Int) := by rw [hz]; simp
    rw [h2, ← hz]; rw [← hz] at h8; omega
  rw [e, h, UInt8.toNat_ofNat', Nat.mod_eq_of_lt (Nat.xor_lt_two_pow (n := 8) c.toNat_lt h8)]
theorem flipC_yes (b : List UInt8) (q : Nat) (h : q / 8 < b.length) : flipC b (q : Int) = b.set (q / 8) (UInt8.ofNat ((b[q / 8]'h).toNat ^^^ 2 ^ (q % 8))) := by
  unfold flipC
  rw [dif_pos (by omega)]
  simp
theorem flipC_no (b : List UInt8) (bit : Int) (h : bit < 0 ∨ 8 * (b.length : Int) ≤ bit) : flipC b bit = b := by
  unfold flipC
  rw [dif_neg (by omega)]
theorem set_take {α : Type} (l : List α) (i n : Nat) (v : α) : (l.set i v).take n = (l.take n).set i v := by
  rw [List.take_set]
theorem isF.turn {w : World} {p g s : Nat} {now : List UInt8} (h : isF w p g now s) (i : Nat) (hi : i < now.length) (c : UInt8) : isF (w.setCell ⟨g, i, none⟩ (.int .u8 (c.toNat : Int))) p g (now.set i c) s := by
  obtain ⟨cap, cur, h1, h2, h3, h4, h5, h6, h7, h8⟩ := h
  refine ⟨cap, cur.set i (.int .u8 (c.toNat : Int)), ?_, ?_, by simpa using h3, by simpa using h4, h5, ?_, h7, by simpa using h8⟩
  · rw [List.length_set]; exact (Fr.set0 w g i _).heap h1 (by simpa using Ne.symm h7)
  · rw [heap_setCell_same h2]; simp
  · rw [List.length_set, List.take_set, h6]; simp [cellsB, List.map_set]
theorem isF.cell {w : World} {p g s : Nat} {now : List UInt8} (h : isF w p g now s) (i : Nat) (hi : i < now.length) : w.cell? ⟨g, i, none⟩ = some (.int .u8 ((now[i]'hi).toNat : Int)) ∧ w.frozen? ⟨g, i, none⟩ = false := by
  obtain ⟨cap, cur, h1, h2, h3, h4, h5, h6, h7, h8⟩ := h
  refine ⟨?_, free_of_heap h2 i⟩
  rw [cell_of_heap h2, ← cellsB_get now i hi, ← h6, List.getElem?_take, if_pos hi]; simp

def inB (n : Nat) (bit : Int) : Bool := decide (0 ≤ bit ∧ bit < 8 * (n : Int))
set_option maxRecDepth 100000 in
theorem iflip_no (p g s : Nat) (now : List UInt8) (bit : Int) (w : World) (h : isF w p g now s) (hb : bit < 0 ∨ 8 * (now.length : Int) ≤ bit) (h64 : bit ≤ 9223372036854775807) :
    Calls Tryz.prog 70 #[.pointer (some ⟨p, 0, none⟩), .int .i64 bit] w fun e w' => e = .returned (.bool false) ∧ w = w' := by
  have HL := Lib.hid (ilen_any p g s now w h)
  by_cases hn : bit < 0
  · have hd : decide (bit < 0) = true := decide_eq_true hn
    clear h hb
    go_enter Tryz.func70, Tryz.ntmps70
    go_wp2_with fail
    go_ret
    exact ⟨rfl, rfl⟩
  · obtain ⟨q, rfl⟩ := Int.eq_ofNat_of_zero_le (show 0 ≤ bit by omega)
    have hd : decide ((q : Int) < 0) = false := decide_eq_false hn
    have hd2 : decide ((now.length : Int) ≤ (q : Int) / 8) = true := decide_eq_true (by omega)
    obtain ⟨n, hnn⟩ : ∃ n, n = now.length := ⟨_, rfl⟩
    rw [← hnn] at HL hd2
    clear h hb hn hnn
    go_enter Tryz.func70, Tryz.ntmps70
    go_wp2_with (go_at_call 49; refine HL.out.mono ?_; rintro e w2 ⟨rfl, rfl⟩)
    go_ret
    exact ⟨rfl, rfl⟩
set_option maxRecDepth 100000 in
theorem iflip_yes (p g s q : Nat) (now : List UInt8) (w : World) (h : isF w p g now s) (hq : q / 8 < now.length) (hl : now.length ≤ 1048576) :
    Calls Tryz.prog 70 #[.pointer (some ⟨p, 0, none⟩), .int .i64 (q : Int)] w fun e w' => e = .returned (.bool true) ∧ isF w' p g (flipC now (q : Int)) s ∧ Fr [g] w w' := by
  have HL := Lib.hid (ilen_any p g s now w h)
  have HF := Lib.hid h
  obtain ⟨cap, hle, hmx, hc0, hc1, hf0, hf1, -⟩ := h.open
  obtain ⟨hcq, hfq⟩ := h.cell (q / 8) hq
  have hd : decide ((q : Int) < 0) = false := decide_eq_false (by omega)
  have hd2 : decide (now.length ≤ q / 8) = false := decide_eq_false (by omega)
  have HV := Lib.hid (turn_value (now[q / 8]'hq) q)
  obtain ⟨c, hc⟩ : ∃ c, c = now[q / 8]'hq := ⟨_, rfl⟩
  rw [← hc] at hcq HV
  have HC := Lib.hid hc
  clear h hc
  go_enter Tryz.func70, Tryz.ntmps70
  go_wp2_with (go_at_call 49; refine HL.out.mono ?_; rintro e w2 ⟨rfl, rfl⟩)
  go_region
  go_wp2_with fail
  go_ret
  rw [HV.out]
  refine ⟨rfl, ?_, (Fr.set0 w g (q / 8) _).andDrew⟩
  have := (HF.out.turn (q / 8) hq (UInt8.ofNat (c.toNat ^^^ 2 ^ (q % 8)))).below (Fr.drew _)
  rw [flipC_yes now q hq, ← HC.out]
  exact this

/-- Flip of a file, in one. -/
theorem iflip_any (p g s : Nat) (now : List UInt8) (bit : Int) (w : World) (h : isF w p g now s) (hl : now.length ≤ 1048576) (h64 : bit ≤ 9223372036854775807) :
    Calls Tryz.prog 70 #[.pointer (some ⟨p, 0, none⟩), .int .i64 bit] w fun e w' => e = .returned (.bool (inB now.length bit)) ∧ isF w' p g (flipC now bit) s ∧ Fr [g] w w' := by
  by_cases hb : bit < 0 ∨ 8 * (now.length : Int) ≤ bit
  · refine (iflip_no p g s now bit w h hb h64).mono ?_
    rintro e w' ⟨rfl, rfl⟩
    rw [flipC_no now bit hb]
    refine ⟨by rw [show inB now.length bit = false from decide_eq_false (by omega)], h, Fr.refl _ _⟩
  · obtain ⟨q, rfl⟩ := Int.eq_ofNat_of_zero_le (show 0 ≤ bit by omega)
    refine (iflip_yes p g s q now w h (by omega) hl).mono ?_
    rintro e w' ⟨rfl, h1, h2⟩
    exact ⟨by rw [show inB now.length (q : Int) = true from decide_eq_true (by omega)], h1, h2⟩
end Go.Proofs.YtmchnaojlnjmjaaGreat

/-! Contracts of slices.Grow and of inode's Append. -/
namespace Go.Proofs.YtmchnaojlnjmjaaGreat
open Go.RowKit

theorem splice_length {α : Type} (L : List α) (off : Nat) (cs : List α) (h : off + cs.length ≤ L.length) : (splice L off cs).length = L.length := by
  simp [splice]; omega
theorem splice_head {α : Type} (L : List α) (off : Nat) (cs : List α) (h : off ≤ L.length) : (splice L off cs).take (off + cs.length) = L.take off ++ cs := by
  have e : (L.take off ++ cs).length = off + cs.length := by simp; omega
  rw [splice, ← List.append_assoc, ← e]
  exact List.take_left
/-- Room for n more bytes behind these. -/
def Grown (w : World) (g : Nat) (now : List UInt8) (n : Nat) (e : Ending) (w' : World) : Prop :=
  ∃ (g' cap' : Nat) (cur' : List Value), e = .returned (.slice (some ⟨g', 0, none⟩) now.length cap') ∧ w'.heap[g']? = some (.cells cur'.toArray 5 (0, 0)) ∧ cur'.length = cap' ∧ now.length + n ≤ cap' ∧ cap' ≤ maxLen ∧
    cur'.take now.length = cellsB now ∧ Fr [] w w' ∧ (g' = g ∨ w.heap.size ≤ g')
set_option maxRecDepth 100000 in
theorem grow_any (g cap n : Nat) (cur : List Value) (now : List UInt8) (w : World) (h : w.heap[g]? = some (.cells cur.toArray 5 (0, 0))) (hc : cur.length = cap) (hle : now.length ≤ cap) (hm : cap ≤ maxLen) (ht : cur.take now.length = cellsB now) (hn : now.length + n ≤ 140737488355328) :
    Calls Tryz.prog 78 #[.slice (some ⟨g, 0, none⟩) now.length cap, .int .i64 (n : Int)] w (Grown w g now n) := by
  obtain ⟨i, hi, hz0, hz1, hz2⟩ := info_parts infoB
  have hd0 : decide ((n : Int) < 0) = false := decide_eq_false (by omega)
  have hm' : cap ≤ 9223372036854775807 := by simpa [maxLen] using hm
  have HT := Lib.hid ht
  have HH := Lib.hid h
  clear ht h
  obtain ⟨l, hl⟩ : ∃ l, l = now.length := ⟨_, rfl⟩
  unfold Grown
  rw [← hl] at HT hle hn ⊢
  have HL := Lib.hid hl
  clear hl
  by_cases hr : l + n ≤ cap
  · have hd1 : decide (0 < (n : Int) - ((cap : Int) - (l : Int))) = false := decide_eq_false (by omega)
    go_enter Tryz.func78, Tryz.ntmps78
    go_wp2_with fail
    go_ret
    exact ⟨g, cap, cur, rfl, HH.out, hc, hr, hm, HT.out, Fr.refl _ _, .inl rfl⟩
  · have hd1 : decide (0 < (n : Int) - ((cap : Int) - (l : Int))) = true := decide_eq_true (by omega)
    obtain ⟨k, hk⟩ : ∃ k, k = l + n - cap := ⟨_, rfl⟩
    have hkn : (n : Int) - ((cap : Int) - (l : Int)) = (k : Int) := by omega
    have hk0 : 0 < k := by omega
    have hck : cap + k = l + n := by omega
    have HCK := Lib.hid hck
    have HHC := Lib.hid hc
    clear hk hck hc
    go_enter Tryz.func78, Tryz.ntmps78
    go_wp2_with (at_builtin; refine wpL_appendZeros rfl (.tmp 20) (.tmp 21) 38 3 rfl 5 i (.int .u8 0) .i64 1 Tryz.underlying38 Tryz.underlying3 hi hz0 hz1 hz2 rfl (some ⟨g, 0, none⟩) cap cur (.inr ⟨g, rfl, HH.out⟩) HHC.out k rfl rfl hk0 (by have := HCK.out; omega) (by have := HCK.out; simp [maxLen]; omega) ?_; intro w1 ncap cur1 hn1 hm1 hh1 hl1 hf1 hs1; have hlc1 : l ≤ ncap := (by have := HCK.out; omega))
    go_ret
    refine ⟨w.heap.size, ncap, cur ++ cur1, rfl, hh1.out, hl1.out, by rw [← HCK.out]; exact hn1, hm1, ?_, hf1, .inr (Nat.le_refl _)⟩
    rw [List.take_append_of_le_length (by rw [HHC.out]; exact hle)]
    exact HT.out

/-- The file has b more bytes. -/
def Longer (w : World) (p g : Nat) (now b : List UInt8) (s : Nat) (e : Ending) (w' : World) : Prop :=
  ∃ g', e = .returned (.bool true) ∧ isF w' p g' (now ++ b) s ∧ Fr [p, g] w w' ∧ (g' = g ∨ w.heap.size ≤ g')
theorem longer_mk {w w1 w2 : World} {p g g1 s cap cap1 : Nat} {now b : List UInt8} {cur1 : List Value} {bv : Value} (_hbp : b ≠ [] → ∀ k, bv.ownBlock = some k → k ≠ p) (hplt : p < w.heap.size) (hglt : g < w.heap.size) (h8 : s ≤ now.length) (hf1 : Fr [] w w1) (HP1 : w1.heap[p]? = some (.cells #[.slice (some ⟨g, 0, none⟩) now.length cap, .int .i64 (s : Int)] 119 (0, 0)))
    (HL1 : cur1.length = cap1) (hn1 : now.length + b.length ≤ cap1) (hm1 : cap1 ≤ maxLen) (HT1 : cur1.take now.length = cellsB now) (hg1 : g1 = g ∨ w.heap.size ≤ g1) (hg1p : g1 ≠ p)
    (hh2 : w2.heap[g1]? = some (.cells (splice cur1 now.length (cellsB b)).toArray 5 (0, 0))) (hf2 : Fr [g1] (w1.setCell ⟨p, 0, none⟩ (.slice (some ⟨g1, 0, none⟩) (now.length + b.length) cap1)) w2) : Longer w p g now b s (.returned (.bool true)) w2 := by
  have hps := heap_setCell_same HP1 (i := 0) (.slice (some ⟨g1, 0, none⟩) (now.length + b.length) cap1)
  refine ⟨g1, rfl, ⟨cap1, splice cur1 now.length (cellsB b), ?_, hh2, ?_, ?_, hm1, ?_, hg1p, by simp; omega⟩, ?_, hg1⟩
  · rw [List.length_append]; exact hf2.heap hps (by simpa using Ne.symm hg1p)
  · rw [splice_length _ _ _ (by rw [cellsB_length, HL1]; exact hn1), HL1]
  · rw [List.length_append]; exact hn1
  · have e := splice_head cur1 now.length (cellsB b) (by rw [HL1]; omega)
    rw [cellsB_length] at e
    rw [List.length_append, e, HT1, cellsB_append]
  · have hfs := hf1.trans (Fr.set0 w1 p 0 (.slice (some ⟨g1, 0, none⟩) (now.length + b.length) cap1)) (by simp) (n := [p]) (by simp)
    refine hfs.trans hf2 (by simp) (fun i hi hlt => ?_)
    simp only [List.mem_singleton] at hi
    subst hi
    rcases hg1 with rfl | hg1
    · simp
    · omega
theorem iappend_no (p g s : Nat) (now b : List UInt8) (bv : Value) (w : World) (h : isF w p g now s) (hb : bytesAt w bv b) (hl : now.length ≤ 1048576) (hn : 1048576 < now.length + b.length) :
    Calls Tryz.prog 50 #[.pointer (some ⟨p, 0, none⟩), bv] w fun e w' => e = .returned (.bool false) ∧ w = w' := by
  obtain ⟨cap, hle, hmx, hc0, hc1, hf0, hf1, -⟩ := h.open
  have hbl := hb.lenle
  obtain ⟨a, c, rfl, -, -⟩ := hb.form
  have hd : decide (1048576 - (now.length : Int) < (b.length : Int)) = true := decide_eq_true (by omega)
  clear h hb
  go_enter Tryz.func50, Tryz.ntmps50
  go_wp2_with fail
  go_ret
  exact ⟨rfl, rfl⟩
set_option maxRecDepth 100000 in
theorem iappend_yes (p g s : Nat) (now b : List UInt8) (bv : Value) (w : World) (h : isF w p g now s) (hb : bytesAt w bv b) (hn : now.length + b.length ≤ 1048576) (hbp : b ≠ [] → ∀ k, bv.ownBlock = some k → k ≠ p) :
    Calls Tryz.prog 50 #[.pointer (some ⟨p, 0, none⟩), bv] w (Longer w p g now b s) := by
  obtain ⟨cap, cur, h1, h2, h3, h4, h5, h6, h7, h8⟩ := h
  have hplt := (Array.getElem?_eq_some_iff.1 h1).1
  have hglt := (Array.getElem?_eq_some_iff.1 h2).1
  have hc0 : w.cell? ⟨p, 0, none⟩ = some (.slice (some ⟨g, 0, none⟩) now.length cap) := by rw [cell_of_heap h1]; rfl
  have hf0 := free_of_heap h1 0
  have hmx : cap ≤ 9223372036854775807 := by simpa [maxLen] using h5
  have HG := Lib.hid (grow_any g cap b.length cur now w h2 h3 h4 h5 h6 (by omega))
  obtain ⟨a, c, rfl, hbc, hbm⟩ := hb.form
  have hbm' : c ≤ 9223372036854775807 := by simpa [maxLen] using hbm
  have hd : decide (1048576 - (now.length : Int) < (b.length : Int)) = false := decide_eq_false (by omega)
  have H1 := Lib.hid h1
  have HB := Lib.hid hb
  have H6 := Lib.hid h6
  clear h1 hb h6 h2 h3
  go_enter Tryz.func50, Tryz.ntmps50
  go_wp2_with (first
    | (go_at_call 78; refine HG.out.mono ?_; rintro e w1 ⟨g1, cap1, cur1, rfl, hh1, hl1, hn1, hm1, ht1, hf1, hg1⟩; have hp1 := hf1.heap H1.out (by simp); have hfp1 := free_of_heap hp1 0; have hcp1 : w1.cell? ⟨p, 0, none⟩ = some (.slice (some ⟨g, 0, none⟩) now.length cap) := (by rw [cell_of_heap hp1]; rfl); have hg1p : g1 ≠ p := (by rcases hg1 with hg1 | hg1 <;> omega); have HHX := Lib.hid (fun X => (Fr.set0 w1 p 0 X).heap hh1 (by simpa using hg1p)); have HBX := Lib.hid (fun X => (HB.out.below hf1).kept (Fr.set0 w1 p 0 X) (fun k hk hne _ => by simpa using hbp hne k hk)); have HL1 := Lib.hid hl1; have HT1 := Lib.hid ht1; have HP1 := Lib.hid hp1; clear hh1 hl1 ht1 hp1)
    | (refine wpL_copy rfl (.tmp 44) (.tmp 45) 38 38 rfl 5 Tryz.underlying38 size8 _ _ _ _ b rfl rfl (HBX.out _) (Nat.le_refl _) g1 now.length cur1 5 (HHX.out _) (fun hq => if_neg (by omega)) (by rw [HL1.out]; exact hn1) ?_; intro w2 hh2 hf2 hs2))
  all_goals
    go_ret
    exact longer_mk hbp hplt hglt h8 hf1 HP1.out HL1.out hn1 hm1 HT1.out hg1 hg1p hh2.out hf2
end Go.Proofs.YtmchnaojlnjmjaaGreat

/-! Contract of inode's tear. -/
namespace Go.Proofs.YtmchnaojlnjmjaaGreat
open Go.RowKit

theorem splice_cut {α : Type} (L : List α) (off : Nat) (cs : List α) (n : Nat) (h : off + cs.length ≤ n) (hL : off ≤ L.length) : (splice L off cs).take n = splice (L.take n) off cs := by
  have e1 : (L.take off).length = off := by simp; omega
  have e2 : (L.take off).take n = L.take off := List.take_of_length_le (by omega)
  have e3 : cs.take (n - off) = cs := List.take_of_length_le (by omega)
  have e4 : min off n = off := by omega
  simp only [splice, List.append_assoc]
  rw [List.take_append, e1, e2, List.take_append, e3, List.take_take, e4, List.drop_take, Nat.sub_add_eq]
theorem splice_cells (l : List UInt8) (off : Nat) (cs : List UInt8) : cellsB (splice l off cs) = splice (cellsB l) off (cellsB cs) := by
  simp [splice, cellsB, List.map_take, List.map_drop]
/-- 'clear(s)', s inside a row of one-cell elements that is known whole. -/
theorem wpL_clear {P : Program} {w : World} {ops : Array Oper} {rest : List Oper} {o : Oper} {a : Act} {Q : Exit → Act → World → Prop} (hgd : o.guard = none) (d : Operand) (dT : TypeId)
    (ho : o.op = .call { callee := .builtin .clear, args := #[d], argTypes := #[dT] }) (e : TypeId) (hu : P.underlying dT = some (.slice e)) (i : TypeInfo) (z : Value) (hi : P.info? e = some i) (hz : i.zero = some z) (hzc : z.cells = #[z]) (h1 : z.oneCell' = true)
    (dp : Option Addr) (n cap : Nat) (hd : a.eval d = .slice dp n cap) (g off : Nat) (cur : List Value) (t : TypeId) (hg : w.heap[g]? = some (.cells cur.toArray t (0, 0))) (hpos : 0 < n → dp = some ⟨g, off, none⟩) (hfit : off + n ≤ cur.length)
    (h : ∀ w', Hid (w'.heap[g]? = some (.cells (splice cur off (List.replicate n z)).toArray t (0, 0))) → Fr [g] w w' → wpList P ops Q rest (a.put o.dst (.tuple #[])) w') :
    wpList P ops Q (o :: rest) a w := by
  refine wpList_plain hgd fun K hK => ?_
  by_cases hn : n = 0
  · subst hn
    have hr : (Builtin.clear_ #[dT] o.type #[.slice dp 0 cap]).run P w = .ok (.tuple #[]) w := by
      cases dp <;> simp [Builtin.clear_, run_underlying hu]
    unfold Oper.wp execOp
    simp only [ho, resolve, invoke, builtin, Sem.run_bind, Sem.run_pure, Result.andThen_ok, List.map_toArray, List.map_cons, List.map_nil, hd, hr]
    exact hK _ _ (h w (show _ = _ by simpa [splice] using hg) (Fr.refl _ _))
  · obtain rfl := hpos (by omega)
    have hr := Lib.run_clear_slice (P := P) w dT e o.type z hu (fun w => by simp [zeroValue, typeInfo, hi, hz]) hzc h1 g off n cap (by omega) (fun j hj => by rw [cell_of_heap hg]; simp; omega) (fun j _ => free_of_heap hg _)
    unfold Oper.wp execOp
    simp only [ho, resolve, invoke, builtin, Sem.run_bind, Sem.run_pure, Result.andThen_ok, List.map_toArray, List.map_cons, List.map_nil, hd, hr]
    exact hK _ _ (h _ (show _ = _ from heap_setCells g _ off w cur (by simpa using hfit) hg) (Fr.setCells g _ off w))

/-- Where a tear begins and ends. -/
def tearTo (m c : Nat) : Nat := min (16 * c + 16) m
def tearAt (m s c : Nat) (x : Int) : Nat := min (max s (16 * c + (min (max x 0) 16).toNat)) (tearTo m c)
def tearC (l : List UInt8) (s c : Nat) (x : Int) : List UInt8 := splice l (tearAt l.length s c x) (List.replicate (tearTo l.length c - tearAt l.length s c x) 0)
theorem tearAt_le (m s c : Nat) (x : Int) : tearAt m s c x ≤ tearTo m c ∧ tearTo m c ≤ m := ⟨Nat.min_le_right _ _, Nat.min_le_right _ _⟩
theorem tearC_length (l : List UInt8) (s c : Nat) (x : Int) : (tearC l s c x).length = l.length := by
  have := tearAt_le l.length s c x
  rw [tearC, splice_length _ _ _ (by simp; omega)]
set_option maxHeartbeats 4000000 in
set_option maxRecDepth 100000 in
theorem tear_any (p g s c : Nat) (x : Int) (l : List UInt8) (w : World) (h : isF w p g l s) (hl : l.length ≤ 1048576) (hc : c ≤ 1048576) :
    Calls Tryz.prog 83 #[.pointer (some ⟨p, 0, none⟩), .int .i64 (c : Int), .int .i64 x] w fun e w' => e = .returned (.tuple #[]) ∧ isF w' p g (tearC l s c x) s ∧ Fr [g] w w' := by
  obtain ⟨i, hi, hz0, hz1, hz2⟩ := info_parts infoB
  obtain ⟨cap, hle, hmx, hc0, hc1, hf0, hf1, -⟩ := h.open
  have hs := h.safe
  have hrow : ∃ cur : List Value, w.heap[g]? = some (.cells cur.toArray 5 (0, 0)) ∧ l.length ≤ cur.length ∧ ∀ w2 n, n = tearTo l.length c - tearAt l.length s c x → w2.heap[g]? = some (.cells (splice cur (tearAt l.length s c x) (List.replicate n (.int .u8 0))).toArray 5 (0, 0)) → Fr [g] w w2 → isF w2 p g (tearC l s c x) s := by
    obtain ⟨cap', cur, h1, h2, h3, h4, h5, h6, h7, h8⟩ := h
    have ht := tearAt_le l.length s c x
    refine ⟨cur, h2, by omega, fun w2 n hn hh2 hf2 => ⟨cap', _, ?_, hh2, ?_, ?_, h5, ?_, h7, by rw [tearC_length]; exact h8⟩⟩
    · rw [tearC_length]; exact hf2.heap h1 (by simpa using Ne.symm h7)
    · rw [splice_length _ _ _ (by simp; omega), h3]
    · rw [tearC_length]; exact h4
    · rw [tearC_length, splice_cut _ _ _ _ (by simp; omega) (by omega), h6, tearC, splice_cells, hn]
      simp [cellsB]
  obtain ⟨cur, hg, hcur, hfin⟩ := hrow
  have HG := Lib.hid hg
  have HFin := Lib.hid hfin
  clear h hg hfin
  go_enter Tryz.func83, Tryz.ntmps83
  go_wp2_with (refine wpL_clear rfl (.tmp 37) 38 rfl 5 Tryz.underlying38 i (.int .u8 0) hi hz0 rfl rfl _ _ _ rfl g (tearAt l.length s c x) cur 5 HG.out ?_ ?_ ?_; rotate_left 2; intro w2 hh2 hf2)
  all_goals first
    | (unfold tearAt tearTo; omega)
    | (go_end0; exact ⟨rfl, HFin.out _ _ (by unfold tearAt tearTo; omega) hh2.out hf2, hf2⟩)
end Go.Proofs.YtmchnaojlnjmjaaGreat

/-! Contract of inode's Crash. -/
namespace Go.Proofs.YtmchnaojlnjmjaaGreat
open Go.RowKit

/-- What k tears have left of l0. -/
def TornInv (l0 : List UInt8) (s : Nat) (cuts : List Int) (k : Nat) (l : List UInt8) : Prop :=
  l.length = l0.length ∧ ∀ i (h : i < l0.length), l[i]? = some (if i < s then l0[i]'h else if i / 16 - s / 16 < k then keepB s cuts i (l0[i]'h) else l0[i]'h)
theorem torn_zero (l0 : List UInt8) (s : Nat) (cuts : List Int) : TornInv l0 s cuts 0 l0 := ⟨rfl, fun i h => by simp [h]⟩
theorem splice_get {α : Type} (L : List α) (off : Nat) (cs : List α) (h : off + cs.length ≤ L.length) (i : Nat) : (splice L off cs)[i]? = if off ≤ i ∧ i < off + cs.length then cs[i - off]? else L[i]? := by
  have e1 : (L.take off).length = off := by simp; omega
  simp only [splice, List.append_assoc]
  by_cases h1 : i < off
  · rw [List.getElem?_append_left (by omega), if_neg (by omega), List.getElem?_take, if_pos h1]
  · rw [List.getElem?_append_right (by omega), e1]
    by_cases h2 : i < off + cs.length
    · rw [if_pos (by omega), List.getElem?_append_left (by omega)]
    · rw [if_neg (by omega), List.getElem?_append_right (by omega), List.getElem?_drop]
      congr 1; omega
theorem torn_next (l0 : List UInt8) (s : Nat) (cuts : List Int) (k : Nat) (l : List UInt8) (h : TornInv l0 s cuts k l) : TornInv l0 s cuts (k + 1) (tearC l s (s / 16 + k) (cutAt cuts k)) := by
  obtain ⟨hl, hg⟩ := h
  have ht := tearAt_le l.length s (s / 16 + k) (cutAt cuts k)
  refine ⟨by rw [tearC_length, hl], fun i hi => ?_⟩
  rw [tearC, splice_get _ _ _ (by simp; omega), List.length_replicate]
  by_cases hin : tearAt l.length s (s / 16 + k) (cutAt cuts k) ≤ i ∧ i < tearTo l.length (s / 16 + k)
  · rw [if_pos (by omega), List.getElem?_replicate, if_pos (by omega)]
    have h1 : s ≤ i ∧ i / 16 = s / 16 + k ∧ ¬ ((i % 16 : Nat) : Int) < cutAt cuts k := by
      unfold tearAt tearTo at hin
      generalize cutAt cuts k = x at hin
      omega
    rw [if_neg (by omega), if_pos (by omega), keepB, show i / 16 - s / 16 = k from by omega, if_neg h1.2.2]
  · rw [if_neg (by omega), hg i hi]
    by_cases h1 : i < s
    · rw [if_pos h1, if_pos h1]
    · rw [if_neg h1, if_neg h1]
      by_cases h2 : i / 16 - s / 16 < k
      · rw [if_pos h2, if_pos (by omega)]
      · rw [if_neg h2]
        by_cases h3 : i / 16 - s / 16 = k
        · rw [if_pos (by omega), keepB, h3, if_pos]
          unfold tearAt tearTo at hin
          generalize cutAt cuts k = x at hin ⊢
          have : i / 16 = s / 16 + k := by
            have := Nat.div_le_div_right (c := 16) (show s ≤ i by omega)
            omega
          rw [hl] at hin
          omega
        · rw [if_neg (by omega)]
theorem torn_end (now : List UInt8) (s : Nat) (size : Int) (cuts : List Int) (hs : s ≤ now.length) (m : Nat) (hm : m = s + sizeC now.length s size) (l : List UInt8) (h : TornInv (now.take m) s cuts (secsC m s) l) : l = crashC now s size cuts := by
  have hz := sizeC_le now.length s size
  obtain ⟨hl, hg⟩ := h
  have hml : (now.take m).length = m := by simp; omega
  rw [hml] at hl
  apply List.ext_getElem?
  intro i
  by_cases hi : i < m
  · rw [hg i (by omega), crashC, leftC_get now s cuts _ i hs (by omega) (by omega)]
    simp only [List.getElem_take]
    by_cases h1 : i < s
    · rw [if_pos h1, if_pos h1]
    · rw [if_neg h1, if_neg h1, if_pos (secsC_in m s i (by omega) hi)]
  · rw [List.getElem?_eq_none (by omega), List.getElem?_eq_none (by rw [crashC_length _ _ _ _ hs]; omega)]
theorem size_int (n s : Nat) (size : Int) (h : s ≤ n) : min (max size 0) ((n : Int) - (s : Int)) = (sizeC n s size : Int) := by unfold sizeC; omega

theorem size_ite (n s : Nat) (size : Int) (h : s ≤ n) : (if (n : Int) - (s : Int) < (if size < 0 then 0 else size) then (n : Int) - (s : Int) else if size < 0 then 0 else size) = (sizeC n s size : Int) := by unfold sizeC; split <;> split at * <;> omega
theorem isF.cut {w : World} {p g s m : Nat} {now : List UInt8} (h : isF w p g now s) (cap : Nat) (hc : w.cell? ⟨p, 0, none⟩ = some (.slice (some ⟨g, 0, none⟩) now.length cap)) (h1 : s ≤ m) (h2 : m ≤ now.length) : isF (w.setCell ⟨p, 0, none⟩ (.slice (some ⟨g, 0, none⟩) m cap)).drew p g (now.take m) s := by
  obtain ⟨cap', cur, e1, e2, e3, e4, e5, e6, e7, e8⟩ := h
  have hml : (now.take m).length = m := by simp; omega
  have hcc : cap' = cap := by rw [cell_of_heap e1] at hc; simpa using hc
  subst hcc
  refine ⟨cap', cur, ?_, ?_, e3, by omega, e5, ?_, e7, by omega⟩
  · rw [hml]; exact heap_setCell_same e1 _
  · exact (Fr.set0 w p 0 _).heap e2 (by simpa using e7)
  · rw [hml, show m = min m now.length from by omega, ← List.take_take, e6]; simp [cellsB, List.map_take]
def CrashRel (w : World) (p g s : Nat) (l0 : List UInt8) (cuts : List Int) (ns : Nat) (iv : Value) (wr : World) : Prop :=
  ∃ (k : Nat) (l : List UInt8), k ≤ ns ∧ iv = .int .i64 (k : Int) ∧ isF wr p g l s ∧ TornInv l0 s cuts k l ∧ Fr [p, g] w wr
set_option maxRecDepth 100000 in
theorem icrash_any (p g s : Nat) (now : List UInt8) (size : Int) (cuts : List Int) (cv : Value) (w : World) (h : isF w p g now s) (hc : cellsAt w cv (cuts.map (Value.int .i64))) (hcl : cuts.length ≤ 1048576) (hl : now.length ≤ 1048576) (hcb : cuts ≠ [] → ∀ k, cv.ownBlock = some k → k ≠ p ∧ k ≠ g) :
    Calls Tryz.prog 53 #[.pointer (some ⟨p, 0, none⟩), .int .i64 size, cv] w fun e w' => e = .returned (.int .i64 ((min (secsC (s + sizeC now.length s size) s) cuts.length : Nat) : Int)) ∧ isF w' p g (crashC now s size cuts) (s + sizeC now.length s size) ∧ Fr [p, g] w w' := by
  have HF := Lib.hid h
  have hgp := h.ne
  obtain ⟨cap, hle, hmx, hc0, hc1, hf0, hf1, -⟩ := h.open
  have hs := h.safe
  have hz := sizeC_le now.length s size
  have hite := size_ite now.length s size hs
  obtain ⟨a, cap2, rfl, hcl2, hcm⟩ := hc.form
  rw [List.length_map] at hc hcb hcl2 ⊢
  have HCU := Lib.hid hc
  have HCB := Lib.hid hcb
  have hfin := torn_end now s size cuts hs
  obtain ⟨z, hzz⟩ : ∃ z, z = sizeC now.length s size := ⟨_, rfl⟩
  rw [← hzz] at hite hz hfin ⊢
  have HI := Lib.hid hite
  obtain ⟨m, hm⟩ : ∃ m, m = s + z := ⟨_, rfl⟩
  rw [← hm] at hfin ⊢
  have hml : m ≤ now.length := by omega
  have hsm : s ≤ m := by omega
  have htn : ((s : Int) + (z : Int)).toNat = m := by omega
  have HT := Lib.hid htn
  have HFin := Lib.hid (hfin m rfl)
  have hcut := h.cut (m := m) cap hc0 hsm hml
  have hfr : Fr [p, g] w (w.setCell ⟨p, 0, none⟩ (.slice (some ⟨g, 0, none⟩) m cap)).drew := ((Fr.set0 w p 0 _).mono (by simp)).andDrew
  have HZZ := Lib.hid hzz
  have HM := Lib.hid hm
  clear hite htn hfin h hc hcb hm hzz hz
  obtain ⟨ns, hns⟩ : ∃ ns, ns = secsC m s := ⟨_, rfl⟩
  have hnsb : ns ≤ 65537 := by rw [hns]; unfold secsC; split <;> omega
  have hsin : s / 16 ≤ 65536 := by omega
  rw [← hns] at HFin ⊢
  obtain ⟨u, hu⟩ : ∃ u, u = min ns cuts.length := ⟨_, rfl⟩
  have HU := Lib.hid hu
  have HNS := Lib.hid hns
  clear hns
  rw [← hu]
  clear hu
  go_enter Tryz.func53, Tryz.ntmps53
  go_wp2_with fail
  go_region
  rw [HI.out, HT.out]
  generalize (w.setCell ⟨p, 0, none⟩ (.slice (some ⟨g, 0, none⟩) m cap)).drew = w1 at hcut hfr ⊢
  clear hc0 hc1 hf0 hf1
  have HS := Lib.hid (isectors_any p g s _ w1 hcut (by simp; omega))
  have hml2 : (now.take m).length = m := by simp; omega
  rw [hml2, ← HNS.out] at HS
  have HTZ := Lib.hid (torn_zero (now.take m) s cuts)
  obtain ⟨l0, hl0⟩ : ∃ l0, l0 = now.take m := ⟨_, rfl⟩
  rw [← hl0] at HTZ hcut hml2 HFin
  have HL0 := Lib.hid hl0
  clear hl0
  generalize (if size < 0 then 0 else size) = sz0
  go_upto_region 5 with (go_at_call 82; refine HS.out.mono ?_; rintro e w2 ⟨rfl, rfl⟩)
  go_cut [8] (fun s8 wx => s8 = .int .i64 (u : Int) ∧ w1 = wx)
  case first =>
    go_wp2_with fail
    all_goals
      go_meet
      refine ⟨congrArg (Value.int .i64) ?_, rfl⟩
      rw [HU.out]
      omega
  case rest =>
    obtain ⟨rfl, rfl⟩ := hcut
    clear HI HT HS HZZ HM HNS
    go_wp2_with fail
    go_loopw [46] (CrashRel w p g s l0 cuts ns) (fun iv _ => ns - (intOf iv).toNat)
    case atStart => exact ⟨0, l0, Nat.zero_le _, rfl, hcut, HTZ.out, hfr⟩
    case round =>
      clear hcut hfr
      obtain ⟨k, l, hk, rfl, hF, hT, hfr⟩ := hrel
      have hll : l.length ≤ 1048576 := by rw [hT.1]; omega
      by_cases hkn : k < ns
      · have hd1 : decide (k < ns) = true := decide_eq_true hkn
        obtain ⟨cap3, -, -, hc0, hc1, -, -, -⟩ := hF.open
        have hsec := Lib.hid (isector_any s wr (by omega))
        have htr := tear_any p g s (s / 16 + k) (cutAt cuts k) l wr hF hll (by omega)
        have hnx := Lib.hid (torn_next l0 s cuts k l hT)
        have hcu : cellsAt wr (.slice a cuts.length cap2) (cuts.map (Value.int .i64)) := HCU.out.kept hfr (fun q hq hne _ => by
          have h2 := HCB.out (by intro e; rw [e] at hne; exact hne rfl) q hq
          simp; omega)
        rw [Int.natCast_add] at htr
        by_cases hku : k < cuts.length
        · have hd2 : decide (k < u) = true := decide_eq_true (by rw [HU.out]; omega)
          obtain ⟨b, off, rfl, -, hcell⟩ := hcu.get (i := k) (by simpa using hku)
          have hck := hcell k (by simpa using hku)
          rw [List.getElem_map] at hck
          have hx : cutAt cuts k = cuts[k] := by simp [cutAt, List.getD_eq_getElem?_getD, hku]
          obtain ⟨x, hxx⟩ : ∃ x, x = cuts[k] := ⟨_, rfl⟩
          rw [hx, ← hxx] at htr hnx
          rw [← hxx] at hck
          have HTR := Lib.hid htr
          clear htr hx hxx hcell hcu hF hT
          go_wp2_with (first
            | (go_at_call 84; refine hsec.out.mono ?_; rintro e w2 ⟨rfl, rfl⟩)
            | (go_at_call 83; refine HTR.out.mono ?_; rintro e w2 ⟨rfl, hF2, hf2⟩))
          refine ⟨⟨k + 1, _, by omega, by go_num, hF2, hnx.out, hfr.trans hf2 (fun i hi _ => hi) (by simp)⟩, by simp [intOf]; omega⟩
        · have hd2 : decide (k < u) = false := decide_eq_false (by rw [HU.out]; omega)
          have hx : cutAt cuts k = 0 := by simp [cutAt, List.getD_eq_getElem?_getD, Nat.not_lt.1 hku]
          rw [hx] at htr hnx
          have HTR := Lib.hid htr
          clear htr hx hcu hF hT
          go_wp2_with (first
            | (go_at_call 84; refine hsec.out.mono ?_; rintro e w2 ⟨rfl, rfl⟩)
            | (go_at_call 83; refine HTR.out.mono ?_; rintro e w2 ⟨rfl, hF2, hf2⟩))
          refine ⟨⟨k + 1, _, by omega, by go_num, hF2, hnx.out, hfr.trans hf2 (fun i hi _ => hi) (by simp)⟩, by simp [intOf]; omega⟩
      · have hd1 : decide (k < ns) = false := decide_eq_false hkn
        obtain rfl : k = ns := by omega
        have hlm : l.length = m := by rw [hT.1, hml2]
        have hres := HFin.out l hT
        have HSY := Lib.hid (isync_any p g s l wr hF)
        rw [hlm, hres] at HSY
        go_wp2_with (go_at_call 51; refine HSY.out.mono ?_; rintro e w2 ⟨rfl, hF2, hf2⟩)
        go_ret
        exact ⟨rfl, hF2, hfr.trans hf2 (fun i hi _ => hi) (by simp)⟩
end Go.Proofs.YtmchnaojlnjmjaaGreat

/-! Contracts of the document's Flip (layer 8). -/
namespace Go.Proofs.YtmchnaojlnjmjaaGreat
open Go.RowKit

theorem hnil_new (w : World) : (w.alloc (.cells (#[] : Array Value) 5)).ownsRow w.heap.size 5 1 (.slice (some ⟨w.heap.size, 0, none⟩) 0 0) ([] : List UInt8).length (cellsB []) :=
  owns_of_heap (cur := []) (heap_alloc_new w _) (Nat.le_refl _) rfl (Nat.zero_le _) (by simp [maxLen]) rfl
theorem bytesd_of_owns {w w' : World} {v : Value} {bs : List UInt8} (h : w'.ownsRow w.heap.size 5 1 v bs.length (cellsB bs)) (hf : Fr [] w w') : Bytesd w bs (.returned v) w' :=
  ⟨v, rfl, bytesAt_of_owns h, fun k hk => (h.lt k hk).1, hf⟩
set_option maxRecDepth 100000 in
theorem ref_flip_no (b : List UInt8) (bit : Int) (sv : Value) (w : World) (h : bytesAt w sv b) (hl : b.length ≤ 1000000) (hb : bit < 0 ∨ 8 * (b.length : Int) ≤ bit) :
    Calls Tryz.prog 65 #[sv, .int .i64 bit] w (Bytesd w b) := by
  obtain ⟨i, hi, hz0, hz1, hz2⟩ := info_parts infoB
  obtain ⟨a0, c0, rfl, hle, hmx⟩ := h.form
  have hnil := Lib.hid (hnil_new w)
  have hba := Lib.hid (h.below (Fr.alloc w (.cells (#[] : Array Value) 5)))
  by_cases hn : bit < 0
  · have hd : decide (0 ≤ bit) = false := decide_eq_false (by omega)
    clear h hb
    go_enter Tryz.func65, Tryz.ntmps65
    go_wp2_with (at_builtin; refine wpL_append rfl (.tmp 6) (.tmp 7) 38 rfl w.heap.size 5 i (.int .u8 0) Tryz.underlying38 hi hz0 hz1 hz2 rfl _ [] rfl hnil.out _ b rfl hba.out (by simp; omega) (by simp) ?_; intro v1 w1 hown1 hf1 hb1; clear hb1)
    go_ret
    exact bytesd_of_owns hown1 ((Fr.alloc w _).trans (m := [w.heap.size]) hf1 (by simp) (by simp))
  · obtain ⟨q, rfl⟩ := Int.eq_ofNat_of_zero_le (show 0 ≤ bit by omega)
    have hd2 : decide ((q : Int) < 8 * (b.length : Int)) = false := decide_eq_false (by omega)
    clear h hb hn
    go_enter Tryz.func65, Tryz.ntmps65
    go_wp2_with (at_builtin; refine wpL_append rfl (.tmp 6) (.tmp 7) 38 rfl w.heap.size 5 i (.int .u8 0) Tryz.underlying38 hi hz0 hz1 hz2 rfl _ [] rfl hnil.out _ b rfl hba.out (by simp; omega) (by simp) ?_; intro v1 w1 hown1 hf1 hb1; clear hb1; obtain ⟨a1, c1, rfl, -, -⟩ := (bytesAt_of_owns (bs := b) hown1).form)
    go_ret
    exact bytesd_of_owns hown1 ((Fr.alloc w _).trans (m := [w.heap.size]) hf1 (by simp) (by simp))

theorem row_of_owns {w : World} {base : Nat} {v : Value} {l : List UInt8} (h : w.ownsRow base 5 1 v l.length (cellsB l)) (hne : l ≠ []) : ∃ g cap, v = .slice (some ⟨g, 0, none⟩) l.length cap ∧ base ≤ g ∧ l.length ≤ cap ∧ cap ≤ maxLen ∧
    (∀ i (hi : i < l.length), w.cell? ⟨g, i, none⟩ = some (.int .u8 ((l[i]'hi).toNat : Int))) ∧ (∀ i, w.frozen? ⟨g, i, none⟩ = false) ∧
    ∀ i (c : UInt8), i < l.length → (w.setCell ⟨g, i, none⟩ (.int .u8 (c.toNat : Int))).ownsRow base 5 1 (.slice (some ⟨g, 0, none⟩) l.length cap) l.length (cellsB (l.set i c)) := by
  have hb := bytesAt_of_owns h
  rcases h.2 with ⟨_, h0⟩ | ⟨g, cap, cur, rfl, hbg, hg, hn, hm, hs, ht⟩
  · exact (hne (List.eq_nil_of_length_eq_zero h0)).elim
  · refine ⟨g, cap, rfl, hbg, hn, hm, fun i hi => ?_, fun i => free_of_heap hg i, fun i c hi => ?_⟩
    · rw [cell_of_heap hg, ← cellsB_get l i hi]
      have : (cellsB l)[i]? = (cur.toList.take l.length)[i]? := by rw [← ht]; simp
      rw [this, List.getElem?_take, if_pos hi]; simp
    · refine owns_of_heap (cur := (cur.setIfInBounds i (.int .u8 (c.toNat : Int))).toList) ((heap_setCell_same hg _).trans (by rw [Array.toArray_toList])) hbg (by simpa using hs) hn hm ?_
      rw [Array.toList_setIfInBounds, List.take_set]
      have : cur.toList.take l.length = cellsB l := by simpa using ht
      rw [this]; simp [cellsB, List.map_set]
set_option maxRecDepth 100000 in
theorem ref_flip_yes (b : List UInt8) (q : Nat) (sv : Value) (w : World) (h : bytesAt w sv b) (hl : b.length ≤ 1000000) (hq : q / 8 < b.length) :
    Calls Tryz.prog 65 #[sv, .int .i64 (q : Int)] w (Bytesd w (flipC b (q : Int))) := by
  obtain ⟨i, hi, hz0, hz1, hz2⟩ := info_parts infoB
  obtain ⟨a0, c0, rfl, hle, hmx⟩ := h.form
  have hnil := Lib.hid (hnil_new w)
  have hba := Lib.hid (h.below (Fr.alloc w (.cells (#[] : Array Value) 5)))
  have hd2 : decide ((q : Int) < 8 * (b.length : Int)) = true := decide_eq_true (by omega)
  have hne : b ≠ [] := by rintro rfl; simp at hq
  have HV := Lib.hid (turn_value (b[q / 8]'hq) q)
  obtain ⟨c, hc⟩ : ∃ c, c = b[q / 8]'hq := ⟨_, rfl⟩
  rw [← hc] at HV
  have HC := Lib.hid hc
  clear h hc
  go_enter Tryz.func65, Tryz.ntmps65
  go_wp2_with (at_builtin; refine wpL_append rfl (.tmp 6) (.tmp 7) 38 rfl w.heap.size 5 i (.int .u8 0) Tryz.underlying38 hi hz0 hz1 hz2 rfl _ [] rfl hnil.out _ b rfl hba.out (by simp; omega) (by simp) ?_; intro v1 w1 hown1 hf1 hb1; clear hb1; obtain ⟨g, cap, rfl, hg, hcap, hmax, hcell, hfree, hset⟩ := row_of_owns (l := b) hown1 hne)
  have hfr := (Fr.alloc w _).trans (m := [w.heap.size]) hf1 (by simp) (n := []) (by simp)
  have hcq := hcell (q / 8) hq
  have hfq := hfree (q / 8)
  rw [← HC.out] at hcq
  have HS := Lib.hid (hset (q / 8))
  clear hset hcell hfree hown1 hf1
  go_region
  go_wp2_with fail
  go_ret
  rw [HV.out]
  have ho := HS.out (UInt8.ofNat (c.toNat ^^^ 2 ^ (q % 8))) hq
  rw [flipC_yes b q hq, ← HC.out]
  refine bytesd_of_owns ?_ (((hfr.trans (Fr.set0 w1 g (q / 8) _) (by simp) (n := []) (by simp; omega))).andDrew)
  rw [List.length_set]
  exact owns_kept ho (Fr.drew _) (by simp)
theorem ref_flip_any (b : List UInt8) (bit : Int) (sv : Value) (w : World) (h : bytesAt w sv b) (hl : b.length ≤ 1000000) :
    Calls Tryz.prog 65 #[sv, .int .i64 bit] w (Bytesd w (flipC b bit)) := by
  by_cases hb : bit < 0 ∨ 8 * (b.length : Int) ≤ bit
  · rw [flipC_no b bit hb]; exact ref_flip_no b bit sv w h hl hb
  · obtain ⟨q, rfl⟩ := Int.eq_ofNat_of_zero_le (show 0 ≤ bit by omega)
    exact ref_flip_yes b q sv w h hl (by omega)
end Go.Proofs.YtmchnaojlnjmjaaGreat

/-! Contracts of the document's Sectors and Crash. -/
namespace Go.Proofs.YtmchnaojlnjmjaaGreat
open Go.RowKit

def lastAt (s i : Nat) : Int := if i = s then -1 else (((i - 1) / 16 : Nat) : Int)
theorem lastAt_succ (s i : Nat) (h : s ≤ i) : lastAt s (i + 1) = ((i / 16 : Nat) : Int) := by
  unfold lastAt; rw [if_neg (by omega)]; simp
theorem last_same (s i : Nat) (h : s ≤ i) (he : ((i / 16 : Nat) : Int) = lastAt s i) : secsC (i + 1) s = secsC i s ∧ ¬ (i = s ∨ i % 16 = 0) := by
  unfold lastAt at he
  have hn : ¬ (i = s ∨ i % 16 = 0) := by
    split at he <;> omega
  exact ⟨by rw [secsC_succ i s h, if_neg hn]; rfl, hn⟩
theorem last_other (s i : Nat) (h : s ≤ i) (he : ¬ ((i / 16 : Nat) : Int) = lastAt s i) : secsC (i + 1) s = secsC i s + 1 ∧ (i = s ∨ i % 16 = 0) := by
  unfold lastAt at he
  have hn : i = s ∨ i % 16 = 0 := by
    split at he
    · left; assumption
    · right; omega
  exact ⟨by rw [secsC_succ i s h, if_pos hn], hn⟩
def SecsRel (s n : Nat) (w1 : World) (nv lv iv : Value) (wr : World) : Prop :=
  ∃ i : Nat, s ≤ i ∧ i ≤ n ∧ nv = .int .i64 ((secsC i s : Nat) : Int) ∧ lv = .int .i64 (lastAt s i) ∧ iv = .int .i64 (i : Int) ∧ wr = w1
theorem secsC_le (n s : Nat) : secsC n s ≤ n + 1 := by unfold secsC; split <;> omega
set_option maxRecDepth 100000 in
theorem ref_sectors_any (now sf : List UInt8) (nv sv : Value) (w : World) (h : bytesAt w nv now) (hs : bytesAt w sv sf) (hle : sf.length ≤ now.length) (hl : now.length ≤ 1000000) :
    Calls Tryz.prog 64 #[.agg #[nv, sv]] w fun e w' => e = .returned (.int .i64 ((secsC now.length sf.length : Nat) : Int)) ∧ Fr [] w w' := by
  obtain ⟨a0, c0, rfl, h0, h0'⟩ := h.form
  obtain ⟨a1, c1, rfl, h1, h1'⟩ := hs.form
  obtain ⟨n, hn⟩ : ∃ n, n = now.length := ⟨_, rfl⟩
  obtain ⟨s, hss⟩ : ∃ s, s = sf.length := ⟨_, rfl⟩
  rw [← hn, ← hss] at hle ⊢
  rw [← hn] at hl
  clear h hs h0 h1 h0' h1' hn hss
  go_enter Tryz.func64, Tryz.ntmps64
  go_wp2_with fail
  go_loopw [3, 4, 5] (SecsRel s n (w.alloc (.cells #[.slice a0 n c0, .slice a1 s c1] 85))) (fun _ _ iv _ => n - (intOf iv).toNat)
  case atStart => exact ⟨s, Nat.le_refl _, hle, by rw [secsC_none]; rfl, by simp [lastAt], rfl, rfl⟩
  case round =>
    obtain ⟨i, hi1, hi2, rfl, rfl, rfl, rfl⟩ := hrel
    have hsl := secsC_le i s
    by_cases hin : i < n
    · have hd : decide (i < n) = true := decide_eq_true hin
      have hls := lastAt_succ s i hi1
      by_cases he : ((i / 16 : Nat) : Int) = lastAt s i
      · have HN := Lib.hid (last_same s i hi1 he).1
        have HE := Lib.hid he
        have he2 : ((i : Int) / 16 != lastAt s i) = false := by
          rw [bne_eq_false_iff_eq, ← he]; omega
        obtain ⟨x, hx⟩ : ∃ x, x = lastAt s i := ⟨_, rfl⟩
        rw [← hx] at he2 HE ⊢
        have HX := Lib.hid hx
        clear he hx hls
        go_wp2_with fail
        refine ⟨⟨i + 1, by omega, by omega, by rw [HN.out], ?_, by go_num, rfl⟩, by simp [intOf]; omega⟩
        rw [lastAt_succ s i hi1, HE.out]
      · have HN := Lib.hid (last_other s i hi1 he).1
        have he2 : ((i : Int) / 16 != lastAt s i) = true := by
          rw [bne_iff_ne]; omega
        obtain ⟨x, hx⟩ : ∃ x, x = lastAt s i := ⟨_, rfl⟩
        rw [← hx] at he2 ⊢
        clear he hx hls
        go_wp2_with fail
        refine ⟨⟨i + 1, by omega, by omega, by rw [HN.out]; go_num, ?_, by go_num, rfl⟩, by simp [intOf]; omega⟩
        rw [lastAt_succ s i hi1]; go_num
    · have hd : decide (i < n) = false := decide_eq_false hin
      obtain rfl : i = n := by omega
      go_wp2_with fail
      go_ret
      exact ⟨rfl, Fr.alloc _ _⟩

def kAt (s i : Nat) : Int := if i = s then -1 else (((i - 1) / 16 - s / 16 : Nat) : Int)
def thereAt (s : Nat) (cuts : List Int) (i : Nat) : Int := if i = s then 0 else cutAt cuts ((i - 1) / 16 - s / 16)
theorem there_succ (s : Nat) (cuts : List Int) (i : Nat) (h : s ≤ i) : thereAt s cuts (i + 1) = cutAt cuts (i / 16 - s / 16) := by
  unfold thereAt; rw [if_neg (by omega)]; simp
theorem k_succ (s i : Nat) (h : s ≤ i) : kAt s (i + 1) = ((i / 16 - s / 16 : Nat) : Int) := by
  unfold kAt; rw [if_neg (by omega)]; simp
theorem at_same (s : Nat) (cuts : List Int) (i : Nat) (h : s ≤ i) (he : ((i / 16 : Nat) : Int) = lastAt s i) : kAt s (i + 1) = kAt s i ∧ thereAt s cuts (i + 1) = thereAt s cuts i := by
  have hn := (last_same s i h he).2
  unfold lastAt at he
  rw [if_neg (by omega)] at he
  have e : (i - 1) / 16 = i / 16 := by omega
  unfold kAt thereAt
  rw [if_neg (by omega), if_neg (by omega), if_neg (by omega), if_neg (by omega), e]
  simp
theorem at_other (s i : Nat) (h : s ≤ i) (he : ¬ ((i / 16 : Nat) : Int) = lastAt s i) : kAt s (i + 1) = kAt s i + 1 := by
  have hn := (last_other s i h he).2
  rw [k_succ s i h]
  unfold kAt
  split
  · next e => subst e; simp
  · omega
theorem byteAt2 {w : World} {a : Option Addr} {n cap : Nat} {bs : List UInt8} (h : bytesAt w (.slice a n cap) bs) (k : Nat) (hk : k < bs.length) : ∃ b off, a = some ⟨b, off, none⟩ ∧ w.cell? ⟨b, off + k, none⟩ = some (.int .u8 ((bs[k]'hk).toNat : Int)) := by
  rcases h with ⟨_, _, _, _, rfl⟩ | ⟨b, off, cap', e, _, _, hcell⟩
  · simp at hk
  · simp only [Value.slice.injEq] at e
    obtain ⟨rfl, -, rfl⟩ := e
    exact ⟨b, off, rfl, hcell k hk⟩
def CrashR (now : List UInt8) (s z : Nat) (cuts : List Int) (w : World) (v8 v9 v10 v11 v12 : Value) (wr : World) : Prop :=
  ∃ q : Nat, s ≤ q ∧ q ≤ s + z ∧ wr.ownsRow w.heap.size 5 1 v8 q (cellsB (leftC now s cuts (q - s))) ∧ v9 = .int .i64 (kAt s q) ∧ v10 = .int .i64 (lastAt s q) ∧ v11 = .int .i64 (thereAt s cuts q) ∧ v12 = .int .i64 (q : Int) ∧ Fr [] w wr
theorem size_max (n s : Nat) (size : Int) (h : s ≤ n) : min (max size 0) ((n : Int) - (s : Int)) = (sizeC n s size : Int) := by unfold sizeC; omega
set_option maxHeartbeats 2000000 in
set_option maxRecDepth 100000 in
theorem ref_crash_any (now sf : List UInt8) (nv sv : Value) (size : Int) (cuts : List Int) (cv : Value) (w : World) (h : bytesAt w nv now) (hs : bytesAt w sv sf) (hsf : sf = now.take sf.length) (hl : now.length ≤ 1000000)
    (hc : cellsAt w cv (cuts.map (Value.int .i64))) (hcl : cuts.length ≤ 1000000) :
    Calls Tryz.prog 62 #[.agg #[nv, sv], .int .i64 size, cv] w (Bytesd w (crashC now sf.length size cuts)) := by
  obtain ⟨i, hi, hz0, hz1, hz2⟩ := info_parts infoB
  have hle : sf.length ≤ now.length := by rw [hsf]; simp; omega
  obtain ⟨a0, c0, rfl, h0, h0'⟩ := h.form
  obtain ⟨a1, c1, rfl, h1, h1'⟩ := hs.form
  obtain ⟨a2, c2, rfl, h2, h2'⟩ := hc.form
  rw [List.length_map] at hc h2 ⊢
  have HH := Lib.hid h
  have HS := Lib.hid hs
  have HC := Lib.hid hc
  have HSF := Lib.hid hsf
  have hz := sizeC_le now.length sf.length size
  obtain ⟨n, hn⟩ : ∃ n, n = now.length := ⟨_, rfl⟩
  obtain ⟨s, hss⟩ : ∃ s, s = sf.length := ⟨_, rfl⟩
  obtain ⟨z, hzz⟩ : ∃ z, z = sizeC n s size := ⟨_, rfl⟩
  have hfin : crashC now s size cuts = leftC now s cuts z := by rw [crashC, hzz, hn]
  rw [← hss, hfin]
  rw [← hn, ← hss] at hle hz
  rw [← hzz] at hz
  rw [← hn] at hl ⊢
  rw [← hss] at HSF
  have HN := Lib.hid hn
  have HSS := Lib.hid hss
  have HZ := Lib.hid hzz
  clear h hs hc hsf h0 h1 h0' h1' h2 h2' hn hss hzz hfin
  go_enter Tryz.func62, Tryz.ntmps62
  go_upto_if 21 with fail
  have hf1 := Fr.alloc w (.cells #[.slice a0 n c0, .slice a1 s c1] 85)
  have hb1 := heap_alloc_new w (.cells #[.slice a0 n c0, .slice a1 s c1] 85)
  have hs1 : (w.alloc (.cells #[.slice a0 n c0, .slice a1 s c1] 85)).heap.size = w.heap.size + 1 := by simp
  generalize w.alloc (.cells #[.slice a0 n c0, .slice a1 s c1] 85) = w1 at hf1 hb1 hs1 ⊢
  have hbl : w.heap.size < w1.heap.size := by omega
  clear hs1
  go_cut [1] (fun s1 wx => s1 = .int .i64 (max size 0) ∧ w1 = wx)
  case first =>
    by_cases hsz : size < 0
    · have hd : decide (size < 0) = true := decide_eq_true hsz
      have HM := Lib.hid (show max size 0 = 0 by omega)
      clear hsz
      rw [hd]
      go_wp2_with fail
      go_meet
      exact ⟨by rw [HM.out], rfl⟩
    · have hd : decide (size < 0) = false := decide_eq_false hsz
      have HM := Lib.hid (show max size 0 = size by omega)
      clear hsz
      rw [hd]
      go_wp2_with fail
      go_meet
      exact ⟨by rw [HM.out], rfl⟩
  case rest =>
    obtain ⟨rfl, rfl⟩ := hcut
    have HMX := Lib.hid (size_max n s size hle)
    rw [← HZ.out] at HMX
    obtain ⟨size2, hsz2⟩ : ∃ size2, size2 = max size 0 := ⟨_, rfl⟩
    rw [← hsz2] at HMX ⊢
    clear hsz2
    go_upto_if 24 with fail
    go_cut [1] (fun s1 wx => s1 = .int .i64 (z : Int) ∧ w1 = wx)
    case first =>
      by_cases hsz : (n : Int) - (s : Int) < size2
      · have hd : decide ((n : Int) - (s : Int) < size2) = true := decide_eq_true hsz
        have HM := Lib.hid (show (n : Int) - (s : Int) = (z : Int) by rw [← HMX.out]; omega)
        clear hsz
        rw [hd]
        go_wp2_with fail
        go_meet
        exact ⟨by rw [HM.out], rfl⟩
      · have hd : decide ((n : Int) - (s : Int) < size2) = false := decide_eq_false hsz
        have HM := Lib.hid (show size2 = (z : Int) by rw [← HMX.out]; omega)
        clear hsz
        rw [hd]
        go_wp2_with fail
        go_meet
        exact ⟨by rw [HM.out], rfl⟩
    case rest =>
      obtain ⟨rfl, rfl⟩ := hcut
      have hsfb : bytesAt (w1.alloc (.cells (#[] : Array Value) 5)) (.slice a1 s c1) sf := by
        have := (HS.out.below hf1).below (Fr.alloc w1 (.cells (#[] : Array Value) 5))
        rwa [← HSS.out] at this
      have HSB := Lib.hid hsfb
      have hb10 : w1.cell? ⟨w.heap.size, 0, none⟩ = some (.slice a0 n c0) := by rw [cell_of_heap hb1]; rfl
      have hb11 : w1.cell? ⟨w.heap.size, 1, none⟩ = some (.slice a1 s c1) := by rw [cell_of_heap hb1]; rfl
      have hsfl : sf.length ≤ 1000000 := by have := HSS.out; omega
      have hnin : w.heap.size ∉ (Value.slice (some ⟨w1.heap.size, 0, none⟩) 0 0).ownBlock.toList := by
        show w.heap.size ∉ [w1.heap.size]
        simp; omega
      have HNIL := Lib.hid (hnil_new w1)
      clear hsfb
      go_wp2_with (at_builtin; refine wpL_append rfl (.tmp 26) (.tmp 28) 38 rfl w1.heap.size 5 i (.int .u8 0) Tryz.underlying38 hi hz0 hz1 hz2 rfl _ [] rfl HNIL.out _ sf rfl HSB.out (by simp; omega) (by simp) ?_; intro v8 w2 hown2 hf2 hb2; clear hb2; have hc2 := hf2.cell ((Fr.alloc w1 (.cells (#[] : Array Value) 5)).cell hb11 (by simp)) hnin; obtain ⟨a8, n8, c8, rfl⟩ := (bytesAt_of_owns (bs := sf) hown2).slice)
      have hf12 : Fr [] w1 w2 := (Fr.alloc w1 _).trans (m := [w1.heap.size]) hf2 (by simp) (by simp)
      have hrow0 : w2.ownsRow w1.heap.size 5 1 (.slice a8 n8 c8) s (cellsB (leftC now s cuts (s - s))) := by
        rw [Nat.sub_self, leftC_zero, ← HSF.out, HSS.out]
        exact hown2
      clear hown2 hf2 hc2 HSB HNIL
      obtain ⟨v8, hv8⟩ : ∃ v8, v8 = Value.slice a8 n8 c8 := ⟨_, rfl⟩
      rw [← hv8] at hrow0 ⊢
      clear hv8
      go_loopw [8, 9, 10, 11, 12] (CrashR now s z cuts w1) (fun _ _ _ _ v12 _ => s + z - (intOf v12).toNat)
      case atStart => exact ⟨s, Nat.le_refl _, by omega, hrow0, by simp [kAt], by simp [lastAt], by simp [thereAt], rfl, hf12⟩
      case round =>
        clear hrow0 hf12
        obtain ⟨q, hq1, hq2, hrow, rfl, rfl, rfl, rfl, hf⟩ := hrel
        have hc1 := hf.cell hb11 (by simp)
        have hc0 := hf.cell hb10 (by simp)
        by_cases hjz : q < s + z
        · have hd : decide ((q : Int) < (s : Int) + (z : Int)) = true := decide_eq_true (by omega)
          have hqn : q < now.length := by have := HN.out; omega
          have hst : leftC now s cuts (q + 1 - s) = leftC now s cuts (q - s) ++ [keepB s cuts q (now[q]'hqn)] := by
            have e : s + (q - s) = q := by omega
            have := leftC_succ now s cuts (q - s) (by omega)
            simp only [e] at this
            rw [show q + 1 - s = q - s + 1 from by omega, this]
          have hth := there_succ s cuts q hq1
          have hla := lastAt_succ s q hq1
          have hks := k_succ s q hq1
          have hHH := (HH.out.below hf1).below hf
          have HST := Lib.hid hst
          have HHQ := Lib.hid hHH
          have HROW := Lib.hid hrow
          have HB10 := Lib.hid hb10
          clear hst hHH hrow hb10 hc0
          obtain ⟨x, hx⟩ : ∃ x, x = cutAt cuts (q / 16 - s / 16) := ⟨_, rfl⟩
          have hcase : (((q / 16 : Nat) : Int) = lastAt s q ∧ kAt s (q + 1) = kAt s q ∧ thereAt s cuts (q + 1) = thereAt s cuts q) ∨ (¬ ((q / 16 : Nat) : Int) = lastAt s q ∧ kAt s (q + 1) = kAt s q + 1) := by
            by_cases he : ((q / 16 : Nat) : Int) = lastAt s q
            · exact .inl ⟨he, at_same s cuts q hq1 he⟩
            · exact .inr ⟨he, at_other s q hq1 he⟩
          have HX := Lib.hid hx
          have HTH := Lib.hid hth
          have HLA := Lib.hid hla
          have HKS := Lib.hid hks
          have HCS := Lib.hid hcase
          obtain ⟨k9, hk9⟩ : ∃ k9, k9 = kAt s q := ⟨_, rfl⟩
          obtain ⟨l10, hl10⟩ : ∃ l10, l10 = lastAt s q := ⟨_, rfl⟩
          obtain ⟨t11, ht11⟩ : ∃ t11, t11 = thereAt s cuts q := ⟨_, rfl⟩
          rw [← hk9, ← hl10, ← ht11]
          rw [← hk9, ← hl10, ← ht11] at HCS
          clear hk9 hl10 ht11 hx hth hla hks hcase
          go_upto_if 45 with fail
          go_cut [9, 10, 11] (fun s9 s10 s11 wx => s9 = .int .i64 (kAt s (q + 1)) ∧ s10 = .int .i64 (lastAt s (q + 1)) ∧ s11 = .int .i64 x ∧ wr = wx)
          case first =>
            by_cases he : ((q / 16 : Nat) : Int) = l10
            · obtain ⟨_, e1, e2⟩ := HCS.out.resolve_right (fun h => h.1 he)
              have he2 : ((q : Int) / 16 != l10) = false := by rw [bne_eq_false_iff_eq, ← he]; omega
              have HE1 := Lib.hid e1
              have HE2 := Lib.hid e2
              have HE := Lib.hid he
              clear e1 e2 he
              rw [he2]
              go_wp2_with fail
              go_meet
              exact ⟨by rw [HE1.out], by rw [HLA.out, HE.out], by rw [HX.out, ← HTH.out, HE2.out], rfl⟩
            · obtain ⟨_, e1⟩ := HCS.out.resolve_left (fun h => he h.1)
              have he2 : ((q : Int) / 16 != l10) = true := by rw [bne_iff_ne]; omega
              obtain ⟨kk, hkk⟩ : ∃ kk, kk = q / 16 - s / 16 := ⟨_, rfl⟩
              rw [← hkk] at HX HKS
              have hk1 : k9 + 1 = (kk : Int) := by have := HKS.out; omega
              have HKK := Lib.hid hkk
              have hkb : kk ≤ 1000000 := by omega
              clear he hkk e1
              rw [he2]
              by_cases hkc : kk < cuts.length
              · have hd3 : decide (kk < cuts.length) = true := decide_eq_true hkc
                obtain ⟨b, off, rfl, -, hcell⟩ := ((HC.out.below hf1).below hf).get (i := kk) (by simpa using hkc)
                have hck := hcell kk (by simpa using hkc)
                rw [List.getElem_map, show cuts[kk] = x by rw [HX.out]; simp [cutAt, List.getD_eq_getElem?_getD, hkc]] at hck
                clear hcell
                go_wp2_with fail
                go_meet
                exact ⟨by rw [HKS.out], by rw [HLA.out]; go_num, rfl, rfl⟩
              · have hd3 : decide (kk < cuts.length) = false := decide_eq_false hkc
                have hx0 : x = 0 := by rw [HX.out]; simp [cutAt, List.getD_eq_getElem?_getD, Nat.not_lt.1 hkc]
                subst hx0
                go_wp2_with fail
                go_meet
                exact ⟨by rw [HKS.out], by rw [HLA.out]; go_num, rfl, rfl⟩
          case rest =>
            obtain ⟨rfl, rfl, rfl, rfl⟩ := hcut
            have hsz : w1.heap.size ≤ wr.heap.size := hf.size
            obtain ⟨k9', hk9'⟩ : ∃ k9', k9' = kAt s (q + 1) := ⟨_, rfl⟩
            obtain ⟨l10', hl10'⟩ : ∃ l10', l10' = lastAt s (q + 1) := ⟨_, rfl⟩
            rw [← hk9', ← hl10']
            have HK9 := Lib.hid hk9'
            have HL10 := Lib.hid hl10'
            clear hk9' hl10'
            have HB0 := Lib.hid (hf.cell HB10.out (by simp))
            by_cases hqx : ((q % 16 : Nat) : Int) < x
            · have hd4 : decide ((q : Int) % 16 < x) = true := decide_eq_true (by omega)
              have hkb : keepB s cuts q (now[q]'hqn) = now[q]'hqn := by rw [keepB, ← HX.out, if_pos hqx]
              obtain ⟨b, off, rfl, hcq⟩ := byteAt2 HHQ.out q hqn
              have hc0 := HB0.out
              have HST2 := HST.out
              rw [hkb] at HST2
              obtain ⟨c, hcc⟩ : ∃ c, c = now[q]'hqn := ⟨_, rfl⟩
              rw [← hcc] at HST2 hcq
              have HST3 := Lib.hid HST2
              have hqn2 : q < n := by have := HN.out; omega
              clear hqx hkb HST2 hcc HHQ HST
              go_wp2_with (at_builtin; refine wpL_append1 rfl (.tmp 62) (.tmp 68) 38 rfl w1.heap.size 5 i (.int .u8 0) 1 Tryz.underlying38 hi hz0 hz1 hz2 rfl _ q (cellsB (leftC now s cuts (q - s))) rfl HROW.out (.int .u8 (c.toNat : Int)) rfl rfl (by omega) (by simp [maxLen]; omega) hsz ?_; intro v' w' hown' hf' hb')
              refine ⟨⟨q + 1, by omega, by omega, ?_, by rw [HK9.out], by rw [HL10.out], by rw [HTH.out, HX.out], by go_num, hf.own HROW.out hf'⟩, by simp [intOf]; omega⟩
              rw [HST3.out, cellsB_append]
              exact hown'
            · have hd4 : decide ((q : Int) % 16 < x) = false := decide_eq_false (by omega)
              have hkb : keepB s cuts q (now[q]'hqn) = 0 := by rw [keepB, ← HX.out, if_neg hqx]
              have HST2 := HST.out
              rw [hkb] at HST2
              have HST3 := Lib.hid HST2
              clear hqx hkb HST2 HHQ HST
              go_wp2_with (at_builtin; refine wpL_append1 rfl (.tmp 70) (.tmp 71) 38 rfl w1.heap.size 5 i (.int .u8 0) 1 Tryz.underlying38 hi hz0 hz1 hz2 rfl _ q (cellsB (leftC now s cuts (q - s))) rfl HROW.out (.int .u8 0) rfl rfl (by omega) (by simp [maxLen]; omega) hsz ?_; intro v' w' hown' hf' hb')
              refine ⟨⟨q + 1, by omega, by omega, ?_, by rw [HK9.out], by rw [HL10.out], by rw [HTH.out, HX.out], by go_num, hf.own HROW.out hf'⟩, by simp [intOf]; omega⟩
              rw [HST3.out, cellsB_append]
              exact hown'
        · have hd : decide ((q : Int) < (s : Int) + (z : Int)) = false := decide_eq_false (by omega)
          obtain rfl : q = s + z := by omega
          rw [show s + z - s = z from by omega] at hrow
          have hll : s + z = (leftC now s cuts z).length := by rw [leftC_length _ _ _ _ (by have := HN.out; omega)]
          have hrow2 := hrow
          rw [hll] at hrow2
          have HR2 := Lib.hid hrow2
          clear hrow2 hll hrow
          go_wp2_with fail
          go_ret
          exact bytesd_of_owns (owns_base HR2.out (fun k hk => by have := (HR2.out.lt k hk).1; omega)) (hf1.trans hf (by simp) (by simp))
end Go.Proofs.YtmchnaojlnjmjaaGreat
