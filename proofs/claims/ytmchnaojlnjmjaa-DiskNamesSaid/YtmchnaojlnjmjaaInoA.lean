/- Contracts of package inode's small functions: clone, New, Len, Safe, Bytes, sectorOf, Sectors, Sync. -/
import Derived.Test.YtmchnaojlnjmjaaBs
import Derived.Test.YtmchnaojlnjmjaaInoMath
import Derived.LoopTactic
import Derived.BigRegion
namespace Go.Proofs.Ytmchnaojlnjmjaa
open Go.RowKit

theorem bytesAt.slice {w : World} {v : Value} {bs : List UInt8} (h : bytesAt w v bs) : ∃ a n c, v = .slice a n c := by
  obtain ⟨a, c, rfl, -, -⟩ := h.form
  exact ⟨_, _, _, rfl⟩
theorem bytesAt.lenle {w : World} {v : Value} {bs : List UInt8} (h : bytesAt w v bs) : bs.length ≤ 9223372036854775807 := by have := h.len; simpa [maxLen] using this

/-- The file at p, whose bytes lie in the block g: all of them, and how many are durable. -/
def isF (w : World) (p g : Nat) (now : List UInt8) (s : Nat) : Prop :=
  ∃ (cap : Nat) (cur : List Value), w.heap[p]? = some (.cells #[.slice (some ⟨g, 0, none⟩) now.length cap, .int .i64 (s : Int)] 83 (0, 0)) ∧ w.heap[g]? = some (.cells cur.toArray 5 (0, 0)) ∧
    cur.length = cap ∧ now.length ≤ cap ∧ cap ≤ maxLen ∧ cur.take now.length = cellsB now ∧ g ≠ p ∧ s ≤ now.length
theorem isF.lt {w : World} {p g s : Nat} {now : List UInt8} (h : isF w p g now s) : p < w.heap.size ∧ g < w.heap.size := by
  obtain ⟨cap, cur, h1, h2, _⟩ := h
  exact ⟨(Array.getElem?_eq_some_iff.1 h1).1, (Array.getElem?_eq_some_iff.1 h2).1⟩
theorem isF.ne {w : World} {p g s : Nat} {now : List UInt8} (h : isF w p g now s) : g ≠ p := by
  obtain ⟨cap, cur, h1, h2, _, _, _, _, h3, _⟩ := h
  exact h3
theorem isF.safe {w : World} {p g s : Nat} {now : List UInt8} (h : isF w p g now s) : s ≤ now.length := by
  obtain ⟨cap, cur, h1, h2, _, _, _, _, _, h3⟩ := h
  exact h3
theorem isF.kept {w w' : World} {p g s : Nat} {now : List UInt8} {l : List Nat} (h : isF w p g now s) (hf : Fr l w w') (hp : p ∉ l) (hg : g ∉ l) : isF w' p g now s := by
  obtain ⟨cap, cur, h1, h2, h3⟩ := h
  exact ⟨cap, cur, hf.heap h1 hp, hf.heap h2 hg, h3⟩
theorem isF.below {w w' : World} {p g s : Nat} {now : List UInt8} (h : isF w p g now s) (hf : Fr [] w w') : isF w' p g now s := h.kept hf (by simp) (by simp)
/-- What it gives to a walk. -/
theorem isF.open {w : World} {p g s : Nat} {now : List UInt8} (h : isF w p g now s) :
    ∃ cap : Nat, now.length ≤ cap ∧ cap ≤ 9223372036854775807 ∧ w.cell? ⟨p, 0, none⟩ = some (.slice (some ⟨g, 0, none⟩) now.length cap) ∧ w.cell? ⟨p, 1, none⟩ = some (.int .i64 (s : Int)) ∧ w.frozen? ⟨p, 0, none⟩ = false ∧ w.frozen? ⟨p, 1, none⟩ = false ∧
      bytesAt w (.slice (some ⟨g, 0, none⟩) now.length cap) now := by
  obtain ⟨cap, cur, h1, h2, h3, h4, h5, h6, h7, h8⟩ := h
  refine ⟨cap, h4, by simpa [maxLen] using h5, by rw [cell_of_heap h1]; rfl, by rw [cell_of_heap h1]; rfl, free_of_heap h1 0, free_of_heap h1 1, ?_⟩
  exact .inr ⟨g, 0, cap, rfl, h4, h5, fun i hi => by
    rw [Nat.zero_add, cell_of_heap h2, ← cellsB_get now i hi, ← h6, List.getElem?_take, if_pos hi]; simp⟩

/-- New bytes that the call has made, in a block of their own. -/
def Cloned (w : World) (bs : List UInt8) (e : Ending) (w' : World) : Prop :=
  e = .returned (.slice (some ⟨w.heap.size, 0, none⟩) bs.length bs.length) ∧ w'.heap[w.heap.size]? = some (.cells (cellsB bs).toArray 5 (0, 0)) ∧ Fr [] w w'
set_option maxRecDepth 100000 in
theorem iclone_any (bs : List UInt8) (v : Value) (w : World) (h : bytesAt w v bs) (hl : bs.length ≤ 140737488355328) :
    Calls Try.prog 50 #[v] w (Cloned w bs) := by
  obtain ⟨i, hi, hz0, hz1, hz2⟩ := info_parts infoB
  have hlen := h.len
  have hb0 := h
  obtain ⟨a, cap, rfl, -, -⟩ := h.form
  go_enter Try.func50, Try.ntmps50
  go_wp2_with (first
    | (at_make; refine wpL_make rfl _ _ 24 rfl 5 i (.int .u8 0) 1 Try.underlying24 hi hz0 hz1 hz2 rfl bs.length rfl rfl (by omega) hlen ?_; intro w1 hh1 hf1 hs1; have hb1 := hb0.below hf1)
    | (refine wpL_copy rfl (.tmp 7) (.tmp 8) 24 24 rfl 5 Try.underlying24 size8 _ _ _ _ bs rfl rfl hb1 (Nat.le_refl _) w.heap.size 0 (List.replicate bs.length (.int .u8 0)) 5 hh1.out (fun _ => rfl) (by simp) ?_; intro w2 hh2 hf2 hs2))
  go_ret
  refine ⟨rfl, ?_, ?_⟩
  · have hh := hh2.out
    rwa [splice_all _ _ (by simp [cellsB])] at hh
  · exact hf1.trans hf2 (by simp) (by simp)

/-- A new file. -/
def Filed (w : World) (bs : List UInt8) (e : Ending) (w' : World) : Prop := ∃ p g, e = .returned (.pointer (some ⟨p, 0, none⟩)) ∧ isF w' p g bs bs.length ∧ Fr [] w w' ∧ w.heap.size ≤ p ∧ w.heap.size ≤ g
set_option maxRecDepth 100000 in
theorem inew_any (bs : List UInt8) (v : Value) (w : World) (h : bytesAt w v bs) (hl : bs.length ≤ 140737488355328) :
    Calls Try.prog 28 #[v] w (Filed w bs) := by
  have hlen := h.len
  have HC := Lib.hid (iclone_any bs v w h hl)
  obtain ⟨a, cap, rfl, -, -⟩ := h.form
  go_enter Try.func28, Try.ntmps28
  go_wp2_with (go_at_call 50; refine HC.out.mono ?_; rintro e w1 ⟨rfl, hh1, hf1⟩)
  go_ret
  have hlt := (Array.getElem?_eq_some_iff.1 hh1).1
  refine ⟨w1.heap.size, w.heap.size, rfl, ⟨bs.length, cellsB bs, heap_alloc_new w1 _, ?_, by simp [cellsB], Nat.le_refl _, hlen, by rw [← cellsB_length bs]; exact List.take_length, by omega, Nat.le_refl _⟩, hf1.trans (Fr.alloc _ _) (by simp) (by simp), hf1.size, Nat.le_refl _⟩
  exact (Fr.alloc w1 _).heap hh1 (by simp)

theorem ilen_any (p g s : Nat) (now : List UInt8) (w : World) (h : isF w p g now s) :
    Calls Try.prog 29 #[.pointer (some ⟨p, 0, none⟩)] w fun e w' => e = .returned (.int .i64 (now.length : Nat)) ∧ w = w' := by
  obtain ⟨cap, hle, hmx, hc0, hc1, hf0, hf1, -⟩ := h.open
  go_enter Try.func29, Try.ntmps29
  go_wp2_with fail
  go_ret
  exact ⟨rfl, rfl⟩
theorem isafe_any (p g s : Nat) (now : List UInt8) (w : World) (h : isF w p g now s) :
    Calls Try.prog 70 #[.pointer (some ⟨p, 0, none⟩)] w fun e w' => e = .returned (.int .i64 (s : Int)) ∧ w = w' := by
  obtain ⟨cap, hle, hmx, hc0, hc1, hf0, hf1, -⟩ := h.open
  go_enter Try.func70, Try.ntmps70
  go_wp2_with fail
  go_ret
  exact ⟨rfl, rfl⟩
/-- Bytes that the call has made. -/
def Bytesd (w : World) (bs : List UInt8) (e : Ending) (w' : World) : Prop := ∃ v, e = .returned v ∧ bytesAt w' v bs ∧ (∀ k, v.ownBlock = some k → w.heap.size ≤ k) ∧ Fr [] w w'
theorem ibytes_any (p g s : Nat) (now : List UInt8) (w : World) (h : isF w p g now s) (hl : now.length ≤ 140737488355328) :
    Calls Try.prog 43 #[.pointer (some ⟨p, 0, none⟩)] w (Bytesd w now) := by
  obtain ⟨cap, hle, hmx, hc0, hc1, hf0, hf1, hb⟩ := h.open
  have HC := Lib.hid (iclone_any now _ w hb hl)
  have hlen := hb.len
  clear hb
  go_enter Try.func43, Try.ntmps43
  go_wp2_with (go_at_call 50; refine HC.out.mono ?_; rintro e w1 ⟨rfl, hh1, hf1⟩)
  go_ret
  exact ⟨_, rfl, bytesAt_of_heap hh1 hlen _ rfl, fun k hk => by cases hk; exact Nat.le_refl _, hf1⟩
theorem isector_any (n : Nat) (w : World) (hn : n ≤ 9223372036854775807) :
    Calls Try.prog 61 #[.int .i64 (n : Int)] w fun e w' => e = .returned (.int .i64 ((n / 16 : Nat) : Int)) ∧ w = w' := by
  go_enter Try.func61, Try.ntmps61
  go_wp2_with fail
  go_ret
  exact ⟨rfl, rfl⟩
set_option maxRecDepth 100000 in
theorem isectors_any (p g s : Nat) (now : List UInt8) (w : World) (h : isF w p g now s) (hl : now.length ≤ 140737488355328) :
    Calls Try.prog 59 #[.pointer (some ⟨p, 0, none⟩)] w fun e w' => e = .returned (.int .i64 ((secsC now.length s : Nat) : Int)) ∧ w = w' := by
  have hs := h.safe
  have HL := Lib.hid (ilen_any p g s now w h)
  have HS := Lib.hid (isafe_any p g s now w h)
  clear h
  obtain ⟨n, hn⟩ : ∃ n, n = now.length := ⟨_, rfl⟩
  rw [← hn] at HL hs hl ⊢
  clear hn
  by_cases he : s = n
  · subst he
    have hd : ((s : Int) == (s : Int)) = true := by simp
    have HZ := Lib.hid (secsC_none s)
    go_enter Try.func59, Try.ntmps59
    go_wp2_with (first
      | (go_at_call 70; refine HS.out.mono ?_; rintro e w1 ⟨rfl, rfl⟩)
      | (go_at_call 29; refine HL.out.mono ?_; rintro e w1 ⟨rfl, rfl⟩))
    go_ret
    exact ⟨by rw [HZ.out]; rfl, rfl⟩
  · have hd : ((s : Int) == (n : Int)) = false := by rw [beq_eq_false_iff_ne]; omega
    have HZ := Lib.hid (show secsC n s = (n - 1) / 16 - s / 16 + 1 from if_pos (by omega))
    have hdv : s / 16 ≤ (n - 1) / 16 := Nat.div_le_div_right (by omega)
    obtain ⟨m, rfl⟩ : ∃ m, n = m + 1 := ⟨n - 1, by omega⟩
    rw [show m + 1 - 1 = m from rfl] at HZ hdv
    have he' := Lib.hid he
    clear he
    go_enter Try.func59, Try.ntmps59
    go_wp2_with (first
      | (go_at_call 70; refine HS.out.mono ?_; rintro e w1 ⟨rfl, rfl⟩)
      | (go_at_call 29; refine HL.out.mono ?_; rintro e w1 ⟨rfl, rfl⟩)
      | (go_at_call 61; refine (isector_any m _ (by omega)).mono ?_; rintro e w1 ⟨rfl, rfl⟩)
      | (go_at_call 61; refine (isector_any s _ (by omega)).mono ?_; rintro e w1 ⟨rfl, rfl⟩))
    go_ret
    refine ⟨congrArg (fun z => Ending.returned (Value.int .i64 z)) ?_, rfl⟩
    rw [HZ.out]
    omega
set_option maxRecDepth 100000 in
theorem isync_any (p g s : Nat) (now : List UInt8) (w : World) (h : isF w p g now s) :
    Calls Try.prog 32 #[.pointer (some ⟨p, 0, none⟩)] w fun e w' => e = .returned (.tuple #[]) ∧ isF w' p g now now.length ∧ Fr [p] w w' := by
  obtain ⟨cap, hle, hmx, hc0, hc1, hf0, hf1, -⟩ := h.open
  go_enter Try.func32, Try.ntmps32
  go_wp2_with fail
  go_end0
  obtain ⟨cap', cur, h1, h2, h3, h4, h5, h6, h7, h8⟩ := h
  refine ⟨rfl, ⟨cap', cur, heap_setCell_same h1 _, ?_, h3, h4, h5, h6, h7, Nat.le_refl _⟩, Fr.set0 _ _ _ _⟩
  exact (Fr.set0 w p 1 _).heap h2 (by simpa using h7)
end Go.Proofs.Ytmchnaojlnjmjaa
