/- Contracts of the small functions of package octet. -/
import Derived.Test.YtijdffpekonklaaKit
import Derived.Test.YtijdffpekonklaaProg
import Derived.Test.YtijdffpekonklaaBase
import Derived.WalkLawsBesides
import Derived.Deep.QuietTactic
import Derived.BigQuiet
namespace Go.Proofs.Ytijdffpekonklaa
open Go.RowKit

theorem isWidth_any (n : Int) (w : World) :
    Calls Try.prog 53 #[.int .i64 n] w fun e w' => e = .returned (.bool (decide (1 ≤ n ∧ n ≤ 8))) ∧ w = w' := by
  by_cases h1 : 1 ≤ n
  · by_cases h8 : n ≤ 8
    · go_enter Try.func53, Try.ntmps53
      go_wp2
      go_ret
      simp [h1, h8]
    · go_enter Try.func53, Try.ntmps53
      go_wp2
      go_ret
      simp [h1]; omega
  · go_enter Try.func53, Try.ntmps53
    go_wp2
    go_ret
    simp; omega

theorem shr_zero (n v : Int) (h1 : 1 ≤ n) (hv0 : 0 ≤ v) : (v / 2 ^ (8 * n).toNat == 0) = decide (v < 256 ^ n.toNat) := by
  have e : (2 : Int) ^ (8 * n).toNat = 256 ^ n.toNat := by
    rw [show (8 * n).toNat = 8 * n.toNat from by omega, Int.pow_mul]; rfl
  rw [e]
  have hp : (0 : Int) < 256 ^ n.toNat := Int.pow_pos (by decide)
  rw [Bool.eq_iff_iff]
  simp only [beq_iff_eq, decide_eq_true_eq]
  constructor
  · intro h
    have := Int.lt_mul_ediv_self_add hp (x := v)
    rw [h] at this; omega
  · intro h; exact Int.ediv_eq_zero_of_lt hv0 h

theorem fits_in (n : Int) (v : Int) (w : World) (h1 : 1 ≤ n) (h8 : n ≤ 8) (hv0 : 0 ≤ v) (hv : v ≤ 18446744073709551615) :
    Calls Try.prog 49 #[.int .i64 n, .int .u64 v] w fun e w' => e = .returned (.bool (decide (v < 256 ^ n.toNat))) ∧ w = w' := by
  have hb : decide (1 ≤ n ∧ n ≤ 8) = true := by simp [h1, h8]
  have hz := Lib.hid (shr_zero n v h1 hv0)
  go_enter Try.func49, Try.ntmps49
  go_wp2_with (go_at_call 53; refine (isWidth_any _ _).mono ?_; rintro e w' ⟨rfl, rfl⟩)
  go_ret
  exact ⟨by simp only [hz.out]; rfl, rfl⟩
theorem fits_out (n : Int) (v : Int) (w : World) (h1 : ¬ (1 ≤ n ∧ n ≤ 8)) :
    Calls Try.prog 49 #[.int .i64 n, .int .u64 v] w fun e w' => e = .returned (.bool false) ∧ w = w' := by
  have hb : decide (1 ≤ n ∧ n ≤ 8) = false := by simpa using h1
  clear h1
  go_enter Try.func49, Try.ntmps49
  go_wp2_with (go_at_call 53; refine (isWidth_any _ _).mono ?_; rintro e w' ⟨rfl, rfl⟩)
  go_ret
  exact ⟨rfl, rfl⟩

theorem infoB1 : (Try.prog.info? 5).map (·.size) = some 1 := by kernel_rfl

theorem clone_none (v : Value) (w : World) (h : bytesAt w v []) :
    Calls Try.prog 35 #[v] w fun e w' => e = .returned (.slice none 0 0) ∧ w = w' := by
  obtain ⟨a, cap, rfl, -, -⟩ := h.form
  clear h
  simp only [List.length_nil]
  go_enter Try.func35, Try.ntmps35
  go_wp2
  go_ret
  exact ⟨rfl, rfl⟩

theorem clone_some (bs : List UInt8) (v : Value) (w : World) (h : bytesAt w v bs) (hpos : 0 < bs.length) (hl : bs.length ≤ 140737488355328) :
    Calls Try.prog 35 #[v] w fun e w' => ∃ v', e = .returned v' ∧ w'.ownsRow w.heap.size 5 1 v' bs.length (cellsB bs) ∧ Fr [] w w' := by
  obtain ⟨i, hi, hz0, hz1, hz2⟩ := info_parts infoB
  have hlen := h.len
  have hb0 := h
  rcases h with ⟨_, _, _, _, rfl⟩ | ⟨b, off, cap, rfl, h1, h2, h3⟩
  · simp at hpos
  have h0 : ((bs.length : Int) == 0) = false := by rw [beq_eq_false_iff_ne]; omega
  have hb : b < w.heap.size := World.block_lt_of_cell? w _ (h3 0 hpos)
  go_enter Try.func35, Try.ntmps35
  go_wp2_with (first
    | (at_make; refine wpL_make rfl _ _ 22 rfl 5 i (.int .u8 0) 1 Try.underlying22 hi hz0 hz1 hz2 rfl bs.length rfl rfl (by omega) hlen ?_; intro w1 hh1 hf1 hs1; have hb1 := hb0.below hf1)
    | (refine wpL_copy rfl (.tmp 10) (.tmp 11) 22 22 rfl 5 Try.underlying22 infoB1 _ _ _ _ bs rfl rfl hb1 (Nat.le_refl _) w.heap.size 0 (List.replicate bs.length (.int .u8 0)) 5 hh1.out (fun _ => rfl) (by simp) ?_; intro w2 hh2 hf2 hs2))
  refine bodyPost_ret (v := .slice (some ⟨w.heap.size, 0, none⟩) bs.length bs.length) (by simp [results, Try.results35, go_sem]) rfl ⟨_, rfl, ?_, ?_⟩
  · refine owns_of_heap hh2.out (Nat.le_refl _) ?_ (Nat.le_refl _) hlen ?_
    · rw [splice_all _ _ (by simp [cellsB])]; simp [cellsB]
    · rw [splice_all _ _ (by simp [cellsB])]; exact List.take_of_length_le (by simp [cellsB])
  · exact hf1.trans hf2 (by simp) (by simp)

/-- The copy of a row of bytes. -/
theorem clone_any (bs : List UInt8) (v : Value) (w : World) (h : bytesAt w v bs) (hl : bs.length ≤ 140737488355328) :
    Calls Try.prog 35 #[v] w fun e w' => ∃ v', e = .returned v' ∧ w'.ownsRow w.heap.size 5 1 v' bs.length (cellsB bs) ∧ Fr [] w w' := by
  by_cases h0 : bs.length = 0
  · obtain rfl : bs = [] := List.eq_nil_of_length_eq_zero h0
    refine (clone_none v w h).mono ?_
    rintro e w' ⟨rfl, rfl⟩
    exact ⟨_, rfl, World.ownsRow_nil _ _ _ _, Fr.refl _ _⟩
  · exact clone_some bs v w h (by omega) hl
/-- A writer: its own block p, the block g (if any) of its bytes, and the bytes. -/
def isW (w : World) (p : Nat) (g : Option Nat) (bs : List UInt8) : Prop :=
  ∃ v, w.heap[p]? = some (.cells #[v] 65 (0, 0)) ∧ w.ownsRow 0 5 1 v bs.length (cellsB bs) ∧ v.ownBlock = g

theorem isW.ne {w : World} {p : Nat} {g : Option Nat} {bs : List UInt8} (h : isW w p g bs) : g ≠ some p := by
  obtain ⟨v, hp, hv, rfl⟩ := h
  rcases hv.2 with ⟨rfl, _⟩ | ⟨b, cap, cur, rfl, _, hg, _⟩
  · simp [Value.ownBlock]
  · intro e
    simp [Value.ownBlock] at e
    subst e
    rw [hp] at hg
    simp at hg
theorem isW.lt {w : World} {p : Nat} {g : Option Nat} {bs : List UInt8} (h : isW w p g bs) : p < w.heap.size ∧ ∀ k, g = some k → k < w.heap.size := by
  obtain ⟨v, hp, hv, rfl⟩ := h
  exact ⟨(Array.getElem?_eq_some_iff.1 hp).1, fun k hk => (hv.lt k hk).2⟩
theorem isW.kept {w w' : World} {p : Nat} {g : Option Nat} {bs : List UInt8} {l : List Nat} (h : isW w p g bs) (hf : Fr l w w') (hp : p ∉ l) (hg : ∀ k, g = some k → k ∉ l) : isW w' p g bs := by
  obtain ⟨v, h1, hv, rfl⟩ := h
  exact ⟨v, hf.heap h1 hp, owns_kept hv hf hg, rfl⟩

theorem write_any (w : World) :
    Calls Try.prog 19 #[] w fun e w' => ∃ p, e = .returned (.pointer (some ⟨p, 0, none⟩)) ∧ isW w' p none [] ∧ Fr [] w w' ∧ w.heap.size ≤ p := by
  go_enter Try.func19, Try.ntmps19
  go_wp2
  go_ret
  exact ⟨_, rfl, ⟨_, heap_alloc_new w _, World.ownsRow_nil _ _ _ _, rfl⟩, Fr.alloc _ _, Nat.le_refl _⟩

theorem grow_room (base : Option Addr) (len cap n : Nat) (w : World) (h1 : len + n ≤ cap) (h2 : cap ≤ 9223372036854775807) :
    Calls Try.prog 43 #[.slice base len cap, .int .i64 n] w fun e w' => e = .returned (.slice base len cap) ∧ w = w' := by
  have h0 : ¬ ((n : Int) < 0) := by omega
  have h3 : ¬ (0 < (n : Int) - ((cap : Int) - (len : Int))) := by omega
  go_enter Try.func43, Try.ntmps43
  go_wp2
  go_ret
  exact ⟨rfl, rfl⟩
def GrowNew (w : World) (len n : Nat) (olds : List Value) (v : Value) (w' : World) : Prop := ∃ ncap cur, v = .slice (some ⟨w.heap.size, 0, none⟩) len ncap ∧ len + n ≤ ncap ∧ ncap ≤ maxLen ∧
      w'.heap[w.heap.size]? = some (.cells (olds ++ cur).toArray 5 (0, 0)) ∧ (olds ++ cur).length = ncap ∧ Fr [] w w'
theorem grow_new (base : Option Addr) (len cap n : Nat) (olds : List Value) (w : World) (h1 : cap < len + n) (h2 : len ≤ cap) (h3 : len + n ≤ 140737488355328)
    (hold : base = none ∧ olds = [] ∨ ∃ g, base = some ⟨g, 0, none⟩ ∧ w.heap[g]? = some (.cells olds.toArray 5 (0, 0))) (hlen : olds.length = cap) :
    Calls Try.prog 43 #[.slice base len cap, .int .i64 n] w (Ret (GrowNew w len n olds)) := by
  obtain ⟨i, hi, hz0, hz1, hz2⟩ := info_parts infoB
  obtain ⟨k, hk⟩ : ∃ k : Nat, k = len + n - cap := ⟨_, rfl⟩
  have h0 : ¬ ((n : Int) < 0) := by omega
  have hk0 : (n : Int) - ((cap : Int) - (len : Int)) = (k : Int) := by omega
  have hk1 : 0 < k := by omega
  have hk2 : cap + k = len + n := by omega
  have hm : cap + k ≤ maxLen := by simp [maxLen]; omega
  have HK := Lib.hid hk0
  clear hk0 hk
  have HK2 := Lib.hid hk2
  clear hk2
  go_enter Try.func43, Try.ntmps43
  go_wp2_with (at_builtin; refine wpL_appendZeros rfl (.tmp 20) (.tmp 21) 22 3 rfl 5 i (.int .u8 0) .i64 1 Try.underlying22 Try.underlying3 hi hz0 hz1 hz2 rfl base cap olds hold hlen k rfl (congrArg (Value.int .i64) HK.out) hk1 (by have := HK2.out; omega) hm ?_; intro w1 ncap cur hn1 hn2 hh1 hl1 hf1 hs1; have hle : len ≤ ncap := (by omega); have hmx : ncap ≤ 9223372036854775807 := (by simpa [maxLen] using hn2))
  have := HK2.out
  go_ret
  exact Ret.mk ⟨ncap, cur, rfl, by omega, hn2, hh1.out, hl1.out, hf1⟩

/-- 'slices.Grow' on an owned row of bytes. -/
theorem grow_any (v : Value) (bs : List UInt8) (n : Nat) (w : World) (hv : w.ownsRow 0 5 1 v bs.length (cellsB bs)) (hb : bs.length + n ≤ 140737488355328) :
    Calls Try.prog 43 #[v, .int .i64 n] w fun e w' => ∃ v', e = .returned v' ∧ w'.ownsRow 0 5 1 v' bs.length (cellsB bs) ∧ Fr [] w w' ∧ (n = 0 → v' = v) ∧
      (0 < n → ∃ b cap, v' = .slice (some ⟨b, 0, none⟩) bs.length cap ∧ bs.length + n ≤ cap) ∧ (v' = v ∨ ∃ k, v'.ownBlock = some k ∧ w.heap.size ≤ k) := by
  rcases hv.2 with ⟨rfl, h0⟩ | ⟨b, cap, cur, rfl, hb0, hg, hn, hm, hcs, ht⟩
  · obtain rfl : bs = [] := List.eq_nil_of_length_eq_zero h0
    by_cases hn : n = 0
    · subst hn
      refine (grow_room none 0 0 0 w (by simp) (by simp)).mono ?_
      rintro e w' ⟨rfl, rfl⟩
      exact ⟨_, rfl, hv, Fr.refl _ _, fun _ => rfl, by simp, .inl rfl⟩
    · refine (grow_new none 0 0 n [] w (by omega) (by omega) (by simpa using hb) (.inl ⟨rfl, rfl⟩) rfl).mono ?_
      rintro e w' ⟨_, rfl, ncap, cur, rfl, h1, h2, h3, h4, h5⟩
      exact ⟨_, rfl, owns_of_heap h3 (Nat.zero_le _) h4 (by simp) h2 (by simp [cellsB]), h5, fun h => absurd h hn, fun _ => ⟨_, _, rfl, by simpa using h1⟩, .inr ⟨_, rfl, Nat.le_refl _⟩⟩
  · by_cases hr : bs.length + n ≤ cap
    · refine (grow_room _ bs.length cap n w hr (by simpa [maxLen] using hm)).mono ?_
      rintro e w' ⟨rfl, rfl⟩
      exact ⟨_, rfl, hv, Fr.refl _ _, fun _ => rfl, fun _ => ⟨_, _, rfl, hr⟩, .inl rfl⟩
    · refine (grow_new _ bs.length cap n cur.toList w (by omega) hn hb (.inr ⟨b, rfl, hg⟩) (by simpa using hcs)).mono ?_
      rintro e w' ⟨_, rfl, ncap, cur', rfl, h1, h2, h3, h4, h5⟩
      refine ⟨_, rfl, owns_of_heap h3 (Nat.zero_le _) h4 (by omega) h2 ?_, h5, by omega, fun _ => ⟨_, _, rfl, h1⟩, .inr ⟨_, rfl, Nat.le_refl _⟩⟩
      rw [List.take_append_of_le_length (by simp; omega)]
      simpa using ht

/-- 'extend' by nothing: the writer is as it was. -/
def ExtZero (w : World) (p : Nat) (g : Option Nat) (bs : List UInt8) (v : Value) (w' : World) : Prop := ∃ dp cap, v = .slice dp 0 cap ∧ isW w' p g bs ∧ Fr [p] w w'
theorem extend_zero (p : Nat) (g : Option Nat) (bs : List UInt8) (w : World) (h : isW w p g bs) (hb : bs.length ≤ 140737488355328) :
    Calls Try.prog 30 #[.pointer (some ⟨p, 0, none⟩), .int .i64 0] w (Ret (ExtZero w p g bs)) := by
  have hne := h.ne
  obtain ⟨v, hp, hv, rfl⟩ := h
  have hc := cell_of_heap hp 0
  simp only [List.getElem?_toArray, List.getElem?_cons_zero] at hc
  obtain ⟨a, cap, rfl, hl1, hl2⟩ := (bytesAt_of_owns hv).form
  have hm : cap ≤ 9223372036854775807 := by simpa [maxLen] using hl2
  clear hl2
  by_cases hcb : cap = bs.length
  · subst hcb
    go_enter Try.func30, Try.ntmps30
    go_wp2_with (go_at_call 43; refine (grow_any _ bs 0 _ hv (by omega)).mono ?_; rintro e w1 ⟨v', rfl, hv1, hf1, hz, -, -⟩; obtain rfl := hz rfl; clear hz; have hc1 := hf1.cell hc (by simp); have hp1 := hf1.heap hp (by simp); have hfz1 := free_of_heap hp1 0)
    go_ret
    refine Ret.mk ⟨_, _, rfl, ⟨_, heap_setCell_same hp1 _, owns_kept hv1 (Fr.setCell _ _ _) ?_, rfl⟩, hf1.trans (Fr.setCell _ _ _) (by simp) (by simp)⟩
    intro k hk
    simp only [List.mem_singleton]
    rintro rfl
    exact hne hk
  · go_enter Try.func30, Try.ntmps30
    go_wp2_with (go_at_call 43; refine (grow_any _ bs 0 _ hv (by omega)).mono ?_; rintro e w1 ⟨v', rfl, hv1, hf1, hz, -, -⟩; obtain rfl := hz rfl; clear hz; have hc1 := hf1.cell hc (by simp); have hp1 := hf1.heap hp (by simp); have hfz1 := free_of_heap hp1 0)
    go_ret
    refine Ret.mk ⟨_, _, rfl, ⟨_, heap_setCell_same hp1 _, owns_kept hv1 (Fr.setCell _ _ _) ?_, rfl⟩, hf1.trans (Fr.setCell _ _ _) (by simp) (by simp)⟩
    intro k hk
    simp only [List.mem_singleton]
    rintro rfl
    exact hne hk

/-- 'extend' by n bytes: the room lies behind the bytes, in a row that is known. -/
def ExtSome (w : World) (p : Nat) (g : Option Nat) (bs : List UInt8) (n : Nat) (v : Value) (w' : World) : Prop :=
  ∃ b cap cur, v = .slice (some ⟨b, bs.length, none⟩) n (cap - bs.length) ∧ bs.length + n ≤ cap ∧ cap ≤ maxLen ∧ w'.heap[p]? = some (.cells #[.slice (some ⟨b, 0, none⟩) (bs.length + n) cap] 65 (0, 0)) ∧
    w'.heap[b]? = some (.cells (cur : List Value).toArray 5 (0, 0)) ∧ cur.length = cap ∧ cur.take bs.length = cellsB bs ∧ Fr [p] w w' ∧ (g = some b ∨ w.heap.size ≤ b)
theorem extend_some (p : Nat) (g : Option Nat) (bs : List UInt8) (n : Nat) (w : World) (h : isW w p g bs) (h0 : 0 < n) (hb : bs.length + n ≤ 140737488355328) :
    Calls Try.prog 30 #[.pointer (some ⟨p, 0, none⟩), .int .i64 n] w (Ret (ExtSome w p g bs n)) := by
  have hne := h.ne
  have hlt := h.lt
  obtain ⟨v, hp, hv, rfl⟩ := h
  have hc := cell_of_heap hp 0
  simp only [List.getElem?_toArray, List.getElem?_cons_zero] at hc
  obtain ⟨a, cap0, rfl, hl1, -⟩ := (bytesAt_of_owns hv).form
  go_enter Try.func30, Try.ntmps30
  go_wp2_with (go_at_call 43; refine (grow_any _ bs n _ hv hb).mono ?_; rintro e w1 ⟨v', rfl, hv1, hf1, -, hcap, hbl⟩; obtain ⟨b, cap, rfl, hle⟩ := hcap h0; have hc1 := hf1.cell hc (by simp); have hp1 := hf1.heap hp (by simp); have hfz1 := free_of_heap hp1 0; have hm : cap ≤ 9223372036854775807 := (by have := (bytesAt_of_owns hv1).form; obtain ⟨_, _, e, _, hh⟩ := this; cases e; simpa [maxLen] using hh); have hlc : bs.length ≤ bs.length + n := (by omega); have hnc : ¬ cap = bs.length := (by omega))
  go_ret
  rcases hv1.2 with ⟨e, _⟩ | ⟨g, cap', cur, e, _, hg, _, hmx, hcs, ht⟩
  · cases e
  · cases e
    have hbp : b ≠ p := by
      rintro rfl
      rw [hp1] at hg
      simp at hg
    refine Ret.mk ⟨b, cap, cur.toList, rfl, hle, hmx, heap_setCell_same hp1 _, ?_, by simpa using hcs, by simpa using ht, hf1.trans (Fr.setCell _ _ _) (by simp) (by simp), ?_⟩
    · rw [Below.heap_setCell _ _ _ _ hbp]; exact hg
    · rcases hbl with e | ⟨k, hk, hle⟩
      · left
        cases e; rfl
      · right
        cases hk; exact hle

/-- What a writer has become behind n more bytes: the same writer, its bytes in the block g or in a new one. -/
def Grew (w : World) (p : Nat) (g : Option Nat) (bs : List UInt8) (w' : World) : Prop := ∃ g', isW w' p g' bs ∧ Fr (p :: g.toList) w w' ∧ (g' = g ∨ ∃ k, g' = some k ∧ w.heap.size ≤ k)
theorem Grew.same {w : World} {p : Nat} {g : Option Nat} {bs : List UInt8} (h : isW w p g bs) : Grew w p g bs w := ⟨g, h, Fr.refl _ _, .inl rfl⟩
theorem Grew.step {w w1 w2 : World} {p : Nat} {g g1 : Option Nat} {cs : List UInt8} (hf : Fr (p :: g.toList) w w1) (hg : g1 = g ∨ ∃ k, g1 = some k ∧ w.heap.size ≤ k) (h : Grew w1 p g1 cs w2) : Grew w p g cs w2 := by
  obtain ⟨g2, hw2, hf2, hg2⟩ := h
  refine ⟨g2, hw2, hf.trans hf2 (fun i hi _ => hi) ?_, ?_⟩
  · intro i hi hlt
    rcases List.mem_cons.1 hi with rfl | hi
    · simp
    · rcases hg with rfl | ⟨k, rfl, hk⟩
      · exact List.mem_cons_of_mem _ hi
      · simp at hi; omega
  · rcases hg2 with rfl | ⟨k, rfl, hk⟩
    · exact hg
    · exact .inr ⟨k, rfl, Nat.le_trans hf.size hk⟩

end Go.Proofs.Ytijdffpekonklaa
