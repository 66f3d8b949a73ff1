/- Contracts of package octet's reader. -/
import Derived.Test.YtijdffpekonklaaOctA
import Derived.LoopTactic
import Derived.Laws.ResultCell
namespace Go.Proofs.Ytijdffpekonklaa
open Go.RowKit

/-- A reader: its own block p, the block g of the bytes that are left, these bytes, and whether it is spent. -/
def isR (w : World) (p : Nat) (g : Option Nat) (rest : List UInt8) (sp : Bool) : Prop :=
  ∃ v, w.heap[p]? = some (.cells #[v, .bool sp] 88 (0, 0)) ∧ bytesAt w v rest ∧ (∀ k, v.ownBlock = some k → rest ≠ [] → g = some k) ∧ g ≠ some p ∧ (sp = true → rest = [])
theorem isR.lt {w : World} {p : Nat} {g : Option Nat} {rest : List UInt8} {sp : Bool} (h : isR w p g rest sp) : p < w.heap.size := by
  obtain ⟨v, hp, _⟩ := h
  exact (Array.getElem?_eq_some_iff.1 hp).1
theorem isR.kept {w w' : World} {p : Nat} {g : Option Nat} {rest : List UInt8} {sp : Bool} {l : List Nat} (h : isR w p g rest sp) (hf : Fr l w w') (hp : p ∉ l) (hg : ∀ k, g = some k → k < w.heap.size → k ∉ l) : isR w' p g rest sp := by
  obtain ⟨v, h1, hv, hb, hne, hs⟩ := h
  exact ⟨v, hf.heap h1 hp, hv.kept hf fun k hk hn hlt => hg k (hb k hk hn) hlt, hb, hne, hs⟩

theorem read_any2 (v : Value) (bs : List UInt8) (w : World) (h : bytesAt w v bs) (hl : bs.length ≤ 140737488355328) :
    Calls Try.prog 45 #[v] w fun e w' => ∃ p g, e = .returned (.pointer (some ⟨p, 0, none⟩)) ∧ isR w' p g bs false ∧ Fr [] w w' ∧ w.heap.size ≤ p ∧ (∀ k, g = some k → w.heap.size ≤ k ∧ k < w'.heap.size) := by
  go_enter Try.func45, Try.ntmps45
  go_wp2_with (go_at_call 35; refine (clone_any bs _ _ h hl).mono ?_; rintro e w1 ⟨v', rfl, hown, hfr⟩; obtain ⟨a, cap, rfl, -, -⟩ := (bytesAt_of_owns hown).form)
  go_ret
  have hlt := hown.lt
  refine ⟨_, (Value.slice a bs.length cap).ownBlock, rfl, ⟨.slice a bs.length cap, ?_, (bytesAt_of_owns hown).below (Fr.alloc _ _), fun k hk _ => hk, ?_, by simp⟩, hfr.trans (Fr.alloc _ _) (by simp) (by simp), hfr.size, fun k hk => ⟨(hlt k hk).1, by have := (hlt k hk).2; simp; omega⟩⟩
  · exact heap_alloc_new w1 _
  · intro hk
    have := (hlt _ hk).2
    omega
theorem read_any (v : Value) (bs : List UInt8) (w : World) (h : bytesAt w v bs) (hl : bs.length ≤ 140737488355328) :
    Calls Try.prog 45 #[v] w fun e w' => ∃ p g, e = .returned (.pointer (some ⟨p, 0, none⟩)) ∧ isR w' p g bs false ∧ Fr [] w w' ∧ w.heap.size ≤ p ∧ (∀ k, g = some k → w.heap.size ≤ k) :=
  (read_any2 v bs w h hl).mono fun _ _ ⟨p, g, h1, h2, h3, h4, h5⟩ => ⟨p, g, h1, h2, h3, h4, fun k hk => (h5 k hk).1⟩

theorem spend_any (p : Nat) (g : Option Nat) (rest : List UInt8) (sp : Bool) (w : World) (h : isR w p g rest sp) :
    Calls Try.prog 57 #[.pointer (some ⟨p, 0, none⟩)] w fun e w' => e = .returned (.tuple #[]) ∧ isR w' p g [] true ∧ Fr [p] w w' := by
  obtain ⟨v, hp, hv, hb, hne, hs⟩ := h
  have hc0 := cell_of_heap hp 0
  have hc1 := cell_of_heap hp 1
  have hz0 := free_of_heap hp 0
  have hz1 := free_of_heap hp 1
  simp only [List.getElem?_toArray, List.getElem?_cons_zero, List.getElem?_cons_succ] at hc0 hc1
  go_enter Try.func57, Try.ntmps57
  go_wp2
  go_end0
  refine ⟨rfl, ⟨.slice none 0 0, ?_, bytesAt.nil _, by simp, hne, by simp⟩, (Fr.setCell _ _ _).trans (Fr.setCell _ _ _) (by simp) (by simp)⟩
  rw [heap_setCell_same (heap_setCell_same hp _)]
  rfl

theorem spent_any (p : Nat) (g : Option Nat) (rest : List UInt8) (sp : Bool) (w : World) (h : isR w p g rest sp) :
    Calls Try.prog 47 #[.pointer (some ⟨p, 0, none⟩)] w fun e w' => e = .returned (.bool sp) ∧ w = w' := by
  obtain ⟨v, hp, hv, hb, hne, hs⟩ := h
  have hc1 := cell_of_heap hp 1
  simp only [List.getElem?_toArray, List.getElem?_cons_zero, List.getElem?_cons_succ] at hc1
  go_enter Try.func47, Try.ntmps47
  go_wp2
  go_ret
  exact ⟨rfl, rfl⟩

theorem left_any (p : Nat) (g : Option Nat) (rest : List UInt8) (sp : Bool) (w : World) (h : isR w p g rest sp) :
    Calls Try.prog 56 #[.pointer (some ⟨p, 0, none⟩)] w fun e w' => e = .returned (.int .i64 rest.length) ∧ w = w' := by
  have h' := h
  obtain ⟨v, hp, hv, hb, hne, hs⟩ := h
  have hc0 := cell_of_heap hp 0
  simp only [List.getElem?_toArray, List.getElem?_cons_zero, List.getElem?_cons_succ] at hc0
  obtain ⟨a, cap, rfl, -, -⟩ := hv.form
  cases sp
  · go_enter Try.func56, Try.ntmps56
    go_wp2_with (go_at_call 47; refine (spent_any p g rest _ _ h').mono ?_; rintro e w1 ⟨rfl, rfl⟩)
    go_ret
    exact ⟨rfl, rfl⟩
  · obtain rfl := hs rfl
    go_enter Try.func56, Try.ntmps56
    go_wp2_with (go_at_call 47; refine (spent_any p g [] _ _ h').mono ?_; rintro e w1 ⟨rfl, rfl⟩)
    go_ret
    exact ⟨rfl, rfl⟩

theorem rall_any (p : Nat) (g : Option Nat) (rest : List UInt8) (sp : Bool) (w : World) (h : isR w p g rest sp) :
    Calls Try.prog 52 #[.pointer (some ⟨p, 0, none⟩)] w fun e w' => e = .returned (.bool (!sp && decide (rest.length = 0))) ∧ w = w' := by
  cases sp
  · by_cases h0 : rest.length = 0
    · have hb : ((rest.length : Int) == 0) = true := by rw [beq_iff_eq]; omega
      go_enter Try.func52, Try.ntmps52
      go_wp2_with (first
        | (go_at_call 47; refine (spent_any p g rest _ _ h).mono ?_; rintro e w1 ⟨rfl, rfl⟩)
        | (go_at_call 56; refine (left_any p g rest _ _ h).mono ?_; rintro e w1 ⟨rfl, rfl⟩))
      go_ret
      exact ⟨by simp [h0], rfl⟩
    · have hb : ((rest.length : Int) == 0) = false := by rw [beq_eq_false_iff_ne]; omega
      go_enter Try.func52, Try.ntmps52
      go_wp2_with (first
        | (go_at_call 47; refine (spent_any p g rest _ _ h).mono ?_; rintro e w1 ⟨rfl, rfl⟩)
        | (go_at_call 56; refine (left_any p g rest _ _ h).mono ?_; rintro e w1 ⟨rfl, rfl⟩))
      go_ret
      exact ⟨by simp [h0], rfl⟩
  · go_enter Try.func52, Try.ntmps52
    go_wp2_with (first
      | (go_at_call 47; refine (spent_any p g rest _ _ h).mono ?_; rintro e w1 ⟨rfl, rfl⟩)
      | (go_at_call 56; refine (left_any p g rest _ _ h).mono ?_; rintro e w1 ⟨rfl, rfl⟩))
    go_ret
    exact ⟨rfl, rfl⟩
/-- What 'next' leaves where it has the bytes: they lie where they lay. -/
def NextSome (p : Nat) (g : Option Nat) (rest : List UInt8) (n : Nat) (w : World) (v : Value) (w' : World) : Prop :=
  bytesAt w' v (rest.take n) ∧ (∀ k, v.ownBlock = some k → rest.take n ≠ [] → g = some k) ∧ isR w' p g (rest.drop n) false ∧ Fr [p] w w'
theorem next_some (p : Nat) (g : Option Nat) (rest : List UInt8) (n : Nat) (w : World) (h : isR w p g rest false) (hn : n ≤ rest.length) :
    Calls Try.prog 58 #[.pointer (some ⟨p, 0, none⟩), .int .i64 n] w (Ret (NextSome p g rest n w)) := by
  have h' := h
  obtain ⟨v, hp, hv, hb, hne, hs⟩ := h
  have hc0 := cell_of_heap hp 0
  have hz0 := free_of_heap hp 0
  simp only [List.getElem?_toArray, List.getElem?_cons_zero, List.getElem?_cons_succ] at hc0
  obtain ⟨a, cap, rfl, hl1, hl2⟩ := hv.form
  have hm : cap ≤ 9223372036854775807 := by simpa [maxLen] using hl2
  have h0 : decide ((n : Int) < 0) = false := decide_eq_false (by omega)
  have h1 : decide ((rest.length : Int) < (n : Int)) = false := decide_eq_false (by omega)
  have hmb : n ≤ cap := by omega
  have ht := hv.take hn
  have hkp : ∀ w' v' bs', Fr [p] w w' → bytesAt w v' bs' → (∀ k, v'.ownBlock = some k → bs' ≠ [] → g = some k) → bytesAt w' v' bs' := fun w' v' bs' hf hb' hg => hb'.kept hf fun k hk hn' _ => by
    have := hg k hk hn'
    simp only [List.mem_singleton]
    rintro rfl
    exact hne this
  have hbt : ∀ k c, (Value.slice a n c).ownBlock = some k → rest.take n ≠ [] → g = some k := fun k c hk hq => hb k (by cases a <;> exact hk) (fun e => hq (by simp [e]))
  have HK := Lib.hid hkp
  have HT := Lib.hid hbt
  have HB := Lib.hid hb
  clear hkp hbt hb hl2
  by_cases hcn : cap = n
  · subst hcn
    obtain rfl : cap = rest.length := by omega
    go_enter Try.func58, Try.ntmps58
    go_wp2_with (first
      | (go_at_call 47; refine (spent_any p g rest _ _ h').mono ?_; rintro e w1 ⟨rfl, rfl⟩)
      | (go_at_call 56; refine (left_any p g rest _ _ h').mono ?_; rintro e w1 ⟨rfl, rfl⟩))
    go_ret
    refine Ret.mk ⟨HK.out _ _ _ (Fr.set0 _ _ _ _) ht (fun k => HT.out k _), fun k => HT.out k _, ⟨_, heap_setCell_same hp _, ?_, ?_, hne, by simp⟩, Fr.set0 _ _ _ _⟩
    · rw [List.drop_length]; exact hv.empty
    · simp
  · have hd := hv.drop hn hcn
    go_enter Try.func58, Try.ntmps58
    go_wp2_with (first
      | (go_at_call 47; refine (spent_any p g rest _ _ h').mono ?_; rintro e w1 ⟨rfl, rfl⟩)
      | (go_at_call 56; refine (left_any p g rest _ _ h').mono ?_; rintro e w1 ⟨rfl, rfl⟩))
    go_ret
    have hg2 : ∀ k, (Value.slice (a.map fun x => x.add n) (rest.length - n) (cap - n)).ownBlock = some k → rest.drop n ≠ [] → g = some k := by
      intro k hk hq
      rw [ownBlock_map (l' := rest.length) (c' := cap)] at hk
      exact HB.out k hk (fun e => hq (by simp [e]))
    exact Ret.mk ⟨HK.out _ _ _ (Fr.set0 _ _ _ _) ht (fun k => HT.out k _), fun k => HT.out k _, ⟨_, heap_setCell_same hp _, HK.out _ _ _ (Fr.set0 _ _ _ _) hd hg2, hg2, hne, by simp⟩, Fr.set0 _ _ _ _⟩

theorem next_none (p : Nat) (g : Option Nat) (rest : List UInt8) (sp : Bool) (n : Int) (w : World) (h : isR w p g rest sp) (hn : sp = true ∨ n < 0 ∨ rest.length < n) :
    Calls Try.prog 58 #[.pointer (some ⟨p, 0, none⟩), .int .i64 n] w fun e w' => e = .returned (.slice none 0 0) ∧ isR w' p g [] true ∧ Fr [p] w w' := by
  by_cases h0 : n < 0
  · go_enter Try.func58, Try.ntmps58
    go_wp2_with (first
      | (go_at_call 57; refine (spend_any p g rest sp _ h).mono ?_; rintro e w1 ⟨rfl, hr1, hf1⟩)
      | (go_at_call 47; refine (spent_any p g [] true _ hr1).mono ?_; rintro e w1 ⟨rfl, rfl⟩))
    go_ret
    exact ⟨rfl, hr1, hf1⟩
  · by_cases hl : rest.length < n
    · go_enter Try.func58, Try.ntmps58
      go_wp2_with (first
        | (go_at_call 56; refine (left_any p g rest sp _ h).mono ?_; rintro e w1 ⟨rfl, rfl⟩)
        | (go_at_call 57; refine (spend_any p g rest sp _ h).mono ?_; rintro e w1 ⟨rfl, hr1, hf1⟩)
        | (go_at_call 47; refine (spent_any p g [] true _ hr1).mono ?_; rintro e w1 ⟨rfl, rfl⟩))
      go_ret
      exact ⟨rfl, hr1, hf1⟩
    · have hs : sp = true := by rcases hn with h | h | h <;> first | exact h | (exfalso; omega)
      subst hs
      have h' := h
      obtain ⟨v, hp, hv, hb, hne, hs⟩ := h
      obtain rfl := hs rfl
      clear hs hn
      obtain rfl : n = 0 := by simp at hl; omega
      clear hl h0
      go_enter Try.func58, Try.ntmps58
      go_wp2_with (first
        | (go_at_call 56; refine (left_any p g [] _ _ h').mono ?_; rintro e w1 ⟨rfl, rfl⟩)
        | (go_at_call 47; refine (spent_any p g [] _ _ h').mono ?_; rintro e w1 ⟨rfl, rfl⟩))
      go_ret
      exact ⟨rfl, h', Fr.refl _ _⟩

theorem take_some (p : Nat) (g : Option Nat) (rest : List UInt8) (n : Nat) (w : World) (h : isR w p g rest false) (hn : n ≤ rest.length) (hl : rest.length ≤ 140737488355328) :
    Calls Try.prog 55 #[.pointer (some ⟨p, 0, none⟩), .int .i64 n] w fun e w' => ∃ v, e = .returned v ∧ w'.ownsRow w.heap.size 5 1 v (rest.take n).length (cellsB (rest.take n)) ∧ isR w' p g (rest.drop n) false ∧ Fr [p] w w' := by
  have hlt := h.lt
  have hl' : (rest.take n).length ≤ 140737488355328 := by simp; omega
  go_enter Try.func55, Try.ntmps55
  go_wp2_with (first
    | (go_at_call 58; refine (next_some p g rest n _ h hn).mono ?_; rintro e w1 ⟨v1, rfl, hb1, hg1, hr1, hf1⟩)
    | (go_at_call 35; refine (clone_any _ _ _ hb1 hl').mono ?_; rintro e w2 ⟨v2, rfl, hown, hf2⟩))
  go_ret
  have hsz := hf1.size
  exact ⟨v2, rfl, owns_base hown fun k hk => Nat.le_trans hsz (hown.lt k hk).1, hr1.kept hf2 (by simp) (by simp), hf1.trans hf2 (by simp) (by simp)⟩

theorem take_none (p : Nat) (g : Option Nat) (rest : List UInt8) (sp : Bool) (n : Int) (w : World) (h : isR w p g rest sp) (hn : sp = true ∨ n < 0 ∨ rest.length < n) :
    Calls Try.prog 55 #[.pointer (some ⟨p, 0, none⟩), .int .i64 n] w fun e w' => e = .returned (.slice none 0 0) ∧ isR w' p g [] true ∧ Fr [p] w w' := by
  go_enter Try.func55, Try.ntmps55
  go_wp2_with (first
    | (go_at_call 58; refine (next_none p g rest sp n _ h hn).mono ?_; rintro e w1 ⟨rfl, hr1, hf1⟩)
    | (go_at_call 35; refine (clone_none _ _ (bytesAt.nil _)).mono ?_; rintro e w2 ⟨rfl, rfl⟩))
  go_ret
  exact ⟨rfl, hr1, hf1⟩

/-- The number of bytes, the greatest first. -/
def val (bs : List UInt8) : Nat := bs.foldl (fun a b => a * 256 + b.toNat) 0
theorem val_snoc (bs : List UInt8) (b : UInt8) : val (bs ++ [b]) = val bs * 256 + b.toNat := by simp [val]
theorem val_lt_acc (bs : List UInt8) : ∀ a : Nat, bs.foldl (fun a b => a * 256 + b.toNat) a < (a + 1) * 256 ^ bs.length := by
  induction bs with
  | nil => intro a; simp
  | cons b l ih =>
    intro a
    have h1 := ih (a * 256 + b.toNat)
    have h2 := b.toNat_lt
    rw [List.foldl_cons, List.length_cons, Nat.pow_succ, Nat.mul_comm (256 ^ l.length) 256, ← Nat.mul_assoc]
    exact Nat.lt_of_lt_of_le h1 (Nat.mul_le_mul_right _ (by omega))
theorem val_lt (bs : List UInt8) : val bs < 256 ^ bs.length := by
  have := val_lt_acc bs 0
  simpa [val] using this

theorem rnum_none (p : Nat) (g : Option Nat) (rest : List UInt8) (sp : Bool) (n : Int) (w : World) (h : isR w p g rest sp) (hn : sp = true ∨ n < 1 ∨ 8 < n ∨ rest.length < n) :
    Calls Try.prog 54 #[.pointer (some ⟨p, 0, none⟩), .int .i64 n] w fun e w' => e = .returned (.int .u64 0) ∧ isR w' p g [] true ∧ Fr [p] w w' := by
  by_cases hw : 1 ≤ n ∧ n ≤ 8
  · have hd := decide_eq_true hw
    have hn' : sp = true ∨ n < 0 ∨ rest.length < n := by rcases hn with h | h | h | h <;> first | exact .inl h | exact .inr (.inr h) | omega
    clear hw hn
    go_enter Try.func54, Try.ntmps54
    go_wp2_with (first
      | (go_at_call 53; refine (isWidth_any _ _).mono ?_; rintro e w' ⟨rfl, rfl⟩)
      | (go_at_call 58; refine (next_none p g rest sp n _ h hn').mono ?_; rintro e w1 ⟨rfl, hr1, hf1⟩))
    go_loop [5, 17] (fun v i => v = .int .u64 0 ∧ i = .int .i64 0) (fun _ _ => 0)
    case atStart => exact ⟨rfl, rfl⟩
    case round =>
      obtain ⟨rfl, rfl⟩ := hrel
      go_wp2
      go_ret
      exact ⟨rfl, hr1, hf1⟩
  · have hd := decide_eq_false hw
    clear hw hn
    go_enter Try.func54, Try.ntmps54
    go_wp2_with (first
      | (go_at_call 53; refine (isWidth_any _ _).mono ?_; rintro e w' ⟨rfl, rfl⟩)
      | (go_at_call 57; refine (spend_any p g rest sp _ h).mono ?_; rintro e w1 ⟨rfl, hr1, hf1⟩))
    go_ret
    exact ⟨rfl, hr1, hf1⟩

theorem or_byte (x c : Nat) (hx : x < 72057594037927936) (hc : c < 256) : Value.int .u64 (bits .or .u64 ((x : Int) * 256) (c : Int)) = Value.int .u64 ((x * 256 + c : Nat) : Int) := by
  have e : ((x : Int) * 256) = ((x * 256 : Nat) : Int) := by omega
  rw [e, u64_or_nat _ _ (by omega) (by omega)]
  have h := Nat.two_pow_add_eq_or_of_lt (i := 8) (b := c) (by simpa using hc) x
  rw [show x * 256 = 2 ^ 8 * x from by omega, ← h]
theorem rnum_core (p : Nat) (g : Option Nat) (rest part : List UInt8) (w : World) (h : isR w p g rest false) (hn : part.length ≤ rest.length) (hp : Hid (part = rest.take part.length)) (h1 : 1 ≤ part.length) (h8 : part.length ≤ 8) :
    Calls Try.prog 54 #[.pointer (some ⟨p, 0, none⟩), .int .i64 part.length] w fun e w' => e = .returned (.int .u64 (val part)) ∧ isR w' p g (rest.drop part.length) false ∧ Fr [p] w w' := by
  have hd : decide (1 ≤ (part.length : Int) ∧ (part.length : Int) ≤ 8) = true := decide_eq_true ⟨by omega, by omega⟩
  go_enter Try.func54, Try.ntmps54
  go_wp2_with (first
    | (go_at_call 53; refine (isWidth_any _ _).mono ?_; rintro e w' ⟨rfl, rfl⟩)
    | (go_at_call 58; refine (next_some p g rest part.length _ h hn).mono ?_; rintro e w1 ⟨v1, rfl, hb1, hg1, hr1, hf1⟩; rw [← hp.out] at hb1; clear hg1; have hfrm := hb1.form; obtain ⟨a, cap, rfl, -, -⟩ := hfrm))
  rcases hb1 with ⟨_, _, _, _, rfl⟩ | ⟨b, off, cap', e, -, -, hcell⟩
  · simp at h1
  · cases e
    go_loop [5, 17] (fun v i => ∃ k : Nat, k ≤ part.length ∧ i = .int .i64 k ∧ v = .int .u64 (val (part.take k))) (fun _ i => part.length - (intOf i).toNat)
    case atStart => exact ⟨0, Nat.zero_le _, rfl, rfl⟩
    case round =>
      obtain ⟨k, hk, rfl, rfl⟩ := hrel
      by_cases hkl : k < part.length
      · have hc := hcell k hkl
        have hv1 := val_lt (part.take k)
        rw [List.length_take, Nat.min_eq_left hk] at hv1
        have hv2 : val (part.take k) < 256 ^ 7 := Nat.lt_of_lt_of_le hv1 (Nat.pow_le_pow_right (by decide) (by omega))
        have hv3 : val (part.take (k + 1)) = val (part.take k) * 256 + (part[k]'hkl).toNat := by rw [List.take_succ_eq_append_getElem hkl, val_snoc]
        obtain ⟨x, hx⟩ : ∃ x, x = val (part.take k) := ⟨_, rfl⟩
        rw [← hx] at hv2 hv3 ⊢
        obtain ⟨c, hcc⟩ : ∃ c, c = part[k]'hkl := ⟨_, rfl⟩
        rw [← hcc] at hc hv3
        have hcl := c.toNat_lt
        have H3 := Lib.hid hv3
        clear hx hcc hcell hv1 hv3
        have hx2 : x < 72057594037927936 := hv2
        clear hv2
        go_wp2
        go_round
        case rel => exact ⟨k + 1, by omega, by go_num, by rw [H3.out]; exact or_byte x c.toNat hx2 hcl⟩
        case measure => simp [intOf]; omega
      · obtain rfl : k = part.length := by omega
        rw [List.take_length]
        go_wp2
        go_ret
        exact ⟨rfl, hr1, hf1⟩
theorem rnum_some (p : Nat) (g : Option Nat) (rest : List UInt8) (n : Nat) (w : World) (h : isR w p g rest false) (hn : n ≤ rest.length) (h1 : 1 ≤ n) (h8 : n ≤ 8) :
    Calls Try.prog 54 #[.pointer (some ⟨p, 0, none⟩), .int .i64 n] w fun e w' => e = .returned (.int .u64 (val (rest.take n))) ∧ isR w' p g (rest.drop n) false ∧ Fr [p] w w' := by
  have hl : (rest.take n).length = n := by simp; omega
  have := rnum_core p g rest (rest.take n) w h (by omega) (Lib.hid (by rw [hl])) (by omega) (by omega)
  rwa [hl] at this
end Go.Proofs.Ytijdffpekonklaa
