/- Contracts of package octet's writer: Num, Bytes, Len. -/
import Derived.Test.YtijdffpekonklaaOctA
import Derived.LoopTactic
namespace Go.Proofs.Ytijdffpekonklaa
open Go.RowKit

/-- The n-byte encoding of v, the greatest byte first. -/
def be (n v : Nat) : List UInt8 := (List.range n).map fun i => UInt8.ofNat (v / 256 ^ (n - 1 - i) % 256)
theorem be_length (n v : Nat) : (be n v).length = n := by simp [be]

/-- The row in block b in the midst of Num: all but the last k of the n bytes of the place are still to come. -/
def Filled (bs : List UInt8) (n v cap : Nat) (k : Nat) (cur : List Value) : Prop :=
  cur.length = cap ∧ cur.take bs.length = cellsB bs ∧ ∀ j, n - k ≤ j → j < n → cur[bs.length + j]? = some (.int .u8 ((v / 256 ^ (n - 1 - j) % 256 : Nat) : Int))
theorem Filled.step {bs : List UInt8} {n v cap k : Nat} {cur : List Value} (h : Filled bs n v cap k cur) (hk : k < n) (hc : bs.length + n ≤ cap) :
    Filled bs n v cap (k + 1) (cur.set (bs.length + (n - 1 - k)) (.int .u8 ((v / 256 ^ k % 256 : Nat) : Int))) := by
  obtain ⟨h1, h2, h3⟩ := h
  refine ⟨by simpa using h1, ?_, fun j hj hjn => ?_⟩
  · rw [List.take_set_of_le (by omega), h2]
  · by_cases hjk : j = n - 1 - k
    · subst hjk
      rw [List.getElem?_set_self (by omega), show n - 1 - (n - 1 - k) = k from by omega]
    · rw [List.getElem?_set_ne (by omega)]
      exact h3 j (by omega) hjn
theorem Filled.all {bs : List UInt8} {n v cap : Nat} {cur : List Value} (h : Filled bs n v cap n cur) (hc : bs.length + n ≤ cap) : cur.take (bs.length + n) = cellsB (bs ++ be n v) := by
  obtain ⟨h1, h2, h3⟩ := h
  rw [cellsB_append, ← h2]
  apply List.ext_getElem?
  intro i
  rcases Nat.lt_or_ge i bs.length with q | q
  · rw [List.getElem?_append_left (by simp; omega), List.getElem?_take, List.getElem?_take, if_pos (by omega), if_pos q]
  · have hl : (cur.take bs.length).length = bs.length := by simp; omega
    rw [List.getElem?_append_right (by omega), hl, List.getElem?_take]
    split
    · rw [show i = bs.length + (i - bs.length) from by omega, h3 (i - bs.length) (by omega) (by omega)]
      have : i - bs.length < n := by omega
      simp [cellsB, be, this]
    · rw [List.getElem?_eq_none]
      simp [cellsB, be]; omega

theorem num_no (p n v : Int) (w : World) (a : Option Addr) (h : a = none ∨ ¬ (1 ≤ n ∧ n ≤ 8)) (hp : p = 0) :
    Calls Try.prog 42 #[.pointer a, .int .i64 n, .int .u64 v] w fun e w' => e = .returned (.bool false) ∧ w = w' := by
  rcases h with rfl | h
  · go_enter Try.func42, Try.ntmps42
    go_wp2
    go_ret
    exact ⟨rfl, rfl⟩
  · cases a
    all_goals
      go_enter Try.func42, Try.ntmps42
      go_wp2_with (go_at_call 49; refine (fits_out _ _ _ h).mono ?_; rintro e w' ⟨rfl, rfl⟩)
      go_ret
      exact ⟨rfl, rfl⟩
theorem num_big (n v : Int) (w : World) (a : Option Addr) (h1 : 1 ≤ n) (h8 : n ≤ 8) (hv0 : 0 ≤ v) (hv : v ≤ 18446744073709551615) (hb : decide (v < 256 ^ n.toNat) = false) :
    Calls Try.prog 42 #[.pointer a, .int .i64 n, .int .u64 v] w fun e w' => e = .returned (.bool false) ∧ w = w' := by
  cases a
  all_goals
    go_enter Try.func42, Try.ntmps42
    go_wp2_with (go_at_call 49; refine (fits_in _ _ _ h1 h8 hv0 hv).mono ?_; rintro e w' ⟨rfl, rfl⟩)
    go_ret
    exact ⟨rfl, rfl⟩

def NumRel (bs : List UInt8) (n v cap b : Nat) (w1 : World) (sv si : Value) (wr : World) : Prop :=
  ∃ m cur, m ≤ n ∧ si = .int .i64 ((m : Int) - 1) ∧ sv = .int .u64 ((v / 256 ^ (n - m) : Nat) : Int) ∧ wr.heap[b]? = some (.cells (cur : List Value).toArray 5 (0, 0)) ∧ Filled bs n v cap (n - m) cur ∧ Fr [b] w1 wr
theorem cast_lt_pow (v k : Nat) : ((v : Int) < 256 ^ k) ↔ v < 256 ^ k := by
  rw [← Int.ofNat_lt, Int.natCast_pow]; rfl
theorem num_fits (p : Nat) (g : Option Nat) (bs : List UInt8) (n v : Nat) (w : World) (h : isW w p g bs) (h1 : 1 ≤ n) (h8 : n ≤ 8) (hv : v ≤ 18446744073709551615) (hb : decide ((v : Int) < 256 ^ n) = true) (hl : bs.length + n ≤ 140737488355328) :
    Calls Try.prog 42 #[.pointer (some ⟨p, 0, none⟩), .int .i64 n, .int .u64 v] w (fun e w' => e = .returned (.bool true) ∧ Grew w p g (bs ++ be n v) w') := by
  have hne := h.ne
  have hlt := h.lt
  go_enter Try.func42, Try.ntmps42
  go_wp2_with (first
    | (go_at_call 49; refine (fits_in _ _ _ (by omega) (by omega) (by omega) (by omega)).mono ?_; rintro e w' ⟨rfl, rfl⟩; rw [Int.toNat_natCast])
    | (go_at_call 30; refine (extend_some p g bs n _ h (by omega) hl).mono ?_; rintro e w1 ⟨_, rfl, b, cap, cur, rfl, hc1, hc2, hp1, hb1, hcl, hct, hf1, hgb⟩))
  go_loopw [2, 8] (NumRel bs n v cap b w1) (fun _ i _ => (intOf i + 1).toNat)
  case atStart => exact ⟨n, cur, Nat.le_refl _, rfl, by simp, hb1, ⟨hcl, hct, fun j h1 h2 => by omega⟩, Fr.refl _ _⟩
  case round =>
    obtain ⟨m, cu, hm, rfl, rfl, hb2, hfl, hf2⟩ := hrel
    obtain ⟨x, hx⟩ : ∃ x, x = v / 256 ^ (n - m) := ⟨_, rfl⟩
    have hxl : x ≤ 18446744073709551615 := by rw [hx]; exact Nat.le_trans (Nat.div_le_self _ _) hv
    rw [← hx]
    have HX := Lib.hid hx
    clear hx
    by_cases hm0 : m = 0
    · subst hm0
      go_wp2
      go_ret
      have hbp : b ≠ p := by
        rintro rfl
        rw [hp1] at hb1
        simp at hb1
      rw [Nat.sub_zero] at hfl
      have hall := hfl.all hc1
      refine ⟨rfl, some b, ⟨.slice (some ⟨b, 0, none⟩) (bs.length + n) cap, hf2.heap hp1 (by simpa using Ne.symm hbp), ?_, rfl⟩, ?_, ?_⟩
      · rw [show (bs ++ be n v).length = bs.length + n from by simp [be_length]]
        exact owns_of_heap hb2 (Nat.zero_le _) hfl.1 hc1 hc2 hall
      · refine hf1.trans hf2 (by simp) (fun i hi hlt => ?_)
        rcases hgb with rfl | hgb
        · simp at hi; simp [hi]
        · simp at hi; omega
      · rcases hgb with rfl | hgb
        · exact .inl rfl
        · exact .inr ⟨b, rfl, hgb⟩
    · obtain ⟨j, rfl⟩ : ∃ j, m = j + 1 := ⟨m - 1, by omega⟩
      rw [show ((j + 1 : Nat) : Int) - 1 = j from by omega]
      have hjn : j < n := by omega
      have hcell : ∃ u, wr.cell? ⟨b, bs.length + j, none⟩ = some u := by
        rw [cell_of_heap hb2]
        have := hfl.1
        exact ⟨cu[bs.length + j]'(by omega), by simp⟩
      obtain ⟨u, hu⟩ := hcell
      have hfz := free_of_heap hb2 (bs.length + j)
      clear hcl hct hb1
      go_wp2
      refine ⟨⟨j, cu.set (bs.length + j) (.int .u8 ((x : Int) % 256)), by omega, rfl, ?_, by rw [heap_setCell_same hb2]; simp, ?_, hf2.trans (Fr.setCell _ _ _) (by simp) (by simp)⟩, by simp [intOf]⟩
      · rw [show n - j = n - (j + 1) + 1 from by omega, Nat.pow_succ, ← Nat.div_div_eq_div_mul, ← HX.out]
        rfl
      · have := hfl.step (by omega) hc1
        rw [← HX.out, show n - 1 - (n - (j + 1)) = j from by omega, show n - (j + 1) + 1 = n - j from by omega] at this
        simpa using this

/-- Num, whatever its arguments. -/
theorem num_any (p : Nat) (g : Option Nat) (bs : List UInt8) (n : Int) (v : Nat) (w : World) (h : isW w p g bs) (hv : v ≤ 18446744073709551615) (hl : bs.length + 8 ≤ 140737488355328) :
    Calls Try.prog 42 #[.pointer (some ⟨p, 0, none⟩), .int .i64 n, .int .u64 v] w (fun e w' => e = .returned (.bool (decide (1 ≤ n ∧ n ≤ 8 ∧ v < 256 ^ n.toNat))) ∧
      Grew w p g (if 1 ≤ n ∧ n ≤ 8 ∧ v < 256 ^ n.toNat then bs ++ be n.toNat v else bs) w') := by
  by_cases hn : 1 ≤ n ∧ n ≤ 8
  · by_cases hf : v < 256 ^ n.toNat
    · obtain ⟨k, rfl⟩ := Int.eq_ofNat_of_zero_le (show 0 ≤ n by omega)
      rw [Int.toNat_natCast] at *
      refine (num_fits p g bs k v w h (by omega) (by omega) hv (decide_eq_true ((cast_lt_pow _ _).2 hf)) (by omega)).mono ?_
      rintro e w' ⟨rfl, hg⟩
      have hc : 1 ≤ (k : Int) ∧ (k : Int) ≤ 8 ∧ v < 256 ^ k := ⟨hn.1, hn.2, hf⟩
      rw [if_pos hc, decide_eq_true hc]
      exact ⟨rfl, hg⟩
    · refine (num_big n v w _ hn.1 hn.2 (by omega) (by omega) ?_).mono ?_
      · rw [decide_eq_false_iff_not]
        intro hh
        exact hf ((cast_lt_pow _ _).1 hh)
      · rintro e w' ⟨rfl, rfl⟩
        have hc : ¬ (1 ≤ n ∧ n ≤ 8 ∧ v < 256 ^ n.toNat) := fun q => hf q.2.2
        rw [if_neg hc, decide_eq_false hc]
        exact ⟨rfl, Grew.same h⟩
  · refine (num_no 0 n v w _ (.inr hn) rfl).mono ?_
    rintro e w' ⟨rfl, rfl⟩
    have hc : ¬ (1 ≤ n ∧ n ≤ 8 ∧ v < 256 ^ n.toNat) := fun q => hn ⟨q.1, q.2.1⟩
    rw [if_neg hc, decide_eq_false hc]
    exact ⟨rfl, Grew.same h⟩

/-- New bytes that the call has made. -/
def Fresh (w : World) (bs : List UInt8) (v : Value) (w' : World) : Prop := w'.ownsRow w.heap.size 5 1 v bs.length (cellsB bs) ∧ Fr [] w w'
theorem bytes_any (p : Nat) (g : Option Nat) (bs : List UInt8) (w : World) (h : isW w p g bs) (hl : bs.length ≤ 140737488355328) :
    Calls Try.prog 23 #[.pointer (some ⟨p, 0, none⟩)] w (Ret (Fresh w bs)) := by
  obtain ⟨v, hp, hv, rfl⟩ := h
  have hc := cell_of_heap hp 0
  simp only [List.getElem?_toArray, List.getElem?_cons_zero] at hc
  have hby := bytesAt_of_owns hv
  go_enter Try.func23, Try.ntmps23
  go_wp2_with (go_at_call 35; refine (clone_any bs _ _ hby hl).mono ?_; rintro e w' ⟨v', rfl, hown, hfr⟩)
  go_ret
  exact Ret.mk ⟨hown, hfr⟩

end Go.Proofs.Ytijdffpekonklaa
