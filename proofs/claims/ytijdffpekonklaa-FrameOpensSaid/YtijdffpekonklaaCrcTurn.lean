/- The document's answer Turned. -/
import Derived.Test.YtijdffpekonklaaKit
import Derived.Test.YtijdffpekonklaaCrcMath
import Derived.Test.YtijdffpekonklaaRow
import Derived.Test.YtijdffpekonklaaProg
import Derived.LoopTactic
import Derived.Laws.BitsAllLaws
import Derived.BigRegion
namespace Go.Proofs.Ytijdffpekonklaa
open Go.RowKit

theorem xor_mul (k a b : Nat) : (a ^^^ b) * 2 ^ k = a * 2 ^ k ^^^ b * 2 ^ k := by
  apply Nat.eq_of_testBit_eq
  intro i
  simp only [Nat.testBit_mul_two_pow, Nat.testBit_xor]
  cases decide (k ≤ i) <;> simp
/-- One bit turned. -/
theorem le_set (bs : List UInt8) : ∀ (i : Nat) (h : i < bs.length) (t : Nat), t < 256 → le (bs.set i (UInt8.ofNat ((bs[i]'h).toNat ^^^ t))) = le bs ^^^ (t * 2 ^ (8 * i)) := by
  induction bs with
  | nil => intro i h; simp at h
  | cons c bs ih =>
    intro i h t ht
    have hx : ∀ a : Nat, a < 256 → a ^^^ t < 256 := fun a ha => Nat.xor_lt_two_pow (n := 8) ha ht
    have split : ∀ (a b : Nat), a < 256 → a + 256 * b = a ^^^ (b * 2 ^ 8) := fun a b ha => by rw [xor_add 8 _ _ (by omega)]; omega
    cases i with
    | zero =>
      simp only [List.set_cons_zero, List.getElem_cons_zero, le, Nat.mul_zero, Nat.pow_zero, Nat.mul_one]
      have hc := c.toNat_lt
      rw [UInt8.toNat_ofNat', Nat.mod_eq_of_lt (hx _ hc), split _ _ (hx _ hc), split _ _ hc, Nat.xor_assoc, Nat.xor_assoc, Nat.xor_comm t]
    | succ i =>
      simp only [List.set_cons_succ, List.getElem_cons_succ, le]
      have hc := c.toNat_lt
      rw [ih i (by simpa using h) t ht, split _ _ hc, split _ _ hc, Nat.xor_assoc]
      congr 1
      rw [show 8 * (i + 1) = 8 * i + 8 from by omega, Nat.pow_add, ← Nat.mul_assoc, ← xor_mul]
theorem le_turn (bs : List UInt8) (p : Nat) (h : p / 8 < bs.length) : le (bs.set (p / 8) (UInt8.ofNat ((bs[p / 8]'h).toNat ^^^ 2 ^ (p % 8)))) = le bs ^^^ 2 ^ p := by
  have h8 : 2 ^ (p % 8) < 256 := by
    have : (2 : Nat) ^ (p % 8) ≤ 2 ^ 7 := Nat.pow_le_pow_right (by decide) (by omega)
    omega
  rw [le_set bs (p / 8) h _ h8, ← Nat.pow_add]
  congr 2
  omega
/-- One bit more of the pattern. -/
theorem turn_next (turn a i : Nat) : turn % 2 ^ (i + 1) * 2 ^ a = (turn % 2 ^ i * 2 ^ a) ^^^ (turn / 2 ^ i % 2 * 2 ^ (a + i)) := by
  have h1 : turn % 2 ^ (i + 1) = turn % 2 ^ i ^^^ (turn / 2 ^ i % 2 * 2 ^ i) := by
    rw [xor_add i _ _ (Nat.mod_lt _ (Nat.pow_pos (by decide))), Nat.pow_succ, Nat.mod_mul, Nat.mul_comm (2 ^ i) (turn / 2 ^ i % 2)]
  rw [h1, xor_mul, Nat.add_comm a i, Nat.pow_add, Nat.mul_assoc]

/-- The block g holds these bytes ahead of its spare. -/
def rowIs (w : World) (g : Nat) (l : List UInt8) : Prop := ∃ cur : Array Value, w.heap[g]? = some (.cells cur 5 (0, 0)) ∧ cur.toList.take l.length = cellsB l
theorem rowIs.cell {w : World} {g : Nat} {l : List UInt8} (h : rowIs w g l) (i : Nat) (hi : i < l.length) : w.cell? ⟨g, i, none⟩ = some (.int .u8 ((l[i]'hi).toNat : Int)) := by
  obtain ⟨cur, hc, ht⟩ := h
  rw [cell_of_heap hc, ← cellsB_get l i hi, ← ht, List.getElem?_take, if_pos hi]
  simp
theorem rowIs.free {w : World} {g : Nat} {l : List UInt8} (h : rowIs w g l) (i : Nat) : w.frozen? ⟨g, i, none⟩ = false := by
  obtain ⟨cur, hc, ht⟩ := h
  exact free_of_heap hc i
theorem rowIs.set {w : World} {g : Nat} {l : List UInt8} (h : rowIs w g l) (i : Nat) (c : UInt8) : rowIs (w.setCell ⟨g, i, none⟩ (.int .u8 (c.toNat : Int))) g (l.set i c) := by
  obtain ⟨cur, hc, ht⟩ := h
  refine ⟨_, heap_setCell_same hc _, ?_⟩
  rw [Array.toList_setIfInBounds, List.length_set, List.take_set, ht]
  simp [cellsB, List.map_set]
theorem rowIs.bytes {w : World} {g cap : Nat} {l : List UInt8} (h : rowIs w g l) (hl : l.length ≤ cap) (hm : cap ≤ maxLen) (n : Nat) (hn : n = l.length) : bytesAt w (.slice (some ⟨g, 0, none⟩) n cap) l := by
  subst hn
  exact .inr ⟨g, 0, cap, rfl, hl, hm, fun i hi => by rw [Nat.zero_add]; exact h.cell i hi⟩
theorem rowIs_of_owns {w : World} {base : Nat} {v : Value} {l : List UInt8} (h : w.ownsRow base 5 1 v l.length (cellsB l)) (hne : l ≠ []) : ∃ g cap, v = .slice (some ⟨g, 0, none⟩) l.length cap ∧ base ≤ g ∧ l.length ≤ cap ∧ cap ≤ maxLen ∧ rowIs w g l := by
  rcases h.2 with ⟨_, h0⟩ | ⟨g, cap, cur, rfl, hb, hg, hn, hm, _, ht⟩
  · exact (hne (List.eq_nil_of_length_eq_zero h0)).elim
  · exact ⟨g, cap, rfl, hb, hn, hm, cur, hg, by simpa using ht⟩

theorem turn_value (c : UInt8) (p : Nat) : bits .xor .u8 (c.toNat : Int) ((2 : Int) ^ (p % 8) % 256) = ((UInt8.ofNat (c.toNat ^^^ 2 ^ (p % 8))).toNat : Int) := by
  have h8 : 2 ^ (p % 8) < 256 := by
    have : (2 : Nat) ^ (p % 8) ≤ 2 ^ 7 := Nat.pow_le_pow_right (by decide) (by omega)
    omega
  have h := u8_xor_nat c.toNat (2 ^ (p % 8)) c.toNat_lt h8
  have e : (2 : Int) ^ (p % 8) % 256 = ((2 ^ (p % 8) : Nat) : Int) := by
    obtain ⟨z, hz⟩ : ∃ z, z = 2 ^ (p % 8) := ⟨_, rfl⟩
    have h2 : (2 : Int) ^ (p % 8) = (z : Int) := by rw [hz]; simp
    rw [h2, ← hz]; rw [← hz] at h8; omega
  rw [e, h, UInt8.toNat_ofNat', Nat.mod_eq_of_lt (Nat.xor_lt_two_pow (n := 8) c.toNat_lt h8)]
def Turn (bs : List UInt8) (a turn : Nat) (w : World) (v : Value) (w' : World) : Prop :=
  ∃ l : List UInt8, bytesAt w' v l ∧ l.length = bs.length ∧ le l = le bs ^^^ (turn * 2 ^ a) ∧ Fr [] w w'
def TurnRel (bs : List UInt8) (a turn g : Nat) (w : World) (si st : Value) (wr : World) : Prop :=
  ∃ i l, i ≤ 32 ∧ si = .int .i64 (i : Nat) ∧ st = .int .u32 ((turn / 2 ^ i : Nat) : Int) ∧ l.length = bs.length ∧ le l = le bs ^^^ (turn % 2 ^ i * 2 ^ a) ∧ rowIs wr g l ∧ Fr [] w wr

set_option maxRecDepth 100000 in
theorem ref_turned_any (bs : List UInt8) (a turn : Nat) (sv : Value) (w : World) (h : bytesAt w sv bs) (hl : bs.length ≤ 1000) (ha : a + 32 ≤ 8 * bs.length) (ht : turn < 4294967296) :
    Calls Try.prog 17 #[sv, .int .i64 a, .int .u32 turn] w (Ret (Turn bs a turn w)) := by
  obtain ⟨i, hi, hz0, hz1, hz2⟩ := info_parts infoB
  obtain ⟨a0, c0, rfl, hle, hmx⟩ := h.form
  have hnil : (w.alloc (.cells (#[] : Array Value) 5)).ownsRow w.heap.size 5 1 (.slice (some ⟨w.heap.size, 0, none⟩) 0 0) ([] : List UInt8).length (cellsB []) :=
    owns_of_heap (cur := []) (heap_alloc_new w _) (Nat.le_refl _) rfl (Nat.zero_le _) (by simp [maxLen]) rfl
  have hba := h.below (Fr.alloc w (.cells (#[] : Array Value) 5))
  have hne : bs ≠ [] := by rintro rfl; simp at ha
  have hd1 : decide ((a : Int) < 0) = false := decide_eq_false (by omega)
  have hd2 : decide (8 * (bs.length : Int) - 32 < (a : Int)) = false := decide_eq_false (by omega)
  go_enter Try.func17, Try.ntmps17
  go_wp2_with (at_builtin; refine wpL_append rfl (.tmp 9) (.tmp 10) 22 rfl w.heap.size 5 i (.int .u8 0) Try.underlying22 hi hz0 hz1 hz2 rfl _ [] rfl hnil _ bs rfl hba (by simp; omega) (by simp) ?_; intro v1 w1 hown1 hf1 hb1; clear hb1; obtain ⟨g, cap, rfl, hg, hcap, hmax, hrow⟩ := rowIs_of_owns (l := bs) hown1 hne)
  have hf1' : Fr [w.heap.size] (w.alloc (.cells (#[] : Array Value) 5)) w1 := hf1
  have hf01 : Fr [] w w1 := (Fr.alloc w _).trans hf1' (by simp) (by simp)
  clear hf1 hf1' hown1 hnil hba
  go_loopw [8, 2] (TurnRel bs a turn g w) (fun s _ _ => 32 - (intOf s).toNat)
  case atStart => exact ⟨0, bs, by omega, rfl, by simp, rfl, by simp [Nat.mod_one], hrow, hf01⟩
  case round =>
    clear hrow hf01
    obtain ⟨k, l, hk, rfl, rfl, hll, hle', hrow, hf⟩ := hrel
    by_cases hk32 : k < 32
    · have hdk : decide ((k : Int) < 32) = true := decide_eq_true (by omega)
      have hnext := turn_next turn a k
      have hhalf : turn / 2 ^ (k + 1) = turn / 2 ^ k / 2 := by rw [Nat.pow_succ, Nat.div_div_eq_div_mul]
      have htl : turn / 2 ^ k < 4294967296 := Nat.lt_of_le_of_lt (Nat.div_le_self _ _) ht
      obtain ⟨t, hteq⟩ : ∃ t, t = turn / 2 ^ k := ⟨_, rfl⟩
      rw [← hteq] at hnext hhalf htl ⊢
      have HH := Lib.hid hhalf
      have HN := Lib.hid hnext
      have HL := Lib.hid hle'
      clear hhalf hteq hle' hnext
      by_cases hodd : t % 2 = 1
      · have he : ((t : Int) % 2 == 1) = true := by rw [beq_iff_eq]; omega
        have hp8 : (a + k) / 8 < l.length := by omega
        have hc := hrow.cell ((a + k) / 8) hp8
        have hfree := hrow.free ((a + k) / 8)
        go_wp2_with fail
        go_region
        go_wp2_with fail
        have hset := hrow.set ((a + k) / 8) (UInt8.ofNat ((l[(a + k) / 8]'hp8).toNat ^^^ 2 ^ ((a + k) % 8)))
        rw [← turn_value l[(a + k) / 8] (a + k)] at hset
        have hfs := hf.trans (n := []) (Fr.set0 wr g ((a + k) / 8) (.int .u8 (bits .xor .u8 ((l[(a + k) / 8]'hp8).toNat : Int) ((2 : Int) ^ ((a + k) % 8) % 256)))) (by simp) (by simp; omega)
        refine ⟨⟨k + 1, _, by omega, by go_num, by rw [HH.out]; go_num, by rw [List.length_set]; exact hll, ?_, hset, hfs.trans (Fr.drew _) (by simp) (by simp)⟩, by simp [intOf]; omega⟩
        rw [le_turn l (a + k) hp8, HN.out, hodd, Nat.one_mul, HL.out, Nat.xor_assoc]
      · have he : ((t : Int) % 2 == 1) = false := by rw [beq_eq_false_iff_ne]; omega
        have hz : t % 2 = 0 := by omega
        go_wp2_with fail
        refine ⟨⟨k + 1, l, by omega, by go_num, by rw [HH.out]; go_num, hll, ?_, hrow, hf⟩, by simp [intOf]; omega⟩
        rw [HN.out, hz, Nat.zero_mul, Nat.xor_zero, HL.out]
    · obtain rfl : k = 32 := by omega
      clear hk32 hk
      have HL := Lib.hid hle'
      have hb := hrow.bytes (n := bs.length) (cap := cap) (by omega) hmax hll.symm
      clear hle' hrow
      go_wp2_with fail
      go_ret
      refine Ret.mk ⟨l, hb, hll, ?_, hf⟩
      rw [HL.out, Nat.mod_eq_of_lt ht]
end Go.Proofs.Ytijdffpekonklaa
