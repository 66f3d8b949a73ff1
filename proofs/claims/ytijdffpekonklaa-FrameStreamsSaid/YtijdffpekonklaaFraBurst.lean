/- FrameBurst: a frame in which at least one bit is inverted, all within 32 consecutive bits, is rejected, wherever they are. -/
import Derived.Test.YtijdffpekonklaaFraLaw
namespace Go.Proofs.Ytijdffpekonklaa
open Go.RowKit

/-- What is refused. -/
def Failed (w : World) (e : Ending) (w' : World) : Prop := ∃ y : Nat, 0 < y ∧ e = .returned (no3 y) ∧ Fr [] w w'
theorem open_fail (bs : List UInt8) (sv : Value) (w : World) (h : bytesAt w sv bs) (hl : bs.length ≤ 1000000) (hy : whyF bs ≠ 0 ∨ restF bs ≠ []) :
    Calls Try.prog 11 #[sv] w (Failed w) := by
  by_cases h0 : whyF bs = 0
  · refine (open_more bs sv w h hl h0 (by rcases hy with hy | hy; exact (hy h0).elim; exact hy)).mono ?_
    rintro e w' ⟨rfl, hf⟩
    exact ⟨5, by omega, rfl, hf⟩
  · refine (open_no bs _ sv w h hl rfl (by omega)).mono ?_
    rintro e w' ⟨rfl, hf⟩
    exact ⟨_, by omega, rfl, hf⟩
set_option maxRecDepth 100000 in
theorem burst_yes (k : UInt8) (load : List UInt8) (a turn : Nat) (sv : Value) (w : World) (h : bytesAt w sv load) (hl : ¬ 300 < load.length) (ht : turn < 4294967296) (ht0 : turn ≠ 0) (ha : a + 32 ≤ 8 * (sealF k load).length) :
    Calls Try.prog 6 #[.int .u8 (k.toNat : Int), sv, .int .i64 a, .int .u32 turn] w fun e w' => e = .returned (.bool true) ∧ Fr [] w w' := by
  obtain ⟨a0, c0, rfl, hle, hmx⟩ := h.form
  have hb1 : decide (300 < (load.length : Int)) = false := decide_eq_false (by omega)
  have hb2 : ((turn : Int) == 0) = false := by rw [beq_eq_false_iff_ne]; omega
  have hb3 : decide ((a : Int) < 0) = false := decide_eq_false (by omega)
  have HS := Lib.hid (seal_any k load _ w h (by omega))
  have hsl := seal_len k load (by omega)
  have hs4 : (sealF k load).length ≤ 400 := by have := form_len10 load.length (by omega); rw [sealF_length]; omega
  have hb4 : decide (8 * ((sealF k load).length : Int) - 32 < (a : Int)) = false := decide_eq_false (by omega)
  have hb5 : decide (((sealF k load).length : Int) < 6) = false := decide_eq_false (by omega)
  have HF := Lib.hid (fun (l : List UInt8) (h1 : l.length = (sealF k load).length) (h2 : le l = le (sealF k load) ^^^ (turn * 2 ^ a)) => seal_burst k load l a turn h1 ht ht0 ha h2)
  have HT := Lib.hid (fun sx wx (hx : bytesAt wx sx (sealF k load)) => ref_turned_any (sealF k load) a turn sx wx hx (by omega) ha ht)
  obtain ⟨X, hX⟩ : ∃ X, X = sealF k load := ⟨_, rfl⟩
  clear hs4
  rw [← hX] at HS hsl hb4 hb5 HF HT
  clear h hX ha ht0
  go_enter Try.func6, Try.ntmps6
  go_wp2_with (first
    | (go_at_call 8; refine HS.out.mono ?_; rintro e w1 ⟨v1, rfl, hx1, hf1⟩; obtain ⟨a1, c1, rfl, -, -⟩ := hx1.form)
    | (go_at_call 17; refine (HT.out _ _ hx1).mono ?_; rintro e w2 ⟨v2, rfl, l, hx2, hl2, he2, hf2⟩; have hor := Lib.hid (HF.out l hl2 he2); have hll : l.length ≤ 1000000 := (by omega); clear he2)
    | (go_at_call 11; refine (open_fail l _ _ hx2 hll hor.out).mono ?_; rintro e w3 ⟨y, hy, rfl, hf3⟩; unfold no3; have hb6 : ((y : Int) != 0) = true := (by rw [bne_iff_ne]; omega); clear hor)
    | (go_at_call 7; refine (awake_any _).mono ?_; rintro e w4 ⟨rfl, hf4⟩))
  go_ret
  exact ⟨rfl, ((hf1.trans hf2 (by simp) (n := []) (by simp)).trans hf3 (by simp) (n := []) (by simp)).trans hf4 (by simp) (by simp)⟩
set_option maxRecDepth 100000 in
theorem burst_any (k : UInt8) (load : List UInt8) (a : Int) (turn : Nat) (sv : Value) (w : World) (h : bytesAt w sv load) (ha : -9223372036854775808 ≤ a ∧ a ≤ 9223372036854775807) (ht : turn < 4294967296) :
    Calls Try.prog 6 #[.int .u8 (k.toNat : Int), sv, .int .i64 a, .int .u32 turn] w fun e w' => e = .returned (.bool true) ∧ Fr [] w w' := by
  by_cases hin : 0 ≤ a ∧ a + 32 ≤ 8 * ((sealF k load).length : Int) ∧ turn ≠ 0 ∧ ¬ 300 < load.length
  · obtain ⟨j, rfl⟩ := Int.eq_ofNat_of_zero_le hin.1
    exact burst_yes k load j turn sv w h hin.2.2.2 ht hin.2.2.1 (by omega)
  obtain ⟨a0, c0, rfl, hle, hmx⟩ := h.form
  simp only [maxLen] at hmx
  by_cases hl : 300 < load.length
  · have hb1 : decide (300 < (load.length : Int)) = true := decide_eq_true (by omega)
    clear hin h
    go_enter Try.func6, Try.ntmps6
    go_wp2_with (go_at_call 7; refine (awake_any _).mono ?_; rintro e w' ⟨rfl, hf⟩)
    go_ret
    exact ⟨rfl, hf⟩
  have hb1 : decide (300 < (load.length : Int)) = false := decide_eq_false (by omega)
  by_cases ht0 : turn = 0
  · subst ht0
    clear hin h
    go_enter Try.func6, Try.ntmps6
    go_wp2_with (go_at_call 7; refine (awake_any _).mono ?_; rintro e w' ⟨rfl, hf⟩)
    go_ret
    exact ⟨rfl, hf⟩
  have hb2 : ((turn : Int) == 0) = false := by rw [beq_eq_false_iff_ne]; omega
  have HS := Lib.hid (seal_any k load _ w h (by omega))
  have hsl := seal_len k load (by omega)
  have hb5 : decide (((sealF k load).length : Int) < 6) = false := decide_eq_false (by omega)
  obtain ⟨X, hX⟩ : ∃ X, X = sealF k load := ⟨_, rfl⟩
  rw [← hX] at HS hsl hb5 hin
  clear hX h
  by_cases ha0 : a < 0
  · have hd1 : decide (a < 0) = true := decide_eq_true ha0
    clear hin ha0 ha ht0
    go_enter Try.func6, Try.ntmps6
    go_wp2_with (first
      | (go_at_call 8; refine HS.out.mono ?_; rintro e w1 ⟨v1, rfl, hx1, hf1⟩; obtain ⟨a1, c1, rfl, -, -⟩ := hx1.form)
      | (go_at_call 7; refine (awake_any _).mono ?_; rintro e w4 ⟨rfl, hf4⟩))
    go_ret
    exact ⟨rfl, hf1.trans hf4 (by simp) (by simp)⟩
  · have hd1 : decide (a < 0) = false := decide_eq_false ha0
    have hd2 : decide (8 * (X.length : Int) - 32 < a) = true := decide_eq_true (by omega)
    clear hin ha0 ha ht0
    go_enter Try.func6, Try.ntmps6
    go_wp2_with (first
      | (go_at_call 8; refine HS.out.mono ?_; rintro e w1 ⟨v1, rfl, hx1, hf1⟩; obtain ⟨a1, c1, rfl, -, -⟩ := hx1.form)
      | (go_at_call 7; refine (awake_any _).mono ?_; rintro e w4 ⟨rfl, hf4⟩))
    go_ret
    exact ⟨rfl, hf1.trans hf4 (by simp) (by simp)⟩
theorem u8_of_nat (m : Nat) (h : m < 256) : ∃ k : UInt8, m = k.toNat := ⟨UInt8.ofNat m, by rw [UInt8.toNat_ofNat']; omega⟩
theorem burst_num (m : Nat) (load : List UInt8) (a : Int) (turn : Nat) (sv : Value) (w : World) (hm : m < 256) (h : bytesAt w sv load) (ha : -9223372036854775808 ≤ a ∧ a ≤ 9223372036854775807) (ht : turn < 4294967296) :
    Calls Try.prog 6 #[.int .u8 (m : Int), sv, .int .i64 a, .int .u32 turn] w fun e w' => e = .returned (.bool true) ∧ Fr [] w w' := by
  obtain ⟨k, rfl⟩ := u8_of_nat m hm
  exact burst_any k load a turn sv w h ha ht
end Go.Proofs.Ytijdffpekonklaa
