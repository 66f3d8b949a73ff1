/- VarintTakes: the number that is taken of any bytes. -/
import Derived.Test.YtajfjjcdkfhknaaVarLaw
import Derived.Test.YtajfjjcdkfhknaaVarRef
namespace Go.Proofs.Ytajfjjcdkfhknaa
open Go.RowKit

theorem ref_front_some (bs : List UInt8) (x n : Nat) (sv : Value) (w : World) (h : bytesAt w sv bs) (hl : bs.length ≤ 1000000) (hf : front bs = some (x, n)) :
    Calls Try.prog 17 #[sv] w fun e w' => e = .returned (.tuple #[.int .u64 (x : Int), .int .i64 (n : Int)]) ∧ w = w' := by
  refine (ref_front_any bs sv w h hl).mono ?_
  rintro e w' ⟨x', n', h1 | ⟨h1, _⟩, rfl, rfl⟩
  · rw [hf] at h1
    simp only [Option.some.injEq, Prod.mk.injEq] at h1
    obtain ⟨rfl, rfl⟩ := h1
    exact ⟨rfl, rfl⟩
  · rw [hf] at h1; cases h1
theorem ref_front_none (bs : List UInt8) (sv : Value) (w : World) (h : bytesAt w sv bs) (hl : bs.length ≤ 1000000) (hf : front bs = none) :
    Calls Try.prog 17 #[sv] w fun e w' => e = .returned (.tuple #[.int .u64 0, .int .i64 0]) ∧ w = w' := by
  refine (ref_front_any bs sv w h hl).mono ?_
  rintro e w' ⟨x', n', h1 | ⟨_, rfl, rfl⟩, rfl, rfl⟩
  · rw [hf] at h1; cases h1
  · exact ⟨rfl, rfl⟩

set_option maxRecDepth 100000 in
theorem takes_any (v0 : Value) (bs : List UInt8) (most : Nat) (w : World) (h0 : bytesAt w v0 bs) (hm : most ≤ 18446744073709551615) :
    Calls Try.prog 4 #[v0, .int .u64 most] w fun e w' => e = .returned (.bool true) ∧ Fr [] w w' := by
  have hlt0 := h0.lt
  obtain ⟨a0, c0, rfl, -, -⟩ := h0.form
  by_cases hb : 100 < bs.length
  · have hb1 : decide (100 < (bs.length : Int)) = true := decide_eq_true (by omega)
    go_enter Try.func4, Try.ntmps4
    go_wp2_with (go_at_call 8; refine (awake_any _).mono ?_; rintro e w' ⟨rfl, hf⟩)
    go_ret
    exact ⟨rfl, hf⟩
  · have hb1 : decide (100 < (bs.length : Int)) = false := decide_eq_false (by omega)
    go_enter Try.func4, Try.ntmps4
    go_wp2_with fail
    refine (read_any2 _ bs _ h0 (by omega)).mono ?_
    rintro e w1 ⟨p, g, rfl, hr1, hf1, hp1, hg1⟩
    cases ht : taken bs most with
    | none =>
      go_wp2_with fail
      refine (vtake_none p g bs false most _ hr1 ht).mono ?_
      rintro e w2 ⟨rfl, hr2, hf2⟩
      have hb2 := (h0.below hf1).kept hf2 (fun k hk hne _ => by have := hlt0 hne k hk; simp; omega)
      have hfin : Fr [] w w2 := hf1.trans hf2 (by simp) (by simp; omega)
      have HS := Lib.hid (spent_any p g _ _ w2 hr2)
      cases hf : front bs with
      | none =>
        have HFr := Lib.hid (ref_front_none bs _ w2 hb2 (by omega) hf)
        clear hf ht hr2 hb2 hr1 h0
        go_wp2_with (first
          | (go_at_call 17; refine HFr.out.mono ?_; rintro e w3 ⟨rfl, rfl⟩)
          | (go_at_call 18; refine HS.out.mono ?_; rintro e w3 ⟨rfl, rfl⟩)
          | (go_at_call 8; refine (awake_any _).mono ?_; rintro e w4 ⟨rfl, hf4⟩))
        go_ret
        exact ⟨rfl, hfin.trans hf4 (by simp) (by simp)⟩
      | some xn =>
        obtain ⟨x, n⟩ := xn
        have HFr := Lib.hid (ref_front_some bs x n _ w2 hb2 (by omega) hf)
        have hfl := front_len hf
        have hx : most < x := by
          rw [taken, hf] at ht
          simpa using ht
        have e1 : ((n : Int) == 0) = false := by rw [beq_eq_false_iff_ne]; omega
        have e2 : decide (most < x) = true := decide_eq_true hx
        clear hf ht hr2 hb2 hr1 h0
        go_wp2_with (first
          | (go_at_call 17; refine HFr.out.mono ?_; rintro e w3 ⟨rfl, rfl⟩)
          | (go_at_call 18; refine HS.out.mono ?_; rintro e w3 ⟨rfl, rfl⟩)
          | (go_at_call 8; refine (awake_any _).mono ?_; rintro e w4 ⟨rfl, hf4⟩))
        go_ret
        exact ⟨rfl, hfin.trans hf4 (by simp) (by simp)⟩
    | some xn =>
      obtain ⟨x, n⟩ := xn
      have hf : front bs = some (x, n) ∧ x ≤ most := by
        unfold taken at ht
        rw [Option.filter_eq_some_iff] at ht
        simpa using ht
      obtain ⟨hf, hx⟩ := hf
      go_wp2_with fail
      refine (vtake_some p g bs false most x n _ hr1 hf hx).mono ?_
      rintro e w2 ⟨rfl, hr2, hf2⟩
      have hb2 := (h0.below hf1).kept hf2 (fun k hk hne _ => by have := hlt0 hne k hk; simp; omega)
      have hfin : Fr [] w w2 := hf1.trans hf2 (by simp) (by simp; omega)
      have HS := Lib.hid (spent_any p g _ _ w2 hr2)
      have HL := left_any p g _ _ w2 hr2
      rw [show (((bs.drop n).length : Nat) : Int) = (bs.length : Int) - (n : Int) from by rw [List.length_drop]; have := front_len hf; omega] at HL
      have HL := Lib.hid HL
      have HFr := Lib.hid (ref_front_some bs x n _ w2 hb2 (by omega) hf)
      have hfl := front_len hf
      have e1 : ((n : Int) == 0) = false := by rw [beq_eq_false_iff_ne]; omega
      have e2 : decide (most < x) = false := decide_eq_false (by omega)
      clear hf ht hr2 hb2 hr1 h0
      go_wp2_with (first
        | (go_at_call 17; refine HFr.out.mono ?_; rintro e w3 ⟨rfl, rfl⟩)
        | (go_at_call 18; refine HS.out.mono ?_; rintro e w3 ⟨rfl, rfl⟩)
        | (go_at_call 19; refine HL.out.mono ?_; rintro e w3 ⟨rfl, rfl⟩)
        | (go_at_call 8; refine (awake_any _).mono ?_; rintro e w4 ⟨rfl, hf4⟩))
      go_ret
      exact ⟨rfl, hfin.trans hf4 (by simp) (by simp)⟩
end Go.Proofs.Ytajfjjcdkfhknaa
