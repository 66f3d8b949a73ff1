/- What the statements of layer 1 call beside octet: awake, few, bytes. -/
import Derived.Test.YtkckkkcbiakblaaOctB
import Derived.Test.YtkckkkcbiakblaaOctC
namespace Go.Proofs.Ytkckkkcbiakblaa
open Go.RowKit

theorem fits_515 : (1 ≤ (3 : Int) ∧ (3 : Int) ≤ 8 ∧ 515 < 256 ^ (3 : Int).toNat) := by decide
theorem be_515 : be (3 : Int).toNat 515 = [0, 2, 3] := by decide

theorem awake_any (w : World) :
    Calls Try.prog 7 #[] w fun e w' => e = .returned (.bool true) ∧ Fr [] w w' := by
  go_enter Try.func7, Try.ntmps7
  go_wp2_with fail
  refine (write_any _).mono ?_
  rintro e w1 ⟨p, rfl, hw1, hf1, hp1⟩
  go_wp2_with fail
  refine (num_any p none [] 3 515 w1 hw1 (by omega) (by simp)).mono ?_
  rintro e w2 ⟨rfl, hg2⟩
  rw [if_pos fits_515, be_515] at hg2
  rw [decide_eq_true fits_515]
  obtain ⟨g2, hw2, hf2, hg2⟩ := hg2
  go_wp2_with fail
  refine (read_any _ [1, 2] _ (bytesAt_new w2 [1, 2] 5 2 rfl (by simp [maxLen]) _ rfl) (by simp)).mono ?_
  rintro e w3 ⟨q, gq, rfl, hr3, hf3, hq3, hgq3⟩
  have hf3' := (Fr.alloc w2 _).trans hf3 (by simp) (n := []) (by simp)
  simp only [World.size_alloc] at hq3 hgq3
  go_wp2_with fail
  refine (rnum_some q gq [1, 2] 1 _ hr3 (by simp) (by omega) (by omega)).mono ?_
  rintro e w4 ⟨rfl, hr4, hf4⟩
  rw [show val (List.take 1 [1, 2]) = 1 from rfl, show List.drop 1 [(1 : UInt8), 2] = [2] from rfl] at *
  go_wp2_with fail
  refine (rnum_none q gq [2] false 2 _ hr4 (by simp)).mono ?_
  rintro e w5 ⟨rfl, hr5, hf5⟩
  have hwl := hw2.lt
  have hw5 : isW w5 p g2 [0, 2, 3] := by
    have a := hw2.kept hf3' (by simp) (by simp)
    have b := a.kept hf4 (by simp; omega) (fun k hk => by have := hwl.2 k hk; simp; omega)
    exact b.kept hf5 (by simp; omega) (fun k hk => by have := hwl.2 k hk; simp; omega)
  go_wp2_with fail
  refine (bytes_any p g2 _ _ hw5 (by simp)).mono ?_
  rintro e w6 ⟨v6, rfl, hb6, hf6⟩
  have hw6 := hw5.kept hf6 (by simp) (by simp)
  have hr6 := hr5.kept hf6 (by simp) (by simp)
  have hcv : (convert 27 9 v6).run Try.prog w6 = .ok (.string ⟨[0, 2, 3].toArray⟩) w6 := run_conv_bytes (bytesAt_of_owns hb6) _ 5 _ Try.underlying27 Try.underlying5 Try.underlying9
  have hlen := len_any p g2 _ w6 hw6
  have hspt := spent_any q gq _ _ w6 hr6
  have HL := Lib.hid hlen
  have HS := Lib.hid hspt
  clear hlen hspt
  go_wp2_with (first
    | (go_at_call 13; refine HL.out.mono ?_; rintro e w7 ⟨rfl, rfl⟩)
    | (go_at_call 18; refine HS.out.mono ?_; rintro e w7 ⟨rfl, rfl⟩))
  go_ret
  refine ⟨rfl, ?_⟩
  have hs1 := hf1.size
  have hs2 := hf2.size
  have h02 := hf1.trans hf2 (by simp) (n := []) (by simp; omega)
  have h03 := h02.trans hf3' (by simp) (n := []) (by simp)
  have h04 := h03.trans hf4 (by simp) (n := []) (by simp; omega)
  have h05 := h04.trans hf5 (by simp) (n := []) (by simp; omega)
  exact h05.trans hf6 (by simp) (by simp)

/-- The n bytes of a number, the greatest first; whether it goes into them. -/
def BytesOf (w : World) (n : Int) (v : Nat) (r : Value) (w' : World) : Prop :=
  ∃ rv, r = .tuple #[rv, .bool (decide (1 ≤ n ∧ n ≤ 8 ∧ v < 256 ^ n.toNat))] ∧ (if 1 ≤ n ∧ n ≤ 8 then w'.ownsRow w.heap.size 5 1 rv (be n.toNat v).length (cellsB (be n.toNat v)) else rv = .slice none 0 0) ∧ Fr [] w w'
theorem lawbytes_no (n : Int) (v : Nat) (w : World) (h : ¬ (1 ≤ n ∧ n ≤ 8)) :
    Calls Try.prog 10 #[.int .i64 n, .int .u64 v] w (Ret (BytesOf w n v)) := by
  have hd : decide (1 ≤ n ∧ n ≤ 8 ∧ v < 256 ^ n.toNat) = false := decide_eq_false (fun q => h ⟨q.1, q.2.1⟩)
  by_cases h1 : n < 1
  · have hb1 : decide (n < 1) = true := decide_eq_true h1
    clear h h1
    go_enter Try.func10, Try.ntmps10
    go_wp2
    go_ret2
    exact Ret.mk ⟨_, by rw [hd]; rfl, by rw [if_neg (by simp at hb1; omega)]; rfl, Fr.refl _ _⟩
  · have hb1 : decide (n < 1) = false := decide_eq_false h1
    have hb2 : decide (8 < n) = true := decide_eq_true (by omega)
    clear h h1
    go_enter Try.func10, Try.ntmps10
    go_wp2
    go_ret2
    exact Ret.mk ⟨_, by rw [hd]; rfl, by rw [if_neg (by simp at hb2; omega)]; rfl, Fr.refl _ _⟩

def LawRel (n v b : Nat) (w1 : World) (sv si : Value) (wr : World) : Prop :=
  ∃ m cur, m ≤ n ∧ si = .int .i64 ((m : Int) - 1) ∧ sv = .int .u64 ((v / 256 ^ (n - m) : Nat) : Int) ∧ wr.heap[b]? = some (.cells (cur : List Value).toArray 5 (0, 0)) ∧ Filled [] n v n (n - m) cur ∧ Fr [b] w1 wr
theorem lawbytes_yes (n v : Nat) (w : World) (h1 : 1 ≤ n) (h8 : n ≤ 8) (hv : v ≤ 18446744073709551615) :
    Calls Try.prog 10 #[.int .i64 n, .int .u64 v] w (Ret (BytesOf w n v)) := by
  obtain ⟨i, hi, hz0, hz1, hz2⟩ := info_parts infoB
  have hb1 : decide ((n : Int) < 1) = false := decide_eq_false (by omega)
  have hb2 : decide (8 < (n : Int)) = false := decide_eq_false (by omega)
  go_enter Try.func10, Try.ntmps10
  go_wp2_with (at_make; refine wpL_make rfl _ _ 27 rfl 5 i (.int .u8 0) 1 Try.underlying27 hi hz0 hz1 hz2 rfl n rfl rfl (by omega) (by simp [maxLen]; omega) ?_; intro w1 hh1 hf1 hs1)
  clear hb1 hb2 hi hz0 hz1 hz2
  go_loopw [1, 7] (LawRel n v w.heap.size w1) (fun _ i _ => (intOf i + 1).toNat)
  case atStart => exact ⟨n, List.replicate n (.int .u8 0), Nat.le_refl _, rfl, by simp, hh1.out, ⟨by simp, by simp [cellsB], fun j h1 h2 => by omega⟩, Fr.refl _ _⟩
  case round =>
    obtain ⟨m, cu, hm, rfl, rfl, hb2, hfl, hf2⟩ := hrel
    obtain ⟨x, hx⟩ : ∃ x, x = v / 256 ^ (n - m) := ⟨_, rfl⟩
    have hxl : x ≤ 18446744073709551615 := by rw [hx]; exact Nat.le_trans (Nat.div_le_self _ _) hv
    rw [← hx]
    have HX := Lib.hid hx
    clear hx
    by_cases hm0 : m = 0
    · subst hm0
      go_wp2
      go_ret2
      rw [Nat.sub_zero] at hfl HX
      have hall := hfl.all (by simp)
      refine Ret.mk ⟨.slice (some ⟨w.heap.size, 0, none⟩) n n, ?_, ?_, hf1.trans hf2 (by simp) (by simp)⟩
      · have e : ((x : Int) == 0) = decide (1 ≤ (n : Int) ∧ (n : Int) ≤ 8 ∧ v < 256 ^ (n : Int).toNat) := by
          rw [Bool.eq_iff_iff, beq_iff_eq, decide_eq_true_eq, HX.out, Int.toNat_natCast]
          constructor
          · intro h
            have h' : v / 256 ^ n = 0 := by omega
            exact ⟨by omega, by omega, (Nat.div_eq_zero_iff_lt (Nat.pow_pos (by decide))).1 h'⟩
          · rintro ⟨_, _, h⟩
            rw [Nat.div_eq_of_lt h]; rfl
        rw [← e]; rfl
      · rw [if_pos ⟨by omega, by omega⟩, Int.toNat_natCast, be_length]
        exact owns_of_heap hb2 (Nat.le_refl _) hfl.1 (Nat.le_refl _) (by simp [maxLen]; omega) (by simpa using hall)
    · obtain ⟨j, rfl⟩ : ∃ j, m = j + 1 := ⟨m - 1, by omega⟩
      rw [show ((j + 1 : Nat) : Int) - 1 = j from by omega]
      have hjn : j < n := by omega
      have hcell : ∃ u, wr.cell? ⟨w.heap.size, j, none⟩ = some u := by
        rw [cell_of_heap hb2]
        have := hfl.1
        exact ⟨cu[j]'(by omega), by simp⟩
      obtain ⟨u, hu⟩ := hcell
      have hfz := free_of_heap hb2 j
      go_wp2
      refine ⟨⟨j, cu.set j (.int .u8 ((x : Int) % 256)), by omega, rfl, ?_, by rw [heap_setCell_same hb2]; simp, ?_, hf2.trans (Fr.setCell _ _ _) (by simp) (by simp)⟩, by simp [intOf]⟩
      · rw [show n - j = n - (j + 1) + 1 from by omega, Nat.pow_succ, ← Nat.div_div_eq_div_mul, ← HX.out]
        rfl
      · have := hfl.step (by omega) (by simp)
        rw [← HX.out, show n - 1 - (n - (j + 1)) = j from by omega, show n - (j + 1) + 1 = n - j from by omega] at this
        simpa using this
theorem lawbytes_any (n : Int) (v : Nat) (w : World) (hv : v ≤ 18446744073709551615) :
    Calls Try.prog 10 #[.int .i64 n, .int .u64 v] w (Ret (BytesOf w n v)) := by
  by_cases h : 1 ≤ n ∧ n ≤ 8
  · obtain ⟨k, rfl⟩ := Int.eq_ofNat_of_zero_le (show 0 ≤ n by omega)
    exact lawbytes_yes k v w (by omega) (by omega) hv
  · exact lawbytes_no n v w h
end Go.Proofs.Ytkckkkcbiakblaa
