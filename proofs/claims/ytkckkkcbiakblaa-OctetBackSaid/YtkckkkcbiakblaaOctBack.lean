/- OctetBack: what is written is read back. -/
import Derived.Test.YtkckkkcbiakblaaOctLaw
import Derived.Test.YtkckkkcbiakblaaRegion
namespace Go.Proofs.Ytkckkkcbiakblaa
open Go.RowKit

theorem be_succ (k v : Nat) : be (k + 1) v = be k (v / 256) ++ [UInt8.ofNat (v % 256)] := by
  unfold be
  rw [List.range_succ, List.map_append]
  congr 1
  · apply List.map_congr_left
    intro i hi
    have hi := List.mem_range.1 hi
    rw [show k + 1 - 1 - i = (k - 1 - i) + 1 from by omega, Nat.pow_succ, Nat.mul_comm, ← Nat.div_div_eq_div_mul]
  · simp
theorem val_be (k : Nat) : ∀ v, v < 256 ^ k → val (be k v) = v := by
  induction k with
  | zero => intro v hv; simp at hv; subst hv; rfl
  | succ k ih =>
    intro v hv
    rw [be_succ, val_snoc, ih (v / 256) (by rw [Nat.pow_succ] at hv; exact Nat.div_lt_of_lt_mul (by omega))]
    simp [UInt8.toNat_ofNat']
    omega

theorem rowsAt_new (l : List Nat) (w : World) (vs : List Value) (parts : List (List UInt8)) (e : TypeId) (n : Nat) (hn : n = parts.length) (hl : vs.length = parts.length) (hm : parts.length ≤ maxLen) (hs : w.heap.size ∉ l)
    (h : ∀ i (h : i < vs.length) (h' : i < parts.length), bytesAt w (vs[i]'h) (parts[i]'h') ∧ ∀ k, (vs[i]'h).ownBlock = some k → parts[i]'h' ≠ [] → k ∉ l) :
    rowsAt l (w.alloc (.cells vs.toArray e)) (.slice (some ⟨w.heap.size, 0, none⟩) n n) parts := by
  subst hn
  refine ⟨_, 0, parts.length, vs, rfl, Nat.le_refl _, hm, hl, hs, by simp, fun i hi => ?_, fun i hi hi' => ⟨(h i hi hi').1.below (Fr.alloc _ _), (h i hi hi').2⟩⟩
  rw [cell_of_heap (heap_alloc_new w _)]
  simp [hi]

theorem back_big (v0 v3 : Value) (ahead part : List UInt8) (n v : Int) (w : World) (h0 : bytesAt w v0 ahead) (h3 : bytesAt w v3 part) (hbig : 400 < ahead.length ∨ 400 < part.length) :
    Calls Try.prog 5 #[v0, .int .i64 n, .int .u64 v, v3] w fun e w' => e = .returned (.bool true) ∧ Fr [] w w' := by
  obtain ⟨a0, c0, rfl, -, -⟩ := h0.form
  obtain ⟨a3, c3, rfl, -, -⟩ := h3.form
  by_cases hb : 400 < ahead.length
  · have hb1 : decide (400 < (ahead.length : Int)) = true := decide_eq_true (by omega)
    go_enter Try.func5, Try.ntmps5
    go_wp2_with (go_at_call 7; refine (awake_any _).mono ?_; rintro e w' ⟨rfl, hf⟩)
    go_ret
    exact ⟨rfl, hf⟩
  · have hb1 : decide (400 < (ahead.length : Int)) = false := decide_eq_false (by omega)
    have hb2 : decide (400 < (part.length : Int)) = true := decide_eq_true (by omega)
    clear hbig
    go_enter Try.func5, Try.ntmps5
    go_wp2_with (go_at_call 7; refine (awake_any _).mono ?_; rintro e w' ⟨rfl, hf⟩)
    go_ret
    exact ⟨rfl, hf⟩

theorem back_small (v0 v3 : Value) (ahead part : List UInt8) (n : Int) (v : Nat) (w : World) (h0 : bytesAt w v0 ahead) (h3 : bytesAt w v3 part) (hs0 : ahead.length ≤ 400) (hs3 : part.length ≤ 400) (hv : v ≤ 18446744073709551615) :
    Calls Try.prog 5 #[v0, .int .i64 n, .int .u64 v, v3] w fun e w' => e = .returned (.bool true) ∧ Fr [] w w' := by
  have hlt0 := h0.lt
  have hlt3 := h3.lt
  obtain ⟨a0, c0, rfl, -, -⟩ := h0.form
  obtain ⟨a3, c3, rfl, -, -⟩ := h3.form
  have hb1 : decide (400 < (ahead.length : Int)) = false := decide_eq_false (by omega)
  have hb2 : decide (400 < (part.length : Int)) = false := decide_eq_false (by omega)
  go_enter Try.func5, Try.ntmps5
  go_wp2_with fail
  refine (write_any _).mono ?_
  rintro e w1 ⟨p, rfl, hw1, hf1, hp1⟩
  go_wp2_with fail
  have hrow : rowsAt (p :: (none : Option Nat).toList) (w1.alloc (.cells #[.slice a0 ahead.length c0, .slice a3 part.length c3] 27)) (.slice (some ⟨w1.heap.size, 0, none⟩) 2 2) [ahead, part] := by
    refine rowsAt_new _ w1 [.slice a0 ahead.length c0, .slice a3 part.length c3] [ahead, part] _ 2 rfl rfl (by simp [maxLen]) (by have := hw1.lt.1; simp; omega) ?_
    intro i hi hi'
    match i, hi with
    | 0, _ => exact ⟨h0.below hf1, fun k hk hne => by have := hlt0 hne k hk; simp; omega⟩
    | 1, _ => exact ⟨h3.below hf1, fun k hk hne => by have := hlt3 hne k hk; simp; omega⟩
  have hw1' := hw1.kept (Fr.alloc w1 (.cells #[.slice a0 ahead.length c0, .slice a3 part.length c3] 27)) (by simp) (by simp)
  refine (raw_any p none [] [ahead, part] _ _ hw1' hrow (by simp; omega)).mono ?_
  rintro e w2 ⟨rfl, g2, hw2, hf2, hg2⟩
  have hf2' := hf1.trans ((Fr.alloc w1 _).trans hf2 (by simp) (n := p :: (none : Option Nat).toList) (by simp)) (by simp) (n := []) (by simp; omega)
  rw [show [] ++ [ahead, part].flatten = ahead ++ part from by simp] at hw2
  clear hrow hw1'
  go_wp2_with fail
  refine (num_any p g2 _ n v _ hw2 hv (by simp; omega)).mono ?_
  rintro e w3 ⟨rfl, g3, hw3, hf3, hg3⟩
  obtain ⟨tail, htail⟩ : ∃ tail, tail = if 1 ≤ n ∧ n ≤ 8 ∧ v < 256 ^ n.toNat then be n.toNat v else [] := ⟨_, rfl⟩
  have hbs : (if 1 ≤ n ∧ n ≤ 8 ∧ v < 256 ^ n.toNat then ahead ++ part ++ be n.toNat v else ahead ++ part) = ahead ++ (part ++ tail) := by
    rw [htail]; split <;> simp
  rw [hbs] at hw3
  have htl : tail.length ≤ 8 := by
    rw [htail]; split
    · rw [be_length]; omega
    · simp
  have hsz2 := hf2'.size
  have hf3' : Fr [] w w3 := hf2'.trans hf3 (by simp) (by
    intro i hi hlt
    rcases List.mem_cons.1 hi with rfl | hi
    · omega
    · rcases hg2 with rfl | ⟨k, rfl, hk⟩
      · simp at hi
      · simp at hi hk; have := hf1.size; omega)
  obtain ⟨okb, hokb⟩ : ∃ okb, okb = decide (1 ≤ n ∧ n ≤ 8 ∧ v < 256 ^ n.toNat) := ⟨_, rfl⟩
  rw [← hokb]
  have HOK := Lib.hid hokb
  have HTL := Lib.hid htail
  clear hbs hf2 hg2 hw2 hf3 hg3 hw1 hf1 hp1 hokb htail hf2'
  go_wp2_with fail
  refine (bytes_any p g3 _ _ hw3 (by simp; omega)).mono ?_
  rintro e w4 ⟨v4, rfl, hb4, hf4⟩
  go_wp2_with fail
  refine (read_any v4 _ _ (bytesAt_of_owns hb4) (by simp; omega)).mono ?_
  rintro e w5 ⟨q, gq, rfl, hr5, hf5, hq5, hgq5⟩
  have hsz4 := hf4.size
  have hf5' : Fr [] w w5 := (hf3'.trans hf4 (by simp) (n := []) (by simp)).trans hf5 (by simp) (by simp)
  have hq : w.heap.size ≤ q := by have := hf3'.size; omega
  have hA := Later.conv (P := Try.prog) (L := [q]) (h0.below hf5') (fun k hk hne _ => by have := hlt0 hne k hk; simp; omega) 27 5 9 Try.underlying27 Try.underlying5 Try.underlying9
  have hB := Later.conv (P := Try.prog) (L := [q]) (h3.below hf5') (fun k hk hne _ => by have := hlt3 hne k hk; simp; omega) 27 5 9 Try.underlying27 Try.underlying5 Try.underlying9
  clear hw3 hf3' hb4 hf4 hf5 hq5 hgq5 hsz4 hsz2 h0 h3 hlt0 hlt3
  go_wp2_with fail
  refine wp_region_G [q] [(0, false), (1, false), (2, false), (5, false), (6, false), (3, true), (4, false), (7, false), (8, false), (9, false), (10, false), (11, false), (14, false), (15, false), (12, true), (13, false), (16, false), (17, false)] 71 rfl (by kernel_rfl) (by kernel_rfl) (by kernel_rfl) (fun c a d v w h => by cases d <;> exact h) (fun w6 hf6 => ?_)
  simp only [List.map_cons, List.map_nil, List.getElem?_toArray, List.getElem?_cons_succ, List.getElem?_cons_zero, Option.getD_some]
  have hA := hA.next (hf6.mono (by simp))
  have hB := hB.next (hf6.mono (by simp))
  have hr6 := hr5.kept hf6 (by simp) (by simp)
  repeat (apply wpG_t; · (intro w' hf; have cA := hA w' hf; have cB := hB w' hf; go_wp2; exact ⟨rfl, rfl⟩))
  refine wpG_x ?_
  go_wp2_with fail
  refine (take_some q gq _ ahead.length _ hr6 (by simp) (by simp; omega)).mono ?_
  rintro e w7 ⟨v7, rfl, hb7, hr7, hf7⟩
  rw [List.take_left] at hb7; rw [List.drop_left] at hr7
  have hA := hA.next hf7
  have hB := hB.next hf7
  have hC := Later.conv (P := Try.prog) (L := [q]) (bytesAt_of_owns hb7) (fun k hk _ _ => by have := (hb7.lt k hk).1; have := hr6.lt; simp; omega) 27 5 9 Try.underlying27 Try.underlying5 Try.underlying9
  go_wp2
  refine ⟨hf7, rfl, ?_⟩
  repeat (apply wpG_t; · (intro w' hf; have cA := hA w' hf; have cB := hB w' hf; have cC := hC w' hf; go_wp2; exact ⟨rfl, rfl⟩))
  refine wpG_x ?_
  go_wp2_with fail
  refine (take_some q gq _ part.length _ hr7 (by simp) (by simp; omega)).mono ?_
  rintro e w8 ⟨v8, rfl, hb8, hr8, hf8⟩
  rw [List.take_left] at hb8; rw [List.drop_left] at hr8
  have hD := Later.conv (P := Try.prog) (L := [q]) (bytesAt_of_owns hb8) (fun k hk _ _ => by have := (hb8.lt k hk).1; have := hr7.lt; simp; omega) 27 5 9 Try.underlying27 Try.underlying5 Try.underlying9
  go_wp2
  refine ⟨hf8, rfl, ?_⟩
  repeat (apply wpG_t; · (intro w' hf; have cD := hD w' hf; go_wp2; exact ⟨rfl, rfl⟩))
  refine wpG_end ?_
  have hq8 := hr8.lt
  have hfin : Fr [] w w8 := (((hf5'.trans hf6 (by simp) (n := []) (by simp)).trans hf7 (by simp) (n := []) (by simp; omega)).trans hf8 (by simp) (by simp; omega))
  clear hA hB hC hD hb7 hb8 hr5 hr6 hr7 hf6 hf7 hf8 hf5' hq8
  by_cases hok : okb = true
  · subst hok
    have hd := of_decide_eq_true HOK.out.symm
    have htail := HTL.out
    rw [if_pos hd] at htail
    subst htail
    have hvb := val_be n.toNat v hd.2.2
    have hd1 := hd.1
    have hd2 := hd.2.1
    obtain ⟨k, rfl⟩ := Int.eq_ofNat_of_zero_le (show 0 ≤ n by omega)
    simp only [Int.toNat_natCast] at *
    have hrn := rnum_some q gq _ k w8 hr8 (by rw [be_length]; omega) (by omega) (by omega)
    rw [List.take_of_length_le (by rw [be_length]; omega), hvb, List.drop_of_length_le (by rw [be_length]; omega)] at hrn
    have HN := Lib.hid hrn
    clear hrn hvb hd HOK HTL
    go_wp2_with (first
      | (go_at_call 15; refine HN.out.mono ?_; rintro e w9 ⟨rfl, hr9, hf9⟩; have HAll := Lib.hid (rall_any q gq _ _ _ hr9))
      | (go_at_call 19; refine HAll.out.mono ?_; rintro e w10 ⟨rfl, rfl⟩)
      | (go_at_call 7; refine (awake_any _).mono ?_; rintro e w11 ⟨rfl, hf11⟩))
    go_ret
    exact ⟨rfl, (hfin.trans hf9 (by simp) (n := []) (by simp; omega)).trans hf11 (by simp) (by simp)⟩
  · have hok' : okb = false := by simpa using hok
    subst hok'
    have hd := of_decide_eq_false HOK.out.symm
    have htail := HTL.out
    rw [if_neg hd] at htail
    subst htail
    have HAll := Lib.hid (rall_any q gq _ _ _ hr8)
    clear HOK HTL hok hd
    go_wp2_with (first
      | (go_at_call 19; refine HAll.out.mono ?_; rintro e w10 ⟨rfl, rfl⟩)
      | (go_at_call 7; refine (awake_any _).mono ?_; rintro e w11 ⟨rfl, hf11⟩))
    go_ret
    exact ⟨rfl, hfin.trans hf11 (by simp) (by simp)⟩

theorem back_any (v0 v3 : Value) (ahead part : List UInt8) (n : Int) (v : Nat) (w : World) (h0 : bytesAt w v0 ahead) (h3 : bytesAt w v3 part) (hv : v ≤ 18446744073709551615) :
    Calls Try.prog 5 #[v0, .int .i64 n, .int .u64 v, v3] w fun e w' => e = .returned (.bool true) ∧ Fr [] w w' := by
  by_cases hs : 400 < ahead.length ∨ 400 < part.length
  · exact back_big v0 v3 ahead part n v w h0 h3 hs
  · exact back_small v0 v3 ahead part n v w h0 h3 (by omega) (by omega) hv
end Go.Proofs.Ytkckkkcbiakblaa
