/- Contract of the document's Front: where there is no frame by its head. -/
import Derived.Test.YtijdffpekonklaaFraI
import Derived.Test.YtijdffpekonklaaCrcRef
import Derived.Test.YtijdffpekonklaaVarRef
namespace Go.Proofs.Ytijdffpekonklaa
open Go.RowKit

theorem results_tmp4 {fn : Func} {t u v x : Tmp} (h : fn.results = #[.tmp t, .tmp u, .tmp v, .tmp x]) (tmps : Array Value) (P : Program) (w : World) :
    (results fn tmps).run P w = .ok (.tuple #[tmps.getD t undef, tmps.getD u undef, tmps.getD v undef, tmps.getD x undef]) w := by
  simp [results, h]
def bad4 (y : Nat) : Value := .tuple #[.int .u8 0, .slice none 0 0, .int .i64 0, .int .i64 (y : Int)]
theorem rfront_none (bs : List UInt8) (sv : Value) (w : World) (h : bytesAt w sv bs) (hl : bs.length ≤ 1000000) (hf : front bs = none) :
    Calls Try.prog 28 #[sv] w fun e w' => e = .returned (.tuple #[.int .u64 0, .int .i64 0]) ∧ w = w' := by
  refine (ref_front_any bs sv w h hl).mono ?_
  rintro e w' ⟨x, n, h1 | ⟨-, rfl, rfl⟩, rfl, rfl⟩
  · rw [hf] at h1; cases h1
  · exact ⟨rfl, rfl⟩
theorem rfront_some (bs : List UInt8) (x n : Nat) (sv : Value) (w : World) (h : bytesAt w sv bs) (hl : bs.length ≤ 1000000) (hf : front bs = some (x, n)) :
    Calls Try.prog 28 #[sv] w fun e w' => e = .returned (.tuple #[.int .u64 (x : Int), .int .i64 (n : Int)]) ∧ w = w' := by
  refine (ref_front_any bs sv w h hl).mono ?_
  rintro e w' ⟨x', n', h1 | ⟨h1, -, -⟩, rfl, rfl⟩
  · rw [hf] at h1
    simp only [Option.some.injEq, Prod.mk.injEq] at h1
    obtain ⟨rfl, rfl⟩ := h1
    exact ⟨rfl, rfl⟩
  · rw [hf] at h1; cases h1

theorem rf_nil (sv : Value) (w : World) (h : bytesAt w sv []) :
    Calls Try.prog 13 #[sv] w fun e w' => e = .returned (bad4 2) ∧ w = w' := by
  obtain ⟨a0, c0, rfl, hle, hmx⟩ := h.form
  clear h
  simp only [List.length_nil]
  go_enter Try.func13, Try.ntmps13
  go_wp2_with fail
  refine bodyPost_ret (results_tmp4 rfl _ _ _) rfl ?_
  exact ⟨rfl, rfl⟩

/-- How far the loop has come. -/
def CutRel (bs : List UInt8) (i : Value) : Prop := ∃ k : Nat, 1 ≤ k ∧ k ≤ bs.length ∧ k ≤ 10 ∧ i = .int .i64 (k : Int) ∧ ∀ j (h : j < bs.length), 1 ≤ j → j < k → 128 ≤ (bs[j]'h).toNat
theorem cutB_at (bs : List UInt8) (k : Nat) (h1 : 1 ≤ k) (hk : k < bs.length) (h : (bs[k]'hk).toNat < 128 ∨ 10 ≤ k) : cutB (bs.drop 1) = false := by
  rw [cutB]
  rcases h with h | h
  · have hm : bs[k]'hk ∈ bs.drop 1 := by
      rw [List.mem_iff_getElem]
      obtain ⟨j, rfl⟩ : ∃ j, k = j + 1 := ⟨k - 1, by omega⟩
      exact ⟨j, by simp; omega, by simp⟩
    have : (bs.drop 1).all (fun b => decide (128 ≤ b.toNat)) = false := by
      rw [List.all_eq_false]
      exact ⟨_, hm, by simp; omega⟩
    rw [this, Bool.and_false]
  · rw [decide_eq_false (by simp; omega), Bool.false_and]
theorem cutB_all (bs : List UInt8) (h10 : bs.length ≤ 10) (h1 : 1 ≤ bs.length) (h : ∀ j (h : j < bs.length), 1 ≤ j → 128 ≤ (bs[j]'h).toNat) : cutB (bs.drop 1) = true := by
  rw [cutB, decide_eq_true (by simp; omega), Bool.true_and, List.all_eq_true]
  intro b hb
  rw [List.mem_iff_getElem] at hb
  obtain ⟨j, hj, rfl⟩ := hb
  simp only [List.length_drop] at hj
  simp only [List.getElem_drop, decide_eq_true_eq]
  exact h _ (by omega) (by omega)
set_option maxRecDepth 100000 in
theorem rf_none (bs : List UInt8) (sv : Value) (w : World) (h : bytesAt w sv bs) (hl : bs.length ≤ 100000) (h1 : 1 ≤ bs.length) (hf : front (bs.drop 1) = none) :
    Calls Try.prog 13 #[sv] w fun e w' => e = .returned (bad4 (if cutB (bs.drop 1) then 2 else 3)) ∧ Fr [] w w' := by
  have hcut := fun wx (hx : Fr [] w wx) => (h.below hx)
  obtain ⟨b, off, c0, rfl, hle, hmx, hcell⟩ : ∃ b off c0, sv = .slice (some ⟨b, off, none⟩) bs.length c0 ∧ bs.length ≤ c0 ∧ c0 ≤ maxLen ∧ ∀ i (h : i < bs.length), w.cell? ⟨b, off + i, none⟩ = some (.int .u8 ((bs[i]'h).toNat : Int)) := by
    rcases h with ⟨_, _, _, _, rfl⟩ | ⟨b, off, c, e, h3, h4, h5⟩
    · simp at h1
    · exact ⟨b, off, c, e, h3, h4, h5⟩
  have hc := h.cut (lo := 1) (hi := bs.length) h1 (Nat.le_refl _)
  rw [List.take_length] at hc
  have HR := Lib.hid (fun sx (hx : bytesAt w sx (bs.drop 1)) => rfront_none (bs.drop 1) sx w hx (by simp; omega) hf)
  obtain ⟨y, hy⟩ : ∃ y, y = if cutB (bs.drop 1) then 2 else 3 := ⟨_, rfl⟩
  rw [← hy]
  have HY := Lib.hid hy
  clear hy
  simp only [maxLen] at hmx
  have hd0 : ((bs.length : Int) == 0) = false := by rw [beq_eq_false_iff_ne]; omega
  have HCELL := Lib.hid hcell
  clear h hcut hf hcell
  by_cases hc1 : c0 = 1
  · have hL1 : bs.length = 1 := by omega
    subst hc1
    rw [if_pos rfl] at hc
    have hdn : bs.drop 1 = [] := List.drop_of_length_le (by omega)
    rw [hdn] at HR hc HY
    rw [hL1] at hc hd0 ⊢
    have HC := Lib.hid hc
    clear hc HCELL hdn
    go_enter Try.func13, Try.ntmps13
    go_wp2_with (go_at_call 28; refine (HR.out _ HC.out).mono ?_; rintro e w1 ⟨rfl, rfl⟩)
    go_loop [8] (fun i => i = .int .i64 1) (fun _ => 0)
    case atStart => rfl
    case round =>
      subst hrel
      go_wp2_with fail
      refine bodyPost_ret (results_tmp4 rfl _ _ _) rfl ?_
      exact ⟨by rw [HY.out]; rfl, Fr.refl _ _⟩
  · rw [if_neg hc1, Nat.mul_one] at hc
    have HC := Lib.hid hc
    clear hc
    go_enter Try.func13, Try.ntmps13
    go_wp2_with (go_at_call 28; refine (HR.out _ HC.out).mono ?_; rintro e w1 ⟨rfl, rfl⟩)
    go_loop [8] (CutRel bs) (fun i => bs.length - (intOf i).toNat)
    case atStart => exact ⟨1, Nat.le_refl _, h1, by omega, rfl, fun j _ h1 h2 => by omega⟩
    case round =>
      obtain ⟨k, hk1, hkn, hk10, rfl, hall⟩ := hrel
      by_cases hlt : k < bs.length
      · have hd1 : decide (k < bs.length) = true := decide_eq_true hlt
        have hc := HCELL.out k hlt
        by_cases h128 : (bs[k]'hlt).toNat < 128
        · have hd2 : decide (((bs[k]'hlt).toNat : Int) < 128) = true := decide_eq_true (by omega)
          have HB := Lib.hid (cutB_at bs k hk1 hlt (.inl h128))
          clear h128 hall
          go_wp2_with fail
          refine bodyPost_ret (results_tmp4 rfl _ _ _) rfl ?_
          exact ⟨by rw [HY.out, HB.out]; rfl, Fr.refl _ _⟩
        · have hd2 : decide (((bs[k]'hlt).toNat : Int) < 128) = false := decide_eq_false (by omega)
          by_cases hk : 10 ≤ k
          · have hd3 : decide ((10 : Int) ≤ (k : Int)) = true := decide_eq_true (by omega)
            have HB := Lib.hid (cutB_at bs k hk1 hlt (.inr hk))
            clear h128 hall
            go_wp2_with fail
            refine bodyPost_ret (results_tmp4 rfl _ _ _) rfl ?_
            exact ⟨by rw [HY.out, HB.out]; rfl, Fr.refl _ _⟩
          · have hd3 : decide ((10 : Int) ≤ (k : Int)) = false := decide_eq_false (by omega)
            have HALL : Hid (∀ j (h : j < bs.length), 1 ≤ j → j < k + 1 → 128 ≤ (bs[j]'h).toNat) := Lib.hid (fun j h h2 h3 => by
              by_cases e : j = k
              · subst e; omega
              · exact hall j h h2 (by omega))
            clear h128 hall
            go_wp2_with fail
            exact ⟨⟨k + 1, by omega, by omega, by omega, by go_num, HALL.out⟩, by simp [intOf]; omega⟩
      · have hd1 : decide (k < bs.length) = false := decide_eq_false hlt
        obtain rfl : k = bs.length := by omega
        have HB := Lib.hid (cutB_all bs hk10 hk1 (fun j h h2 => hall j h h2 h))
        clear hall
        go_wp2_with fail
        refine bodyPost_ret (results_tmp4 rfl _ _ _) rfl ?_
        exact ⟨by rw [HY.out, HB.out]; rfl, Fr.refl _ _⟩
end Go.Proofs.Ytijdffpekonklaa
