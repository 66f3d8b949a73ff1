/- slices.IndexFunc at Step's closure. -/
import Derived.Test.YtheanpmgdkajnaaFltB
namespace Go.Proofs.Ytheanpmgdkajnaa
open Go.RowKit

/-- Where the first fault for the step stands; -1: there is none. -/
def IdxOf (l : List FltD) (n r : Int) : Prop := (r = -1 ∧ ∀ f ∈ l, f.at_ ≠ n) ∨ ∃ (k : Nat) (hk : k < l.length), r = k ∧ (l[k]'hk).at_ = n ∧ ∀ j, j < k → ∀ h : j < l.length, (l[j]'h).at_ ≠ n
def Idxd (l : List FltD) (n : Int) (w : World) (e : Ending) (w' : World) : Prop := ∃ r, e = .returned (.int .i64 r) ∧ IdxOf l n r ∧ Fr [] w w'
/-- Step's closure, as a value. -/
def dueV (q : Nat) : Value := .func (.func 14) #[] #[.pointer (some ⟨q, 0, none⟩)]
def IdxRel (w : World) (l : List FltD) (n : Int) (iv : Value) (wx : World) : Prop :=
  ∃ k : Nat, k ≤ l.length ∧ iv = .int .i64 (k : Int) ∧ (∀ j, j < k → ∀ h : j < l.length, (l[j]'h).at_ ≠ n) ∧ Fr [] w wx
set_option maxRecDepth 100000 in
theorem idx_any (l : List FltD) (lv : Value) (q p : Nat) (n : Int) (w : World) (h : faultsAt w lv l) (hs : Sees w q p n) :
    Calls Try.prog 15 #[lv, dueV q] w (Idxd l n w) := by
  obtain ⟨a0, c0, rfl, hle, hmx⟩ := h.form
  have hm' : c0 ≤ 9223372036854775807 := by simpa [maxLen] using hmx
  have HE := Lib.hid h
  have HS := Lib.hid hs
  unfold dueV
  clear h hs hmx
  go_enter Try.func15, Try.ntmps15
  go_wp2_with fail
  go_loopw [8] (IdxRel w l n) (fun iv _ => l.length - (intOf iv).toNat)
  case atStart => exact ⟨0, Nat.zero_le _, rfl, fun j hj => by omega, Fr.refl _ _⟩
  case round =>
    obtain ⟨k, hk, rfl, hall, hf⟩ := hrel
    by_cases hkn : k < l.length
    · have hd2 : decide (k < l.length) = true := decide_eq_true hkn
      obtain ⟨b, off, rfl, -, -, hc0, hc1⟩ := (HE.out.below hf).get k hkn
      have hdue := due_any (l[k]'hkn) q p n wr (HS.out.below hf)
      obtain ⟨f, hfe⟩ : ∃ f, f = l[k]'hkn := ⟨_, rfl⟩
      rw [← hfe] at hc0 hc1 hdue
      have HFE := Lib.hid hfe
      have HA := Lib.hid hall
      have HF := Lib.hid hf
      unfold FltD.val at hdue
      by_cases ha : f.at_ = n
      · rw [show (f.at_ == n) = true from by simp [ha]] at hdue
        have HD := Lib.hid hdue
        have HN := Lib.hid ha
        clear hdue hall hf hfe ha
        go_wp2_with (go_at_call 14; refine HD.out.mono ?_; rintro e w1 ⟨rfl, hf1⟩)
        go_ret
        exact ⟨_, rfl, .inr ⟨k, hkn, rfl, by rw [← HFE.out]; exact HN.out, HA.out⟩, HF.out.trans hf1 (by simp) (by simp)⟩
      · rw [show (f.at_ == n) = false from by simp [ha]] at hdue
        have HD := Lib.hid hdue
        have HN := Lib.hid ha
        clear hdue hall hf hfe ha
        go_wp2_with (go_at_call 14; refine HD.out.mono ?_; rintro e w1 ⟨rfl, hf1⟩)
        refine ⟨⟨k + 1, by omega, by go_num, fun j hj hjl => ?_, HF.out.trans hf1 (by simp) (by simp)⟩, by simp [intOf]; omega⟩
        by_cases e : j = k
        · subst e; rw [← HFE.out]; exact HN.out
        · exact HA.out j (by omega) hjl
    · have hd2 : decide (k < l.length) = false := decide_eq_false hkn
      have HA := Lib.hid hall
      have HF := Lib.hid hf
      have HKN := Lib.hid hkn
      clear hall hf hkn
      go_wp2_with fail
      go_ret
      refine ⟨_, rfl, .inl ⟨rfl, fun f hfm => ?_⟩, HF.out⟩
      obtain ⟨j, hj, rfl⟩ := List.getElem_of_mem hfm
      exact HA.out j (by have := HKN.out; omega) hj
theorem idx_none (l : List FltD) (lv : Value) (q p : Nat) (n : Int) (w : World) (h : faultsAt w lv l) (hs : Sees w q p n) (hn : ∀ f ∈ l, f.at_ ≠ n) :
    Calls Try.prog 15 #[lv, dueV q] w fun e w' => e = .returned (.int .i64 (-1)) ∧ Fr [] w w' :=
  (idx_any l lv q p n w h hs).mono (by
    rintro e w' ⟨r, rfl, hr, hf⟩
    rcases hr with ⟨rfl, -⟩ | ⟨k, hk, rfl, ha, -⟩
    · exact ⟨rfl, hf⟩
    · exact (hn _ (List.getElem_mem hk) ha).elim)
theorem idx_some (l : List FltD) (lv : Value) (q p : Nat) (n : Int) (w : World) (h : faultsAt w lv l) (hs : Sees w q p n) (k : Nat) (hk : k < l.length) (ha : (l[k]'hk).at_ = n) (hb : ∀ j, j < k → ∀ h : j < l.length, (l[j]'h).at_ ≠ n) :
    Calls Try.prog 15 #[lv, dueV q] w fun e w' => e = .returned (.int .i64 (k : Int)) ∧ Fr [] w w' :=
  (idx_any l lv q p n w h hs).mono (by
    rintro e w' ⟨r, rfl, hr, hf⟩
    rcases hr with ⟨rfl, hn⟩ | ⟨k', hk', rfl, ha', hb'⟩
    · exact (hn _ (List.getElem_mem hk) ha).elim
    · obtain rfl : k' = k := by
        rcases Nat.lt_trichotomy k' k with h | h | h
        · exact (hb k' h hk' ha').elim
        · exact h
        · exact (hb' k h hk ha).elim
      exact ⟨rfl, hf⟩)
end Go.Proofs.Ytheanpmgdkajnaa
