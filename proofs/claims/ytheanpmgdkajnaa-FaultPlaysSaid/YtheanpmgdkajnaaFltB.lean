/- Package fault: the statement's 'may', failure, Step's closure, slices.IndexFunc at it. -/
import Derived.Test.YtheanpmgdkajnaaFltA
import Derived.LoopTactic
namespace Go.Proofs.Ytheanpmgdkajnaa
open Go.RowKit

set_option maxRecDepth 100000 in
theorem may_any (f : FltD) (w : World) : Calls Try.prog 7 #[f.val] w fun e w' => e = .returned (.bool (mayF f)) ∧ Fr [] w w' := by
  obtain ⟨a, k⟩ := f
  unfold FltD.val
  have hfa := Fr.alloc w (.cells #[.int .i64 a, .int .i64 k] 31)
  have hmk : mayF ⟨a, k⟩ = (decide (1 ≤ k) && (decide (k ≤ 3) && (decide (1 ≤ a) && decide (a ≤ 1099511627776)))) := by simp [mayF]
  rw [hmk]
  have HF := Lib.hid hfa
  clear hfa hmk
  obtain ⟨b1, hb1⟩ : ∃ b1, b1 = decide (1 ≤ k) := ⟨_, rfl⟩
  obtain ⟨b2, hb2⟩ : ∃ b2, b2 = decide (k ≤ 3) := ⟨_, rfl⟩
  obtain ⟨b3, hb3⟩ : ∃ b3, b3 = decide (1 ≤ a) := ⟨_, rfl⟩
  obtain ⟨b4, hb4⟩ : ∃ b4, b4 = decide (a ≤ 1099511627776) := ⟨_, rfl⟩
  rw [← hb1, ← hb2, ← hb3, ← hb4]
  have h1 := hb1.symm
  have h2 := hb2.symm
  have h3 := hb3.symm
  have h4 := hb4.symm
  clear hb1 hb2 hb3 hb4
  cases b1 <;> (try cases b2) <;> (try cases b3) <;> (try cases b4) <;>
    (go_enter Try.func7, Try.ntmps7
     go_wp2_with fail
     go_ret
     exact ⟨rfl, HF.out⟩)

theorem failure_any (k : Int) (hk : 1 ≤ k ∧ k ≤ 3) (w : World) : Calls Try.prog 17 #[.int .i64 k] w fun e w' => e = .returned (.int .i64 (if k = 1 then 11 else k + 7)) ∧ w = w' := by
  have h3 : k = 1 ∨ k = 2 ∨ k = 3 := by omega
  rcases h3 with rfl | rfl | rfl <;>
    (go_enter Try.func17, Try.ntmps17
     go_wp2_with fail
     go_ret
     exact ⟨rfl, rfl⟩)

theorem one_of_heap {w : World} {p : Nat} {a : Value} {t : TypeId} (h : w.heap[p]? = some (.cells #[a] t (0, 0))) : w.cell? ⟨p, 0, none⟩ = some a ∧ w.frozen? ⟨p, 0, none⟩ = false :=
  ⟨by rw [cell_of_heap h]; rfl, free_of_heap h 0⟩
theorem two_of_heap {w : World} {p : Nat} {a b : Value} {t : TypeId} {fr : Nat × Nat} (h : w.heap[p]? = some (.cells #[a, b] t fr)) : w.cell? ⟨p, 0, none⟩ = some a ∧ w.cell? ⟨p, 1, none⟩ = some b :=
  ⟨by rw [cell_of_heap h]; rfl, by rw [cell_of_heap h]; rfl⟩
/-- What Step's closure reads: the box in which the meter's address lies, the steps of the meter. -/
def Sees (w : World) (q p : Nat) (n : Int) : Prop := w.heap[q]? = some (.cells #[.pointer (some ⟨p, 0, none⟩)] 24 (0, 0)) ∧ w.cell? ⟨p, 0, none⟩ = some (.int .i64 n)
theorem Sees.kept {w w' : World} {q p : Nat} {n : Int} {L : List Nat} (h : Sees w q p n) (hf : Fr L w w') (hq : q ∉ L) (hp : p ∉ L) : Sees w' q p n := ⟨hf.heap h.1 hq, hf.cell h.2 hp⟩
theorem Sees.below {w w' : World} {q p : Nat} {n : Int} (h : Sees w q p n) (hf : Fr [] w w') : Sees w' q p n := h.kept hf (by simp) (by simp)
set_option maxRecDepth 100000 in
theorem due_any (f : FltD) (q p : Nat) (n : Int) (w : World) (h : Sees w q p n) : Calls Try.prog 14 #[f.val, .pointer (some ⟨q, 0, none⟩)] w fun e w' => e = .returned (.bool (f.at_ == n)) ∧ Fr [] w w' := by
  obtain ⟨a, k⟩ := f
  unfold FltD.val
  obtain ⟨b, hb⟩ : ∃ b, b = (a == n) := ⟨_, rfl⟩
  show Calls _ _ _ _ fun e w' => e = .returned (.bool (a == n)) ∧ Fr [] w w'
  rw [← hb]
  have HB := hb.symm
  have hfa := Fr.alloc w (.cells #[.int .i64 a, .int .i64 k] 31)
  have HS := Lib.hid (h.below hfa)
  have hba := heap_alloc_new w (.cells #[.int .i64 a, .int .i64 k] 31)
  clear h hb
  go_enter Try.func14, Try.ntmps14
  go_wp2_with fail
  obtain ⟨w1, hw1⟩ : ∃ w1, w1 = w.alloc (.cells #[.int .i64 a, .int .i64 k] 31) := ⟨_, rfl⟩
  obtain ⟨r, hr⟩ : ∃ r, r = w.heap.size := ⟨_, rfl⟩
  rw [← hw1] at hfa HS hba ⊢
  rw [← hr] at hba ⊢
  obtain ⟨c0, c1⟩ := two_of_heap hba
  obtain ⟨d0, -⟩ := one_of_heap HS.out.1
  have e0 := HS.out.2
  have HF := Lib.hid hfa
  clear hw1 hr hba hfa HS
  go_quiet (fail)
  go_wp2_with fail
  go_ret
  exact ⟨rfl, HF.out.andDrewN _⟩
end Go.Proofs.Ytheanpmgdkajnaa
