/- What the statement of layer 10 calls beside fault: awake. -/
import Derived.Test.YtheanpmgdkajnaaFltJ
namespace Go.Proofs.Ytheanpmgdkajnaa
open Go.RowKit

theorem Fr.new {w w1 w2 : World} {B : List Nat} (h : Fr [] w w1) (k : Fr B w1 w2) (hB : ∀ i ∈ B, w.heap.size ≤ i) : Fr [] w w2 := h.trans k (by simp) (fun i hi hlt => by have := hB i hi; omega)
theorem faultsAt_new (w : World) (l : List FltD) (e : TypeId) (n : Nat) (hn : n = l.length) (h : l.length ≤ maxLen) (cs : Array Value) (hcs : cs = (fcells l).toArray) : faultsAt (w.alloc (.cells cs e)) (.slice (some ⟨w.heap.size, 0, none⟩) n n) l := by
  subst hn hcs
  have ho : (w.alloc (.cells (fcells l).toArray e)).ownsRow 0 e 2 (.slice (some ⟨w.heap.size, 0, none⟩) l.length l.length) l.length (fcells l) :=
    ⟨fcells_length l, .inr ⟨_, l.length, (fcells l).toArray, rfl, Nat.zero_le _, heap_alloc_new _ _, Nat.le_refl _, h, by simp [fcells_length], by simp [← fcells_length]⟩⟩
  exact faults_of_owns ho
abbrev fA : List FltD := [⟨2, 3⟩, ⟨3, 1⟩, ⟨0, 1⟩]
abbrev fB : List FltD := [⟨2, 3⟩, ⟨3, 1⟩]
theorem aw_arm (p : Nat) (B : List Nat) (w : World) (h : isM w p B 0 false []) (hf : faultsAt (w.alloc (.cells #[.int .i64 2, .int .i64 3, .int .i64 3, .int .i64 1, .int .i64 0, .int .i64 1] 31)) (.slice (some ⟨w.heap.size, 0, none⟩) 3 3) fA) :
    Calls Try.prog 8 #[.pointer (some ⟨p, 0, none⟩), .slice (some ⟨w.heap.size, 0, none⟩) 3 3] (w.alloc (.cells #[.int .i64 2, .int .i64 3, .int .i64 3, .int .i64 1, .int .i64 0, .int .i64 1] 31)) fun e w' => e = .returned (.int .i64 2) ∧ TurnedM p B 0 false fB (w.alloc (.cells #[.int .i64 2, .int .i64 3, .int .i64 3, .int .i64 1, .int .i64 0, .int .i64 1] 31)) w' :=
  arm_any p B 0 false [] fA _ _ (h.below (Fr.alloc _ _)) hf (by decide) (by decide) (fun k hk _ hm => by
    have := h.lt k hm
    have e : w.heap.size = k := by simpa [Value.ownBlock] using hk
    omega)
theorem aw_step1 (p : Nat) (B : List Nat) (w : World) (h : isM w p B 0 false fB) : Calls Try.prog 6 #[.pointer (some ⟨p, 0, none⟩)] w fun e w' => e = .returned (.int .i64 0) ∧ TurnedM p B 1 false fB w w' :=
  step_any p B 0 false fB w h (by decide) (by simp [kindsOk])
theorem aw_step2 (p : Nat) (B : List Nat) (w : World) (h : isM w p B 1 false fB) : Calls Try.prog 6 #[.pointer (some ⟨p, 0, none⟩)] w fun e w' => e = .returned (.int .i64 10) ∧ TurnedM p B 2 false [⟨3, 1⟩] w w' :=
  step_any p B 1 false fB w h (by decide) (by simp [kindsOk])
theorem aw_step3 (p : Nat) (B : List Nat) (w : World) (h : isM w p B 2 false [⟨3, 1⟩]) : Calls Try.prog 6 #[.pointer (some ⟨p, 0, none⟩)] w fun e w' => e = .returned (.int .i64 11) ∧ TurnedM p B 3 true [] w w' :=
  step_any p B 2 false [⟨3, 1⟩] w h (by decide) (by simp [kindsOk])
set_option maxRecDepth 100000 in
set_option maxHeartbeats 1000000 in
theorem awake_any (w : World) : Calls Try.prog 4 #[] w fun e w' => e = .returned (.bool true) ∧ Fr [] w w' := by
  go_enter Try.func4, Try.ntmps4
  go_wp2_with (first
    | (go_at_call 5; refine (mnew_any _).mono ?_; rintro e w1 ⟨p, B1, rfl, hM1, hf1, hB1⟩; have M1 := Lib.hid hM1; have F1 := Lib.hid hf1; have R1 := Lib.hid hB1; clear hM1 hf1 hB1)
    | (go_at_call 8; refine (aw_arm p B1 w1 M1.out (faultsAt_new w1 fA _ 3 rfl (by decide) _ rfl)).mono ?_; rintro e w2 ⟨rfl, B2, hM2, hf2, hB2⟩; have M2 := Lib.hid hM2; have F2 := Lib.hid ((F1.out.trans (Fr.alloc w1 _) (by simp) (n := []) (by simp)).new hf2 R1.out); have R2 : Hid (∀ k ∈ B2, w.heap.size ≤ k) := Lib.hid (fun k hk => (hB2 k hk).elim (R1.out k) (fun h => by have := F1.out.size; simp at h; omega)); clear M1 hM2 hf2 hB2)
    | (go_at_call 6; refine (aw_step3 p B4 _ M4.out).mono ?_; rintro e w5 ⟨rfl, B5, hM5, hf5, hB5⟩; have M5 := Lib.hid hM5; have F5 := Lib.hid (F4.out.new hf5 R4.out); clear hM5 hf5 hB5)
    | (go_at_call 6; refine (aw_step2 p B3 _ M3.out).mono ?_; rintro e w4 ⟨rfl, B4, hM4, hf4, hB4⟩; have M4 := Lib.hid hM4; have F4 := Lib.hid (F3.out.new hf4 R3.out); have R4 : Hid (∀ k ∈ B4, w.heap.size ≤ k) := Lib.hid (fun k hk => (hB4 k hk).elim (R3.out k) (fun h => by have := F3.out.size; omega)); clear M3 hM4 hf4 hB4)
    | (go_at_call 6; refine (aw_step1 p B2 _ M2.out).mono ?_; rintro e w3 ⟨rfl, B3, hM3, hf3, hB3⟩; have M3 := Lib.hid hM3; have F3 := Lib.hid (F2.out.new hf3 R2.out); have R3 : Hid (∀ k ∈ B3, w.heap.size ≤ k) := Lib.hid (fun k hk => (hB3 k hk).elim (R2.out k) (fun h => by have := F2.out.size; omega)); clear M2 hM3 hf3 hB3)
    | (go_at_call 13; refine (mdown_any p B5 3 true [] _ M5.out).mono ?_; rintro e w6 ⟨rfl, rfl⟩)
    | (go_at_call 12; refine (msteps_any p B5 3 true [] _ M5.out).mono ?_; rintro e w6 ⟨rfl, rfl⟩))
  go_ret
  exact ⟨rfl, F5.out⟩
end Go.Proofs.Ytheanpmgdkajnaa
