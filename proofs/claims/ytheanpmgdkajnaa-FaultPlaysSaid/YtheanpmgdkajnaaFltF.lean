/- Package fault: Step. -/
import Derived.Test.YtheanpmgdkajnaaFltE
namespace Go.Proofs.Ytheanpmgdkajnaa
open Go.RowKit

theorem step_down (p : Nat) (B : List Nat) (n : Int) (l : List FltD) (w : World) (h : isM w p B n true l) :
    Calls Try.prog 6 #[.pointer (some ⟨p, 0, none⟩)] w fun e w' => e = .returned (.int .i64 11) ∧ TurnedM p B n true l w w' := by
  have hfa := Fr.alloc w (.cells #[.pointer (some ⟨p, 0, none⟩)] 24)
  have hba := heap_alloc_new w (.cells #[.pointer (some ⟨p, 0, none⟩)] 24)
  obtain ⟨c0, -⟩ := one_of_heap hba
  have HF := Lib.hid hfa
  have HM := Lib.hid h
  clear hfa hba h
  go_enter Try.func6, Try.ntmps6
  go_wp2_with (go_at_call 13; refine (mdown_any p B n true l _ (HM.out.below HF.out)).mono ?_; rintro e w1 ⟨rfl, rfl⟩)
  go_ret
  exact ⟨rfl, B, HM.out.below HF.out, HF.out.mono (by simp), fun k hk => .inl hk⟩
/-- Behind the box: the world in which the steps are counted. -/
theorem step_box {w : World} {p : Nat} {B : List Nat} {n : Int} {dn : Bool} {l : List FltD} (h : isM w p B n dn l) : ∃ q w1, w1 = w.alloc (.cells #[.pointer (some ⟨p, 0, none⟩)] 24) ∧ q = w.heap.size ∧ isM w1 p B n dn l ∧
    w1.heap[q]? = some (.cells #[.pointer (some ⟨p, 0, none⟩)] 24 (0, 0)) ∧ Fr [] w w1 ∧ ∀ k ∈ B, k < q := by
  have hfa := Fr.alloc w (.cells #[.pointer (some ⟨p, 0, none⟩)] 24)
  exact ⟨_, _, rfl, rfl, h.below hfa, heap_alloc_new _ _, hfa, h.lt⟩
/-- Behind the count: the world in which the faults are sought. -/
theorem step_head {w1 : World} {p q : Nat} {n : Int} {v : Value} {l : List FltD} (hp : w1.heap[p]? = some (.cells #[.int .i64 n, .bool false, v] 39 (0, 0))) (ho : w1.ownsRow 0 31 2 v l.length (fcells l))
    (hq : w1.heap[q]? = some (.cells #[.pointer (some ⟨p, 0, none⟩)] 24 (0, 0))) (hpq : p ≠ q) :
    (w1.setCell ⟨p, 0, none⟩ (.int .i64 (n + 1))).heap[p]? = some (.cells #[.int .i64 (n + 1), .bool false, v] 39 (0, 0)) ∧ (w1.setCell ⟨p, 0, none⟩ (.int .i64 (n + 1))).ownsRow 0 31 2 v l.length (fcells l) ∧
      Sees (w1.setCell ⟨p, 0, none⟩ (.int .i64 (n + 1))) q p (n + 1) ∧ Fr [p] w1 (w1.setCell ⟨p, 0, none⟩ (.int .i64 (n + 1))) := by
  have hfs := Fr.set0 w1 p 0 (.int .i64 (n + 1))
  have hp2 := heap_setCell_same (i := 0) hp (.int .i64 (n + 1))
  refine ⟨by simpa using hp2, owns_kept ho hfs (fun k hk => by simpa using row_not_meter hp ho k hk), ⟨hfs.heap hq (by simpa using Ne.symm hpq), ?_⟩, hfs⟩
  rw [cell_of_heap hp2]
  rfl
set_option maxRecDepth 100000 in
theorem step_none (p : Nat) (B : List Nat) (n : Int) (l : List FltD) (w : World) (h : isM w p B n false l) (hn : 0 ≤ n ∧ n < 1000000) (hno : ∀ f ∈ l, f.at_ ≠ n + 1) :
    Calls Try.prog 6 #[.pointer (some ⟨p, 0, none⟩)] w fun e w' => e = .returned (.int .i64 0) ∧ TurnedM p B (n + 1) false l w w' := by
  have hmf : ∀ (fn : Fn) (first cap : Array Value) (w : World), (Instr.makeFunc fn first cap).run Try.prog w = .ok (.func fn first cap) w := fun _ _ _ _ => rfl
  obtain ⟨hn0, hn1⟩ := hn
  obtain ⟨q, w1, hw1, hq, hM, hbq, hf1, hlt⟩ := step_box h
  clear h
  go_enter Try.func6, Try.ntmps6
  go_wp2_with fail
  rw [← hw1, ← hq]
  have hdn := mdown_any p B n false l w1 hM
  obtain ⟨v, rfl, hp, ho⟩ := hM
  have hpq : p < q := hlt p (by simp)
  obtain ⟨hp2, ho2, hs2, hf2⟩ := step_head hp ho hbq (by omega)
  obtain ⟨d0, -⟩ := one_of_heap hbq
  obtain ⟨c0, c1, c2, f0, f1, f2⟩ := three_of_heap hp
  obtain ⟨b0, b1, b2, g0, g1, g2⟩ := three_of_heap hp2
  obtain ⟨k0, -⟩ := one_of_heap hs2.1
  have HIX := Lib.hid (idx_none l v q p (n + 1) _ (faults_of_owns ho2) hs2 hno)
  have HF2 := Lib.hid (hf1.trans hf2 (n := [p]) (by simp) (fun _ h _ => h))
  have HP2 := Lib.hid hp2
  have HO2 := Lib.hid ho2
  have hov := owns_slice ho
  obtain ⟨a0, cap, rfl, -, -⟩ := hov
  clear hp ho hp2 ho2 hs2 hf2 hno hlt hf1 hbq hw1 hq
  unfold dueV at HIX
  refine hdn.mono ?_
  rintro e w1' ⟨rfl, rfl⟩
  go_wp2_with (go_at_call 15; refine HIX.out.mono ?_; rintro e w3 ⟨rfl, hf3⟩)
  go_ret
  have hf3' : Fr [p] w w3 := HF2.out.trans hf3 (fun _ h _ => h) (by simp)
  exact ⟨rfl, _, ⟨_, rfl, hf3.heap HP2.out (by simp), owns_kept HO2.out hf3 (by simp)⟩, hf3'.mono (by simp), fun k hk => .inl hk⟩
end Go.Proofs.Ytheanpmgdkajnaa
