/- Package fault: Armed. -/
import Derived.Test.YtmchnaojlnjmjaaFt
import Derived.OwnWalk
namespace Go.Proofs.Ytmchnaojlnjmjaa
open Go.RowKit

def backF (l : List FltD) (n : Int) : List FltD := l.map fun f => ⟨f.at_ - n, f.kind⟩
theorem backF_take (l : List FltD) (n : Int) (k : Nat) (hk : k < l.length) : backF (l.take (k + 1)) n = backF (l.take k) n ++ [⟨(l[k]'hk).at_ - n, (l[k]'hk).kind⟩] := by
  rw [List.take_succ_eq_append_getElem hk]
  unfold backF
  rw [List.map_append]
  rfl
theorem backF_length (l : List FltD) (n : Int) : (backF l n).length = l.length := by simp [backF]
/-- What Armed gives. -/
def Armd (l : List FltD) (n : Int) (w : World) (e : Ending) (w' : World) : Prop := ∃ v, e = .returned v ∧ faultsAt w' v (backF l n) ∧ Fr [] w w'
def ArmedRel (w : World) (l : List FltD) (n : Int) (v3 iv : Value) (wx : World) : Prop :=
  ∃ k : Nat, k ≤ l.length ∧ iv = .int .i64 (k : Int) ∧ wx.ownsRow w.heap.size 66 2 v3 k (fcells (backF (l.take k) n)) ∧ Fr [] w wx
set_option maxRecDepth 100000 in
set_option maxHeartbeats 1000000 in
theorem armed_any (p : Nat) (B : List Nat) (n : Int) (dn : Bool) (l : List FltD) (w : World) (h : isM w p B n dn l) (hn : 0 ≤ n ∧ n < 1000000) (hlen : l.length ≤ 1000000) (hat : ∀ f ∈ l, 0 ≤ f.at_ ∧ f.at_ ≤ 2199023255552) :
    Calls Try.prog 18 #[.pointer (some ⟨p, 0, none⟩)] w (Armd l n w) := by
  obtain ⟨ti, hti, hz0, hz1, hz2⟩ := info_parts infoF
  obtain ⟨hn0, hn1⟩ := hn
  obtain ⟨v, hB, hp, ho⟩ := h
  have hfl := faults_of_owns ho
  obtain ⟨a0, c0, rfl, hlc, hmx⟩ := owns_slice ho
  have hm' : c0 ≤ 9223372036854775807 := by simpa [maxLen] using hmx
  obtain ⟨x0, x1, x2, -, -, -⟩ := three_of_heap hp
  have HP := Lib.hid hp
  have HFL := Lib.hid hfl
  have HAT := Lib.hid hat
  clear hp ho hB hfl hat hmx
  go_enter Try.func18, Try.ntmps18
  go_wp2_with (at_make; refine wpList_make_own w rfl _ _ 48 rfl w.heap.size 66 ti _ 2 Try.underlying48 hti hz0 hz1 .i64 .i64 _ l.length rfl rfl rfl (by rw [hz2]; omega) (by simp [maxLen]; omega) (Nat.le_refl _) ?_; intro w1 hrow1 hg1; have hf1 : Fr [] w w1 := Fr.of_grown hg1; obtain ⟨y0, y1, y2, -, -, -⟩ := three_of_heap (hf1.heap HP.out (by simp)))
  have HROW := Lib.hid hrow1
  have HF1 := Lib.hid hf1
  clear hrow1 hf1 hg1 y0 y1 y2 x0 x1 x2
  obtain ⟨W1, hW1⟩ : ∃ W1, W1 = w1.heap.size := ⟨_, rfl⟩
  clear hW1 W1
  go_loopw [3, 19] (ArmedRel w l n) (fun _ iv _ => l.length - (intOf iv).toNat)
  case atStart => exact ⟨0, Nat.zero_le _, rfl, HROW.out, HF1.out⟩
  case round =>
    obtain ⟨k, hk, rfl, hrow, hf⟩ := hrel
    by_cases hkn : k < l.length
    · have hd2 : decide (k < l.length) = true := decide_eq_true hkn
      obtain ⟨b, off, rfl, -, -, hc0, hc1⟩ := (HFL.out.below hf).get k hkn
      have htk := backF_take l n k hkn
      have hatk := HAT.out _ (List.getElem_mem hkn)
      obtain ⟨f, hfe⟩ : ∃ f, f = l[k]'hkn := ⟨_, rfl⟩
      rw [← hfe] at hc0 hc1 htk hatk
      obtain ⟨hat1, hat2⟩ := hatk
      have hfa := Fr.alloc wr (.cells #[.int .i64 f.at_, .int .i64 f.kind] 66)
      have hba := heap_alloc_new wr (.cells #[.int .i64 f.at_, .int .i64 f.kind] 66)
      have hpa := hfa.heap (hf.heap HP.out (by simp)) (by simp)
      have hro := owns_kept hrow hfa (by simp)
      obtain ⟨a3, c3, rfl, hlc3, hcm3⟩ := owns_slice hrow
      have HPA := Lib.hid hpa
      have HFA := Lib.hid hfa
      have HBA := Lib.hid hba
      have HRO := Lib.hid hro
      have HF := Lib.hid hf
      have HTK := Lib.hid htk
      have hlt3 : ∀ j, (Value.slice a3 k c3).ownBlock = some j → w.heap.size ≤ j ∧ j < wr.heap.size := fun j hj => hrow.lt j hj
      have HL3 := Lib.hid hlt3
      clear hfa hba hpa hro hrow hf htk hfe hlt3
      go_wp2_with fail
      obtain ⟨w1', hw1⟩ : ∃ w1', w1' = wr.alloc (.cells #[.int .i64 f.at_, .int .i64 f.kind] 66) := ⟨_, rfl⟩
      obtain ⟨r, hr⟩ : ∃ r, r = wr.heap.size := ⟨_, rfl⟩
      rw [← hw1] at HPA HFA HBA HRO ⊢
      rw [← hr] at HBA HL3 ⊢
      have hpw := (Array.getElem?_eq_some_iff.1 HP.out).1
      have hfw := HF.out.size
      have hrw : w.heap.size ≤ r := by rw [hr]; exact hfw
      clear hw1 hr
      refine wp_region_G (Value.slice a3 k c3).ownBlock.toList [(0, false), (1, false), (2, false), (3, false), (4, false), (5, false), (6, false), (7, false), (8, false), (9, false), (10, false), (11, true), (12, true), (13, false)] 38 rfl (by kernel_rfl) (by kernel_rfl) (by kernel_rfl) (fun c a d v w h => by cases d <;> exact h) (fun w4 hf4 => ?_)
      simp only [List.map_cons, List.map_nil, List.getElem?_toArray, List.getElem?_cons_succ, List.getElem?_cons_zero, Option.getD_some]
      have LB4 : Hid (Later (Value.slice a3 k c3).ownBlock.toList w4 (fun w' => w'.heap[r]? = some (.cells #[.int .i64 f.at_, .int .i64 f.kind] 66 (0, 0)))) := Lib.hid (fun w' hf' => hf'.heap (hf4.heap HBA.out (by simp)) (fun hm => by have h1 := HL3.out r (Option.mem_toList.1 hm); omega))
      have LP4 : Hid (Later (Value.slice a3 k c3).ownBlock.toList w4 (fun w' => w'.heap[p]? = some (.cells #[.int .i64 n, .bool dn, .slice (some ⟨b, off, none⟩) l.length c0] 71 (0, 0)))) := Lib.hid (fun w' hf' => hf'.heap (hf4.heap HPA.out (by simp)) (fun hm => by have h1 := HL3.out p (Option.mem_toList.1 hm); omega))
      have hrow4 := owns_kept HRO.out hf4 (by simp)
      have HR4 := Lib.hid hrow4
      have HF4 := Lib.hid hf4
      clear hrow4 hf4
      repeat (apply wpG_t; · (intro w' hf'; obtain ⟨y0, y1, y2, -, -, -⟩ := three_of_heap (LP4.out w' hf'); obtain ⟨d0, d1⟩ := two_of_heap (LB4.out w' hf'); go_wp2_with fail; exact ⟨rfl, rfl⟩))
      refine wpG_x ?_
      go_wp2_with fail
      have hfe := Fr.alloc w4 (.cells #[.int .i64 (f.at_ - n), .int .i64 f.kind] 66)
      refine ⟨hfe.mono (by simp), rfl, ?_⟩
      refine wpG_x ?_
      have hws : w.heap.size ≤ w4.heap.size := by have := HFA.out.size; have := HF4.out.size; omega
      go_wp2_with (at_builtin; refine wpL_appendS rfl (.tmp 23) (.tmp 34) 48 rfl w.heap.size 66 ti _ 2 16 Try.underlying48 hti hz0 hz1 hz2 (by rfl) (by decide) (.slice a3 k c3) k _ rfl HR4.out [.int .i64 (f.at_ - n), .int .i64 f.kind] rfl (by intro u hu; simp at hu; rcases hu with rfl | rfl <;> rfl) rfl (by omega) (by simp [maxLen]; omega) hws ?_; intro v5 w5 hown5 hf5 hb5)
      obtain ⟨a5, c5, rfl, hc5, hm5⟩ := owns_slice hown5
      refine ⟨hf5, rfl, ?_⟩
      have hf45 : Fr (Value.slice a3 k c3).ownBlock.toList w4 w5 := hfe.trans hf5 (by simp) (fun _ hk _ => hk)
      have HF45 := Lib.hid hf45
      have HO5 := Lib.hid hown5
      clear hf45 hown5 hb5 hf5 hfe
      repeat (apply wpG_t; · (intro w' hf'; go_wp2_with fail; exact ⟨rfl, rfl⟩))
      refine wpG_end ?_
      go_wp2_with fail
      refine ⟨⟨k + 1, by omega, by go_num, ?_, ?_⟩, by simp [intOf]; omega⟩
      · rw [HTK.out, fcells_append]
        exact HO5.out
      · have h1 : Fr [] w w4 := (HF.out.trans HFA.out (n := []) (by simp) (by simp)).trans HF4.out (by simp) (by simp)
        exact h1.trans HF45.out (by simp) (fun j hj hlt => by have := HL3.out j (Option.mem_toList.1 hj); omega)
    · have hd2 : decide (k < l.length) = false := decide_eq_false hkn
      obtain rfl : k = l.length := by omega
      rw [List.take_length, ← backF_length l n] at hrow
      have HR := Lib.hid hrow
      have HF := Lib.hid hf
      obtain ⟨a3, c3, rfl, hlc3, hcm3⟩ := owns_slice hrow
      clear hrow hf
      go_wp2_with fail
      go_ret
      exact ⟨_, rfl, faults_of_owns HR.out, HF.out⟩
end Go.Proofs.Ytmchnaojlnjmjaa
