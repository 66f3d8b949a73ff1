/- Stage 17: Less; the law's dec and tail. -/
import Derived.Test.YtjlkcdmeiakkbaaDoorKyB
import Derived.Test.YtjlkcdmeiakkbaaDoorKyS
import Derived.Test.YtjlkcdmeiakkbaaDoorKyJ
import Derived.Test.YtjlkcdmeiakkbaaDoorDirLs
import Derived.BigRegion
import Derived.Deep.DeepCutAuto
set_option linter.unusedVariables false
set_option linter.unusedSimpArgs false
namespace Go.Proofs.YtjlkcdmeiakkbaaDoor
open Go.RowKit

theorem bytesLess_lessB : ∀ a b : List UInt8, Op.bytesLess a b = lessB a b
  | [], [] => rfl
  | [], _ :: _ => rfl
  | _ :: _, [] => rfl
  | x :: a, y :: b => by
    have ih := bytesLess_lessB a b
    unfold Op.bytesLess lessB
    by_cases e : x = y
    · subst e
      simp [ih]
    · have hn : x.toNat ≠ y.toNat := fun q => e (UInt8.toNat_inj.1 q)
      rw [if_neg e]
      by_cases h : x < y
      · have : x.toNat < y.toNat := h
        simp [h, this]
      · have : ¬ x.toNat < y.toNat := h
        simp [h, this, e]
theorem mk_toList (l : List UInt8) : (ByteArray.mk l.toArray).toList = l := by
  rw [ByteArray.toList_eq]

set_option maxRecDepth 100000 in
theorem kless_any (h1 h2 : List UInt8) (k1 k2 : Int) (w : World) (hl1 : h1.length = 32) (hl2 : h2.length = 32) (hv : VarsAt w) :
    Calls Tryd.prog 9 #[.agg (keyC h1 k1), .agg (keyC h2 k2)] w fun e w' => e = .returned (.bool (lessB (keyT h1 k1) (keyT h2 k2))) ∧ Fr [] w w' := by
  have heq := equal_keys h1 h2 k1 k2 hl1 hl2
  have hcs1 := sizeK (k := k1) hl1
  have hcs2 := sizeK (k := k2) hl2
  have HT1 := Lib.hid (fun wx (hv : VarsAt wx) => ktext_any h1 k1 wx hl1 hv)
  have HT2 := Lib.hid (fun wx (hv : VarsAt wx) => ktext_any h2 k2 wx hl2 hv)
  have HV := Lib.hid hv
  obtain ⟨L, hL⟩ : ∃ L, L = lessB (keyT h1 k1) (keyT h2 k2) := ⟨_, rfl⟩
  rw [← hL]
  have hbl : Op.bytesLess (ByteArray.mk (keyT h1 k1).toArray).toList (ByteArray.mk (keyT h2 k2).toArray).toList = L := by rw [mk_toList, mk_toList, bytesLess_lessB, hL]
  obtain ⟨X1, hX1⟩ : ∃ X, X = (keyT h1 k1).toArray := ⟨_, rfl⟩
  obtain ⟨X2, hX2⟩ : ∃ X, X = (keyT h2 k2).toArray := ⟨_, rfl⟩
  obtain ⟨C1, hC1⟩ : ∃ C, C = keyC h1 k1 := ⟨_, rfl⟩
  obtain ⟨C2, hC2⟩ : ∃ C, C = keyC h2 k2 := ⟨_, rfl⟩
  rw [← hX1, ← hC1] at HT1
  rw [← hX2, ← hC2] at HT2
  rw [← hX1, ← hX2] at hbl
  rw [← hC1, ← hC2] at heq
  rw [← hC1] at hcs1
  rw [← hC2] at hcs2
  rw [← hC1, ← hC2]
  by_cases e : h1 = h2 ∧ k1 = k2
  · rw [decide_eq_true e] at heq
    have hLf : L = false := by rw [hL, e.1, e.2, lessB_irr]
    rw [hLf]
    clear hX1 hX2 hC1 hC2 hL hLf hbl e hv hl1 hl2
    go_enter Tryd.func9, Tryd.ntmps9
    go_wp2_with (first
      | (refine wpL_boxArr rfl _ _ rfl C1 rfl ?_; intro w1 hh1 hf1 hs1; refine wpL_boxArr rfl _ _ rfl C2 rfl ?_; intro w2 hh2 hf2 hs2))
    refine wp_region_G [] [(0, false), (1, false), (2, false), (3, false), (4, false), (6, false), (5, true), (7, true), (8, false), (9, false), (10, false)] 15 rfl (by kernel_rfl) (by kernel_rfl) (by kernel_rfl) (fun c a d v w h => by cases d <;> exact h) (fun w3 hf3 => ?_)
    simp only [List.map_cons, List.map_nil, List.getElem?_toArray, List.getElem?_cons_succ, List.getElem?_cons_zero, Option.getD_some]
    have L1 : Later [] w3 (fun w' => w'.heap[w.heap.size]? = some (.cells C1 24 (0, 0))) := fun w' hf' => hf'.heap (hf3.heap (hf2.heap hh1.out (by simp)) (by simp)) (by simp)
    have L2 : Later [] w3 (fun w' => w'.heap[w1.heap.size]? = some (.cells C2 24 (0, 0))) := fun w' hf' => hf'.heap (hf3.heap hh2.out (by simp)) (by simp)
    repeat (apply wpG_t; · (intro w' hf'; have c1 := L1 w' hf'; have c2 := L2 w' hf'; go_wp2_with (first | (refine wpList_load_row rfl _ _ rfl w.heap.size rfl _ C1 _ _ c1 Tryd.underlying24 rfl hcs1 ?_) | (refine wpList_load_row rfl _ _ rfl w1.heap.size rfl _ C2 _ _ c2 Tryd.underlying24 rfl hcs2 ?_)); exact ⟨rfl, rfl⟩))
    refine wpG_x ?_
    go_wp2_with fail
    refine ⟨Fr.refl _ _, rfl, ?_⟩
    refine wpG_x ?_
    go_wp2_with fail
    refine ⟨Fr.refl _ _, rfl, ?_⟩
    repeat (apply wpG_t; · (intro w' hf'; go_wp2_with fail; exact ⟨rfl, rfl⟩))
    refine wpG_end ?_
    go_wp2_with fail
    go_ret
    exact ⟨rfl, (hf1.trans hf2 (by simp) (n := []) (by simp)).trans hf3 (by simp) (by simp)⟩
  · rw [decide_eq_false e] at heq
    clear hX1 hX2 hC1 hC2 hL e hv hl1 hl2
    go_enter Tryd.func9, Tryd.ntmps9
    go_wp2_with (first
      | (refine wpL_boxArr rfl _ _ rfl C1 rfl ?_; intro w1 hh1 hf1 hs1; refine wpL_boxArr rfl _ _ rfl C2 rfl ?_; intro w2 hh2 hf2 hs2))
    refine wp_region_G [] [(0, false), (1, false), (2, false), (3, false), (4, false), (6, false), (5, true), (7, true), (8, false), (9, false), (10, false)] 15 rfl (by kernel_rfl) (by kernel_rfl) (by kernel_rfl) (fun c a d v w h => by cases d <;> exact h) (fun w3 hf3 => ?_)
    simp only [List.map_cons, List.map_nil, List.getElem?_toArray, List.getElem?_cons_succ, List.getElem?_cons_zero, Option.getD_some]
    have L1 : Later [] w3 (fun w' => w'.heap[w.heap.size]? = some (.cells C1 24 (0, 0))) := fun w' hf' => hf'.heap (hf3.heap (hf2.heap hh1.out (by simp)) (by simp)) (by simp)
    have L2 : Later [] w3 (fun w' => w'.heap[w1.heap.size]? = some (.cells C2 24 (0, 0))) := fun w' hf' => hf'.heap (hf3.heap hh2.out (by simp)) (by simp)
    repeat (apply wpG_t; · (intro w' hf'; have c1 := L1 w' hf'; have c2 := L2 w' hf'; go_wp2_with (first | (refine wpList_load_row rfl _ _ rfl w.heap.size rfl _ C1 _ _ c1 Tryd.underlying24 rfl hcs1 ?_) | (refine wpList_load_row rfl _ _ rfl w1.heap.size rfl _ C2 _ _ c2 Tryd.underlying24 rfl hcs2 ?_) | (refine wpL_loadW rfl _ _ rfl w.heap.size rfl _ C1 _ _ c1 Tryd.underlying24 rfl hcs1 ?_) | (refine wpL_loadW rfl _ _ rfl w1.heap.size rfl _ C2 _ _ c2 Tryd.underlying24 rfl hcs2 ?_)); exact ⟨rfl, rfl⟩))
    have hf13 := (hf1.trans hf2 (by simp) (n := []) (by simp)).trans hf3 (by simp) (n := []) (by simp)
    refine wpG_x ?_
    go_wp2_with (go_at_call 7; refine (HT1.out _ (HV.out.below hf13)).mono ?_; rintro e w4 ⟨rfl, hf4⟩)
    refine ⟨hf4, rfl, ?_⟩
    have hf14 := hf13.trans hf4 (by simp) (n := []) (by simp)
    refine wpG_x ?_
    go_wp2_with (go_at_call 7; refine (HT2.out _ (HV.out.below hf14)).mono ?_; rintro e w5 ⟨rfl, hf5⟩)
    refine ⟨hf5, rfl, ?_⟩
    repeat (apply wpG_t; · (intro w' hf'; go_wp2_with fail; exact ⟨rfl, rfl⟩))
    refine wpG_end ?_
    go_wp2_with fail
    go_ret
    exact ⟨rfl, hf14.trans hf5 (by simp) (by simp)⟩

/-! ### The law's dec and tail -/
theorem dec_cut {P : Program} (t : TypeId) (ht : P.underlying t = some .string) (v : Nat) (hv : v < 10) (i j : Int) (hi : i = (v : Int)) (hj : j = (v : Int) + 1) (w : World) :
    (Instr.slice t (.string ⟨#[48, 49, 50, 51, 52, 53, 54, 55, 56, 57]⟩) (some (.int .i64 i)) (some (.int .i64 j)) none).run P w = .ok (.string ⟨[UInt8.ofNat (48 + v)].toArray⟩) w := by
  subst hi hj
  have h := cut_k w t [48, 49, 50, 51, 52, 53, 54, 55, 56, 57] v (v + 1) ht (by omega) (by simp; omega)
  have e : (([48, 49, 50, 51, 52, 53, 54, 55, 56, 57] : List UInt8).take (v + 1)).drop v = [UInt8.ofNat (48 + v)] := by
    have : ∀ v : Fin 10, (([48, 49, 50, 51, 52, 53, 54, 55, 56, 57] : List UInt8).take (v.val + 1)).drop v.val = [UInt8.ofNat (48 + v.val)] := by decide +kernel
    exact this ⟨v, hv⟩
  rw [e] at h
  exact h
set_option maxRecDepth 100000 in
theorem dec_any (n : Nat) (hn : n ≤ 1000000000) : ∀ w : World, Calls Tryd.prog 25 #[.int .i64 (n : Int)] w fun e w' => e = .returned (.string ⟨(Lib.decDigits n).toArray⟩) ∧ Fr [] w w' := by
  induction n using Nat.strongRecOn with
  | _ n ih =>
    intro w
    by_cases h10 : n < 10
    · have hd : decide ((n : Int) < 10) = true := decide_eq_true (by omega)
      have hc := fun wx => dec_cut (P := Tryd.prog) 9 Tryd.underlying9 n h10 (n : Int) ((n : Int) + 1) rfl rfl wx
      rw [Lib.decDigits_one h10]
      generalize ([UInt8.ofNat (48 + n)] : List UInt8).toArray = X at hc ⊢
      clear ih
      go_enter Tryd.func25, Tryd.ntmps25
      go_wp2_with fail
      go_ret
      exact ⟨rfl, Fr.refl _ _⟩
    · have hd : decide ((n : Int) < 10) = false := decide_eq_false (by omega)
      have hc := fun wx => dec_cut (P := Tryd.prog) 9 Tryd.underlying9 (n % 10) (by omega) ((n : Int) % 10) ((n : Int) % 10 + 1) (by omega) (by omega) wx
      have hi := ih (n / 10) (by omega) (by omega)
      rw [show ((n / 10 : Nat) : Int) = (n : Int) / 10 by omega] at hi
      have hT : Lib.decDigits n = Lib.decDigits (n / 10) ++ [UInt8.ofNat (48 + n % 10)] := by rw [Lib.decDigits, dif_neg h10]
      have hln := Lib.decDigits_length (n / 10)
      have hl10 := nDigits_le (n / 10) (by omega)
      rw [hT]
      obtain ⟨X1, hX1⟩ : ∃ X, X = (Lib.decDigits (n / 10)).toArray := ⟨_, rfl⟩
      obtain ⟨X2, hX2⟩ : ∃ X, X = [UInt8.ofNat (48 + n % 10)].toArray := ⟨_, rfl⟩
      obtain ⟨X3, hX3⟩ : ∃ X, X = (Lib.decDigits (n / 10) ++ [UInt8.ofNat (48 + n % 10)]).toArray := ⟨_, rfl⟩
      have ha := cat_k (P := Tryd.prog) hX1 hX2 hX3 (by rw [List.length_append]; simp; omega)
      rw [← hX2] at hc
      rw [← hX1] at hi
      rw [← hX3]
      have HI := Lib.hid hi
      have hb1 : (n : Int) % 10 ≤ 9 := by omega
      clear ih hi hT hln hl10 hX1 hX2 hX3
      go_enter Tryd.func25, Tryd.ntmps25
      go_wp2_with fail
      refine wp_region_G [] [(0, false), (1, false), (3, false), (4, false), (5, false), (6, false), (7, false), (8, false), (9, false), (2, true), (10, false), (11, false)] 22 rfl (by kernel_rfl) (by kernel_rfl) (by kernel_rfl) (fun c a d v w h => by cases d <;> exact h) (fun w3 hf3 => ?_)
      simp only [List.map_cons, List.map_nil, List.getElem?_toArray, List.getElem?_cons_succ, List.getElem?_cons_zero, Option.getD_some]
      repeat (apply wpG_t; · (intro w' hf'; go_wp2_with fail; exact ⟨rfl, rfl⟩))
      refine wpG_x ?_
      go_wp2_with (go_at_call 25; refine (HI.out _).mono ?_; rintro e w4 ⟨rfl, hf4⟩)
      refine ⟨hf4, rfl, ?_⟩
      repeat (apply wpG_t; · (intro w' hf'; go_wp2_with fail; exact ⟨rfl, rfl⟩))
      refine wpG_end ?_
      go_wp2_with fail
      go_ret
      exact ⟨rfl, hf3.trans hf4 (by simp) (by simp)⟩
def tailL (s : List UInt8) : List UInt8 := if s.length < 2 then [] else s.drop 2
theorem tail_any (s : List UInt8) (w : World) : Calls Tryd.prog 17 #[.string ⟨s.toArray⟩] w fun e w' => e = .returned (.string ⟨(tailL s).toArray⟩) ∧ w = w' := by
  by_cases h : s.length < 2
  · have hd : decide ((s.length : Int) < 2) = true := decide_eq_true (by omega)
    have hT : tailL s = [] := if_pos h
    rw [hT]
    clear hT
    go_enter Tryd.func17, Tryd.ntmps17
    go_wp2_with fail
    go_ret
    exact ⟨rfl, rfl⟩
  · have hd : decide ((s.length : Int) < 2) = false := decide_eq_false (by omega)
    have hT : tailL s = s.drop 2 := if_neg h
    have hsl : ∀ wx : World, (Instr.slice 9 (.string ⟨s.toArray⟩) (some (.int .i64 2)) none none).run Tryd.prog wx = .ok (.string ⟨(s.drop 2).toArray⟩) wx := fun wx => drop_k wx 9 s 2 Tryd.underlying9 (by omega)
    rw [hT]
    generalize (s.drop 2).toArray = X at hsl ⊢
    clear hT h
    go_enter Tryd.func17, Tryd.ntmps17
    go_wp2_with fail
    go_ret
    exact ⟨rfl, rfl⟩
end Go.Proofs.YtjlkcdmeiakkbaaDoor
