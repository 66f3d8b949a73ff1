/- Stage 17, the document: digits, value, Text. -/
import Derived.Test.YtjlkcdmeiakkbaaDoorKyB
import Derived.Test.YtjlkcdmeiakkbaaDoorKyS
import Derived.LoopTactic
import Derived.BigRegion
import Derived.Deep.DeepCutAuto
set_option linter.unusedVariables false
set_option linter.unusedSimpArgs false
namespace Go.Proofs.YtjlkcdmeiakkbaaDoor
open Go.RowKit

theorem hexOf_step (h : List UInt8) (k : Nat) (hk : k < h.length) : hexOf (h.take (k + 1)) = hexOf (h.take k) ++ [hxd ((h[k]'hk).toNat / 16)] ++ [hxd ((h[k]'hk).toNat % 16)] := by
  rw [List.take_add_one, List.getElem?_eq_getElem hk, Option.toList_some, hexOf_snoc]
  simp
theorem dk_cut {P : Program} (t : TypeId) (ht : P.underlying t = some .string) (v : Nat) (hv : v < 16) (i j : Int) (hi : i = (v : Int)) (hj : j = (v : Int) + 1) (w : World) :
    (Instr.slice t (.string ⟨#[48, 49, 50, 51, 52, 53, 54, 55, 56, 57, 97, 98, 99, 100, 101, 102]⟩) (some (.int .i64 i)) (some (.int .i64 j)) none).run P w = .ok (.string ⟨[hxd v].toArray⟩) w := by
  subst hi hj
  have h := cut_k w t dk v (v + 1) ht (by omega) (by rw [dk_length]; omega)
  have e : (dk.take (v + 1)).drop v = [hxd v] := by
    have : ∀ v : Fin 16, (dk.take (v.val + 1)).drop v.val = [hxd v.val] := by decide +kernel
    exact this ⟨v, hv⟩
  rw [e] at h
  exact h
def DigRel (w : World) (h : List UInt8) (s i : Value) (wr : World) : Prop := ∃ k : Nat, k ≤ 32 ∧ i = .int .i64 (k : Int) ∧ s = .string ⟨(hexOf (h.take k)).toArray⟩ ∧ Fr [] w wr
set_option maxRecDepth 100000 in
theorem rdigits_any (h : List UInt8) (w : World) (hl : h.length = 32) :
    Calls Tryd.prog 21 #[.agg (cellsB h).toArray] w fun e w' => e = .returned (.string ⟨(hexOf h).toArray⟩) ∧ Fr [] w w' := by
  have hget := bytesC_get h
  obtain ⟨C, hC⟩ : ∃ C, C = (cellsB h).toArray := ⟨_, rfl⟩
  rw [← hC] at hget ⊢
  have HG := Lib.hid hget
  have HL := Lib.hid hl
  clear hC hget hl
  go_enter Tryd.func21, Tryd.ntmps21
  go_wp2_with (refine wpL_boxArr rfl _ _ rfl C rfl ?_; intro w1 hh1 hf1 hs1)
  go_loopw [4, 5] (DigRel w1 h) (fun _ i _ => 32 - (intOf i).toNat)
  case atStart => exact ⟨0, by omega, rfl, rfl, Fr.refl _ _⟩
  case round =>
    obtain ⟨k, hk, rfl, rfl, hf⟩ := hrel
    by_cases hk2 : k < 32
    · have hd : decide ((k : Int) < 32) = true := decide_eq_true (by omega)
      have hk3 : k < h.length := by rw [HL.out]; exact hk2
      have hst := hexOf_step h k hk3
      have hce := (cell_of_heap (hf.heap hh1.out (by simp)) k).trans (HG.out k hk3)
      generalize h[k]'hk3 = c at *
      have hcl := c.toNat_lt
      have hc1 := fun wx => dk_cut (P := Tryd.prog) 9 Tryd.underlying9 (c.toNat / 16) (by omega) ((c.toNat : Int) / 16) ((c.toNat : Int) / 16 + 1) (by omega) (by omega) wx
      have hc2 := fun wx => dk_cut (P := Tryd.prog) 9 Tryd.underlying9 (c.toNat % 16) (by omega) ((c.toNat : Int) % 16) ((c.toNat : Int) % 16 + 1) (by omega) (by omega) wx
      obtain ⟨X0, hX0⟩ : ∃ X, X = (hexOf (h.take k)).toArray := ⟨_, rfl⟩
      obtain ⟨Y1, hY1⟩ : ∃ X, X = [hxd (c.toNat / 16)].toArray := ⟨_, rfl⟩
      obtain ⟨Y2, hY2⟩ : ∃ X, X = [hxd (c.toNat % 16)].toArray := ⟨_, rfl⟩
      obtain ⟨X1, hX1⟩ : ∃ X, X = (hexOf (h.take k) ++ [hxd (c.toNat / 16)]).toArray := ⟨_, rfl⟩
      obtain ⟨X2, hX2⟩ : ∃ X, X = (hexOf (h.take (k + 1))).toArray := ⟨_, rfl⟩
      have hll : (hexOf (h.take k)).length ≤ 64 := by rw [hexOf_length, List.length_take]; omega
      have ha1 := cat_k (P := Tryd.prog) hX0 hY1 hX1 (by rw [List.length_append]; simp; omega)
      have ha2 := cat_k (P := Tryd.prog) hX1 hY2 (hX2.trans (by rw [hst])) (by rw [List.length_append, List.length_append]; simp; omega)
      rw [← hY1] at hc1
      rw [← hY2] at hc2
      rw [← hX0]
      have hn1 : (c.toNat : Int) / 16 ≤ 15 := by omega
      have hn2 : (c.toNat : Int) % 16 ≤ 15 := by omega
      have HX2 := Lib.hid hX2
      clear hX0 hX1 hX2 hY1 hY2 hst hll
      go_wp2_with fail
      refine wp_region_G [] [(0, false), (1, false), (2, false), (3, false), (4, false), (5, false), (6, false), (7, false), (8, false), (9, false), (10, false), (11, false), (12, false), (13, false)] 36 rfl (by kernel_rfl) (by kernel_rfl) (by kernel_rfl) (fun c a d v w h => by cases d <;> exact h) (fun w3 hf3 => ?_)
      simp only [List.map_cons, List.map_nil, List.getElem?_toArray, List.getElem?_cons_succ, List.getElem?_cons_zero, Option.getD_some]
      repeat (apply wpG_t; · (intro w' hf'; go_wp2_with fail; exact ⟨rfl, rfl⟩))
      refine wpG_end ?_
      go_wp2_with fail
      exact ⟨⟨k + 1, by omega, by go_num, by rw [HX2.out], hf.trans hf3 (by simp) (by simp)⟩, by simp [intOf]; omega⟩
    · have hd : decide ((k : Int) < 32) = false := decide_eq_false (by omega)
      have hk3 : k = 32 := by omega
      have e : h.take k = h := List.take_of_length_le (by rw [HL.out]; omega)
      rw [e]
      clear hk3 e
      go_wp2_with fail
      go_ret
      exact ⟨rfl, hf1.trans hf (by simp) (by simp)⟩
set_option maxRecDepth 100000 in
theorem value_yes (c : UInt8) (w : World) (hc : isD c = true) :
    Calls Tryd.prog 23 #[.int .u8 (c.toNat : Int)] w fun e w' => e = .returned (.int .i64 (valD c : Nat)) ∧ w = w' := by
  unfold isD at hc
  simp only [Bool.or_eq_true, Bool.and_eq_true, decide_eq_true_eq] at hc
  by_cases h1 : 48 ≤ c.toNat ∧ c.toNat ≤ 57
  · have hd1 : decide (48 ≤ (c.toNat : Int)) = true := decide_eq_true (by omega)
    have hd2 : decide ((c.toNat : Int) ≤ 57) = true := decide_eq_true (by omega)
    have hv : ((valD c : Nat) : Int) = (c.toNat : Int) - 48 := by unfold valD; rw [if_pos h1.2]; omega
    rw [hv]
    have b1 : 48 ≤ (c.toNat : Int) := by omega
    have b2 : (c.toNat : Int) ≤ 57 := by omega
    clear hv hc h1
    go_enter Tryd.func23, Tryd.ntmps23
    go_wp2_with fail
    go_ret
    exact ⟨rfl, rfl⟩
  · have h2 : 97 ≤ c.toNat ∧ c.toNat ≤ 102 := by omega
    have hd1 : decide (48 ≤ (c.toNat : Int)) = true := decide_eq_true (by omega)
    have hd2 : decide ((c.toNat : Int) ≤ 57) = false := decide_eq_false (by omega)
    have hd3 : decide (97 ≤ (c.toNat : Int)) = true := decide_eq_true (by omega)
    have hd4 : decide ((c.toNat : Int) ≤ 102) = true := decide_eq_true (by omega)
    have hv : ((valD c : Nat) : Int) = (c.toNat : Int) - 87 := by unfold valD; rw [if_neg (by omega)]; omega
    rw [hv]
    have b1 : 97 ≤ (c.toNat : Int) := by omega
    have b2 : (c.toNat : Int) ≤ 102 := by omega
    clear hv hc h1
    go_enter Tryd.func23, Tryd.ntmps23
    go_wp2_with fail
    go_ret
    exact ⟨rfl, rfl⟩
set_option maxRecDepth 100000 in
theorem value_no (c : UInt8) (w : World) (hc : isD c = false) :
    Calls Tryd.prog 23 #[.int .u8 (c.toNat : Int)] w fun e w' => e = .returned (.int .i64 (-1)) ∧ w = w' := by
  have hn : ¬ ((48 ≤ c.toNat ∧ c.toNat ≤ 57) ∨ (97 ≤ c.toNat ∧ c.toNat ≤ 102)) := by
    intro q
    have : isD c = true := by
      unfold isD
      simp only [Bool.or_eq_true, Bool.and_eq_true, decide_eq_true_eq]
      exact q
    rw [this] at hc
    cases hc
  by_cases h1 : 48 ≤ c.toNat
  · have hd1 : decide (48 ≤ (c.toNat : Int)) = true := decide_eq_true (by omega)
    have hd2 : decide ((c.toNat : Int) ≤ 57) = false := decide_eq_false (by omega)
    by_cases h3 : 97 ≤ c.toNat
    · have hd3 : decide (97 ≤ (c.toNat : Int)) = true := decide_eq_true (by omega)
      have hd4 : decide ((c.toNat : Int) ≤ 102) = false := decide_eq_false (by omega)
      clear hn hc h1 h3
      go_enter Tryd.func23, Tryd.ntmps23
      go_wp2_with fail
      go_ret
      exact ⟨rfl, rfl⟩
    · have hd3 : decide (97 ≤ (c.toNat : Int)) = false := decide_eq_false (by omega)
      clear hn hc h1 h3
      go_enter Tryd.func23, Tryd.ntmps23
      go_wp2_with fail
      go_ret
      exact ⟨rfl, rfl⟩
  · have hd1 : decide (48 ≤ (c.toNat : Int)) = false := decide_eq_false (by omega)
    have hd3 : decide (97 ≤ (c.toNat : Int)) = false := decide_eq_false (by omega)
    clear hn hc h1
    go_enter Tryd.func23, Tryd.ntmps23
    go_wp2_with fail
    go_ret
    exact ⟨rfl, rfl⟩

/-- The hash of a key, where the key lies. -/
theorem keyC_range {w : World} {g : Nat} {h : List UInt8} {k : Int} {t : TypeId} {fr : Nat × Nat} (hg : w.heap[g]? = some (.cells (keyC h k) t fr)) : w.rangeAt g 0 (cellsB h) := by
  intro j u hu
  have hj : j < h.length := by
    rcases Nat.lt_or_ge j h.length with q | q
    · exact q
    · rw [List.getElem?_eq_none (by rw [cellsB_length]; exact q)] at hu; cases hu
  rw [cell_of_heap hg, Nat.zero_add, keyC_H j hj, ← hu, cellsB_get h j hj]
set_option maxRecDepth 100000 in
theorem rktext_any (h : List UInt8) (k : Int) (w : World) (hl : h.length = 32) :
    Calls Tryd.prog 8 #[.agg (keyC h k)] w fun e w' => e = .returned (.string ⟨(keyT h k).toArray⟩) ∧ Fr [] w w' := by
  obtain ⟨C, hC⟩ : ∃ C, C = keyC h k := ⟨_, rfl⟩
  have hc32 := keyC_K (k := k) hl
  have HR := Lib.hid (fun (wx : World) (g : Nat) (hg : wx.heap[g]? = some (Obj.cells (keyC h k) 24 (0, 0))) => keyC_range hg)
  rw [← hC] at hc32 HR
  rw [← hC]
  by_cases h1 : k < 1
  · have hd1 : decide (k < 1) = true := decide_eq_true h1
    rw [keyT_off (by omega)]
    clear hC h1
    go_enter Tryd.func8, Tryd.ntmps8
    go_wp2_with (refine wpL_boxArr rfl _ _ rfl C rfl ?_; intro w1 hh1 hf1 hs1; have hce := (cell_of_heap hh1.out 32).trans hc32)
    go_ret
    exact ⟨rfl, hf1⟩
  · have hd1 : decide (k < 1) = false := decide_eq_false h1
    by_cases h4 : 4 < k
    · have hd2 : decide (4 < k) = true := decide_eq_true h4
      rw [keyT_off (by omega)]
      clear hC h1 h4
      go_enter Tryd.func8, Tryd.ntmps8
      go_wp2_with (refine wpL_boxArr rfl _ _ rfl C rfl ?_; intro w1 hh1 hf1 hs1; have hce := (cell_of_heap hh1.out 32).trans hc32)
      go_ret
      exact ⟨rfl, hf1⟩
    · have hd2 : decide (4 < k) = false := decide_eq_false h4
      have hlen : (Tryd.prog.info? 22).map (·.size) = some (cellsB h).length := by rw [sizeH hl]; simp
      have HD := Lib.hid (fun wx => rdigits_any h wx hl)
      have hxl : (hexOf h).length = 64 := by rw [hexOf_length, hl]
      have hT : keyT h k = hexOf h ++ [45] ++ [UInt8.ofNat (48 + k.toNat)] := by rw [keyT_on (by omega) (by omega)]; simp
      have hsl : ∀ wx : World, (Instr.slice 9 (.string ⟨#[48, 49, 50, 51, 52]⟩) (some (.int .i64 k)) (some (.int .i64 (k + 1))) none).run Tryd.prog wx = .ok (.string ⟨[UInt8.ofNat (48 + k.toNat)].toArray⟩) wx := by
        intro wx
        obtain ⟨n, rfl⟩ := Int.eq_ofNat_of_zero_le (show 0 ≤ k by omega)
        have hh := cut_k (P := Tryd.prog) wx 9 [48, 49, 50, 51, 52] n (n + 1) Tryd.underlying9 (by omega) (by simp; omega)
        have e : (([48, 49, 50, 51, 52] : List UInt8).take (n + 1)).drop n = [UInt8.ofNat (48 + n)] := by
          have : ∀ v : Fin 5, (([48, 49, 50, 51, 52] : List UInt8).take (v.val + 1)).drop v.val = [UInt8.ofNat (48 + v.val)] := by decide +kernel
          exact this ⟨n, by omega⟩
        rw [e] at hh
        exact hh
      have hb1 : 0 ≤ k := by omega
      have hb2 : k ≤ 4 := by omega
      rw [hT]
      obtain ⟨X1, hX1⟩ : ∃ X, X = (hexOf h).toArray := ⟨_, rfl⟩
      obtain ⟨X2, hX2⟩ : ∃ X, X = (hexOf h ++ [45]).toArray := ⟨_, rfl⟩
      obtain ⟨X3, hX3⟩ : ∃ X, X = [UInt8.ofNat (48 + k.toNat)].toArray := ⟨_, rfl⟩
      obtain ⟨X4, hX4⟩ : ∃ X, X = (hexOf h ++ [45] ++ [UInt8.ofNat (48 + k.toNat)]).toArray := ⟨_, rfl⟩
      have ha1 := cat_k (P := Tryd.prog) (B := #[45]) hX1 rfl hX2 (by rw [List.length_append, hxl]; decide)
      have ha2 := cat_k (P := Tryd.prog) hX2 hX3 hX4 (by rw [List.length_append, List.length_append, hxl]; simp)
      rw [← hX3] at hsl
      rw [← hX1] at HD
      rw [← hX4]
      obtain ⟨D, hD⟩ : ∃ D, D = cellsB h := ⟨_, rfl⟩
      rw [← hD] at hlen HR HD
      clear hC h1 h4 hT hX1 hX2 hX3 hX4 hxl hD
      go_enter Tryd.func8, Tryd.ntmps8
      go_wp2_with (refine wpL_boxArr rfl _ _ rfl C rfl ?_; intro w1 hh1 hf1 hs1; have hce := (cell_of_heap hh1.out 32).trans hc32)
      refine wp_region_G [] [(0, false), (1, false), (4, false), (5, false), (6, false), (7, false), (8, false), (9, false), (10, false), (2, true), (3, false), (11, false), (12, false)] 24 rfl (by kernel_rfl) (by kernel_rfl) (by kernel_rfl) (fun c a d v w h => by cases d <;> exact h) (fun w3 hf3 => ?_)
      simp only [List.map_cons, List.map_nil, List.getElem?_toArray, List.getElem?_cons_succ, List.getElem?_cons_zero, Option.getD_some]
      have hz1 := hs1.out
      have LK : Later [] w3 (fun w' => w'.cell? ⟨w.heap.size, 32, none⟩ = some (.int .i64 k)) := fun w' hf' => hf'.cell (hf3.cell hce (by simp)) (by simp)
      have LH : Later [] w3 (fun w' => w'.rangeAt w.heap.size 0 D) := fun w' hf' => HR.out _ _ (hf'.heap (hf3.heap hh1.out (by simp)) (by simp))
      repeat (apply wpG_t; · (intro w' hf'; have c1 := LK w' hf'; have c2 := LH w' hf'; go_wp2_with (refine wpList_load_mid rfl 22 _ rfl w.heap.size 0 rfl D _ c2 Tryd.underlying22 rfl hlen ?_); exact ⟨rfl, rfl⟩))
      refine wpG_x ?_
      go_wp2_with (go_at_call 21; refine (HD.out _).mono ?_; rintro e w4 ⟨rfl, hf4⟩)
      refine ⟨hf4, rfl, ?_⟩
      repeat (apply wpG_t; · (intro w' hf'; go_wp2_with fail; exact ⟨rfl, rfl⟩))
      refine wpG_end ?_
      go_wp2_with fail
      go_ret
      exact ⟨rfl, (hf1.trans hf3 (by simp) (n := []) (by simp)).trans hf4 (by simp) (by simp)⟩
end Go.Proofs.YtjlkcdmeiakkbaaDoor
