/- Stage 17, the program: inRange, Text. -/
import Derived.Test.YtjlkcdmeiakkbaaGreatDoorKyA
import Derived.Test.YtjlkcdmeiakkbaaGreatDoorHexB
import Derived.BigQuiet
import Derived.WalkMore
set_option linter.unusedVariables false
set_option linter.unusedSimpArgs false
namespace Go.Proofs.YtjlkcdmeiakkbaaGreatDoor
open Go.RowKit

theorem cat_k {P : Program} {A B C : Array UInt8} {x y : List UInt8} (hA : A = x.toArray) (hB : B = y.toArray) (hC : C = (x ++ y).toArray) (hl : (x ++ y).length ≤ 9223372036854775807) (w : World) : (Op.stringOp .add { data := A } { data := B }).run P w = .ok (.string { data := C }) w := by
  subst hA hB hC
  rw [List.length_append] at hl
  rw [run_string_add_sum w _ _ (by simp [ByteArray.size]; omega), ByteArray.mk_append_mk]

theorem inRange_any (k : Int) (w : World) :
    Calls Tryz.prog 11 #[.int .i64 k] w fun e w' => e = .returned (.bool (decide (1 ≤ k ∧ k ≤ 4))) ∧ w = w' := by
  by_cases h1 : 1 ≤ k
  · have hd1 : decide (1 ≤ k) = true := decide_eq_true h1
    by_cases h2 : k ≤ 4
    · have hd2 : decide (k ≤ 4) = true := decide_eq_true h2
      go_enter Tryz.func11, Tryz.ntmps11
      go_wp2_with fail
      go_ret
      exact ⟨by simp [h1, h2], rfl⟩
    · have hd2 : decide (k ≤ 4) = false := decide_eq_false h2
      go_enter Tryz.func11, Tryz.ntmps11
      go_wp2_with fail
      go_ret
      exact ⟨by simp [h1, h2], rfl⟩
  · have hd1 : decide (1 ≤ k) = false := decide_eq_false h1
    go_enter Tryz.func11, Tryz.ntmps11
    go_wp2_with fail
    go_ret
    exact ⟨by simp [h1], rfl⟩
theorem inRange_yes (k : Int) (w : World) (h : 1 ≤ k ∧ k ≤ 4) : Calls Tryz.prog 11 #[.int .i64 k] w fun e w' => e = .returned (.bool true) ∧ w = w' := by
  have := inRange_any k w
  rwa [decide_eq_true h] at this
theorem inRange_no (k : Int) (w : World) (h : ¬ (1 ≤ k ∧ k ≤ 4)) : Calls Tryz.prog 11 #[.int .i64 k] w fun e w' => e = .returned (.bool false) ∧ w = w' := by
  have := inRange_any k w
  rwa [decide_eq_false h] at this

/-- The bytes of a key's hash, where the key lies. -/
theorem hash_at {w : World} {g : Nat} {h : List UInt8} {k : Int} {t : TypeId} {fr : Nat × Nat} (hl : h.length = 32) (hg : w.heap[g]? = some (.cells (keyC h k) t fr)) : bytesAt w (.slice (some ⟨g, 0, none⟩) 32 32) h := by
  refine .inr ⟨g, 0, 32, by rw [hl], by omega, by simp [maxLen], fun i hi => ?_⟩
  rw [cell_of_heap hg, Nat.zero_add]
  exact keyC_H i hi

set_option maxRecDepth 100000 in
theorem ktext_any (h : List UInt8) (k : Int) (w : World) (hl : h.length = 32) (hv : VarsAt w) :
    Calls Tryz.prog 19 #[.agg (keyC h k)] w fun e w' => e = .returned (.string ⟨(keyT h k).toArray⟩) ∧ Fr [] w w' := by
  by_cases hk : 1 ≤ k ∧ k ≤ 4
  · obtain ⟨C, hC⟩ : ∃ C, C = keyC h k := ⟨_, rfl⟩
    obtain ⟨kn, rfl⟩ := Int.eq_ofNat_of_zero_le (show 0 ≤ k by omega)
    have hc32 := keyC_K (k := (kn : Int)) hl
    have hT : keyT h kn = hexOf h ++ [45] ++ Lib.itoa kn := if_pos hk
    rw [hT, ← hC]
    rw [← hC] at hc32
    have hil : (Lib.itoa (kn : Int)).length = 1 := by rw [itoa_k (by omega) (by omega)]; rfl
    have hxl : (hexOf h).length = 64 := by rw [hexOf_length, hl]
    obtain ⟨X1, hX1⟩ : ∃ X, X = (hexOf h).toArray := ⟨_, rfl⟩
    obtain ⟨X2, hX2⟩ : ∃ X, X = (hexOf h ++ [45]).toArray := ⟨_, rfl⟩
    obtain ⟨X3, hX3⟩ : ∃ X, X = (Lib.itoa (kn : Int)).toArray := ⟨_, rfl⟩
    obtain ⟨X4, hX4⟩ : ∃ X, X = (hexOf h ++ [45] ++ Lib.itoa (kn : Int)).toArray := ⟨_, rfl⟩
    have hc12 := cat_k (P := Tryz.prog) (B := #[45]) hX1 rfl hX2 (by rw [List.length_append, hxl]; decide)
    have hc34 := cat_k (P := Tryz.prog) hX2 hX3 hX4 (by rw [List.length_append, List.length_append, hxl, hil]; decide)
    have HT := Lib.hid (fun sv wx (hb : bytesAt wx sv h) (hr : digsAt wx) => text_any h sv wx hb hr (by rw [hl]; decide))
    have HI := Lib.hid (fun wx => itoa_small kn (by omega) wx)
    rw [← hX1] at HT
    rw [← hX3] at HI
    rw [← hX4]
    have HA := Lib.hid (fun (wx : World) (h3 : wx.heap[w.heap.size]? = some (Obj.cells C 30 (0, 0))) => hash_at (k := (kn : Int)) hl (by rw [← hC]; exact h3))
    have HC := Lib.hid hC
    have HK := Lib.hid hk
    have HV := Lib.hid hv
    have HL := Lib.hid hl
    clear hC hk hv hl hT hX1 hX2 hX3 hX4 hil hxl
    go_enter Tryz.func19, Tryz.ntmps19
    go_wp2_with (refine wpL_boxArr rfl _ _ rfl C rfl ?_; intro w1 hh1 hf1 hs1; have hc1 := (cell_of_heap hh1.out 32).trans hc32; refine Hid.out ?_)
    refine Lib.hid ?_
    go_wp2_with (go_at_call 11; refine (inRange_yes _ _ HK.out).mono ?_; rintro e w2 ⟨rfl, rfl⟩)
    refine wp_region_G [] [(0, false), (1, false), (4, false), (5, false), (2, true), (3, false), (6, true), (7, false), (8, false)] 15 rfl (by kernel_rfl) (by kernel_rfl) (by kernel_rfl) (fun c a d v w h => by cases d <;> exact h) (fun w3 hf3 => ?_)
    simp only [List.map_cons, List.map_nil, List.getElem?_toArray, List.getElem?_cons_succ, List.getElem?_cons_zero, Option.getD_some]
    have hz1 := hs1.out
    have hh3 := hf3.heap hh1.out (by simp)
    have hf13 := hf1.trans hf3 (by simp) (n := []) (by simp)
    have LK : Later [] w3 (fun w' => w'.cell? ⟨w.heap.size, 32, none⟩ = some (.int .i64 kn)) := fun w' hf' => hf'.cell ((cell_of_heap hh3 32).trans hc32) (by simp)
    repeat (apply wpG_t; · (intro w' hf'; have c1 := LK w' hf'; go_wp2_with fail; exact ⟨rfl, rfl⟩))
    refine wpG_x ?_
    go_wp2_with (go_at_call 44; refine (HT.out _ _ (HA.out _ hh3) (HV.out.digs.below hf13)).mono ?_; rintro e w4 ⟨rfl, hf4⟩)
    refine ⟨hf4, rfl, ?_⟩
    repeat (apply wpG_t; · (intro w' hf'; go_wp2_with fail; exact ⟨rfl, rfl⟩))
    refine wpG_x ?_
    go_wp2_with (go_at_call 45; refine (HI.out _).mono ?_; rintro e w5 ⟨rfl, rfl⟩)
    refine ⟨Fr.refl _ _, rfl, ?_⟩
    repeat (apply wpG_t; · (intro w' hf'; go_wp2_with fail; exact ⟨rfl, rfl⟩))
    refine wpG_end ?_
    go_wp2_with fail
    go_ret
    exact ⟨rfl, hf13.trans hf4 (by simp) (by simp)⟩
  · obtain ⟨C, hC⟩ : ∃ C, C = keyC h k := ⟨_, rfl⟩
    have hc32 := keyC_K (k := k) hl
    rw [keyT_off hk, ← hC]
    rw [← hC] at hc32
    have HK := Lib.hid hk
    clear hC hk hv hl
    go_enter Tryz.func19, Tryz.ntmps19
    go_wp2_with (refine wpL_boxArr rfl _ _ rfl C rfl ?_; intro w1 hh1 hf1 hs1; have hc1 := (cell_of_heap hh1.out 32).trans hc32; refine Hid.out ?_)
    refine Lib.hid ?_
    go_wp2_with (go_at_call 11; refine (inRange_no _ _ HK.out).mono ?_; rintro e w2 ⟨rfl, rfl⟩)
    go_ret
    exact ⟨rfl, hf1⟩
end Go.Proofs.YtjlkcdmeiakkbaaGreatDoor
