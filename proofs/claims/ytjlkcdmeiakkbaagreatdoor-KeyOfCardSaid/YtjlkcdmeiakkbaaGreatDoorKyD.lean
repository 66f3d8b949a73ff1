/- Stage 17, the program: numbered, Write. -/
import Derived.Test.YtjlkcdmeiakkbaaGreatDoorKyC
import Derived.Lib.ItoaLen
set_option linter.unusedVariables false
set_option linter.unusedSimpArgs false
namespace Go.Proofs.YtjlkcdmeiakkbaaGreatDoor
open Go.RowKit

set_option maxRecDepth 100000 in
theorem numbered_any (c : UInt8) (n : Int) (w : World) (hv : VarsAt w) :
    Calls Tryz.prog 20 #[.string ⟨#[c]⟩, .int .i64 n] w fun e w' => e = .returned (.string ⟨(numT c n).toArray⟩) ∧ Fr [] w w' := by
  by_cases h0 : n < 0
  · have hd0 : decide (n < 0) = true := decide_eq_true h0
    have hT : numT c n = [] := by unfold numT; rw [if_neg (by omega)]
    rw [hT]
    clear hT
    go_enter Tryz.func20, Tryz.ntmps20
    go_wp2_with fail
    go_ret
    exact ⟨rfl, Fr.refl _ _⟩
  · have hd0 : decide (n < 0) = false := decide_eq_false h0
    by_cases h1 : 1000000000 < n
    · have hd1 : decide (1000000000 < n) = true := decide_eq_true h1
      have hT : numT c n = [] := by unfold numT; rw [if_neg (by omega)]
      rw [hT]
      clear hT h1
      go_enter Tryz.func20, Tryz.ntmps20
      go_wp2_with fail
      go_ret
      exact ⟨rfl, Fr.refl _ _⟩
    · have hd1 : decide (1000000000 < n) = false := decide_eq_false h1
      have hT : numT c n = [c, 45] ++ Lib.itoa n := by unfold numT; rw [if_pos (by omega)]
      have hil := Lib.itoa_length_le n (by omega) (by omega)
      obtain ⟨X1, hX1⟩ : ∃ X, X = ([c, 45] : List UInt8).toArray := ⟨_, rfl⟩
      obtain ⟨X2, hX2⟩ : ∃ X, X = (Lib.itoa n).toArray := ⟨_, rfl⟩
      obtain ⟨X3, hX3⟩ : ∃ X, X = ([c, 45] ++ Lib.itoa n).toArray := ⟨_, rfl⟩
      have hc1 := cat_k (P := Tryz.prog) (A := #[c]) (B := #[45]) (x := [c]) (y := [45]) rfl rfl hX1 (by simp)
      have hc2 := cat_k (P := Tryz.prog) hX1 hX2 hX3 (by rw [List.length_append]; simp; omega)
      have HI := Lib.hid (fun wx (hv : VarsAt wx) => itoa_any n (by omega) (by omega) wx hv)
      rw [hT, ← hX3]
      rw [← hX2] at HI
      have HV := Lib.hid hv
      clear hT hX1 hX2 hX3 hil h0 h1 hv
      go_enter Tryz.func20, Tryz.ntmps20
      go_wp2_with (go_at_call 45; refine (HI.out _ HV.out).mono ?_; rintro e w2 ⟨rfl, hf2⟩)
      go_ret
      exact ⟨rfl, hf2⟩

/-- A key within a name, where the name lies. -/
theorem nameC_range {w : World} {g : Nat} {x : NameD} {t : TypeId} {fr : Nat × Nat} (hl : x.h.length = 32) (hg : w.heap[g]? = some (.cells (nameC x) t fr)) : w.rangeAt g 1 (keyC x.h x.k).toList := by
  intro j u hu
  rw [cell_of_heap hg]
  have hj : j < 33 := by
    rcases Nat.lt_or_ge j 33 with q | q
    · exact q
    · rw [List.getElem?_eq_none (by simpa [keyC, cellsB_length, hl] using q)] at hu; cases hu
  rw [← hu]
  simp only [nameC, keyC, List.getElem?_toArray]
  rw [Nat.add_comm, List.getElem?_cons_succ]
  by_cases q : j < 32
  · rw [List.getElem?_append_left (by rw [cellsB_length]; omega), List.getElem?_append_left (by rw [cellsB_length]; omega)]
  · obtain rfl : j = 32 := by omega
    rw [List.getElem?_append_right (by rw [cellsB_length]; omega), List.getElem?_append_right (by rw [cellsB_length]; omega), cellsB_length, hl]
    rfl

set_option maxRecDepth 100000 in
theorem write_key (x : NameD) (w : World) (hl : x.h.length = 32) (hv : VarsAt w) (hk : x.kd = 1) :
    Calls Tryz.prog 9 #[.agg (nameC x)] w fun e w' => e = .returned (.string ⟨x.text.toArray⟩) ∧ Fr [] w w' := by
  have hk1 : (x.kd == 1) = true := by rw [hk]; rfl
  have hX : x.text = if keyT x.h x.k = [] then [] else [111, 45] ++ keyT x.h x.k := by unfold NameD.text nameT; rw [if_pos hk]
  have hlt := keyT_length_le (k := x.k) hl
  have HT := Lib.hid (fun wx (hv : VarsAt wx) => ktext_any x.h x.k wx hl hv)
  have HR := Lib.hid (fun (wx : World) (g : Nat) (hg : wx.heap[g]? = some (Obj.cells (nameC x) 39 (0, 0))) => nameC_range hl hg)
  have h0 := nameC_kd x
  have hi := sizeK (k := x.k) hl
  have HV := Lib.hid hv
  generalize x.text = R at *
  generalize keyT x.h x.k = T at *
  generalize x.kd = kd at *
  generalize nameC x = C at *
  generalize hCk : keyC x.h x.k = CK at *
  have hi2 : (Tryz.prog.info? 30).map (·.size) = some CK.toList.length := by rw [hi]; simp
  have hCL : CK.toList.toArray = CK := by simp
  clear hl hv hk hCk hi
  by_cases hT0 : T = []
  · rw [if_pos hT0] at hX
    subst hX
    subst hT0
    go_enter Tryz.func9, Tryz.ntmps9
    go_wp2_with (first
      | (refine wpL_boxArr rfl _ _ rfl C rfl ?_; intro w1 hh1 hf1 hs1; have hce := (cell_of_heap hh1.out 0).trans h0)
      | (refine wpList_load_mid rfl 30 _ rfl w.heap.size 1 rfl CK.toList _ (HR.out _ _ hh1.out) Tryz.underlying30 rfl hi2 ?_; rw [hCL])
      | (go_at_call 19; refine (HT.out _ (HV.out.below hf1)).mono ?_; rintro e w2 ⟨rfl, hf2⟩))
    go_ret
    exact ⟨rfl, hf1.trans hf2 (by simp) (by simp)⟩
  · rw [if_neg hT0] at hX
    have hem : T.isEmpty = false := by cases T with | nil => exact (hT0 rfl).elim | cons _ _ => rfl
    obtain ⟨X2, hX2⟩ : ∃ X, X = R.toArray := ⟨_, rfl⟩
    have hc1 := cat_k (P := Tryz.prog) (A := #[111, 45]) (C := X2) (x := [111, 45]) (y := T) rfl rfl (by rw [hX2, hX]) (by rw [List.length_append]; simp; omega)
    rw [← hX2]
    clear hX hX2 hlt hT0
    go_enter Tryz.func9, Tryz.ntmps9
    go_wp2_with (first
      | (refine wpL_boxArr rfl _ _ rfl C rfl ?_; intro w1 hh1 hf1 hs1; have hce := (cell_of_heap hh1.out 0).trans h0)
      | (refine wpList_load_mid rfl 30 _ rfl w.heap.size 1 rfl CK.toList _ (HR.out _ _ hh1.out) Tryz.underlying30 rfl hi2 ?_; rw [hCL])
      | (go_at_call 19; refine (HT.out _ (HV.out.below hf1)).mono ?_; rintro e w2 ⟨rfl, hf2⟩))
    go_ret
    exact ⟨rfl, hf1.trans hf2 (by simp) (by simp)⟩
end Go.Proofs.YtjlkcdmeiakkbaaGreatDoor
