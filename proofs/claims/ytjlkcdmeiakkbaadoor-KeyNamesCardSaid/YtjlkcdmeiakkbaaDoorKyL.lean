/- Stage 17: the law's name. (Its cases are made by gen_kyl.py.) -/
import Derived.Test.YtjlkcdmeiakkbaaDoorKyG
import Derived.Test.YtjlkcdmeiakkbaaDoorKyH
import Derived.Test.YtjlkcdmeiakkbaaDoorKyK
set_option linter.unusedVariables false
set_option linter.unusedSimpArgs false
namespace Go.Proofs.YtjlkcdmeiakkbaaDoor
open Go.RowKit

/-- A range read by an operation whose guard says yes. -/
theorem wpL_midW {P : Program} {ops : Array Oper} {rest : List Oper} {o : Oper} {a : Act} {w : World} {Q : Exit → Act → World → Prop} (hw : Region.wanted o (yielded ops a.tmps) = true) (ty : TypeId) (x : Operand) (ho : o.op = .load ty x)
    (b i : Nat) (hx : a.eval x = .pointer (some ⟨b, i, none⟩)) (cs : List Value) (d : TypeDesc) (hc : w.rangeAt b i cs)
    (hu : P.underlying ty = some d) (hd : d.isRow = true) (hi : (P.info? ty).map (·.size) = some cs.length)
    (h : wpList P ops Q rest (a.put o.dst (.agg cs.toArray)) w) : wpList P ops Q (o :: rest) a w :=
  BigFrame.wpList_want hw fun _ hK => wp_load_mid ty x ho b i hx cs d hc hu hd hi (hK _ _ h)

set_option maxRecDepth 100000 in
theorem lname_key (x : NameD) (w : World) (hl : x.h.length = 32) (hk : x.kd = 1) (hT0 : keyT x.h x.k ≠ []) :
    Calls Tryd.prog 15 #[.agg (nameC x)] w fun e w' => e = .returned (.string ⟨x.text.toArray⟩) ∧ Fr [] w w' := by
  have hk1 : (x.kd == 1) = true := by rw [hk]; rfl
  have hk2 : (x.kd == 2) = false := by rw [beq_eq_false_iff_ne]; omega
  have hk3 : (x.kd == 3) = false := by rw [beq_eq_false_iff_ne]; omega
  have hk4 : (x.kd == 4) = false := by rw [beq_eq_false_iff_ne]; omega
  have hk5 : (x.kd == 5) = false := by rw [beq_eq_false_iff_ne]; omega
  have h0 := nameC_kd x
  have hn := nameC_n hl
  have HT := Lib.hid (fun wx => rktext_any x.h x.k wx hl)
  have HR := Lib.hid (fun (wx : World) (g : Nat) (hg : wx.heap[g]? = some (Obj.cells (nameC x) 34 (0, 0))) => nameC_range hl hg)
  have hi := sizeK (k := x.k) hl
  have hlt := keyT_length_le (k := x.k) hl
  have hX : x.text = [111, 45] ++ keyT x.h x.k := by unfold NameD.text nameT; rw [if_pos hk, if_neg hT0]
  rw [hX]
  generalize keyT x.h x.k = T at *
  have hem : T.isEmpty = false := by cases T with | nil => exact (hT0 rfl).elim | cons _ _ => rfl
  obtain ⟨X2, hX2⟩ : ∃ X, X = ([111, 45] ++ T).toArray := ⟨_, rfl⟩
  have hc1 := cat_k (P := Tryd.prog) (A := #[111, 45]) (C := X2) (x := [111, 45]) (y := T) rfl rfl hX2 (by rw [List.length_append]; simp; omega)
  rw [← hX2]
  generalize hCk : keyC x.h x.k = CK at *
  have hi2 : (Tryd.prog.info? 24).map (·.size) = some CK.toList.length := by rw [hi]; simp
  have hcl0 : CK.toList.toArray = CK := by simp
  generalize CK.toList = D at *
  have hCL := Lib.hid hcl0
  clear hcl0
  generalize x.kd = kd at *
  generalize x.n = N at *
  generalize nameC x = C at *
  clear hl hCk hi hlt hT0 hX hX2 hk
  go_enter Tryd.func15, Tryd.ntmps15
  go_wp2_with (first
    | (refine wpL_boxArr rfl _ _ rfl C rfl ?_; intro w1 hh1 hf1 hs1; have hce := (cell_of_heap hh1.out 0).trans h0; have hcn := (cell_of_heap hh1.out 34).trans hn)
    | (refine wpList_load_mid rfl 24 _ rfl w.heap.size 1 rfl D _ (HR.out _ _ (hf2.heap hh1.out (by simp))) Tryd.underlying24 rfl hi2 ?_; rw [hCL.out])
    | (go_at_call 8; refine (HT.out w2).mono ?_; rintro e w3 ⟨rfl, hf3⟩)
    | (refine wpL_midW rfl 24 _ rfl w.heap.size 1 rfl D _ (HR.out _ _ hh1.out) Tryd.underlying24 rfl hi2 ?_; rw [hCL.out])
    | (go_at_call 8; refine (HT.out _).mono ?_; rintro e w2 ⟨rfl, hf2⟩))
  go_ret
  exact ⟨rfl, (hf1.trans hf2 (by simp) (n := []) (by simp)).trans hf3 (by simp) (by simp)⟩

set_option maxRecDepth 100000 in
theorem lname_nokey_low (x : NameD) (w : World) (hl : x.h.length = 32) (hk : x.kd = 1) (hT0 : keyT x.h x.k = []) (hlo : x.n < 0) :
    Calls Tryd.prog 15 #[.agg (nameC x)] w fun e w' => e = .returned (.string ⟨x.text.toArray⟩) ∧ Fr [] w w' := by
  have hk1 : (x.kd == 1) = true := by rw [hk]; rfl
  have hk2 : (x.kd == 2) = false := by rw [beq_eq_false_iff_ne]; omega
  have hk3 : (x.kd == 3) = false := by rw [beq_eq_false_iff_ne]; omega
  have hk4 : (x.kd == 4) = false := by rw [beq_eq_false_iff_ne]; omega
  have hk5 : (x.kd == 5) = false := by rw [beq_eq_false_iff_ne]; omega
  have hn0 : decide (0 ≤ x.n) = false := decide_eq_false (by omega)
  have h0 := nameC_kd x
  have hn := nameC_n hl
  have HT := Lib.hid (fun wx => rktext_any x.h x.k wx hl)
  have HR := Lib.hid (fun (wx : World) (g : Nat) (hg : wx.heap[g]? = some (Obj.cells (nameC x) 34 (0, 0))) => nameC_range hl hg)
  have hi := sizeK (k := x.k) hl
  have hlt := keyT_length_le (k := x.k) hl
  have hX : x.text = [] := by unfold NameD.text nameT; rw [if_pos hk, if_pos hT0]
  rw [hX]
  rw [hT0] at HT
  generalize hCk : keyC x.h x.k = CK at *
  have hi2 : (Tryd.prog.info? 24).map (·.size) = some CK.toList.length := by rw [hi]; simp
  have hcl0 : CK.toList.toArray = CK := by simp
  generalize CK.toList = D at *
  have hCL := Lib.hid hcl0
  clear hcl0
  generalize x.kd = kd at *
  generalize x.n = N at *
  generalize nameC x = C at *
  clear hl hCk hi hlt hT0 hX hlo hk
  go_enter Tryd.func15, Tryd.ntmps15
  go_wp2_with (first
    | (refine wpL_boxArr rfl _ _ rfl C rfl ?_; intro w1 hh1 hf1 hs1; have hce := (cell_of_heap hh1.out 0).trans h0; have hcn := (cell_of_heap hh1.out 34).trans hn)
    | (refine wpL_midW rfl 24 _ rfl w.heap.size 1 rfl D _ (HR.out _ _ hh1.out) Tryd.underlying24 rfl hi2 ?_; rw [hCL.out])
    | (go_at_call 8; refine (HT.out _).mono ?_; rintro e w2 ⟨rfl, hf2⟩; have hce2 := hf2.cell hce (by simp); have hcn2 := hf2.cell hcn (by simp)))
  go_ret
  exact ⟨rfl, hf1.trans hf2 (by simp) (by simp)⟩

set_option maxRecDepth 100000 in
theorem lname_nokey_high (x : NameD) (w : World) (hl : x.h.length = 32) (hk : x.kd = 1) (hT0 : keyT x.h x.k = []) (hlo : 0 ≤ x.n) (hhi : 1000000000 < x.n) :
    Calls Tryd.prog 15 #[.agg (nameC x)] w fun e w' => e = .returned (.string ⟨x.text.toArray⟩) ∧ Fr [] w w' := by
  have hk1 : (x.kd == 1) = true := by rw [hk]; rfl
  have hk2 : (x.kd == 2) = false := by rw [beq_eq_false_iff_ne]; omega
  have hk3 : (x.kd == 3) = false := by rw [beq_eq_false_iff_ne]; omega
  have hk4 : (x.kd == 4) = false := by rw [beq_eq_false_iff_ne]; omega
  have hk5 : (x.kd == 5) = false := by rw [beq_eq_false_iff_ne]; omega
  have hn0 : decide (0 ≤ x.n) = true := decide_eq_true (by omega)
  have hn1 : decide (x.n ≤ 1000000000) = false := decide_eq_false (by omega)
  have h0 := nameC_kd x
  have hn := nameC_n hl
  have HT := Lib.hid (fun wx => rktext_any x.h x.k wx hl)
  have HR := Lib.hid (fun (wx : World) (g : Nat) (hg : wx.heap[g]? = some (Obj.cells (nameC x) 34 (0, 0))) => nameC_range hl hg)
  have hi := sizeK (k := x.k) hl
  have hlt := keyT_length_le (k := x.k) hl
  have hX : x.text = [] := by unfold NameD.text nameT; rw [if_pos hk, if_pos hT0]
  rw [hX]
  rw [hT0] at HT
  generalize hCk : keyC x.h x.k = CK at *
  have hi2 : (Tryd.prog.info? 24).map (·.size) = some CK.toList.length := by rw [hi]; simp
  have hcl0 : CK.toList.toArray = CK := by simp
  generalize CK.toList = D at *
  have hCL := Lib.hid hcl0
  clear hcl0
  generalize x.kd = kd at *
  generalize x.n = N at *
  generalize nameC x = C at *
  clear hl hCk hi hlt hT0 hX hlo hhi hk
  go_enter Tryd.func15, Tryd.ntmps15
  go_wp2_with (first
    | (refine wpL_boxArr rfl _ _ rfl C rfl ?_; intro w1 hh1 hf1 hs1; have hce := (cell_of_heap hh1.out 0).trans h0; have hcn := (cell_of_heap hh1.out 34).trans hn)
    | (refine wpL_midW rfl 24 _ rfl w.heap.size 1 rfl D _ (HR.out _ _ hh1.out) Tryd.underlying24 rfl hi2 ?_; rw [hCL.out])
    | (go_at_call 8; refine (HT.out _).mono ?_; rintro e w2 ⟨rfl, hf2⟩; have hce2 := hf2.cell hce (by simp); have hcn2 := hf2.cell hcn (by simp)))
  go_ret
  exact ⟨rfl, hf1.trans hf2 (by simp) (by simp)⟩

set_option maxRecDepth 100000 in
theorem lname_nokey_in (x : NameD) (w : World) (hl : x.h.length = 32) (hk : x.kd = 1) (hT0 : keyT x.h x.k = []) (hlo : 0 ≤ x.n) (hhi : x.n ≤ 1000000000) :
    Calls Tryd.prog 15 #[.agg (nameC x)] w fun e w' => e = .returned (.string ⟨x.text.toArray⟩) ∧ Fr [] w w' := by
  have hk1 : (x.kd == 1) = true := by rw [hk]; rfl
  have hk2 : (x.kd == 2) = false := by rw [beq_eq_false_iff_ne]; omega
  have hk3 : (x.kd == 3) = false := by rw [beq_eq_false_iff_ne]; omega
  have hk4 : (x.kd == 4) = false := by rw [beq_eq_false_iff_ne]; omega
  have hk5 : (x.kd == 5) = false := by rw [beq_eq_false_iff_ne]; omega
  have hn0 : decide (0 ≤ x.n) = true := decide_eq_true (by omega)
  have hn1 : decide (x.n ≤ 1000000000) = true := decide_eq_true (by omega)
  have h0 := nameC_kd x
  have hn := nameC_n hl
  have HT := Lib.hid (fun wx => rktext_any x.h x.k wx hl)
  have HR := Lib.hid (fun (wx : World) (g : Nat) (hg : wx.heap[g]? = some (Obj.cells (nameC x) 34 (0, 0))) => nameC_range hl hg)
  have hi := sizeK (k := x.k) hl
  have hlt := keyT_length_le (k := x.k) hl
  have hX : x.text = [] := by unfold NameD.text nameT; rw [if_pos hk, if_pos hT0]
  rw [hX]
  rw [hT0] at HT
  generalize hCk : keyC x.h x.k = CK at *
  have hi2 : (Tryd.prog.info? 24).map (·.size) = some CK.toList.length := by rw [hi]; simp
  have hcl0 : CK.toList.toArray = CK := by simp
  generalize CK.toList = D at *
  have hCL := Lib.hid hcl0
  clear hcl0
  generalize x.kd = kd at *
  generalize x.n = N at *
  generalize nameC x = C at *
  clear hl hCk hi hlt hT0 hX hlo hhi hk
  go_enter Tryd.func15, Tryd.ntmps15
  go_wp2_with (first
    | (refine wpL_boxArr rfl _ _ rfl C rfl ?_; intro w1 hh1 hf1 hs1; have hce := (cell_of_heap hh1.out 0).trans h0; have hcn := (cell_of_heap hh1.out 34).trans hn)
    | (refine wpL_midW rfl 24 _ rfl w.heap.size 1 rfl D _ (HR.out _ _ hh1.out) Tryd.underlying24 rfl hi2 ?_; rw [hCL.out])
    | (go_at_call 8; refine (HT.out _).mono ?_; rintro e w2 ⟨rfl, hf2⟩; have hce2 := hf2.cell hce (by simp); have hcn2 := hf2.cell hcn (by simp)))
  go_ret
  exact ⟨rfl, hf1.trans hf2 (by simp) (by simp)⟩

set_option maxRecDepth 100000 in
theorem lname_t_in (x : NameD) (w : World) (hl : x.h.length = 32) (hk : x.kd = 2) (hlo : 0 ≤ x.n) (hhi : x.n ≤ 1000000000) :
    Calls Tryd.prog 15 #[.agg (nameC x)] w fun e w' => e = .returned (.string ⟨x.text.toArray⟩) ∧ Fr [] w w' := by
  have hk1 : (x.kd == 1) = false := by rw [beq_eq_false_iff_ne]; omega
  have hk2 : (x.kd == 2) = true := by rw [hk]; rfl
  have hk3 : (x.kd == 3) = false := by rw [beq_eq_false_iff_ne]; omega
  have hk4 : (x.kd == 4) = false := by rw [beq_eq_false_iff_ne]; omega
  have hk5 : (x.kd == 5) = false := by rw [beq_eq_false_iff_ne]; omega
  have hn0 : decide (0 ≤ x.n) = true := decide_eq_true (by omega)
  have hn1 : decide (x.n ≤ 1000000000) = true := decide_eq_true (by omega)
  have h0 := nameC_kd x
  have hn := nameC_n hl
  have hX : x.text = [116, 45] ++ Lib.itoa x.n := by unfold NameD.text nameT; rw [if_neg (by omega), if_pos hk]; unfold numT; rw [if_pos (by omega)]
  have hil := Lib.itoa_length_le x.n (by omega) (by omega)
  have hitoa : Lib.itoa x.n = Lib.decDigits x.n.toNat := by unfold Lib.itoa; rw [if_neg (by omega)]
  have HD := Lib.hid (dec_any x.n.toNat (by omega))
  rw [show ((x.n.toNat : Nat) : Int) = x.n by omega, ← hitoa] at HD
  rw [hX]
  generalize Lib.itoa x.n = T at *
  obtain ⟨X2, hX2⟩ : ∃ X, X = ([116, 45] ++ T).toArray := ⟨_, rfl⟩
  have hc1 := cat_k (P := Tryd.prog) (A := #[116, 45]) (C := X2) (x := [116, 45]) (y := T) rfl rfl hX2 (by rw [List.length_append]; simp; omega)
  rw [← hX2]
  generalize x.kd = kd at *
  generalize x.n = N at *
  generalize nameC x = C at *
  clear hl hX hil hitoa hX2 hlo hhi hk
  go_enter Tryd.func15, Tryd.ntmps15
  go_wp2_with (first
    | (refine wpL_boxArr rfl _ _ rfl C rfl ?_; intro w1 hh1 hf1 hs1; have hce := (cell_of_heap hh1.out 0).trans h0; have hcn := (cell_of_heap hh1.out 34).trans hn)
    | (go_at_call 25; refine (HD.out _).mono ?_; rintro e w2 ⟨rfl, hf2⟩))
  go_ret
  exact ⟨rfl, hf1.trans hf2 (by simp) (by simp)⟩

set_option maxRecDepth 100000 in
theorem lname_q_in (x : NameD) (w : World) (hl : x.h.length = 32) (hk : x.kd = 3) (hlo : 0 ≤ x.n) (hhi : x.n ≤ 1000000000) :
    Calls Tryd.prog 15 #[.agg (nameC x)] w fun e w' => e = .returned (.string ⟨x.text.toArray⟩) ∧ Fr [] w w' := by
  have hk1 : (x.kd == 1) = false := by rw [beq_eq_false_iff_ne]; omega
  have hk2 : (x.kd == 2) = false := by rw [beq_eq_false_iff_ne]; omega
  have hk3 : (x.kd == 3) = true := by rw [hk]; rfl
  have hk4 : (x.kd == 4) = false := by rw [beq_eq_false_iff_ne]; omega
  have hk5 : (x.kd == 5) = false := by rw [beq_eq_false_iff_ne]; omega
  have hn0 : decide (0 ≤ x.n) = true := decide_eq_true (by omega)
  have hn1 : decide (x.n ≤ 1000000000) = true := decide_eq_true (by omega)
  have h0 := nameC_kd x
  have hn := nameC_n hl
  have hX : x.text = [113, 45] ++ Lib.itoa x.n := by unfold NameD.text nameT; rw [if_neg (by omega), if_neg (by omega), if_pos hk]; unfold numT; rw [if_pos (by omega)]
  have hil := Lib.itoa_length_le x.n (by omega) (by omega)
  have hitoa : Lib.itoa x.n = Lib.decDigits x.n.toNat := by unfold Lib.itoa; rw [if_neg (by omega)]
  have HD := Lib.hid (dec_any x.n.toNat (by omega))
  rw [show ((x.n.toNat : Nat) : Int) = x.n by omega, ← hitoa] at HD
  rw [hX]
  generalize Lib.itoa x.n = T at *
  obtain ⟨X2, hX2⟩ : ∃ X, X = ([113, 45] ++ T).toArray := ⟨_, rfl⟩
  have hc1 := cat_k (P := Tryd.prog) (A := #[113, 45]) (C := X2) (x := [113, 45]) (y := T) rfl rfl hX2 (by rw [List.length_append]; simp; omega)
  rw [← hX2]
  generalize x.kd = kd at *
  generalize x.n = N at *
  generalize nameC x = C at *
  clear hl hX hil hitoa hX2 hlo hhi hk
  go_enter Tryd.func15, Tryd.ntmps15
  go_wp2_with (first
    | (refine wpL_boxArr rfl _ _ rfl C rfl ?_; intro w1 hh1 hf1 hs1; have hce := (cell_of_heap hh1.out 0).trans h0; have hcn := (cell_of_heap hh1.out 34).trans hn)
    | (go_at_call 25; refine (HD.out _).mono ?_; rintro e w2 ⟨rfl, hf2⟩))
  go_ret
  exact ⟨rfl, hf1.trans hf2 (by simp) (by simp)⟩

set_option maxRecDepth 100000 in
theorem lname_t_low (x : NameD) (w : World) (hl : x.h.length = 32) (hk : x.kd = 2) (hlo : x.n < 0) :
    Calls Tryd.prog 15 #[.agg (nameC x)] w fun e w' => e = .returned (.string ⟨x.text.toArray⟩) ∧ Fr [] w w' := by
  have hk1 : (x.kd == 1) = false := by rw [beq_eq_false_iff_ne]; omega
  have hk2 : (x.kd == 2) = true := by rw [hk]; rfl
  have hk3 : (x.kd == 3) = false := by rw [beq_eq_false_iff_ne]; omega
  have hk4 : (x.kd == 4) = false := by rw [beq_eq_false_iff_ne]; omega
  have hk5 : (x.kd == 5) = false := by rw [beq_eq_false_iff_ne]; omega
  have hn0 : decide (0 ≤ x.n) = false := decide_eq_false (by omega)
  have h0 := nameC_kd x
  have hn := nameC_n hl
  have hX : x.text = [] := by unfold NameD.text nameT; rw [if_neg (by omega), if_pos hk]; unfold numT; rw [if_neg (by omega)]
  rw [hX]
  generalize x.kd = kd at *
  generalize x.n = N at *
  generalize nameC x = C at *
  clear hl hX hlo hk
  go_enter Tryd.func15, Tryd.ntmps15
  go_wp2_with (first
    | (refine wpL_boxArr rfl _ _ rfl C rfl ?_; intro w1 hh1 hf1 hs1; have hce := (cell_of_heap hh1.out 0).trans h0; have hcn := (cell_of_heap hh1.out 34).trans hn))
  go_ret
  exact ⟨rfl, hf1⟩

set_option maxRecDepth 100000 in
theorem lname_q_low (x : NameD) (w : World) (hl : x.h.length = 32) (hk : x.kd = 3) (hlo : x.n < 0) :
    Calls Tryd.prog 15 #[.agg (nameC x)] w fun e w' => e = .returned (.string ⟨x.text.toArray⟩) ∧ Fr [] w w' := by
  have hk1 : (x.kd == 1) = false := by rw [beq_eq_false_iff_ne]; omega
  have hk2 : (x.kd == 2) = false := by rw [beq_eq_false_iff_ne]; omega
  have hk3 : (x.kd == 3) = true := by rw [hk]; rfl
  have hk4 : (x.kd == 4) = false := by rw [beq_eq_false_iff_ne]; omega
  have hk5 : (x.kd == 5) = false := by rw [beq_eq_false_iff_ne]; omega
  have hn0 : decide (0 ≤ x.n) = false := decide_eq_false (by omega)
  have h0 := nameC_kd x
  have hn := nameC_n hl
  have hX : x.text = [] := by unfold NameD.text nameT; rw [if_neg (by omega), if_neg (by omega), if_pos hk]; unfold numT; rw [if_neg (by omega)]
  rw [hX]
  generalize x.kd = kd at *
  generalize x.n = N at *
  generalize nameC x = C at *
  clear hl hX hlo hk
  go_enter Tryd.func15, Tryd.ntmps15
  go_wp2_with (first
    | (refine wpL_boxArr rfl _ _ rfl C rfl ?_; intro w1 hh1 hf1 hs1; have hce := (cell_of_heap hh1.out 0).trans h0; have hcn := (cell_of_heap hh1.out 34).trans hn))
  go_ret
  exact ⟨rfl, hf1⟩

set_option maxRecDepth 100000 in
theorem lname_t_high (x : NameD) (w : World) (hl : x.h.length = 32) (hk : x.kd = 2) (hlo : 0 ≤ x.n) (hhi : 1000000000 < x.n) :
    Calls Tryd.prog 15 #[.agg (nameC x)] w fun e w' => e = .returned (.string ⟨x.text.toArray⟩) ∧ Fr [] w w' := by
  have hk1 : (x.kd == 1) = false := by rw [beq_eq_false_iff_ne]; omega
  have hk2 : (x.kd == 2) = true := by rw [hk]; rfl
  have hk3 : (x.kd == 3) = false := by rw [beq_eq_false_iff_ne]; omega
  have hk4 : (x.kd == 4) = false := by rw [beq_eq_false_iff_ne]; omega
  have hk5 : (x.kd == 5) = false := by rw [beq_eq_false_iff_ne]; omega
  have hn0 : decide (0 ≤ x.n) = true := decide_eq_true (by omega)
  have hn1 : decide (x.n ≤ 1000000000) = false := decide_eq_false (by omega)
  have h0 := nameC_kd x
  have hn := nameC_n hl
  have hX : x.text = [] := by unfold NameD.text nameT; rw [if_neg (by omega), if_pos hk]; unfold numT; rw [if_neg (by omega)]
  rw [hX]
  generalize x.kd = kd at *
  generalize x.n = N at *
  generalize nameC x = C at *
  clear hl hX hlo hhi hk
  go_enter Tryd.func15, Tryd.ntmps15
  go_wp2_with (first
    | (refine wpL_boxArr rfl _ _ rfl C rfl ?_; intro w1 hh1 hf1 hs1; have hce := (cell_of_heap hh1.out 0).trans h0; have hcn := (cell_of_heap hh1.out 34).trans hn))
  go_ret
  exact ⟨rfl, hf1⟩

set_option maxRecDepth 100000 in
theorem lname_q_high (x : NameD) (w : World) (hl : x.h.length = 32) (hk : x.kd = 3) (hlo : 0 ≤ x.n) (hhi : 1000000000 < x.n) :
    Calls Tryd.prog 15 #[.agg (nameC x)] w fun e w' => e = .returned (.string ⟨x.text.toArray⟩) ∧ Fr [] w w' := by
  have hk1 : (x.kd == 1) = false := by rw [beq_eq_false_iff_ne]; omega
  have hk2 : (x.kd == 2) = false := by rw [beq_eq_false_iff_ne]; omega
  have hk3 : (x.kd == 3) = true := by rw [hk]; rfl
  have hk4 : (x.kd == 4) = false := by rw [beq_eq_false_iff_ne]; omega
  have hk5 : (x.kd == 5) = false := by rw [beq_eq_false_iff_ne]; omega
  have hn0 : decide (0 ≤ x.n) = true := decide_eq_true (by omega)
  have hn1 : decide (x.n ≤ 1000000000) = false := decide_eq_false (by omega)
  have h0 := nameC_kd x
  have hn := nameC_n hl
  have hX : x.text = [] := by unfold NameD.text nameT; rw [if_neg (by omega), if_neg (by omega), if_pos hk]; unfold numT; rw [if_neg (by omega)]
  rw [hX]
  generalize x.kd = kd at *
  generalize x.n = N at *
  generalize nameC x = C at *
  clear hl hX hlo hhi hk
  go_enter Tryd.func15, Tryd.ntmps15
  go_wp2_with (first
    | (refine wpL_boxArr rfl _ _ rfl C rfl ?_; intro w1 hh1 hf1 hs1; have hce := (cell_of_heap hh1.out 0).trans h0; have hcn := (cell_of_heap hh1.out 34).trans hn))
  go_ret
  exact ⟨rfl, hf1⟩

set_option maxRecDepth 100000 in
theorem lname_j_low (x : NameD) (w : World) (hl : x.h.length = 32) (hk : x.kd = 4) (hlo : x.n < 0) :
    Calls Tryd.prog 15 #[.agg (nameC x)] w fun e w' => e = .returned (.string ⟨x.text.toArray⟩) ∧ Fr [] w w' := by
  have hk1 : (x.kd == 1) = false := by rw [beq_eq_false_iff_ne]; omega
  have hk2 : (x.kd == 2) = false := by rw [beq_eq_false_iff_ne]; omega
  have hk3 : (x.kd == 3) = false := by rw [beq_eq_false_iff_ne]; omega
  have hk4 : (x.kd == 4) = true := by rw [hk]; rfl
  have hk5 : (x.kd == 5) = false := by rw [beq_eq_false_iff_ne]; omega
  have hn0 : decide (0 ≤ x.n) = false := decide_eq_false (by omega)
  have h0 := nameC_kd x
  have hn := nameC_n hl
  have hX : x.text = [106, 111, 117, 114, 110, 97, 108] := by unfold NameD.text nameT; rw [if_neg (by omega), if_neg (by omega), if_neg (by omega), if_pos hk]; rfl
  rw [hX]
  generalize x.kd = kd at *
  generalize x.n = N at *
  generalize nameC x = C at *
  clear hl hX hlo hk
  go_enter Tryd.func15, Tryd.ntmps15
  go_wp2_with (first
    | (refine wpL_boxArr rfl _ _ rfl C rfl ?_; intro w1 hh1 hf1 hs1; have hce := (cell_of_heap hh1.out 0).trans h0; have hcn := (cell_of_heap hh1.out 34).trans hn))
  go_ret
  exact ⟨rfl, hf1⟩

set_option maxRecDepth 100000 in
theorem lname_f_low (x : NameD) (w : World) (hl : x.h.length = 32) (hk : x.kd = 5) (hlo : x.n < 0) :
    Calls Tryd.prog 15 #[.agg (nameC x)] w fun e w' => e = .returned (.string ⟨x.text.toArray⟩) ∧ Fr [] w w' := by
  have hk1 : (x.kd == 1) = false := by rw [beq_eq_false_iff_ne]; omega
  have hk2 : (x.kd == 2) = false := by rw [beq_eq_false_iff_ne]; omega
  have hk3 : (x.kd == 3) = false := by rw [beq_eq_false_iff_ne]; omega
  have hk4 : (x.kd == 4) = false := by rw [beq_eq_false_iff_ne]; omega
  have hk5 : (x.kd == 5) = true := by rw [hk]; rfl
  have hn0 : decide (0 ≤ x.n) = false := decide_eq_false (by omega)
  have h0 := nameC_kd x
  have hn := nameC_n hl
  have hX : x.text = [106, 111, 117, 114, 110, 97, 108, 46, 110, 101, 119] := by unfold NameD.text nameT; rw [if_neg (by omega), if_neg (by omega), if_neg (by omega), if_neg (by omega), if_pos hk]; rfl
  rw [hX]
  generalize x.kd = kd at *
  generalize x.n = N at *
  generalize nameC x = C at *
  clear hl hX hlo hk
  go_enter Tryd.func15, Tryd.ntmps15
  go_wp2_with (first
    | (refine wpL_boxArr rfl _ _ rfl C rfl ?_; intro w1 hh1 hf1 hs1; have hce := (cell_of_heap hh1.out 0).trans h0; have hcn := (cell_of_heap hh1.out 34).trans hn))
  go_ret
  exact ⟨rfl, hf1⟩

set_option maxRecDepth 100000 in
theorem lname_n_low (x : NameD) (w : World) (hl : x.h.length = 32) (hk : x.kd ≠ 1 ∧ x.kd ≠ 2 ∧ x.kd ≠ 3 ∧ x.kd ≠ 4 ∧ x.kd ≠ 5) (hlo : x.n < 0) :
    Calls Tryd.prog 15 #[.agg (nameC x)] w fun e w' => e = .returned (.string ⟨x.text.toArray⟩) ∧ Fr [] w w' := by
  have hk1 : (x.kd == 1) = false := by rw [beq_eq_false_iff_ne]; omega
  have hk2 : (x.kd == 2) = false := by rw [beq_eq_false_iff_ne]; omega
  have hk3 : (x.kd == 3) = false := by rw [beq_eq_false_iff_ne]; omega
  have hk4 : (x.kd == 4) = false := by rw [beq_eq_false_iff_ne]; omega
  have hk5 : (x.kd == 5) = false := by rw [beq_eq_false_iff_ne]; omega
  have hn0 : decide (0 ≤ x.n) = false := decide_eq_false (by omega)
  have h0 := nameC_kd x
  have hn := nameC_n hl
  have hX : x.text = [] := by unfold NameD.text nameT; rw [if_neg (by omega), if_neg (by omega), if_neg (by omega), if_neg (by omega), if_neg (by omega)]
  rw [hX]
  generalize x.kd = kd at *
  generalize x.n = N at *
  generalize nameC x = C at *
  clear hl hX hlo hk
  go_enter Tryd.func15, Tryd.ntmps15
  go_wp2_with (first
    | (refine wpL_boxArr rfl _ _ rfl C rfl ?_; intro w1 hh1 hf1 hs1; have hce := (cell_of_heap hh1.out 0).trans h0; have hcn := (cell_of_heap hh1.out 34).trans hn))
  go_ret
  exact ⟨rfl, hf1⟩

set_option maxRecDepth 100000 in
theorem lname_j_high (x : NameD) (w : World) (hl : x.h.length = 32) (hk : x.kd = 4) (hlo : 0 ≤ x.n) (hhi : 1000000000 < x.n) :
    Calls Tryd.prog 15 #[.agg (nameC x)] w fun e w' => e = .returned (.string ⟨x.text.toArray⟩) ∧ Fr [] w w' := by
  have hk1 : (x.kd == 1) = false := by rw [beq_eq_false_iff_ne]; omega
  have hk2 : (x.kd == 2) = false := by rw [beq_eq_false_iff_ne]; omega
  have hk3 : (x.kd == 3) = false := by rw [beq_eq_false_iff_ne]; omega
  have hk4 : (x.kd == 4) = true := by rw [hk]; rfl
  have hk5 : (x.kd == 5) = false := by rw [beq_eq_false_iff_ne]; omega
  have hn0 : decide (0 ≤ x.n) = true := decide_eq_true (by omega)
  have hn1 : decide (x.n ≤ 1000000000) = false := decide_eq_false (by omega)
  have h0 := nameC_kd x
  have hn := nameC_n hl
  have hX : x.text = [106, 111, 117, 114, 110, 97, 108] := by unfold NameD.text nameT; rw [if_neg (by omega), if_neg (by omega), if_neg (by omega), if_pos hk]; rfl
  rw [hX]
  generalize x.kd = kd at *
  generalize x.n = N at *
  generalize nameC x = C at *
  clear hl hX hlo hhi hk
  go_enter Tryd.func15, Tryd.ntmps15
  go_wp2_with (first
    | (refine wpL_boxArr rfl _ _ rfl C rfl ?_; intro w1 hh1 hf1 hs1; have hce := (cell_of_heap hh1.out 0).trans h0; have hcn := (cell_of_heap hh1.out 34).trans hn))
  go_ret
  exact ⟨rfl, hf1⟩

set_option maxRecDepth 100000 in
theorem lname_f_high (x : NameD) (w : World) (hl : x.h.length = 32) (hk : x.kd = 5) (hlo : 0 ≤ x.n) (hhi : 1000000000 < x.n) :
    Calls Tryd.prog 15 #[.agg (nameC x)] w fun e w' => e = .returned (.string ⟨x.text.toArray⟩) ∧ Fr [] w w' := by
  have hk1 : (x.kd == 1) = false := by rw [beq_eq_false_iff_ne]; omega
  have hk2 : (x.kd == 2) = false := by rw [beq_eq_false_iff_ne]; omega
  have hk3 : (x.kd == 3) = false := by rw [beq_eq_false_iff_ne]; omega
  have hk4 : (x.kd == 4) = false := by rw [beq_eq_false_iff_ne]; omega
  have hk5 : (x.kd == 5) = true := by rw [hk]; rfl
  have hn0 : decide (0 ≤ x.n) = true := decide_eq_true (by omega)
  have hn1 : decide (x.n ≤ 1000000000) = false := decide_eq_false (by omega)
  have h0 := nameC_kd x
  have hn := nameC_n hl
  have hX : x.text = [106, 111, 117, 114, 110, 97, 108, 46, 110, 101, 119] := by unfold NameD.text nameT; rw [if_neg (by omega), if_neg (by omega), if_neg (by omega), if_neg (by omega), if_pos hk]; rfl
  rw [hX]
  generalize x.kd = kd at *
  generalize x.n = N at *
  generalize nameC x = C at *
  clear hl hX hlo hhi hk
  go_enter Tryd.func15, Tryd.ntmps15
  go_wp2_with (first
    | (refine wpL_boxArr rfl _ _ rfl C rfl ?_; intro w1 hh1 hf1 hs1; have hce := (cell_of_heap hh1.out 0).trans h0; have hcn := (cell_of_heap hh1.out 34).trans hn))
  go_ret
  exact ⟨rfl, hf1⟩

set_option maxRecDepth 100000 in
theorem lname_n_high (x : NameD) (w : World) (hl : x.h.length = 32) (hk : x.kd ≠ 1 ∧ x.kd ≠ 2 ∧ x.kd ≠ 3 ∧ x.kd ≠ 4 ∧ x.kd ≠ 5) (hlo : 0 ≤ x.n) (hhi : 1000000000 < x.n) :
    Calls Tryd.prog 15 #[.agg (nameC x)] w fun e w' => e = .returned (.string ⟨x.text.toArray⟩) ∧ Fr [] w w' := by
  have hk1 : (x.kd == 1) = false := by rw [beq_eq_false_iff_ne]; omega
  have hk2 : (x.kd == 2) = false := by rw [beq_eq_false_iff_ne]; omega
  have hk3 : (x.kd == 3) = false := by rw [beq_eq_false_iff_ne]; omega
  have hk4 : (x.kd == 4) = false := by rw [beq_eq_false_iff_ne]; omega
  have hk5 : (x.kd == 5) = false := by rw [beq_eq_false_iff_ne]; omega
  have hn0 : decide (0 ≤ x.n) = true := decide_eq_true (by omega)
  have hn1 : decide (x.n ≤ 1000000000) = false := decide_eq_false (by omega)
  have h0 := nameC_kd x
  have hn := nameC_n hl
  have hX : x.text = [] := by unfold NameD.text nameT; rw [if_neg (by omega), if_neg (by omega), if_neg (by omega), if_neg (by omega), if_neg (by omega)]
  rw [hX]
  generalize x.kd = kd at *
  generalize x.n = N at *
  generalize nameC x = C at *
  clear hl hX hlo hhi hk
  go_enter Tryd.func15, Tryd.ntmps15
  go_wp2_with (first
    | (refine wpL_boxArr rfl _ _ rfl C rfl ?_; intro w1 hh1 hf1 hs1; have hce := (cell_of_heap hh1.out 0).trans h0; have hcn := (cell_of_heap hh1.out 34).trans hn))
  go_ret
  exact ⟨rfl, hf1⟩

set_option maxRecDepth 100000 in
theorem lname_j_in (x : NameD) (w : World) (hl : x.h.length = 32) (hk : x.kd = 4) (hlo : 0 ≤ x.n) (hhi : x.n ≤ 1000000000) :
    Calls Tryd.prog 15 #[.agg (nameC x)] w fun e w' => e = .returned (.string ⟨x.text.toArray⟩) ∧ Fr [] w w' := by
  have hk1 : (x.kd == 1) = false := by rw [beq_eq_false_iff_ne]; omega
  have hk2 : (x.kd == 2) = false := by rw [beq_eq_false_iff_ne]; omega
  have hk3 : (x.kd == 3) = false := by rw [beq_eq_false_iff_ne]; omega
  have hk4 : (x.kd == 4) = true := by rw [hk]; rfl
  have hk5 : (x.kd == 5) = false := by rw [beq_eq_false_iff_ne]; omega
  have hn0 : decide (0 ≤ x.n) = true := decide_eq_true (by omega)
  have hn1 : decide (x.n ≤ 1000000000) = true := decide_eq_true (by omega)
  have h0 := nameC_kd x
  have hn := nameC_n hl
  have hX : x.text = [106, 111, 117, 114, 110, 97, 108] := by unfold NameD.text nameT; rw [if_neg (by omega), if_neg (by omega), if_neg (by omega), if_pos hk]; rfl
  rw [hX]
  generalize x.kd = kd at *
  generalize x.n = N at *
  generalize nameC x = C at *
  clear hl hX hlo hhi hk
  go_enter Tryd.func15, Tryd.ntmps15
  go_wp2_with (first
    | (refine wpL_boxArr rfl _ _ rfl C rfl ?_; intro w1 hh1 hf1 hs1; have hce := (cell_of_heap hh1.out 0).trans h0; have hcn := (cell_of_heap hh1.out 34).trans hn))
  go_ret
  exact ⟨rfl, hf1⟩

set_option maxRecDepth 100000 in
theorem lname_f_in (x : NameD) (w : World) (hl : x.h.length = 32) (hk : x.kd = 5) (hlo : 0 ≤ x.n) (hhi : x.n ≤ 1000000000) :
    Calls Tryd.prog 15 #[.agg (nameC x)] w fun e w' => e = .returned (.string ⟨x.text.toArray⟩) ∧ Fr [] w w' := by
  have hk1 : (x.kd == 1) = false := by rw [beq_eq_false_iff_ne]; omega
  have hk2 : (x.kd == 2) = false := by rw [beq_eq_false_iff_ne]; omega
  have hk3 : (x.kd == 3) = false := by rw [beq_eq_false_iff_ne]; omega
  have hk4 : (x.kd == 4) = false := by rw [beq_eq_false_iff_ne]; omega
  have hk5 : (x.kd == 5) = true := by rw [hk]; rfl
  have hn0 : decide (0 ≤ x.n) = true := decide_eq_true (by omega)
  have hn1 : decide (x.n ≤ 1000000000) = true := decide_eq_true (by omega)
  have h0 := nameC_kd x
  have hn := nameC_n hl
  have hX : x.text = [106, 111, 117, 114, 110, 97, 108, 46, 110, 101, 119] := by unfold NameD.text nameT; rw [if_neg (by omega), if_neg (by omega), if_neg (by omega), if_neg (by omega), if_pos hk]; rfl
  rw [hX]
  generalize x.kd = kd at *
  generalize x.n = N at *
  generalize nameC x = C at *
  clear hl hX hlo hhi hk
  go_enter Tryd.func15, Tryd.ntmps15
  go_wp2_with (first
    | (refine wpL_boxArr rfl _ _ rfl C rfl ?_; intro w1 hh1 hf1 hs1; have hce := (cell_of_heap hh1.out 0).trans h0; have hcn := (cell_of_heap hh1.out 34).trans hn))
  go_ret
  exact ⟨rfl, hf1⟩

set_option maxRecDepth 100000 in
theorem lname_n_in (x : NameD) (w : World) (hl : x.h.length = 32) (hk : x.kd ≠ 1 ∧ x.kd ≠ 2 ∧ x.kd ≠ 3 ∧ x.kd ≠ 4 ∧ x.kd ≠ 5) (hlo : 0 ≤ x.n) (hhi : x.n ≤ 1000000000) :
    Calls Tryd.prog 15 #[.agg (nameC x)] w fun e w' => e = .returned (.string ⟨x.text.toArray⟩) ∧ Fr [] w w' := by
  have hk1 : (x.kd == 1) = false := by rw [beq_eq_false_iff_ne]; omega
  have hk2 : (x.kd == 2) = false := by rw [beq_eq_false_iff_ne]; omega
  have hk3 : (x.kd == 3) = false := by rw [beq_eq_false_iff_ne]; omega
  have hk4 : (x.kd == 4) = false := by rw [beq_eq_false_iff_ne]; omega
  have hk5 : (x.kd == 5) = false := by rw [beq_eq_false_iff_ne]; omega
  have hn0 : decide (0 ≤ x.n) = true := decide_eq_true (by omega)
  have hn1 : decide (x.n ≤ 1000000000) = true := decide_eq_true (by omega)
  have h0 := nameC_kd x
  have hn := nameC_n hl
  have hX : x.text = [] := by unfold NameD.text nameT; rw [if_neg (by omega), if_neg (by omega), if_neg (by omega), if_neg (by omega), if_neg (by omega)]
  rw [hX]
  generalize x.kd = kd at *
  generalize x.n = N at *
  generalize nameC x = C at *
  clear hl hX hlo hhi hk
  go_enter Tryd.func15, Tryd.ntmps15
  go_wp2_with (first
    | (refine wpL_boxArr rfl _ _ rfl C rfl ?_; intro w1 hh1 hf1 hs1; have hce := (cell_of_heap hh1.out 0).trans h0; have hcn := (cell_of_heap hh1.out 34).trans hn))
  go_ret
  exact ⟨rfl, hf1⟩

/-- The law's name is the file name. -/
theorem lname_any (x : NameD) (w : World) (hl : x.h.length = 32) :
    Calls Tryd.prog 15 #[.agg (nameC x)] w fun e w' => e = .returned (.string ⟨x.text.toArray⟩) ∧ Fr [] w w' := by
  have hN : x.n < 0 ∨ (0 ≤ x.n ∧ 1000000000 < x.n) ∨ (0 ≤ x.n ∧ x.n ≤ 1000000000) := by omega
  by_cases h1 : x.kd = 1
  · by_cases hT : keyT x.h x.k = []
    · rcases hN with h | ⟨h, h'⟩ | ⟨h, h'⟩
      · exact lname_nokey_low x w hl h1 hT h
      · exact lname_nokey_high x w hl h1 hT h h'
      · exact lname_nokey_in x w hl h1 hT h h'
    · exact lname_key x w hl h1 hT
  · by_cases h2 : x.kd = 2
    · rcases hN with h | ⟨h, h'⟩ | ⟨h, h'⟩
      · exact lname_t_low x w hl h2 h
      · exact lname_t_high x w hl h2 h h'
      · exact lname_t_in x w hl h2 h h'
    · by_cases h3 : x.kd = 3
      · rcases hN with h | ⟨h, h'⟩ | ⟨h, h'⟩
        · exact lname_q_low x w hl h3 h
        · exact lname_q_high x w hl h3 h h'
        · exact lname_q_in x w hl h3 h h'
      · by_cases h4 : x.kd = 4
        · rcases hN with h | ⟨h, h'⟩ | ⟨h, h'⟩
          · exact lname_j_low x w hl h4 h
          · exact lname_j_high x w hl h4 h h'
          · exact lname_j_in x w hl h4 h h'
        · by_cases h5 : x.kd = 5
          · rcases hN with h | ⟨h, h'⟩ | ⟨h, h'⟩
            · exact lname_f_low x w hl h5 h
            · exact lname_f_high x w hl h5 h h'
            · exact lname_f_in x w hl h5 h h'
          · have hk : x.kd ≠ 1 ∧ x.kd ≠ 2 ∧ x.kd ≠ 3 ∧ x.kd ≠ 4 ∧ x.kd ≠ 5 := ⟨h1, h2, h3, h4, h5⟩
            rcases hN with h | ⟨h, h'⟩ | ⟨h, h'⟩
            · exact lname_n_low x w hl hk h
            · exact lname_n_high x w hl hk h h'
            · exact lname_n_in x w hl hk h h'
end Go.Proofs.YtjlkcdmeiakkbaaDoor
