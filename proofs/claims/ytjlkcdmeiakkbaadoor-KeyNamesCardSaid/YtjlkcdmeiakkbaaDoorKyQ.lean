/- Stage 17: KeyNames: the name of anything, and that it is read as that. (Made by gen_kyq.py.) -/
import Derived.Test.YtjlkcdmeiakkbaaDoorKyJ
import Derived.Test.YtjlkcdmeiakkbaaDoorKyL
import Derived.Test.YtjlkcdmeiakkbaaDoorKyM
set_option linter.unusedVariables false
set_option linter.unusedSimpArgs false
namespace Go.Proofs.YtjlkcdmeiakkbaaDoor
open Go.RowKit

set_option maxRecDepth 100000 in
theorem names_none (kd : Int) (h : List UInt8) (k n : Int) (w : World) (hl : h.length = 32) (hv : VarsAt w) (hS : nameT kd h k n = []) :
    Calls Tryd.prog 5 #[.int .i64 kd, .agg (keyC h k), .int .i64 n] w fun e w' => e = .returned (.bool true) ∧ Fr [] w w' := by
  have HW := Lib.hid (fun wx (hx : VarsAt wx) => write_any ⟨kd, h, k, n⟩ wx hl hx)
  have HN := Lib.hid (fun wx => lname_any ⟨kd, h, k, n⟩ wx hl)
  have hb := built_name hl kd k n
  have hsN := sizeN (x := ⟨kd, h, k, n⟩) hl
  have h1N := nameC_one ⟨kd, h, k, n⟩
  have hZs : (nameC zeroN).size = (nameC ⟨kd, h, k, n⟩).size := by rw [nameC_size (x := ⟨kd, h, k, n⟩) hl]; rfl
  have hzz := zeroNm
  have hks := sizeK (k := k) hl
  rw [show (⟨kd, h, k, n⟩ : NameD).text = [] from hS] at HW HN
  have HV := Lib.hid hv
  generalize keyC h k = CK at *
  generalize nameC ⟨kd, h, k, n⟩ = CN at *
  generalize nameC zeroN = Z at *
  clear hS hl hv
  go_enter Tryd.func5, Tryd.ntmps5
  go_wp2_with (first
    | (refine wpL_boxArr rfl _ _ rfl CK rfl ?_; intro w1 hh1 hf1 hs1; refine Hid.out ?_))
  refine Lib.hid ?_
  go_wp2_with (first
    | (refine wpList_load_row rfl _ _ rfl w.heap.size rfl _ CK _ _ hh1.out Tryd.underlying24 rfl hks ?_)
    | (refine wpL_build rfl _ _ rfl CN _ rfl hb ?_; refine wpL_newArr rfl 34 rfl Z hzz ?_; intro w2 hh2 hf2 hs2; refine wpL_storeArr rfl _ _ _ rfl w1.heap.size CN Z rfl rfl _ hh2.out hsN hZs h1N ?_; intro w3 hh3 hf3 hs3; have hlt1 := lt_k hh1.out; have hh13 := hf3.heap (hf2.heap hh1.out (by simp)) (by simp; omega); have hf13 : Fr [] w w3 := (hf1.trans hf2 (by simp) (n := []) (by simp)).trans hf3 (by simp) (by simp; have := hf1.size; omega); clear hlt1; refine Hid.out ?_))
  refine Lib.hid ?_
  go_wp2_with (first
    | (refine wpList_load_row rfl _ _ rfl w1.heap.size rfl _ CN _ _ (hf4.heap hh3.out (by simp)) Tryd.underlying34 rfl hsN ?_)
    | (refine wpList_load_row rfl _ _ rfl w1.heap.size rfl _ CN _ _ hh3.out Tryd.underlying34 rfl hsN ?_)
    | (go_at_call 14; refine (HW.out _ (HV.out.below hf13)).mono ?_; rintro e w4 ⟨rfl, hf4⟩; have hf14 := hf13.trans hf4 (by simp) (n := []) (by simp))
    | (go_at_call 15; refine (HN.out _).mono ?_; rintro e w5 ⟨rfl, hf5⟩; have hf15 := hf14.trans hf5 (by simp) (n := []) (by simp))
    | (go_at_call 12; refine (awake_any _ (HV.out.below hf15)).mono ?_; rintro e w6 ⟨rfl, hf6⟩))
  go_ret
  exact ⟨rfl, hf15.trans hf6 (by simp) (by simp)⟩

set_option maxHeartbeats 4000000 in
set_option maxRecDepth 100000 in
theorem names_1 (kd : Int) (h : List UInt8) (k n : Int) (w : World) (hl : h.length = 32) (hv : VarsAt w) (hS : nameT kd h k n ≠ []) (hSl : (nameT kd h k n).length ≤ 1000000) (hk : kd = 1) :
    Calls Tryd.prog 5 #[.int .i64 kd, .agg (keyC h k), .int .i64 n] w fun e w' => e = .returned (.bool true) ∧ Fr [] w w' := by
  have HW := Lib.hid (fun wx (hx : VarsAt wx) => write_any ⟨kd, h, k, n⟩ wx hl hx)
  have HN := Lib.hid (fun wx => lname_any ⟨kd, h, k, n⟩ wx hl)
  have hb := built_name hl kd k n
  have hsN := sizeN (x := ⟨kd, h, k, n⟩) hl
  have h1N := nameC_one ⟨kd, h, k, n⟩
  have hZs : (nameC zeroN).size = (nameC ⟨kd, h, k, n⟩).size := by rw [nameC_size (x := ⟨kd, h, k, n⟩) hl]; rfl
  have hzz := zeroNm
  have hks := sizeK (k := k) hl
  rw [show (⟨kd, h, k, n⟩ : NameD).text = nameT kd h k n from rfl] at HW HN
  have hrd := readN_name kd h k n hl hS
  have HRd := Lib.hid (fun wx (hx : VarsAt wx) => read_any (nameT kd h k n) wx hSl hx)
  rw [hrd] at HRd

  rw [if_pos hk, if_pos hk, if_neg (by omega)] at HRd
  have hsY := sizeN (x := ⟨kd, h, k, 0⟩) hl
  have h1Y := nameC_one ⟨kd, h, k, 0⟩
  have hkY : (nameC ⟨kd, h, k, 0⟩)[0]? = some (.int .i64 kd) := nameC_kd ⟨kd, h, k, 0⟩
  have hnY : (nameC ⟨kd, h, k, 0⟩)[34]? = some (.int .i64 (0)) := nameC_n (x := ⟨kd, h, k, 0⟩) hl
  have hZY : (nameC zeroN).size = (nameC ⟨kd, h, k, 0⟩).size := by rw [nameC_size (x := ⟨kd, h, k, 0⟩) hl]; rfl
  have HR := Lib.hid (fun (wx : World) (g : Nat) (hg : wx.heap[g]? = some (Obj.cells (nameC ⟨kd, h, k, 0⟩) 34 (0, 0))) => nameC_range (x := ⟨kd, h, k, 0⟩) hl hg)
  rw [show (⟨kd, h, k, 0⟩ : NameD).h = h from rfl, show (⟨kd, h, k, 0⟩ : NameD).k = k from rfl] at HR
  have heq := equal_keys h h k k hl hl
  rw [decide_eq_true ⟨rfl, rfl⟩] at heq
  have hi2 : (Tryd.prog.info? 24).map (·.size) = some (keyC h (k)).toList.length := by rw [sizeK (h := h) (k := k) hl]; simp
  have hcl0 : (keyC h (k)).toList.toArray = keyC h (k) := by simp
  have hk1 : (kd == 1) = true := by rw [hk]; rfl
  have hk2 : (kd == 2) = false := by rw [beq_eq_false_iff_ne]; omega
  have hk3 : (kd == 3) = false := by rw [beq_eq_false_iff_ne]; omega
  have hkn1 : (kd != 1) = false := by rw [hk]; rfl
  have hkn2 : (kd != 2) = true := by rw [bne_iff_ne]; omega
  have hkn3 : (kd != 3) = true := by rw [bne_iff_ne]; omega
  have hkk : (kd == kd) = true := beq_self_eq_true kd
  have HV := Lib.hid hv
  generalize nameT kd h k n = S at *
  have hem : S.isEmpty = false := by cases S with | nil => exact (hS rfl).elim | cons _ _ => rfl
  have hSS : (S == S) = true := beq_self_eq_true S
  generalize nameC ⟨kd, h, k, 0⟩ = CY at *
  generalize (keyC h k).toList = D at *
  generalize keyC h k = CK at *
  generalize nameC ⟨kd, h, k, n⟩ = CN at *
  generalize nameC zeroN = Z at *
  have hCL := Lib.hid hcl0
  clear hcl0 hS hl hv hk hSl hrd
  go_enter Tryd.func5, Tryd.ntmps5
  go_wp2_with (first
    | (refine wpL_boxArr rfl _ _ rfl CK rfl ?_; intro w1 hh1 hf1 hs1; refine Hid.out ?_))
  refine Lib.hid ?_
  go_wp2_with (first
    | (refine wpList_load_row rfl _ _ rfl w.heap.size rfl _ CK _ _ hh1.out Tryd.underlying24 rfl hks ?_)
    | (refine wpL_build rfl _ _ rfl CN _ rfl hb ?_; refine wpL_newArr rfl 34 rfl Z hzz ?_; intro w2 hh2 hf2 hs2; refine wpL_storeArr rfl _ _ _ rfl w1.heap.size CN Z rfl rfl _ hh2.out hsN hZs h1N ?_; intro w3 hh3 hf3 hs3; have hlt1 := lt_k hh1.out; have hh13 := hf3.heap (hf2.heap hh1.out (by simp)) (by simp; omega); have hf13 : Fr [] w w3 := (hf1.trans hf2 (by simp) (n := []) (by simp)).trans hf3 (by simp) (by simp; have := hf1.size; omega); clear hlt1; refine Hid.out ?_))
  refine Lib.hid ?_
  go_wp2_with (first
    | (refine wpList_load_row rfl _ _ rfl w1.heap.size rfl _ CN _ _ (hf4.heap hh3.out (by simp)) Tryd.underlying34 rfl hsN ?_)
    | (refine wpList_load_row rfl _ _ rfl w1.heap.size rfl _ CN _ _ hh3.out Tryd.underlying34 rfl hsN ?_)
    | (go_at_call 14; refine (HW.out _ (HV.out.below hf13)).mono ?_; rintro e w4 ⟨rfl, hf4⟩; have hf14 := hf13.trans hf4 (by simp) (n := []) (by simp))
    | (go_at_call 15; refine (HN.out _).mono ?_; rintro e w5 ⟨rfl, hf5⟩; have hf15 := hf14.trans hf5 (by simp) (n := []) (by simp))
    | (go_at_call 16; refine (HRd.out _ (HV.out.below hf15)).mono ?_; rintro e w6 ⟨rfl, hf6⟩; have hf16 := hf15.trans hf6 (by simp) (n := []) (by simp); refine Hid.out ?_))
  refine Lib.hid ?_
  go_wp2_with (first
    | (refine wpL_newArr rfl 34 rfl Z hzz ?_; intro w7 hh7 hf7 hs7; refine wpL_storeArr rfl _ _ _ rfl w6.heap.size CY Z rfl rfl _ hh7.out hsY hZY h1Y ?_; intro w8 hh8 hf8 hs8; have hf46 := (hf4.trans hf5 (by simp) (n := []) (by simp)).trans hf6 (by simp) (n := []) (by simp); have hlt := lt_k (hf46.heap hh13 (by simp)); have hh18 := hf8.heap (hf7.heap (hf46.heap hh13 (by simp)) (by simp)) (by simp; omega); have hf18 : Fr [] w w8 := (hf16.trans hf7 (by simp) (n := []) (by simp)).trans hf8 (by simp) (by simp; have := hf16.size; omega); have hc0 := (cell_of_heap hh8.out 0).trans hkY; have hc34 := (cell_of_heap hh8.out 34).trans hnY; clear hlt)
    | (refine wpL_midW rfl 24 _ rfl w6.heap.size 1 rfl D _ (HR.out _ _ hh8.out) Tryd.underlying24 rfl hi2 ?_; rw [hCL.out])
    | (refine wpL_loadW rfl _ _ rfl w.heap.size rfl _ CK _ _ hh18 Tryd.underlying24 rfl hks ?_)
    | (go_at_call 12; refine (awake_any _ (HV.out.below hf18)).mono ?_; rintro e w9 ⟨rfl, hf9⟩))
  go_ret
  exact ⟨rfl, hf18.trans hf9 (by simp) (by simp)⟩

set_option maxHeartbeats 4000000 in
set_option maxRecDepth 100000 in
theorem names_2 (kd : Int) (h : List UInt8) (k n : Int) (w : World) (hl : h.length = 32) (hv : VarsAt w) (hS : nameT kd h k n ≠ []) (hSl : (nameT kd h k n).length ≤ 1000000) (hk : kd = 2) :
    Calls Tryd.prog 5 #[.int .i64 kd, .agg (keyC h k), .int .i64 n] w fun e w' => e = .returned (.bool true) ∧ Fr [] w w' := by
  have HW := Lib.hid (fun wx (hx : VarsAt wx) => write_any ⟨kd, h, k, n⟩ wx hl hx)
  have HN := Lib.hid (fun wx => lname_any ⟨kd, h, k, n⟩ wx hl)
  have hb := built_name hl kd k n
  have hsN := sizeN (x := ⟨kd, h, k, n⟩) hl
  have h1N := nameC_one ⟨kd, h, k, n⟩
  have hZs : (nameC zeroN).size = (nameC ⟨kd, h, k, n⟩).size := by rw [nameC_size (x := ⟨kd, h, k, n⟩) hl]; rfl
  have hzz := zeroNm
  have hks := sizeK (k := k) hl
  rw [show (⟨kd, h, k, n⟩ : NameD).text = nameT kd h k n from rfl] at HW HN
  have hrd := readN_name kd h k n hl hS
  have HRd := Lib.hid (fun wx (hx : VarsAt wx) => read_any (nameT kd h k n) wx hSl hx)
  rw [hrd] at HRd

  rw [if_neg (by omega), if_neg (by omega), if_pos (by omega)] at HRd
  have hsY := sizeN (x := ⟨kd, zeroH, 0, n⟩) rfl
  have h1Y := nameC_one ⟨kd, zeroH, 0, n⟩
  have hkY : (nameC ⟨kd, zeroH, 0, n⟩)[0]? = some (.int .i64 kd) := nameC_kd ⟨kd, zeroH, 0, n⟩
  have hnY : (nameC ⟨kd, zeroH, 0, n⟩)[34]? = some (.int .i64 (n)) := nameC_n (x := ⟨kd, zeroH, 0, n⟩) rfl
  have hZY : (nameC zeroN).size = (nameC ⟨kd, zeroH, 0, n⟩).size := by rw [nameC_size (x := ⟨kd, zeroH, 0, n⟩) rfl]; rfl
  have HR := Lib.hid (fun (wx : World) (g : Nat) (hg : wx.heap[g]? = some (Obj.cells (nameC ⟨kd, zeroH, 0, n⟩) 34 (0, 0))) => nameC_range (x := ⟨kd, zeroH, 0, n⟩) rfl hg)
  rw [show (⟨kd, zeroH, 0, n⟩ : NameD).h = zeroH from rfl, show (⟨kd, zeroH, 0, n⟩ : NameD).k = 0 from rfl] at HR
  have heq := equal_keys zeroH zeroH 0 0 rfl rfl
  rw [decide_eq_true ⟨rfl, rfl⟩] at heq
  have hi2 : (Tryd.prog.info? 24).map (·.size) = some (keyC zeroH (0)).toList.length := by rw [sizeK (h := zeroH) (k := 0) rfl]; simp
  have hcl0 : (keyC zeroH (0)).toList.toArray = keyC zeroH (0) := by simp
  have hk1 : (kd == 1) = false := by rw [beq_eq_false_iff_ne]; omega
  have hk2 : (kd == 2) = true := by rw [hk]; rfl
  have hk3 : (kd == 3) = false := by rw [beq_eq_false_iff_ne]; omega
  have hkn1 : (kd != 1) = true := by rw [bne_iff_ne]; omega
  have hkn2 : (kd != 2) = false := by rw [hk]; rfl
  have hkn3 : (kd != 3) = true := by rw [bne_iff_ne]; omega
  have hkk : (kd == kd) = true := beq_self_eq_true kd
  have hnn : (n == n) = true := beq_self_eq_true n
  have hbk := built_key0
  have HV := Lib.hid hv
  generalize nameT kd h k n = S at *
  have hem : S.isEmpty = false := by cases S with | nil => exact (hS rfl).elim | cons _ _ => rfl
  have hSS : (S == S) = true := beq_self_eq_true S
  generalize nameC ⟨kd, zeroH, 0, n⟩ = CY at *
  generalize (keyC zeroH 0).toList = D at *
  generalize keyC zeroH 0 = ZK at *
  generalize keyC h k = CK at *
  try generalize nameC ⟨kd, h, k, n⟩ = CN at *
  generalize nameC zeroN = Z at *
  have hCL := Lib.hid hcl0
  clear hcl0 hS hl hv hk hSl hrd
  go_enter Tryd.func5, Tryd.ntmps5
  go_wp2_with (first
    | (refine wpL_boxArr rfl _ _ rfl CK rfl ?_; intro w1 hh1 hf1 hs1; refine Hid.out ?_))
  refine Lib.hid ?_
  go_wp2_with (first
    | (refine wpList_load_row rfl _ _ rfl w.heap.size rfl _ CK _ _ hh1.out Tryd.underlying24 rfl hks ?_)
    | (refine wpL_build rfl _ _ rfl CN _ rfl hb ?_; refine wpL_newArr rfl 34 rfl Z hzz ?_; intro w2 hh2 hf2 hs2; refine wpL_storeArr rfl _ _ _ rfl w1.heap.size CN Z rfl rfl _ hh2.out hsN hZs h1N ?_; intro w3 hh3 hf3 hs3; have hlt1 := lt_k hh1.out; have hh13 := hf3.heap (hf2.heap hh1.out (by simp)) (by simp; omega); have hf13 : Fr [] w w3 := (hf1.trans hf2 (by simp) (n := []) (by simp)).trans hf3 (by simp) (by simp; have := hf1.size; omega); clear hlt1; refine Hid.out ?_))
  refine Lib.hid ?_
  go_wp2_with (first
    | (refine wpList_load_row rfl _ _ rfl w1.heap.size rfl _ CN _ _ (hf4.heap hh3.out (by simp)) Tryd.underlying34 rfl hsN ?_)
    | (refine wpList_load_row rfl _ _ rfl w1.heap.size rfl _ CN _ _ hh3.out Tryd.underlying34 rfl hsN ?_)
    | (go_at_call 14; refine (HW.out _ (HV.out.below hf13)).mono ?_; rintro e w4 ⟨rfl, hf4⟩; have hf14 := hf13.trans hf4 (by simp) (n := []) (by simp))
    | (go_at_call 15; refine (HN.out _).mono ?_; rintro e w5 ⟨rfl, hf5⟩; have hf15 := hf14.trans hf5 (by simp) (n := []) (by simp))
    | (go_at_call 16; refine (HRd.out _ (HV.out.below hf15)).mono ?_; rintro e w6 ⟨rfl, hf6⟩; have hf16 := hf15.trans hf6 (by simp) (n := []) (by simp); refine Hid.out ?_))
  refine Lib.hid ?_
  go_wp2_with (first
    | (refine wpL_newArr rfl 34 rfl Z hzz ?_; intro w7 hh7 hf7 hs7; refine wpL_storeArr rfl _ _ _ rfl w6.heap.size CY Z rfl rfl _ hh7.out hsY hZY h1Y ?_; intro w8 hh8 hf8 hs8; have hf46 := (hf4.trans hf5 (by simp) (n := []) (by simp)).trans hf6 (by simp) (n := []) (by simp); have hlt := lt_k (hf46.heap hh13 (by simp)); have hh18 := hf8.heap (hf7.heap (hf46.heap hh13 (by simp)) (by simp)) (by simp; omega); have hf18 : Fr [] w w8 := (hf16.trans hf7 (by simp) (n := []) (by simp)).trans hf8 (by simp) (by simp; have := hf16.size; omega); have hc0 := (cell_of_heap hh8.out 0).trans hkY; have hc34 := (cell_of_heap hh8.out 34).trans hnY; clear hlt)
    | (refine wpL_midW rfl 24 _ rfl w6.heap.size 1 rfl D _ (HR.out _ _ hh8.out) Tryd.underlying24 rfl hi2 ?_; rw [hCL.out])
    | (refine wpL_loadW rfl _ _ rfl w.heap.size rfl _ CK _ _ hh18 Tryd.underlying24 rfl hks ?_)
    | (refine wpL_build_want rfl _ _ rfl ZK [] rfl hbk ?_)
    | (go_at_call 12; refine (awake_any _ (HV.out.below hf18)).mono ?_; rintro e w9 ⟨rfl, hf9⟩))
  go_ret
  exact ⟨rfl, hf18.trans hf9 (by simp) (by simp)⟩

set_option maxHeartbeats 4000000 in
set_option maxRecDepth 100000 in
theorem names_3 (kd : Int) (h : List UInt8) (k n : Int) (w : World) (hl : h.length = 32) (hv : VarsAt w) (hS : nameT kd h k n ≠ []) (hSl : (nameT kd h k n).length ≤ 1000000) (hk : kd = 3) :
    Calls Tryd.prog 5 #[.int .i64 kd, .agg (keyC h k), .int .i64 n] w fun e w' => e = .returned (.bool true) ∧ Fr [] w w' := by
  have HW := Lib.hid (fun wx (hx : VarsAt wx) => write_any ⟨kd, h, k, n⟩ wx hl hx)
  have HN := Lib.hid (fun wx => lname_any ⟨kd, h, k, n⟩ wx hl)
  have hb := built_name hl kd k n
  have hsN := sizeN (x := ⟨kd, h, k, n⟩) hl
  have h1N := nameC_one ⟨kd, h, k, n⟩
  have hZs : (nameC zeroN).size = (nameC ⟨kd, h, k, n⟩).size := by rw [nameC_size (x := ⟨kd, h, k, n⟩) hl]; rfl
  have hzz := zeroNm
  have hks := sizeK (k := k) hl
  rw [show (⟨kd, h, k, n⟩ : NameD).text = nameT kd h k n from rfl] at HW HN
  have hrd := readN_name kd h k n hl hS
  have HRd := Lib.hid (fun wx (hx : VarsAt wx) => read_any (nameT kd h k n) wx hSl hx)
  rw [hrd] at HRd

  rw [if_neg (by omega), if_neg (by omega), if_pos (by omega)] at HRd
  have hsY := sizeN (x := ⟨kd, zeroH, 0, n⟩) rfl
  have h1Y := nameC_one ⟨kd, zeroH, 0, n⟩
  have hkY : (nameC ⟨kd, zeroH, 0, n⟩)[0]? = some (.int .i64 kd) := nameC_kd ⟨kd, zeroH, 0, n⟩
  have hnY : (nameC ⟨kd, zeroH, 0, n⟩)[34]? = some (.int .i64 (n)) := nameC_n (x := ⟨kd, zeroH, 0, n⟩) rfl
  have hZY : (nameC zeroN).size = (nameC ⟨kd, zeroH, 0, n⟩).size := by rw [nameC_size (x := ⟨kd, zeroH, 0, n⟩) rfl]; rfl
  have HR := Lib.hid (fun (wx : World) (g : Nat) (hg : wx.heap[g]? = some (Obj.cells (nameC ⟨kd, zeroH, 0, n⟩) 34 (0, 0))) => nameC_range (x := ⟨kd, zeroH, 0, n⟩) rfl hg)
  rw [show (⟨kd, zeroH, 0, n⟩ : NameD).h = zeroH from rfl, show (⟨kd, zeroH, 0, n⟩ : NameD).k = 0 from rfl] at HR
  have heq := equal_keys zeroH zeroH 0 0 rfl rfl
  rw [decide_eq_true ⟨rfl, rfl⟩] at heq
  have hi2 : (Tryd.prog.info? 24).map (·.size) = some (keyC zeroH (0)).toList.length := by rw [sizeK (h := zeroH) (k := 0) rfl]; simp
  have hcl0 : (keyC zeroH (0)).toList.toArray = keyC zeroH (0) := by simp
  have hk1 : (kd == 1) = false := by rw [beq_eq_false_iff_ne]; omega
  have hk2 : (kd == 2) = false := by rw [beq_eq_false_iff_ne]; omega
  have hk3 : (kd == 3) = true := by rw [hk]; rfl
  have hkn1 : (kd != 1) = true := by rw [bne_iff_ne]; omega
  have hkn2 : (kd != 2) = true := by rw [bne_iff_ne]; omega
  have hkn3 : (kd != 3) = false := by rw [hk]; rfl
  have hkk : (kd == kd) = true := beq_self_eq_true kd
  have hnn : (n == n) = true := beq_self_eq_true n
  have hbk := built_key0
  have HV := Lib.hid hv
  generalize nameT kd h k n = S at *
  have hem : S.isEmpty = false := by cases S with | nil => exact (hS rfl).elim | cons _ _ => rfl
  have hSS : (S == S) = true := beq_self_eq_true S
  generalize nameC ⟨kd, zeroH, 0, n⟩ = CY at *
  generalize (keyC zeroH 0).toList = D at *
  generalize keyC zeroH 0 = ZK at *
  generalize keyC h k = CK at *
  try generalize nameC ⟨kd, h, k, n⟩ = CN at *
  generalize nameC zeroN = Z at *
  have hCL := Lib.hid hcl0
  clear hcl0 hS hl hv hk hSl hrd
  go_enter Tryd.func5, Tryd.ntmps5
  go_wp2_with (first
    | (refine wpL_boxArr rfl _ _ rfl CK rfl ?_; intro w1 hh1 hf1 hs1; refine Hid.out ?_))
  refine Lib.hid ?_
  go_wp2_with (first
    | (refine wpList_load_row rfl _ _ rfl w.heap.size rfl _ CK _ _ hh1.out Tryd.underlying24 rfl hks ?_)
    | (refine wpL_build rfl _ _ rfl CN _ rfl hb ?_; refine wpL_newArr rfl 34 rfl Z hzz ?_; intro w2 hh2 hf2 hs2; refine wpL_storeArr rfl _ _ _ rfl w1.heap.size CN Z rfl rfl _ hh2.out hsN hZs h1N ?_; intro w3 hh3 hf3 hs3; have hlt1 := lt_k hh1.out; have hh13 := hf3.heap (hf2.heap hh1.out (by simp)) (by simp; omega); have hf13 : Fr [] w w3 := (hf1.trans hf2 (by simp) (n := []) (by simp)).trans hf3 (by simp) (by simp; have := hf1.size; omega); clear hlt1; refine Hid.out ?_))
  refine Lib.hid ?_
  go_wp2_with (first
    | (refine wpList_load_row rfl _ _ rfl w1.heap.size rfl _ CN _ _ (hf4.heap hh3.out (by simp)) Tryd.underlying34 rfl hsN ?_)
    | (refine wpList_load_row rfl _ _ rfl w1.heap.size rfl _ CN _ _ hh3.out Tryd.underlying34 rfl hsN ?_)
    | (go_at_call 14; refine (HW.out _ (HV.out.below hf13)).mono ?_; rintro e w4 ⟨rfl, hf4⟩; have hf14 := hf13.trans hf4 (by simp) (n := []) (by simp))
    | (go_at_call 15; refine (HN.out _).mono ?_; rintro e w5 ⟨rfl, hf5⟩; have hf15 := hf14.trans hf5 (by simp) (n := []) (by simp))
    | (go_at_call 16; refine (HRd.out _ (HV.out.below hf15)).mono ?_; rintro e w6 ⟨rfl, hf6⟩; have hf16 := hf15.trans hf6 (by simp) (n := []) (by simp); refine Hid.out ?_))
  refine Lib.hid ?_
  go_wp2_with (first
    | (refine wpL_newArr rfl 34 rfl Z hzz ?_; intro w7 hh7 hf7 hs7; refine wpL_storeArr rfl _ _ _ rfl w6.heap.size CY Z rfl rfl _ hh7.out hsY hZY h1Y ?_; intro w8 hh8 hf8 hs8; have hf46 := (hf4.trans hf5 (by simp) (n := []) (by simp)).trans hf6 (by simp) (n := []) (by simp); have hlt := lt_k (hf46.heap hh13 (by simp)); have hh18 := hf8.heap (hf7.heap (hf46.heap hh13 (by simp)) (by simp)) (by simp; omega); have hf18 : Fr [] w w8 := (hf16.trans hf7 (by simp) (n := []) (by simp)).trans hf8 (by simp) (by simp; have := hf16.size; omega); have hc0 := (cell_of_heap hh8.out 0).trans hkY; have hc34 := (cell_of_heap hh8.out 34).trans hnY; clear hlt)
    | (refine wpL_midW rfl 24 _ rfl w6.heap.size 1 rfl D _ (HR.out _ _ hh8.out) Tryd.underlying24 rfl hi2 ?_; rw [hCL.out])
    | (refine wpL_loadW rfl _ _ rfl w.heap.size rfl _ CK _ _ hh18 Tryd.underlying24 rfl hks ?_)
    | (refine wpL_build_want rfl _ _ rfl ZK [] rfl hbk ?_)
    | (go_at_call 12; refine (awake_any _ (HV.out.below hf18)).mono ?_; rintro e w9 ⟨rfl, hf9⟩))
  go_ret
  exact ⟨rfl, hf18.trans hf9 (by simp) (by simp)⟩

set_option maxHeartbeats 4000000 in
set_option maxRecDepth 100000 in
theorem names_4 (kd : Int) (h : List UInt8) (k n : Int) (w : World) (hl : h.length = 32) (hv : VarsAt w) (hS : nameT kd h k n ≠ []) (hSl : (nameT kd h k n).length ≤ 1000000) (hk : kd = 4) :
    Calls Tryd.prog 5 #[.int .i64 kd, .agg (keyC h k), .int .i64 n] w fun e w' => e = .returned (.bool true) ∧ Fr [] w w' := by
  have HW := Lib.hid (fun wx (hx : VarsAt wx) => write_any ⟨kd, h, k, n⟩ wx hl hx)
  have HN := Lib.hid (fun wx => lname_any ⟨kd, h, k, n⟩ wx hl)
  have hb := built_name hl kd k n
  have hsN := sizeN (x := ⟨kd, h, k, n⟩) hl
  have h1N := nameC_one ⟨kd, h, k, n⟩
  have hZs : (nameC zeroN).size = (nameC ⟨kd, h, k, n⟩).size := by rw [nameC_size (x := ⟨kd, h, k, n⟩) hl]; rfl
  have hzz := zeroNm
  have hks := sizeK (k := k) hl
  rw [show (⟨kd, h, k, n⟩ : NameD).text = nameT kd h k n from rfl] at HW HN
  have hrd := readN_name kd h k n hl hS
  have HRd := Lib.hid (fun wx (hx : VarsAt wx) => read_any (nameT kd h k n) wx hSl hx)
  rw [hrd] at HRd

  rw [if_neg (by omega), if_neg (by omega), if_neg (by omega)] at HRd
  have hsY := sizeN (x := ⟨kd, zeroH, 0, 0⟩) rfl
  have h1Y := nameC_one ⟨kd, zeroH, 0, 0⟩
  have hkY : (nameC ⟨kd, zeroH, 0, 0⟩)[0]? = some (.int .i64 kd) := nameC_kd ⟨kd, zeroH, 0, 0⟩
  have hnY : (nameC ⟨kd, zeroH, 0, 0⟩)[34]? = some (.int .i64 (0)) := nameC_n (x := ⟨kd, zeroH, 0, 0⟩) rfl
  have hZY : (nameC zeroN).size = (nameC ⟨kd, zeroH, 0, 0⟩).size := by rw [nameC_size (x := ⟨kd, zeroH, 0, 0⟩) rfl]; rfl
  have HR := Lib.hid (fun (wx : World) (g : Nat) (hg : wx.heap[g]? = some (Obj.cells (nameC ⟨kd, zeroH, 0, 0⟩) 34 (0, 0))) => nameC_range (x := ⟨kd, zeroH, 0, 0⟩) rfl hg)
  rw [show (⟨kd, zeroH, 0, 0⟩ : NameD).h = zeroH from rfl, show (⟨kd, zeroH, 0, 0⟩ : NameD).k = 0 from rfl] at HR
  have heq := equal_keys zeroH zeroH 0 0 rfl rfl
  rw [decide_eq_true ⟨rfl, rfl⟩] at heq
  have hi2 : (Tryd.prog.info? 24).map (·.size) = some (keyC zeroH (0)).toList.length := by rw [sizeK (h := zeroH) (k := 0) rfl]; simp
  have hcl0 : (keyC zeroH (0)).toList.toArray = keyC zeroH (0) := by simp
  have hk1 : (kd == 1) = false := by rw [beq_eq_false_iff_ne]; omega
  have hk2 : (kd == 2) = false := by rw [beq_eq_false_iff_ne]; omega
  have hk3 : (kd == 3) = false := by rw [beq_eq_false_iff_ne]; omega
  have hkn1 : (kd != 1) = true := by rw [bne_iff_ne]; omega
  have hkn2 : (kd != 2) = true := by rw [bne_iff_ne]; omega
  have hkn3 : (kd != 3) = true := by rw [bne_iff_ne]; omega
  have hkk : (kd == kd) = true := beq_self_eq_true kd
  have hbk := built_key0
  have HV := Lib.hid hv
  generalize nameT kd h k n = S at *
  have hem : S.isEmpty = false := by cases S with | nil => exact (hS rfl).elim | cons _ _ => rfl
  have hSS : (S == S) = true := beq_self_eq_true S
  generalize nameC ⟨kd, zeroH, 0, 0⟩ = CY at *
  generalize (keyC zeroH 0).toList = D at *
  generalize keyC zeroH 0 = ZK at *
  generalize keyC h k = CK at *
  try generalize nameC ⟨kd, h, k, n⟩ = CN at *
  generalize nameC zeroN = Z at *
  have hCL := Lib.hid hcl0
  clear hcl0 hS hl hv hk hSl hrd
  go_enter Tryd.func5, Tryd.ntmps5
  go_wp2_with (first
    | (refine wpL_boxArr rfl _ _ rfl CK rfl ?_; intro w1 hh1 hf1 hs1; refine Hid.out ?_))
  refine Lib.hid ?_
  go_wp2_with (first
    | (refine wpList_load_row rfl _ _ rfl w.heap.size rfl _ CK _ _ hh1.out Tryd.underlying24 rfl hks ?_)
    | (refine wpL_build rfl _ _ rfl CN _ rfl hb ?_; refine wpL_newArr rfl 34 rfl Z hzz ?_; intro w2 hh2 hf2 hs2; refine wpL_storeArr rfl _ _ _ rfl w1.heap.size CN Z rfl rfl _ hh2.out hsN hZs h1N ?_; intro w3 hh3 hf3 hs3; have hlt1 := lt_k hh1.out; have hh13 := hf3.heap (hf2.heap hh1.out (by simp)) (by simp; omega); have hf13 : Fr [] w w3 := (hf1.trans hf2 (by simp) (n := []) (by simp)).trans hf3 (by simp) (by simp; have := hf1.size; omega); clear hlt1; refine Hid.out ?_))
  refine Lib.hid ?_
  go_wp2_with (first
    | (refine wpList_load_row rfl _ _ rfl w1.heap.size rfl _ CN _ _ (hf4.heap hh3.out (by simp)) Tryd.underlying34 rfl hsN ?_)
    | (refine wpList_load_row rfl _ _ rfl w1.heap.size rfl _ CN _ _ hh3.out Tryd.underlying34 rfl hsN ?_)
    | (go_at_call 14; refine (HW.out _ (HV.out.below hf13)).mono ?_; rintro e w4 ⟨rfl, hf4⟩; have hf14 := hf13.trans hf4 (by simp) (n := []) (by simp))
    | (go_at_call 15; refine (HN.out _).mono ?_; rintro e w5 ⟨rfl, hf5⟩; have hf15 := hf14.trans hf5 (by simp) (n := []) (by simp))
    | (go_at_call 16; refine (HRd.out _ (HV.out.below hf15)).mono ?_; rintro e w6 ⟨rfl, hf6⟩; have hf16 := hf15.trans hf6 (by simp) (n := []) (by simp); refine Hid.out ?_))
  refine Lib.hid ?_
  go_wp2_with (first
    | (refine wpL_newArr rfl 34 rfl Z hzz ?_; intro w7 hh7 hf7 hs7; refine wpL_storeArr rfl _ _ _ rfl w6.heap.size CY Z rfl rfl _ hh7.out hsY hZY h1Y ?_; intro w8 hh8 hf8 hs8; have hf46 := (hf4.trans hf5 (by simp) (n := []) (by simp)).trans hf6 (by simp) (n := []) (by simp); have hlt := lt_k (hf46.heap hh13 (by simp)); have hh18 := hf8.heap (hf7.heap (hf46.heap hh13 (by simp)) (by simp)) (by simp; omega); have hf18 : Fr [] w w8 := (hf16.trans hf7 (by simp) (n := []) (by simp)).trans hf8 (by simp) (by simp; have := hf16.size; omega); have hc0 := (cell_of_heap hh8.out 0).trans hkY; have hc34 := (cell_of_heap hh8.out 34).trans hnY; clear hlt)
    | (refine wpL_midW rfl 24 _ rfl w6.heap.size 1 rfl D _ (HR.out _ _ hh8.out) Tryd.underlying24 rfl hi2 ?_; rw [hCL.out])
    | (refine wpL_loadW rfl _ _ rfl w.heap.size rfl _ CK _ _ hh18 Tryd.underlying24 rfl hks ?_)
    | (refine wpL_build_want rfl _ _ rfl ZK [] rfl hbk ?_)
    | (go_at_call 12; refine (awake_any _ (HV.out.below hf18)).mono ?_; rintro e w9 ⟨rfl, hf9⟩))
  go_ret
  exact ⟨rfl, hf18.trans hf9 (by simp) (by simp)⟩

set_option maxHeartbeats 4000000 in
set_option maxRecDepth 100000 in
theorem names_5 (kd : Int) (h : List UInt8) (k n : Int) (w : World) (hl : h.length = 32) (hv : VarsAt w) (hS : nameT kd h k n ≠ []) (hSl : (nameT kd h k n).length ≤ 1000000) (hk : kd = 5) :
    Calls Tryd.prog 5 #[.int .i64 kd, .agg (keyC h k), .int .i64 n] w fun e w' => e = .returned (.bool true) ∧ Fr [] w w' := by
  have HW := Lib.hid (fun wx (hx : VarsAt wx) => write_any ⟨kd, h, k, n⟩ wx hl hx)
  have HN := Lib.hid (fun wx => lname_any ⟨kd, h, k, n⟩ wx hl)
  have hb := built_name hl kd k n
  have hsN := sizeN (x := ⟨kd, h, k, n⟩) hl
  have h1N := nameC_one ⟨kd, h, k, n⟩
  have hZs : (nameC zeroN).size = (nameC ⟨kd, h, k, n⟩).size := by rw [nameC_size (x := ⟨kd, h, k, n⟩) hl]; rfl
  have hzz := zeroNm
  have hks := sizeK (k := k) hl
  rw [show (⟨kd, h, k, n⟩ : NameD).text = nameT kd h k n from rfl] at HW HN
  have hrd := readN_name kd h k n hl hS
  have HRd := Lib.hid (fun wx (hx : VarsAt wx) => read_any (nameT kd h k n) wx hSl hx)
  rw [hrd] at HRd

  rw [if_neg (by omega), if_neg (by omega), if_neg (by omega)] at HRd
  have hsY := sizeN (x := ⟨kd, zeroH, 0, 0⟩) rfl
  have h1Y := nameC_one ⟨kd, zeroH, 0, 0⟩
  have hkY : (nameC ⟨kd, zeroH, 0, 0⟩)[0]? = some (.int .i64 kd) := nameC_kd ⟨kd, zeroH, 0, 0⟩
  have hnY : (nameC ⟨kd, zeroH, 0, 0⟩)[34]? = some (.int .i64 (0)) := nameC_n (x := ⟨kd, zeroH, 0, 0⟩) rfl
  have hZY : (nameC zeroN).size = (nameC ⟨kd, zeroH, 0, 0⟩).size := by rw [nameC_size (x := ⟨kd, zeroH, 0, 0⟩) rfl]; rfl
  have HR := Lib.hid (fun (wx : World) (g : Nat) (hg : wx.heap[g]? = some (Obj.cells (nameC ⟨kd, zeroH, 0, 0⟩) 34 (0, 0))) => nameC_range (x := ⟨kd, zeroH, 0, 0⟩) rfl hg)
  rw [show (⟨kd, zeroH, 0, 0⟩ : NameD).h = zeroH from rfl, show (⟨kd, zeroH, 0, 0⟩ : NameD).k = 0 from rfl] at HR
  have heq := equal_keys zeroH zeroH 0 0 rfl rfl
  rw [decide_eq_true ⟨rfl, rfl⟩] at heq
  have hi2 : (Tryd.prog.info? 24).map (·.size) = some (keyC zeroH (0)).toList.length := by rw [sizeK (h := zeroH) (k := 0) rfl]; simp
  have hcl0 : (keyC zeroH (0)).toList.toArray = keyC zeroH (0) := by simp
  have hk1 : (kd == 1) = false := by rw [beq_eq_false_iff_ne]; omega
  have hk2 : (kd == 2) = false := by rw [beq_eq_false_iff_ne]; omega
  have hk3 : (kd == 3) = false := by rw [beq_eq_false_iff_ne]; omega
  have hkn1 : (kd != 1) = true := by rw [bne_iff_ne]; omega
  have hkn2 : (kd != 2) = true := by rw [bne_iff_ne]; omega
  have hkn3 : (kd != 3) = true := by rw [bne_iff_ne]; omega
  have hkk : (kd == kd) = true := beq_self_eq_true kd
  have hbk := built_key0
  have HV := Lib.hid hv
  generalize nameT kd h k n = S at *
  have hem : S.isEmpty = false := by cases S with | nil => exact (hS rfl).elim | cons _ _ => rfl
  have hSS : (S == S) = true := beq_self_eq_true S
  generalize nameC ⟨kd, zeroH, 0, 0⟩ = CY at *
  generalize (keyC zeroH 0).toList = D at *
  generalize keyC zeroH 0 = ZK at *
  generalize keyC h k = CK at *
  try generalize nameC ⟨kd, h, k, n⟩ = CN at *
  generalize nameC zeroN = Z at *
  have hCL := Lib.hid hcl0
  clear hcl0 hS hl hv hk hSl hrd
  go_enter Tryd.func5, Tryd.ntmps5
  go_wp2_with (first
    | (refine wpL_boxArr rfl _ _ rfl CK rfl ?_; intro w1 hh1 hf1 hs1; refine Hid.out ?_))
  refine Lib.hid ?_
  go_wp2_with (first
    | (refine wpList_load_row rfl _ _ rfl w.heap.size rfl _ CK _ _ hh1.out Tryd.underlying24 rfl hks ?_)
    | (refine wpL_build rfl _ _ rfl CN _ rfl hb ?_; refine wpL_newArr rfl 34 rfl Z hzz ?_; intro w2 hh2 hf2 hs2; refine wpL_storeArr rfl _ _ _ rfl w1.heap.size CN Z rfl rfl _ hh2.out hsN hZs h1N ?_; intro w3 hh3 hf3 hs3; have hlt1 := lt_k hh1.out; have hh13 := hf3.heap (hf2.heap hh1.out (by simp)) (by simp; omega); have hf13 : Fr [] w w3 := (hf1.trans hf2 (by simp) (n := []) (by simp)).trans hf3 (by simp) (by simp; have := hf1.size; omega); clear hlt1; refine Hid.out ?_))
  refine Lib.hid ?_
  go_wp2_with (first
    | (refine wpList_load_row rfl _ _ rfl w1.heap.size rfl _ CN _ _ (hf4.heap hh3.out (by simp)) Tryd.underlying34 rfl hsN ?_)
    | (refine wpList_load_row rfl _ _ rfl w1.heap.size rfl _ CN _ _ hh3.out Tryd.underlying34 rfl hsN ?_)
    | (go_at_call 14; refine (HW.out _ (HV.out.below hf13)).mono ?_; rintro e w4 ⟨rfl, hf4⟩; have hf14 := hf13.trans hf4 (by simp) (n := []) (by simp))
    | (go_at_call 15; refine (HN.out _).mono ?_; rintro e w5 ⟨rfl, hf5⟩; have hf15 := hf14.trans hf5 (by simp) (n := []) (by simp))
    | (go_at_call 16; refine (HRd.out _ (HV.out.below hf15)).mono ?_; rintro e w6 ⟨rfl, hf6⟩; have hf16 := hf15.trans hf6 (by simp) (n := []) (by simp); refine Hid.out ?_))
  refine Lib.hid ?_
  go_wp2_with (first
    | (refine wpL_newArr rfl 34 rfl Z hzz ?_; intro w7 hh7 hf7 hs7; refine wpL_storeArr rfl _ _ _ rfl w6.heap.size CY Z rfl rfl _ hh7.out hsY hZY h1Y ?_; intro w8 hh8 hf8 hs8; have hf46 := (hf4.trans hf5 (by simp) (n := []) (by simp)).trans hf6 (by simp) (n := []) (by simp); have hlt := lt_k (hf46.heap hh13 (by simp)); have hh18 := hf8.heap (hf7.heap (hf46.heap hh13 (by simp)) (by simp)) (by simp; omega); have hf18 : Fr [] w w8 := (hf16.trans hf7 (by simp) (n := []) (by simp)).trans hf8 (by simp) (by simp; have := hf16.size; omega); have hc0 := (cell_of_heap hh8.out 0).trans hkY; have hc34 := (cell_of_heap hh8.out 34).trans hnY; clear hlt)
    | (refine wpL_midW rfl 24 _ rfl w6.heap.size 1 rfl D _ (HR.out _ _ hh8.out) Tryd.underlying24 rfl hi2 ?_; rw [hCL.out])
    | (refine wpL_loadW rfl _ _ rfl w.heap.size rfl _ CK _ _ hh18 Tryd.underlying24 rfl hks ?_)
    | (refine wpL_build_want rfl _ _ rfl ZK [] rfl hbk ?_)
    | (go_at_call 12; refine (awake_any _ (HV.out.below hf18)).mono ?_; rintro e w9 ⟨rfl, hf9⟩))
  go_ret
  exact ⟨rfl, hf18.trans hf9 (by simp) (by simp)⟩

theorem nameT_length (kd : Int) (h : List UInt8) (k n : Int) (hl : h.length = 32) : (nameT kd h k n).length ≤ 1000000 := by
  have h1 := keyT_length_le (k := k) hl
  unfold nameT
  split
  · split
    · simp
    · rw [List.length_append]; simp; omega
  · split
    · unfold numT
      split
      · have := Lib.itoa_length_le n (by omega) (by omega)
        rw [List.length_append]; simp; omega
      · simp
    · split
      · unfold numT
        split
        · have := Lib.itoa_length_le n (by omega) (by omega)
          rw [List.length_append]; simp; omega
        · simp
      · split
        · simp [journalB]
        · split
          · simp [freshB]
          · simp
theorem keyNames_any (kd : Int) (h : List UInt8) (k n : Int) (w : World) (hl : h.length = 32) (hv : VarsAt w) :
    Calls Tryd.prog 5 #[.int .i64 kd, .agg (keyC h k), .int .i64 n] w fun e w' => e = .returned (.bool true) ∧ Fr [] w w' := by
  by_cases hS : nameT kd h k n = []
  · exact names_none kd h k n w hl hv hS
  · have hSl := nameT_length kd h k n hl
    by_cases h1 : kd = 1
    · exact names_1 kd h k n w hl hv hS hSl h1
    · by_cases h2 : kd = 2
      · exact names_2 kd h k n w hl hv hS hSl h2
      · by_cases h3 : kd = 3
        · exact names_3 kd h k n w hl hv hS hSl h3
        · by_cases h4 : kd = 4
          · exact names_4 kd h k n w hl hv hS hSl h4
          · by_cases h5 : kd = 5
            · exact names_5 kd h k n w hl hv hS hSl h5
            · exact (hS (by unfold nameT; rw [if_neg h1, if_neg h2, if_neg h3, if_neg h4, if_neg h5])).elim
end Go.Proofs.YtjlkcdmeiakkbaaDoor
