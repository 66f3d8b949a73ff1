/- Stage 17: KeyReads: whatever text is a name is just the name of that. (Made by gen_kyp.py.) -/
import Derived.Test.YtjlkcdmeiakkbaaDoorKyI
import Derived.Test.YtjlkcdmeiakkbaaDoorKyL
import Derived.Test.YtjlkcdmeiakkbaaDoorKyM
set_option linter.unusedVariables false
set_option linter.unusedSimpArgs false
namespace Go.Proofs.YtjlkcdmeiakkbaaDoor
open Go.RowKit

set_option maxRecDepth 100000 in
theorem reads_long (s : List UInt8) (w : World) (hl : 100 < s.length) (hv : VarsAt w) :
    Calls Tryd.prog 6 #[.string ⟨s.toArray⟩] w fun e w' => e = .returned (.bool true) ∧ Fr [] w w' := by
  have hd : decide (100 < (s.length : Int)) = true := decide_eq_true (by omega)
  have HV := Lib.hid hv
  clear hl hv
  go_enter Tryd.func6, Tryd.ntmps6
  go_wp2_with (go_at_call 12; refine (awake_any _ HV.out).mono ?_; rintro e w1 ⟨rfl, hf1⟩)
  go_ret
  exact ⟨rfl, hf1⟩
theorem tail_cut {s : List UInt8} {x : List UInt8 × Int} (h : keyP (tailL s) = some x) : ∃ a b r, s = a :: b :: r ∧ tailL s = r := by
  match s with
  | [] => cases h
  | [a] => cases h
  | a :: b :: r => exact ⟨a, b, r, rfl, rfl⟩
set_option maxRecDepth 100000 in
theorem reads_some (s : List UInt8) (w : World) (hl : s.length ≤ 100) (hv : VarsAt w) (hk : (readN s).kd ≠ 0) :
    Calls Tryd.prog 6 #[.string ⟨s.toArray⟩] w fun e w' => e = .returned (.bool true) ∧ Fr [] w w' := by
  have hd : decide (100 < (s.length : Int)) = false := decide_eq_false (by omega)
  have hxl := readN_length s
  have ht := readN_text s hk
  have HRd := Lib.hid (fun wx (hx : VarsAt wx) => read_any s wx (by omega) hx)
  generalize readN s = X at *
  have HW := Lib.hid (fun wx (hx : VarsAt wx) => write_any X wx hxl hx)
  have HN := Lib.hid (fun wx => lname_any X wx hxl)
  rw [ht] at HW HN
  have hs := sizeN hxl
  have h1 := nameC_one X
  have hkd := nameC_kd X
  have hk0 : (X.kd == 0) = false := by rw [beq_eq_false_iff_ne]; exact hk
  have hZs : (nameC zeroN).size = (nameC X).size := by rw [nameC_size (x := X) hxl]; rfl
  have hzz := zeroNm
  generalize nameC X = C at *
  generalize X.kd = kd at *
  obtain ⟨Z, hZ⟩ : ∃ Z, Z = nameC zeroN := ⟨_, rfl⟩
  rw [← hZ] at hzz hZs
  have hss : (s == s) = true := beq_self_eq_true s
  have HV := Lib.hid hv
  clear hZ hl hv hk ht hxl
  go_enter Tryd.func6, Tryd.ntmps6
  go_wp2_with (first
    | (go_at_call 16; refine (HRd.out _ HV.out).mono ?_; rintro e w1 ⟨rfl, hf1⟩; refine Hid.out ?_))
  refine Lib.hid ?_
  go_wp2_with (first
    | (refine wpL_newArr rfl 34 rfl Z hzz ?_; intro w2 hh2 hf2 hs2; refine wpL_storeArr rfl _ _ _ rfl w1.heap.size C Z rfl rfl _ hh2.out hs hZs h1 ?_; intro w3 hh3 hf3 hs3; have hz1 := hf1.size; have hf13 : Fr [] w w3 := (hf1.trans hf2 (by simp) (n := []) (by simp)).trans hf3 (by simp) (by simp; omega); clear hz1; have hce := (cell_of_heap hh3.out 0).trans hkd)
    | (refine wpL_loadW rfl _ _ rfl w1.heap.size rfl _ C _ _ (hf4.heap hh3.out (by simp)) Tryd.underlying34 rfl hs ?_)
    | (refine wpList_load_row rfl _ _ rfl w1.heap.size rfl _ C _ _ hh3.out Tryd.underlying34 rfl hs ?_)
    | (go_at_call 14; refine (HW.out _ (HV.out.below hf13)).mono ?_; rintro e w4 ⟨rfl, hf4⟩; have hf14 := hf13.trans hf4 (by simp) (n := []) (by simp))
    | (go_at_call 15; refine (HN.out _).mono ?_; rintro e w5 ⟨rfl, hf5⟩; have hf15 := hf14.trans hf5 (by simp) (n := []) (by simp))
    | (go_at_call 12; refine (awake_any _ (HV.out.below hf15)).mono ?_; rintro e w6 ⟨rfl, hf6⟩))
  go_ret
  exact ⟨rfl, hf15.trans hf6 (by simp) (by simp)⟩
set_option maxRecDepth 100000 in
theorem reads_no (s : List UInt8) (w : World) (hl : s.length ≤ 100) (hv : VarsAt w) (hk : (readN s).kd = 0) (hp : keyP (tailL s) = none) :
    Calls Tryd.prog 6 #[.string ⟨s.toArray⟩] w fun e w' => e = .returned (.bool true) ∧ Fr [] w w' := by
  have hd : decide (100 < (s.length : Int)) = false := decide_eq_false (by omega)
  obtain ⟨hX, hnj, hnf, -⟩ := readN_none s hk
  have HRd := Lib.hid (fun wx (hx : VarsAt wx) => read_any s wx (by omega) hx)
  rw [hX] at HRd
  have hj : (s == [106, 111, 117, 114, 110, 97, 108]) = false := by rw [beq_eq_false_iff_ne]; exact hnj
  have hf : (s == [106, 111, 117, 114, 110, 97, 108, 46, 110, 101, 119]) = false := by rw [beq_eq_false_iff_ne]; exact hnf
  have HTa := Lib.hid (fun wx => tail_any s wx)
  have HPa := Lib.hid (fun wx => rparse_any (tailL s) wx)
  rw [hp] at HPa
  generalize tailL s = T at *
  have hkl := keyD_length T
  have hKP : ∀ b, KP (keyD T) b = .tuple #[.agg (keyC (keyD T).1 (keyD T).2), .bool b] := fun b => rfl
  rw [hKP] at HPa
  have hkz := zeroK
  have hks := sizeK (k := (keyD T).2) hkl
  have hk1 := keyC_one (keyD T).1 (keyD T).2
  have hZK : (keyC zeroH 0).size = (keyC (keyD T).1 (keyD T).2).size := by rw [keyC_size rfl, keyC_size hkl]
  generalize keyC (keyD T).1 (keyD T).2 = CK at *
  have heq := equal_keys zeroH zeroH 0 0 rfl rfl
  rw [decide_eq_true ⟨rfl, rfl⟩] at heq
  have hbk := built_key0
  have HR := Lib.hid (fun (wx : World) (g : Nat) (hg : wx.heap[g]? = some (Obj.cells (nameC zeroN) 34 (0, 0))) => nameC_range (x := zeroN) rfl hg)
  have hi2 : (Tryd.prog.info? 24).map (·.size) = some (keyC zeroH 0).toList.length := by rw [sizeK (h := zeroH) (k := 0) rfl]; simp
  have hcl0 : (keyC zeroH 0).toList.toArray = keyC zeroH 0 := by simp
  have hzeros : zeroN.h = zeroH ∧ zeroN.k = 0 := ⟨rfl, rfl⟩
  rw [hzeros.1, hzeros.2] at HR
  generalize (keyC zeroH 0).toList = D at *
  generalize keyC zeroH 0 = ZK at *
  have hCL := Lib.hid hcl0
  have hs' := sizeN (x := zeroN) rfl
  have h1 := nameC_one zeroN
  have hkd : (nameC zeroN)[0]? = some (.int .i64 0) := nameC_kd zeroN
  have hn : (nameC zeroN)[34]? = some (.int .i64 0) := nameC_n (x := zeroN) rfl
  have hzz := zeroNm
  generalize nameC zeroN = Z at *
  have HV := Lib.hid hv
  clear hl hv hk hX hnj hnf hp hkl hKP hcl0 hzeros
  go_enter Tryd.func6, Tryd.ntmps6
  go_wp2_with (first
    | (go_at_call 16; refine (HRd.out _ HV.out).mono ?_; rintro e w1 ⟨rfl, hf1⟩; refine Hid.out ?_))
  refine Lib.hid ?_
  go_wp2_with (first
    | (refine wpL_newArr rfl 34 rfl Z hzz ?_; intro w2 hh2 hf2 hs2; refine wpL_storeArr rfl _ _ _ rfl w1.heap.size Z Z rfl rfl _ hh2.out hs' rfl h1 ?_; intro w3 hh3 hf3 hs3; have hz1 := hf1.size; have hf13 : Fr [] w w3 := (hf1.trans hf2 (by simp) (n := []) (by simp)).trans hf3 (by simp) (by simp; omega); clear hz1; have hce := (cell_of_heap hh3.out 0).trans hkd)
    | (go_at_call 17; refine (HTa.out _).mono ?_; rintro e w4 ⟨rfl, rfl⟩)
    | (go_at_call 13; refine (HPa.out _).mono ?_; rintro e w5 ⟨rfl, hf5⟩; have hf15 := hf13.trans hf5 (by simp) (n := []) (by simp); refine Hid.out ?_))
  refine Lib.hid ?_
  go_wp2_with (first
    | (refine wpL_newArr rfl 24 rfl ZK hkz ?_; intro w6 hh6 hf6 hs6; refine wpL_storeArr rfl _ _ _ rfl w5.heap.size CK ZK rfl rfl _ hh6.out hks hZK hk1 ?_; intro w7 hh7 hf7 hs7; have hz5 := hf15.size; have hf17 : Fr [] w w7 := (hf15.trans hf6 (by simp) (n := []) (by simp)).trans hf7 (by simp) (by simp; omega); have hlt := lt_k (hf5.heap hh3.out (by simp)); have hh37 := hf7.heap (hf6.heap (hf5.heap hh3.out (by simp)) (by simp)) (by simp; omega); have hcn := (cell_of_heap hh37 34).trans hn; clear hz5 hlt)
    | (refine wpL_midW rfl 24 _ rfl w1.heap.size 1 rfl D _ (HR.out _ _ hh37) Tryd.underlying24 rfl hi2 ?_; rw [hCL.out])
    | (refine wpL_build_want rfl _ _ rfl ZK [] rfl hbk ?_)
    | (go_at_call 12; refine (awake_any _ (HV.out.below hf17)).mono ?_; rintro e w8 ⟨rfl, hf8⟩))
  go_ret
  exact ⟨rfl, hf17.trans hf8 (by simp) (by simp)⟩
set_option maxRecDepth 100000 in
theorem reads_ne0 (s : List UInt8) (w : World) (hl : s.length ≤ 100) (hv : VarsAt w) (hk : (readN s).kd = 0) (x : List UInt8 × Int) (hp : keyP (tailL s) = some x) (a b : UInt8) (r : List UInt8) (hs : s = a :: b :: r) (ha : a ≠ 111) :
    Calls Tryd.prog 6 #[.string ⟨s.toArray⟩] w fun e w' => e = .returned (.bool true) ∧ Fr [] w w' := by
  have hd : decide (100 < (s.length : Int)) = false := decide_eq_false (by omega)
  obtain ⟨hX, hnj, hnf, -⟩ := readN_none s hk
  have HRd := Lib.hid (fun wx (hx : VarsAt wx) => read_any s wx (by omega) hx)
  rw [hX] at HRd
  have hj : (s == [106, 111, 117, 114, 110, 97, 108]) = false := by rw [beq_eq_false_iff_ne]; exact hnj
  have hf : (s == [106, 111, 117, 114, 110, 97, 108, 46, 110, 101, 119]) = false := by rw [beq_eq_false_iff_ne]; exact hnf
  have HTa := Lib.hid (fun wx => tail_any s wx)
  have HPa := Lib.hid (fun wx => rparse_any (tailL s) wx)
  rw [hp] at HPa
  generalize tailL s = T at *
  have hkl := keyD_length T
  have hKP : ∀ b, KP (keyD T) b = .tuple #[.agg (keyC (keyD T).1 (keyD T).2), .bool b] := fun b => rfl
  rw [hKP] at HPa
  have hkz := zeroK
  have hks := sizeK (k := (keyD T).2) hkl
  have hk1 := keyC_one (keyD T).1 (keyD T).2
  have hZK : (keyC zeroH 0).size = (keyC (keyD T).1 (keyD T).2).size := by rw [keyC_size rfl, keyC_size hkl]
  generalize keyC (keyD T).1 (keyD T).2 = CK at *
  have heq := equal_keys zeroH zeroH 0 0 rfl rfl
  rw [decide_eq_true ⟨rfl, rfl⟩] at heq
  have hbk := built_key0
  have HR := Lib.hid (fun (wx : World) (g : Nat) (hg : wx.heap[g]? = some (Obj.cells (nameC zeroN) 34 (0, 0))) => nameC_range (x := zeroN) rfl hg)
  have hi2 : (Tryd.prog.info? 24).map (·.size) = some (keyC zeroH 0).toList.length := by rw [sizeK (h := zeroH) (k := 0) rfl]; simp
  have hcl0 : (keyC zeroH 0).toList.toArray = keyC zeroH 0 := by simp
  have hzeros : zeroN.h = zeroH ∧ zeroN.k = 0 := ⟨rfl, rfl⟩
  rw [hzeros.1, hzeros.2] at HR
  generalize (keyC zeroH 0).toList = D at *
  generalize keyC zeroH 0 = ZK at *
  have hCL := Lib.hid hcl0
  have hs' := sizeN (x := zeroN) rfl
  have h1 := nameC_one zeroN
  have hkd : (nameC zeroN)[0]? = some (.int .i64 0) := nameC_kd zeroN
  have hn : (nameC zeroN)[34]? = some (.int .i64 0) := nameC_n (x := zeroN) rfl
  have hzz := zeroNm
  generalize nameC zeroN = Z at *
  have HV := Lib.hid hv
  have hlen : decide (1 < (s.length : Int)) = true := decide_eq_true (by rw [hs]; simp; omega)
  have hi0 := fun wx => run_index_str (P := Tryd.prog) wx 9 s 0 0 a Tryd.underlying9 rfl (by rw [hs]; rfl)
  have ha2 : ((a.toNat : Int) == 111) = false := by rw [beq_eq_false_iff_ne]; intro e; exact ha (UInt8.toNat_inj.1 (by show a.toNat = 111; omega))
  clear hl hv hk hX hnj hnf hp hkl hKP hcl0 hzeros hs ha
  go_enter Tryd.func6, Tryd.ntmps6
  go_wp2_with (first
    | (go_at_call 16; refine (HRd.out _ HV.out).mono ?_; rintro e w1 ⟨rfl, hf1⟩; refine Hid.out ?_))
  refine Lib.hid ?_
  go_wp2_with (first
    | (refine wpL_newArr rfl 34 rfl Z hzz ?_; intro w2 hh2 hf2 hs2; refine wpL_storeArr rfl _ _ _ rfl w1.heap.size Z Z rfl rfl _ hh2.out hs' rfl h1 ?_; intro w3 hh3 hf3 hs3; have hz1 := hf1.size; have hf13 : Fr [] w w3 := (hf1.trans hf2 (by simp) (n := []) (by simp)).trans hf3 (by simp) (by simp; omega); clear hz1; have hce := (cell_of_heap hh3.out 0).trans hkd)
    | (go_at_call 17; refine (HTa.out _).mono ?_; rintro e w4 ⟨rfl, rfl⟩)
    | (go_at_call 13; refine (HPa.out _).mono ?_; rintro e w5 ⟨rfl, hf5⟩; have hf15 := hf13.trans hf5 (by simp) (n := []) (by simp); refine Hid.out ?_))
  refine Lib.hid ?_
  go_wp2_with (first
    | (refine wpL_newArr rfl 24 rfl ZK hkz ?_; intro w6 hh6 hf6 hs6; refine wpL_storeArr rfl _ _ _ rfl w5.heap.size CK ZK rfl rfl _ hh6.out hks hZK hk1 ?_; intro w7 hh7 hf7 hs7; have hz5 := hf15.size; have hf17 : Fr [] w w7 := (hf15.trans hf6 (by simp) (n := []) (by simp)).trans hf7 (by simp) (by simp; omega); have hlt := lt_k (hf5.heap hh3.out (by simp)); have hh37 := hf7.heap (hf6.heap (hf5.heap hh3.out (by simp)) (by simp)) (by simp; omega); have hcn := (cell_of_heap hh37 34).trans hn; clear hz5 hlt)
    | (refine wpL_midW rfl 24 _ rfl w1.heap.size 1 rfl D _ (HR.out _ _ hh37) Tryd.underlying24 rfl hi2 ?_; rw [hCL.out])
    | (refine wpL_build_want rfl _ _ rfl ZK [] rfl hbk ?_)
    | (go_at_call 12; refine (awake_any _ (HV.out.below hf17)).mono ?_; rintro e w8 ⟨rfl, hf8⟩))
  go_ret
  exact ⟨rfl, hf17.trans hf8 (by simp) (by simp)⟩
set_option maxRecDepth 100000 in
theorem reads_ne1 (s : List UInt8) (w : World) (hl : s.length ≤ 100) (hv : VarsAt w) (hk : (readN s).kd = 0) (x : List UInt8 × Int) (hp : keyP (tailL s) = some x) (a b : UInt8) (r : List UInt8) (hs : s = a :: b :: r) (ha : a = 111) (hb : b ≠ 45) :
    Calls Tryd.prog 6 #[.string ⟨s.toArray⟩] w fun e w' => e = .returned (.bool true) ∧ Fr [] w w' := by
  have hd : decide (100 < (s.length : Int)) = false := decide_eq_false (by omega)
  obtain ⟨hX, hnj, hnf, -⟩ := readN_none s hk
  have HRd := Lib.hid (fun wx (hx : VarsAt wx) => read_any s wx (by omega) hx)
  rw [hX] at HRd
  have hj : (s == [106, 111, 117, 114, 110, 97, 108]) = false := by rw [beq_eq_false_iff_ne]; exact hnj
  have hf : (s == [106, 111, 117, 114, 110, 97, 108, 46, 110, 101, 119]) = false := by rw [beq_eq_false_iff_ne]; exact hnf
  have HTa := Lib.hid (fun wx => tail_any s wx)
  have HPa := Lib.hid (fun wx => rparse_any (tailL s) wx)
  rw [hp] at HPa
  generalize tailL s = T at *
  have hkl := keyD_length T
  have hKP : ∀ b, KP (keyD T) b = .tuple #[.agg (keyC (keyD T).1 (keyD T).2), .bool b] := fun b => rfl
  rw [hKP] at HPa
  have hkz := zeroK
  have hks := sizeK (k := (keyD T).2) hkl
  have hk1 := keyC_one (keyD T).1 (keyD T).2
  have hZK : (keyC zeroH 0).size = (keyC (keyD T).1 (keyD T).2).size := by rw [keyC_size rfl, keyC_size hkl]
  generalize keyC (keyD T).1 (keyD T).2 = CK at *
  have heq := equal_keys zeroH zeroH 0 0 rfl rfl
  rw [decide_eq_true ⟨rfl, rfl⟩] at heq
  have hbk := built_key0
  have HR := Lib.hid (fun (wx : World) (g : Nat) (hg : wx.heap[g]? = some (Obj.cells (nameC zeroN) 34 (0, 0))) => nameC_range (x := zeroN) rfl hg)
  have hi2 : (Tryd.prog.info? 24).map (·.size) = some (keyC zeroH 0).toList.length := by rw [sizeK (h := zeroH) (k := 0) rfl]; simp
  have hcl0 : (keyC zeroH 0).toList.toArray = keyC zeroH 0 := by simp
  have hzeros : zeroN.h = zeroH ∧ zeroN.k = 0 := ⟨rfl, rfl⟩
  rw [hzeros.1, hzeros.2] at HR
  generalize (keyC zeroH 0).toList = D at *
  generalize keyC zeroH 0 = ZK at *
  have hCL := Lib.hid hcl0
  have hs' := sizeN (x := zeroN) rfl
  have h1 := nameC_one zeroN
  have hkd : (nameC zeroN)[0]? = some (.int .i64 0) := nameC_kd zeroN
  have hn : (nameC zeroN)[34]? = some (.int .i64 0) := nameC_n (x := zeroN) rfl
  have hzz := zeroNm
  generalize nameC zeroN = Z at *
  have HV := Lib.hid hv
  have hlen : decide (1 < (s.length : Int)) = true := decide_eq_true (by rw [hs]; simp; omega)
  have hi0 := fun wx => run_index_str (P := Tryd.prog) wx 9 s 0 0 a Tryd.underlying9 rfl (by rw [hs]; rfl)
  have hi1 := fun wx => run_index_str (P := Tryd.prog) wx 9 s 1 1 b Tryd.underlying9 rfl (by rw [hs]; rfl)
  have ha2 : ((a.toNat : Int) == 111) = true := by rw [ha]; rfl
  have hb2 : ((b.toNat : Int) == 45) = false := by rw [beq_eq_false_iff_ne]; intro e; exact hb (UInt8.toNat_inj.1 (by show b.toNat = 45; omega))
  clear hl hv hk hX hnj hnf hp hkl hKP hcl0 hzeros hs ha hb
  go_enter Tryd.func6, Tryd.ntmps6
  go_wp2_with (first
    | (go_at_call 16; refine (HRd.out _ HV.out).mono ?_; rintro e w1 ⟨rfl, hf1⟩; refine Hid.out ?_))
  refine Lib.hid ?_
  go_wp2_with (first
    | (refine wpL_newArr rfl 34 rfl Z hzz ?_; intro w2 hh2 hf2 hs2; refine wpL_storeArr rfl _ _ _ rfl w1.heap.size Z Z rfl rfl _ hh2.out hs' rfl h1 ?_; intro w3 hh3 hf3 hs3; have hz1 := hf1.size; have hf13 : Fr [] w w3 := (hf1.trans hf2 (by simp) (n := []) (by simp)).trans hf3 (by simp) (by simp; omega); clear hz1; have hce := (cell_of_heap hh3.out 0).trans hkd)
    | (go_at_call 17; refine (HTa.out _).mono ?_; rintro e w4 ⟨rfl, rfl⟩)
    | (go_at_call 13; refine (HPa.out _).mono ?_; rintro e w5 ⟨rfl, hf5⟩; have hf15 := hf13.trans hf5 (by simp) (n := []) (by simp); refine Hid.out ?_))
  refine Lib.hid ?_
  go_wp2_with (first
    | (refine wpL_newArr rfl 24 rfl ZK hkz ?_; intro w6 hh6 hf6 hs6; refine wpL_storeArr rfl _ _ _ rfl w5.heap.size CK ZK rfl rfl _ hh6.out hks hZK hk1 ?_; intro w7 hh7 hf7 hs7; have hz5 := hf15.size; have hf17 : Fr [] w w7 := (hf15.trans hf6 (by simp) (n := []) (by simp)).trans hf7 (by simp) (by simp; omega); have hlt := lt_k (hf5.heap hh3.out (by simp)); have hh37 := hf7.heap (hf6.heap (hf5.heap hh3.out (by simp)) (by simp)) (by simp; omega); have hcn := (cell_of_heap hh37 34).trans hn; clear hz5 hlt)
    | (refine wpL_midW rfl 24 _ rfl w1.heap.size 1 rfl D _ (HR.out _ _ hh37) Tryd.underlying24 rfl hi2 ?_; rw [hCL.out])
    | (refine wpL_build_want rfl _ _ rfl ZK [] rfl hbk ?_)
    | (go_at_call 12; refine (awake_any _ (HV.out.below hf17)).mono ?_; rintro e w8 ⟨rfl, hf8⟩))
  go_ret
  exact ⟨rfl, hf17.trans hf8 (by simp) (by simp)⟩
theorem keyReads_any (s : List UInt8) (w : World) (hv : VarsAt w) :
    Calls Tryd.prog 6 #[.string ⟨s.toArray⟩] w fun e w' => e = .returned (.bool true) ∧ Fr [] w w' := by
  by_cases hl : s.length ≤ 100
  · by_cases hk : (readN s).kd = 0
    · cases hp : keyP (tailL s) with
      | none => exact reads_no s w hl hv hk hp
      | some x =>
        obtain ⟨a, b, r, hs, hr⟩ := tail_cut hp
        obtain ⟨-, -, -, hno⟩ := readN_none s hk
        by_cases ha : a = 111
        · by_cases hb : b = 45
          · have := hno r (by rw [hs, ha, hb])
            rw [hr, this] at hp
            cases hp
          · exact reads_ne1 s w hl hv hk x hp a b r hs ha hb
        · exact reads_ne0 s w hl hv hk x hp a b r hs ha
    · exact reads_some s w hl hv hk
  · exact reads_long s w (by omega) hv
end Go.Proofs.YtjlkcdmeiakkbaaDoor
