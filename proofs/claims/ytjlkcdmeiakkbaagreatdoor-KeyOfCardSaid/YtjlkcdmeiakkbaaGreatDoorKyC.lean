/- Stage 17, the program: Parse. -/
import Derived.Test.YtjlkcdmeiakkbaaGreatDoorKyB
import Derived.Test.YtjlkcdmeiakkbaaGreatDoorKyS
import Derived.Test.YtjlkcdmeiakkbaaGreatDoorHexC
import Derived.BigRegion
import Derived.Deep.DeepCutAuto
set_option linter.unusedVariables false
set_option linter.unusedSimpArgs false
namespace Go.Proofs.YtjlkcdmeiakkbaaGreatDoor
open Go.RowKit

def KP (x : List UInt8 × Int) (b : Bool) : Value := .tuple #[.agg (keyC x.1 x.2), .bool b]
set_option maxRecDepth 100000 in
theorem kparse_len (s : List UInt8) (w : World) (hl : s.length ≤ 1000000) (h66 : s.length ≠ 66) :
    Calls Tryz.prog 42 #[.string ⟨s.toArray⟩] w fun e w' => e = .returned (KP (zeroH, 0) false) ∧ Fr [] w w' := by
  have hd : ((s.length : Int) != 66) = true := by rw [bne_iff_ne]; omega
  obtain ⟨Z, hZ⟩ : ∃ Z, Z = keyC zeroH 0 := ⟨_, rfl⟩
  have hzz := zeroK
  have hzb := built_key0
  have hzs := sizeK (h := zeroH) (k := 0) rfl
  have hz1 := keyC_one zeroH 0
  have hR : KP (zeroH, 0) false = .tuple #[.agg Z, .bool false] := by rw [hZ]; rfl
  rw [hR]
  rw [← hZ] at hzz hzb hzs hz1
  clear hZ hR
  go_enter Tryz.func42, Tryz.ntmps42
  go_wp2_with (first
    | (refine wpL_newArr rfl 30 rfl Z hzz ?_; intro w1 hh1 hf1 hs1)
    | (refine wpL_build rfl _ _ rfl Z [] rfl hzb ?_; refine wpL_storeArr rfl _ _ _ rfl w.heap.size Z Z rfl rfl _ hh1.out hzs rfl hz1 ?_; intro w2 hh2 hf2 hs2))
  refine bodyPost_ret (v := .tuple #[.agg Z, .bool false]) (results_k rfl _ _ w.heap.size 30 Z _ rfl hh2.out Tryz.underlying30 rfl hzs _ rfl) rfl ⟨rfl, ?_⟩
  exact hf1.trans hf2 (by simp) (by simp)
set_option maxRecDepth 100000 in
theorem kparse_bad (s : List UInt8) (w : World) (h66 : s.length = 66) (hg : goodD (s.take 64) = false) (hv : VarsAt w) :
    Calls Tryz.prog 42 #[.string ⟨s.toArray⟩] w fun e w' => e = .returned (KP (zeroH, 0) false) ∧ Fr [] w w' := by
  have hd : ((s.length : Int) != 66) = false := by rw [bne_eq_false_iff_eq]; omega
  obtain ⟨Z, hZ⟩ : ∃ Z, Z = keyC zeroH 0 := ⟨_, rfl⟩
  have hzz := zeroK
  have hzb := built_key0
  have hzs := sizeK (h := zeroH) (k := 0) rfl
  have hz1 := keyC_one zeroH 0
  have hR : KP (zeroH, 0) false = .tuple #[.agg Z, .bool false] := by rw [hZ]; rfl
  rw [hR]
  rw [← hZ] at hzz hzb hzs hz1
  have hsl : ∀ wx : World, (Instr.slice 9 (.string ⟨s.toArray⟩) none (some (.int .i64 64)) none).run Tryz.prog wx = .ok (.string ⟨(s.take 64).toArray⟩) wx := fun wx => take_k (P := Tryz.prog) wx 9 s 64 Tryz.underlying9 (by omega)
  obtain ⟨S, hS⟩ : ∃ S, S = s.take 64 := ⟨_, rfl⟩
  rw [← hS] at hsl hg
  have hSl : S.length ≤ 1000000 := by rw [hS, List.length_take]; omega
  have HP := Lib.hid (fun wx (hr : digsAt wx) => parse_no S wx hr hSl hg)
  have HV := Lib.hid hv
  clear hZ hR h66 hS hg hSl hv
  go_enter Tryz.func42, Tryz.ntmps42
  go_wp2_with (first
    | (refine wpL_newArr rfl 30 rfl Z hzz ?_; intro w1 hh1 hf1 hs1)
    | (go_at_call 82; refine (HP.out _ (HV.out.digs.below hf1)).mono ?_; rintro e w3 ⟨rfl, hf3⟩)
    | (refine wpL_build rfl _ _ rfl Z [] rfl hzb ?_; refine wpL_storeArr rfl _ _ _ rfl w.heap.size Z Z rfl rfl _ (hf3.heap hh1.out (by simp)) hzs rfl hz1 ?_; intro w2 hh2 hf2 hs2))
  refine bodyPost_ret (v := .tuple #[.agg Z, .bool false]) (results_k rfl _ _ w.heap.size 30 Z _ rfl hh2.out Tryz.underlying30 rfl hzs _ rfl) rfl ⟨rfl, ?_⟩
  exact (hf1.trans hf3 (by simp) (n := []) (by simp)).trans hf2 (by simp) (by simp)
set_option maxRecDepth 100000 in
theorem kparse_good (s : List UInt8) (w : World) (h66 : s.length = 66) (hg : goodD (s.take 64) = true) (hv : VarsAt w) :
    Calls Tryz.prog 42 #[.string ⟨s.toArray⟩] w fun e w' => e = .returned (KP (keyD s) (keyP s).isSome) ∧ Fr [] w w' := by
  have hd : ((s.length : Int) != 66) = false := by rw [bne_eq_false_iff_eq]; omega
  obtain ⟨Z, hZ⟩ : ∃ Z, Z = keyC zeroH 0 := ⟨_, rfl⟩
  have hzz := zeroK
  have hzb := built_key0
  have hzs := sizeK (h := zeroH) (k := 0) rfl
  have hz1 := keyC_one zeroH 0
  have hsl : ∀ wx : World, (Instr.slice 9 (.string ⟨s.toArray⟩) none (some (.int .i64 64)) none).run Tryz.prog wx = .ok (.string ⟨(s.take 64).toArray⟩) wx := fun wx => take_k (P := Tryz.prog) wx 9 s 64 Tryz.underlying9 (by omega)
  have hix := fun wx => run_index_str (P := Tryz.prog) wx 9 s 65 65 (s.getD 65 0) Tryz.underlying9 rfl (by rw [List.getD_eq_getElem?_getD, List.getElem?_eq_getElem (by omega)]; rfl)
  have hKP : keyP s = if keyT (unhex (s.take 64)) (lastK s) = s then some (unhex (s.take 64), lastK s) else none := by
    unfold keyP
    by_cases q : keyT (unhex (s.take 64)) (lastK s) = s
    · rw [if_pos ⟨h66, hg, q⟩, if_pos q]
    · rw [if_neg (fun e => q e.2.2), if_neg q]
  have hKD : KP (keyD s) (keyP s).isSome = .tuple #[.agg (if keyT (unhex (s.take 64)) (lastK s) = s then keyC (unhex (s.take 64)) (lastK s) else Z), .bool (decide (keyT (unhex (s.take 64)) (lastK s) = s))] := by
    unfold KP keyD
    rw [hKP]
    by_cases q : keyT (unhex (s.take 64)) (lastK s) = s
    · rw [if_pos q, if_pos q, decide_eq_true q]; rfl
    · rw [if_neg q, if_neg q, decide_eq_false q, hZ]; rfl
  rw [hKD]
  rw [← hZ] at hzz hzb hzs hz1
  have hSl : (s.take 64).length ≤ 1000000 := by rw [List.length_take]; omega
  have hul : (unhex (s.take 64)).length = 32 := by rw [unhex_length, List.length_take, h66]; rfl
  have hcl := (s.getD 65 0).toNat_lt
  have hkk : ((s.getD 65 0).toNat : Int) - 48 = lastK s := rfl
  generalize lastK s = K at hkk ⊢
  generalize hc : s.getD 65 0 = c at hkk hix hcl
  have HP := Lib.hid (fun wx (hr : digsAt wx) => parse_yes (s.take 64) wx hr hSl hg)
  generalize hS : s.take 64 = S at *
  generalize hH : unhex S = H at *
  obtain ⟨C, hC⟩ : ∃ C, C = keyC H K := ⟨_, rfl⟩
  have hcs := sizeK (k := K) hul
  have hc1 := keyC_one H K
  have hcb := built_key hul K
  have HT := Lib.hid (fun wx (hv : VarsAt wx) => ktext_any H K wx hul hv)
  have HL := Lib.hid hul
  rw [← hC] at hcs hc1 hcb HT
  have hZC : Z.size = C.size := by rw [hC, hZ, keyC_size hul]; rfl
  have HV := Lib.hid hv
  have HKK := Lib.hid hkk
  have HCL := Lib.hid hcl
  have hh16 : (Tryz.prog.info? 28).map (·.size) = some (cellsB H).length := by rw [sizeH hul]; simp
  have hcl2 : (c.toNat : Int) < 256 := by omega
  rw [← hkk] at hcb
  have hhB : ∀ (wx : World) (v : Value), bytesAt wx v H → ∃ g o cap, v = .slice (some ⟨g, o, none⟩) 32 cap ∧ wx.rangeAt g o (cellsB H) ∧ g < wx.heap.size := by
    intro wx v hb
    rcases hb with ⟨a, cap, rfl, -, e⟩ | ⟨b, o, cap, rfl, -, -, hcell⟩
    · rw [e] at hul; cases hul
    · refine ⟨b, o, cap, by rw [hul], ?_, World.block_lt_of_cell? wx _ (hcell 0 (by omega))⟩
      intro j u hu
      have hj : j < H.length := by
        rcases Nat.lt_or_ge j H.length with q | q
        · exact q
        · rw [List.getElem?_eq_none (by rw [cellsB_length]; exact q)] at hu; cases hu
      rw [hcell j hj, ← hu, cellsB_get H j hj]
  have HB := Lib.hid hhB
  obtain ⟨D, hD⟩ : ∃ D, D = cellsB H := ⟨_, rfl⟩
  rw [← hD] at hh16 hcb HB
  rw [← hC]
  obtain ⟨RV, hRV⟩ : ∃ RV : Value, RV = .tuple #[.agg (if keyT H K = s then C else Z), .bool (decide (keyT H K = s))] := ⟨_, rfl⟩
  rw [← hRV]
  obtain ⟨X, hX⟩ : ∃ X, X = keyT H K := ⟨_, rfl⟩
  rw [← hX] at hRV HT
  have HRV := Lib.hid hRV
  clear hX hRV hZ h66 hS hg hSl hv hKP hKD hul hkk hcl hc hH hhB hD hC
  go_enter Tryz.func42, Tryz.ntmps42
  go_wp2_with (first
    | (refine wpL_newArr rfl 30 rfl Z hzz ?_; intro w1 hh1 hf1 hs1)
    | (go_at_call 82; refine (HP.out _ (HV.out.digs.below hf1)).mono ?_; rintro e w3 ⟨⟨v3, rfl, hb3⟩, hf3⟩; obtain ⟨g3, o3, cap3, rfl, hr3, hg3⟩ := HB.out _ _ hb3))
  refine wp_region_W [w3.heap.size] [(0, false), (1, false), (2, false), (3, false), (4, false), (5, false), (6, false), (7, false), (8, true), (9, true)] 34 rfl (by kernel_rfl) (by kernel_rfl) (by kernel_rfl) (fun c a d v w h => by cases d <;> exact h) ?_
  simp only [List.map_cons, List.map_nil, List.getElem?_toArray, List.getElem?_cons_succ, List.getElem?_cons_zero, Option.getD_some]
  have harr := fun wx => run_arrayAt (P := Tryz.prog) wx 28 5 32 (some ⟨g3, o3, none⟩) 32 cap3 Tryz.underlying28 (by omega)
  have LR : Later [w3.heap.size] w3.drew (fun w' => w'.rangeAt g3 o3 D) := fun w' hf' j u hu => hf'.cell (hr3 j u hu) (by simp; omega)
  have hh3 := hf3.heap hh1.out (by simp)
  repeat (apply wpG_t; · (intro w' hf'; have c1 := LR w' hf'; go_wp2_with (first | (refine wpList_load_mid rfl 28 _ rfl g3 o3 rfl D _ c1 Tryz.underlying28 rfl hh16 ?_) | (refine wpL_build rfl _ _ rfl C _ rfl hcb ?_)); exact ⟨rfl, rfl⟩))
  refine wpG_x ?_
  refine wpL_newArr rfl 30 rfl Z hzz ?_
  intro w4 hh4 hf4 hs4
  go_wp2_with fail
  refine ⟨hf4.mono (by simp), rfl, ?_⟩
  refine wpG_x ?_
  refine wpL_storeArr rfl _ _ _ rfl w3.heap.size C Z rfl rfl _ hh4.out hcs hZC hc1 ?_
  intro w5 hh5 hf5 hs5
  go_wp2_with fail
  refine ⟨hf5, rfl, ?_⟩
  refine wpG_end ?_
  have hz3 := hf3.size
  have hz1' := hs1.out
  have hf15 : Fr [] w w5 := ((hf1.trans hf3 (by simp) (n := []) (by simp)).trans ((Fr.drew w3).trans hf4 (by simp) (n := []) (by simp)) (by simp) (n := []) (by simp)).trans hf5 (by simp) (by simp; omega)
  have hh15 : w5.heap[w.heap.size]? = some (.cells Z 30 (0, 0)) := hf5.heap (hf4.heap hh3 (by simp)) (by simp; omega)
  by_cases hq : X = s
  · have hne : (X == s) = true := by rw [hq]; simp
    have HR2 := Lib.hid (show RV = .tuple #[.agg C, .bool true] by have := HRV.out; rw [if_pos hq, decide_eq_true hq] at this; exact this)
    clear hq HRV
    go_wp2_with (first
      | (refine wpList_load_row rfl _ _ rfl w3.heap.size rfl _ C _ _ (hf6.heap hh5.out (by simp)) Tryz.underlying30 rfl hcs ?_; refine wpL_storeArr rfl _ _ _ rfl w.heap.size C Z rfl rfl _ (hf6.heap hh15 (by simp)) hcs hZC hc1 ?_; intro w7 hh7 hf7 hs7)
      | (refine wpList_load_row rfl _ _ rfl w3.heap.size rfl _ C _ _ hh5.out Tryz.underlying30 rfl hcs ?_)
      | (go_at_call 19; refine (HT.out _ (HV.out.below hf15)).mono ?_; rintro e w6 ⟨rfl, hf6⟩))
    refine bodyPost_ret (v := .tuple #[.agg C, .bool true]) (results_k rfl _ _ w.heap.size 30 C _ rfl hh7.out Tryz.underlying30 rfl hcs _ rfl) rfl ⟨by rw [HR2.out], ?_⟩
    exact (hf15.trans hf6 (by simp) (n := []) (by simp)).trans hf7 (by simp) (by simp)
  · have hne : (X == s) = false := by rw [beq_eq_false_iff_ne]; exact hq
    have HR2 := Lib.hid (show RV = .tuple #[.agg Z, .bool false] by have := HRV.out; rw [if_neg hq, decide_eq_false hq] at this; exact this)
    clear hq HRV
    go_wp2_with (first
      | (refine wpList_load_row rfl _ _ rfl w3.heap.size rfl _ C _ _ hh5.out Tryz.underlying30 rfl hcs ?_)
      | (go_at_call 19; refine (HT.out _ (HV.out.below hf15)).mono ?_; rintro e w6 ⟨rfl, hf6⟩)
      | (refine wpL_build rfl _ _ rfl Z [] rfl hzb ?_; refine wpL_storeArr rfl _ _ _ rfl w.heap.size Z Z rfl rfl _ (hf6.heap hh15 (by simp)) hzs rfl hz1 ?_; intro w7 hh7 hf7 hs7))
    refine bodyPost_ret (v := .tuple #[.agg Z, .bool false]) (results_k rfl _ _ w.heap.size 30 Z _ rfl hh7.out Tryz.underlying30 rfl hzs _ rfl) rfl ⟨by rw [HR2.out], ?_⟩
    exact (hf15.trans hf6 (by simp) (n := []) (by simp)).trans hf7 (by simp) (by simp)
/-- Parse: the key of a text, or the zero value. -/
theorem kparse_any (s : List UInt8) (w : World) (hl : s.length ≤ 1000000) (hv : VarsAt w) :
    Calls Tryz.prog 42 #[.string ⟨s.toArray⟩] w fun e w' => e = .returned (KP (keyD s) (keyP s).isSome) ∧ Fr [] w w' := by
  by_cases h66 : s.length = 66
  · by_cases hg : goodD (s.take 64) = true
    · exact kparse_good s w h66 hg hv
    · have e : keyP s = none := by unfold keyP; rw [if_neg (fun x => hg x.2.1)]
      have h := kparse_bad s w h66 (by simpa using hg) hv
      unfold keyD
      rw [e]
      exact h
  · have e : keyP s = none := by unfold keyP; rw [if_neg (fun x => h66 x.1)]
    have h := kparse_len s w hl h66
    unfold keyD
    rw [e]
    exact h
end Go.Proofs.YtjlkcdmeiakkbaaGreatDoor
