/- Stage 17, the document: Key. (Made by gen_kyt.py.) -/
import Derived.Test.YtjlkcdmeiakkbaaGreatDoorKyR
import Derived.Test.YtjlkcdmeiakkbaaGreatDoorGr
import Derived.Test.YtjlkcdmeiakkbaaGreatDoorCdA
import Derived.Test.YtjlkcdmeiakkbaaGreatDoorCn
import Derived.Test.YtjlkcdmeiakkbaaGreatDoorCwT
import Derived.Test.YtjlkcdmeiakkbaaGreatDoorSo
set_option linter.unusedVariables false
set_option linter.unusedSimpArgs false
namespace Go.Proofs.YtjlkcdmeiakkbaaGreatDoor
open Go.RowKit

set_option maxRecDepth 100000 in
theorem rkey_good (g : GramG) (gv : Value) (k : Int) (w : World) (hg : gramAt w gv g) (hz : SizeG g) (hf : fewB g ≠ 0) (vg : validB g = true) (hk : 1 ≤ k ∧ k ≤ 4) :
    Calls Tryz.prog 7 #[gv, .int .i64 k] w fun e w' => e = .returned (KP (hashN (textO g), k) true) ∧ Fr [] w w' := by
  have hvl : ValidG g := of_boolOf vg
  have HVd := Lib.hid (fun wx (hf : Fr [] w wx) => rvalid_any g gv wx (hg.below hf) hz)
  have HCn := Lib.hid (fun wx (hf : Fr [] w wx) => rcanon_any g hvl gv wx (hg.below hf))
  have hcl := canon_valid hvl
  have hcb0 : ∀ r ∈ (canonG g).rules, ∀ s ∈ r.right, -((canonG g).terms.length : Int) ≤ s ∧ s < ((canonG g).names.length : Int) := fun r hr => (hcl.rules r hr).2.2.2
  have htl : (textO g).length ≤ 65536 := by rw [textO_valid hvl, canon_weight hvl]; exact few_weight hf hvl
  have HCT := Lib.hid (fun vb wx (hx : gramAt wx vb (canonG g)) => ctext_any (canonG g) vb wx hx hcb0 (by rw [← textO_valid hvl]; omega))
  rw [← textO_valid hvl] at HCT
  unfold encStr at HCT
  obtain ⟨a1, c1, a2, c2, a3, c3, rfl, -, -, -⟩ := hg.parts
  rw [vg] at HVd
  have hgs := sizeG
  have hG3 : (#[.slice a1 g.names.length c1, .slice a2 g.terms.length c2, .slice a3 g.rules.length c3] : Array Value).size = 3 := rfl
  rw [← hG3] at hgs
  clear hG3 hg hz vg hf hcl hcb0
  generalize (#[.slice a1 g.names.length c1, .slice a2 g.terms.length c2, .slice a3 g.rules.length c3] : Array Value) = G at *
  generalize textO g = T at *
  generalize canonG g = gc at *
  clear hvl
  have hHl := hashN_length T
  have HOf := Lib.hid (fun sv wx (hb : bytesAt wx sv T) => ref_hash_any T sv wx hb (by omega))
  have hcb := built_key hHl k
  have hcs := sizeK (k := k) hHl
  have hc1 := keyC_one (hashN T) k
  have hZC : (keyC zeroH 0).size = (keyC (hashN T) k).size := by rw [keyC_size rfl, keyC_size hHl]
  have hKP : KP (hashN T, k) true = .tuple #[.agg (keyC (hashN T) k), .bool true] := rfl
  rw [hKP]
  generalize keyC (hashN T) k = C at *
  generalize (cellsB (hashN T)).toArray = D at *
  have hzz := zeroK
  generalize keyC zeroH 0 = Z at *
  have hd1 : decide (k < 1) = false := decide_eq_false (by omega)
  have hd2 : decide (4 < k) = false := decide_eq_false (by omega)
  have htm : T.length ≤ maxLen := by simp [maxLen]; omega
  have HTM := Lib.hid htm
  clear hKP hHl hk htl htm
  go_enter Tryz.func7, Tryz.ntmps7
  go_wp2_with (first
    | (refine wpL_boxArr rfl _ _ rfl G rfl ?_; intro w1 hh1 hf1 hs1; refine wpL_newArr rfl 30 rfl Z hzz ?_; intro w2 hh2 hf2 hs2; have hf12 := hf1.trans hf2 (by simp) (n := []) (by simp); have hh12 := hf2.heap hh1.out (by simp); refine Hid.out ?_))
  refine Lib.hid ?_
  go_wp2_with (first
    | (refine wpList_load_row rfl 25 _ rfl w.heap.size rfl _ G _ _ (hf3.heap hh12 (by simp)) Tryz.underlying25 rfl hgs ?_)
    | (refine wpList_load_row rfl 25 _ rfl w.heap.size rfl _ G _ _ hh12 Tryz.underlying25 rfl hgs ?_)
    | (go_at_call 14; refine (HVd.out _ hf12).mono ?_; rintro e w3 ⟨rfl, hf3⟩; have hf13 := hf12.trans hf3 (by simp) (n := []) (by simp))
    | (go_at_call 17; refine (HCn.out _ hf13).mono ?_; rintro e w4 ⟨cv, rfl, hcv, hf4⟩; have hf14 := hf13.trans hf4 (by simp) (n := []) (by simp))
    | (go_at_call 16; refine (HCT.out _ _ hcv).mono ?_; rintro e w5 ⟨rfl, hf5⟩; have hf15 := hf14.trans hf5 (by simp) (n := []) (by simp))
    | (refine wpL_str rfl 9 45 _ rfl T rfl 5 Tryz.underlying9 Tryz.underlying45 Tryz.underlying5 HTM.out ?_; intro w6 b6 n6 c6 hb6 hf6; have hf16 := hf15.trans hf6 (by simp) (n := []) (by simp); have hh16 := hf6.heap (hf5.heap (hf4.heap (hf3.heap hh2.out (by simp)) (by simp)) (by simp)) (by simp); refine Hid.out ?_))
  refine Lib.hid ?_
  go_wp2_with (first
    | (go_at_call 15; refine (HOf.out _ _ hb6).mono ?_; rintro e w7 ⟨rfl, hf7⟩; have hf17 := hf16.trans hf7 (by simp) (n := []) (by simp); have hh17 := hf7.heap hh16 (by simp))
    | (refine wpL_build rfl _ _ rfl C _ rfl hcb ?_; refine wpL_storeArr rfl _ _ _ rfl w1.heap.size C Z rfl rfl _ hh17 hcs hZC hc1 ?_; intro w8 hh8 hf8 hs8))
  refine bodyPost_ret (v := .tuple #[.agg C, .bool true]) (results_k rfl _ _ w1.heap.size 30 C _ rfl hh8.out Tryz.underlying30 rfl hcs _ rfl) rfl ⟨rfl, ?_⟩
  exact hf17.trans hf8 (by simp) (by simp; have := hf1.size; omega)
set_option maxRecDepth 100000 in
theorem rkey_inv (g : GramG) (gv : Value) (k : Int) (w : World) (hg : gramAt w gv g) (hz : SizeG g) (vg : validB g = false) :
    Calls Tryz.prog 7 #[gv, .int .i64 k] w fun e w' => e = .returned (KP (zeroH, 0) false) ∧ Fr [] w w' := by
  have HVd := Lib.hid (fun wx (hf : Fr [] w wx) => rvalid_any g gv wx (hg.below hf) hz)
  obtain ⟨a1, c1, a2, c2, a3, c3, rfl, -, -, -⟩ := hg.parts
  rw [vg] at HVd
  have hgs := sizeG
  have hG3 : (#[.slice a1 g.names.length c1, .slice a2 g.terms.length c2, .slice a3 g.rules.length c3] : Array Value).size = 3 := rfl
  rw [← hG3] at hgs
  clear hG3 hg hz vg
  generalize (#[.slice a1 g.names.length c1, .slice a2 g.terms.length c2, .slice a3 g.rules.length c3] : Array Value) = G at *
  have hzb := built_key0
  have hzs := sizeK (h := zeroH) (k := 0) rfl
  have hz1 := keyC_one zeroH 0
  have hKP : KP (zeroH, 0) false = .tuple #[.agg (keyC zeroH 0), .bool false] := rfl
  rw [hKP]
  have hzz := zeroK
  generalize keyC zeroH 0 = Z at *
  clear hKP
  go_enter Tryz.func7, Tryz.ntmps7
  go_wp2_with (first
    | (refine wpL_boxArr rfl _ _ rfl G rfl ?_; intro w1 hh1 hf1 hs1; refine wpL_newArr rfl 30 rfl Z hzz ?_; intro w2 hh2 hf2 hs2; have hf12 := hf1.trans hf2 (by simp) (n := []) (by simp); have hh12 := hf2.heap hh1.out (by simp); refine Hid.out ?_))
  refine Lib.hid ?_
  go_wp2_with (first
    | (refine wpList_load_row rfl 25 _ rfl w.heap.size rfl _ G _ _ hh12 Tryz.underlying25 rfl hgs ?_)
    | (go_at_call 14; refine (HVd.out _ hf12).mono ?_; rintro e w3 ⟨rfl, hf3⟩; have hf13 := hf12.trans hf3 (by simp) (n := []) (by simp); have hh13 := hf3.heap hh2.out (by simp))
    | (refine wpL_build rfl _ _ rfl Z [] rfl hzb ?_; refine wpL_storeArr rfl _ _ _ rfl w1.heap.size Z Z rfl rfl _ hh13 hzs rfl hz1 ?_; intro w8 hh8 hf8 hs8))
  refine bodyPost_ret (v := .tuple #[.agg Z, .bool false]) (results_k rfl _ _ w1.heap.size 30 Z _ rfl hh8.out Tryz.underlying30 rfl hzs _ rfl) rfl ⟨rfl, ?_⟩
  exact hf13.trans hf8 (by simp) (by simp; have := hf1.size; omega)
set_option maxRecDepth 100000 in
theorem rkey_low (g : GramG) (gv : Value) (k : Int) (w : World) (hg : gramAt w gv g) (hz : SizeG g) (vg : validB g = true) (hk : k < 1) :
    Calls Tryz.prog 7 #[gv, .int .i64 k] w fun e w' => e = .returned (KP (zeroH, 0) false) ∧ Fr [] w w' := by
  have HVd := Lib.hid (fun wx (hf : Fr [] w wx) => rvalid_any g gv wx (hg.below hf) hz)
  obtain ⟨a1, c1, a2, c2, a3, c3, rfl, -, -, -⟩ := hg.parts
  rw [vg] at HVd
  have hgs := sizeG
  have hG3 : (#[.slice a1 g.names.length c1, .slice a2 g.terms.length c2, .slice a3 g.rules.length c3] : Array Value).size = 3 := rfl
  rw [← hG3] at hgs
  have hd1 : decide (k < 1) = true := decide_eq_true hk
  clear hG3 hg hz vg hk
  generalize (#[.slice a1 g.names.length c1, .slice a2 g.terms.length c2, .slice a3 g.rules.length c3] : Array Value) = G at *
  have hzb := built_key0
  have hzs := sizeK (h := zeroH) (k := 0) rfl
  have hz1 := keyC_one zeroH 0
  have hKP : KP (zeroH, 0) false = .tuple #[.agg (keyC zeroH 0), .bool false] := rfl
  rw [hKP]
  have hzz := zeroK
  generalize keyC zeroH 0 = Z at *
  clear hKP
  go_enter Tryz.func7, Tryz.ntmps7
  go_wp2_with (first
    | (refine wpL_boxArr rfl _ _ rfl G rfl ?_; intro w1 hh1 hf1 hs1; refine wpL_newArr rfl 30 rfl Z hzz ?_; intro w2 hh2 hf2 hs2; have hf12 := hf1.trans hf2 (by simp) (n := []) (by simp); have hh12 := hf2.heap hh1.out (by simp); refine Hid.out ?_))
  refine Lib.hid ?_
  go_wp2_with (first
    | (refine wpList_load_row rfl 25 _ rfl w.heap.size rfl _ G _ _ hh12 Tryz.underlying25 rfl hgs ?_)
    | (go_at_call 14; refine (HVd.out _ hf12).mono ?_; rintro e w3 ⟨rfl, hf3⟩; have hf13 := hf12.trans hf3 (by simp) (n := []) (by simp); have hh13 := hf3.heap hh2.out (by simp))
    | (refine wpL_build rfl _ _ rfl Z [] rfl hzb ?_; refine wpL_storeArr rfl _ _ _ rfl w1.heap.size Z Z rfl rfl _ hh13 hzs rfl hz1 ?_; intro w8 hh8 hf8 hs8))
  refine bodyPost_ret (v := .tuple #[.agg Z, .bool false]) (results_k rfl _ _ w1.heap.size 30 Z _ rfl hh8.out Tryz.underlying30 rfl hzs _ rfl) rfl ⟨rfl, ?_⟩
  exact hf13.trans hf8 (by simp) (by simp; have := hf1.size; omega)
set_option maxRecDepth 100000 in
theorem rkey_high (g : GramG) (gv : Value) (k : Int) (w : World) (hg : gramAt w gv g) (hz : SizeG g) (vg : validB g = true) (hk : 4 < k) :
    Calls Tryz.prog 7 #[gv, .int .i64 k] w fun e w' => e = .returned (KP (zeroH, 0) false) ∧ Fr [] w w' := by
  have HVd := Lib.hid (fun wx (hf : Fr [] w wx) => rvalid_any g gv wx (hg.below hf) hz)
  obtain ⟨a1, c1, a2, c2, a3, c3, rfl, -, -, -⟩ := hg.parts
  rw [vg] at HVd
  have hgs := sizeG
  have hG3 : (#[.slice a1 g.names.length c1, .slice a2 g.terms.length c2, .slice a3 g.rules.length c3] : Array Value).size = 3 := rfl
  rw [← hG3] at hgs
  have hd1 : decide (k < 1) = false := decide_eq_false (by omega)
  have hd2 : decide (4 < k) = true := decide_eq_true hk
  clear hG3 hg hz vg hk
  generalize (#[.slice a1 g.names.length c1, .slice a2 g.terms.length c2, .slice a3 g.rules.length c3] : Array Value) = G at *
  have hzb := built_key0
  have hzs := sizeK (h := zeroH) (k := 0) rfl
  have hz1 := keyC_one zeroH 0
  have hKP : KP (zeroH, 0) false = .tuple #[.agg (keyC zeroH 0), .bool false] := rfl
  rw [hKP]
  have hzz := zeroK
  generalize keyC zeroH 0 = Z at *
  clear hKP
  go_enter Tryz.func7, Tryz.ntmps7
  go_wp2_with (first
    | (refine wpL_boxArr rfl _ _ rfl G rfl ?_; intro w1 hh1 hf1 hs1; refine wpL_newArr rfl 30 rfl Z hzz ?_; intro w2 hh2 hf2 hs2; have hf12 := hf1.trans hf2 (by simp) (n := []) (by simp); have hh12 := hf2.heap hh1.out (by simp); refine Hid.out ?_))
  refine Lib.hid ?_
  go_wp2_with (first
    | (refine wpList_load_row rfl 25 _ rfl w.heap.size rfl _ G _ _ hh12 Tryz.underlying25 rfl hgs ?_)
    | (go_at_call 14; refine (HVd.out _ hf12).mono ?_; rintro e w3 ⟨rfl, hf3⟩; have hf13 := hf12.trans hf3 (by simp) (n := []) (by simp); have hh13 := hf3.heap hh2.out (by simp))
    | (refine wpL_build rfl _ _ rfl Z [] rfl hzb ?_; refine wpL_storeArr rfl _ _ _ rfl w1.heap.size Z Z rfl rfl _ hh13 hzs rfl hz1 ?_; intro w8 hh8 hf8 hs8))
  refine bodyPost_ret (v := .tuple #[.agg Z, .bool false]) (results_k rfl _ _ w1.heap.size 30 Z _ rfl hh8.out Tryz.underlying30 rfl hzs _ rfl) rfl ⟨rfl, ?_⟩
  exact hf13.trans hf8 (by simp) (by simp; have := hf1.size; omega)
/-- The document's Key. -/
theorem rkey_any (g : GramG) (gv : Value) (k : Int) (w : World) (hg : gramAt w gv g) (hz : SizeG g) (hf : fewB g ≠ 0) :
    Calls Tryz.prog 7 #[gv, .int .i64 k] w fun e w' => e = .returned (KP (kofD g k) (kofB g k)) ∧ Fr [] w w' := by
  cases vg : validB g with
  | false =>
    have hb : kofB g k = false := by unfold kofB; rw [vg]; rfl
    rw [kof_off hb, hb]
    exact rkey_inv g gv k w hg hz vg
  | true =>
    by_cases hk : 1 ≤ k ∧ k ≤ 4
    · rw [(kof_on vg hk).2, (kof_on vg hk).1]
      exact rkey_good g gv k w hg hz hf vg hk
    · have hb : kofB g k = false := by unfold kofB; rw [decide_eq_false hk]; simp
      rw [kof_off hb, hb]
      by_cases h1 : k < 1
      · exact rkey_low g gv k w hg hz vg h1
      · exact rkey_high g gv k w hg hz vg (by omega)
end Go.Proofs.YtjlkcdmeiakkbaaGreatDoor
