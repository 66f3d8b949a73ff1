/- Stage 17: KeyOf: the key of any grammar. (Made by gen_kyt.py.) -/
import Derived.Test.YtjlkcdmeiakkbaaGreatDoorKyT
import Derived.Test.YtjlkcdmeiakkbaaGreatDoorKyM
import Derived.Test.YtjlkcdmeiakkbaaGreatDoorGr
import Derived.Test.YtjlkcdmeiakkbaaGreatDoorMm
set_option linter.unusedVariables false
set_option linter.unusedSimpArgs false
namespace Go.Proofs.YtjlkcdmeiakkbaaGreatDoor
open Go.RowKit

theorem kofD_length (g : GramG) (k : Int) : (kofD g k).1.length = 32 := by
  unfold kofD
  split
  · exact hashN_length _
  · rfl
set_option maxRecDepth 100000 in
theorem keyOf_many (g : GramG) (gv : Value) (k : Int) (w : World) (hg : gramAt w gv g) (gn : ∀ n ∈ g.names, n.length ≤ maxLen) (gt : ∀ n ∈ g.terms, n.length ≤ maxLen) (hv : VarsAt w) (hf : fewB g = 0) :
    Calls Tryz.prog 3 #[gv, .int .i64 k] w fun e w' => e = .returned (.bool true) ∧ Fr [] w w' := by
  have HFw := Lib.hid (fun wx (hf : Fr [] w wx) => rfew_any g gv wx (hg.below hf) gn gt)
  obtain ⟨a1, c1, a2, c2, a3, c3, rfl, -, -, -⟩ := hg.parts
  rw [hf] at HFw
  have hgs := sizeG
  have hG3 : (#[.slice a1 g.names.length c1, .slice a2 g.terms.length c2, .slice a3 g.rules.length c3] : Array Value).size = 3 := rfl
  rw [← hG3] at hgs
  have HV := Lib.hid hv
  clear hG3 hg gn gt hf hv
  generalize (#[.slice a1 g.names.length c1, .slice a2 g.terms.length c2, .slice a3 g.rules.length c3] : Array Value) = G at *
  go_enter Tryz.func3, Tryz.ntmps3
  go_wp2_with (first
    | (refine wpL_boxArr rfl _ _ rfl G rfl ?_; intro w1 hh1 hf1 hs1)
    | (refine wpList_load_row rfl 25 _ rfl w.heap.size rfl _ G _ _ hh1.out Tryz.underlying25 rfl hgs ?_)
    | (go_at_call 4; refine (HFw.out _ hf1).mono ?_; rintro e w2 ⟨rfl, hf2⟩; have hf12 := hf1.trans hf2 (by simp) (n := []) (by simp))
    | (go_at_call 5; refine (awake_any _ (HV.out.below hf12)).mono ?_; rintro e w3 ⟨rfl, hf3⟩))
  go_ret
  exact ⟨rfl, hf12.trans hf3 (by simp) (by simp)⟩
set_option maxRecDepth 100000 in
theorem keyOf_few (g : GramG) (gv : Value) (k : Int) (w : World) (hg : gramAt w gv g) (ig : IntG g) (gn : ∀ n ∈ g.names, n.length ≤ maxLen) (gt : ∀ n ∈ g.terms, n.length ≤ maxLen) (hv : VarsAt w) (hr : rootsAt w) (hf : fewB g = 1) :
    Calls Tryz.prog 3 #[gv, .int .i64 k] w fun e w' => e = .returned (.bool true) ∧ Fr [] w w' := by
  have HFw := Lib.hid (fun wx (hf : Fr [] w wx) => rfew_any g gv wx (hg.below hf) gn gt)
  have hz := few_size (g := g) (by rw [hf]; decide)
  have HKo := Lib.hid (fun wx (hx : Fr [] w wx) => kof_any g gv k wx (hg.below hx) hz ig (hr.below hx))
  have HRk := Lib.hid (fun wx (hx : Fr [] w wx) => rkey_any g gv k wx (hg.below hx) hz (by rw [hf]; decide))
  have hdl := kofD_length g k
  obtain ⟨a1, c1, a2, c2, a3, c3, rfl, -, -, -⟩ := hg.parts
  rw [hf] at HFw
  have hgs := sizeG
  have hG3 : (#[.slice a1 g.names.length c1, .slice a2 g.terms.length c2, .slice a3 g.rules.length c3] : Array Value).size = 3 := rfl
  rw [← hG3] at hgs
  have HV := Lib.hid hv
  clear hG3 hg gn gt hf hv hr ig hz
  generalize (#[.slice a1 g.names.length c1, .slice a2 g.terms.length c2, .slice a3 g.rules.length c3] : Array Value) = G at *
  generalize kofD g k = d at *
  generalize kofB g k = b at *
  have hKP : KP d b = .tuple #[.agg (keyC d.1 d.2), .bool b] := rfl
  rw [hKP] at HKo HRk
  have heq := equal_keys d.1 d.1 d.2 d.2 hdl hdl
  rw [decide_eq_true ⟨rfl, rfl⟩] at heq
  have hcs := sizeK (k := d.2) hdl
  have hc1 := keyC_one d.1 d.2
  have hZC : (keyC zeroH 0).size = (keyC d.1 d.2).size := by rw [keyC_size rfl, keyC_size hdl]
  have hzz := zeroK
  clear hKP hdl
  generalize keyC d.1 d.2 = C at *
  generalize keyC zeroH 0 = Z at *
  have hbb : (b == b) = true := by cases b <;> rfl
  go_enter Tryz.func3, Tryz.ntmps3
  go_wp2_with (first
    | (refine wpL_boxArr rfl _ _ rfl G rfl ?_; intro w1 hh1 hf1 hs1; refine Hid.out ?_))
  refine Lib.hid ?_
  go_wp2_with (first
    | (refine wpList_load_row rfl 25 _ rfl w.heap.size rfl _ G _ _ (hf2.heap hh1.out (by simp)) Tryz.underlying25 rfl hgs ?_)
    | (refine wpList_load_row rfl 25 _ rfl w.heap.size rfl _ G _ _ hh1.out Tryz.underlying25 rfl hgs ?_)
    | (go_at_call 4; refine (HFw.out _ hf1).mono ?_; rintro e w2 ⟨rfl, hf2⟩; have hf12 := hf1.trans hf2 (by simp) (n := []) (by simp))
    | (go_at_call 6; refine (HKo.out _ hf12).mono ?_; rintro e w3 ⟨rfl, hf3⟩; have hf13 := hf12.trans hf3 (by simp) (n := []) (by simp); have hh13 := hf3.heap (hf2.heap hh1.out (by simp)) (by simp); have hlt := lt_k hh13; refine Hid.out ?_))
  refine Lib.hid ?_
  go_wp2_with (first
    | (refine wpL_newArr rfl 30 rfl Z hzz ?_; intro w4 hh4 hf4 hs4; refine wpL_storeArr rfl _ _ _ rfl w3.heap.size C Z rfl rfl _ hh4.out hcs hZC hc1 ?_; intro w5 hh5 hf5 hs5; have hf15 : Fr [] w w5 := (hf13.trans hf4 (by simp) (n := []) (by simp)).trans hf5 (by simp) (by simp; have := hf13.size; omega); have hh15 := hf5.heap (hf4.heap hh13 (by simp)) (by simp; omega))
    | (refine wpList_load_row rfl 25 _ rfl w.heap.size rfl _ G _ _ hh15 Tryz.underlying25 rfl hgs ?_)
    | (go_at_call 7; refine (HRk.out _ hf15).mono ?_; rintro e w6 ⟨rfl, hf6⟩; have hf16 := hf15.trans hf6 (by simp) (n := []) (by simp); have hh56 := hf6.heap hh5.out (by simp); have hlt6 := lt_k hh56; refine Hid.out ?_))
  refine Lib.hid ?_
  go_wp2_with (first
    | (refine wpL_newArr rfl 30 rfl Z hzz ?_; intro w7 hh7 hf7 hs7; refine wpL_storeArr rfl _ _ _ rfl w6.heap.size C Z rfl rfl _ hh7.out hcs hZC hc1 ?_; intro w8 hh8 hf8 hs8; have hf18 : Fr [] w w8 := (hf16.trans hf7 (by simp) (n := []) (by simp)).trans hf8 (by simp) (by simp; have := hf16.size; omega); have hh38 := hf8.heap (hf7.heap hh56 (by simp)) (by simp; omega))
    | (refine wpL_loadW rfl _ _ rfl w3.heap.size rfl _ C _ _ hh38 Tryz.underlying30 rfl hcs ?_)
    | (refine wpL_loadW rfl _ _ rfl w6.heap.size rfl _ C _ _ hh8.out Tryz.underlying30 rfl hcs ?_)
    | (go_at_call 5; refine (awake_any _ (HV.out.below hf18)).mono ?_; rintro e w9 ⟨rfl, hf9⟩))
  go_ret
  exact ⟨rfl, hf18.trans hf9 (by simp) (by simp)⟩
theorem keyOf_any (g : GramG) (gv : Value) (k : Int) (w : World) (hg : gramAt w gv g) (ig : IntG g) (gn : ∀ n ∈ g.names, n.length ≤ maxLen) (gt : ∀ n ∈ g.terms, n.length ≤ maxLen) (hv : VarsAt w) (hr : rootsAt w) :
    Calls Tryz.prog 3 #[gv, .int .i64 k] w fun e w' => e = .returned (.bool true) ∧ Fr [] w w' := by
  rcases few_two g with hf | hf
  · exact keyOf_many g gv k w hg gn gt hv hf
  · exact keyOf_few g gv k w hg ig gn gt hv hr hf
end Go.Proofs.YtjlkcdmeiakkbaaGreatDoor
