/- Stage 17, the program: Of. -/
import Derived.Test.YtjlkcdmeiakkbaaGreatDoorKyG
import Derived.Test.YtjlkcdmeiakkbaaGreatDoorKyJ
import Derived.Test.YtjlkcdmeiakkbaaGreatDoorCg
import Derived.Test.YtjlkcdmeiakkbaaGreatDoorGc
import Derived.Test.YtjlkcdmeiakkbaaGreatDoorSn
import Derived.Lib.ConvBytes
set_option linter.unusedVariables false
set_option linter.unusedSimpArgs false
namespace Go.Proofs.YtjlkcdmeiakkbaaGreatDoor
open Go.RowKit

/-- '[]byte(s)' of a string that is no constant: bytes of the call's own. -/
theorem wpL_str {P : Program} {w : World} {ops : Array Oper} {rest : List Oper} {o : Oper} {a : Act} {Q : Exit → Act → World → Prop} (hg : o.guard = none) (src dst : TypeId) (x : Operand) (ho : o.op = .convert src dst x) (s : List UInt8) (hx : a.eval x = .string ⟨s.toArray⟩)
    (e : TypeId) (hs : P.underlying src = some .string) (hd : P.underlying dst = some (.slice e)) (he : P.underlying e = some (.int .u8)) (hl : s.length ≤ maxLen)
    (hK : ∀ (w' : World) (b n cap : Nat), bytesAt w' (.slice (some ⟨b, 0, none⟩) n cap) s → Fr [] w w' → wpList P ops Q rest (a.put o.dst (.slice (some ⟨b, 0, none⟩) n cap)) w') : wpList P ops Q (o :: rest) a w := by
  refine wpList_plain hg fun K hK' => ?_
  have hz : (⟨s.toArray⟩ : ByteArray).size = s.length := by simp [ByteArray.size]
  have hr := Lib.run_convert_string_bytes (P := P) w src dst e ⟨s.toArray⟩ hs hd he
  unfold Oper.wp execOp
  simp only [ho, hx, Sem.run_bind, hr, Result.andThen_ok, Sem.run_pure]
  refine hK' _ _ (hK _ _ _ _ ?_ (Fr.of_below (Lib.bytesWorld_below _ _ _)))
  rw [hz]
  refine .inr ⟨w.heap.size, 0, _, rfl, grownCap_ge _ _ _ _, grownCap_le_maxLen _ _ _ _ hl, fun i hi => ?_⟩
  rw [Nat.zero_add, Lib.bytesWorld_cell w e _ i (by rw [hz]; exact hi)]
  simp [List.getD, hi]

theorem sizeG : (Tryz.prog.info? 25).map (·.size) = some 3 := by kernel_rfl
/-- The key of a grammar. -/
noncomputable def kofB (g : GramG) (k : Int) : Bool := validB g && decide (1 ≤ k ∧ k ≤ 4)
noncomputable def kofD (g : GramG) (k : Int) : List UInt8 × Int := if kofB g k = true then (hashN (textO g), k) else (zeroH, 0)
theorem kof_on {g : GramG} {k : Int} (vg : validB g = true) (hk : 1 ≤ k ∧ k ≤ 4) : kofB g k = true ∧ kofD g k = (hashN (textO g), k) := by
  have h : kofB g k = true := by unfold kofB; rw [vg, decide_eq_true hk]; rfl
  exact ⟨h, by unfold kofD; rw [if_pos h]⟩
theorem kof_off {g : GramG} {k : Int} (h : kofB g k = false) : kofD g k = (zeroH, 0) := by unfold kofD; rw [if_neg (by rw [h]; decide)]

set_option maxRecDepth 100000 in
theorem kof_good (g : GramG) (gv : Value) (k : Int) (w : World) (hg : gramAt w gv g) (hz : SizeG g) (hi : IntG g) (hr : rootsAt w) (vg : validB g = true) (hk : 1 ≤ k ∧ k ≤ 4) :
    Calls Tryz.prog 6 #[gv, .int .i64 k] w fun e w' => e = .returned (KP (hashN (textO g), k) true) ∧ Fr [] w w' := by
  have HVd := Lib.hid (fun wx (hf : Fr [] w wx) => pvalid_any g gv wx (hg.below hf) hz hi)
  have HTx := Lib.hid (fun wx (hf : Fr [] w wx) => pcantext_any g gv wx (hg.below hf) hz hi)
  have htl := textO_len g
  obtain ⟨a1, c1, a2, c2, a3, c3, rfl, -, -, -⟩ := hg.parts
  rw [vg] at HVd
  have hgs := sizeG
  have hG3 : (#[.slice a1 g.names.length c1, .slice a2 g.terms.length c2, .slice a3 g.rules.length c3] : Array Value).size = 3 := rfl
  rw [← hG3] at hgs
  clear hG3 hg hz hi vg
  unfold encStr at HTx
  generalize (#[.slice a1 g.names.length c1, .slice a2 g.terms.length c2, .slice a3 g.rules.length c3] : Array Value) = G at *
  generalize textO g = T at *
  have hHl := hashN_length T
  have HOf := Lib.hid (fun sv wx (hp : partsAt wx sv [T]) (hx : rootsAt wx) => of_any [T] sv wx hp hx (by simp; omega))
  simp only [List.flatten_cons, List.flatten_nil, List.append_nil] at HOf
  have hcb := built_key hHl k
  have hcs := sizeK (k := k) hHl
  have hc1 := keyC_one (hashN T) k
  have hZC : (keyC zeroH 0).size = (keyC (hashN T) k).size := by rw [keyC_size rfl, keyC_size hHl]
  have hKP : KP (hashN T, k) true = .tuple #[.agg (keyC (hashN T) k), .bool true] := rfl
  rw [hKP]
  generalize keyC (hashN T) k = C at *
  generalize (cellsB (hashN T)).toArray = D at *
  have hzz := zeroK
  generalize keyC zeroH 0 = Z at *
  have HR := Lib.hid hr
  have HK := Lib.hid hk
  have htm : T.length ≤ maxLen := by simp [maxLen]; omega
  have HTM := Lib.hid htm
  clear hKP hHl hr hk htl htm
  go_enter Tryz.func6, Tryz.ntmps6
  go_wp2_with (first
    | (refine wpL_boxArr rfl _ _ rfl G rfl ?_; intro w1 hh1 hf1 hs1; refine wpL_newArr rfl 30 rfl Z hzz ?_; intro w2 hh2 hf2 hs2; have hf12 := hf1.trans hf2 (by simp) (n := []) (by simp); have hh12 := hf2.heap hh1.out (by simp); refine Hid.out ?_))
  refine Lib.hid ?_
  go_wp2_with (first
    | (refine wpList_load_row rfl 25 _ rfl w.heap.size rfl _ G _ _ (hf3.heap hh12 (by simp)) Tryz.underlying25 rfl hgs ?_)
    | (refine wpList_load_row rfl 25 _ rfl w.heap.size rfl _ G _ _ hh12 Tryz.underlying25 rfl hgs ?_)
    | (go_at_call 10; refine (HVd.out _ hf12).mono ?_; rintro e w3 ⟨rfl, hf3⟩; have hf13 := hf12.trans hf3 (by simp) (n := []) (by simp))
    | (go_at_call 11; refine (inRange_yes _ _ HK.out).mono ?_; rintro e w3' ⟨rfl, rfl⟩)
    | (go_at_call 13; refine (HTx.out _ hf13).mono ?_; rintro e w4 ⟨rfl, hf4⟩; have hf14 := hf13.trans hf4 (by simp) (n := []) (by simp))
    | (refine wpL_str rfl 9 45 _ rfl T rfl 5 Tryz.underlying9 Tryz.underlying45 Tryz.underlying5 HTM.out ?_; intro w5 b5 n5 c5 hb5 hf5; have hf15 := hf14.trans hf5 (by simp) (n := []) (by simp); refine Hid.out ?_))
  refine Lib.hid ?_
  have HP1 := Lib.hid (partsAt_new1 w5 _ T 45 hb5)
  have hfn := Fr.alloc w5 (.cells #[.slice (some ⟨b5, 0, none⟩) n5 c5] 45)
  have hf16 := hf15.trans hfn (by simp) (n := []) (by simp)
  have hh16 := hfn.heap (hf5.heap (hf4.heap (hf3.heap hh2.out (by simp)) (by simp)) (by simp)) (by simp)
  go_wp2_with (first
    | (go_at_call 12; refine (HOf.out _ _ HP1.out (HR.out.below hf16)).mono ?_; rintro e w7 ⟨rfl, hf7⟩; have hf17 := hf16.trans hf7 (by simp) (n := []) (by simp); have hh17 := hf7.heap hh16 (by simp))
    | (refine wpL_build rfl _ _ rfl C _ rfl hcb ?_; refine wpL_storeArr rfl _ _ _ rfl w1.heap.size C Z rfl rfl _ hh17 hcs hZC hc1 ?_; intro w8 hh8 hf8 hs8))
  refine bodyPost_ret (v := .tuple #[.agg C, .bool true]) (results_k rfl _ _ w1.heap.size 30 C _ rfl hh8.out Tryz.underlying30 rfl hcs _ rfl) rfl ⟨rfl, ?_⟩
  exact hf17.trans hf8 (by simp) (by simp; have := hf1.size; omega)
set_option maxRecDepth 100000 in
theorem kof_inv (g : GramG) (gv : Value) (k : Int) (w : World) (hg : gramAt w gv g) (hz : SizeG g) (hi : IntG g) (vg : validB g = false) :
    Calls Tryz.prog 6 #[gv, .int .i64 k] w fun e w' => e = .returned (KP (zeroH, 0) false) ∧ Fr [] w w' := by
  have HVd := Lib.hid (fun wx (hf : Fr [] w wx) => pvalid_any g gv wx (hg.below hf) hz hi)
  obtain ⟨a1, c1, a2, c2, a3, c3, rfl, -, -, -⟩ := hg.parts
  rw [vg] at HVd
  have hgs := sizeG
  have hG3 : (#[.slice a1 g.names.length c1, .slice a2 g.terms.length c2, .slice a3 g.rules.length c3] : Array Value).size = 3 := rfl
  rw [← hG3] at hgs
  clear hG3 hg hz hi vg
  generalize (#[.slice a1 g.names.length c1, .slice a2 g.terms.length c2, .slice a3 g.rules.length c3] : Array Value) = G at *
  have hzb := built_key0
  have hzs := sizeK (h := zeroH) (k := 0) rfl
  have hz1 := keyC_one zeroH 0
  have hKP : KP (zeroH, 0) false = .tuple #[.agg (keyC zeroH 0), .bool false] := rfl
  rw [hKP]
  have hzz := zeroK
  generalize keyC zeroH 0 = Z at *
  clear hKP
  go_enter Tryz.func6, Tryz.ntmps6
  go_wp2_with (first
    | (refine wpL_boxArr rfl _ _ rfl G rfl ?_; intro w1 hh1 hf1 hs1; refine wpL_newArr rfl 30 rfl Z hzz ?_; intro w2 hh2 hf2 hs2; have hf12 := hf1.trans hf2 (by simp) (n := []) (by simp); have hh12 := hf2.heap hh1.out (by simp); refine Hid.out ?_))
  refine Lib.hid ?_
  go_wp2_with (first
    | (refine wpList_load_row rfl 25 _ rfl w.heap.size rfl _ G _ _ hh12 Tryz.underlying25 rfl hgs ?_)
    | (go_at_call 10; refine (HVd.out _ hf12).mono ?_; rintro e w3 ⟨rfl, hf3⟩; have hf13 := hf12.trans hf3 (by simp) (n := []) (by simp); have hh13 := hf3.heap hh2.out (by simp))
    | (refine wpL_build rfl _ _ rfl Z [] rfl hzb ?_; refine wpL_storeArr rfl _ _ _ rfl w1.heap.size Z Z rfl rfl _ hh13 hzs rfl hz1 ?_; intro w8 hh8 hf8 hs8))
  refine bodyPost_ret (v := .tuple #[.agg Z, .bool false]) (results_k rfl _ _ w1.heap.size 30 Z _ rfl hh8.out Tryz.underlying30 rfl hzs _ rfl) rfl ⟨rfl, ?_⟩
  exact hf13.trans hf8 (by simp) (by simp; have := hf1.size; omega)
set_option maxRecDepth 100000 in
theorem kof_out (g : GramG) (gv : Value) (k : Int) (w : World) (hg : gramAt w gv g) (hz : SizeG g) (hi : IntG g) (vg : validB g = true) (hk : ¬ (1 ≤ k ∧ k ≤ 4)) :
    Calls Tryz.prog 6 #[gv, .int .i64 k] w fun e w' => e = .returned (KP (zeroH, 0) false) ∧ Fr [] w w' := by
  have HVd := Lib.hid (fun wx (hf : Fr [] w wx) => pvalid_any g gv wx (hg.below hf) hz hi)
  obtain ⟨a1, c1, a2, c2, a3, c3, rfl, -, -, -⟩ := hg.parts
  rw [vg] at HVd
  have hgs := sizeG
  have hG3 : (#[.slice a1 g.names.length c1, .slice a2 g.terms.length c2, .slice a3 g.rules.length c3] : Array Value).size = 3 := rfl
  rw [← hG3] at hgs
  clear hG3 hg hz hi vg
  generalize (#[.slice a1 g.names.length c1, .slice a2 g.terms.length c2, .slice a3 g.rules.length c3] : Array Value) = G at *
  have hzb := built_key0
  have hzs := sizeK (h := zeroH) (k := 0) rfl
  have hz1 := keyC_one zeroH 0
  have hKP : KP (zeroH, 0) false = .tuple #[.agg (keyC zeroH 0), .bool false] := rfl
  rw [hKP]
  have hzz := zeroK
  generalize keyC zeroH 0 = Z at *
  have HK := Lib.hid hk
  clear hk
  clear hKP
  go_enter Tryz.func6, Tryz.ntmps6
  go_wp2_with (first
    | (refine wpL_boxArr rfl _ _ rfl G rfl ?_; intro w1 hh1 hf1 hs1; refine wpL_newArr rfl 30 rfl Z hzz ?_; intro w2 hh2 hf2 hs2; have hf12 := hf1.trans hf2 (by simp) (n := []) (by simp); have hh12 := hf2.heap hh1.out (by simp); refine Hid.out ?_))
  refine Lib.hid ?_
  go_wp2_with (first
    | (refine wpList_load_row rfl 25 _ rfl w.heap.size rfl _ G _ _ hh12 Tryz.underlying25 rfl hgs ?_)
    | (go_at_call 10; refine (HVd.out _ hf12).mono ?_; rintro e w3 ⟨rfl, hf3⟩; have hf13 := hf12.trans hf3 (by simp) (n := []) (by simp); have hh13 := hf3.heap hh2.out (by simp))
    | (go_at_call 11; refine (inRange_no _ _ HK.out).mono ?_; rintro e w3' ⟨rfl, rfl⟩)
    | (refine wpL_build rfl _ _ rfl Z [] rfl hzb ?_; refine wpL_storeArr rfl _ _ _ rfl w1.heap.size Z Z rfl rfl _ hh13 hzs rfl hz1 ?_; intro w8 hh8 hf8 hs8))
  refine bodyPost_ret (v := .tuple #[.agg Z, .bool false]) (results_k rfl _ _ w1.heap.size 30 Z _ rfl hh8.out Tryz.underlying30 rfl hzs _ rfl) rfl ⟨rfl, ?_⟩
  exact hf13.trans hf8 (by simp) (by simp; have := hf1.size; omega)
/-- Of: the key of a grammar, or the zero value. -/
theorem kof_any (g : GramG) (gv : Value) (k : Int) (w : World) (hg : gramAt w gv g) (hz : SizeG g) (hi : IntG g) (hr : rootsAt w) :
    Calls Tryz.prog 6 #[gv, .int .i64 k] w fun e w' => e = .returned (KP (kofD g k) (kofB g k)) ∧ Fr [] w w' := by
  cases vg : validB g with
  | false =>
    have hb : kofB g k = false := by unfold kofB; rw [vg]; rfl
    rw [kof_off hb, hb]
    exact kof_inv g gv k w hg hz hi vg
  | true =>
    by_cases hk : 1 ≤ k ∧ k ≤ 4
    · rw [(kof_on vg hk).2, (kof_on vg hk).1]
      exact kof_good g gv k w hg hz hi hr vg hk
    · have hb : kofB g k = false := by unfold kofB; rw [decide_eq_false hk]; simp
      rw [kof_off hb, hb]
      exact kof_out g gv k w hg hz hi vg hk
end Go.Proofs.YtjlkcdmeiakkbaaGreatDoor
