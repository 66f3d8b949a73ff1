/- ShaParts: the roots, the beginning, what is filled in, a block. -/
import Derived.Test.YtjiighgabfkmpaaDoorShaHashes
import Derived.Test.YtjiighgabfkmpaaDoorShaW
namespace Go.Proofs.YtjiighgabfkmpaaDoor
open Go.RowKit

theorem wpL_val_want {P : Program} {w : World} {ops : Array Oper} {rest : List Oper} {o : Oper} {a : Act} {Q : Exit → Act → World → Prop} (hw : Region.wanted o (yielded ops a.tmps) = true) (v : Value) (he : (execOp a.eval o).run P w = .ok (.value v) w)
    (h : wpList P ops Q rest (a.put o.dst v) w) : wpList P ops Q (o :: rest) a w := by
  refine BigFrame.wpList_want hw fun K hK => ?_
  unfold Oper.wp
  rw [he]
  exact hK _ _ h

/-- A state that a call is handed. -/
theorem st_of_trod {H : Type} {enc : TypeId × Value → H} {W : World} {base : Nat} {v : Value} {d : DataW H} {ps : List MemPlace} (hv : Value.okWide Tryd.prog W .any base 29 v)
    (h : DataW.Trod enc Tryd.prog W 0 (fun _ => true) true 29 v d ps) : ∃ st : St, v = .agg (stC st) ∧ st.ok := by
  simp only [Value.okWide, Tryd.underlying29] at hv
  obtain ⟨cs, rfl, hsz, -⟩ := hv
  have hs8 : cs.size = 8 := hsz.trans (by kernel_rfl)
  obtain ⟨fuel, hf⟩ := h
  obtain ⟨xs, m, rfl, hx, hlen, hn, hel⟩ := DataW.trod_array Tryd.underlying29 hf
  have hc : Tryd.prog.cellsOf 28 = 1 := by kernel_rfl
  have key : ∀ i, i < 8 → ∃ n : Nat, cs[i]? = some (.int .u32 (n : Int)) ∧ n < 4294967296 := fun i hi => by
    have h1 := hel i hi
    rw [hc, List.getElem?_eq_getElem (by omega)] at h1
    obtain ⟨n, e1, -, hw⟩ := DataW.trod_int Tryd.underlying28 h1
    have hb := bounds_u32 hw
    obtain ⟨k, rfl⟩ := Int.eq_ofNat_of_zero_le hb.1
    refine ⟨k, ?_, by omega⟩
    have h4 : ((Value.agg cs).cells.toList.drop (i * 1))[0]? = some (.int .u32 (k : Int)) := by
      have : (((Value.agg cs).cells.toList.drop (i * 1)).take 1)[0]? = some (.int .u32 (k : Int)) := by rw [e1]; rfl
      rwa [List.getElem?_take, if_pos (by decide)] at this
    rw [List.getElem?_drop] at h4
    simpa [Value.cells] using h4
  obtain ⟨a, ha, la⟩ := key 0 (by decide)
  obtain ⟨b, hb, lb⟩ := key 1 (by decide)
  obtain ⟨c, hcc, lc⟩ := key 2 (by decide)
  obtain ⟨d', hd, ld⟩ := key 3 (by decide)
  obtain ⟨e, he, le⟩ := key 4 (by decide)
  obtain ⟨f, hff, lf⟩ := key 5 (by decide)
  obtain ⟨g, hg, lg⟩ := key 6 (by decide)
  obtain ⟨h8, hh, lh⟩ := key 7 (by decide)
  refine ⟨⟨a, b, c, d', e, f, g, h8⟩, congrArg Value.agg (Array.ext (by rw [hs8]; rfl) fun i h1 h2 => ?_), ⟨la, lb, lc, ld, le, lf, lg, lh⟩⟩
  have h3 : i < 8 := by omega
  apply Option.some.inj
  rw [← Array.getElem?_eq_getElem h1, ← Array.getElem?_eq_getElem h2]
  match i, h3 with
  | 0, _ => exact ha
  | 1, _ => exact hb
  | 2, _ => exact hcc
  | 3, _ => exact hd
  | 4, _ => exact he
  | 5, _ => exact hff
  | 6, _ => exact hg
  | 7, _ => exact hh

set_option maxRecDepth 100000 in
theorem parts_in_mid_64 (i : Nat) (n : Nat) (st : St) (bs : List UInt8) (v0 : Value) (w : World) (h0 : bytesAt w v0 bs) (hr : rootsAt w) (hok : st.ok) (hi : i < 64) (hn : n ≤ 1000) (hb : bs.length = 64) :
    Calls Tryd.prog 4 #[.int .i64 i, .agg (stC st), v0, .int .i64 n] w fun e w' => e = .returned (.bool true) ∧ Fr [] w w' := by
  obtain ⟨a0, c0, rfl, hle, hmx⟩ := h0.form
  have HB := Lib.hid h0
  have HR := Lib.hid hr
  have HBEG := Lib.hid (fun W => begin_any W)
  have HRBEG := Lib.hid (fun W => ref_beginE_any W)
  have eqB := fun wx => equal_st wx beginSt
  have HSB := Lib.hid (sizeN8 beginSt)
  have HOB := Lib.hid (stC_one beginSt)
  have HZB := Lib.hid (show (stC zeroSt).size = (stC beginSt).size by simp only [stC_size])
  have HIZ := Lib.hid infoN8
  have HSS := Lib.hid (sizeN8 st)
  have HBLK := Lib.hid (fun W (hW : Fr [] w W) => block_ok st bs _ W hok (h0.below hW) hb (hr.below hW))
  have HRBLK := Lib.hid (fun W (hW : Fr [] w W) => ref_block_any st bs _ W hok (h0.below hW) hb)
  have eqE := fun wx => equal_st wx (blockSt st bs)
  have HSE := Lib.hid (sizeN8 (blockSt st bs))
  have HOE := Lib.hid (stC_one (blockSt st bs))
  have HZE := Lib.hid (show (stC zeroSt).size = (stC (blockSt st bs)).size by simp only [stC_size])
  have HAW := Lib.hid (fun W (hW : Fr [] w W) => awake_any W (hr.below hW))
  obtain ⟨E, hE⟩ : ∃ E, E = stC (blockSt st bs) := ⟨_, rfl⟩
  rw [← hE] at HBLK HRBLK eqE HSE HOE HZE
  obtain ⟨Z, hZ⟩ : ∃ Z, Z = stC zeroSt := ⟨_, rfl⟩
  rw [← hZ] at HZB HIZ HZE
  obtain ⟨G, hG⟩ : ∃ G, G = stC beginSt := ⟨_, rfl⟩
  rw [← hG] at HBEG HRBEG eqB HSB HOB HZB
  obtain ⟨Q, hQ⟩ : ∃ Q, Q = stC st := ⟨_, rfl⟩
  rw [← hQ] at HSS HBLK HRBLK ⊢
  have HZ := Lib.hid hZ
  have HROOT := Lib.hid (fun W (hW : Fr [] w W) => root_in i W hi (hr.below hW))
  have HRROOT := Lib.hid (fun W => ref_rootE_any i W hi)
  obtain ⟨K, hK⟩ : ∃ K, K = kk[i]'(by rw [kk_length]; exact hi) := ⟨_, rfl⟩
  rw [← hK] at HROOT HRROOT
  have hd1 : decide ((0 : Int) ≤ (i : Int)) = true := decide_eq_true (by omega)
  have hd2 : decide ((i : Int) ≤ 63) = true := decide_eq_true (by omega)
  clear hK
  have HFILL := Lib.hid (fun W => fill_any n W (by omega))
  have HRFILL := Lib.hid (fun W => ref_fill_any n W (by omega))
  have HFLE := Lib.hid (show (fillN n).length ≤ maxLen by have := fill_le n; simp only [maxLen]; omega)
  have HFL := Lib.hid (fillN_length n)
  obtain ⟨z, hz⟩ : ∃ z, z = zerosN n + 9 := ⟨_, rfl⟩
  obtain ⟨L, hL⟩ : ∃ L, L = fillN n := ⟨_, rfl⟩
  simp only [← hz, ← hL] at HFILL
  rw [← hz, ← hL] at HFL
  simp only [← hL] at HRFILL HFLE
  clear hz hL
  have hd3 : decide ((n : Int) ≤ 1000) = true := decide_eq_true (by omega)
  have hd4 : decide ((n : Int) < 0) = false := decide_eq_false (by omega)
  have hd5 : decide ((0 : Int) ≤ (n : Int)) = true := decide_eq_true (by omega)
  have hd6 : ((bs.length : Int) != 64) = false := by rw [bne_eq_false_iff_eq]; omega
  have HLE := Lib.hid hle
  have HMX := Lib.hid hmx
  clear h0 hr hok hi hn hb hle hmx hZ hG hQ hE
  go_enter Tryd.func4, Tryd.ntmps4
  go_wp2_with (first
    | (refine wpL_boxArr rfl 29 _ rfl Q rfl ?_; intro w1 hh1 hf1 hs1; have HG1 := Lib.hid hh1.out; have hsz1 := hs1.out; clear hh1)
    | (go_at_call 9; refine (HRROOT.out w1).mono ?_; rintro e w2 ⟨rfl, hf2⟩)
    | (go_at_call 10; refine (HBEG.out _).mono ?_; rintro e w3 ⟨rfl, hf3⟩)
    | (refine wpL_newArr rfl 29 rfl Z HIZ.out ?_; intro w4 hh4 hf4 hs4; refine wpL_storeArr rfl 29 (.tmp 10) (.tmp 22) rfl w3.heap.size G Z rfl rfl 29 hh4.out HSB.out HZB.out HOB.out ?_; intro w5 hh5 hf5 hs5))
  have hf03 : Fr [] w w3 := (hf1.trans hf2 (by simp) (n := []) (by simp)).trans hf3 (by simp) (by simp)
  have hf13 : Fr [] w1 w3 := hf2.trans hf3 (by simp) (by simp)
  have hf35 : Fr [] w3 w5 := hf4.trans hf5 (by simp) (by simp)
  have hf05 : Fr [] w w5 := hf03.trans hf35 (by simp) (by simp)
  have hf15 : Fr [] w1 w5 := hf13.trans hf35 (by simp) (by simp)
  have HQ5 := Lib.hid (hf15.heap HG1.out (by simp))
  obtain ⟨g5, hg5⟩ : ∃ g, g = w.heap.size := ⟨_, rfl⟩
  rw [← hg5] at HQ5 ⊢
  obtain ⟨g, hg⟩ : ∃ g, g = w3.heap.size := ⟨_, rfl⟩
  have hhg := hh5.out
  rw [← hg] at hhg ⊢
  have HG := Lib.hid hhg
  clear hg hhg hh4 hh5 hf1 hf3 hf4 hf5 hf13 hf35 hf15 HG1 hs1 hs4 hs5 hsz1 hg5 hf2
  refine wp_region_G [] [(0, false), (2, false), (1, true), (3, false), (4, false), (5, false), (6, true), (7, false), (8, false)] 85 rfl (by kernel_rfl) (by kernel_rfl) (by kernel_rfl) (fun c a d v w h => by cases d <;> exact h) (fun w6 hf6 => ?_)
  simp only [List.map_cons, List.map_nil, List.getElem?_toArray, List.getElem?_cons_succ, List.getElem?_cons_zero, Option.getD_some]
  have hf06 : Fr [] w w6 := hf05.trans hf6 (by simp) (by simp)
  repeat (apply wpG_t; · (intro w' hf'; go_wp2_with fail; exact ⟨rfl, rfl⟩))
  refine wpG_x ?_
  go_wp2_with (go_at_call 11; refine (HROOT.out _ hf06).mono ?_; rintro e w6b ⟨rfl, rfl⟩)
  refine ⟨Fr.refl _ _, rfl, ?_⟩
  have LG : Hid (Later [] w6 (fun w' => w'.heap[g]? = some (.cells G 29 (0, 0)))) := Lib.hid (fun w' hf' => hf'.heap (hf6.heap HG.out (by simp)) (by simp))
  repeat (apply wpG_t; · (intro w' hf'; first
    | (refine wpL_load_want rfl 29 _ rfl g rfl 29 G (0, 0) _ (LG.out w' hf') Tryd.underlying29 rfl HSB.out ?_; exact ⟨rfl, rfl⟩)
    | (go_wp2_with fail; exact ⟨rfl, rfl⟩)))
  refine wpG_x ?_
  go_wp2_with (go_at_call 12; refine (HRBEG.out _).mono ?_; rintro e w7 ⟨rfl, hf7⟩)
  refine ⟨hf7, rfl, ?_⟩
  repeat (apply wpG_t; · (intro w' hf'; go_wp2_with fail; exact ⟨rfl, rfl⟩))
  refine wpG_end ?_
  have hf07 : Fr [] w w7 := hf06.trans hf7 (by simp) (by simp)
  have HQ7 := Lib.hid (hf7.heap (hf6.heap HQ5.out (by simp)) (by simp))
  clear LG HG HQ5 hf05 hf06 hf6 hf7
  go_wp2_with (go_at_call 13; refine (HFILL.out _).mono ?_; rintro e w8 ⟨rfl, hh8, hf8⟩)
  have hb8 : bytesAt w8 (.slice (some ⟨w7.heap.size, 0, none⟩) z z) L := bytesAt_of_heap hh8 HFLE.out _ HFL.out.symm
  refine wp_region_G [] [(0, false), (1, false), (2, false), (3, false), (4, false), (5, false), (6, false), (7, false), (8, false), (9, false), (10, false), (11, false), (12, false), (13, false), (14, true), (15, false), (16, false), (17, false), (18, false)] 85 rfl (by kernel_rfl) (by kernel_rfl) (by kernel_rfl) (fun c a d v w h => by cases d <;> exact h) (fun w9 hf9 => ?_)
  simp only [List.map_cons, List.map_nil, List.getElem?_toArray, List.getElem?_cons_succ, List.getElem?_cons_zero, Option.getD_some]
  have hf09 : Fr [] w w9 := (hf07.trans hf8 (by simp) (n := []) (by simp)).trans hf9 (by simp) (by simp)
  have HQ9 := Lib.hid (hf9.heap (hf8.heap HQ7.out (by simp)) (by simp))
  have hC : Later [] w9 _ := Later.conv (P := Tryd.prog) (hb8.below hf9) (by simp) 22 5 9 Tryd.underlying22 Tryd.underlying5 Tryd.underlying9
  have HC := Lib.hid hC
  clear hC hb8 hh8
  repeat (apply wpG_t; · (intro w' hf'; have hc := HC.out w' hf'; go_wp2_with fail; exact ⟨rfl, rfl⟩))
  refine wpG_x ?_
  go_wp2_with (go_at_call 14; refine (HRFILL.out _).mono ?_; rintro e w10 ⟨vf, rfl, hbf, hf10⟩)
  refine ⟨hf10, rfl, ?_⟩
  have hD : Later [] w10 _ := Later.conv (P := Tryd.prog) hbf (by simp) 22 5 9 Tryd.underlying22 Tryd.underlying5 Tryd.underlying9
  have HD := Lib.hid hD
  clear hD
  repeat (apply wpG_t; · (intro w' hf'; have hc := HD.out w' hf'; go_wp2_with fail; exact ⟨rfl, rfl⟩))
  refine wpG_end ?_
  have hf010 : Fr [] w w10 := hf09.trans hf10 (by simp) (by simp)
  have HQ10 := Lib.hid (hf10.heap HQ9.out (by simp))
  clear HC HD HQ9 HQ7 hf09 hf07 hf8 hf9 hf10
  have hfX := hf010
  go_wp2_with (first
    | (refine wpList_load_row rfl 29 _ rfl g5 rfl 29 Q (0, 0) _ HQ10.out Tryd.underlying29 rfl HSS.out ?_; have hmark := 0)
    | (go_at_call 15; refine (HBLK.out _ hfX).mono ?_; rintro e w11 ⟨rfl, hf11⟩)
    | (refine wpL_newArr rfl 29 rfl Z HIZ.out ?_; intro w12 hh12 hf12 hs12; refine wpL_storeArr rfl 29 (.tmp 12) (.tmp 59) rfl w11.heap.size E Z rfl rfl 29 hh12.out HSE.out HZE.out HOE.out ?_; intro w13 hh13 hf13 hs13; have HE13 := Lib.hid hh13.out; have hf013 : Fr [] w w13 := ((hfX.trans hf11 (by simp) (n := []) (by simp)).trans hf12 (by simp) (n := []) (by simp)).trans hf13 (by simp) (by simp; have := hfX.size; have := hf11.size; omega)))
  have HQ13 := Lib.hid (hf13.heap (hf12.heap (hf11.heap HQ10.out (by simp)) (by simp)) (by simp; have h1 := (Array.getElem?_eq_some_iff.1 HQ10.out).1; have h2 := hf11.size; omega))
  obtain ⟨ge, hge⟩ : ∃ g, g = w11.heap.size := ⟨_, rfl⟩
  rw [← hge] at HE13 ⊢
  refine wp_region_G [] [(0, false), (1, false), (2, false), (3, false), (4, false), (5, true), (6, false), (7, false), (8, false), (9, true), (10, false), (11, false)] 85 rfl (by kernel_rfl) (by kernel_rfl) (by kernel_rfl) (fun c a d v w h => by cases d <;> exact h) (fun w14 hf14 => ?_)
  simp only [List.map_cons, List.map_nil, List.getElem?_toArray, List.getElem?_cons_succ, List.getElem?_cons_zero, Option.getD_some]
  have hf014 : Fr [] w w14 := hf013.trans hf14 (by simp) (by simp)
  have LE : Hid (Later [] w14 (fun w' => w'.heap[ge]? = some (.cells E 29 (0, 0)))) := Lib.hid (fun w' hf' => hf'.heap (hf14.heap HE13.out (by simp)) (by simp))
  have LQ : Hid (Later [] w14 (fun w' => w'.heap[g5]? = some (.cells Q 29 (0, 0)))) := Lib.hid (fun w' hf' => hf'.heap (hf14.heap HQ13.out (by simp)) (by simp))
  repeat (apply wpG_t; · (intro w' hf'; first
    | (refine wpL_load_want rfl 29 _ rfl ge rfl 29 E (0, 0) _ (LE.out w' hf') Tryd.underlying29 rfl HSE.out ?_; exact ⟨rfl, rfl⟩)
    | (refine wpL_load_want rfl 29 _ rfl g5 rfl 29 Q (0, 0) _ (LQ.out w' hf') Tryd.underlying29 rfl HSS.out ?_; exact ⟨rfl, rfl⟩)
    | (go_wp2_with fail; exact ⟨rfl, rfl⟩)))
  refine wpG_x ?_
  go_wp2_with (go_at_call 16; refine (HRBLK.out _ hf014).mono ?_; rintro e w15 ⟨rfl, hf15⟩)
  refine ⟨hf15, rfl, ?_⟩
  repeat (apply wpG_t; · (intro w' hf'; go_wp2_with fail; exact ⟨rfl, rfl⟩))
  refine wpG_x ?_
  have hf015 : Fr [] w w15 := hf014.trans hf15 (by simp) (by simp)
  go_wp2_with (go_at_call 6; refine (HAW.out _ hf015).mono ?_; rintro e w16 ⟨rfl, hf16⟩)
  refine ⟨hf16, rfl, ?_⟩
  repeat (apply wpG_t; · (intro w' hf'; go_wp2_with fail; exact ⟨rfl, rfl⟩))
  refine wpG_end ?_
  go_wp2_with fail
  go_ret
  exact ⟨rfl, hf015.trans hf16 (by simp) (by simp)⟩
set_option maxRecDepth 100000 in
theorem parts_in_mid_no (i : Nat) (n : Nat) (st : St) (bs : List UInt8) (v0 : Value) (w : World) (h0 : bytesAt w v0 bs) (hr : rootsAt w) (hok : st.ok) (hi : i < 64) (hn : n ≤ 1000) (hb : bs.length ≠ 64) :
    Calls Tryd.prog 4 #[.int .i64 i, .agg (stC st), v0, .int .i64 n] w fun e w' => e = .returned (.bool true) ∧ Fr [] w w' := by
  obtain ⟨a0, c0, rfl, hle, hmx⟩ := h0.form
  have HB := Lib.hid h0
  have HR := Lib.hid hr
  have HBEG := Lib.hid (fun W => begin_any W)
  have HRBEG := Lib.hid (fun W => ref_beginE_any W)
  have eqB := fun wx => equal_st wx beginSt
  have HSB := Lib.hid (sizeN8 beginSt)
  have HOB := Lib.hid (stC_one beginSt)
  have HZB := Lib.hid (show (stC zeroSt).size = (stC beginSt).size by simp only [stC_size])
  have HIZ := Lib.hid infoN8
  have HSS := Lib.hid (sizeN8 st)
  have HBLK := Lib.hid (fun W (hW : Fr [] w W) => block_bad st bs _ W (h0.below hW) hb)
  have eqE := fun wx => equal_st wx zeroSt
  have HSE := Lib.hid (sizeN8 (zeroSt))
  have HOE := Lib.hid (stC_one (zeroSt))
  have HZE := Lib.hid (show (stC zeroSt).size = (stC (zeroSt)).size by simp only [stC_size])
  have HAW := Lib.hid (fun W (hW : Fr [] w W) => awake_any W (hr.below hW))
  obtain ⟨Z, hZ⟩ : ∃ Z, Z = stC zeroSt := ⟨_, rfl⟩
  rw [← hZ] at HZB HIZ HZE
  rw [← hZ] at HBLK eqE HSE HOE
  obtain ⟨G, hG⟩ : ∃ G, G = stC beginSt := ⟨_, rfl⟩
  rw [← hG] at HBEG HRBEG eqB HSB HOB HZB
  obtain ⟨Q, hQ⟩ : ∃ Q, Q = stC st := ⟨_, rfl⟩
  rw [← hQ] at HSS HBLK ⊢
  have HZ := Lib.hid hZ
  have HROOT := Lib.hid (fun W (hW : Fr [] w W) => root_in i W hi (hr.below hW))
  have HRROOT := Lib.hid (fun W => ref_rootE_any i W hi)
  obtain ⟨K, hK⟩ : ∃ K, K = kk[i]'(by rw [kk_length]; exact hi) := ⟨_, rfl⟩
  rw [← hK] at HROOT HRROOT
  have hd1 : decide ((0 : Int) ≤ (i : Int)) = true := decide_eq_true (by omega)
  have hd2 : decide ((i : Int) ≤ 63) = true := decide_eq_true (by omega)
  clear hK
  have HFILL := Lib.hid (fun W => fill_any n W (by omega))
  have HRFILL := Lib.hid (fun W => ref_fill_any n W (by omega))
  have HFLE := Lib.hid (show (fillN n).length ≤ maxLen by have := fill_le n; simp only [maxLen]; omega)
  have HFL := Lib.hid (fillN_length n)
  obtain ⟨z, hz⟩ : ∃ z, z = zerosN n + 9 := ⟨_, rfl⟩
  obtain ⟨L, hL⟩ : ∃ L, L = fillN n := ⟨_, rfl⟩
  simp only [← hz, ← hL] at HFILL
  rw [← hz, ← hL] at HFL
  simp only [← hL] at HRFILL HFLE
  clear hz hL
  have hd3 : decide ((n : Int) ≤ 1000) = true := decide_eq_true (by omega)
  have hd4 : decide ((n : Int) < 0) = false := decide_eq_false (by omega)
  have hd5 : decide ((0 : Int) ≤ (n : Int)) = true := decide_eq_true (by omega)
  have hd6 : ((bs.length : Int) != 64) = true := by rw [bne_iff_ne]; omega
  have HLE := Lib.hid hle
  have HMX := Lib.hid hmx
  clear h0 hr hok hi hn hb hle hmx hZ hG hQ
  go_enter Tryd.func4, Tryd.ntmps4
  go_wp2_with (first
    | (refine wpL_boxArr rfl 29 _ rfl Q rfl ?_; intro w1 hh1 hf1 hs1; have HG1 := Lib.hid hh1.out; have hsz1 := hs1.out; clear hh1)
    | (go_at_call 9; refine (HRROOT.out w1).mono ?_; rintro e w2 ⟨rfl, hf2⟩)
    | (go_at_call 10; refine (HBEG.out _).mono ?_; rintro e w3 ⟨rfl, hf3⟩)
    | (refine wpL_newArr rfl 29 rfl Z HIZ.out ?_; intro w4 hh4 hf4 hs4; refine wpL_storeArr rfl 29 (.tmp 10) (.tmp 22) rfl w3.heap.size G Z rfl rfl 29 hh4.out HSB.out HZB.out HOB.out ?_; intro w5 hh5 hf5 hs5))
  have hf03 : Fr [] w w3 := (hf1.trans hf2 (by simp) (n := []) (by simp)).trans hf3 (by simp) (by simp)
  have hf13 : Fr [] w1 w3 := hf2.trans hf3 (by simp) (by simp)
  have hf35 : Fr [] w3 w5 := hf4.trans hf5 (by simp) (by simp)
  have hf05 : Fr [] w w5 := hf03.trans hf35 (by simp) (by simp)
  have hf15 : Fr [] w1 w5 := hf13.trans hf35 (by simp) (by simp)
  have HQ5 := Lib.hid (hf15.heap HG1.out (by simp))
  obtain ⟨g5, hg5⟩ : ∃ g, g = w.heap.size := ⟨_, rfl⟩
  rw [← hg5] at HQ5 ⊢
  obtain ⟨g, hg⟩ : ∃ g, g = w3.heap.size := ⟨_, rfl⟩
  have hhg := hh5.out
  rw [← hg] at hhg ⊢
  have HG := Lib.hid hhg
  clear hg hhg hh4 hh5 hf1 hf3 hf4 hf5 hf13 hf35 hf15 HG1 hs1 hs4 hs5 hsz1 hg5 hf2
  refine wp_region_G [] [(0, false), (2, false), (1, true), (3, false), (4, false), (5, false), (6, true), (7, false), (8, false)] 85 rfl (by kernel_rfl) (by kernel_rfl) (by kernel_rfl) (fun c a d v w h => by cases d <;> exact h) (fun w6 hf6 => ?_)
  simp only [List.map_cons, List.map_nil, List.getElem?_toArray, List.getElem?_cons_succ, List.getElem?_cons_zero, Option.getD_some]
  have hf06 : Fr [] w w6 := hf05.trans hf6 (by simp) (by simp)
  repeat (apply wpG_t; · (intro w' hf'; go_wp2_with fail; exact ⟨rfl, rfl⟩))
  refine wpG_x ?_
  go_wp2_with (go_at_call 11; refine (HROOT.out _ hf06).mono ?_; rintro e w6b ⟨rfl, rfl⟩)
  refine ⟨Fr.refl _ _, rfl, ?_⟩
  have LG : Hid (Later [] w6 (fun w' => w'.heap[g]? = some (.cells G 29 (0, 0)))) := Lib.hid (fun w' hf' => hf'.heap (hf6.heap HG.out (by simp)) (by simp))
  repeat (apply wpG_t; · (intro w' hf'; first
    | (refine wpL_load_want rfl 29 _ rfl g rfl 29 G (0, 0) _ (LG.out w' hf') Tryd.underlying29 rfl HSB.out ?_; exact ⟨rfl, rfl⟩)
    | (go_wp2_with fail; exact ⟨rfl, rfl⟩)))
  refine wpG_x ?_
  go_wp2_with (go_at_call 12; refine (HRBEG.out _).mono ?_; rintro e w7 ⟨rfl, hf7⟩)
  refine ⟨hf7, rfl, ?_⟩
  repeat (apply wpG_t; · (intro w' hf'; go_wp2_with fail; exact ⟨rfl, rfl⟩))
  refine wpG_end ?_
  have hf07 : Fr [] w w7 := hf06.trans hf7 (by simp) (by simp)
  have HQ7 := Lib.hid (hf7.heap (hf6.heap HQ5.out (by simp)) (by simp))
  clear LG HG HQ5 hf05 hf06 hf6 hf7
  go_wp2_with (go_at_call 13; refine (HFILL.out _).mono ?_; rintro e w8 ⟨rfl, hh8, hf8⟩)
  have hb8 : bytesAt w8 (.slice (some ⟨w7.heap.size, 0, none⟩) z z) L := bytesAt_of_heap hh8 HFLE.out _ HFL.out.symm
  refine wp_region_G [] [(0, false), (1, false), (2, false), (3, false), (4, false), (5, false), (6, false), (7, false), (8, false), (9, false), (10, false), (11, false), (12, false), (13, false), (14, true), (15, false), (16, false), (17, false), (18, false)] 85 rfl (by kernel_rfl) (by kernel_rfl) (by kernel_rfl) (fun c a d v w h => by cases d <;> exact h) (fun w9 hf9 => ?_)
  simp only [List.map_cons, List.map_nil, List.getElem?_toArray, List.getElem?_cons_succ, List.getElem?_cons_zero, Option.getD_some]
  have hf09 : Fr [] w w9 := (hf07.trans hf8 (by simp) (n := []) (by simp)).trans hf9 (by simp) (by simp)
  have HQ9 := Lib.hid (hf9.heap (hf8.heap HQ7.out (by simp)) (by simp))
  have hC : Later [] w9 _ := Later.conv (P := Tryd.prog) (hb8.below hf9) (by simp) 22 5 9 Tryd.underlying22 Tryd.underlying5 Tryd.underlying9
  have HC := Lib.hid hC
  clear hC hb8 hh8
  repeat (apply wpG_t; · (intro w' hf'; have hc := HC.out w' hf'; go_wp2_with fail; exact ⟨rfl, rfl⟩))
  refine wpG_x ?_
  go_wp2_with (go_at_call 14; refine (HRFILL.out _).mono ?_; rintro e w10 ⟨vf, rfl, hbf, hf10⟩)
  refine ⟨hf10, rfl, ?_⟩
  have hD : Later [] w10 _ := Later.conv (P := Tryd.prog) hbf (by simp) 22 5 9 Tryd.underlying22 Tryd.underlying5 Tryd.underlying9
  have HD := Lib.hid hD
  clear hD
  repeat (apply wpG_t; · (intro w' hf'; have hc := HD.out w' hf'; go_wp2_with fail; exact ⟨rfl, rfl⟩))
  refine wpG_end ?_
  have hf010 : Fr [] w w10 := hf09.trans hf10 (by simp) (by simp)
  have HQ10 := Lib.hid (hf10.heap HQ9.out (by simp))
  clear HC HD HQ9 HQ7 hf09 hf07 hf8 hf9 hf10
  have hfX := hf010
  go_wp2_with (first
    | (refine wpL_load_want rfl 29 _ rfl w11.heap.size rfl 29 Z (0, 0) _ HE13.out Tryd.underlying29 rfl HSE.out ?_; refine wpL_val_want rfl (.agg (stC zeroSt)) (by kernel_rfl) ?_; rw [← HZ.out])
    | (refine wpList_load_row rfl 29 _ rfl g5 rfl 29 Q (0, 0) _ HQ10.out Tryd.underlying29 rfl HSS.out ?_; have hmark := 0)
    | (go_at_call 15; refine (HBLK.out _ hfX).mono ?_; rintro e w11 ⟨rfl, hf11⟩)
    | (refine wpL_newArr rfl 29 rfl Z HIZ.out ?_; intro w12 hh12 hf12 hs12; refine wpL_storeArr rfl 29 (.tmp 12) (.tmp 59) rfl w11.heap.size Z Z rfl rfl 29 hh12.out HSE.out rfl HOE.out ?_; intro w13 hh13 hf13 hs13; have HE13 := Lib.hid hh13.out; have hf013 : Fr [] w w13 := ((hfX.trans hf11 (by simp) (n := []) (by simp)).trans hf12 (by simp) (n := []) (by simp)).trans hf13 (by simp) (by simp; have := hfX.size; have := hf11.size; omega))
    | (go_at_call 6; refine (HAW.out _ hf013).mono ?_; rintro e w14 ⟨rfl, hf14⟩))
  go_ret
  exact ⟨rfl, hf013.trans hf14 (by simp) (by simp)⟩
set_option maxRecDepth 100000 in
theorem parts_in_neg_64 (i : Nat) (n : Int) (st : St) (bs : List UInt8) (v0 : Value) (w : World) (h0 : bytesAt w v0 bs) (hr : rootsAt w) (hok : st.ok) (hi : i < 64) (hn : n < 0) (hb : bs.length = 64) :
    Calls Tryd.prog 4 #[.int .i64 i, .agg (stC st), v0, .int .i64 n] w fun e w' => e = .returned (.bool true) ∧ Fr [] w w' := by
  obtain ⟨a0, c0, rfl, hle, hmx⟩ := h0.form
  have HB := Lib.hid h0
  have HR := Lib.hid hr
  have HBEG := Lib.hid (fun W => begin_any W)
  have HRBEG := Lib.hid (fun W => ref_beginE_any W)
  have eqB := fun wx => equal_st wx beginSt
  have HSB := Lib.hid (sizeN8 beginSt)
  have HOB := Lib.hid (stC_one beginSt)
  have HZB := Lib.hid (show (stC zeroSt).size = (stC beginSt).size by simp only [stC_size])
  have HIZ := Lib.hid infoN8
  have HSS := Lib.hid (sizeN8 st)
  have HBLK := Lib.hid (fun W (hW : Fr [] w W) => block_ok st bs _ W hok (h0.below hW) hb (hr.below hW))
  have HRBLK := Lib.hid (fun W (hW : Fr [] w W) => ref_block_any st bs _ W hok (h0.below hW) hb)
  have eqE := fun wx => equal_st wx (blockSt st bs)
  have HSE := Lib.hid (sizeN8 (blockSt st bs))
  have HOE := Lib.hid (stC_one (blockSt st bs))
  have HZE := Lib.hid (show (stC zeroSt).size = (stC (blockSt st bs)).size by simp only [stC_size])
  have HAW := Lib.hid (fun W (hW : Fr [] w W) => awake_any W (hr.below hW))
  obtain ⟨E, hE⟩ : ∃ E, E = stC (blockSt st bs) := ⟨_, rfl⟩
  rw [← hE] at HBLK HRBLK eqE HSE HOE HZE
  obtain ⟨Z, hZ⟩ : ∃ Z, Z = stC zeroSt := ⟨_, rfl⟩
  rw [← hZ] at HZB HIZ HZE
  obtain ⟨G, hG⟩ : ∃ G, G = stC beginSt := ⟨_, rfl⟩
  rw [← hG] at HBEG HRBEG eqB HSB HOB HZB
  obtain ⟨Q, hQ⟩ : ∃ Q, Q = stC st := ⟨_, rfl⟩
  rw [← hQ] at HSS HBLK HRBLK ⊢
  have HZ := Lib.hid hZ
  have HROOT := Lib.hid (fun W (hW : Fr [] w W) => root_in i W hi (hr.below hW))
  have HRROOT := Lib.hid (fun W => ref_rootE_any i W hi)
  obtain ⟨K, hK⟩ : ∃ K, K = kk[i]'(by rw [kk_length]; exact hi) := ⟨_, rfl⟩
  rw [← hK] at HROOT HRROOT
  have hd1 : decide ((0 : Int) ≤ (i : Int)) = true := decide_eq_true (by omega)
  have hd2 : decide ((i : Int) ≤ 63) = true := decide_eq_true (by omega)
  clear hK
  have HFILL := Lib.hid (fun W => fill_neg n W hn)
  have hd3 : decide (n ≤ 1000) = true := decide_eq_true (by omega)
  have hd4 : decide (n < 0) = true := decide_eq_true hn
  have hd5 : decide ((0 : Int) ≤ n) = false := decide_eq_false (by omega)
  have hd6 : ((bs.length : Int) != 64) = false := by rw [bne_eq_false_iff_eq]; omega
  have HLE := Lib.hid hle
  have HMX := Lib.hid hmx
  clear h0 hr hok hi hn hb hle hmx hZ hG hQ hE
  go_enter Tryd.func4, Tryd.ntmps4
  go_wp2_with (first
    | (refine wpL_boxArr rfl 29 _ rfl Q rfl ?_; intro w1 hh1 hf1 hs1; have HG1 := Lib.hid hh1.out; have hsz1 := hs1.out; clear hh1)
    | (go_at_call 9; refine (HRROOT.out w1).mono ?_; rintro e w2 ⟨rfl, hf2⟩)
    | (go_at_call 10; refine (HBEG.out _).mono ?_; rintro e w3 ⟨rfl, hf3⟩)
    | (refine wpL_newArr rfl 29 rfl Z HIZ.out ?_; intro w4 hh4 hf4 hs4; refine wpL_storeArr rfl 29 (.tmp 10) (.tmp 22) rfl w3.heap.size G Z rfl rfl 29 hh4.out HSB.out HZB.out HOB.out ?_; intro w5 hh5 hf5 hs5))
  have hf03 : Fr [] w w3 := (hf1.trans hf2 (by simp) (n := []) (by simp)).trans hf3 (by simp) (by simp)
  have hf13 : Fr [] w1 w3 := hf2.trans hf3 (by simp) (by simp)
  have hf35 : Fr [] w3 w5 := hf4.trans hf5 (by simp) (by simp)
  have hf05 : Fr [] w w5 := hf03.trans hf35 (by simp) (by simp)
  have hf15 : Fr [] w1 w5 := hf13.trans hf35 (by simp) (by simp)
  have HQ5 := Lib.hid (hf15.heap HG1.out (by simp))
  obtain ⟨g5, hg5⟩ : ∃ g, g = w.heap.size := ⟨_, rfl⟩
  rw [← hg5] at HQ5 ⊢
  obtain ⟨g, hg⟩ : ∃ g, g = w3.heap.size := ⟨_, rfl⟩
  have hhg := hh5.out
  rw [← hg] at hhg ⊢
  have HG := Lib.hid hhg
  clear hg hhg hh4 hh5 hf1 hf3 hf4 hf5 hf13 hf35 hf15 HG1 hs1 hs4 hs5 hsz1 hg5 hf2
  refine wp_region_G [] [(0, false), (2, false), (1, true), (3, false), (4, false), (5, false), (6, true), (7, false), (8, false)] 85 rfl (by kernel_rfl) (by kernel_rfl) (by kernel_rfl) (fun c a d v w h => by cases d <;> exact h) (fun w6 hf6 => ?_)
  simp only [List.map_cons, List.map_nil, List.getElem?_toArray, List.getElem?_cons_succ, List.getElem?_cons_zero, Option.getD_some]
  have hf06 : Fr [] w w6 := hf05.trans hf6 (by simp) (by simp)
  repeat (apply wpG_t; · (intro w' hf'; go_wp2_with fail; exact ⟨rfl, rfl⟩))
  refine wpG_x ?_
  go_wp2_with (go_at_call 11; refine (HROOT.out _ hf06).mono ?_; rintro e w6b ⟨rfl, rfl⟩)
  refine ⟨Fr.refl _ _, rfl, ?_⟩
  have LG : Hid (Later [] w6 (fun w' => w'.heap[g]? = some (.cells G 29 (0, 0)))) := Lib.hid (fun w' hf' => hf'.heap (hf6.heap HG.out (by simp)) (by simp))
  repeat (apply wpG_t; · (intro w' hf'; first
    | (refine wpL_load_want rfl 29 _ rfl g rfl 29 G (0, 0) _ (LG.out w' hf') Tryd.underlying29 rfl HSB.out ?_; exact ⟨rfl, rfl⟩)
    | (go_wp2_with fail; exact ⟨rfl, rfl⟩)))
  refine wpG_x ?_
  go_wp2_with (go_at_call 12; refine (HRBEG.out _).mono ?_; rintro e w7 ⟨rfl, hf7⟩)
  refine ⟨hf7, rfl, ?_⟩
  repeat (apply wpG_t; · (intro w' hf'; go_wp2_with fail; exact ⟨rfl, rfl⟩))
  refine wpG_end ?_
  have hf07 : Fr [] w w7 := hf06.trans hf7 (by simp) (by simp)
  have HQ7 := Lib.hid (hf7.heap (hf6.heap HQ5.out (by simp)) (by simp))
  clear LG HG HQ5 hf05 hf06 hf6 hf7
  go_wp2_with (go_at_call 13; refine (HFILL.out _).mono ?_; rintro e w8 ⟨rfl, rfl⟩)
  refine wp_region_G [] [(0, false), (1, false), (2, false), (3, false), (4, false), (5, false), (6, false), (7, false), (8, false), (9, false), (10, false), (11, false), (12, false), (13, false), (14, true), (15, false), (16, false), (17, false), (18, false)] 85 rfl (by kernel_rfl) (by kernel_rfl) (by kernel_rfl) (fun c a d v w h => by cases d <;> exact h) (fun w9 hf9 => ?_)
  simp only [List.map_cons, List.map_nil, List.getElem?_toArray, List.getElem?_cons_succ, List.getElem?_cons_zero, Option.getD_some]
  have hf09 : Fr [] w w9 := hf07.trans hf9 (by simp) (by simp)
  have HQ9 := Lib.hid (hf9.heap HQ7.out (by simp))
  repeat (apply wpG_t; · (intro w' hf'; go_wp2_with fail; exact ⟨rfl, rfl⟩))
  refine wpG_x ?_
  go_wp2_with fail
  refine ⟨Fr.refl _ _, rfl, ?_⟩
  repeat (apply wpG_t; · (intro w' hf'; go_wp2_with fail; exact ⟨rfl, rfl⟩))
  refine wpG_end ?_
  have hfX := hf09
  go_wp2_with (first
    | (refine wpList_load_row rfl 29 _ rfl g5 rfl 29 Q (0, 0) _ HQ9.out Tryd.underlying29 rfl HSS.out ?_; have hmark := 0)
    | (go_at_call 15; refine (HBLK.out _ hfX).mono ?_; rintro e w11 ⟨rfl, hf11⟩)
    | (refine wpL_newArr rfl 29 rfl Z HIZ.out ?_; intro w12 hh12 hf12 hs12; refine wpL_storeArr rfl 29 (.tmp 12) (.tmp 59) rfl w11.heap.size E Z rfl rfl 29 hh12.out HSE.out HZE.out HOE.out ?_; intro w13 hh13 hf13 hs13; have HE13 := Lib.hid hh13.out; have hf013 : Fr [] w w13 := ((hfX.trans hf11 (by simp) (n := []) (by simp)).trans hf12 (by simp) (n := []) (by simp)).trans hf13 (by simp) (by simp; have := hfX.size; have := hf11.size; omega)))
  have HQ13 := Lib.hid (hf13.heap (hf12.heap (hf11.heap HQ9.out (by simp)) (by simp)) (by simp; have h1 := (Array.getElem?_eq_some_iff.1 HQ9.out).1; have h2 := hf11.size; omega))
  obtain ⟨ge, hge⟩ : ∃ g, g = w11.heap.size := ⟨_, rfl⟩
  rw [← hge] at HE13 ⊢
  refine wp_region_G [] [(0, false), (1, false), (2, false), (3, false), (4, false), (5, true), (6, false), (7, false), (8, false), (9, true), (10, false), (11, false)] 85 rfl (by kernel_rfl) (by kernel_rfl) (by kernel_rfl) (fun c a d v w h => by cases d <;> exact h) (fun w14 hf14 => ?_)
  simp only [List.map_cons, List.map_nil, List.getElem?_toArray, List.getElem?_cons_succ, List.getElem?_cons_zero, Option.getD_some]
  have hf014 : Fr [] w w14 := hf013.trans hf14 (by simp) (by simp)
  have LE : Hid (Later [] w14 (fun w' => w'.heap[ge]? = some (.cells E 29 (0, 0)))) := Lib.hid (fun w' hf' => hf'.heap (hf14.heap HE13.out (by simp)) (by simp))
  have LQ : Hid (Later [] w14 (fun w' => w'.heap[g5]? = some (.cells Q 29 (0, 0)))) := Lib.hid (fun w' hf' => hf'.heap (hf14.heap HQ13.out (by simp)) (by simp))
  repeat (apply wpG_t; · (intro w' hf'; first
    | (refine wpL_load_want rfl 29 _ rfl ge rfl 29 E (0, 0) _ (LE.out w' hf') Tryd.underlying29 rfl HSE.out ?_; exact ⟨rfl, rfl⟩)
    | (refine wpL_load_want rfl 29 _ rfl g5 rfl 29 Q (0, 0) _ (LQ.out w' hf') Tryd.underlying29 rfl HSS.out ?_; exact ⟨rfl, rfl⟩)
    | (go_wp2_with fail; exact ⟨rfl, rfl⟩)))
  refine wpG_x ?_
  go_wp2_with (go_at_call 16; refine (HRBLK.out _ hf014).mono ?_; rintro e w15 ⟨rfl, hf15⟩)
  refine ⟨hf15, rfl, ?_⟩
  repeat (apply wpG_t; · (intro w' hf'; go_wp2_with fail; exact ⟨rfl, rfl⟩))
  refine wpG_x ?_
  have hf015 : Fr [] w w15 := hf014.trans hf15 (by simp) (by simp)
  go_wp2_with (go_at_call 6; refine (HAW.out _ hf015).mono ?_; rintro e w16 ⟨rfl, hf16⟩)
  refine ⟨hf16, rfl, ?_⟩
  repeat (apply wpG_t; · (intro w' hf'; go_wp2_with fail; exact ⟨rfl, rfl⟩))
  refine wpG_end ?_
  go_wp2_with fail
  go_ret
  exact ⟨rfl, hf015.trans hf16 (by simp) (by simp)⟩
set_option maxRecDepth 100000 in
theorem parts_in_neg_no (i : Nat) (n : Int) (st : St) (bs : List UInt8) (v0 : Value) (w : World) (h0 : bytesAt w v0 bs) (hr : rootsAt w) (hok : st.ok) (hi : i < 64) (hn : n < 0) (hb : bs.length ≠ 64) :
    Calls Tryd.prog 4 #[.int .i64 i, .agg (stC st), v0, .int .i64 n] w fun e w' => e = .returned (.bool true) ∧ Fr [] w w' := by
  obtain ⟨a0, c0, rfl, hle, hmx⟩ := h0.form
  have HB := Lib.hid h0
  have HR := Lib.hid hr
  have HBEG := Lib.hid (fun W => begin_any W)
  have HRBEG := Lib.hid (fun W => ref_beginE_any W)
  have eqB := fun wx => equal_st wx beginSt
  have HSB := Lib.hid (sizeN8 beginSt)
  have HOB := Lib.hid (stC_one beginSt)
  have HZB := Lib.hid (show (stC zeroSt).size = (stC beginSt).size by simp only [stC_size])
  have HIZ := Lib.hid infoN8
  have HSS := Lib.hid (sizeN8 st)
  have HBLK := Lib.hid (fun W (hW : Fr [] w W) => block_bad st bs _ W (h0.below hW) hb)
  have eqE := fun wx => equal_st wx zeroSt
  have HSE := Lib.hid (sizeN8 (zeroSt))
  have HOE := Lib.hid (stC_one (zeroSt))
  have HZE := Lib.hid (show (stC zeroSt).size = (stC (zeroSt)).size by simp only [stC_size])
  have HAW := Lib.hid (fun W (hW : Fr [] w W) => awake_any W (hr.below hW))
  obtain ⟨Z, hZ⟩ : ∃ Z, Z = stC zeroSt := ⟨_, rfl⟩
  rw [← hZ] at HZB HIZ HZE
  rw [← hZ] at HBLK eqE HSE HOE
  obtain ⟨G, hG⟩ : ∃ G, G = stC beginSt := ⟨_, rfl⟩
  rw [← hG] at HBEG HRBEG eqB HSB HOB HZB
  obtain ⟨Q, hQ⟩ : ∃ Q, Q = stC st := ⟨_, rfl⟩
  rw [← hQ] at HSS HBLK ⊢
  have HZ := Lib.hid hZ
  have HROOT := Lib.hid (fun W (hW : Fr [] w W) => root_in i W hi (hr.below hW))
  have HRROOT := Lib.hid (fun W => ref_rootE_any i W hi)
  obtain ⟨K, hK⟩ : ∃ K, K = kk[i]'(by rw [kk_length]; exact hi) := ⟨_, rfl⟩
  rw [← hK] at HROOT HRROOT
  have hd1 : decide ((0 : Int) ≤ (i : Int)) = true := decide_eq_true (by omega)
  have hd2 : decide ((i : Int) ≤ 63) = true := decide_eq_true (by omega)
  clear hK
  have HFILL := Lib.hid (fun W => fill_neg n W hn)
  have hd3 : decide (n ≤ 1000) = true := decide_eq_true (by omega)
  have hd4 : decide (n < 0) = true := decide_eq_true hn
  have hd5 : decide ((0 : Int) ≤ n) = false := decide_eq_false (by omega)
  have hd6 : ((bs.length : Int) != 64) = true := by rw [bne_iff_ne]; omega
  have HLE := Lib.hid hle
  have HMX := Lib.hid hmx
  clear h0 hr hok hi hn hb hle hmx hZ hG hQ
  go_enter Tryd.func4, Tryd.ntmps4
  go_wp2_with (first
    | (refine wpL_boxArr rfl 29 _ rfl Q rfl ?_; intro w1 hh1 hf1 hs1; have HG1 := Lib.hid hh1.out; have hsz1 := hs1.out; clear hh1)
    | (go_at_call 9; refine (HRROOT.out w1).mono ?_; rintro e w2 ⟨rfl, hf2⟩)
    | (go_at_call 10; refine (HBEG.out _).mono ?_; rintro e w3 ⟨rfl, hf3⟩)
    | (refine wpL_newArr rfl 29 rfl Z HIZ.out ?_; intro w4 hh4 hf4 hs4; refine wpL_storeArr rfl 29 (.tmp 10) (.tmp 22) rfl w3.heap.size G Z rfl rfl 29 hh4.out HSB.out HZB.out HOB.out ?_; intro w5 hh5 hf5 hs5))
  have hf03 : Fr [] w w3 := (hf1.trans hf2 (by simp) (n := []) (by simp)).trans hf3 (by simp) (by simp)
  have hf13 : Fr [] w1 w3 := hf2.trans hf3 (by simp) (by simp)
  have hf35 : Fr [] w3 w5 := hf4.trans hf5 (by simp) (by simp)
  have hf05 : Fr [] w w5 := hf03.trans hf35 (by simp) (by simp)
  have hf15 : Fr [] w1 w5 := hf13.trans hf35 (by simp) (by simp)
  have HQ5 := Lib.hid (hf15.heap HG1.out (by simp))
  obtain ⟨g5, hg5⟩ : ∃ g, g = w.heap.size := ⟨_, rfl⟩
  rw [← hg5] at HQ5 ⊢
  obtain ⟨g, hg⟩ : ∃ g, g = w3.heap.size := ⟨_, rfl⟩
  have hhg := hh5.out
  rw [← hg] at hhg ⊢
  have HG := Lib.hid hhg
  clear hg hhg hh4 hh5 hf1 hf3 hf4 hf5 hf13 hf35 hf15 HG1 hs1 hs4 hs5 hsz1 hg5 hf2
  refine wp_region_G [] [(0, false), (2, false), (1, true), (3, false), (4, false), (5, false), (6, true), (7, false), (8, false)] 85 rfl (by kernel_rfl) (by kernel_rfl) (by kernel_rfl) (fun c a d v w h => by cases d <;> exact h) (fun w6 hf6 => ?_)
  simp only [List.map_cons, List.map_nil, List.getElem?_toArray, List.getElem?_cons_succ, List.getElem?_cons_zero, Option.getD_some]
  have hf06 : Fr [] w w6 := hf05.trans hf6 (by simp) (by simp)
  repeat (apply wpG_t; · (intro w' hf'; go_wp2_with fail; exact ⟨rfl, rfl⟩))
  refine wpG_x ?_
  go_wp2_with (go_at_call 11; refine (HROOT.out _ hf06).mono ?_; rintro e w6b ⟨rfl, rfl⟩)
  refine ⟨Fr.refl _ _, rfl, ?_⟩
  have LG : Hid (Later [] w6 (fun w' => w'.heap[g]? = some (.cells G 29 (0, 0)))) := Lib.hid (fun w' hf' => hf'.heap (hf6.heap HG.out (by simp)) (by simp))
  repeat (apply wpG_t; · (intro w' hf'; first
    | (refine wpL_load_want rfl 29 _ rfl g rfl 29 G (0, 0) _ (LG.out w' hf') Tryd.underlying29 rfl HSB.out ?_; exact ⟨rfl, rfl⟩)
    | (go_wp2_with fail; exact ⟨rfl, rfl⟩)))
  refine wpG_x ?_
  go_wp2_with (go_at_call 12; refine (HRBEG.out _).mono ?_; rintro e w7 ⟨rfl, hf7⟩)
  refine ⟨hf7, rfl, ?_⟩
  repeat (apply wpG_t; · (intro w' hf'; go_wp2_with fail; exact ⟨rfl, rfl⟩))
  refine wpG_end ?_
  have hf07 : Fr [] w w7 := hf06.trans hf7 (by simp) (by simp)
  have HQ7 := Lib.hid (hf7.heap (hf6.heap HQ5.out (by simp)) (by simp))
  clear LG HG HQ5 hf05 hf06 hf6 hf7
  go_wp2_with (go_at_call 13; refine (HFILL.out _).mono ?_; rintro e w8 ⟨rfl, rfl⟩)
  refine wp_region_G [] [(0, false), (1, false), (2, false), (3, false), (4, false), (5, false), (6, false), (7, false), (8, false), (9, false), (10, false), (11, false), (12, false), (13, false), (14, true), (15, false), (16, false), (17, false), (18, false)] 85 rfl (by kernel_rfl) (by kernel_rfl) (by kernel_rfl) (fun c a d v w h => by cases d <;> exact h) (fun w9 hf9 => ?_)
  simp only [List.map_cons, List.map_nil, List.getElem?_toArray, List.getElem?_cons_succ, List.getElem?_cons_zero, Option.getD_some]
  have hf09 : Fr [] w w9 := hf07.trans hf9 (by simp) (by simp)
  have HQ9 := Lib.hid (hf9.heap HQ7.out (by simp))
  repeat (apply wpG_t; · (intro w' hf'; go_wp2_with fail; exact ⟨rfl, rfl⟩))
  refine wpG_x ?_
  go_wp2_with fail
  refine ⟨Fr.refl _ _, rfl, ?_⟩
  repeat (apply wpG_t; · (intro w' hf'; go_wp2_with fail; exact ⟨rfl, rfl⟩))
  refine wpG_end ?_
  have hfX := hf09
  go_wp2_with (first
    | (refine wpL_load_want rfl 29 _ rfl w11.heap.size rfl 29 Z (0, 0) _ HE13.out Tryd.underlying29 rfl HSE.out ?_; refine wpL_val_want rfl (.agg (stC zeroSt)) (by kernel_rfl) ?_; rw [← HZ.out])
    | (refine wpList_load_row rfl 29 _ rfl g5 rfl 29 Q (0, 0) _ HQ9.out Tryd.underlying29 rfl HSS.out ?_; have hmark := 0)
    | (go_at_call 15; refine (HBLK.out _ hfX).mono ?_; rintro e w11 ⟨rfl, hf11⟩)
    | (refine wpL_newArr rfl 29 rfl Z HIZ.out ?_; intro w12 hh12 hf12 hs12; refine wpL_storeArr rfl 29 (.tmp 12) (.tmp 59) rfl w11.heap.size Z Z rfl rfl 29 hh12.out HSE.out rfl HOE.out ?_; intro w13 hh13 hf13 hs13; have HE13 := Lib.hid hh13.out; have hf013 : Fr [] w w13 := ((hfX.trans hf11 (by simp) (n := []) (by simp)).trans hf12 (by simp) (n := []) (by simp)).trans hf13 (by simp) (by simp; have := hfX.size; have := hf11.size; omega))
    | (go_at_call 6; refine (HAW.out _ hf013).mono ?_; rintro e w14 ⟨rfl, hf14⟩))
  go_ret
  exact ⟨rfl, hf013.trans hf14 (by simp) (by simp)⟩
set_option maxRecDepth 100000 in
theorem parts_in_big_64 (i : Nat) (n : Int) (st : St) (bs : List UInt8) (v0 : Value) (w : World) (h0 : bytesAt w v0 bs) (hr : rootsAt w) (hok : st.ok) (hi : i < 64) (hn : 1000 < n) (hb : bs.length = 64) :
    Calls Tryd.prog 4 #[.int .i64 i, .agg (stC st), v0, .int .i64 n] w fun e w' => e = .returned (.bool true) ∧ Fr [] w w' := by
  obtain ⟨a0, c0, rfl, hle, hmx⟩ := h0.form
  have HB := Lib.hid h0
  have HR := Lib.hid hr
  have HBEG := Lib.hid (fun W => begin_any W)
  have HRBEG := Lib.hid (fun W => ref_beginE_any W)
  have eqB := fun wx => equal_st wx beginSt
  have HSB := Lib.hid (sizeN8 beginSt)
  have HOB := Lib.hid (stC_one beginSt)
  have HZB := Lib.hid (show (stC zeroSt).size = (stC beginSt).size by simp only [stC_size])
  have HIZ := Lib.hid infoN8
  have HSS := Lib.hid (sizeN8 st)
  have HBLK := Lib.hid (fun W (hW : Fr [] w W) => block_ok st bs _ W hok (h0.below hW) hb (hr.below hW))
  have HRBLK := Lib.hid (fun W (hW : Fr [] w W) => ref_block_any st bs _ W hok (h0.below hW) hb)
  have eqE := fun wx => equal_st wx (blockSt st bs)
  have HSE := Lib.hid (sizeN8 (blockSt st bs))
  have HOE := Lib.hid (stC_one (blockSt st bs))
  have HZE := Lib.hid (show (stC zeroSt).size = (stC (blockSt st bs)).size by simp only [stC_size])
  have HAW := Lib.hid (fun W (hW : Fr [] w W) => awake_any W (hr.below hW))
  obtain ⟨E, hE⟩ : ∃ E, E = stC (blockSt st bs) := ⟨_, rfl⟩
  rw [← hE] at HBLK HRBLK eqE HSE HOE HZE
  obtain ⟨Z, hZ⟩ : ∃ Z, Z = stC zeroSt := ⟨_, rfl⟩
  rw [← hZ] at HZB HIZ HZE
  obtain ⟨G, hG⟩ : ∃ G, G = stC beginSt := ⟨_, rfl⟩
  rw [← hG] at HBEG HRBEG eqB HSB HOB HZB
  obtain ⟨Q, hQ⟩ : ∃ Q, Q = stC st := ⟨_, rfl⟩
  rw [← hQ] at HSS HBLK HRBLK ⊢
  have HZ := Lib.hid hZ
  have HROOT := Lib.hid (fun W (hW : Fr [] w W) => root_in i W hi (hr.below hW))
  have HRROOT := Lib.hid (fun W => ref_rootE_any i W hi)
  obtain ⟨K, hK⟩ : ∃ K, K = kk[i]'(by rw [kk_length]; exact hi) := ⟨_, rfl⟩
  rw [← hK] at HROOT HRROOT
  have hd1 : decide ((0 : Int) ≤ (i : Int)) = true := decide_eq_true (by omega)
  have hd2 : decide ((i : Int) ≤ 63) = true := decide_eq_true (by omega)
  clear hK
  have hd3 : decide (n ≤ 1000) = false := decide_eq_false (by omega)
  have hd6 : ((bs.length : Int) != 64) = false := by rw [bne_eq_false_iff_eq]; omega
  have HLE := Lib.hid hle
  have HMX := Lib.hid hmx
  clear h0 hr hok hi hn hb hle hmx hZ hG hQ hE
  go_enter Tryd.func4, Tryd.ntmps4
  go_wp2_with (first
    | (refine wpL_boxArr rfl 29 _ rfl Q rfl ?_; intro w1 hh1 hf1 hs1; have HG1 := Lib.hid hh1.out; have hsz1 := hs1.out; clear hh1)
    | (go_at_call 9; refine (HRROOT.out w1).mono ?_; rintro e w2 ⟨rfl, hf2⟩)
    | (go_at_call 10; refine (HBEG.out _).mono ?_; rintro e w3 ⟨rfl, hf3⟩)
    | (refine wpL_newArr rfl 29 rfl Z HIZ.out ?_; intro w4 hh4 hf4 hs4; refine wpL_storeArr rfl 29 (.tmp 10) (.tmp 22) rfl w3.heap.size G Z rfl rfl 29 hh4.out HSB.out HZB.out HOB.out ?_; intro w5 hh5 hf5 hs5))
  have hf03 : Fr [] w w3 := (hf1.trans hf2 (by simp) (n := []) (by simp)).trans hf3 (by simp) (by simp)
  have hf13 : Fr [] w1 w3 := hf2.trans hf3 (by simp) (by simp)
  have hf35 : Fr [] w3 w5 := hf4.trans hf5 (by simp) (by simp)
  have hf05 : Fr [] w w5 := hf03.trans hf35 (by simp) (by simp)
  have hf15 : Fr [] w1 w5 := hf13.trans hf35 (by simp) (by simp)
  have HQ5 := Lib.hid (hf15.heap HG1.out (by simp))
  obtain ⟨g5, hg5⟩ : ∃ g, g = w.heap.size := ⟨_, rfl⟩
  rw [← hg5] at HQ5 ⊢
  obtain ⟨g, hg⟩ : ∃ g, g = w3.heap.size := ⟨_, rfl⟩
  have hhg := hh5.out
  rw [← hg] at hhg ⊢
  have HG := Lib.hid hhg
  clear hg hhg hh4 hh5 hf1 hf3 hf4 hf5 hf13 hf35 hf15 HG1 hs1 hs4 hs5 hsz1 hg5 hf2
  refine wp_region_G [] [(0, false), (2, false), (1, true), (3, false), (4, false), (5, false), (6, true), (7, false), (8, false)] 85 rfl (by kernel_rfl) (by kernel_rfl) (by kernel_rfl) (fun c a d v w h => by cases d <;> exact h) (fun w6 hf6 => ?_)
  simp only [List.map_cons, List.map_nil, List.getElem?_toArray, List.getElem?_cons_succ, List.getElem?_cons_zero, Option.getD_some]
  have hf06 : Fr [] w w6 := hf05.trans hf6 (by simp) (by simp)
  repeat (apply wpG_t; · (intro w' hf'; go_wp2_with fail; exact ⟨rfl, rfl⟩))
  refine wpG_x ?_
  go_wp2_with (go_at_call 11; refine (HROOT.out _ hf06).mono ?_; rintro e w6b ⟨rfl, rfl⟩)
  refine ⟨Fr.refl _ _, rfl, ?_⟩
  have LG : Hid (Later [] w6 (fun w' => w'.heap[g]? = some (.cells G 29 (0, 0)))) := Lib.hid (fun w' hf' => hf'.heap (hf6.heap HG.out (by simp)) (by simp))
  repeat (apply wpG_t; · (intro w' hf'; first
    | (refine wpL_load_want rfl 29 _ rfl g rfl 29 G (0, 0) _ (LG.out w' hf') Tryd.underlying29 rfl HSB.out ?_; exact ⟨rfl, rfl⟩)
    | (go_wp2_with fail; exact ⟨rfl, rfl⟩)))
  refine wpG_x ?_
  go_wp2_with (go_at_call 12; refine (HRBEG.out _).mono ?_; rintro e w7 ⟨rfl, hf7⟩)
  refine ⟨hf7, rfl, ?_⟩
  repeat (apply wpG_t; · (intro w' hf'; go_wp2_with fail; exact ⟨rfl, rfl⟩))
  refine wpG_end ?_
  have hf07 : Fr [] w w7 := hf06.trans hf7 (by simp) (by simp)
  have HQ7 := Lib.hid (hf7.heap (hf6.heap HQ5.out (by simp)) (by simp))
  clear LG HG HQ5 hf05 hf06 hf6 hf7
  have hfX := hf07
  go_wp2_with (first
    | (refine wpList_load_row rfl 29 _ rfl g5 rfl 29 Q (0, 0) _ HQ7.out Tryd.underlying29 rfl HSS.out ?_; have hmark := 0)
    | (go_at_call 15; refine (HBLK.out _ hfX).mono ?_; rintro e w11 ⟨rfl, hf11⟩)
    | (refine wpL_newArr rfl 29 rfl Z HIZ.out ?_; intro w12 hh12 hf12 hs12; refine wpL_storeArr rfl 29 (.tmp 12) (.tmp 59) rfl w11.heap.size E Z rfl rfl 29 hh12.out HSE.out HZE.out HOE.out ?_; intro w13 hh13 hf13 hs13; have HE13 := Lib.hid hh13.out; have hf013 : Fr [] w w13 := ((hfX.trans hf11 (by simp) (n := []) (by simp)).trans hf12 (by simp) (n := []) (by simp)).trans hf13 (by simp) (by simp; have := hfX.size; have := hf11.size; omega)))
  have HQ13 := Lib.hid (hf13.heap (hf12.heap (hf11.heap HQ7.out (by simp)) (by simp)) (by simp; have h1 := (Array.getElem?_eq_some_iff.1 HQ7.out).1; have h2 := hf11.size; omega))
  obtain ⟨ge, hge⟩ : ∃ g, g = w11.heap.size := ⟨_, rfl⟩
  rw [← hge] at HE13 ⊢
  refine wp_region_G [] [(0, false), (1, false), (2, false), (3, false), (4, false), (5, true), (6, false), (7, false), (8, false), (9, true), (10, false), (11, false)] 85 rfl (by kernel_rfl) (by kernel_rfl) (by kernel_rfl) (fun c a d v w h => by cases d <;> exact h) (fun w14 hf14 => ?_)
  simp only [List.map_cons, List.map_nil, List.getElem?_toArray, List.getElem?_cons_succ, List.getElem?_cons_zero, Option.getD_some]
  have hf014 : Fr [] w w14 := hf013.trans hf14 (by simp) (by simp)
  have LE : Hid (Later [] w14 (fun w' => w'.heap[ge]? = some (.cells E 29 (0, 0)))) := Lib.hid (fun w' hf' => hf'.heap (hf14.heap HE13.out (by simp)) (by simp))
  have LQ : Hid (Later [] w14 (fun w' => w'.heap[g5]? = some (.cells Q 29 (0, 0)))) := Lib.hid (fun w' hf' => hf'.heap (hf14.heap HQ13.out (by simp)) (by simp))
  repeat (apply wpG_t; · (intro w' hf'; first
    | (refine wpL_load_want rfl 29 _ rfl ge rfl 29 E (0, 0) _ (LE.out w' hf') Tryd.underlying29 rfl HSE.out ?_; exact ⟨rfl, rfl⟩)
    | (refine wpL_load_want rfl 29 _ rfl g5 rfl 29 Q (0, 0) _ (LQ.out w' hf') Tryd.underlying29 rfl HSS.out ?_; exact ⟨rfl, rfl⟩)
    | (go_wp2_with fail; exact ⟨rfl, rfl⟩)))
  refine wpG_x ?_
  go_wp2_with (go_at_call 16; refine (HRBLK.out _ hf014).mono ?_; rintro e w15 ⟨rfl, hf15⟩)
  refine ⟨hf15, rfl, ?_⟩
  repeat (apply wpG_t; · (intro w' hf'; go_wp2_with fail; exact ⟨rfl, rfl⟩))
  refine wpG_x ?_
  have hf015 : Fr [] w w15 := hf014.trans hf15 (by simp) (by simp)
  go_wp2_with (go_at_call 6; refine (HAW.out _ hf015).mono ?_; rintro e w16 ⟨rfl, hf16⟩)
  refine ⟨hf16, rfl, ?_⟩
  repeat (apply wpG_t; · (intro w' hf'; go_wp2_with fail; exact ⟨rfl, rfl⟩))
  refine wpG_end ?_
  go_wp2_with fail
  go_ret
  exact ⟨rfl, hf015.trans hf16 (by simp) (by simp)⟩
set_option maxRecDepth 100000 in
theorem parts_in_big_no (i : Nat) (n : Int) (st : St) (bs : List UInt8) (v0 : Value) (w : World) (h0 : bytesAt w v0 bs) (hr : rootsAt w) (hok : st.ok) (hi : i < 64) (hn : 1000 < n) (hb : bs.length ≠ 64) :
    Calls Tryd.prog 4 #[.int .i64 i, .agg (stC st), v0, .int .i64 n] w fun e w' => e = .returned (.bool true) ∧ Fr [] w w' := by
  obtain ⟨a0, c0, rfl, hle, hmx⟩ := h0.form
  have HB := Lib.hid h0
  have HR := Lib.hid hr
  have HBEG := Lib.hid (fun W => begin_any W)
  have HRBEG := Lib.hid (fun W => ref_beginE_any W)
  have eqB := fun wx => equal_st wx beginSt
  have HSB := Lib.hid (sizeN8 beginSt)
  have HOB := Lib.hid (stC_one beginSt)
  have HZB := Lib.hid (show (stC zeroSt).size = (stC beginSt).size by simp only [stC_size])
  have HIZ := Lib.hid infoN8
  have HSS := Lib.hid (sizeN8 st)
  have HBLK := Lib.hid (fun W (hW : Fr [] w W) => block_bad st bs _ W (h0.below hW) hb)
  have eqE := fun wx => equal_st wx zeroSt
  have HSE := Lib.hid (sizeN8 (zeroSt))
  have HOE := Lib.hid (stC_one (zeroSt))
  have HZE := Lib.hid (show (stC zeroSt).size = (stC (zeroSt)).size by simp only [stC_size])
  have HAW := Lib.hid (fun W (hW : Fr [] w W) => awake_any W (hr.below hW))
  obtain ⟨Z, hZ⟩ : ∃ Z, Z = stC zeroSt := ⟨_, rfl⟩
  rw [← hZ] at HZB HIZ HZE
  rw [← hZ] at HBLK eqE HSE HOE
  obtain ⟨G, hG⟩ : ∃ G, G = stC beginSt := ⟨_, rfl⟩
  rw [← hG] at HBEG HRBEG eqB HSB HOB HZB
  obtain ⟨Q, hQ⟩ : ∃ Q, Q = stC st := ⟨_, rfl⟩
  rw [← hQ] at HSS HBLK ⊢
  have HZ := Lib.hid hZ
  have HROOT := Lib.hid (fun W (hW : Fr [] w W) => root_in i W hi (hr.below hW))
  have HRROOT := Lib.hid (fun W => ref_rootE_any i W hi)
  obtain ⟨K, hK⟩ : ∃ K, K = kk[i]'(by rw [kk_length]; exact hi) := ⟨_, rfl⟩
  rw [← hK] at HROOT HRROOT
  have hd1 : decide ((0 : Int) ≤ (i : Int)) = true := decide_eq_true (by omega)
  have hd2 : decide ((i : Int) ≤ 63) = true := decide_eq_true (by omega)
  clear hK
  have hd3 : decide (n ≤ 1000) = false := decide_eq_false (by omega)
  have hd6 : ((bs.length : Int) != 64) = true := by rw [bne_iff_ne]; omega
  have HLE := Lib.hid hle
  have HMX := Lib.hid hmx
  clear h0 hr hok hi hn hb hle hmx hZ hG hQ
  go_enter Tryd.func4, Tryd.ntmps4
  go_wp2_with (first
    | (refine wpL_boxArr rfl 29 _ rfl Q rfl ?_; intro w1 hh1 hf1 hs1; have HG1 := Lib.hid hh1.out; have hsz1 := hs1.out; clear hh1)
    | (go_at_call 9; refine (HRROOT.out w1).mono ?_; rintro e w2 ⟨rfl, hf2⟩)
    | (go_at_call 10; refine (HBEG.out _).mono ?_; rintro e w3 ⟨rfl, hf3⟩)
    | (refine wpL_newArr rfl 29 rfl Z HIZ.out ?_; intro w4 hh4 hf4 hs4; refine wpL_storeArr rfl 29 (.tmp 10) (.tmp 22) rfl w3.heap.size G Z rfl rfl 29 hh4.out HSB.out HZB.out HOB.out ?_; intro w5 hh5 hf5 hs5))
  have hf03 : Fr [] w w3 := (hf1.trans hf2 (by simp) (n := []) (by simp)).trans hf3 (by simp) (by simp)
  have hf13 : Fr [] w1 w3 := hf2.trans hf3 (by simp) (by simp)
  have hf35 : Fr [] w3 w5 := hf4.trans hf5 (by simp) (by simp)
  have hf05 : Fr [] w w5 := hf03.trans hf35 (by simp) (by simp)
  have hf15 : Fr [] w1 w5 := hf13.trans hf35 (by simp) (by simp)
  have HQ5 := Lib.hid (hf15.heap HG1.out (by simp))
  obtain ⟨g5, hg5⟩ : ∃ g, g = w.heap.size := ⟨_, rfl⟩
  rw [← hg5] at HQ5 ⊢
  obtain ⟨g, hg⟩ : ∃ g, g = w3.heap.size := ⟨_, rfl⟩
  have hhg := hh5.out
  rw [← hg] at hhg ⊢
  have HG := Lib.hid hhg
  clear hg hhg hh4 hh5 hf1 hf3 hf4 hf5 hf13 hf35 hf15 HG1 hs1 hs4 hs5 hsz1 hg5 hf2
  refine wp_region_G [] [(0, false), (2, false), (1, true), (3, false), (4, false), (5, false), (6, true), (7, false), (8, false)] 85 rfl (by kernel_rfl) (by kernel_rfl) (by kernel_rfl) (fun c a d v w h => by cases d <;> exact h) (fun w6 hf6 => ?_)
  simp only [List.map_cons, List.map_nil, List.getElem?_toArray, List.getElem?_cons_succ, List.getElem?_cons_zero, Option.getD_some]
  have hf06 : Fr [] w w6 := hf05.trans hf6 (by simp) (by simp)
  repeat (apply wpG_t; · (intro w' hf'; go_wp2_with fail; exact ⟨rfl, rfl⟩))
  refine wpG_x ?_
  go_wp2_with (go_at_call 11; refine (HROOT.out _ hf06).mono ?_; rintro e w6b ⟨rfl, rfl⟩)
  refine ⟨Fr.refl _ _, rfl, ?_⟩
  have LG : Hid (Later [] w6 (fun w' => w'.heap[g]? = some (.cells G 29 (0, 0)))) := Lib.hid (fun w' hf' => hf'.heap (hf6.heap HG.out (by simp)) (by simp))
  repeat (apply wpG_t; · (intro w' hf'; first
    | (refine wpL_load_want rfl 29 _ rfl g rfl 29 G (0, 0) _ (LG.out w' hf') Tryd.underlying29 rfl HSB.out ?_; exact ⟨rfl, rfl⟩)
    | (go_wp2_with fail; exact ⟨rfl, rfl⟩)))
  refine wpG_x ?_
  go_wp2_with (go_at_call 12; refine (HRBEG.out _).mono ?_; rintro e w7 ⟨rfl, hf7⟩)
  refine ⟨hf7, rfl, ?_⟩
  repeat (apply wpG_t; · (intro w' hf'; go_wp2_with fail; exact ⟨rfl, rfl⟩))
  refine wpG_end ?_
  have hf07 : Fr [] w w7 := hf06.trans hf7 (by simp) (by simp)
  have HQ7 := Lib.hid (hf7.heap (hf6.heap HQ5.out (by simp)) (by simp))
  clear LG HG HQ5 hf05 hf06 hf6 hf7
  have hfX := hf07
  go_wp2_with (first
    | (refine wpL_load_want rfl 29 _ rfl w11.heap.size rfl 29 Z (0, 0) _ HE13.out Tryd.underlying29 rfl HSE.out ?_; refine wpL_val_want rfl (.agg (stC zeroSt)) (by kernel_rfl) ?_; rw [← HZ.out])
    | (refine wpList_load_row rfl 29 _ rfl g5 rfl 29 Q (0, 0) _ HQ7.out Tryd.underlying29 rfl HSS.out ?_; have hmark := 0)
    | (go_at_call 15; refine (HBLK.out _ hfX).mono ?_; rintro e w11 ⟨rfl, hf11⟩)
    | (refine wpL_newArr rfl 29 rfl Z HIZ.out ?_; intro w12 hh12 hf12 hs12; refine wpL_storeArr rfl 29 (.tmp 12) (.tmp 59) rfl w11.heap.size Z Z rfl rfl 29 hh12.out HSE.out rfl HOE.out ?_; intro w13 hh13 hf13 hs13; have HE13 := Lib.hid hh13.out; have hf013 : Fr [] w w13 := ((hfX.trans hf11 (by simp) (n := []) (by simp)).trans hf12 (by simp) (n := []) (by simp)).trans hf13 (by simp) (by simp; have := hfX.size; have := hf11.size; omega))
    | (go_at_call 6; refine (HAW.out _ hf013).mono ?_; rintro e w14 ⟨rfl, hf14⟩))
  go_ret
  exact ⟨rfl, hf013.trans hf14 (by simp) (by simp)⟩
set_option maxRecDepth 100000 in
theorem parts_neg_mid_64 (i : Int) (n : Nat) (st : St) (bs : List UInt8) (v0 : Value) (w : World) (h0 : bytesAt w v0 bs) (hr : rootsAt w) (hok : st.ok) (hi : i < 0) (hn : n ≤ 1000) (hb : bs.length = 64) :
    Calls Tryd.prog 4 #[.int .i64 i, .agg (stC st), v0, .int .i64 n] w fun e w' => e = .returned (.bool true) ∧ Fr [] w w' := by
  obtain ⟨a0, c0, rfl, hle, hmx⟩ := h0.form
  have HB := Lib.hid h0
  have HR := Lib.hid hr
  have HBEG := Lib.hid (fun W => begin_any W)
  have HRBEG := Lib.hid (fun W => ref_beginE_any W)
  have eqB := fun wx => equal_st wx beginSt
  have HSB := Lib.hid (sizeN8 beginSt)
  have HOB := Lib.hid (stC_one beginSt)
  have HZB := Lib.hid (show (stC zeroSt).size = (stC beginSt).size by simp only [stC_size])
  have HIZ := Lib.hid infoN8
  have HSS := Lib.hid (sizeN8 st)
  have HBLK := Lib.hid (fun W (hW : Fr [] w W) => block_ok st bs _ W hok (h0.below hW) hb (hr.below hW))
  have HRBLK := Lib.hid (fun W (hW : Fr [] w W) => ref_block_any st bs _ W hok (h0.below hW) hb)
  have eqE := fun wx => equal_st wx (blockSt st bs)
  have HSE := Lib.hid (sizeN8 (blockSt st bs))
  have HOE := Lib.hid (stC_one (blockSt st bs))
  have HZE := Lib.hid (show (stC zeroSt).size = (stC (blockSt st bs)).size by simp only [stC_size])
  have HAW := Lib.hid (fun W (hW : Fr [] w W) => awake_any W (hr.below hW))
  obtain ⟨E, hE⟩ : ∃ E, E = stC (blockSt st bs) := ⟨_, rfl⟩
  rw [← hE] at HBLK HRBLK eqE HSE HOE HZE
  obtain ⟨Z, hZ⟩ : ∃ Z, Z = stC zeroSt := ⟨_, rfl⟩
  rw [← hZ] at HZB HIZ HZE
  obtain ⟨G, hG⟩ : ∃ G, G = stC beginSt := ⟨_, rfl⟩
  rw [← hG] at HBEG HRBEG eqB HSB HOB HZB
  obtain ⟨Q, hQ⟩ : ∃ Q, Q = stC st := ⟨_, rfl⟩
  rw [← hQ] at HSS HBLK HRBLK ⊢
  have HZ := Lib.hid hZ
  have HROOT := Lib.hid (fun W (hW : Fr [] w W) => root_out i W (Or.inl hi))
  have hd1 : decide ((0 : Int) ≤ i) = false := decide_eq_false (by omega)
  have HFILL := Lib.hid (fun W => fill_any n W (by omega))
  have HRFILL := Lib.hid (fun W => ref_fill_any n W (by omega))
  have HFLE := Lib.hid (show (fillN n).length ≤ maxLen by have := fill_le n; simp only [maxLen]; omega)
  have HFL := Lib.hid (fillN_length n)
  obtain ⟨z, hz⟩ : ∃ z, z = zerosN n + 9 := ⟨_, rfl⟩
  obtain ⟨L, hL⟩ : ∃ L, L = fillN n := ⟨_, rfl⟩
  simp only [← hz, ← hL] at HFILL
  rw [← hz, ← hL] at HFL
  simp only [← hL] at HRFILL HFLE
  clear hz hL
  have hd3 : decide ((n : Int) ≤ 1000) = true := decide_eq_true (by omega)
  have hd4 : decide ((n : Int) < 0) = false := decide_eq_false (by omega)
  have hd5 : decide ((0 : Int) ≤ (n : Int)) = true := decide_eq_true (by omega)
  have hd6 : ((bs.length : Int) != 64) = false := by rw [bne_eq_false_iff_eq]; omega
  have HLE := Lib.hid hle
  have HMX := Lib.hid hmx
  clear h0 hr hok hi hn hb hle hmx hZ hG hQ hE
  go_enter Tryd.func4, Tryd.ntmps4
  go_wp2_with (first
    | (refine wpL_boxArr rfl 29 _ rfl Q rfl ?_; intro w1 hh1 hf1 hs1; have HG1 := Lib.hid hh1.out; have hsz1 := hs1.out; clear hh1)
    | (go_at_call 10; refine (HBEG.out _).mono ?_; rintro e w3 ⟨rfl, hf3⟩)
    | (refine wpL_newArr rfl 29 rfl Z HIZ.out ?_; intro w4 hh4 hf4 hs4; refine wpL_storeArr rfl 29 (.tmp 10) (.tmp 22) rfl w3.heap.size G Z rfl rfl 29 hh4.out HSB.out HZB.out HOB.out ?_; intro w5 hh5 hf5 hs5))
  have hf03 : Fr [] w w3 := hf1.trans hf3 (by simp) (by simp)
  have hf13 : Fr [] w1 w3 := hf3
  have hf35 : Fr [] w3 w5 := hf4.trans hf5 (by simp) (by simp)
  have hf05 : Fr [] w w5 := hf03.trans hf35 (by simp) (by simp)
  have hf15 : Fr [] w1 w5 := hf13.trans hf35 (by simp) (by simp)
  have HQ5 := Lib.hid (hf15.heap HG1.out (by simp))
  obtain ⟨g5, hg5⟩ : ∃ g, g = w.heap.size := ⟨_, rfl⟩
  rw [← hg5] at HQ5 ⊢
  obtain ⟨g, hg⟩ : ∃ g, g = w3.heap.size := ⟨_, rfl⟩
  have hhg := hh5.out
  rw [← hg] at hhg ⊢
  have HG := Lib.hid hhg
  clear hg hhg hh4 hh5 hf1 hf3 hf4 hf5 hf13 hf35 hf15 HG1 hs1 hs4 hs5 hsz1 hg5
  refine wp_region_G [] [(0, false), (2, false), (1, true), (3, false), (4, false), (5, false), (6, true), (7, false), (8, false)] 85 rfl (by kernel_rfl) (by kernel_rfl) (by kernel_rfl) (fun c a d v w h => by cases d <;> exact h) (fun w6 hf6 => ?_)
  simp only [List.map_cons, List.map_nil, List.getElem?_toArray, List.getElem?_cons_succ, List.getElem?_cons_zero, Option.getD_some]
  have hf06 : Fr [] w w6 := hf05.trans hf6 (by simp) (by simp)
  repeat (apply wpG_t; · (intro w' hf'; go_wp2_with fail; exact ⟨rfl, rfl⟩))
  refine wpG_x ?_
  go_wp2_with (go_at_call 11; refine (HROOT.out _ hf06).mono ?_; rintro e w6b ⟨rfl, rfl⟩)
  refine ⟨Fr.refl _ _, rfl, ?_⟩
  have LG : Hid (Later [] w6 (fun w' => w'.heap[g]? = some (.cells G 29 (0, 0)))) := Lib.hid (fun w' hf' => hf'.heap (hf6.heap HG.out (by simp)) (by simp))
  repeat (apply wpG_t; · (intro w' hf'; first
    | (refine wpL_load_want rfl 29 _ rfl g rfl 29 G (0, 0) _ (LG.out w' hf') Tryd.underlying29 rfl HSB.out ?_; exact ⟨rfl, rfl⟩)
    | (go_wp2_with fail; exact ⟨rfl, rfl⟩)))
  refine wpG_x ?_
  go_wp2_with (go_at_call 12; refine (HRBEG.out _).mono ?_; rintro e w7 ⟨rfl, hf7⟩)
  refine ⟨hf7, rfl, ?_⟩
  repeat (apply wpG_t; · (intro w' hf'; go_wp2_with fail; exact ⟨rfl, rfl⟩))
  refine wpG_end ?_
  have hf07 : Fr [] w w7 := hf06.trans hf7 (by simp) (by simp)
  have HQ7 := Lib.hid (hf7.heap (hf6.heap HQ5.out (by simp)) (by simp))
  clear LG HG HQ5 hf05 hf06 hf6 hf7
  go_wp2_with (go_at_call 13; refine (HFILL.out _).mono ?_; rintro e w8 ⟨rfl, hh8, hf8⟩)
  have hb8 : bytesAt w8 (.slice (some ⟨w7.heap.size, 0, none⟩) z z) L := bytesAt_of_heap hh8 HFLE.out _ HFL.out.symm
  refine wp_region_G [] [(0, false), (1, false), (2, false), (3, false), (4, false), (5, false), (6, false), (7, false), (8, false), (9, false), (10, false), (11, false), (12, false), (13, false), (14, true), (15, false), (16, false), (17, false), (18, false)] 85 rfl (by kernel_rfl) (by kernel_rfl) (by kernel_rfl) (fun c a d v w h => by cases d <;> exact h) (fun w9 hf9 => ?_)
  simp only [List.map_cons, List.map_nil, List.getElem?_toArray, List.getElem?_cons_succ, List.getElem?_cons_zero, Option.getD_some]
  have hf09 : Fr [] w w9 := (hf07.trans hf8 (by simp) (n := []) (by simp)).trans hf9 (by simp) (by simp)
  have HQ9 := Lib.hid (hf9.heap (hf8.heap HQ7.out (by simp)) (by simp))
  have hC : Later [] w9 _ := Later.conv (P := Tryd.prog) (hb8.below hf9) (by simp) 22 5 9 Tryd.underlying22 Tryd.underlying5 Tryd.underlying9
  have HC := Lib.hid hC
  clear hC hb8 hh8
  repeat (apply wpG_t; · (intro w' hf'; have hc := HC.out w' hf'; go_wp2_with fail; exact ⟨rfl, rfl⟩))
  refine wpG_x ?_
  go_wp2_with (go_at_call 14; refine (HRFILL.out _).mono ?_; rintro e w10 ⟨vf, rfl, hbf, hf10⟩)
  refine ⟨hf10, rfl, ?_⟩
  have hD : Later [] w10 _ := Later.conv (P := Tryd.prog) hbf (by simp) 22 5 9 Tryd.underlying22 Tryd.underlying5 Tryd.underlying9
  have HD := Lib.hid hD
  clear hD
  repeat (apply wpG_t; · (intro w' hf'; have hc := HD.out w' hf'; go_wp2_with fail; exact ⟨rfl, rfl⟩))
  refine wpG_end ?_
  have hf010 : Fr [] w w10 := hf09.trans hf10 (by simp) (by simp)
  have HQ10 := Lib.hid (hf10.heap HQ9.out (by simp))
  clear HC HD HQ9 HQ7 hf09 hf07 hf8 hf9 hf10
  have hfX := hf010
  go_wp2_with (first
    | (refine wpList_load_row rfl 29 _ rfl g5 rfl 29 Q (0, 0) _ HQ10.out Tryd.underlying29 rfl HSS.out ?_; have hmark := 0)
    | (go_at_call 15; refine (HBLK.out _ hfX).mono ?_; rintro e w11 ⟨rfl, hf11⟩)
    | (refine wpL_newArr rfl 29 rfl Z HIZ.out ?_; intro w12 hh12 hf12 hs12; refine wpL_storeArr rfl 29 (.tmp 12) (.tmp 59) rfl w11.heap.size E Z rfl rfl 29 hh12.out HSE.out HZE.out HOE.out ?_; intro w13 hh13 hf13 hs13; have HE13 := Lib.hid hh13.out; have hf013 : Fr [] w w13 := ((hfX.trans hf11 (by simp) (n := []) (by simp)).trans hf12 (by simp) (n := []) (by simp)).trans hf13 (by simp) (by simp; have := hfX.size; have := hf11.size; omega)))
  have HQ13 := Lib.hid (hf13.heap (hf12.heap (hf11.heap HQ10.out (by simp)) (by simp)) (by simp; have h1 := (Array.getElem?_eq_some_iff.1 HQ10.out).1; have h2 := hf11.size; omega))
  obtain ⟨ge, hge⟩ : ∃ g, g = w11.heap.size := ⟨_, rfl⟩
  rw [← hge] at HE13 ⊢
  refine wp_region_G [] [(0, false), (1, false), (2, false), (3, false), (4, false), (5, true), (6, false), (7, false), (8, false), (9, true), (10, false), (11, false)] 85 rfl (by kernel_rfl) (by kernel_rfl) (by kernel_rfl) (fun c a d v w h => by cases d <;> exact h) (fun w14 hf14 => ?_)
  simp only [List.map_cons, List.map_nil, List.getElem?_toArray, List.getElem?_cons_succ, List.getElem?_cons_zero, Option.getD_some]
  have hf014 : Fr [] w w14 := hf013.trans hf14 (by simp) (by simp)
  have LE : Hid (Later [] w14 (fun w' => w'.heap[ge]? = some (.cells E 29 (0, 0)))) := Lib.hid (fun w' hf' => hf'.heap (hf14.heap HE13.out (by simp)) (by simp))
  have LQ : Hid (Later [] w14 (fun w' => w'.heap[g5]? = some (.cells Q 29 (0, 0)))) := Lib.hid (fun w' hf' => hf'.heap (hf14.heap HQ13.out (by simp)) (by simp))
  repeat (apply wpG_t; · (intro w' hf'; first
    | (refine wpL_load_want rfl 29 _ rfl ge rfl 29 E (0, 0) _ (LE.out w' hf') Tryd.underlying29 rfl HSE.out ?_; exact ⟨rfl, rfl⟩)
    | (refine wpL_load_want rfl 29 _ rfl g5 rfl 29 Q (0, 0) _ (LQ.out w' hf') Tryd.underlying29 rfl HSS.out ?_; exact ⟨rfl, rfl⟩)
    | (go_wp2_with fail; exact ⟨rfl, rfl⟩)))
  refine wpG_x ?_
  go_wp2_with (go_at_call 16; refine (HRBLK.out _ hf014).mono ?_; rintro e w15 ⟨rfl, hf15⟩)
  refine ⟨hf15, rfl, ?_⟩
  repeat (apply wpG_t; · (intro w' hf'; go_wp2_with fail; exact ⟨rfl, rfl⟩))
  refine wpG_x ?_
  have hf015 : Fr [] w w15 := hf014.trans hf15 (by simp) (by simp)
  go_wp2_with (go_at_call 6; refine (HAW.out _ hf015).mono ?_; rintro e w16 ⟨rfl, hf16⟩)
  refine ⟨hf16, rfl, ?_⟩
  repeat (apply wpG_t; · (intro w' hf'; go_wp2_with fail; exact ⟨rfl, rfl⟩))
  refine wpG_end ?_
  go_wp2_with fail
  go_ret
  exact ⟨rfl, hf015.trans hf16 (by simp) (by simp)⟩
set_option maxRecDepth 100000 in
theorem parts_neg_mid_no (i : Int) (n : Nat) (st : St) (bs : List UInt8) (v0 : Value) (w : World) (h0 : bytesAt w v0 bs) (hr : rootsAt w) (hok : st.ok) (hi : i < 0) (hn : n ≤ 1000) (hb : bs.length ≠ 64) :
    Calls Tryd.prog 4 #[.int .i64 i, .agg (stC st), v0, .int .i64 n] w fun e w' => e = .returned (.bool true) ∧ Fr [] w w' := by
  obtain ⟨a0, c0, rfl, hle, hmx⟩ := h0.form
  have HB := Lib.hid h0
  have HR := Lib.hid hr
  have HBEG := Lib.hid (fun W => begin_any W)
  have HRBEG := Lib.hid (fun W => ref_beginE_any W)
  have eqB := fun wx => equal_st wx beginSt
  have HSB := Lib.hid (sizeN8 beginSt)
  have HOB := Lib.hid (stC_one beginSt)
  have HZB := Lib.hid (show (stC zeroSt).size = (stC beginSt).size by simp only [stC_size])
  have HIZ := Lib.hid infoN8
  have HSS := Lib.hid (sizeN8 st)
  have HBLK := Lib.hid (fun W (hW : Fr [] w W) => block_bad st bs _ W (h0.below hW) hb)
  have eqE := fun wx => equal_st wx zeroSt
  have HSE := Lib.hid (sizeN8 (zeroSt))
  have HOE := Lib.hid (stC_one (zeroSt))
  have HZE := Lib.hid (show (stC zeroSt).size = (stC (zeroSt)).size by simp only [stC_size])
  have HAW := Lib.hid (fun W (hW : Fr [] w W) => awake_any W (hr.below hW))
  obtain ⟨Z, hZ⟩ : ∃ Z, Z = stC zeroSt := ⟨_, rfl⟩
  rw [← hZ] at HZB HIZ HZE
  rw [← hZ] at HBLK eqE HSE HOE
  obtain ⟨G, hG⟩ : ∃ G, G = stC beginSt := ⟨_, rfl⟩
  rw [← hG] at HBEG HRBEG eqB HSB HOB HZB
  obtain ⟨Q, hQ⟩ : ∃ Q, Q = stC st := ⟨_, rfl⟩
  rw [← hQ] at HSS HBLK ⊢
  have HZ := Lib.hid hZ
  have HROOT := Lib.hid (fun W (hW : Fr [] w W) => root_out i W (Or.inl hi))
  have hd1 : decide ((0 : Int) ≤ i) = false := decide_eq_false (by omega)
  have HFILL := Lib.hid (fun W => fill_any n W (by omega))
  have HRFILL := Lib.hid (fun W => ref_fill_any n W (by omega))
  have HFLE := Lib.hid (show (fillN n).length ≤ maxLen by have := fill_le n; simp only [maxLen]; omega)
  have HFL := Lib.hid (fillN_length n)
  obtain ⟨z, hz⟩ : ∃ z, z = zerosN n + 9 := ⟨_, rfl⟩
  obtain ⟨L, hL⟩ : ∃ L, L = fillN n := ⟨_, rfl⟩
  simp only [← hz, ← hL] at HFILL
  rw [← hz, ← hL] at HFL
  simp only [← hL] at HRFILL HFLE
  clear hz hL
  have hd3 : decide ((n : Int) ≤ 1000) = true := decide_eq_true (by omega)
  have hd4 : decide ((n : Int) < 0) = false := decide_eq_false (by omega)
  have hd5 : decide ((0 : Int) ≤ (n : Int)) = true := decide_eq_true (by omega)
  have hd6 : ((bs.length : Int) != 64) = true := by rw [bne_iff_ne]; omega
  have HLE := Lib.hid hle
  have HMX := Lib.hid hmx
  clear h0 hr hok hi hn hb hle hmx hZ hG hQ
  go_enter Tryd.func4, Tryd.ntmps4
  go_wp2_with (first
    | (refine wpL_boxArr rfl 29 _ rfl Q rfl ?_; intro w1 hh1 hf1 hs1; have HG1 := Lib.hid hh1.out; have hsz1 := hs1.out; clear hh1)
    | (go_at_call 10; refine (HBEG.out _).mono ?_; rintro e w3 ⟨rfl, hf3⟩)
    | (refine wpL_newArr rfl 29 rfl Z HIZ.out ?_; intro w4 hh4 hf4 hs4; refine wpL_storeArr rfl 29 (.tmp 10) (.tmp 22) rfl w3.heap.size G Z rfl rfl 29 hh4.out HSB.out HZB.out HOB.out ?_; intro w5 hh5 hf5 hs5))
  have hf03 : Fr [] w w3 := hf1.trans hf3 (by simp) (by simp)
  have hf13 : Fr [] w1 w3 := hf3
  have hf35 : Fr [] w3 w5 := hf4.trans hf5 (by simp) (by simp)
  have hf05 : Fr [] w w5 := hf03.trans hf35 (by simp) (by simp)
  have hf15 : Fr [] w1 w5 := hf13.trans hf35 (by simp) (by simp)
  have HQ5 := Lib.hid (hf15.heap HG1.out (by simp))
  obtain ⟨g5, hg5⟩ : ∃ g, g = w.heap.size := ⟨_, rfl⟩
  rw [← hg5] at HQ5 ⊢
  obtain ⟨g, hg⟩ : ∃ g, g = w3.heap.size := ⟨_, rfl⟩
  have hhg := hh5.out
  rw [← hg] at hhg ⊢
  have HG := Lib.hid hhg
  clear hg hhg hh4 hh5 hf1 hf3 hf4 hf5 hf13 hf35 hf15 HG1 hs1 hs4 hs5 hsz1 hg5
  refine wp_region_G [] [(0, false), (2, false), (1, true), (3, false), (4, false), (5, false), (6, true), (7, false), (8, false)] 85 rfl (by kernel_rfl) (by kernel_rfl) (by kernel_rfl) (fun c a d v w h => by cases d <;> exact h) (fun w6 hf6 => ?_)
  simp only [List.map_cons, List.map_nil, List.getElem?_toArray, List.getElem?_cons_succ, List.getElem?_cons_zero, Option.getD_some]
  have hf06 : Fr [] w w6 := hf05.trans hf6 (by simp) (by simp)
  repeat (apply wpG_t; · (intro w' hf'; go_wp2_with fail; exact ⟨rfl, rfl⟩))
  refine wpG_x ?_
  go_wp2_with (go_at_call 11; refine (HROOT.out _ hf06).mono ?_; rintro e w6b ⟨rfl, rfl⟩)
  refine ⟨Fr.refl _ _, rfl, ?_⟩
  have LG : Hid (Later [] w6 (fun w' => w'.heap[g]? = some (.cells G 29 (0, 0)))) := Lib.hid (fun w' hf' => hf'.heap (hf6.heap HG.out (by simp)) (by simp))
  repeat (apply wpG_t; · (intro w' hf'; first
    | (refine wpL_load_want rfl 29 _ rfl g rfl 29 G (0, 0) _ (LG.out w' hf') Tryd.underlying29 rfl HSB.out ?_; exact ⟨rfl, rfl⟩)
    | (go_wp2_with fail; exact ⟨rfl, rfl⟩)))
  refine wpG_x ?_
  go_wp2_with (go_at_call 12; refine (HRBEG.out _).mono ?_; rintro e w7 ⟨rfl, hf7⟩)
  refine ⟨hf7, rfl, ?_⟩
  repeat (apply wpG_t; · (intro w' hf'; go_wp2_with fail; exact ⟨rfl, rfl⟩))
  refine wpG_end ?_
  have hf07 : Fr [] w w7 := hf06.trans hf7 (by simp) (by simp)
  have HQ7 := Lib.hid (hf7.heap (hf6.heap HQ5.out (by simp)) (by simp))
  clear LG HG HQ5 hf05 hf06 hf6 hf7
  go_wp2_with (go_at_call 13; refine (HFILL.out _).mono ?_; rintro e w8 ⟨rfl, hh8, hf8⟩)
  have hb8 : bytesAt w8 (.slice (some ⟨w7.heap.size, 0, none⟩) z z) L := bytesAt_of_heap hh8 HFLE.out _ HFL.out.symm
  refine wp_region_G [] [(0, false), (1, false), (2, false), (3, false), (4, false), (5, false), (6, false), (7, false), (8, false), (9, false), (10, false), (11, false), (12, false), (13, false), (14, true), (15, false), (16, false), (17, false), (18, false)] 85 rfl (by kernel_rfl) (by kernel_rfl) (by kernel_rfl) (fun c a d v w h => by cases d <;> exact h) (fun w9 hf9 => ?_)
  simp only [List.map_cons, List.map_nil, List.getElem?_toArray, List.getElem?_cons_succ, List.getElem?_cons_zero, Option.getD_some]
  have hf09 : Fr [] w w9 := (hf07.trans hf8 (by simp) (n := []) (by simp)).trans hf9 (by simp) (by simp)
  have HQ9 := Lib.hid (hf9.heap (hf8.heap HQ7.out (by simp)) (by simp))
  have hC : Later [] w9 _ := Later.conv (P := Tryd.prog) (hb8.below hf9) (by simp) 22 5 9 Tryd.underlying22 Tryd.underlying5 Tryd.underlying9
  have HC := Lib.hid hC
  clear hC hb8 hh8
  repeat (apply wpG_t; · (intro w' hf'; have hc := HC.out w' hf'; go_wp2_with fail; exact ⟨rfl, rfl⟩))
  refine wpG_x ?_
  go_wp2_with (go_at_call 14; refine (HRFILL.out _).mono ?_; rintro e w10 ⟨vf, rfl, hbf, hf10⟩)
  refine ⟨hf10, rfl, ?_⟩
  have hD : Later [] w10 _ := Later.conv (P := Tryd.prog) hbf (by simp) 22 5 9 Tryd.underlying22 Tryd.underlying5 Tryd.underlying9
  have HD := Lib.hid hD
  clear hD
  repeat (apply wpG_t; · (intro w' hf'; have hc := HD.out w' hf'; go_wp2_with fail; exact ⟨rfl, rfl⟩))
  refine wpG_end ?_
  have hf010 : Fr [] w w10 := hf09.trans hf10 (by simp) (by simp)
  have HQ10 := Lib.hid (hf10.heap HQ9.out (by simp))
  clear HC HD HQ9 HQ7 hf09 hf07 hf8 hf9 hf10
  have hfX := hf010
  go_wp2_with (first
    | (refine wpL_load_want rfl 29 _ rfl w11.heap.size rfl 29 Z (0, 0) _ HE13.out Tryd.underlying29 rfl HSE.out ?_; refine wpL_val_want rfl (.agg (stC zeroSt)) (by kernel_rfl) ?_; rw [← HZ.out])
    | (refine wpList_load_row rfl 29 _ rfl g5 rfl 29 Q (0, 0) _ HQ10.out Tryd.underlying29 rfl HSS.out ?_; have hmark := 0)
    | (go_at_call 15; refine (HBLK.out _ hfX).mono ?_; rintro e w11 ⟨rfl, hf11⟩)
    | (refine wpL_newArr rfl 29 rfl Z HIZ.out ?_; intro w12 hh12 hf12 hs12; refine wpL_storeArr rfl 29 (.tmp 12) (.tmp 59) rfl w11.heap.size Z Z rfl rfl 29 hh12.out HSE.out rfl HOE.out ?_; intro w13 hh13 hf13 hs13; have HE13 := Lib.hid hh13.out; have hf013 : Fr [] w w13 := ((hfX.trans hf11 (by simp) (n := []) (by simp)).trans hf12 (by simp) (n := []) (by simp)).trans hf13 (by simp) (by simp; have := hfX.size; have := hf11.size; omega))
    | (go_at_call 6; refine (HAW.out _ hf013).mono ?_; rintro e w14 ⟨rfl, hf14⟩))
  go_ret
  exact ⟨rfl, hf013.trans hf14 (by simp) (by simp)⟩
set_option maxRecDepth 100000 in
theorem parts_neg_neg_64 (i : Int) (n : Int) (st : St) (bs : List UInt8) (v0 : Value) (w : World) (h0 : bytesAt w v0 bs) (hr : rootsAt w) (hok : st.ok) (hi : i < 0) (hn : n < 0) (hb : bs.length = 64) :
    Calls Tryd.prog 4 #[.int .i64 i, .agg (stC st), v0, .int .i64 n] w fun e w' => e = .returned (.bool true) ∧ Fr [] w w' := by
  obtain ⟨a0, c0, rfl, hle, hmx⟩ := h0.form
  have HB := Lib.hid h0
  have HR := Lib.hid hr
  have HBEG := Lib.hid (fun W => begin_any W)
  have HRBEG := Lib.hid (fun W => ref_beginE_any W)
  have eqB := fun wx => equal_st wx beginSt
  have HSB := Lib.hid (sizeN8 beginSt)
  have HOB := Lib.hid (stC_one beginSt)
  have HZB := Lib.hid (show (stC zeroSt).size = (stC beginSt).size by simp only [stC_size])
  have HIZ := Lib.hid infoN8
  have HSS := Lib.hid (sizeN8 st)
  have HBLK := Lib.hid (fun W (hW : Fr [] w W) => block_ok st bs _ W hok (h0.below hW) hb (hr.below hW))
  have HRBLK := Lib.hid (fun W (hW : Fr [] w W) => ref_block_any st bs _ W hok (h0.below hW) hb)
  have eqE := fun wx => equal_st wx (blockSt st bs)
  have HSE := Lib.hid (sizeN8 (blockSt st bs))
  have HOE := Lib.hid (stC_one (blockSt st bs))
  have HZE := Lib.hid (show (stC zeroSt).size = (stC (blockSt st bs)).size by simp only [stC_size])
  have HAW := Lib.hid (fun W (hW : Fr [] w W) => awake_any W (hr.below hW))
  obtain ⟨E, hE⟩ : ∃ E, E = stC (blockSt st bs) := ⟨_, rfl⟩
  rw [← hE] at HBLK HRBLK eqE HSE HOE HZE
  obtain ⟨Z, hZ⟩ : ∃ Z, Z = stC zeroSt := ⟨_, rfl⟩
  rw [← hZ] at HZB HIZ HZE
  obtain ⟨G, hG⟩ : ∃ G, G = stC beginSt := ⟨_, rfl⟩
  rw [← hG] at HBEG HRBEG eqB HSB HOB HZB
  obtain ⟨Q, hQ⟩ : ∃ Q, Q = stC st := ⟨_, rfl⟩
  rw [← hQ] at HSS HBLK HRBLK ⊢
  have HZ := Lib.hid hZ
  have HROOT := Lib.hid (fun W (hW : Fr [] w W) => root_out i W (Or.inl hi))
  have hd1 : decide ((0 : Int) ≤ i) = false := decide_eq_false (by omega)
  have HFILL := Lib.hid (fun W => fill_neg n W hn)
  have hd3 : decide (n ≤ 1000) = true := decide_eq_true (by omega)
  have hd4 : decide (n < 0) = true := decide_eq_true hn
  have hd5 : decide ((0 : Int) ≤ n) = false := decide_eq_false (by omega)
  have hd6 : ((bs.length : Int) != 64) = false := by rw [bne_eq_false_iff_eq]; omega
  have HLE := Lib.hid hle
  have HMX := Lib.hid hmx
  clear h0 hr hok hi hn hb hle hmx hZ hG hQ hE
  go_enter Tryd.func4, Tryd.ntmps4
  go_wp2_with (first
    | (refine wpL_boxArr rfl 29 _ rfl Q rfl ?_; intro w1 hh1 hf1 hs1; have HG1 := Lib.hid hh1.out; have hsz1 := hs1.out; clear hh1)
    | (go_at_call 10; refine (HBEG.out _).mono ?_; rintro e w3 ⟨rfl, hf3⟩)
    | (refine wpL_newArr rfl 29 rfl Z HIZ.out ?_; intro w4 hh4 hf4 hs4; refine wpL_storeArr rfl 29 (.tmp 10) (.tmp 22) rfl w3.heap.size G Z rfl rfl 29 hh4.out HSB.out HZB.out HOB.out ?_; intro w5 hh5 hf5 hs5))
  have hf03 : Fr [] w w3 := hf1.trans hf3 (by simp) (by simp)
  have hf13 : Fr [] w1 w3 := hf3
  have hf35 : Fr [] w3 w5 := hf4.trans hf5 (by simp) (by simp)
  have hf05 : Fr [] w w5 := hf03.trans hf35 (by simp) (by simp)
  have hf15 : Fr [] w1 w5 := hf13.trans hf35 (by simp) (by simp)
  have HQ5 := Lib.hid (hf15.heap HG1.out (by simp))
  obtain ⟨g5, hg5⟩ : ∃ g, g = w.heap.size := ⟨_, rfl⟩
  rw [← hg5] at HQ5 ⊢
  obtain ⟨g, hg⟩ : ∃ g, g = w3.heap.size := ⟨_, rfl⟩
  have hhg := hh5.out
  rw [← hg] at hhg ⊢
  have HG := Lib.hid hhg
  clear hg hhg hh4 hh5 hf1 hf3 hf4 hf5 hf13 hf35 hf15 HG1 hs1 hs4 hs5 hsz1 hg5
  refine wp_region_G [] [(0, false), (2, false), (1, true), (3, false), (4, false), (5, false), (6, true), (7, false), (8, false)] 85 rfl (by kernel_rfl) (by kernel_rfl) (by kernel_rfl) (fun c a d v w h => by cases d <;> exact h) (fun w6 hf6 => ?_)
  simp only [List.map_cons, List.map_nil, List.getElem?_toArray, List.getElem?_cons_succ, List.getElem?_cons_zero, Option.getD_some]
  have hf06 : Fr [] w w6 := hf05.trans hf6 (by simp) (by simp)
  repeat (apply wpG_t; · (intro w' hf'; go_wp2_with fail; exact ⟨rfl, rfl⟩))
  refine wpG_x ?_
  go_wp2_with (go_at_call 11; refine (HROOT.out _ hf06).mono ?_; rintro e w6b ⟨rfl, rfl⟩)
  refine ⟨Fr.refl _ _, rfl, ?_⟩
  have LG : Hid (Later [] w6 (fun w' => w'.heap[g]? = some (.cells G 29 (0, 0)))) := Lib.hid (fun w' hf' => hf'.heap (hf6.heap HG.out (by simp)) (by simp))
  repeat (apply wpG_t; · (intro w' hf'; first
    | (refine wpL_load_want rfl 29 _ rfl g rfl 29 G (0, 0) _ (LG.out w' hf') Tryd.underlying29 rfl HSB.out ?_; exact ⟨rfl, rfl⟩)
    | (go_wp2_with fail; exact ⟨rfl, rfl⟩)))
  refine wpG_x ?_
  go_wp2_with (go_at_call 12; refine (HRBEG.out _).mono ?_; rintro e w7 ⟨rfl, hf7⟩)
  refine ⟨hf7, rfl, ?_⟩
  repeat (apply wpG_t; · (intro w' hf'; go_wp2_with fail; exact ⟨rfl, rfl⟩))
  refine wpG_end ?_
  have hf07 : Fr [] w w7 := hf06.trans hf7 (by simp) (by simp)
  have HQ7 := Lib.hid (hf7.heap (hf6.heap HQ5.out (by simp)) (by simp))
  clear LG HG HQ5 hf05 hf06 hf6 hf7
  go_wp2_with (go_at_call 13; refine (HFILL.out _).mono ?_; rintro e w8 ⟨rfl, rfl⟩)
  refine wp_region_G [] [(0, false), (1, false), (2, false), (3, false), (4, false), (5, false), (6, false), (7, false), (8, false), (9, false), (10, false), (11, false), (12, false), (13, false), (14, true), (15, false), (16, false), (17, false), (18, false)] 85 rfl (by kernel_rfl) (by kernel_rfl) (by kernel_rfl) (fun c a d v w h => by cases d <;> exact h) (fun w9 hf9 => ?_)
  simp only [List.map_cons, List.map_nil, List.getElem?_toArray, List.getElem?_cons_succ, List.getElem?_cons_zero, Option.getD_some]
  have hf09 : Fr [] w w9 := hf07.trans hf9 (by simp) (by simp)
  have HQ9 := Lib.hid (hf9.heap HQ7.out (by simp))
  repeat (apply wpG_t; · (intro w' hf'; go_wp2_with fail; exact ⟨rfl, rfl⟩))
  refine wpG_x ?_
  go_wp2_with fail
  refine ⟨Fr.refl _ _, rfl, ?_⟩
  repeat (apply wpG_t; · (intro w' hf'; go_wp2_with fail; exact ⟨rfl, rfl⟩))
  refine wpG_end ?_
  have hfX := hf09
  go_wp2_with (first
    | (refine wpList_load_row rfl 29 _ rfl g5 rfl 29 Q (0, 0) _ HQ9.out Tryd.underlying29 rfl HSS.out ?_; have hmark := 0)
    | (go_at_call 15; refine (HBLK.out _ hfX).mono ?_; rintro e w11 ⟨rfl, hf11⟩)
    | (refine wpL_newArr rfl 29 rfl Z HIZ.out ?_; intro w12 hh12 hf12 hs12; refine wpL_storeArr rfl 29 (.tmp 12) (.tmp 59) rfl w11.heap.size E Z rfl rfl 29 hh12.out HSE.out HZE.out HOE.out ?_; intro w13 hh13 hf13 hs13; have HE13 := Lib.hid hh13.out; have hf013 : Fr [] w w13 := ((hfX.trans hf11 (by simp) (n := []) (by simp)).trans hf12 (by simp) (n := []) (by simp)).trans hf13 (by simp) (by simp; have := hfX.size; have := hf11.size; omega)))
  have HQ13 := Lib.hid (hf13.heap (hf12.heap (hf11.heap HQ9.out (by simp)) (by simp)) (by simp; have h1 := (Array.getElem?_eq_some_iff.1 HQ9.out).1; have h2 := hf11.size; omega))
  obtain ⟨ge, hge⟩ : ∃ g, g = w11.heap.size := ⟨_, rfl⟩
  rw [← hge] at HE13 ⊢
  refine wp_region_G [] [(0, false), (1, false), (2, false), (3, false), (4, false), (5, true), (6, false), (7, false), (8, false), (9, true), (10, false), (11, false)] 85 rfl (by kernel_rfl) (by kernel_rfl) (by kernel_rfl) (fun c a d v w h => by cases d <;> exact h) (fun w14 hf14 => ?_)
  simp only [List.map_cons, List.map_nil, List.getElem?_toArray, List.getElem?_cons_succ, List.getElem?_cons_zero, Option.getD_some]
  have hf014 : Fr [] w w14 := hf013.trans hf14 (by simp) (by simp)
  have LE : Hid (Later [] w14 (fun w' => w'.heap[ge]? = some (.cells E 29 (0, 0)))) := Lib.hid (fun w' hf' => hf'.heap (hf14.heap HE13.out (by simp)) (by simp))
  have LQ : Hid (Later [] w14 (fun w' => w'.heap[g5]? = some (.cells Q 29 (0, 0)))) := Lib.hid (fun w' hf' => hf'.heap (hf14.heap HQ13.out (by simp)) (by simp))
  repeat (apply wpG_t; · (intro w' hf'; first
    | (refine wpL_load_want rfl 29 _ rfl ge rfl 29 E (0, 0) _ (LE.out w' hf') Tryd.underlying29 rfl HSE.out ?_; exact ⟨rfl, rfl⟩)
    | (refine wpL_load_want rfl 29 _ rfl g5 rfl 29 Q (0, 0) _ (LQ.out w' hf') Tryd.underlying29 rfl HSS.out ?_; exact ⟨rfl, rfl⟩)
    | (go_wp2_with fail; exact ⟨rfl, rfl⟩)))
  refine wpG_x ?_
  go_wp2_with (go_at_call 16; refine (HRBLK.out _ hf014).mono ?_; rintro e w15 ⟨rfl, hf15⟩)
  refine ⟨hf15, rfl, ?_⟩
  repeat (apply wpG_t; · (intro w' hf'; go_wp2_with fail; exact ⟨rfl, rfl⟩))
  refine wpG_x ?_
  have hf015 : Fr [] w w15 := hf014.trans hf15 (by simp) (by simp)
  go_wp2_with (go_at_call 6; refine (HAW.out _ hf015).mono ?_; rintro e w16 ⟨rfl, hf16⟩)
  refine ⟨hf16, rfl, ?_⟩
  repeat (apply wpG_t; · (intro w' hf'; go_wp2_with fail; exact ⟨rfl, rfl⟩))
  refine wpG_end ?_
  go_wp2_with fail
  go_ret
  exact ⟨rfl, hf015.trans hf16 (by simp) (by simp)⟩
set_option maxRecDepth 100000 in
theorem parts_neg_neg_no (i : Int) (n : Int) (st : St) (bs : List UInt8) (v0 : Value) (w : World) (h0 : bytesAt w v0 bs) (hr : rootsAt w) (hok : st.ok) (hi : i < 0) (hn : n < 0) (hb : bs.length ≠ 64) :
    Calls Tryd.prog 4 #[.int .i64 i, .agg (stC st), v0, .int .i64 n] w fun e w' => e = .returned (.bool true) ∧ Fr [] w w' := by
  obtain ⟨a0, c0, rfl, hle, hmx⟩ := h0.form
  have HB := Lib.hid h0
  have HR := Lib.hid hr
  have HBEG := Lib.hid (fun W => begin_any W)
  have HRBEG := Lib.hid (fun W => ref_beginE_any W)
  have eqB := fun wx => equal_st wx beginSt
  have HSB := Lib.hid (sizeN8 beginSt)
  have HOB := Lib.hid (stC_one beginSt)
  have HZB := Lib.hid (show (stC zeroSt).size = (stC beginSt).size by simp only [stC_size])
  have HIZ := Lib.hid infoN8
  have HSS := Lib.hid (sizeN8 st)
  have HBLK := Lib.hid (fun W (hW : Fr [] w W) => block_bad st bs _ W (h0.below hW) hb)
  have eqE := fun wx => equal_st wx zeroSt
  have HSE := Lib.hid (sizeN8 (zeroSt))
  have HOE := Lib.hid (stC_one (zeroSt))
  have HZE := Lib.hid (show (stC zeroSt).size = (stC (zeroSt)).size by simp only [stC_size])
  have HAW := Lib.hid (fun W (hW : Fr [] w W) => awake_any W (hr.below hW))
  obtain ⟨Z, hZ⟩ : ∃ Z, Z = stC zeroSt := ⟨_, rfl⟩
  rw [← hZ] at HZB HIZ HZE
  rw [← hZ] at HBLK eqE HSE HOE
  obtain ⟨G, hG⟩ : ∃ G, G = stC beginSt := ⟨_, rfl⟩
  rw [← hG] at HBEG HRBEG eqB HSB HOB HZB
  obtain ⟨Q, hQ⟩ : ∃ Q, Q = stC st := ⟨_, rfl⟩
  rw [← hQ] at HSS HBLK ⊢
  have HZ := Lib.hid hZ
  have HROOT := Lib.hid (fun W (hW : Fr [] w W) => root_out i W (Or.inl hi))
  have hd1 : decide ((0 : Int) ≤ i) = false := decide_eq_false (by omega)
  have HFILL := Lib.hid (fun W => fill_neg n W hn)
  have hd3 : decide (n ≤ 1000) = true := decide_eq_true (by omega)
  have hd4 : decide (n < 0) = true := decide_eq_true hn
  have hd5 : decide ((0 : Int) ≤ n) = false := decide_eq_false (by omega)
  have hd6 : ((bs.length : Int) != 64) = true := by rw [bne_iff_ne]; omega
  have HLE := Lib.hid hle
  have HMX := Lib.hid hmx
  clear h0 hr hok hi hn hb hle hmx hZ hG hQ
  go_enter Tryd.func4, Tryd.ntmps4
  go_wp2_with (first
    | (refine wpL_boxArr rfl 29 _ rfl Q rfl ?_; intro w1 hh1 hf1 hs1; have HG1 := Lib.hid hh1.out; have hsz1 := hs1.out; clear hh1)
    | (go_at_call 10; refine (HBEG.out _).mono ?_; rintro e w3 ⟨rfl, hf3⟩)
    | (refine wpL_newArr rfl 29 rfl Z HIZ.out ?_; intro w4 hh4 hf4 hs4; refine wpL_storeArr rfl 29 (.tmp 10) (.tmp 22) rfl w3.heap.size G Z rfl rfl 29 hh4.out HSB.out HZB.out HOB.out ?_; intro w5 hh5 hf5 hs5))
  have hf03 : Fr [] w w3 := hf1.trans hf3 (by simp) (by simp)
  have hf13 : Fr [] w1 w3 := hf3
  have hf35 : Fr [] w3 w5 := hf4.trans hf5 (by simp) (by simp)
  have hf05 : Fr [] w w5 := hf03.trans hf35 (by simp) (by simp)
  have hf15 : Fr [] w1 w5 := hf13.trans hf35 (by simp) (by simp)
  have HQ5 := Lib.hid (hf15.heap HG1.out (by simp))
  obtain ⟨g5, hg5⟩ : ∃ g, g = w.heap.size := ⟨_, rfl⟩
  rw [← hg5] at HQ5 ⊢
  obtain ⟨g, hg⟩ : ∃ g, g = w3.heap.size := ⟨_, rfl⟩
  have hhg := hh5.out
  rw [← hg] at hhg ⊢
  have HG := Lib.hid hhg
  clear hg hhg hh4 hh5 hf1 hf3 hf4 hf5 hf13 hf35 hf15 HG1 hs1 hs4 hs5 hsz1 hg5
  refine wp_region_G [] [(0, false), (2, false), (1, true), (3, false), (4, false), (5, false), (6, true), (7, false), (8, false)] 85 rfl (by kernel_rfl) (by kernel_rfl) (by kernel_rfl) (fun c a d v w h => by cases d <;> exact h) (fun w6 hf6 => ?_)
  simp only [List.map_cons, List.map_nil, List.getElem?_toArray, List.getElem?_cons_succ, List.getElem?_cons_zero, Option.getD_some]
  have hf06 : Fr [] w w6 := hf05.trans hf6 (by simp) (by simp)
  repeat (apply wpG_t; · (intro w' hf'; go_wp2_with fail; exact ⟨rfl, rfl⟩))
  refine wpG_x ?_
  go_wp2_with (go_at_call 11; refine (HROOT.out _ hf06).mono ?_; rintro e w6b ⟨rfl, rfl⟩)
  refine ⟨Fr.refl _ _, rfl, ?_⟩
  have LG : Hid (Later [] w6 (fun w' => w'.heap[g]? = some (.cells G 29 (0, 0)))) := Lib.hid (fun w' hf' => hf'.heap (hf6.heap HG.out (by simp)) (by simp))
  repeat (apply wpG_t; · (intro w' hf'; first
    | (refine wpL_load_want rfl 29 _ rfl g rfl 29 G (0, 0) _ (LG.out w' hf') Tryd.underlying29 rfl HSB.out ?_; exact ⟨rfl, rfl⟩)
    | (go_wp2_with fail; exact ⟨rfl, rfl⟩)))
  refine wpG_x ?_
  go_wp2_with (go_at_call 12; refine (HRBEG.out _).mono ?_; rintro e w7 ⟨rfl, hf7⟩)
  refine ⟨hf7, rfl, ?_⟩
  repeat (apply wpG_t; · (intro w' hf'; go_wp2_with fail; exact ⟨rfl, rfl⟩))
  refine wpG_end ?_
  have hf07 : Fr [] w w7 := hf06.trans hf7 (by simp) (by simp)
  have HQ7 := Lib.hid (hf7.heap (hf6.heap HQ5.out (by simp)) (by simp))
  clear LG HG HQ5 hf05 hf06 hf6 hf7
  go_wp2_with (go_at_call 13; refine (HFILL.out _).mono ?_; rintro e w8 ⟨rfl, rfl⟩)
  refine wp_region_G [] [(0, false), (1, false), (2, false), (3, false), (4, false), (5, false), (6, false), (7, false), (8, false), (9, false), (10, false), (11, false), (12, false), (13, false), (14, true), (15, false), (16, false), (17, false), (18, false)] 85 rfl (by kernel_rfl) (by kernel_rfl) (by kernel_rfl) (fun c a d v w h => by cases d <;> exact h) (fun w9 hf9 => ?_)
  simp only [List.map_cons, List.map_nil, List.getElem?_toArray, List.getElem?_cons_succ, List.getElem?_cons_zero, Option.getD_some]
  have hf09 : Fr [] w w9 := hf07.trans hf9 (by simp) (by simp)
  have HQ9 := Lib.hid (hf9.heap HQ7.out (by simp))
  repeat (apply wpG_t; · (intro w' hf'; go_wp2_with fail; exact ⟨rfl, rfl⟩))
  refine wpG_x ?_
  go_wp2_with fail
  refine ⟨Fr.refl _ _, rfl, ?_⟩
  repeat (apply wpG_t; · (intro w' hf'; go_wp2_with fail; exact ⟨rfl, rfl⟩))
  refine wpG_end ?_
  have hfX := hf09
  go_wp2_with (first
    | (refine wpL_load_want rfl 29 _ rfl w11.heap.size rfl 29 Z (0, 0) _ HE13.out Tryd.underlying29 rfl HSE.out ?_; refine wpL_val_want rfl (.agg (stC zeroSt)) (by kernel_rfl) ?_; rw [← HZ.out])
    | (refine wpList_load_row rfl 29 _ rfl g5 rfl 29 Q (0, 0) _ HQ9.out Tryd.underlying29 rfl HSS.out ?_; have hmark := 0)
    | (go_at_call 15; refine (HBLK.out _ hfX).mono ?_; rintro e w11 ⟨rfl, hf11⟩)
    | (refine wpL_newArr rfl 29 rfl Z HIZ.out ?_; intro w12 hh12 hf12 hs12; refine wpL_storeArr rfl 29 (.tmp 12) (.tmp 59) rfl w11.heap.size Z Z rfl rfl 29 hh12.out HSE.out rfl HOE.out ?_; intro w13 hh13 hf13 hs13; have HE13 := Lib.hid hh13.out; have hf013 : Fr [] w w13 := ((hfX.trans hf11 (by simp) (n := []) (by simp)).trans hf12 (by simp) (n := []) (by simp)).trans hf13 (by simp) (by simp; have := hfX.size; have := hf11.size; omega))
    | (go_at_call 6; refine (HAW.out _ hf013).mono ?_; rintro e w14 ⟨rfl, hf14⟩))
  go_ret
  exact ⟨rfl, hf013.trans hf14 (by simp) (by simp)⟩
set_option maxRecDepth 100000 in
theorem parts_neg_big_64 (i : Int) (n : Int) (st : St) (bs : List UInt8) (v0 : Value) (w : World) (h0 : bytesAt w v0 bs) (hr : rootsAt w) (hok : st.ok) (hi : i < 0) (hn : 1000 < n) (hb : bs.length = 64) :
    Calls Tryd.prog 4 #[.int .i64 i, .agg (stC st), v0, .int .i64 n] w fun e w' => e = .returned (.bool true) ∧ Fr [] w w' := by
  obtain ⟨a0, c0, rfl, hle, hmx⟩ := h0.form
  have HB := Lib.hid h0
  have HR := Lib.hid hr
  have HBEG := Lib.hid (fun W => begin_any W)
  have HRBEG := Lib.hid (fun W => ref_beginE_any W)
  have eqB := fun wx => equal_st wx beginSt
  have HSB := Lib.hid (sizeN8 beginSt)
  have HOB := Lib.hid (stC_one beginSt)
  have HZB := Lib.hid (show (stC zeroSt).size = (stC beginSt).size by simp only [stC_size])
  have HIZ := Lib.hid infoN8
  have HSS := Lib.hid (sizeN8 st)
  have HBLK := Lib.hid (fun W (hW : Fr [] w W) => block_ok st bs _ W hok (h0.below hW) hb (hr.below hW))
  have HRBLK := Lib.hid (fun W (hW : Fr [] w W) => ref_block_any st bs _ W hok (h0.below hW) hb)
  have eqE := fun wx => equal_st wx (blockSt st bs)
  have HSE := Lib.hid (sizeN8 (blockSt st bs))
  have HOE := Lib.hid (stC_one (blockSt st bs))
  have HZE := Lib.hid (show (stC zeroSt).size = (stC (blockSt st bs)).size by simp only [stC_size])
  have HAW := Lib.hid (fun W (hW : Fr [] w W) => awake_any W (hr.below hW))
  obtain ⟨E, hE⟩ : ∃ E, E = stC (blockSt st bs) := ⟨_, rfl⟩
  rw [← hE] at HBLK HRBLK eqE HSE HOE HZE
  obtain ⟨Z, hZ⟩ : ∃ Z, Z = stC zeroSt := ⟨_, rfl⟩
  rw [← hZ] at HZB HIZ HZE
  obtain ⟨G, hG⟩ : ∃ G, G = stC beginSt := ⟨_, rfl⟩
  rw [← hG] at HBEG HRBEG eqB HSB HOB HZB
  obtain ⟨Q, hQ⟩ : ∃ Q, Q = stC st := ⟨_, rfl⟩
  rw [← hQ] at HSS HBLK HRBLK ⊢
  have HZ := Lib.hid hZ
  have HROOT := Lib.hid (fun W (hW : Fr [] w W) => root_out i W (Or.inl hi))
  have hd1 : decide ((0 : Int) ≤ i) = false := decide_eq_false (by omega)
  have hd3 : decide (n ≤ 1000) = false := decide_eq_false (by omega)
  have hd6 : ((bs.length : Int) != 64) = false := by rw [bne_eq_false_iff_eq]; omega
  have HLE := Lib.hid hle
  have HMX := Lib.hid hmx
  clear h0 hr hok hi hn hb hle hmx hZ hG hQ hE
  go_enter Tryd.func4, Tryd.ntmps4
  go_wp2_with (first
    | (refine wpL_boxArr rfl 29 _ rfl Q rfl ?_; intro w1 hh1 hf1 hs1; have HG1 := Lib.hid hh1.out; have hsz1 := hs1.out; clear hh1)
    | (go_at_call 10; refine (HBEG.out _).mono ?_; rintro e w3 ⟨rfl, hf3⟩)
    | (refine wpL_newArr rfl 29 rfl Z HIZ.out ?_; intro w4 hh4 hf4 hs4; refine wpL_storeArr rfl 29 (.tmp 10) (.tmp 22) rfl w3.heap.size G Z rfl rfl 29 hh4.out HSB.out HZB.out HOB.out ?_; intro w5 hh5 hf5 hs5))
  have hf03 : Fr [] w w3 := hf1.trans hf3 (by simp) (by simp)
  have hf13 : Fr [] w1 w3 := hf3
  have hf35 : Fr [] w3 w5 := hf4.trans hf5 (by simp) (by simp)
  have hf05 : Fr [] w w5 := hf03.trans hf35 (by simp) (by simp)
  have hf15 : Fr [] w1 w5 := hf13.trans hf35 (by simp) (by simp)
  have HQ5 := Lib.hid (hf15.heap HG1.out (by simp))
  obtain ⟨g5, hg5⟩ : ∃ g, g = w.heap.size := ⟨_, rfl⟩
  rw [← hg5] at HQ5 ⊢
  obtain ⟨g, hg⟩ : ∃ g, g = w3.heap.size := ⟨_, rfl⟩
  have hhg := hh5.out
  rw [← hg] at hhg ⊢
  have HG := Lib.hid hhg
  clear hg hhg hh4 hh5 hf1 hf3 hf4 hf5 hf13 hf35 hf15 HG1 hs1 hs4 hs5 hsz1 hg5
  refine wp_region_G [] [(0, false), (2, false), (1, true), (3, false), (4, false), (5, false), (6, true), (7, false), (8, false)] 85 rfl (by kernel_rfl) (by kernel_rfl) (by kernel_rfl) (fun c a d v w h => by cases d <;> exact h) (fun w6 hf6 => ?_)
  simp only [List.map_cons, List.map_nil, List.getElem?_toArray, List.getElem?_cons_succ, List.getElem?_cons_zero, Option.getD_some]
  have hf06 : Fr [] w w6 := hf05.trans hf6 (by simp) (by simp)
  repeat (apply wpG_t; · (intro w' hf'; go_wp2_with fail; exact ⟨rfl, rfl⟩))
  refine wpG_x ?_
  go_wp2_with (go_at_call 11; refine (HROOT.out _ hf06).mono ?_; rintro e w6b ⟨rfl, rfl⟩)
  refine ⟨Fr.refl _ _, rfl, ?_⟩
  have LG : Hid (Later [] w6 (fun w' => w'.heap[g]? = some (.cells G 29 (0, 0)))) := Lib.hid (fun w' hf' => hf'.heap (hf6.heap HG.out (by simp)) (by simp))
  repeat (apply wpG_t; · (intro w' hf'; first
    | (refine wpL_load_want rfl 29 _ rfl g rfl 29 G (0, 0) _ (LG.out w' hf') Tryd.underlying29 rfl HSB.out ?_; exact ⟨rfl, rfl⟩)
    | (go_wp2_with fail; exact ⟨rfl, rfl⟩)))
  refine wpG_x ?_
  go_wp2_with (go_at_call 12; refine (HRBEG.out _).mono ?_; rintro e w7 ⟨rfl, hf7⟩)
  refine ⟨hf7, rfl, ?_⟩
  repeat (apply wpG_t; · (intro w' hf'; go_wp2_with fail; exact ⟨rfl, rfl⟩))
  refine wpG_end ?_
  have hf07 : Fr [] w w7 := hf06.trans hf7 (by simp) (by simp)
  have HQ7 := Lib.hid (hf7.heap (hf6.heap HQ5.out (by simp)) (by simp))
  clear LG HG HQ5 hf05 hf06 hf6 hf7
  have hfX := hf07
  go_wp2_with (first
    | (refine wpList_load_row rfl 29 _ rfl g5 rfl 29 Q (0, 0) _ HQ7.out Tryd.underlying29 rfl HSS.out ?_; have hmark := 0)
    | (go_at_call 15; refine (HBLK.out _ hfX).mono ?_; rintro e w11 ⟨rfl, hf11⟩)
    | (refine wpL_newArr rfl 29 rfl Z HIZ.out ?_; intro w12 hh12 hf12 hs12; refine wpL_storeArr rfl 29 (.tmp 12) (.tmp 59) rfl w11.heap.size E Z rfl rfl 29 hh12.out HSE.out HZE.out HOE.out ?_; intro w13 hh13 hf13 hs13; have HE13 := Lib.hid hh13.out; have hf013 : Fr [] w w13 := ((hfX.trans hf11 (by simp) (n := []) (by simp)).trans hf12 (by simp) (n := []) (by simp)).trans hf13 (by simp) (by simp; have := hfX.size; have := hf11.size; omega)))
  have HQ13 := Lib.hid (hf13.heap (hf12.heap (hf11.heap HQ7.out (by simp)) (by simp)) (by simp; have h1 := (Array.getElem?_eq_some_iff.1 HQ7.out).1; have h2 := hf11.size; omega))
  obtain ⟨ge, hge⟩ : ∃ g, g = w11.heap.size := ⟨_, rfl⟩
  rw [← hge] at HE13 ⊢
  refine wp_region_G [] [(0, false), (1, false), (2, false), (3, false), (4, false), (5, true), (6, false), (7, false), (8, false), (9, true), (10, false), (11, false)] 85 rfl (by kernel_rfl) (by kernel_rfl) (by kernel_rfl) (fun c a d v w h => by cases d <;> exact h) (fun w14 hf14 => ?_)
  simp only [List.map_cons, List.map_nil, List.getElem?_toArray, List.getElem?_cons_succ, List.getElem?_cons_zero, Option.getD_some]
  have hf014 : Fr [] w w14 := hf013.trans hf14 (by simp) (by simp)
  have LE : Hid (Later [] w14 (fun w' => w'.heap[ge]? = some (.cells E 29 (0, 0)))) := Lib.hid (fun w' hf' => hf'.heap (hf14.heap HE13.out (by simp)) (by simp))
  have LQ : Hid (Later [] w14 (fun w' => w'.heap[g5]? = some (.cells Q 29 (0, 0)))) := Lib.hid (fun w' hf' => hf'.heap (hf14.heap HQ13.out (by simp)) (by simp))
  repeat (apply wpG_t; · (intro w' hf'; first
    | (refine wpL_load_want rfl 29 _ rfl ge rfl 29 E (0, 0) _ (LE.out w' hf') Tryd.underlying29 rfl HSE.out ?_; exact ⟨rfl, rfl⟩)
    | (refine wpL_load_want rfl 29 _ rfl g5 rfl 29 Q (0, 0) _ (LQ.out w' hf') Tryd.underlying29 rfl HSS.out ?_; exact ⟨rfl, rfl⟩)
    | (go_wp2_with fail; exact ⟨rfl, rfl⟩)))
  refine wpG_x ?_
  go_wp2_with (go_at_call 16; refine (HRBLK.out _ hf014).mono ?_; rintro e w15 ⟨rfl, hf15⟩)
  refine ⟨hf15, rfl, ?_⟩
  repeat (apply wpG_t; · (intro w' hf'; go_wp2_with fail; exact ⟨rfl, rfl⟩))
  refine wpG_x ?_
  have hf015 : Fr [] w w15 := hf014.trans hf15 (by simp) (by simp)
  go_wp2_with (go_at_call 6; refine (HAW.out _ hf015).mono ?_; rintro e w16 ⟨rfl, hf16⟩)
  refine ⟨hf16, rfl, ?_⟩
  repeat (apply wpG_t; · (intro w' hf'; go_wp2_with fail; exact ⟨rfl, rfl⟩))
  refine wpG_end ?_
  go_wp2_with fail
  go_ret
  exact ⟨rfl, hf015.trans hf16 (by simp) (by simp)⟩
set_option maxRecDepth 100000 in
theorem parts_neg_big_no (i : Int) (n : Int) (st : St) (bs : List UInt8) (v0 : Value) (w : World) (h0 : bytesAt w v0 bs) (hr : rootsAt w) (hok : st.ok) (hi : i < 0) (hn : 1000 < n) (hb : bs.length ≠ 64) :
    Calls Tryd.prog 4 #[.int .i64 i, .agg (stC st), v0, .int .i64 n] w fun e w' => e = .returned (.bool true) ∧ Fr [] w w' := by
  obtain ⟨a0, c0, rfl, hle, hmx⟩ := h0.form
  have HB := Lib.hid h0
  have HR := Lib.hid hr
  have HBEG := Lib.hid (fun W => begin_any W)
  have HRBEG := Lib.hid (fun W => ref_beginE_any W)
  have eqB := fun wx => equal_st wx beginSt
  have HSB := Lib.hid (sizeN8 beginSt)
  have HOB := Lib.hid (stC_one beginSt)
  have HZB := Lib.hid (show (stC zeroSt).size = (stC beginSt).size by simp only [stC_size])
  have HIZ := Lib.hid infoN8
  have HSS := Lib.hid (sizeN8 st)
  have HBLK := Lib.hid (fun W (hW : Fr [] w W) => block_bad st bs _ W (h0.below hW) hb)
  have eqE := fun wx => equal_st wx zeroSt
  have HSE := Lib.hid (sizeN8 (zeroSt))
  have HOE := Lib.hid (stC_one (zeroSt))
  have HZE := Lib.hid (show (stC zeroSt).size = (stC (zeroSt)).size by simp only [stC_size])
  have HAW := Lib.hid (fun W (hW : Fr [] w W) => awake_any W (hr.below hW))
  obtain ⟨Z, hZ⟩ : ∃ Z, Z = stC zeroSt := ⟨_, rfl⟩
  rw [← hZ] at HZB HIZ HZE
  rw [← hZ] at HBLK eqE HSE HOE
  obtain ⟨G, hG⟩ : ∃ G, G = stC beginSt := ⟨_, rfl⟩
  rw [← hG] at HBEG HRBEG eqB HSB HOB HZB
  obtain ⟨Q, hQ⟩ : ∃ Q, Q = stC st := ⟨_, rfl⟩
  rw [← hQ] at HSS HBLK ⊢
  have HZ := Lib.hid hZ
  have HROOT := Lib.hid (fun W (hW : Fr [] w W) => root_out i W (Or.inl hi))
  have hd1 : decide ((0 : Int) ≤ i) = false := decide_eq_false (by omega)
  have hd3 : decide (n ≤ 1000) = false := decide_eq_false (by omega)
  have hd6 : ((bs.length : Int) != 64) = true := by rw [bne_iff_ne]; omega
  have HLE := Lib.hid hle
  have HMX := Lib.hid hmx
  clear h0 hr hok hi hn hb hle hmx hZ hG hQ
  go_enter Tryd.func4, Tryd.ntmps4
  go_wp2_with (first
    | (refine wpL_boxArr rfl 29 _ rfl Q rfl ?_; intro w1 hh1 hf1 hs1; have HG1 := Lib.hid hh1.out; have hsz1 := hs1.out; clear hh1)
    | (go_at_call 10; refine (HBEG.out _).mono ?_; rintro e w3 ⟨rfl, hf3⟩)
    | (refine wpL_newArr rfl 29 rfl Z HIZ.out ?_; intro w4 hh4 hf4 hs4; refine wpL_storeArr rfl 29 (.tmp 10) (.tmp 22) rfl w3.heap.size G Z rfl rfl 29 hh4.out HSB.out HZB.out HOB.out ?_; intro w5 hh5 hf5 hs5))
  have hf03 : Fr [] w w3 := hf1.trans hf3 (by simp) (by simp)
  have hf13 : Fr [] w1 w3 := hf3
  have hf35 : Fr [] w3 w5 := hf4.trans hf5 (by simp) (by simp)
  have hf05 : Fr [] w w5 := hf03.trans hf35 (by simp) (by simp)
  have hf15 : Fr [] w1 w5 := hf13.trans hf35 (by simp) (by simp)
  have HQ5 := Lib.hid (hf15.heap HG1.out (by simp))
  obtain ⟨g5, hg5⟩ : ∃ g, g = w.heap.size := ⟨_, rfl⟩
  rw [← hg5] at HQ5 ⊢
  obtain ⟨g, hg⟩ : ∃ g, g = w3.heap.size := ⟨_, rfl⟩
  have hhg := hh5.out
  rw [← hg] at hhg ⊢
  have HG := Lib.hid hhg
  clear hg hhg hh4 hh5 hf1 hf3 hf4 hf5 hf13 hf35 hf15 HG1 hs1 hs4 hs5 hsz1 hg5
  refine wp_region_G [] [(0, false), (2, false), (1, true), (3, false), (4, false), (5, false), (6, true), (7, false), (8, false)] 85 rfl (by kernel_rfl) (by kernel_rfl) (by kernel_rfl) (fun c a d v w h => by cases d <;> exact h) (fun w6 hf6 => ?_)
  simp only [List.map_cons, List.map_nil, List.getElem?_toArray, List.getElem?_cons_succ, List.getElem?_cons_zero, Option.getD_some]
  have hf06 : Fr [] w w6 := hf05.trans hf6 (by simp) (by simp)
  repeat (apply wpG_t; · (intro w' hf'; go_wp2_with fail; exact ⟨rfl, rfl⟩))
  refine wpG_x ?_
  go_wp2_with (go_at_call 11; refine (HROOT.out _ hf06).mono ?_; rintro e w6b ⟨rfl, rfl⟩)
  refine ⟨Fr.refl _ _, rfl, ?_⟩
  have LG : Hid (Later [] w6 (fun w' => w'.heap[g]? = some (.cells G 29 (0, 0)))) := Lib.hid (fun w' hf' => hf'.heap (hf6.heap HG.out (by simp)) (by simp))
  repeat (apply wpG_t; · (intro w' hf'; first
    | (refine wpL_load_want rfl 29 _ rfl g rfl 29 G (0, 0) _ (LG.out w' hf') Tryd.underlying29 rfl HSB.out ?_; exact ⟨rfl, rfl⟩)
    | (go_wp2_with fail; exact ⟨rfl, rfl⟩)))
  refine wpG_x ?_
  go_wp2_with (go_at_call 12; refine (HRBEG.out _).mono ?_; rintro e w7 ⟨rfl, hf7⟩)
  refine ⟨hf7, rfl, ?_⟩
  repeat (apply wpG_t; · (intro w' hf'; go_wp2_with fail; exact ⟨rfl, rfl⟩))
  refine wpG_end ?_
  have hf07 : Fr [] w w7 := hf06.trans hf7 (by simp) (by simp)
  have HQ7 := Lib.hid (hf7.heap (hf6.heap HQ5.out (by simp)) (by simp))
  clear LG HG HQ5 hf05 hf06 hf6 hf7
  have hfX := hf07
  go_wp2_with (first
    | (refine wpL_load_want rfl 29 _ rfl w11.heap.size rfl 29 Z (0, 0) _ HE13.out Tryd.underlying29 rfl HSE.out ?_; refine wpL_val_want rfl (.agg (stC zeroSt)) (by kernel_rfl) ?_; rw [← HZ.out])
    | (refine wpList_load_row rfl 29 _ rfl g5 rfl 29 Q (0, 0) _ HQ7.out Tryd.underlying29 rfl HSS.out ?_; have hmark := 0)
    | (go_at_call 15; refine (HBLK.out _ hfX).mono ?_; rintro e w11 ⟨rfl, hf11⟩)
    | (refine wpL_newArr rfl 29 rfl Z HIZ.out ?_; intro w12 hh12 hf12 hs12; refine wpL_storeArr rfl 29 (.tmp 12) (.tmp 59) rfl w11.heap.size Z Z rfl rfl 29 hh12.out HSE.out rfl HOE.out ?_; intro w13 hh13 hf13 hs13; have HE13 := Lib.hid hh13.out; have hf013 : Fr [] w w13 := ((hfX.trans hf11 (by simp) (n := []) (by simp)).trans hf12 (by simp) (n := []) (by simp)).trans hf13 (by simp) (by simp; have := hfX.size; have := hf11.size; omega))
    | (go_at_call 6; refine (HAW.out _ hf013).mono ?_; rintro e w14 ⟨rfl, hf14⟩))
  go_ret
  exact ⟨rfl, hf013.trans hf14 (by simp) (by simp)⟩
set_option maxRecDepth 100000 in
theorem parts_big_mid_64 (i : Int) (n : Nat) (st : St) (bs : List UInt8) (v0 : Value) (w : World) (h0 : bytesAt w v0 bs) (hr : rootsAt w) (hok : st.ok) (hi : 63 < i) (hn : n ≤ 1000) (hb : bs.length = 64) :
    Calls Tryd.prog 4 #[.int .i64 i, .agg (stC st), v0, .int .i64 n] w fun e w' => e = .returned (.bool true) ∧ Fr [] w w' := by
  obtain ⟨a0, c0, rfl, hle, hmx⟩ := h0.form
  have HB := Lib.hid h0
  have HR := Lib.hid hr
  have HBEG := Lib.hid (fun W => begin_any W)
  have HRBEG := Lib.hid (fun W => ref_beginE_any W)
  have eqB := fun wx => equal_st wx beginSt
  have HSB := Lib.hid (sizeN8 beginSt)
  have HOB := Lib.hid (stC_one beginSt)
  have HZB := Lib.hid (show (stC zeroSt).size = (stC beginSt).size by simp only [stC_size])
  have HIZ := Lib.hid infoN8
  have HSS := Lib.hid (sizeN8 st)
  have HBLK := Lib.hid (fun W (hW : Fr [] w W) => block_ok st bs _ W hok (h0.below hW) hb (hr.below hW))
  have HRBLK := Lib.hid (fun W (hW : Fr [] w W) => ref_block_any st bs _ W hok (h0.below hW) hb)
  have eqE := fun wx => equal_st wx (blockSt st bs)
  have HSE := Lib.hid (sizeN8 (blockSt st bs))
  have HOE := Lib.hid (stC_one (blockSt st bs))
  have HZE := Lib.hid (show (stC zeroSt).size = (stC (blockSt st bs)).size by simp only [stC_size])
  have HAW := Lib.hid (fun W (hW : Fr [] w W) => awake_any W (hr.below hW))
  obtain ⟨E, hE⟩ : ∃ E, E = stC (blockSt st bs) := ⟨_, rfl⟩
  rw [← hE] at HBLK HRBLK eqE HSE HOE HZE
  obtain ⟨Z, hZ⟩ : ∃ Z, Z = stC zeroSt := ⟨_, rfl⟩
  rw [← hZ] at HZB HIZ HZE
  obtain ⟨G, hG⟩ : ∃ G, G = stC beginSt := ⟨_, rfl⟩
  rw [← hG] at HBEG HRBEG eqB HSB HOB HZB
  obtain ⟨Q, hQ⟩ : ∃ Q, Q = stC st := ⟨_, rfl⟩
  rw [← hQ] at HSS HBLK HRBLK ⊢
  have HZ := Lib.hid hZ
  have HROOT := Lib.hid (fun W (hW : Fr [] w W) => root_out i W (Or.inr (by omega)))
  have hd1 : decide ((0 : Int) ≤ i) = true := decide_eq_true (by omega)
  have hd2 : decide (i ≤ 63) = false := decide_eq_false (by omega)
  have HFILL := Lib.hid (fun W => fill_any n W (by omega))
  have HRFILL := Lib.hid (fun W => ref_fill_any n W (by omega))
  have HFLE := Lib.hid (show (fillN n).length ≤ maxLen by have := fill_le n; simp only [maxLen]; omega)
  have HFL := Lib.hid (fillN_length n)
  obtain ⟨z, hz⟩ : ∃ z, z = zerosN n + 9 := ⟨_, rfl⟩
  obtain ⟨L, hL⟩ : ∃ L, L = fillN n := ⟨_, rfl⟩
  simp only [← hz, ← hL] at HFILL
  rw [← hz, ← hL] at HFL
  simp only [← hL] at HRFILL HFLE
  clear hz hL
  have hd3 : decide ((n : Int) ≤ 1000) = true := decide_eq_true (by omega)
  have hd4 : decide ((n : Int) < 0) = false := decide_eq_false (by omega)
  have hd5 : decide ((0 : Int) ≤ (n : Int)) = true := decide_eq_true (by omega)
  have hd6 : ((bs.length : Int) != 64) = false := by rw [bne_eq_false_iff_eq]; omega
  have HLE := Lib.hid hle
  have HMX := Lib.hid hmx
  clear h0 hr hok hi hn hb hle hmx hZ hG hQ hE
  go_enter Tryd.func4, Tryd.ntmps4
  go_wp2_with (first
    | (refine wpL_boxArr rfl 29 _ rfl Q rfl ?_; intro w1 hh1 hf1 hs1; have HG1 := Lib.hid hh1.out; have hsz1 := hs1.out; clear hh1)
    | (go_at_call 10; refine (HBEG.out _).mono ?_; rintro e w3 ⟨rfl, hf3⟩)
    | (refine wpL_newArr rfl 29 rfl Z HIZ.out ?_; intro w4 hh4 hf4 hs4; refine wpL_storeArr rfl 29 (.tmp 10) (.tmp 22) rfl w3.heap.size G Z rfl rfl 29 hh4.out HSB.out HZB.out HOB.out ?_; intro w5 hh5 hf5 hs5))
  have hf03 : Fr [] w w3 := hf1.trans hf3 (by simp) (by simp)
  have hf13 : Fr [] w1 w3 := hf3
  have hf35 : Fr [] w3 w5 := hf4.trans hf5 (by simp) (by simp)
  have hf05 : Fr [] w w5 := hf03.trans hf35 (by simp) (by simp)
  have hf15 : Fr [] w1 w5 := hf13.trans hf35 (by simp) (by simp)
  have HQ5 := Lib.hid (hf15.heap HG1.out (by simp))
  obtain ⟨g5, hg5⟩ : ∃ g, g = w.heap.size := ⟨_, rfl⟩
  rw [← hg5] at HQ5 ⊢
  obtain ⟨g, hg⟩ : ∃ g, g = w3.heap.size := ⟨_, rfl⟩
  have hhg := hh5.out
  rw [← hg] at hhg ⊢
  have HG := Lib.hid hhg
  clear hg hhg hh4 hh5 hf1 hf3 hf4 hf5 hf13 hf35 hf15 HG1 hs1 hs4 hs5 hsz1 hg5
  refine wp_region_G [] [(0, false), (2, false), (1, true), (3, false), (4, false), (5, false), (6, true), (7, false), (8, false)] 85 rfl (by kernel_rfl) (by kernel_rfl) (by kernel_rfl) (fun c a d v w h => by cases d <;> exact h) (fun w6 hf6 => ?_)
  simp only [List.map_cons, List.map_nil, List.getElem?_toArray, List.getElem?_cons_succ, List.getElem?_cons_zero, Option.getD_some]
  have hf06 : Fr [] w w6 := hf05.trans hf6 (by simp) (by simp)
  repeat (apply wpG_t; · (intro w' hf'; go_wp2_with fail; exact ⟨rfl, rfl⟩))
  refine wpG_x ?_
  go_wp2_with (go_at_call 11; refine (HROOT.out _ hf06).mono ?_; rintro e w6b ⟨rfl, rfl⟩)
  refine ⟨Fr.refl _ _, rfl, ?_⟩
  have LG : Hid (Later [] w6 (fun w' => w'.heap[g]? = some (.cells G 29 (0, 0)))) := Lib.hid (fun w' hf' => hf'.heap (hf6.heap HG.out (by simp)) (by simp))
  repeat (apply wpG_t; · (intro w' hf'; first
    | (refine wpL_load_want rfl 29 _ rfl g rfl 29 G (0, 0) _ (LG.out w' hf') Tryd.underlying29 rfl HSB.out ?_; exact ⟨rfl, rfl⟩)
    | (go_wp2_with fail; exact ⟨rfl, rfl⟩)))
  refine wpG_x ?_
  go_wp2_with (go_at_call 12; refine (HRBEG.out _).mono ?_; rintro e w7 ⟨rfl, hf7⟩)
  refine ⟨hf7, rfl, ?_⟩
  repeat (apply wpG_t; · (intro w' hf'; go_wp2_with fail; exact ⟨rfl, rfl⟩))
  refine wpG_end ?_
  have hf07 : Fr [] w w7 := hf06.trans hf7 (by simp) (by simp)
  have HQ7 := Lib.hid (hf7.heap (hf6.heap HQ5.out (by simp)) (by simp))
  clear LG HG HQ5 hf05 hf06 hf6 hf7
  go_wp2_with (go_at_call 13; refine (HFILL.out _).mono ?_; rintro e w8 ⟨rfl, hh8, hf8⟩)
  have hb8 : bytesAt w8 (.slice (some ⟨w7.heap.size, 0, none⟩) z z) L := bytesAt_of_heap hh8 HFLE.out _ HFL.out.symm
  refine wp_region_G [] [(0, false), (1, false), (2, false), (3, false), (4, false), (5, false), (6, false), (7, false), (8, false), (9, false), (10, false), (11, false), (12, false), (13, false), (14, true), (15, false), (16, false), (17, false), (18, false)] 85 rfl (by kernel_rfl) (by kernel_rfl) (by kernel_rfl) (fun c a d v w h => by cases d <;> exact h) (fun w9 hf9 => ?_)
  simp only [List.map_cons, List.map_nil, List.getElem?_toArray, List.getElem?_cons_succ, List.getElem?_cons_zero, Option.getD_some]
  have hf09 : Fr [] w w9 := (hf07.trans hf8 (by simp) (n := []) (by simp)).trans hf9 (by simp) (by simp)
  have HQ9 := Lib.hid (hf9.heap (hf8.heap HQ7.out (by simp)) (by simp))
  have hC : Later [] w9 _ := Later.conv (P := Tryd.prog) (hb8.below hf9) (by simp) 22 5 9 Tryd.underlying22 Tryd.underlying5 Tryd.underlying9
  have HC := Lib.hid hC
  clear hC hb8 hh8
  repeat (apply wpG_t; · (intro w' hf'; have hc := HC.out w' hf'; go_wp2_with fail; exact ⟨rfl, rfl⟩))
  refine wpG_x ?_
  go_wp2_with (go_at_call 14; refine (HRFILL.out _).mono ?_; rintro e w10 ⟨vf, rfl, hbf, hf10⟩)
  refine ⟨hf10, rfl, ?_⟩
  have hD : Later [] w10 _ := Later.conv (P := Tryd.prog) hbf (by simp) 22 5 9 Tryd.underlying22 Tryd.underlying5 Tryd.underlying9
  have HD := Lib.hid hD
  clear hD
  repeat (apply wpG_t; · (intro w' hf'; have hc := HD.out w' hf'; go_wp2_with fail; exact ⟨rfl, rfl⟩))
  refine wpG_end ?_
  have hf010 : Fr [] w w10 := hf09.trans hf10 (by simp) (by simp)
  have HQ10 := Lib.hid (hf10.heap HQ9.out (by simp))
  clear HC HD HQ9 HQ7 hf09 hf07 hf8 hf9 hf10
  have hfX := hf010
  go_wp2_with (first
    | (refine wpList_load_row rfl 29 _ rfl g5 rfl 29 Q (0, 0) _ HQ10.out Tryd.underlying29 rfl HSS.out ?_; have hmark := 0)
    | (go_at_call 15; refine (HBLK.out _ hfX).mono ?_; rintro e w11 ⟨rfl, hf11⟩)
    | (refine wpL_newArr rfl 29 rfl Z HIZ.out ?_; intro w12 hh12 hf12 hs12; refine wpL_storeArr rfl 29 (.tmp 12) (.tmp 59) rfl w11.heap.size E Z rfl rfl 29 hh12.out HSE.out HZE.out HOE.out ?_; intro w13 hh13 hf13 hs13; have HE13 := Lib.hid hh13.out; have hf013 : Fr [] w w13 := ((hfX.trans hf11 (by simp) (n := []) (by simp)).trans hf12 (by simp) (n := []) (by simp)).trans hf13 (by simp) (by simp; have := hfX.size; have := hf11.size; omega)))
  have HQ13 := Lib.hid (hf13.heap (hf12.heap (hf11.heap HQ10.out (by simp)) (by simp)) (by simp; have h1 := (Array.getElem?_eq_some_iff.1 HQ10.out).1; have h2 := hf11.size; omega))
  obtain ⟨ge, hge⟩ : ∃ g, g = w11.heap.size := ⟨_, rfl⟩
  rw [← hge] at HE13 ⊢
  refine wp_region_G [] [(0, false), (1, false), (2, false), (3, false), (4, false), (5, true), (6, false), (7, false), (8, false), (9, true), (10, false), (11, false)] 85 rfl (by kernel_rfl) (by kernel_rfl) (by kernel_rfl) (fun c a d v w h => by cases d <;> exact h) (fun w14 hf14 => ?_)
  simp only [List.map_cons, List.map_nil, List.getElem?_toArray, List.getElem?_cons_succ, List.getElem?_cons_zero, Option.getD_some]
  have hf014 : Fr [] w w14 := hf013.trans hf14 (by simp) (by simp)
  have LE : Hid (Later [] w14 (fun w' => w'.heap[ge]? = some (.cells E 29 (0, 0)))) := Lib.hid (fun w' hf' => hf'.heap (hf14.heap HE13.out (by simp)) (by simp))
  have LQ : Hid (Later [] w14 (fun w' => w'.heap[g5]? = some (.cells Q 29 (0, 0)))) := Lib.hid (fun w' hf' => hf'.heap (hf14.heap HQ13.out (by simp)) (by simp))
  repeat (apply wpG_t; · (intro w' hf'; first
    | (refine wpL_load_want rfl 29 _ rfl ge rfl 29 E (0, 0) _ (LE.out w' hf') Tryd.underlying29 rfl HSE.out ?_; exact ⟨rfl, rfl⟩)
    | (refine wpL_load_want rfl 29 _ rfl g5 rfl 29 Q (0, 0) _ (LQ.out w' hf') Tryd.underlying29 rfl HSS.out ?_; exact ⟨rfl, rfl⟩)
    | (go_wp2_with fail; exact ⟨rfl, rfl⟩)))
  refine wpG_x ?_
  go_wp2_with (go_at_call 16; refine (HRBLK.out _ hf014).mono ?_; rintro e w15 ⟨rfl, hf15⟩)
  refine ⟨hf15, rfl, ?_⟩
  repeat (apply wpG_t; · (intro w' hf'; go_wp2_with fail; exact ⟨rfl, rfl⟩))
  refine wpG_x ?_
  have hf015 : Fr [] w w15 := hf014.trans hf15 (by simp) (by simp)
  go_wp2_with (go_at_call 6; refine (HAW.out _ hf015).mono ?_; rintro e w16 ⟨rfl, hf16⟩)
  refine ⟨hf16, rfl, ?_⟩
  repeat (apply wpG_t; · (intro w' hf'; go_wp2_with fail; exact ⟨rfl, rfl⟩))
  refine wpG_end ?_
  go_wp2_with fail
  go_ret
  exact ⟨rfl, hf015.trans hf16 (by simp) (by simp)⟩
set_option maxRecDepth 100000 in
theorem parts_big_mid_no (i : Int) (n : Nat) (st : St) (bs : List UInt8) (v0 : Value) (w : World) (h0 : bytesAt w v0 bs) (hr : rootsAt w) (hok : st.ok) (hi : 63 < i) (hn : n ≤ 1000) (hb : bs.length ≠ 64) :
    Calls Tryd.prog 4 #[.int .i64 i, .agg (stC st), v0, .int .i64 n] w fun e w' => e = .returned (.bool true) ∧ Fr [] w w' := by
  obtain ⟨a0, c0, rfl, hle, hmx⟩ := h0.form
  have HB := Lib.hid h0
  have HR := Lib.hid hr
  have HBEG := Lib.hid (fun W => begin_any W)
  have HRBEG := Lib.hid (fun W => ref_beginE_any W)
  have eqB := fun wx => equal_st wx beginSt
  have HSB := Lib.hid (sizeN8 beginSt)
  have HOB := Lib.hid (stC_one beginSt)
  have HZB := Lib.hid (show (stC zeroSt).size = (stC beginSt).size by simp only [stC_size])
  have HIZ := Lib.hid infoN8
  have HSS := Lib.hid (sizeN8 st)
  have HBLK := Lib.hid (fun W (hW : Fr [] w W) => block_bad st bs _ W (h0.below hW) hb)
  have eqE := fun wx => equal_st wx zeroSt
  have HSE := Lib.hid (sizeN8 (zeroSt))
  have HOE := Lib.hid (stC_one (zeroSt))
  have HZE := Lib.hid (show (stC zeroSt).size = (stC (zeroSt)).size by simp only [stC_size])
  have HAW := Lib.hid (fun W (hW : Fr [] w W) => awake_any W (hr.below hW))
  obtain ⟨Z, hZ⟩ : ∃ Z, Z = stC zeroSt := ⟨_, rfl⟩
  rw [← hZ] at HZB HIZ HZE
  rw [← hZ] at HBLK eqE HSE HOE
  obtain ⟨G, hG⟩ : ∃ G, G = stC beginSt := ⟨_, rfl⟩
  rw [← hG] at HBEG HRBEG eqB HSB HOB HZB
  obtain ⟨Q, hQ⟩ : ∃ Q, Q = stC st := ⟨_, rfl⟩
  rw [← hQ] at HSS HBLK ⊢
  have HZ := Lib.hid hZ
  have HROOT := Lib.hid (fun W (hW : Fr [] w W) => root_out i W (Or.inr (by omega)))
  have hd1 : decide ((0 : Int) ≤ i) = true := decide_eq_true (by omega)
  have hd2 : decide (i ≤ 63) = false := decide_eq_false (by omega)
  have HFILL := Lib.hid (fun W => fill_any n W (by omega))
  have HRFILL := Lib.hid (fun W => ref_fill_any n W (by omega))
  have HFLE := Lib.hid (show (fillN n).length ≤ maxLen by have := fill_le n; simp only [maxLen]; omega)
  have HFL := Lib.hid (fillN_length n)
  obtain ⟨z, hz⟩ : ∃ z, z = zerosN n + 9 := ⟨_, rfl⟩
  obtain ⟨L, hL⟩ : ∃ L, L = fillN n := ⟨_, rfl⟩
  simp only [← hz, ← hL] at HFILL
  rw [← hz, ← hL] at HFL
  simp only [← hL] at HRFILL HFLE
  clear hz hL
  have hd3 : decide ((n : Int) ≤ 1000) = true := decide_eq_true (by omega)
  have hd4 : decide ((n : Int) < 0) = false := decide_eq_false (by omega)
  have hd5 : decide ((0 : Int) ≤ (n : Int)) = true := decide_eq_true (by omega)
  have hd6 : ((bs.length : Int) != 64) = true := by rw [bne_iff_ne]; omega
  have HLE := Lib.hid hle
  have HMX := Lib.hid hmx
  clear h0 hr hok hi hn hb hle hmx hZ hG hQ
  go_enter Tryd.func4, Tryd.ntmps4
  go_wp2_with (first
    | (refine wpL_boxArr rfl 29 _ rfl Q rfl ?_; intro w1 hh1 hf1 hs1; have HG1 := Lib.hid hh1.out; have hsz1 := hs1.out; clear hh1)
    | (go_at_call 10; refine (HBEG.out _).mono ?_; rintro e w3 ⟨rfl, hf3⟩)
    | (refine wpL_newArr rfl 29 rfl Z HIZ.out ?_; intro w4 hh4 hf4 hs4; refine wpL_storeArr rfl 29 (.tmp 10) (.tmp 22) rfl w3.heap.size G Z rfl rfl 29 hh4.out HSB.out HZB.out HOB.out ?_; intro w5 hh5 hf5 hs5))
  have hf03 : Fr [] w w3 := hf1.trans hf3 (by simp) (by simp)
  have hf13 : Fr [] w1 w3 := hf3
  have hf35 : Fr [] w3 w5 := hf4.trans hf5 (by simp) (by simp)
  have hf05 : Fr [] w w5 := hf03.trans hf35 (by simp) (by simp)
  have hf15 : Fr [] w1 w5 := hf13.trans hf35 (by simp) (by simp)
  have HQ5 := Lib.hid (hf15.heap HG1.out (by simp))
  obtain ⟨g5, hg5⟩ : ∃ g, g = w.heap.size := ⟨_, rfl⟩
  rw [← hg5] at HQ5 ⊢
  obtain ⟨g, hg⟩ : ∃ g, g = w3.heap.size := ⟨_, rfl⟩
  have hhg := hh5.out
  rw [← hg] at hhg ⊢
  have HG := Lib.hid hhg
  clear hg hhg hh4 hh5 hf1 hf3 hf4 hf5 hf13 hf35 hf15 HG1 hs1 hs4 hs5 hsz1 hg5
  refine wp_region_G [] [(0, false), (2, false), (1, true), (3, false), (4, false), (5, false), (6, true), (7, false), (8, false)] 85 rfl (by kernel_rfl) (by kernel_rfl) (by kernel_rfl) (fun c a d v w h => by cases d <;> exact h) (fun w6 hf6 => ?_)
  simp only [List.map_cons, List.map_nil, List.getElem?_toArray, List.getElem?_cons_succ, List.getElem?_cons_zero, Option.getD_some]
  have hf06 : Fr [] w w6 := hf05.trans hf6 (by simp) (by simp)
  repeat (apply wpG_t; · (intro w' hf'; go_wp2_with fail; exact ⟨rfl, rfl⟩))
  refine wpG_x ?_
  go_wp2_with (go_at_call 11; refine (HROOT.out _ hf06).mono ?_; rintro e w6b ⟨rfl, rfl⟩)
  refine ⟨Fr.refl _ _, rfl, ?_⟩
  have LG : Hid (Later [] w6 (fun w' => w'.heap[g]? = some (.cells G 29 (0, 0)))) := Lib.hid (fun w' hf' => hf'.heap (hf6.heap HG.out (by simp)) (by simp))
  repeat (apply wpG_t; · (intro w' hf'; first
    | (refine wpL_load_want rfl 29 _ rfl g rfl 29 G (0, 0) _ (LG.out w' hf') Tryd.underlying29 rfl HSB.out ?_; exact ⟨rfl, rfl⟩)
    | (go_wp2_with fail; exact ⟨rfl, rfl⟩)))
  refine wpG_x ?_
  go_wp2_with (go_at_call 12; refine (HRBEG.out _).mono ?_; rintro e w7 ⟨rfl, hf7⟩)
  refine ⟨hf7, rfl, ?_⟩
  repeat (apply wpG_t; · (intro w' hf'; go_wp2_with fail; exact ⟨rfl, rfl⟩))
  refine wpG_end ?_
  have hf07 : Fr [] w w7 := hf06.trans hf7 (by simp) (by simp)
  have HQ7 := Lib.hid (hf7.heap (hf6.heap HQ5.out (by simp)) (by simp))
  clear LG HG HQ5 hf05 hf06 hf6 hf7
  go_wp2_with (go_at_call 13; refine (HFILL.out _).mono ?_; rintro e w8 ⟨rfl, hh8, hf8⟩)
  have hb8 : bytesAt w8 (.slice (some ⟨w7.heap.size, 0, none⟩) z z) L := bytesAt_of_heap hh8 HFLE.out _ HFL.out.symm
  refine wp_region_G [] [(0, false), (1, false), (2, false), (3, false), (4, false), (5, false), (6, false), (7, false), (8, false), (9, false), (10, false), (11, false), (12, false), (13, false), (14, true), (15, false), (16, false), (17, false), (18, false)] 85 rfl (by kernel_rfl) (by kernel_rfl) (by kernel_rfl) (fun c a d v w h => by cases d <;> exact h) (fun w9 hf9 => ?_)
  simp only [List.map_cons, List.map_nil, List.getElem?_toArray, List.getElem?_cons_succ, List.getElem?_cons_zero, Option.getD_some]
  have hf09 : Fr [] w w9 := (hf07.trans hf8 (by simp) (n := []) (by simp)).trans hf9 (by simp) (by simp)
  have HQ9 := Lib.hid (hf9.heap (hf8.heap HQ7.out (by simp)) (by simp))
  have hC : Later [] w9 _ := Later.conv (P := Tryd.prog) (hb8.below hf9) (by simp) 22 5 9 Tryd.underlying22 Tryd.underlying5 Tryd.underlying9
  have HC := Lib.hid hC
  clear hC hb8 hh8
  repeat (apply wpG_t; · (intro w' hf'; have hc := HC.out w' hf'; go_wp2_with fail; exact ⟨rfl, rfl⟩))
  refine wpG_x ?_
  go_wp2_with (go_at_call 14; refine (HRFILL.out _).mono ?_; rintro e w10 ⟨vf, rfl, hbf, hf10⟩)
  refine ⟨hf10, rfl, ?_⟩
  have hD : Later [] w10 _ := Later.conv (P := Tryd.prog) hbf (by simp) 22 5 9 Tryd.underlying22 Tryd.underlying5 Tryd.underlying9
  have HD := Lib.hid hD
  clear hD
  repeat (apply wpG_t; · (intro w' hf'; have hc := HD.out w' hf'; go_wp2_with fail; exact ⟨rfl, rfl⟩))
  refine wpG_end ?_
  have hf010 : Fr [] w w10 := hf09.trans hf10 (by simp) (by simp)
  have HQ10 := Lib.hid (hf10.heap HQ9.out (by simp))
  clear HC HD HQ9 HQ7 hf09 hf07 hf8 hf9 hf10
  have hfX := hf010
  go_wp2_with (first
    | (refine wpL_load_want rfl 29 _ rfl w11.heap.size rfl 29 Z (0, 0) _ HE13.out Tryd.underlying29 rfl HSE.out ?_; refine wpL_val_want rfl (.agg (stC zeroSt)) (by kernel_rfl) ?_; rw [← HZ.out])
    | (refine wpList_load_row rfl 29 _ rfl g5 rfl 29 Q (0, 0) _ HQ10.out Tryd.underlying29 rfl HSS.out ?_; have hmark := 0)
    | (go_at_call 15; refine (HBLK.out _ hfX).mono ?_; rintro e w11 ⟨rfl, hf11⟩)
    | (refine wpL_newArr rfl 29 rfl Z HIZ.out ?_; intro w12 hh12 hf12 hs12; refine wpL_storeArr rfl 29 (.tmp 12) (.tmp 59) rfl w11.heap.size Z Z rfl rfl 29 hh12.out HSE.out rfl HOE.out ?_; intro w13 hh13 hf13 hs13; have HE13 := Lib.hid hh13.out; have hf013 : Fr [] w w13 := ((hfX.trans hf11 (by simp) (n := []) (by simp)).trans hf12 (by simp) (n := []) (by simp)).trans hf13 (by simp) (by simp; have := hfX.size; have := hf11.size; omega))
    | (go_at_call 6; refine (HAW.out _ hf013).mono ?_; rintro e w14 ⟨rfl, hf14⟩))
  go_ret
  exact ⟨rfl, hf013.trans hf14 (by simp) (by simp)⟩
set_option maxRecDepth 100000 in
theorem parts_big_neg_64 (i : Int) (n : Int) (st : St) (bs : List UInt8) (v0 : Value) (w : World) (h0 : bytesAt w v0 bs) (hr : rootsAt w) (hok : st.ok) (hi : 63 < i) (hn : n < 0) (hb : bs.length = 64) :
    Calls Tryd.prog 4 #[.int .i64 i, .agg (stC st), v0, .int .i64 n] w fun e w' => e = .returned (.bool true) ∧ Fr [] w w' := by
  obtain ⟨a0, c0, rfl, hle, hmx⟩ := h0.form
  have HB := Lib.hid h0
  have HR := Lib.hid hr
  have HBEG := Lib.hid (fun W => begin_any W)
  have HRBEG := Lib.hid (fun W => ref_beginE_any W)
  have eqB := fun wx => equal_st wx beginSt
  have HSB := Lib.hid (sizeN8 beginSt)
  have HOB := Lib.hid (stC_one beginSt)
  have HZB := Lib.hid (show (stC zeroSt).size = (stC beginSt).size by simp only [stC_size])
  have HIZ := Lib.hid infoN8
  have HSS := Lib.hid (sizeN8 st)
  have HBLK := Lib.hid (fun W (hW : Fr [] w W) => block_ok st bs _ W hok (h0.below hW) hb (hr.below hW))
  have HRBLK := Lib.hid (fun W (hW : Fr [] w W) => ref_block_any st bs _ W hok (h0.below hW) hb)
  have eqE := fun wx => equal_st wx (blockSt st bs)
  have HSE := Lib.hid (sizeN8 (blockSt st bs))
  have HOE := Lib.hid (stC_one (blockSt st bs))
  have HZE := Lib.hid (show (stC zeroSt).size = (stC (blockSt st bs)).size by simp only [stC_size])
  have HAW := Lib.hid (fun W (hW : Fr [] w W) => awake_any W (hr.below hW))
  obtain ⟨E, hE⟩ : ∃ E, E = stC (blockSt st bs) := ⟨_, rfl⟩
  rw [← hE] at HBLK HRBLK eqE HSE HOE HZE
  obtain ⟨Z, hZ⟩ : ∃ Z, Z = stC zeroSt := ⟨_, rfl⟩
  rw [← hZ] at HZB HIZ HZE
  obtain ⟨G, hG⟩ : ∃ G, G = stC beginSt := ⟨_, rfl⟩
  rw [← hG] at HBEG HRBEG eqB HSB HOB HZB
  obtain ⟨Q, hQ⟩ : ∃ Q, Q = stC st := ⟨_, rfl⟩
  rw [← hQ] at HSS HBLK HRBLK ⊢
  have HZ := Lib.hid hZ
  have HROOT := Lib.hid (fun W (hW : Fr [] w W) => root_out i W (Or.inr (by omega)))
  have hd1 : decide ((0 : Int) ≤ i) = true := decide_eq_true (by omega)
  have hd2 : decide (i ≤ 63) = false := decide_eq_false (by omega)
  have HFILL := Lib.hid (fun W => fill_neg n W hn)
  have hd3 : decide (n ≤ 1000) = true := decide_eq_true (by omega)
  have hd4 : decide (n < 0) = true := decide_eq_true hn
  have hd5 : decide ((0 : Int) ≤ n) = false := decide_eq_false (by omega)
  have hd6 : ((bs.length : Int) != 64) = false := by rw [bne_eq_false_iff_eq]; omega
  have HLE := Lib.hid hle
  have HMX := Lib.hid hmx
  clear h0 hr hok hi hn hb hle hmx hZ hG hQ hE
  go_enter Tryd.func4, Tryd.ntmps4
  go_wp2_with (first
    | (refine wpL_boxArr rfl 29 _ rfl Q rfl ?_; intro w1 hh1 hf1 hs1; have HG1 := Lib.hid hh1.out; have hsz1 := hs1.out; clear hh1)
    | (go_at_call 10; refine (HBEG.out _).mono ?_; rintro e w3 ⟨rfl, hf3⟩)
    | (refine wpL_newArr rfl 29 rfl Z HIZ.out ?_; intro w4 hh4 hf4 hs4; refine wpL_storeArr rfl 29 (.tmp 10) (.tmp 22) rfl w3.heap.size G Z rfl rfl 29 hh4.out HSB.out HZB.out HOB.out ?_; intro w5 hh5 hf5 hs5))
  have hf03 : Fr [] w w3 := hf1.trans hf3 (by simp) (by simp)
  have hf13 : Fr [] w1 w3 := hf3
  have hf35 : Fr [] w3 w5 := hf4.trans hf5 (by simp) (by simp)
  have hf05 : Fr [] w w5 := hf03.trans hf35 (by simp) (by simp)
  have hf15 : Fr [] w1 w5 := hf13.trans hf35 (by simp) (by simp)
  have HQ5 := Lib.hid (hf15.heap HG1.out (by simp))
  obtain ⟨g5, hg5⟩ : ∃ g, g = w.heap.size := ⟨_, rfl⟩
  rw [← hg5] at HQ5 ⊢
  obtain ⟨g, hg⟩ : ∃ g, g = w3.heap.size := ⟨_, rfl⟩
  have hhg := hh5.out
  rw [← hg] at hhg ⊢
  have HG := Lib.hid hhg
  clear hg hhg hh4 hh5 hf1 hf3 hf4 hf5 hf13 hf35 hf15 HG1 hs1 hs4 hs5 hsz1 hg5
  refine wp_region_G [] [(0, false), (2, false), (1, true), (3, false), (4, false), (5, false), (6, true), (7, false), (8, false)] 85 rfl (by kernel_rfl) (by kernel_rfl) (by kernel_rfl) (fun c a d v w h => by cases d <;> exact h) (fun w6 hf6 => ?_)
  simp only [List.map_cons, List.map_nil, List.getElem?_toArray, List.getElem?_cons_succ, List.getElem?_cons_zero, Option.getD_some]
  have hf06 : Fr [] w w6 := hf05.trans hf6 (by simp) (by simp)
  repeat (apply wpG_t; · (intro w' hf'; go_wp2_with fail; exact ⟨rfl, rfl⟩))
  refine wpG_x ?_
  go_wp2_with (go_at_call 11; refine (HROOT.out _ hf06).mono ?_; rintro e w6b ⟨rfl, rfl⟩)
  refine ⟨Fr.refl _ _, rfl, ?_⟩
  have LG : Hid (Later [] w6 (fun w' => w'.heap[g]? = some (.cells G 29 (0, 0)))) := Lib.hid (fun w' hf' => hf'.heap (hf6.heap HG.out (by simp)) (by simp))
  repeat (apply wpG_t; · (intro w' hf'; first
    | (refine wpL_load_want rfl 29 _ rfl g rfl 29 G (0, 0) _ (LG.out w' hf') Tryd.underlying29 rfl HSB.out ?_; exact ⟨rfl, rfl⟩)
    | (go_wp2_with fail; exact ⟨rfl, rfl⟩)))
  refine wpG_x ?_
  go_wp2_with (go_at_call 12; refine (HRBEG.out _).mono ?_; rintro e w7 ⟨rfl, hf7⟩)
  refine ⟨hf7, rfl, ?_⟩
  repeat (apply wpG_t; · (intro w' hf'; go_wp2_with fail; exact ⟨rfl, rfl⟩))
  refine wpG_end ?_
  have hf07 : Fr [] w w7 := hf06.trans hf7 (by simp) (by simp)
  have HQ7 := Lib.hid (hf7.heap (hf6.heap HQ5.out (by simp)) (by simp))
  clear LG HG HQ5 hf05 hf06 hf6 hf7
  go_wp2_with (go_at_call 13; refine (HFILL.out _).mono ?_; rintro e w8 ⟨rfl, rfl⟩)
  refine wp_region_G [] [(0, false), (1, false), (2, false), (3, false), (4, false), (5, false), (6, false), (7, false), (8, false), (9, false), (10, false), (11, false), (12, false), (13, false), (14, true), (15, false), (16, false), (17, false), (18, false)] 85 rfl (by kernel_rfl) (by kernel_rfl) (by kernel_rfl) (fun c a d v w h => by cases d <;> exact h) (fun w9 hf9 => ?_)
  simp only [List.map_cons, List.map_nil, List.getElem?_toArray, List.getElem?_cons_succ, List.getElem?_cons_zero, Option.getD_some]
  have hf09 : Fr [] w w9 := hf07.trans hf9 (by simp) (by simp)
  have HQ9 := Lib.hid (hf9.heap HQ7.out (by simp))
  repeat (apply wpG_t; · (intro w' hf'; go_wp2_with fail; exact ⟨rfl, rfl⟩))
  refine wpG_x ?_
  go_wp2_with fail
  refine ⟨Fr.refl _ _, rfl, ?_⟩
  repeat (apply wpG_t; · (intro w' hf'; go_wp2_with fail; exact ⟨rfl, rfl⟩))
  refine wpG_end ?_
  have hfX := hf09
  go_wp2_with (first
    | (refine wpList_load_row rfl 29 _ rfl g5 rfl 29 Q (0, 0) _ HQ9.out Tryd.underlying29 rfl HSS.out ?_; have hmark := 0)
    | (go_at_call 15; refine (HBLK.out _ hfX).mono ?_; rintro e w11 ⟨rfl, hf11⟩)
    | (refine wpL_newArr rfl 29 rfl Z HIZ.out ?_; intro w12 hh12 hf12 hs12; refine wpL_storeArr rfl 29 (.tmp 12) (.tmp 59) rfl w11.heap.size E Z rfl rfl 29 hh12.out HSE.out HZE.out HOE.out ?_; intro w13 hh13 hf13 hs13; have HE13 := Lib.hid hh13.out; have hf013 : Fr [] w w13 := ((hfX.trans hf11 (by simp) (n := []) (by simp)).trans hf12 (by simp) (n := []) (by simp)).trans hf13 (by simp) (by simp; have := hfX.size; have := hf11.size; omega)))
  have HQ13 := Lib.hid (hf13.heap (hf12.heap (hf11.heap HQ9.out (by simp)) (by simp)) (by simp; have h1 := (Array.getElem?_eq_some_iff.1 HQ9.out).1; have h2 := hf11.size; omega))
  obtain ⟨ge, hge⟩ : ∃ g, g = w11.heap.size := ⟨_, rfl⟩
  rw [← hge] at HE13 ⊢
  refine wp_region_G [] [(0, false), (1, false), (2, false), (3, false), (4, false), (5, true), (6, false), (7, false), (8, false), (9, true), (10, false), (11, false)] 85 rfl (by kernel_rfl) (by kernel_rfl) (by kernel_rfl) (fun c a d v w h => by cases d <;> exact h) (fun w14 hf14 => ?_)
  simp only [List.map_cons, List.map_nil, List.getElem?_toArray, List.getElem?_cons_succ, List.getElem?_cons_zero, Option.getD_some]
  have hf014 : Fr [] w w14 := hf013.trans hf14 (by simp) (by simp)
  have LE : Hid (Later [] w14 (fun w' => w'.heap[ge]? = some (.cells E 29 (0, 0)))) := Lib.hid (fun w' hf' => hf'.heap (hf14.heap HE13.out (by simp)) (by simp))
  have LQ : Hid (Later [] w14 (fun w' => w'.heap[g5]? = some (.cells Q 29 (0, 0)))) := Lib.hid (fun w' hf' => hf'.heap (hf14.heap HQ13.out (by simp)) (by simp))
  repeat (apply wpG_t; · (intro w' hf'; first
    | (refine wpL_load_want rfl 29 _ rfl ge rfl 29 E (0, 0) _ (LE.out w' hf') Tryd.underlying29 rfl HSE.out ?_; exact ⟨rfl, rfl⟩)
    | (refine wpL_load_want rfl 29 _ rfl g5 rfl 29 Q (0, 0) _ (LQ.out w' hf') Tryd.underlying29 rfl HSS.out ?_; exact ⟨rfl, rfl⟩)
    | (go_wp2_with fail; exact ⟨rfl, rfl⟩)))
  refine wpG_x ?_
  go_wp2_with (go_at_call 16; refine (HRBLK.out _ hf014).mono ?_; rintro e w15 ⟨rfl, hf15⟩)
  refine ⟨hf15, rfl, ?_⟩
  repeat (apply wpG_t; · (intro w' hf'; go_wp2_with fail; exact ⟨rfl, rfl⟩))
  refine wpG_x ?_
  have hf015 : Fr [] w w15 := hf014.trans hf15 (by simp) (by simp)
  go_wp2_with (go_at_call 6; refine (HAW.out _ hf015).mono ?_; rintro e w16 ⟨rfl, hf16⟩)
  refine ⟨hf16, rfl, ?_⟩
  repeat (apply wpG_t; · (intro w' hf'; go_wp2_with fail; exact ⟨rfl, rfl⟩))
  refine wpG_end ?_
  go_wp2_with fail
  go_ret
  exact ⟨rfl, hf015.trans hf16 (by simp) (by simp)⟩
set_option maxRecDepth 100000 in
theorem parts_big_neg_no (i : Int) (n : Int) (st : St) (bs : List UInt8) (v0 : Value) (w : World) (h0 : bytesAt w v0 bs) (hr : rootsAt w) (hok : st.ok) (hi : 63 < i) (hn : n < 0) (hb : bs.length ≠ 64) :
    Calls Tryd.prog 4 #[.int .i64 i, .agg (stC st), v0, .int .i64 n] w fun e w' => e = .returned (.bool true) ∧ Fr [] w w' := by
  obtain ⟨a0, c0, rfl, hle, hmx⟩ := h0.form
  have HB := Lib.hid h0
  have HR := Lib.hid hr
  have HBEG := Lib.hid (fun W => begin_any W)
  have HRBEG := Lib.hid (fun W => ref_beginE_any W)
  have eqB := fun wx => equal_st wx beginSt
  have HSB := Lib.hid (sizeN8 beginSt)
  have HOB := Lib.hid (stC_one beginSt)
  have HZB := Lib.hid (show (stC zeroSt).size = (stC beginSt).size by simp only [stC_size])
  have HIZ := Lib.hid infoN8
  have HSS := Lib.hid (sizeN8 st)
  have HBLK := Lib.hid (fun W (hW : Fr [] w W) => block_bad st bs _ W (h0.below hW) hb)
  have eqE := fun wx => equal_st wx zeroSt
  have HSE := Lib.hid (sizeN8 (zeroSt))
  have HOE := Lib.hid (stC_one (zeroSt))
  have HZE := Lib.hid (show (stC zeroSt).size = (stC (zeroSt)).size by simp only [stC_size])
  have HAW := Lib.hid (fun W (hW : Fr [] w W) => awake_any W (hr.below hW))
  obtain ⟨Z, hZ⟩ : ∃ Z, Z = stC zeroSt := ⟨_, rfl⟩
  rw [← hZ] at HZB HIZ HZE
  rw [← hZ] at HBLK eqE HSE HOE
  obtain ⟨G, hG⟩ : ∃ G, G = stC beginSt := ⟨_, rfl⟩
  rw [← hG] at HBEG HRBEG eqB HSB HOB HZB
  obtain ⟨Q, hQ⟩ : ∃ Q, Q = stC st := ⟨_, rfl⟩
  rw [← hQ] at HSS HBLK ⊢
  have HZ := Lib.hid hZ
  have HROOT := Lib.hid (fun W (hW : Fr [] w W) => root_out i W (Or.inr (by omega)))
  have hd1 : decide ((0 : Int) ≤ i) = true := decide_eq_true (by omega)
  have hd2 : decide (i ≤ 63) = false := decide_eq_false (by omega)
  have HFILL := Lib.hid (fun W => fill_neg n W hn)
  have hd3 : decide (n ≤ 1000) = true := decide_eq_true (by omega)
  have hd4 : decide (n < 0) = true := decide_eq_true hn
  have hd5 : decide ((0 : Int) ≤ n) = false := decide_eq_false (by omega)
  have hd6 : ((bs.length : Int) != 64) = true := by rw [bne_iff_ne]; omega
  have HLE := Lib.hid hle
  have HMX := Lib.hid hmx
  clear h0 hr hok hi hn hb hle hmx hZ hG hQ
  go_enter Tryd.func4, Tryd.ntmps4
  go_wp2_with (first
    | (refine wpL_boxArr rfl 29 _ rfl Q rfl ?_; intro w1 hh1 hf1 hs1; have HG1 := Lib.hid hh1.out; have hsz1 := hs1.out; clear hh1)
    | (go_at_call 10; refine (HBEG.out _).mono ?_; rintro e w3 ⟨rfl, hf3⟩)
    | (refine wpL_newArr rfl 29 rfl Z HIZ.out ?_; intro w4 hh4 hf4 hs4; refine wpL_storeArr rfl 29 (.tmp 10) (.tmp 22) rfl w3.heap.size G Z rfl rfl 29 hh4.out HSB.out HZB.out HOB.out ?_; intro w5 hh5 hf5 hs5))
  have hf03 : Fr [] w w3 := hf1.trans hf3 (by simp) (by simp)
  have hf13 : Fr [] w1 w3 := hf3
  have hf35 : Fr [] w3 w5 := hf4.trans hf5 (by simp) (by simp)
  have hf05 : Fr [] w w5 := hf03.trans hf35 (by simp) (by simp)
  have hf15 : Fr [] w1 w5 := hf13.trans hf35 (by simp) (by simp)
  have HQ5 := Lib.hid (hf15.heap HG1.out (by simp))
  obtain ⟨g5, hg5⟩ : ∃ g, g = w.heap.size := ⟨_, rfl⟩
  rw [← hg5] at HQ5 ⊢
  obtain ⟨g, hg⟩ : ∃ g, g = w3.heap.size := ⟨_, rfl⟩
  have hhg := hh5.out
  rw [← hg] at hhg ⊢
  have HG := Lib.hid hhg
  clear hg hhg hh4 hh5 hf1 hf3 hf4 hf5 hf13 hf35 hf15 HG1 hs1 hs4 hs5 hsz1 hg5
  refine wp_region_G [] [(0, false), (2, false), (1, true), (3, false), (4, false), (5, false), (6, true), (7, false), (8, false)] 85 rfl (by kernel_rfl) (by kernel_rfl) (by kernel_rfl) (fun c a d v w h => by cases d <;> exact h) (fun w6 hf6 => ?_)
  simp only [List.map_cons, List.map_nil, List.getElem?_toArray, List.getElem?_cons_succ, List.getElem?_cons_zero, Option.getD_some]
  have hf06 : Fr [] w w6 := hf05.trans hf6 (by simp) (by simp)
  repeat (apply wpG_t; · (intro w' hf'; go_wp2_with fail; exact ⟨rfl, rfl⟩))
  refine wpG_x ?_
  go_wp2_with (go_at_call 11; refine (HROOT.out _ hf06).mono ?_; rintro e w6b ⟨rfl, rfl⟩)
  refine ⟨Fr.refl _ _, rfl, ?_⟩
  have LG : Hid (Later [] w6 (fun w' => w'.heap[g]? = some (.cells G 29 (0, 0)))) := Lib.hid (fun w' hf' => hf'.heap (hf6.heap HG.out (by simp)) (by simp))
  repeat (apply wpG_t; · (intro w' hf'; first
    | (refine wpL_load_want rfl 29 _ rfl g rfl 29 G (0, 0) _ (LG.out w' hf') Tryd.underlying29 rfl HSB.out ?_; exact ⟨rfl, rfl⟩)
    | (go_wp2_with fail; exact ⟨rfl, rfl⟩)))
  refine wpG_x ?_
  go_wp2_with (go_at_call 12; refine (HRBEG.out _).mono ?_; rintro e w7 ⟨rfl, hf7⟩)
  refine ⟨hf7, rfl, ?_⟩
  repeat (apply wpG_t; · (intro w' hf'; go_wp2_with fail; exact ⟨rfl, rfl⟩))
  refine wpG_end ?_
  have hf07 : Fr [] w w7 := hf06.trans hf7 (by simp) (by simp)
  have HQ7 := Lib.hid (hf7.heap (hf6.heap HQ5.out (by simp)) (by simp))
  clear LG HG HQ5 hf05 hf06 hf6 hf7
  go_wp2_with (go_at_call 13; refine (HFILL.out _).mono ?_; rintro e w8 ⟨rfl, rfl⟩)
  refine wp_region_G [] [(0, false), (1, false), (2, false), (3, false), (4, false), (5, false), (6, false), (7, false), (8, false), (9, false), (10, false), (11, false), (12, false), (13, false), (14, true), (15, false), (16, false), (17, false), (18, false)] 85 rfl (by kernel_rfl) (by kernel_rfl) (by kernel_rfl) (fun c a d v w h => by cases d <;> exact h) (fun w9 hf9 => ?_)
  simp only [List.map_cons, List.map_nil, List.getElem?_toArray, List.getElem?_cons_succ, List.getElem?_cons_zero, Option.getD_some]
  have hf09 : Fr [] w w9 := hf07.trans hf9 (by simp) (by simp)
  have HQ9 := Lib.hid (hf9.heap HQ7.out (by simp))
  repeat (apply wpG_t; · (intro w' hf'; go_wp2_with fail; exact ⟨rfl, rfl⟩))
  refine wpG_x ?_
  go_wp2_with fail
  refine ⟨Fr.refl _ _, rfl, ?_⟩
  repeat (apply wpG_t; · (intro w' hf'; go_wp2_with fail; exact ⟨rfl, rfl⟩))
  refine wpG_end ?_
  have hfX := hf09
  go_wp2_with (first
    | (refine wpL_load_want rfl 29 _ rfl w11.heap.size rfl 29 Z (0, 0) _ HE13.out Tryd.underlying29 rfl HSE.out ?_; refine wpL_val_want rfl (.agg (stC zeroSt)) (by kernel_rfl) ?_; rw [← HZ.out])
    | (refine wpList_load_row rfl 29 _ rfl g5 rfl 29 Q (0, 0) _ HQ9.out Tryd.underlying29 rfl HSS.out ?_; have hmark := 0)
    | (go_at_call 15; refine (HBLK.out _ hfX).mono ?_; rintro e w11 ⟨rfl, hf11⟩)
    | (refine wpL_newArr rfl 29 rfl Z HIZ.out ?_; intro w12 hh12 hf12 hs12; refine wpL_storeArr rfl 29 (.tmp 12) (.tmp 59) rfl w11.heap.size Z Z rfl rfl 29 hh12.out HSE.out rfl HOE.out ?_; intro w13 hh13 hf13 hs13; have HE13 := Lib.hid hh13.out; have hf013 : Fr [] w w13 := ((hfX.trans hf11 (by simp) (n := []) (by simp)).trans hf12 (by simp) (n := []) (by simp)).trans hf13 (by simp) (by simp; have := hfX.size; have := hf11.size; omega))
    | (go_at_call 6; refine (HAW.out _ hf013).mono ?_; rintro e w14 ⟨rfl, hf14⟩))
  go_ret
  exact ⟨rfl, hf013.trans hf14 (by simp) (by simp)⟩
set_option maxRecDepth 100000 in
theorem parts_big_big_64 (i : Int) (n : Int) (st : St) (bs : List UInt8) (v0 : Value) (w : World) (h0 : bytesAt w v0 bs) (hr : rootsAt w) (hok : st.ok) (hi : 63 < i) (hn : 1000 < n) (hb : bs.length = 64) :
    Calls Tryd.prog 4 #[.int .i64 i, .agg (stC st), v0, .int .i64 n] w fun e w' => e = .returned (.bool true) ∧ Fr [] w w' := by
  obtain ⟨a0, c0, rfl, hle, hmx⟩ := h0.form
  have HB := Lib.hid h0
  have HR := Lib.hid hr
  have HBEG := Lib.hid (fun W => begin_any W)
  have HRBEG := Lib.hid (fun W => ref_beginE_any W)
  have eqB := fun wx => equal_st wx beginSt
  have HSB := Lib.hid (sizeN8 beginSt)
  have HOB := Lib.hid (stC_one beginSt)
  have HZB := Lib.hid (show (stC zeroSt).size = (stC beginSt).size by simp only [stC_size])
  have HIZ := Lib.hid infoN8
  have HSS := Lib.hid (sizeN8 st)
  have HBLK := Lib.hid (fun W (hW : Fr [] w W) => block_ok st bs _ W hok (h0.below hW) hb (hr.below hW))
  have HRBLK := Lib.hid (fun W (hW : Fr [] w W) => ref_block_any st bs _ W hok (h0.below hW) hb)
  have eqE := fun wx => equal_st wx (blockSt st bs)
  have HSE := Lib.hid (sizeN8 (blockSt st bs))
  have HOE := Lib.hid (stC_one (blockSt st bs))
  have HZE := Lib.hid (show (stC zeroSt).size = (stC (blockSt st bs)).size by simp only [stC_size])
  have HAW := Lib.hid (fun W (hW : Fr [] w W) => awake_any W (hr.below hW))
  obtain ⟨E, hE⟩ : ∃ E, E = stC (blockSt st bs) := ⟨_, rfl⟩
  rw [← hE] at HBLK HRBLK eqE HSE HOE HZE
  obtain ⟨Z, hZ⟩ : ∃ Z, Z = stC zeroSt := ⟨_, rfl⟩
  rw [← hZ] at HZB HIZ HZE
  obtain ⟨G, hG⟩ : ∃ G, G = stC beginSt := ⟨_, rfl⟩
  rw [← hG] at HBEG HRBEG eqB HSB HOB HZB
  obtain ⟨Q, hQ⟩ : ∃ Q, Q = stC st := ⟨_, rfl⟩
  rw [← hQ] at HSS HBLK HRBLK ⊢
  have HZ := Lib.hid hZ
  have HROOT := Lib.hid (fun W (hW : Fr [] w W) => root_out i W (Or.inr (by omega)))
  have hd1 : decide ((0 : Int) ≤ i) = true := decide_eq_true (by omega)
  have hd2 : decide (i ≤ 63) = false := decide_eq_false (by omega)
  have hd3 : decide (n ≤ 1000) = false := decide_eq_false (by omega)
  have hd6 : ((bs.length : Int) != 64) = false := by rw [bne_eq_false_iff_eq]; omega
  have HLE := Lib.hid hle
  have HMX := Lib.hid hmx
  clear h0 hr hok hi hn hb hle hmx hZ hG hQ hE
  go_enter Tryd.func4, Tryd.ntmps4
  go_wp2_with (first
    | (refine wpL_boxArr rfl 29 _ rfl Q rfl ?_; intro w1 hh1 hf1 hs1; have HG1 := Lib.hid hh1.out; have hsz1 := hs1.out; clear hh1)
    | (go_at_call 10; refine (HBEG.out _).mono ?_; rintro e w3 ⟨rfl, hf3⟩)
    | (refine wpL_newArr rfl 29 rfl Z HIZ.out ?_; intro w4 hh4 hf4 hs4; refine wpL_storeArr rfl 29 (.tmp 10) (.tmp 22) rfl w3.heap.size G Z rfl rfl 29 hh4.out HSB.out HZB.out HOB.out ?_; intro w5 hh5 hf5 hs5))
  have hf03 : Fr [] w w3 := hf1.trans hf3 (by simp) (by simp)
  have hf13 : Fr [] w1 w3 := hf3
  have hf35 : Fr [] w3 w5 := hf4.trans hf5 (by simp) (by simp)
  have hf05 : Fr [] w w5 := hf03.trans hf35 (by simp) (by simp)
  have hf15 : Fr [] w1 w5 := hf13.trans hf35 (by simp) (by simp)
  have HQ5 := Lib.hid (hf15.heap HG1.out (by simp))
  obtain ⟨g5, hg5⟩ : ∃ g, g = w.heap.size := ⟨_, rfl⟩
  rw [← hg5] at HQ5 ⊢
  obtain ⟨g, hg⟩ : ∃ g, g = w3.heap.size := ⟨_, rfl⟩
  have hhg := hh5.out
  rw [← hg] at hhg ⊢
  have HG := Lib.hid hhg
  clear hg hhg hh4 hh5 hf1 hf3 hf4 hf5 hf13 hf35 hf15 HG1 hs1 hs4 hs5 hsz1 hg5
  refine wp_region_G [] [(0, false), (2, false), (1, true), (3, false), (4, false), (5, false), (6, true), (7, false), (8, false)] 85 rfl (by kernel_rfl) (by kernel_rfl) (by kernel_rfl) (fun c a d v w h => by cases d <;> exact h) (fun w6 hf6 => ?_)
  simp only [List.map_cons, List.map_nil, List.getElem?_toArray, List.getElem?_cons_succ, List.getElem?_cons_zero, Option.getD_some]
  have hf06 : Fr [] w w6 := hf05.trans hf6 (by simp) (by simp)
  repeat (apply wpG_t; · (intro w' hf'; go_wp2_with fail; exact ⟨rfl, rfl⟩))
  refine wpG_x ?_
  go_wp2_with (go_at_call 11; refine (HROOT.out _ hf06).mono ?_; rintro e w6b ⟨rfl, rfl⟩)
  refine ⟨Fr.refl _ _, rfl, ?_⟩
  have LG : Hid (Later [] w6 (fun w' => w'.heap[g]? = some (.cells G 29 (0, 0)))) := Lib.hid (fun w' hf' => hf'.heap (hf6.heap HG.out (by simp)) (by simp))
  repeat (apply wpG_t; · (intro w' hf'; first
    | (refine wpL_load_want rfl 29 _ rfl g rfl 29 G (0, 0) _ (LG.out w' hf') Tryd.underlying29 rfl HSB.out ?_; exact ⟨rfl, rfl⟩)
    | (go_wp2_with fail; exact ⟨rfl, rfl⟩)))
  refine wpG_x ?_
  go_wp2_with (go_at_call 12; refine (HRBEG.out _).mono ?_; rintro e w7 ⟨rfl, hf7⟩)
  refine ⟨hf7, rfl, ?_⟩
  repeat (apply wpG_t; · (intro w' hf'; go_wp2_with fail; exact ⟨rfl, rfl⟩))
  refine wpG_end ?_
  have hf07 : Fr [] w w7 := hf06.trans hf7 (by simp) (by simp)
  have HQ7 := Lib.hid (hf7.heap (hf6.heap HQ5.out (by simp)) (by simp))
  clear LG HG HQ5 hf05 hf06 hf6 hf7
  have hfX := hf07
  go_wp2_with (first
    | (refine wpList_load_row rfl 29 _ rfl g5 rfl 29 Q (0, 0) _ HQ7.out Tryd.underlying29 rfl HSS.out ?_; have hmark := 0)
    | (go_at_call 15; refine (HBLK.out _ hfX).mono ?_; rintro e w11 ⟨rfl, hf11⟩)
    | (refine wpL_newArr rfl 29 rfl Z HIZ.out ?_; intro w12 hh12 hf12 hs12; refine wpL_storeArr rfl 29 (.tmp 12) (.tmp 59) rfl w11.heap.size E Z rfl rfl 29 hh12.out HSE.out HZE.out HOE.out ?_; intro w13 hh13 hf13 hs13; have HE13 := Lib.hid hh13.out; have hf013 : Fr [] w w13 := ((hfX.trans hf11 (by simp) (n := []) (by simp)).trans hf12 (by simp) (n := []) (by simp)).trans hf13 (by simp) (by simp; have := hfX.size; have := hf11.size; omega)))
  have HQ13 := Lib.hid (hf13.heap (hf12.heap (hf11.heap HQ7.out (by simp)) (by simp)) (by simp; have h1 := (Array.getElem?_eq_some_iff.1 HQ7.out).1; have h2 := hf11.size; omega))
  obtain ⟨ge, hge⟩ : ∃ g, g = w11.heap.size := ⟨_, rfl⟩
  rw [← hge] at HE13 ⊢
  refine wp_region_G [] [(0, false), (1, false), (2, false), (3, false), (4, false), (5, true), (6, false), (7, false), (8, false), (9, true), (10, false), (11, false)] 85 rfl (by kernel_rfl) (by kernel_rfl) (by kernel_rfl) (fun c a d v w h => by cases d <;> exact h) (fun w14 hf14 => ?_)
  simp only [List.map_cons, List.map_nil, List.getElem?_toArray, List.getElem?_cons_succ, List.getElem?_cons_zero, Option.getD_some]
  have hf014 : Fr [] w w14 := hf013.trans hf14 (by simp) (by simp)
  have LE : Hid (Later [] w14 (fun w' => w'.heap[ge]? = some (.cells E 29 (0, 0)))) := Lib.hid (fun w' hf' => hf'.heap (hf14.heap HE13.out (by simp)) (by simp))
  have LQ : Hid (Later [] w14 (fun w' => w'.heap[g5]? = some (.cells Q 29 (0, 0)))) := Lib.hid (fun w' hf' => hf'.heap (hf14.heap HQ13.out (by simp)) (by simp))
  repeat (apply wpG_t; · (intro w' hf'; first
    | (refine wpL_load_want rfl 29 _ rfl ge rfl 29 E (0, 0) _ (LE.out w' hf') Tryd.underlying29 rfl HSE.out ?_; exact ⟨rfl, rfl⟩)
    | (refine wpL_load_want rfl 29 _ rfl g5 rfl 29 Q (0, 0) _ (LQ.out w' hf') Tryd.underlying29 rfl HSS.out ?_; exact ⟨rfl, rfl⟩)
    | (go_wp2_with fail; exact ⟨rfl, rfl⟩)))
  refine wpG_x ?_
  go_wp2_with (go_at_call 16; refine (HRBLK.out _ hf014).mono ?_; rintro e w15 ⟨rfl, hf15⟩)
  refine ⟨hf15, rfl, ?_⟩
  repeat (apply wpG_t; · (intro w' hf'; go_wp2_with fail; exact ⟨rfl, rfl⟩))
  refine wpG_x ?_
  have hf015 : Fr [] w w15 := hf014.trans hf15 (by simp) (by simp)
  go_wp2_with (go_at_call 6; refine (HAW.out _ hf015).mono ?_; rintro e w16 ⟨rfl, hf16⟩)
  refine ⟨hf16, rfl, ?_⟩
  repeat (apply wpG_t; · (intro w' hf'; go_wp2_with fail; exact ⟨rfl, rfl⟩))
  refine wpG_end ?_
  go_wp2_with fail
  go_ret
  exact ⟨rfl, hf015.trans hf16 (by simp) (by simp)⟩
set_option maxRecDepth 100000 in
theorem parts_big_big_no (i : Int) (n : Int) (st : St) (bs : List UInt8) (v0 : Value) (w : World) (h0 : bytesAt w v0 bs) (hr : rootsAt w) (hok : st.ok) (hi : 63 < i) (hn : 1000 < n) (hb : bs.length ≠ 64) :
    Calls Tryd.prog 4 #[.int .i64 i, .agg (stC st), v0, .int .i64 n] w fun e w' => e = .returned (.bool true) ∧ Fr [] w w' := by
  obtain ⟨a0, c0, rfl, hle, hmx⟩ := h0.form
  have HB := Lib.hid h0
  have HR := Lib.hid hr
  have HBEG := Lib.hid (fun W => begin_any W)
  have HRBEG := Lib.hid (fun W => ref_beginE_any W)
  have eqB := fun wx => equal_st wx beginSt
  have HSB := Lib.hid (sizeN8 beginSt)
  have HOB := Lib.hid (stC_one beginSt)
  have HZB := Lib.hid (show (stC zeroSt).size = (stC beginSt).size by simp only [stC_size])
  have HIZ := Lib.hid infoN8
  have HSS := Lib.hid (sizeN8 st)
  have HBLK := Lib.hid (fun W (hW : Fr [] w W) => block_bad st bs _ W (h0.below hW) hb)
  have eqE := fun wx => equal_st wx zeroSt
  have HSE := Lib.hid (sizeN8 (zeroSt))
  have HOE := Lib.hid (stC_one (zeroSt))
  have HZE := Lib.hid (show (stC zeroSt).size = (stC (zeroSt)).size by simp only [stC_size])
  have HAW := Lib.hid (fun W (hW : Fr [] w W) => awake_any W (hr.below hW))
  obtain ⟨Z, hZ⟩ : ∃ Z, Z = stC zeroSt := ⟨_, rfl⟩
  rw [← hZ] at HZB HIZ HZE
  rw [← hZ] at HBLK eqE HSE HOE
  obtain ⟨G, hG⟩ : ∃ G, G = stC beginSt := ⟨_, rfl⟩
  rw [← hG] at HBEG HRBEG eqB HSB HOB HZB
  obtain ⟨Q, hQ⟩ : ∃ Q, Q = stC st := ⟨_, rfl⟩
  rw [← hQ] at HSS HBLK ⊢
  have HZ := Lib.hid hZ
  have HROOT := Lib.hid (fun W (hW : Fr [] w W) => root_out i W (Or.inr (by omega)))
  have hd1 : decide ((0 : Int) ≤ i) = true := decide_eq_true (by omega)
  have hd2 : decide (i ≤ 63) = false := decide_eq_false (by omega)
  have hd3 : decide (n ≤ 1000) = false := decide_eq_false (by omega)
  have hd6 : ((bs.length : Int) != 64) = true := by rw [bne_iff_ne]; omega
  have HLE := Lib.hid hle
  have HMX := Lib.hid hmx
  clear h0 hr hok hi hn hb hle hmx hZ hG hQ
  go_enter Tryd.func4, Tryd.ntmps4
  go_wp2_with (first
    | (refine wpL_boxArr rfl 29 _ rfl Q rfl ?_; intro w1 hh1 hf1 hs1; have HG1 := Lib.hid hh1.out; have hsz1 := hs1.out; clear hh1)
    | (go_at_call 10; refine (HBEG.out _).mono ?_; rintro e w3 ⟨rfl, hf3⟩)
    | (refine wpL_newArr rfl 29 rfl Z HIZ.out ?_; intro w4 hh4 hf4 hs4; refine wpL_storeArr rfl 29 (.tmp 10) (.tmp 22) rfl w3.heap.size G Z rfl rfl 29 hh4.out HSB.out HZB.out HOB.out ?_; intro w5 hh5 hf5 hs5))
  have hf03 : Fr [] w w3 := hf1.trans hf3 (by simp) (by simp)
  have hf13 : Fr [] w1 w3 := hf3
  have hf35 : Fr [] w3 w5 := hf4.trans hf5 (by simp) (by simp)
  have hf05 : Fr [] w w5 := hf03.trans hf35 (by simp) (by simp)
  have hf15 : Fr [] w1 w5 := hf13.trans hf35 (by simp) (by simp)
  have HQ5 := Lib.hid (hf15.heap HG1.out (by simp))
  obtain ⟨g5, hg5⟩ : ∃ g, g = w.heap.size := ⟨_, rfl⟩
  rw [← hg5] at HQ5 ⊢
  obtain ⟨g, hg⟩ : ∃ g, g = w3.heap.size := ⟨_, rfl⟩
  have hhg := hh5.out
  rw [← hg] at hhg ⊢
  have HG := Lib.hid hhg
  clear hg hhg hh4 hh5 hf1 hf3 hf4 hf5 hf13 hf35 hf15 HG1 hs1 hs4 hs5 hsz1 hg5
  refine wp_region_G [] [(0, false), (2, false), (1, true), (3, false), (4, false), (5, false), (6, true), (7, false), (8, false)] 85 rfl (by kernel_rfl) (by kernel_rfl) (by kernel_rfl) (fun c a d v w h => by cases d <;> exact h) (fun w6 hf6 => ?_)
  simp only [List.map_cons, List.map_nil, List.getElem?_toArray, List.getElem?_cons_succ, List.getElem?_cons_zero, Option.getD_some]
  have hf06 : Fr [] w w6 := hf05.trans hf6 (by simp) (by simp)
  repeat (apply wpG_t; · (intro w' hf'; go_wp2_with fail; exact ⟨rfl, rfl⟩))
  refine wpG_x ?_
  go_wp2_with (go_at_call 11; refine (HROOT.out _ hf06).mono ?_; rintro e w6b ⟨rfl, rfl⟩)
  refine ⟨Fr.refl _ _, rfl, ?_⟩
  have LG : Hid (Later [] w6 (fun w' => w'.heap[g]? = some (.cells G 29 (0, 0)))) := Lib.hid (fun w' hf' => hf'.heap (hf6.heap HG.out (by simp)) (by simp))
  repeat (apply wpG_t; · (intro w' hf'; first
    | (refine wpL_load_want rfl 29 _ rfl g rfl 29 G (0, 0) _ (LG.out w' hf') Tryd.underlying29 rfl HSB.out ?_; exact ⟨rfl, rfl⟩)
    | (go_wp2_with fail; exact ⟨rfl, rfl⟩)))
  refine wpG_x ?_
  go_wp2_with (go_at_call 12; refine (HRBEG.out _).mono ?_; rintro e w7 ⟨rfl, hf7⟩)
  refine ⟨hf7, rfl, ?_⟩
  repeat (apply wpG_t; · (intro w' hf'; go_wp2_with fail; exact ⟨rfl, rfl⟩))
  refine wpG_end ?_
  have hf07 : Fr [] w w7 := hf06.trans hf7 (by simp) (by simp)
  have HQ7 := Lib.hid (hf7.heap (hf6.heap HQ5.out (by simp)) (by simp))
  clear LG HG HQ5 hf05 hf06 hf6 hf7
  have hfX := hf07
  go_wp2_with (first
    | (refine wpL_load_want rfl 29 _ rfl w11.heap.size rfl 29 Z (0, 0) _ HE13.out Tryd.underlying29 rfl HSE.out ?_; refine wpL_val_want rfl (.agg (stC zeroSt)) (by kernel_rfl) ?_; rw [← HZ.out])
    | (refine wpList_load_row rfl 29 _ rfl g5 rfl 29 Q (0, 0) _ HQ7.out Tryd.underlying29 rfl HSS.out ?_; have hmark := 0)
    | (go_at_call 15; refine (HBLK.out _ hfX).mono ?_; rintro e w11 ⟨rfl, hf11⟩)
    | (refine wpL_newArr rfl 29 rfl Z HIZ.out ?_; intro w12 hh12 hf12 hs12; refine wpL_storeArr rfl 29 (.tmp 12) (.tmp 59) rfl w11.heap.size Z Z rfl rfl 29 hh12.out HSE.out rfl HOE.out ?_; intro w13 hh13 hf13 hs13; have HE13 := Lib.hid hh13.out; have hf013 : Fr [] w w13 := ((hfX.trans hf11 (by simp) (n := []) (by simp)).trans hf12 (by simp) (n := []) (by simp)).trans hf13 (by simp) (by simp; have := hfX.size; have := hf11.size; omega))
    | (go_at_call 6; refine (HAW.out _ hf013).mono ?_; rintro e w14 ⟨rfl, hf14⟩))
  go_ret
  exact ⟨rfl, hf013.trans hf14 (by simp) (by simp)⟩
theorem parts_any (i n : Int) (st : St) (bs : List UInt8) (v0 : Value) (w : World) (h0 : bytesAt w v0 bs) (hr : rootsAt w) (hok : st.ok) :
    Calls Tryd.prog 4 #[.int .i64 i, .agg (stC st), v0, .int .i64 n] w fun e w' => e = .returned (.bool true) ∧ Fr [] w w' := by
  have hB : bs.length = 64 ∨ bs.length ≠ 64 := by omega
  have hI : i < 0 ∨ 63 < i ∨ (0 ≤ i ∧ i < 64) := by omega
  have hN : n < 0 ∨ 1000 < n ∨ (0 ≤ n ∧ n ≤ 1000) := by omega
  rcases hI with hi | hi | ⟨hi1, hi⟩
  · rcases hN with hn | hn | ⟨hn1, hn⟩
    · rcases hB with hb | hb
      · exact parts_neg_neg_64 i n st bs v0 w h0 hr hok hi hn hb
      · exact parts_neg_neg_no i n st bs v0 w h0 hr hok hi hn hb
    · rcases hB with hb | hb
      · exact parts_neg_big_64 i n st bs v0 w h0 hr hok hi hn hb
      · exact parts_neg_big_no i n st bs v0 w h0 hr hok hi hn hb
    · obtain ⟨n, rfl⟩ := Int.eq_ofNat_of_zero_le hn1
      rcases hB with hb | hb
      · exact parts_neg_mid_64 i n st bs v0 w h0 hr hok hi (by omega) hb
      · exact parts_neg_mid_no i n st bs v0 w h0 hr hok hi (by omega) hb
  · rcases hN with hn | hn | ⟨hn1, hn⟩
    · rcases hB with hb | hb
      · exact parts_big_neg_64 i n st bs v0 w h0 hr hok hi hn hb
      · exact parts_big_neg_no i n st bs v0 w h0 hr hok hi hn hb
    · rcases hB with hb | hb
      · exact parts_big_big_64 i n st bs v0 w h0 hr hok hi hn hb
      · exact parts_big_big_no i n st bs v0 w h0 hr hok hi hn hb
    · obtain ⟨n, rfl⟩ := Int.eq_ofNat_of_zero_le hn1
      rcases hB with hb | hb
      · exact parts_big_mid_64 i n st bs v0 w h0 hr hok hi (by omega) hb
      · exact parts_big_mid_no i n st bs v0 w h0 hr hok hi (by omega) hb
  · obtain ⟨i, rfl⟩ := Int.eq_ofNat_of_zero_le hi1
    rcases hN with hn | hn | ⟨hn1, hn⟩
    · rcases hB with hb | hb
      · exact parts_in_neg_64 i n st bs v0 w h0 hr hok (by omega) hn hb
      · exact parts_in_neg_no i n st bs v0 w h0 hr hok (by omega) hn hb
    · rcases hB with hb | hb
      · exact parts_in_big_64 i n st bs v0 w h0 hr hok (by omega) hn hb
      · exact parts_in_big_no i n st bs v0 w h0 hr hok (by omega) hn hb
    · obtain ⟨n, rfl⟩ := Int.eq_ofNat_of_zero_le hn1
      rcases hB with hb | hb
      · exact parts_in_mid_64 i n st bs v0 w h0 hr hok (by omega) (by omega) hb
      · exact parts_in_mid_no i n st bs v0 w h0 hr hok (by omega) (by omega) hb
end Go.Proofs.YtjiighgabfkmpaaDoor
