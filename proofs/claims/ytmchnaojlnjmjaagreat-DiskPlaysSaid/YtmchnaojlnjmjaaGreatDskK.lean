/- The document's disk (layer 11): Up. -/
import Derived.Test.YtmchnaojlnjmjaaGreatDskJ
import Derived.Test.YtmchnaojlnjmjaaGreatUs
namespace Go.Proofs.YtmchnaojlnjmjaaGreat
open Go.RowKit Go.Maps

theorem boxes3_at (w : World) (cs : Array Value) (L : Obj) : Boxes w w.heap.size (w.heap.size + 1 + 1) cs (((w.alloc (.cells cs 34)).alloc L).alloc (.cells zeroK 34)) ∧
    (((w.alloc (.cells cs 34)).alloc L).alloc (.cells zeroK 34)).heap[w.heap.size + 1]? = some L := by
  have h0 := Fr.alloc w (.cells cs 34)
  have h1 := Fr.alloc (w.alloc (.cells cs 34)) L
  have h2 := Fr.alloc ((w.alloc (.cells cs 34)).alloc L) (.cells zeroK 34)
  have e1 := heap_alloc_new (w.alloc (.cells cs 34)) L
  have e2 := heap_alloc_new ((w.alloc (.cells cs 34)).alloc L) (.cells zeroK 34)
  rw [World.size_alloc] at e1
  rw [World.size_alloc, World.size_alloc] at e2
  exact ⟨⟨by omega, by omega, by omega, h2.heap (h1.heap (heap_alloc_new _ _) (by simp)) (by simp), ⟨_, _, _, _, _, _, _, _, e2⟩, (h0.trans h1 (by simp) (n := []) (by simp)).trans h2 (by simp) (by simp)⟩, h2.heap e1 (by simp)⟩
/-- One step of Up's loop. -/
def upFs (sizes : List Int) (e : Ent) (i : Nat) (fs : List FileD) (cuts : List Int) : List FileD :=
  let f := fs.getD e.2.toNat f0D
  let left := crashC f.now f.safe.length (sizes.getD i 0) cuts
  fs.set e.2.toNat ⟨left, left⟩
/-- In Up's loop. -/
def UpRel (w : World) (q0 q1 : Nat) (d : DskD) (D : List Nat) (vC av : Value) (C : List Ent) (sizes cuts0 : List Int) (M : Nat) (w3 : World) (s5 s6 : Value) (wx : World) : Prop :=
  ∃ (i : Nat) (fs : List FileD) (cuts : List Int) (fv : Value) (D' : List Nat), i ≤ C.length ∧ s6 = .int .i64 (i : Int) ∧ cellsAt wx s5 (cuts.map (Value.int .i64)) ∧ (∀ j, s5.ownBlock = some j → cuts ≠ [] → j < w.heap.size) ∧ cuts.length ≤ 1000000 ∧ Boxes w q0 q1 #[vC, vC, .slice none 0 0, fv, .int .i64 d.room, .int .i64 d.steps, .bool d.down, av] wx ∧
    filesR wx fv fs D' ∧ (∀ k ∈ D', (k ∈ D ∨ w.heap.size ≤ k) ∧ k < wx.heap.size ∧ k ≠ q0 ∧ k ≠ q1) ∧ fs.length = d.files.length ∧ FsOk fs M ∧ upL sizes (C.drop i) i fs cuts = upL sizes C 0 d.files cuts0 ∧ Fr [q0] w3 wx
set_option maxRecDepth 100000 in
set_option maxHeartbeats 2000000 in
theorem kup_any (nv sv ov fv av : Value) (d : DskD) (D : List Nat) (ks : List Bool) (sizes cuts : List Int) (kv zv cv : Value) (k : Nat) (w : World) (h : RK w nv sv ov fv av d D) (hk : OkK d k) (hk6 : k ≤ 900) (hks : cellsAt w kv (ks.map Value.bool)) (hkl : ks.length ≤ 1000000) (hzs : cellsAt w zv (sizes.map (Value.int .i64)))
    (hcs : cellsAt w cv (cuts.map (Value.int .i64))) (hcl : cuts.length ≤ 1000000) (hok : okNames d.ds) (hook : okOps d.ops) (hCl : (crashL d.ds d.ops ks).length ≤ 1000) (hCn : ∀ e ∈ crashL d.ds d.ops ks, 0 ≤ e.2 ∧ e.2.toNat < d.files.length) :
    Calls Tryz.prog 28 #[kval nv sv ov fv av d, .agg #[kv, zv, cv]] w (Dsk1 (upK d ks sizes cuts) D w) := by
  have HRK := Lib.hid h
  have HOK := Lib.hid hk
  obtain ⟨ak, ck, rfl, -, -⟩ := hks.form
  obtain ⟨az, cz, rfl, -, -⟩ := hzs.form
  obtain ⟨ac, cc, rfl, -, -⟩ := hcs.form
  rw [List.length_map] at hks hzs hcs ⊢
  rw [List.length_map, List.length_map]
  obtain ⟨a0, c0, a1, c1, a2, c2, a3, c3, a4, c4, rfl, rfl, rfl, rfl, rfl⟩ := h.slices
  have HKS := Lib.hid hks
  have HZS := Lib.hid hzs
  have HCS := Lib.hid hcs
  have hcr := fun wx (hx : Fr [] w wx) => rcrash_any d.dn d.ds d.ops ks _ _ _ _ wx (HRK.out.dir.below hx).1 (HRK.out.dir.below hx).2.1 (HRK.out.dir.below hx).2.2 (HKS.out.below hx) (by have := HOK.out.sl; omega) (by have := HOK.out.ol; omega) hkl hok hook
  obtain ⟨C, hC⟩ : ∃ C, C = crashL d.ds d.ops ks := ⟨_, rfl⟩
  rw [← hC] at hcr hCl hCn
  have HCR := Lib.hid hcr
  have HCE := Lib.hid hC
  have HCN := Lib.hid hCn
  unfold kval
  clear h hk hks hzs hcs hcr hC hCn
  go_enter Tryz.func28, Tryz.ntmps28
  go_upto_region 1 with fail
  have hB3 := boxes3_at w #[.slice a0 d.dn.length c0, .slice a1 d.ds.length c1, .slice a2 d.ops.length c2, .slice a3 d.files.length c3, .int .i64 d.room, .int .i64 d.steps, .bool d.down, .slice a4 d.armed.length c4] (.cells #[.slice ak ks.length ck, .slice az sizes.length cz, .slice ac cuts.length cc] 71)
  unfold zeroK at hB3
  obtain ⟨hB, hL⟩ := hB3
  obtain ⟨w2, hw2⟩ : ∃ w2, w2 = ((w.alloc (.cells #[.slice a0 d.dn.length c0, .slice a1 d.ds.length c1, .slice a2 d.ops.length c2, .slice a3 d.files.length c3, .int .i64 d.room, .int .i64 d.steps, .bool d.down, .slice a4 d.armed.length c4] 34)).alloc (.cells #[.slice ak ks.length ck, .slice az sizes.length cz, .slice ac cuts.length cc] 71)).alloc (.cells #[.slice none 0 0, .slice none 0 0, .slice none 0 0, .slice none 0 0, .int .i64 0, .int .i64 0, .bool false, .slice none 0 0] 34) := ⟨_, rfl⟩
  rw [← hw2] at hB hL ⊢
  obtain ⟨q0, hq0⟩ : ∃ q, q = w.heap.size := ⟨_, rfl⟩
  obtain ⟨q3, hq3⟩ : ∃ q, q = w.heap.size + 1 := ⟨_, rfl⟩
  obtain ⟨q1, hq1⟩ : ∃ q, q = w.heap.size + 1 + 1 := ⟨_, rfl⟩
  rw [← hq1, ← hq0] at hB
  rw [← hq3] at hL
  rw [← hq1, ← hq3, ← hq0]
  have hq30 : q3 ≠ q0 := by omega
  have hq31 : q3 ≠ q1 := by omega
  have hqw : w.heap.size ≤ q3 := by omega
  have hq01 : q0 ≠ q1 := by omega
  clear hw2 hq0 hq1 hq3
  have HB := Lib.hid hB
  have HL := Lib.hid hL
  obtain ⟨y0, y1, y2, y3, y4, y5, y6, y7⟩ := eight_of_heap hB.b0
  obtain ⟨l0, l1, l2, -, -, -⟩ := three_of_heap hL
  clear hB hL
  go_upto_region 2 with (go_at_call 61; refine (HCR.out _ HB.out.fr).mono ?_; rintro e w3 ⟨vC, rfl, hnC, hf3⟩; obtain ⟨x0, n0, rfl, -, -⟩ := owns_slice' hnC; replace HB := Lib.hid (HB.out.below hf3); have HL3 := Lib.hid (hf3.heap HL.out (by simp)); have HNC := Lib.hid hnC; clear y0 y1 y2 y3 y4 y5 y6 y7 l0 l1 l2 hf3 hnC; obtain ⟨y0, y1, y2, y3, y4, y5, y6, y7⟩ := eight_of_heap HB.out.b0; obtain ⟨g0, g1, g2, g3, g4, g5, g6, g7⟩ := eight_free HB.out.b0)
  have hB7 : Boxes w q0 q1 #[.slice x0 C.length n0, .slice x0 C.length n0, .slice none 0 0, .slice a3 d.files.length c3, .int .i64 d.room, .int .i64 d.steps, .bool d.down, .slice a4 d.armed.length c4] _ := HB.out.write (Fr.set3 w3 q0 (.slice x0 C.length n0) (.slice x0 C.length n0) (.slice none 0 0)) (heap_set3of8 HB.out.b0 (.slice x0 C.length n0) (.slice x0 C.length n0) (.slice none 0 0))
  have hf67 : Fr [q0] w3 _ := Fr.set3 w3 q0 (.slice x0 C.length n0) (.slice x0 C.length n0) (.slice none 0 0)
  generalize hw7 : (((w3.setCell ⟨q0, 0, none⟩ (.slice x0 C.length n0)).setCell ⟨q0, 1, none⟩ (.slice x0 C.length n0)).setCell ⟨q0, 2, none⟩ (.slice none 0 0)) = w7 at hB7 hf67 ⊢
  have HD7 := Lib.hid (RD.box ⟨HNC.out, HNC.out, World.ownsRow_nil _ _ _ _⟩ HB.out.b0 hf67 : RD w7 _ _ _ C C [])
  have HL7 := Lib.hid (hf67.heap HL3.out (by simpa using hq30))
  clear hw7 hf67 g0 g1 g2 g3 g4 g5 g6 g7 y0 y1 y2 y3 y4 y5 y6 y7 HL3 HL
  replace HB := Lib.hid hB7
  clear hB7
  obtain ⟨l0, l1, l2, -, -, -⟩ := three_of_heap HL7.out
  go_wp2_with fail
  have hlt0 := HRK.out.lt
  have hb0n := HB.out.n0
  have hb1n := HB.out.n1
  have hM : ∀ f ∈ d.files, f.now.length ≤ 1000 * k := HOK.out.len
  have hstart : UpRel w q0 q1 d D (.slice x0 C.length n0) (.slice a4 d.armed.length c4) C sizes cuts (1000 * k) w7 (.slice ac cuts.length cc) (.int .i64 0) w7 :=
    ⟨0, d.files, cuts, _, D, Nat.zero_le _, rfl, HCS.out.below HB.out.fr, fun j hj hne => HCS.out.lt (by simpa using hne) j hj, hcl, HB.out, HRK.out.files.below HB.out.fr, fun j hj => ⟨.inl hj, Nat.lt_of_lt_of_le (hlt0 j hj) HB.out.fr.size, by have := hlt0 j hj; omega, by have := hlt0 j hj; omega⟩, rfl, ⟨HOK.out.pre, hM⟩, rfl, Fr.refl _ _⟩
  have HM := Lib.hid hM
  clear l0 l1 l2 hM hlt0
  go_loopw [5, 6] (UpRel w q0 q1 d D (.slice x0 C.length n0) (.slice a4 d.armed.length c4) C sizes cuts (1000 * k) w7) (fun _ iv _ => C.length - (intOf iv).toNat)
  case atStart => exact hstart
  case round =>
    clear hstart
    obtain ⟨i, fs, cs, fvx, D', hi, rfl, hcut, hcob, hcsl, hBx, hfl, hD', hfs, hfo, hup, hfr⟩ := hrel
    obtain ⟨ax, cx, rfl, hlcx, hmcx⟩ := hcut.form
    rw [List.length_map] at hcut hlcx ⊢
    obtain ⟨a6, c6, rfl⟩ := hfl.slice
    rw [hfs] at hfl hBx
    have hm63 : cx ≤ 9223372036854775807 := by simpa [maxLen] using hmcx
    obtain ⟨y0, y1, y2, y3, y4, y5, y6, y7⟩ := eight_of_heap hBx.b0
    have HBx := Lib.hid hBx
    have HCUT := Lib.hid hcut
    have HCOB := Lib.hid hcob
    have HFLx := Lib.hid hfl
    have HDx := Lib.hid hD'
    have HFS := Lib.hid hfs
    have HFO := Lib.hid hfo
    have HUP := Lib.hid hup
    have HFR := Lib.hid hfr
    have HNX := Lib.hid (HD7.out.box HB.out.b0 hfr).1
    clear hBx hcut hcob hfl hD' hfs hfo hup hfr
    by_cases hin : i < C.length
    · have hd2 : decide (i < C.length) = true := decide_eq_true hin
      have hel : elemsAt wr (.slice x0 C.length n0) 2 (C.map entC) := elems_of_owns (xs := C.map entC) (by rw [List.length_map]; exact HNX.out) (fun x hx => by obtain ⟨f, _, rfl⟩ := List.mem_map.1 hx; rfl)
      obtain ⟨b, off, rfl, -, -, -, hc1⟩ := duo_cells hel i hin
      have hcn := HCN.out _ (List.getElem_mem hin)
      obtain ⟨n, hn⟩ : ∃ n : Nat, (C[i]'hin).2 = (n : Int) := ⟨(C[i]'hin).2.toNat, by omega⟩
      rw [hn] at hc1 hcn
      have hnd : n < d.files.length := by simpa using hcn.2
      have hnf : n < fs.length := by rw [HFS.out]; exact hnd
      obtain ⟨b1, off1, p, rfl, -, -, hp0, hp1, hpr⟩ := HFLx.out.get n hnf
      obtain ⟨f, hfe⟩ : ∃ f, f = fs[n]'hnf := ⟨_, rfl⟩
      rw [← hfe] at hpr
      have hust := upL_step sizes C i hin fs cs f n hn hnf hfe
      have hfp := HFO.out.pre f (by rw [hfe]; exact List.getElem_mem hnf)
      have hfl2 := HFO.out.len f (by rw [hfe]; exact List.getElem_mem hnf)
      obtain ⟨p0, p1⟩ := p
      obtain ⟨av0, cv0, hav, hlv, hmv⟩ := hpr.1.form
      obtain ⟨av1, cv1, hav1, hlv1, hmv1⟩ := hpr.2.1.form
      simp only at hav hav1 hp0 hp1
      subst hav
      subst hav1
      have HPR := Lib.hid hpr
      have HUST := Lib.hid hust
      have HFP := Lib.hid hfp
      clear hel hcn hn hpr hust hfp hfe
      go_upto_region 8 with fail
      have hfa := Fr.alloc wr (.cells #[.slice av0 f.now.length cv0, .slice av1 f.safe.length cv1] 85)
      have hba := heap_alloc_new wr (.cells #[.slice av0 f.now.length cv0, .slice av1 f.safe.length cv1] 85)
      obtain ⟨w8, hw8⟩ : ∃ w8, w8 = wr.alloc (.cells #[.slice av0 f.now.length cv0, .slice av1 f.safe.length cv1] 85) := ⟨_, rfl⟩
      obtain ⟨q4, hq4⟩ : ∃ q4, q4 = wr.heap.size := ⟨_, rfl⟩
      rw [← hw8] at hfa hba ⊢
      rw [← hq4] at hba ⊢
      have HF8 := Lib.hid hfa
      have HB8 := Lib.hid hba
      have hl8 := hfa.heap (HFR.out.heap HL7.out (by simpa using hq30)) (by simp)
      have HL8 := Lib.hid hl8
      have hsl : f.safe.length ≤ f.now.length := by have := congrArg List.length HFP.out; simp at this; omega
      have hlk : f.now.length ≤ 1000000 := by omega
      obtain ⟨sz, hsz⟩ : ∃ sz, sz = sizes.getD i 0 := ⟨_, rfl⟩
      have hat := fun wx (hx : Fr [] w wx) => kat_any sizes (i : Int) _ wx (HZS.out.below hx) (by omega)
      rw [Int.toNat_natCast, ← hsz] at hat
      have HAT := Lib.hid hat
      have hust := HUST.out
      rw [← hsz] at hust
      have hcr8 := fun wx (hx : Fr [] wr wx) => ref_crash_any f.now f.safe _ _ sz cs _ wx (HPR.out.1.below hx) (HPR.out.2.1.below hx) HFP.out hlk (HCUT.out.below hx) hcsl
      have hll := crashC_length f.now f.safe.length sz cs hsl
      have hllu : (crashC f.now f.safe.length sz cs).length ≤ f.now.length := by rw [hll]; unfold sizeC; omega
      have hlls : f.safe.length ≤ (crashC f.now f.safe.length sz cs).length := by rw [hll]; omega
      obtain ⟨lf, hlf⟩ : ∃ lf, lf = crashC f.now f.safe.length sz cs := ⟨_, rfl⟩
      rw [← hlf] at hust hcr8 hllu hlls
      have HUS2 := Lib.hid hust
      have HCR8 := Lib.hid hcr8
      clear hfa hba hw8 hq4 hl8 hat hust hcr8 hll hlf hsz y0 y1 y2 y3 y4 y5 y6 y7 hc1 hp0 hp1 HUST
      refine wp_region_G [] [(0, false), (1, false), (2, false), (3, false), (5, false), (4, true), (6, true), (7, false)] 71 rfl (by kernel_rfl) (by kernel_rfl) (by kernel_rfl) (fun c a d v w h => by cases d <;> exact h) (fun wd hfd => ?_)
      simp only [List.map_cons, List.map_nil, List.getElem?_toArray, List.getElem?_cons_succ, List.getElem?_cons_zero, Option.getD_some]
      have LB : Hid (Later [] wd (fun w' => w'.heap[q4]? = some (.cells #[.slice av0 f.now.length cv0, .slice av1 f.safe.length cv1] 85 (0, 0)))) := Lib.hid (fun w' hf' => hf'.heap (hfd.heap HB8.out (by simp)) (by simp))
      have LL : Hid (Later [] wd (fun w' => w'.heap[q3]? = some (.cells #[.slice ak ks.length ck, .slice az sizes.length cz, .slice ac cuts.length cc] 71 (0, 0)))) := Lib.hid (fun w' hf' => hf'.heap (hfd.heap HL8.out (by simp)) (by simp))
      have HFD : Hid (Fr [] wr wd) := Lib.hid (HF8.out.trans hfd (by simp) (by simp))
      have HB4D := Lib.hid (hfd.heap HB8.out (by simp))
      clear hfd
      repeat (apply wpG_t; · (intro w' hf'; obtain ⟨x0', x1'⟩ := two_of_heap (LB.out w' hf'); obtain ⟨l0, l1, l2, -, -, -⟩ := three_of_heap (LL.out w' hf'); go_wp2_with fail; exact ⟨rfl, rfl⟩))
      refine wpG_x ?_
      go_wp2_with (go_at_call 63; refine (HAT.out _ (HBx.out.fr.trans HFD.out (by simp) (by simp))).mono ?_; rintro e wa ⟨rfl, rfl⟩)
      refine ⟨Fr.refl _ _, rfl, ?_⟩
      refine wpG_x ?_
      go_wp2_with (go_at_call 62; refine (HCR8.out _ HFD.out).mono ?_; rintro e w9 ⟨v9, rfl, hb9, hn9, hf9⟩)
      refine ⟨hf9, rfl, ?_⟩
      obtain ⟨aL, cL, rfl, hlL, hmL⟩ := hb9.form
      have HB9 := Lib.hid hb9
      have HN9 := Lib.hid hn9
      have HF9 : Hid (Fr [] wr w9) := Lib.hid (HFD.out.trans hf9 (by simp) (by simp))
      have HB49 := Lib.hid (hf9.heap HB4D.out (by simp))
      clear hb9 hn9 hf9
      repeat (apply wpG_t; · (intro w' hf'; go_wp2_with fail; exact ⟨rfl, rfl⟩))
      refine wpG_end ?_
      obtain ⟨x0', x1'⟩ := two_of_heap HB49.out
      have hse := ref_sectors_any lf f.safe _ _ w9 HB9.out (HPR.out.2.1.below HF9.out) hlls (by omega)
      obtain ⟨S, hS⟩ : ∃ S, S = secsC lf.length f.safe.length := ⟨_, rfl⟩
      have hSl : S ≤ 1000000 := by rw [hS]; unfold secsC; split <;> omega
      have hus := HUS2.out
      rw [← hS] at hse hus
      have HSE := Lib.hid hse
      have HUS3 := Lib.hid hus
      clear hse hus hS HUS2
      go_upto_region 10 with (go_at_call 64; refine HSE.out.mono ?_; rintro e w10 ⟨rfl, hf10⟩; have HF10 : Hid (Fr [] wr w10) := Lib.hid (HF9.out.trans hf10 (by simp) (by simp)); have HB10 := Lib.hid (HB9.out.below hf10); have HS10 := Lib.hid hf10.size; clear hf10 x0' x1')
      have HBX := Lib.hid (HBx.out.below HF10.out)
      obtain ⟨y0, y1, y2, y3, y4, y5, y6, y7⟩ := eight_of_heap HBX.out.b0
      obtain ⟨g0, g1, g2, g3, g4, g5, g6, g7⟩ := eight_free HBX.out.b0
      obtain ⟨D9, hD9⟩ : ∃ D9, D9 = if lf = [] then D' else D' ++ (Value.slice aL lf.length cL).ownBlock.toList := ⟨_, rfl⟩
      have hDD : ∀ j ∈ D', j ∈ D9 := fun j hj => by rw [hD9]; split <;> simp [hj]
      have hDO : ∀ j, (Value.slice aL lf.length cL).ownBlock = some j → lf ≠ [] → j ∈ D9 := fun j hj hne => by rw [hD9, if_neg hne]; simp [hj]
      have hwr := HBx.out.fr.size
      have hwd := HF9.out.size
      have hq0r : q0 < wr.heap.size := (Array.getElem?_eq_some_iff.1 HBx.out.b0).1
      have hq1r : q1 < wr.heap.size := by obtain ⟨_, _, _, _, _, _, _, _, hh⟩ := HBx.out.b1; exact (Array.getElem?_eq_some_iff.1 hh).1
      have hDn : ∀ j ∈ D9, (j ∈ D ∨ w.heap.size ≤ j) ∧ j < w10.heap.size ∧ j ≠ q0 ∧ j ≠ q1 := fun j hj => by
        have hold : j ∈ D' → (j ∈ D ∨ w.heap.size ≤ j) ∧ j < w10.heap.size ∧ j ≠ q0 ∧ j ≠ q1 := fun q => by
          obtain ⟨h1, h2, h3, h4⟩ := HDx.out j q
          have := HF10.out.size
          exact ⟨h1, by omega, h3, h4⟩
        rw [hD9] at hj
        by_cases hne : lf = []
        · rw [if_pos hne] at hj
          exact hold hj
        · rw [if_neg hne, List.mem_append] at hj
          rcases hj with q | q
          · exact hold q
          · have h1 := HN9.out j (Option.mem_toList.1 q)
            have h2 := HFD.out.size
            exact ⟨.inr (by omega), HB10.out.lt hne j (Option.mem_toList.1 q), by omega, by omega⟩
      have hset := kset_any fs D9 _ n _ _ ⟨lf, lf⟩ w10 ((HFLx.out.below HF10.out).mono hDD) hnf (by rw [HFS.out]; have := HOK.out.fl; omega) (show fileR w10 (.slice aL lf.length cL, .slice aL lf.length cL) ⟨lf, lf⟩ D9 from ⟨HB10.out, HB10.out, hDO, hDO⟩)
      have HSET := Lib.hid hset
      have HDN := Lib.hid hDn
      have hrest : cellsAt w10 (.slice ax (cs.map (Value.int .i64)).length cx) (cs.map (Value.int .i64)) := by rw [List.length_map]; exact HCUT.out.below HF10.out
      have hfin := fun (s5 fvy : Value) (K : Nat) (wz : World) (hK : K = min S cs.length) (h5 : cellsAt wz s5 ((cs.drop K).map (Value.int .i64))) (h5o : ∀ j, s5.ownBlock = some j → cs.drop K ≠ [] → j < w.heap.size) (hBz : Boxes w q0 q1 #[.slice (some ⟨b, off, none⟩) C.length n0, .slice (some ⟨b, off, none⟩) C.length n0, .slice none 0 0, fvy, .int .i64 d.room, .int .i64 d.steps, .bool d.down, .slice a4 d.armed.length c4] wz) (hfz : filesR wz fvy (fs.set n ⟨lf, lf⟩) D9) (hsz : w10.heap.size ≤ wz.heap.size) (hfrz : Fr [q0] w10 wz) =>
        (show UpRel w q0 q1 d D (.slice (some ⟨b, off, none⟩) C.length n0) (.slice a4 d.armed.length c4) C sizes cuts (1000 * k) w7 s5 (.int .i64 ((i : Int) + 1)) wz from
          ⟨i + 1, fs.set n ⟨lf, lf⟩, cs.drop K, fvy, D9, by omega, by simp, h5, h5o, by rw [List.length_drop]; omega, hBz, hfz, fun j hj => by obtain ⟨h1, h2, h3, h4⟩ := HDN.out j hj; exact ⟨h1, by omega, h3, h4⟩, by rw [List.length_set]; exact HFS.out, HFO.out.set (by omega), by rw [hK, ← HUS3.out]; exact HUP.out, (HFR.out.trans HF10.out (n := [q0]) (fun _ h _ => h) (by simp)).trans hfrz (fun _ h _ => h) (fun _ h _ => h)⟩)
      have HFIN := Lib.hid hfin
      have HREST := Lib.hid hrest
      clear hset hDn hDD hDO hD9 hrest hfin
      by_cases hkc : cs.length < S
      · have hd5 : decide (cs.length < S) = true := decide_eq_true hkc
        by_cases hcap : cx = cs.length
        · go_wp2_with (go_at_call 60; refine HSET.out.mono ?_; rintro e w11 ⟨v11, rfl, hfl11, hf11⟩; obtain ⟨a7, c7, hv7⟩ := hfl11.slice; rw [List.length_set, HFS.out] at hv7; subst hv7; have HB11 := Lib.hid (HBX.out.below hf11); have HFL11 := Lib.hid hfl11; have HF11 := Lib.hid hf11; clear y0 y1 y2 y3 y4 y5 y6 y7 g0 g1 g2 g3 g4 g5 g6 g7 hfl11 hf11; obtain ⟨y0, y1, y2, y3, y4, y5, y6, y7⟩ := eight_of_heap HB11.out.b0; obtain ⟨g0, g1, g2, g3, g4, g5, g6, g7⟩ := eight_free HB11.out.b0)
          have hf90 := Fr.set0 w11 q0 3 (.slice a7 d.files.length c7)
          have hB10 := HB11.out.write hf90 (heap_setCell_same HB11.out.b0 (.slice a7 d.files.length c7))
          have hz := HFL11.out.box HB11.out.b0 (fun j hj => (HDN.out j hj).2.2.1) hf90
          have hfz : Fr [q0] w10 _ := HF11.out.trans hf90 (by simp) (fun _ h _ => h)
          refine ⟨HFIN.out _ _ (cs.length) _ (by omega) ?_ ?_ hB10 hz hfz.size hfz, by simp [intOf]; omega⟩
          · exact .inl ⟨_, _, rfl, by simp, by simp⟩
          · intro j hj hne; simp at hne
        · go_wp2_with (go_at_call 60; refine HSET.out.mono ?_; rintro e w11 ⟨v11, rfl, hfl11, hf11⟩; obtain ⟨a7, c7, hv7⟩ := hfl11.slice; rw [List.length_set, HFS.out] at hv7; subst hv7; have HB11 := Lib.hid (HBX.out.below hf11); have HFL11 := Lib.hid hfl11; have HF11 := Lib.hid hf11; clear y0 y1 y2 y3 y4 y5 y6 y7 g0 g1 g2 g3 g4 g5 g6 g7 hfl11 hf11; obtain ⟨y0, y1, y2, y3, y4, y5, y6, y7⟩ := eight_of_heap HB11.out.b0; obtain ⟨g0, g1, g2, g3, g4, g5, g6, g7⟩ := eight_free HB11.out.b0)
          have hf90 := Fr.set0 w11 q0 3 (.slice a7 d.files.length c7)
          have hB10 := HB11.out.write hf90 (heap_setCell_same HB11.out.b0 (.slice a7 d.files.length c7))
          have hz := HFL11.out.box HB11.out.b0 (fun j hj => (HDN.out j hj).2.2.1) hf90
          have hfz : Fr [q0] w10 _ := HF11.out.trans hf90 (by simp) (fun _ h _ => h)
          refine ⟨HFIN.out _ _ (cs.length) _ (by omega) ?_ ?_ hB10 hz hfz.size hfz, by simp [intOf]; omega⟩
          · exact .inl ⟨_, _, rfl, by omega, by simp⟩
          · intro j hj hne; simp at hne
      · have hd5 : decide (cs.length < S) = false := decide_eq_false hkc
        by_cases hcap : cx = S
        · go_wp2_with (go_at_call 60; refine HSET.out.mono ?_; rintro e w11 ⟨v11, rfl, hfl11, hf11⟩; obtain ⟨a7, c7, hv7⟩ := hfl11.slice; rw [List.length_set, HFS.out] at hv7; subst hv7; have HB11 := Lib.hid (HBX.out.below hf11); have HFL11 := Lib.hid hfl11; have HF11 := Lib.hid hf11; clear y0 y1 y2 y3 y4 y5 y6 y7 g0 g1 g2 g3 g4 g5 g6 g7 hfl11 hf11; obtain ⟨y0, y1, y2, y3, y4, y5, y6, y7⟩ := eight_of_heap HB11.out.b0; obtain ⟨g0, g1, g2, g3, g4, g5, g6, g7⟩ := eight_free HB11.out.b0)
          have hf90 := Fr.set0 w11 q0 3 (.slice a7 d.files.length c7)
          have hB10 := HB11.out.write hf90 (heap_setCell_same HB11.out.b0 (.slice a7 d.files.length c7))
          have hz := HFL11.out.box HB11.out.b0 (fun j hj => (HDN.out j hj).2.2.1) hf90
          have hfz : Fr [q0] w10 _ := HF11.out.trans hf90 (by simp) (fun _ h _ => h)
          refine ⟨HFIN.out _ _ (S) _ (by omega) ?_ ?_ hB10 hz hfz.size hfz, by simp [intOf]; omega⟩
          · exact .inl ⟨ax, 0, by rw [show cs.length - S = 0 from by omega], by simp, by rw [List.map_eq_nil_iff, List.drop_eq_nil_iff]; omega⟩
          · intro j hj hne
            exact absurd (List.drop_eq_nil_iff.2 (by omega)) hne
        · go_wp2_with (go_at_call 60; refine HSET.out.mono ?_; rintro e w11 ⟨v11, rfl, hfl11, hf11⟩; obtain ⟨a7, c7, hv7⟩ := hfl11.slice; rw [List.length_set, HFS.out] at hv7; subst hv7; have HB11 := Lib.hid (HBX.out.below hf11); have HFL11 := Lib.hid hfl11; have HF11 := Lib.hid hf11; clear y0 y1 y2 y3 y4 y5 y6 y7 g0 g1 g2 g3 g4 g5 g6 g7 hfl11 hf11; obtain ⟨y0, y1, y2, y3, y4, y5, y6, y7⟩ := eight_of_heap HB11.out.b0; obtain ⟨g0, g1, g2, g3, g4, g5, g6, g7⟩ := eight_free HB11.out.b0)
          have hf90 := Fr.set0 w11 q0 3 (.slice a7 d.files.length c7)
          have hB10 := HB11.out.write hf90 (heap_setCell_same HB11.out.b0 (.slice a7 d.files.length c7))
          have hz := HFL11.out.box HB11.out.b0 (fun j hj => (HDN.out j hj).2.2.1) hf90
          have hfz : Fr [q0] w10 _ := HF11.out.trans hf90 (by simp) (fun _ h _ => h)
          refine ⟨HFIN.out _ _ (S) _ (by omega) ?_ ?_ hB10 hz hfz.size hfz, by simp [intOf]; omega⟩
          · have h1 := HREST.out.rest (n := S) (by rw [List.length_map]; omega)
            rw [if_neg hcap, List.length_map, ← List.map_drop] at h1
            refine h1.kept hfz (fun j hj hne _ hm => ?_)
            have hne' : cs ≠ [] := fun e => by rw [e] at hne; simp at hne
            have h2 := HCOB.out j (by rw [← ownBlock_map (l' := (cs.map (Value.int .i64)).length) (c' := cx)] ; exact hj) hne'
            have h3 : j = q0 := by simpa using hm
            have h4 := HB11.out.n0
            omega
          · intro j hj hne
            exact HCOB.out j (by rw [← ownBlock_map (l' := (cs.map (Value.int .i64)).length) (c' := cx)]; exact hj) (fun e => by rw [e] at hne; simp at hne)
    · have hd2 : decide (i < C.length) = false := decide_eq_false hin
      obtain rfl : i = C.length := by omega
      obtain ⟨g0, g1, g2, g3, g4, g5, g6, g7⟩ := eight_free HBx.out.b0
      go_upto_region 16 with fail
      have hf1 := Fr.set0 wr q0 6 (.bool false)
      have hB1 := HBx.out.write hf1 (heap_setCell_same HBx.out.b0 (.bool false))
      have hf2 := Fr.set0 (wr.setCell ⟨q0, 6, none⟩ (.bool false)) q0 7 (.slice none 0 0)
      have hB2 : Boxes w q0 q1 #[.slice x0 C.length n0, .slice x0 C.length n0, .slice none 0 0, .slice a6 d.files.length c6, .int .i64 d.room, .int .i64 d.steps, .bool false, .slice none 0 0] _ := hB1.write hf2 (heap_setCell_same hB1.b0 (.slice none 0 0))
      have hfe : Fr [q0] wr _ := hf1.trans hf2 (fun _ h _ => h) (fun _ h _ => h)
      have hDq : ∀ j ∈ D', j ≠ q0 := fun j hj => (HDx.out j hj).2.2.1
      have hDq1 : ∀ j ∈ D', j ≠ q1 := fun j hj => (HDx.out j hj).2.2.2
      have hfl2 := HFLx.out.box HBx.out.b0 hDq hfe
      have hdi2 := (HD7.out.box HB.out.b0 HFR.out).box HBx.out.b0 hfe
      have hup := HUP.out
      rw [List.drop_length] at hup
      have hup2 : fs = upL sizes C 0 d.files cuts := hup
      generalize hwe : (wr.setCell ⟨q0, 6, none⟩ (.bool false)).setCell ⟨q0, 7, none⟩ (.slice none 0 0) = we at hB2 hfe hfl2 hdi2 ⊢
      have HBE := Lib.hid hB2
      have HFLE := Lib.hid hfl2
      have HDIE := Lib.hid hdi2
      have HUPE := Lib.hid hup2
      have HDQ := Lib.hid hDq1
      have HSE := Lib.hid hfe.size
      clear hwe hB1 hf1 hf2 hB2 hfe hDq hDq1 hfl2 hdi2 hup hup2 y0 y1 y2 y3 y4 y5 y6 y7 g0 g1 g2 g3 g4 g5 g6 g7
      obtain ⟨y0, y1, y2, y3, y4, y5, y6, y7⟩ := eight_of_heap HBE.out.b0
      obtain ⟨z0, z1, z2, z3, z4, z5, z6, z7⟩ := HBE.out.free1
      obtain ⟨r0', r1', r2', r3', r4', r5', r6', r7', hr1⟩ := HBE.out.b1
      obtain ⟨t0, t1, t2, t3, t4, t5, t6, t7⟩ := eight_of_heap hr1
      clear hr1
      go_wp2_with fail
      have hr := HBE.out.result (.slice x0 C.length n0) (.slice x0 C.length n0) (.slice none 0 0) (.slice a6 d.files.length c6) (.int .i64 d.room) (.int .i64 d.steps) (.bool false) (.slice none 0 0)
      have hrz := (Fr.set8 we q1 (.slice x0 C.length n0) (.slice x0 C.length n0) (.slice none 0 0) (.slice a6 d.files.length c6) (.int .i64 d.room) (.int .i64 d.steps) (.bool false) (.slice none 0 0)).size
      refine bodyPost_ret (results_cell_row rfl _ _ q1 34 _ (0, 0) _ rfl hr.1 Tryz.underlying34 rfl sizeK) rfl ?_
      have hfin := HFLE.out.result HBE.out HDQ.out (.slice x0 C.length n0) (.slice x0 C.length n0) (.slice none 0 0) (.slice a6 d.files.length c6) (.int .i64 d.room) (.int .i64 d.steps) (.bool false) (.slice none 0 0)
      rw [HUPE.out] at hfin
      have hdl : (upL sizes C 0 d.files cuts).length = d.files.length := by rw [← HUPE.out]; exact HFS.out
      have hres : Dsk1 { d with dn := C, ds := C, ops := [], files := upL sizes C 0 d.files cuts, down := false, armed := [] } D w (.returned (.agg #[.slice x0 C.length n0, .slice x0 C.length n0, .slice none 0 0, .slice a6 d.files.length c6, .int .i64 d.room, .int .i64 d.steps, .bool false, .slice none 0 0])) _ :=
        ⟨_, _, _, _, _, D', rfl, ⟨HDIE.out.result HBE.out (.slice x0 C.length n0) (.slice x0 C.length n0) (.slice none 0 0) (.slice a6 d.files.length c6) (.int .i64 d.room) (.int .i64 d.steps) (.bool false) (.slice none 0 0), hfin, World.ownsRow_nil _ _ _ _, fun j hj => by have h1 := (HDx.out j hj).2.1; have h2 := HSE.out; omega⟩, hr.2, fun j hj => (HDx.out j hj).1⟩
      unfold upK
      rw [← HCE.out]
      exact hres
end Go.Proofs.YtmchnaojlnjmjaaGreat
