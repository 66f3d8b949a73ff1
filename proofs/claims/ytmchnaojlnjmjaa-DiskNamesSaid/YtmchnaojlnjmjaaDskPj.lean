/- The program's disk (layer 11): Up. Written by wip/tools/gen_pj.py. -/
import Derived.Test.YtmchnaojlnjmjaaDskPi
import Derived.Test.YtmchnaojlnjmjaaDskUpL
import Derived.Test.YtmchnaojlnjmjaaInoD
import Derived.Test.YtmchnaojlnjmjaaBs
namespace Go.Proofs.Ytmchnaojlnjmjaa
open Go.RowKit Go.Maps

/-- In Up's loop. -/
def PUpRel (px pm : Nat) (Lc : Lay) (d : DskD) (C : List Ent) (sizes cuts0 : List Int) (M : Nat) (w4 : World) (s4 s22 : Value) (wx : World) : Prop :=
  ∃ (i : Nat) (fs : List FileD) (cuts : List Int) (Lx : Lay), i ≤ C.length ∧ s22 = .int .i64 (i : Int) ∧ cellsAt wx s4 (cuts.map (Value.int .i64)) ∧ (∀ j, s4.ownBlock = some j → cuts ≠ [] → j ∉ Lc.blocks px ∧ j < w4.heap.size) ∧ cuts.length ≤ 60 ∧ Went px pm Lc Lx { d with files := fs } w4 wx ∧
    fs.length = d.files.length ∧ FsOk fs M ∧ upL sizes (C.drop i) i fs cuts = upL sizes C 0 d.files cuts0 ∧ (∀ n, (atFs Lc.fs n).isSome → (atFs Lx.fs n).isSome) ∧ Lx.mD = Lc.mD
set_option maxRecDepth 100000 in
set_option maxHeartbeats 4000000 in
theorem pup_any {w : World} {px pm : Nat} {d : DskD} {B : List Nat} {k : Nat} (ks : List Bool) (sizes cuts : List Int) (kv zv cv : Value) (hp : PK w px pm d B) (hk : AllOk d k) (hk4 : k ≤ 400) (hkl : ks.length ≤ 60) (hzl : sizes.length ≤ 20) (hcl : cuts.length ≤ 60) (hkv : cellsAt w kv (ks.map Value.bool)) (hzv : cellsAt w zv (sizes.map (Value.int .i64))) (hcv : cellsAt w cv (cuts.map (Value.int .i64)))
    (hoff : ∀ j, (kv.ownBlock = some j ∧ ks ≠ []) ∨ (zv.ownBlock = some j ∧ sizes ≠ []) ∨ (cv.ownBlock = some j ∧ cuts ≠ []) → j ∉ B) :
    Calls Try.prog 15 #[.pointer (some ⟨px, 0, none⟩), .agg #[kv, zv, cv]] w (DidK PK px pm (upK d ks sizes cuts) (.tuple #[]) B w) := by
  obtain ⟨L, h, hL, rfl⟩ := hp
  have hkb := fun (hne : ks ≠ []) => hkv.lt (by simpa using hne)
  have hzb := fun (hne : sizes ≠ []) => hzv.lt (by simpa using hne)
  have hcb := fun (hne : cuts ≠ []) => hcv.lt (by simpa using hne)
  obtain ⟨ak, ck, rfl, hk2, hkm⟩ := hkv.form
  obtain ⟨az, cz, rfl, hz2, hzm⟩ := hzv.form
  obtain ⟨ac, cc, rfl, hc2, hcm⟩ := hcv.form
  rw [List.length_map] at hkv hzv hcv hk2 hz2 hc2 hoff hkb hzb hcb ⊢
  rw [List.length_map, List.length_map]
  rw [List.length_map, List.length_map] at hoff
  have hk63 : ck ≤ 9223372036854775807 := by simpa [maxLen] using hkm
  have hz63 : cz ≤ 9223372036854775807 := by simpa [maxLen] using hzm
  have hc63 : cc ≤ 9223372036854775807 := by simpa [maxLen] using hcm
  have hst := hk.ok.st
  have hmd6 : L.mD ≤ 1000000 := by have := hL.md; omega
  have hsC := sorted_crash d.ds d.ops ks hk.ok.ss
  have hlC := crashK_le d.ds d.ops ks
  have hlC4 : (crashL d.ds d.ops ks).length ≤ 400 := by have := hk.ok.sl; omega
  have hlCs : (((crashL d.ds d.ops ks).length : Nat) : Int) ≤ d.steps := by have := hL.sl; omega
  have hnC := nums_crash (fun n => 0 ≤ n ∧ n.toNat < d.files.length) d.ds d.ops ks hk.ok.ss hk.ok.snums hk.ok.onums
  have hrC := nums_crash (fun n => (atFs L.fs n.toNat).isSome) d.ds d.ops ks hk.ok.ss (fun e he => hL.re e.2 (.inr (.inl ⟨e, he, rfl⟩))) (fun o ho h0 => hL.re o.n (.inr (.inr ⟨o, ho, h0, rfl⟩)))
  have hokC : okNames (crashL d.ds d.ops ks) := names_crash (fun x => x.length ≤ maxLen) d.ds d.ops ks hk.ok.ss hk.oks hk.oko
  have hm : upK d ks sizes cuts = { d with dn := crashL d.ds d.ops ks, ds := crashL d.ds d.ops ks, ops := [], files := upL sizes (crashL d.ds d.ops ks) 0 d.files cuts, down := false, armed := [] } := rfl
  rw [hm]
  have hfa := Fr.alloc w (.cells #[.slice ak ks.length ck, .slice az sizes.length cz, .slice ac cuts.length cc] 29)
  have hba := heap_alloc_new w (.cells #[.slice ak ks.length ck, .slice az sizes.length cz, .slice ac cuts.length cc] 29)
  have hsz := World.size_alloc w (.cells #[.slice ak ks.length ck, .slice az sizes.length cz, .slice ac cuts.length cc] 29)
  have hxl := h.lt
  have hcr := fun wx (hx : Fr [] w wx) => dcrash_any L.pd L.mD L.Bd d.dn d.ds d.ops ks (.slice ak ks.length ck) wx (h.below hx).dr (hkv.below hx) (by omega) hmd6
  obtain ⟨C, hC⟩ : ∃ C, C = crashL d.ds d.ops ks := ⟨_, rfl⟩
  rw [← hC] at hsC hlC4 hlCs hnC hrC hokC hcr ⊢
  obtain ⟨w0, hw0⟩ : ∃ w0, w0 = w.alloc (.cells #[.slice ak ks.length ck, .slice az sizes.length cz, .slice ac cuts.length cc] 29) := ⟨_, rfl⟩
  obtain ⟨x0, hx0⟩ : ∃ x0, x0 = w.heap.size := ⟨_, rfl⟩
  rw [← hw0] at hfa hba hsz
  rw [← hx0] at hba hxl hsz hkb hzb hcb
  have HFL := Lib.hid hk.ok.fl
  have HFO := Lib.hid (show FsOk d.files (1000 * k) from ⟨hk.ok.pre, hk.ok.len⟩)
  have HK := Lib.hid hk
  have HH := Lib.hid h
  have HL := Lib.hid hL
  have HSC := Lib.hid hsC
  have HLS := Lib.hid hlCs
  have HNC := Lib.hid hnC
  have HRC := Lib.hid hrC
  have HOC := Lib.hid hokC
  have HCRD := Lib.hid hcr
  have HFA := Lib.hid hfa
  have HBA := Lib.hid hba
  have HXL := Lib.hid hxl
  have HZV := Lib.hid hzv
  have HCV := Lib.hid hcv
  have HZB := Lib.hid hzb
  have HCB := Lib.hid hcb
  have HOF := Lib.hid hoff
  have HW0 := Lib.hid hw0
  have HX0 := Lib.hid hx0
  clear h hL hk hkv hzv hcv hkb hzb hcb hoff hst hsC hlC hlCs hnC hrC hokC hm hfa hba hxl hcr hC hw0 hx0 hkm hzm hcm
  obtain ⟨c0, c1, c2, c3, c4, f2, f3⟩ := (HH.out.below HFA.out).cells
  go_enter Try.func15, Try.ntmps15
  go_upto_region 1 with fail
  rw [← HW0.out, ← HX0.out]
  go_upto_region 2 with fail
  refine wp_region_Y [] 6 [(0, false), (1, false), (2, false), (3, false), (4, false), (5, false), (6, true)] 53 rfl (by kernel_rfl) (by kernel_rfl) (by kernel_rfl) (fun c a d v w h => by cases d <;> exact h) (fun wd hfd => ?_)
  simp only [List.map_cons, List.map_nil, List.getElem?_toArray, List.getElem?_cons_succ, List.getElem?_cons_zero, Option.getD_some]
  have HFD := Lib.hid (HFA.out.trans hfd (by simp) (n := []) (by simp))
  have HBD := Lib.hid (hfd.heap HBA.out (by simp))
  have HSD := Lib.hid hfd.size
  clear hfd c0 c1 c2 c3 c4 f2 f3
  have HPD := Lib.hid (HH.out.below HFD.out)
  repeat (apply walkZ_t; · (intro w' hf'; obtain ⟨c0, c1, c2, c3, c4, f2, f3⟩ := (HPD.out.below hf').cells; obtain ⟨y0, y1, y2, -, -, -⟩ := three_of_heap (hf'.heap HBD.out (by simp)); go_wp2_with fail; exact ⟨rfl, rfl⟩))
  refine walkZ_x ?_
  go_wp2_with (go_at_call 40; refine (HCRD.out _ HFD.out).mono ?_; rintro e w3 ⟨rfl, ht⟩)
  refine ⟨by simp, rfl, ?_⟩
  refine walkZ_end ?_
  obtain ⟨Lc, g1, g2, g3, hw3⟩ := HPD.out.dir ht
  clear ht
  have hxD : x0 < wd.heap.size := by have := HSD.out; omega
  have hb3 := hw3.fr.heap HBD.out (fun hm => by have := HXL.out _ hm; omega)
  have hxc : x0 ∉ Lc.blocks px := fun hm => (hw3.new _ hm).elim (fun q => by have := HXL.out _ q; omega) (fun q => by omega)
  have hzc : ∀ j, (Value.slice az sizes.length cz).ownBlock = some j → sizes ≠ [] → j ∉ Lc.blocks px := fun j hj hne hm => (hw3.new _ hm).elim (HOF.out j (.inr (.inl ⟨hj, hne⟩))) (fun q => by have := HZB.out hne j hj; omega)
  have hcc : ∀ j, (Value.slice ac cuts.length cc).ownBlock = some j → cuts ≠ [] → j ∉ Lc.blocks px ∧ j < w3.heap.size := fun j hj hne => ⟨fun hm => (hw3.new _ hm).elim (HOF.out j (.inr (.inr ⟨hj, hne⟩))) (fun q => by have := HCB.out hne j hj; omega), by have := HCB.out hne j hj; have := hw3.fr.size; omega⟩
  have hz3 := (HZV.out.below HFD.out).kept hw3.fr (fun j hj hne _ => HOF.out j (.inr (.inl ⟨hj, by simpa using hne⟩)))
  have hc3 := (HCV.out.below HFD.out).kept hw3.fr (fun j hj hne _ => HOF.out j (.inr (.inr ⟨hj, by simpa using hne⟩)))
  have HW3 := Lib.hid (hw3.before HFD.out)
  have HP3 := Lib.hid hw3.pk
  have HB3 := Lib.hid hb3
  have HXC := Lib.hid hxc
  have HZC := Lib.hid hzc
  have HCC := Lib.hid hcc
  have HZ3 := Lib.hid hz3
  have HC3 := Lib.hid hc3
  obtain ⟨y0, y1, y2, -, -, -⟩ := three_of_heap hb3
  clear hw3 hb3 hxc hzc hcc hz3 hc3
  have hmdC : Lc.mD ≤ 1000000 := by omega
  have HLI := Lib.hid (show Calls Try.prog 26 #[.pointer (some ⟨px, 0, none⟩)] w3 (Namesd C w3) from plisted_any (d := { d with dn := C, ds := C, ops := [] }) (L := Lc) HP3.out HSC.out hmdC)
  go_wp2_with (go_at_call 26; refine HLI.out.mono ?_; rintro e w4 ⟨v, rfl, hv, hf4⟩; obtain ⟨a0, cn0, rfl, hlc, hmc⟩ := names_slice hv)
  have HF4 := Lib.hid hf4
  have HP4 := Lib.hid (HP3.out.below hf4)
  have HB4 := Lib.hid (hf4.heap HB3.out (by simp))
  have HZ4 := Lib.hid (HZ3.out.below hf4)
  have HV := Lib.hid hv
  have HXL3 := Lib.hid HP3.out.lt
  clear y0 y1 y2 hv hf4
  go_loopw [4, 22] (PUpRel px pm Lc { d with dn := C, ds := C, ops := [] } C sizes cuts (1000 * k) w4) (fun _ iv _ => C.length - (intOf iv).toNat)
  case atStart => exact ⟨0, d.files, cuts, Lc, Nat.zero_le _, rfl, HC3.out.below HF4.out, fun j hj hne => ⟨(HCC.out j hj hne).1, Nat.lt_of_lt_of_le (HCC.out j hj hne).2 HF4.out.size⟩, hcl, HP4.out.same (Fr.refl _ _), rfl, HFO.out, rfl, fun _ q => q, rfl⟩
  case round =>
    obtain ⟨i, fs, cs, Lx, hi, rfl, hcut, hcob, hcsl, hW, hfs, hfo, hup, hat, hmx⟩ := hrel
    have HW := Lib.hid hW
    have HFS := Lib.hid hfs
    have HFO2 := Lib.hid hfo
    have HUP := Lib.hid hup
    have HAT := Lib.hid hat
    have HMX := Lib.hid hmx
    by_cases hin : i < C.length
    · have hd2 : decide (i < C.length) = true := decide_eq_true hin
      obtain ⟨ax, cx, rfl, hlcx, hmcx⟩ := hcut.form
      rw [List.length_map] at hcut hlcx hcob ⊢
      have hx63 : cx ≤ 9223372036854775807 := by simpa [maxLen] using hmcx
      have hvr := owns_kept HV.out hW.fr (fun j hj hm => by
        have h1 := (HV.out.lt j hj).1
        have h2 := HXL3.out j hm
        omega)
      obtain ⟨bb, off, rfl, hcn⟩ := names_at hvr (Fr.refl [] wr) i hin
      have hlk := look_mem HSC.out _ (List.getElem_mem hin)
      obtain ⟨hn0, hn1⟩ := HNC.out _ (List.getElem_mem hin)
      have hat1 := HAT.out _ (show (atFs Lc.fs (C[i]'hin).2.toNat).isSome by rw [g1]; exact HRC.out _ (List.getElem_mem hin))
      obtain ⟨⟨p, g⟩, hpg⟩ := Option.isSome_iff_exists.1 hat1
      obtain ⟨n, hn⟩ : ∃ n : Nat, (C[i]'hin).2 = (n : Int) := ⟨(C[i]'hin).2.toNat, by omega⟩
      rw [hn, Int.toNat_natCast] at hn1 hpg
      have hlk2 : lookL C (C[i]'hin).1 = some (n : Int) := by rw [← hn]; exact hlk
      have hnf : n < fs.length := by rw [hfs]; exact hn1
      have hfl := HFL.out
      obtain ⟨f, hfe⟩ : ∃ f, f = fs[n]'hnf := ⟨_, rfl⟩
      have hfN : fileN { ({ d with dn := C, ds := C, ops := [] } : DskD) with files := fs } n = f := by unfold fileN; simp only [List.getD, List.getElem?_eq_getElem hnf, Option.getD_some]; exact hfe.symm
      have hFi := hW.pk.fi n p g hpg
      rw [hfN] at hFi
      have hust := upL_step sizes C i hin fs cs f n hn hnf hfe
      have hfp := hfo.pre f (by rw [hfe]; exact List.getElem_mem hnf)
      have hfl2 := hfo.len f (by rw [hfe]; exact List.getElem_mem hnf)
      have hsl : f.safe.length ≤ f.now.length := by have := congrArg List.length hfp; simp at this; omega
      obtain ⟨sz, hsz⟩ : ∃ sz, sz = sizes.getD i 0 := ⟨_, rfl⟩
      rw [← hsz] at hust
      have hpn : ∀ j, (Value.slice ax cs.length cx).ownBlock = some j → cs ≠ [] → j ≠ p ∧ j ≠ g := fun j hj hne => by
        obtain ⟨q1, q2⟩ := hcob j hj hne
        refine ⟨fun e => ?_, fun e => ?_⟩
        · exact (hW.new j (Lay.blocks_iff.2 (.inr (.inr (.inr (.inr ⟨n, p, g, hpg, .inl e⟩)))))).elim q1 (fun q => by omega)
        · exact (hW.new j (Lay.blocks_iff.2 (.inr (.inr (.inr (.inr ⟨n, p, g, hpg, .inr e⟩)))))).elim q1 (fun q => by omega)
      have hcr := icrash_any p g f.safe.length f.now sz cs _ wr hFi hcut (by omega) (by omega) (fun hne j hj => hpn j hj hne)
      have hll := crashC_length f.now f.safe.length sz cs hsl
      have hllu : (crashC f.now f.safe.length sz cs).length ≤ f.now.length := by rw [hll]; unfold sizeC; omega
      rw [← hll] at hcr
      obtain ⟨lf, hlf⟩ : ∃ lf, lf = crashC f.now f.safe.length sz cs := ⟨_, rfl⟩
      rw [← hlf] at hust hcr hllu
      obtain ⟨K, hK⟩ : ∃ K, K = min (secsC lf.length f.safe.length) cs.length := ⟨_, rfl⟩
      rw [← hK] at hust hcr
      have hKl : K ≤ cs.length := by omega
      have HCR := Lib.hid hcr
      have HFI := Lib.hid (pfile_some hW.pk _ (HOC.out _ (List.getElem_mem hin)) n hlk2 hpg (by omega))
      have hbx := hW.fr.heap HB4.out HXC.out
      obtain ⟨y0, y1, y2, -, -, -⟩ := three_of_heap hbx
      have hzr := HZ4.out.kept hW.fr (fun j hj hne _ => HZC.out j hj (by simpa using hne))
      have HCOB := Lib.hid hcob
      have HCW := Lib.hid (fun w6 (hf6 : Fr [p, g] wr w6) => hcut.kept hf6 (fun j hj hne _ hm => by
        obtain ⟨q1, q2⟩ := hpn j hj (by simpa using hne)
        simp only [List.mem_cons, List.not_mem_nil, or_false] at hm
        exact hm.elim q1 q2))
      have hnext : ∀ (w6 : World) (_ : isF w6 p g lf lf.length) (_ : Fr [p, g] wr w6) (s4 : Value) (_ : cellsAt w6 s4 ((cs.drop K).map (Value.int .i64))) (_ : ∀ j, s4.ownBlock = some j → cs.drop K ≠ [] → j ∉ Lc.blocks px ∧ j < w4.heap.size), PUpRel px pm Lc { d with dn := C, ds := C, ops := [] } C sizes cuts (1000 * k) w4 s4 (.int .i64 ((i : Int) + 1)) w6 := fun w6 hF6 hf6 s4 h1 h2 => by
        obtain ⟨Ly, m1, m2, m3, hwy⟩ := hW.pk.file hpg ⟨lf, lf⟩ hF6 hf6 (.inl rfl)
        refine ⟨i + 1, fs.set n ⟨lf, lf⟩, cs.drop K, Ly, by omega, by simp, h1, h2, by rw [List.length_drop]; omega, hW.trans hwy, by rw [List.length_set]; exact hfs, hfo.set (by omega), by rw [← hust]; exact hup, fun a ha => ?_, by rw [m2]; exact hmx⟩
        rw [m1, atFs_set _ _ _ _ (atFs_lt hpg)]
        split
        · rfl
        · exact hat a ha
      have HNEXT := Lib.hid hnext
      obtain ⟨nm, hnme⟩ : ∃ nm, nm = (C[i]'hin).1 := ⟨_, rfl⟩
      rw [← hnme] at hcn HFI
      have hi63 : (i : Int) + 1 ≤ 9223372036854775807 := by omega
      clear hW hfs hfo hup hat hmx hcut hcob hvr hlk hn0 hat1 hn hlk2 hfe hfN hFi hust hfp hfl2 hsl hpn hcr hll hlf hK hbx hnext hnme hnf hn1 hpg hllu
      by_cases hz : i < sizes.length
      · have hd3 : decide (i < sizes.length) = true := decide_eq_true hz
        obtain ⟨bz, offz, rfl, -, hzc⟩ := hzr.get (i := i) (by rw [List.length_map]; exact hz)
        have hzi := hzc i (by rw [List.length_map]; exact hz)
        rw [List.getElem_map] at hzi
        have hse : sizes[i]'hz = sz := by rw [hsz]; simp only [List.getD, List.getElem?_eq_getElem hz, Option.getD_some]
        rw [hse] at hzi
        clear hzc hse hsz hzr
        by_cases hcap : cx = K
        · subst hcap
          go_wp2_with (first
            | (go_at_call 25; refine HFI.out.mono ?_; rintro e w5 ⟨rfl, rfl⟩)
            | (go_at_call 41; refine HCR.out.mono ?_; rintro e w6 ⟨rfl, hF6, hf6⟩))
          have hrest : cellsAt w6 (.slice ax 0 0) ((cs.drop cx).map (Value.int .i64)) := .inl ⟨ax, 0, rfl, by simp, by rw [List.map_eq_nil_iff, List.drop_eq_nil_iff]; omega⟩
          exact ⟨HNEXT.out w6 hF6 hf6 _ hrest (fun j hj hne => absurd (List.drop_eq_nil_iff.2 (by omega)) hne), by simp [intOf]; omega⟩
        · have HCAP := Lib.hid hcap
          go_wp2_with (first
            | (go_at_call 25; refine HFI.out.mono ?_; rintro e w5 ⟨rfl, rfl⟩)
            | (go_at_call 41; refine HCR.out.mono ?_; rintro e w6 ⟨rfl, hF6, hf6⟩))
          have hc6 := HCW.out w6 hf6
          have hc7 : cellsAt w6 (.slice ax (cs.map (Value.int .i64)).length cx) (cs.map (Value.int .i64)) := by rw [List.length_map]; exact hc6
          have hrest := hc7.rest (n := K) (by rw [List.length_map]; omega)
          rw [if_neg HCAP.out, List.length_map, ← List.map_drop] at hrest
          exact ⟨HNEXT.out w6 hF6 hf6 _ hrest (fun j hj hne => HCOB.out j (by rw [← ownBlock_map (n := K) (l := cs.length - K) (c := cx - K) (l' := cs.length) (c' := cx)]; exact hj) (fun e => by rw [e] at hne; simp at hne)), by simp [intOf]; omega⟩
      · have hd3 : decide (i < sizes.length) = false := decide_eq_false hz
        have hse : sz = 0 := by rw [hsz]; simp only [List.getD, List.getElem?_eq_none (Nat.le_of_not_lt hz), Option.getD_none]
        rw [hse] at HCR
        clear hse hsz hzr
        by_cases hcap : cx = K
        · subst hcap
          go_wp2_with (first
            | (go_at_call 25; refine HFI.out.mono ?_; rintro e w5 ⟨rfl, rfl⟩)
            | (go_at_call 41; refine HCR.out.mono ?_; rintro e w6 ⟨rfl, hF6, hf6⟩))
          have hrest : cellsAt w6 (.slice ax 0 0) ((cs.drop cx).map (Value.int .i64)) := .inl ⟨ax, 0, rfl, by simp, by rw [List.map_eq_nil_iff, List.drop_eq_nil_iff]; omega⟩
          exact ⟨HNEXT.out w6 hF6 hf6 _ hrest (fun j hj hne => absurd (List.drop_eq_nil_iff.2 (by omega)) hne), by simp [intOf]; omega⟩
        · have HCAP := Lib.hid hcap
          go_wp2_with (first
            | (go_at_call 25; refine HFI.out.mono ?_; rintro e w5 ⟨rfl, rfl⟩)
            | (go_at_call 41; refine HCR.out.mono ?_; rintro e w6 ⟨rfl, hF6, hf6⟩))
          have hc6 := HCW.out w6 hf6
          have hc7 : cellsAt w6 (.slice ax (cs.map (Value.int .i64)).length cx) (cs.map (Value.int .i64)) := by rw [List.length_map]; exact hc6
          have hrest := hc7.rest (n := K) (by rw [List.length_map]; omega)
          rw [if_neg HCAP.out, List.length_map, ← List.map_drop] at hrest
          exact ⟨HNEXT.out w6 hF6 hf6 _ hrest (fun j hj hne => HCOB.out j (by rw [← ownBlock_map (n := K) (l := cs.length - K) (c := cx - K) (l' := cs.length) (c' := cx)]; exact hj) (fun e => by rw [e] at hne; simp at hne)), by simp [intOf]; omega⟩
    · have hd2 : decide (i < C.length) = false := decide_eq_false hin
      obtain rfl : i = C.length := by omega
      rw [List.drop_length] at hup
      have hup2 : fs = upL sizes C 0 d.files cuts := hup
      have hmdx : Lx.mD ≤ 1000000 := by omega
      have hre2 : ∀ e ∈ C, 0 ≤ e.2 ∧ e.2.toNat < fs.length ∧ (atFs Lx.fs e.2.toNat).isSome := fun e he => ⟨(HNC.out e he).1, by rw [hfs]; exact (HNC.out e he).2, hat _ (by rw [g1]; exact HRC.out e he)⟩
      have hfl := HFL.out
      have HFG := Lib.hid (pforget_any hW.pk HSC.out hmdx (show C.length ≤ 1000000 by omega) HOC.out (show fs.length ≤ 1000000 by rw [hfs]; show d.files.length ≤ 1000000; omega) hre2)
      have HRE := Lib.hid hre2
      have HUP2 := Lib.hid hup2
      clear hW hfs hfo hup hat hmx hcut hcob hup2 hre2 hfl
      go_wp2_with (first
        | (go_at_call 34; refine HFG.out.mono ?_; rintro e w5 ⟨L5, rfl, k1, k2, k3, hw5⟩; obtain ⟨c0, c1, c2, c3, c4, f2, f3⟩ := hw5.pk.cells; have HRI := Lib.hid (mrise_any pm L5.Bm _ _ _ w5 hw5.pk.mt))
        | (go_at_call 42; refine HRI.out.mono ?_; rintro e w6 ⟨rfl, ht⟩))
      go_end0
      obtain ⟨L6, m1, m2, m3, hw6⟩ := hw5.pk.meter ht [] rfl
      rw [← HUP2.out]
      refine did_mk ((((HW3.out.after HF4.out).trans HW.out).trans hw5).trans hw6) (LayOk.same (forgot_ok (L := Lx) (L' := L5) (d := { d with dn := C, ds := C, ops := [], files := fs }) rfl rfl (fun e he => ⟨(HRE.out e he).1, (HRE.out e he).2.2⟩) k1 ?_ k3 HLS.out HL.out.rm) m1 m2 m3 rfl rfl rfl rfl rfl)
      show (L5.mD : Int) ≤ d.steps
      rw [k2, HMX.out, g2]
      exact HL.out.md
end Go.Proofs.Ytmchnaojlnjmjaa
