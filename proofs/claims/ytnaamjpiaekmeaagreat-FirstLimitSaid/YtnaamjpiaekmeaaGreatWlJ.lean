/- The program's sets of words (layer 19): Cat. -/
import Derived.Test.YtnaamjpiaekmeaaGreatWlH
import Derived.Test.YtnaamjpiaekmeaaGreatStbG
import Derived.Test.YtnaamjpiaekmeaaGreatCmpI
import Derived.Test.YtnaamjpiaekmeaaGreatCt
import Derived.Test.YtnaamjpiaekmeaaGreatWlDp
import Derived.Test.YtnaamjpiaekmeaaGreatWq
set_option linter.unusedVariables false
set_option linter.unusedSimpArgs false
namespace Go.Proofs.YtnaamjpiaekmeaaGreat
open Go.RowKit Go.Maps Go.Sort
theorem TyAt.lt {w : World} {base p mb t : Nat} {ws : Words} {fv : Value} (h : TyAt w base p mb t ws fv) : ∀ i ∈ tyB p mb fv, i < w.heap.size := by
 intro i hi
 unfold tyB at hi
 rcases List.mem_cons.1 hi with rfl | hi
 ·exact (Array.getElem?_eq_some_iff.1 h.obj).1
 rcases List.mem_cons.1 hi with rfl | hi
 ·obtain ⟨es, c, hh, _⟩ := h.map
  exact (Array.getElem?_eq_some_iff.1 hh).1
 rcases h.row.2 with ⟨rfl, _⟩ | ⟨g, cap, cur, rfl, _, hb, _⟩
 ·simp [Value.ownBlock] at hi
 ·simp [Value.ownBlock] at hi
  subst hi
  exact (Array.getElem?_eq_some_iff.1 hb).1
structure TailsW (k : Int) (b hs : Words) (i : Nat) (T : Words) : Prop where
 set : setW T
 len : T.length ≤ b.length
 short : ∀ x ∈ T, x.length ≤ 1000
 cuts : ∀ c : Int, (∀ j (h : j < hs.length), j < i → c ≤ k - ((hs[j]'h).length : Int)) → cutsW T c = cutsW b c
theorem cutW_le (x : List UInt8) (k : Int) : (cutW x k).length ≤ x.length := by unfold cutW; rw [List.length_take]; omega
theorem TailsW.next {k : Int} {b hs T : Words} {i : Nat} (h : TailsW k b hs i T) (hi : i < hs.length) (ho : hs.Pairwise fun x y => x.length ≤ y.length) :
  cutsW T (k - ((hs[i]'hi).length : Int)) = cutsW b (k - ((hs[i]'hi).length : Int)) ∧ TailsW k b hs (i + 1) (cutsW b (k - ((hs[i]'hi).length : Int))) := by
 have e : cutsW T (k - ((hs[i]'hi).length : Int)) = cutsW b (k - ((hs[i]'hi).length : Int)) := h.cuts _ (fun j hj hji => by
  have := List.pairwise_iff_getElem.1 ho j i hj hi hji
  omega)
 refine ⟨e, set_cutsW _ _, cutsW_len _ _, fun x hx => ?_, fun c hc => cuts_cuts (hc i hi (Nat.lt_succ_self i))⟩
 rw [← e] at hx
 obtain ⟨y, hy, rfl⟩ := mem_cutsW.1 hx
 exact Nat.le_trans (cutW_le _ _) (h.short y hy)
theorem CatGot.made {l : Words} {w w' : World} {v : Value} (hl : l.length ≤ 4096) (hs : strsAt w' v l) (hf : Fr [] w w') : CatGot l w (.returned (.tuple #[v, .bool true])) w' :=
 ⟨v, by rw [decide_eq_true hl], by rw [if_pos hl]; exact hs, hf⟩
theorem CatGot.no {l : Words} {w w' : World} (hl : 4096 < l.length) (hf : Fr [] w w') : CatGot l w (.returned (.tuple #[.slice none 0 0, .bool false])) w' :=
 ⟨.slice none 0 0, by rw [decide_eq_false (by omega)], by rw [if_neg (by omega)]; exact cellsAt.nil _, hf⟩
theorem TailsW.nextG {k : Int} {b hs T : Words} {i m : Nat} (h : TailsW k b hs i T) (hi : i < hs.length) (hm : 0 < m) (ho : hs.Pairwise fun x y => x.length ≤ y.length) :
  cutsW T (k - ((hs[i]'hi).length : Int)) = cutsW b (k - ((hs[i]'hi).length : Int)) ∧ TailsW k b hs (i + m) (cutsW b (k - ((hs[i]'hi).length : Int))) := by
 obtain ⟨e, hn⟩ := h.next hi ho
 exact ⟨e, hn.set, hn.len, hn.short, fun c hc => cuts_cuts (hc i hi (by omega))⟩
theorem strs_cut {P : Program} {t e : TypeId} {i : TypeInfo} (ht : P.underlying t = some (.slice e)) (hi : P.info? e = some i) (hsz : i.size = 1) {b o cap n m : Nat} {l : Words} (hn : n = l.length) (hm : m ≤ n) (hc : n ≤ cap) :
  ∃ (da : Option Addr) (dc : Nat), (∀ w : World, (Instr.slice t (.slice (some ⟨b, o, none⟩) n cap) (some (.int .i64 (m : Int))) none none).run P w = .ok (.slice da (n - m) dc) w) ∧ n - m ≤ dc ∧
    ∀ w : World, strsAt w (.slice (some ⟨b, o, none⟩) n cap) l → strsAt w (.slice da (n - m) dc) (l.drop m) := by
 have he : P.elem t = e := by simp [Program.elem, ht]
 have ht' : P.underlying t = some (.slice (P.elem t)) := by rw [he]; exact ht
 have hsl : ∀ w : World, (Instr.slice t (.slice (some ⟨b, o, none⟩) n cap) (some (.int .i64 (m : Int))) none none).run P w = .ok (sliced (some ⟨b, o, none⟩) m n cap 1) w := fun w => by
  rw [run_slice_l w t _ _ _ ht' .i64 (m : Int) (by omega) (by omega), he]
  simp [sizeOf, typeInfo, hi, hsz, Result.andThen]
 by_cases hcap : cap = m
 ·have hnm : n - m = 0 := by omega
  refine ⟨some ⟨b, o, none⟩, cap - m, fun w => ?_, by omega, fun w h => ?_⟩
  ·rw [hsl w]; unfold sliced; rw [if_pos hcap]
  ·have e1 : l.drop m = [] := List.drop_eq_nil_of_le (by omega)
   rw [e1, hnm, hcap, Nat.sub_self]
   exact cellsAt.none _
 ·refine ⟨(some (⟨b, o, none⟩ : Addr)).map fun x => x.add m, cap - m, fun w => ?_, by omega, fun w h => ?_⟩
  ·rw [hsl w]; unfold sliced; rw [if_neg hcap, Nat.mul_one]
  ·have := cellsAt.drop h (n := m) (by rw [List.length_map]; omega)
   rw [← List.map_drop, List.length_map, ← hn] at this
   exact this
def lenSl : Value → Nat
 | .slice _ n _ => n
 | _ => 0
def CatRel (w2 : World) (k : Int) (b hs : Words) (p mb : Nat) (hv tv : Value) (wx : World) : Prop :=
 ∃ (i : Nat) (T : Words) (fv : Value), i ≤ hs.length ∧ strsAt w2 hv (hs.drop i) ∧ TailsW k b hs i T ∧ strsAt wx tv T ∧ TyAt wx w2.heap.size p mb 1 (prodW k b (hs.take i)) fv ∧ (fndW 1 (prodW k b (hs.take i))).length ≤ 4096 ∧ (prodW k b (hs.take i)).length ≤ i * 4096 ∧ Fr [] w2 wx
structure GrpAt (a b hs : Words) (k : Int) (i m : Nat) (g : Words) (L : Nat) : Prop where
 len : g.length = m
 all : ∀ x ∈ g, x.length = L
 set : setW g
 mem : ∀ x ∈ g, x ∈ cutsW a k
 take : hs.take (i + m) = hs.take i ++ g
 prod : prodW k b (hs.take (i + m)) = prodW k b (hs.take i) ++ joinedW g (cutsW b (k - (L : Int)))
theorem grpAt_of {a b hs : Words} {k : Int} {i m : Nat} (hi : i < hs.length) (hM : ∀ x, x ∈ hs ↔ x ∈ cutsW a k) (hS : StbK (List.length (α := UInt8)) (fun a b => lessB a b = true) hs) (hm : m ≤ (hs.drop i).length) (hsame : SameN (hs.drop i) m) : GrpAt a b hs k i m ((hs.drop i).take m) (hs[i]'hi).length := by
 have hall : ∀ x ∈ (hs.drop i).take m, x.length = (hs[i]'hi).length := fun x hx => by
  obtain ⟨c, hc, rfl⟩ := List.getElem_of_mem hx
  rw [List.length_take] at hc
  rw [List.getElem_take]
  have h0 : 0 < (hs.drop i).length := by rw [List.length_drop]; omega
  have := hsame c (by omega) h0 (by omega)
  rw [this, List.getElem_drop]
  rfl
 have htk : hs.take (i + m) = hs.take i ++ (hs.drop i).take m := List.take_add
 refine ⟨by rw [List.length_take]; omega, hall, grp_set hall ?_, fun x hx => (hM x).1 (List.mem_of_mem_drop (List.mem_of_mem_take hx)), htk, ?_⟩
 ·unfold StbK at hS ⊢
  exact hS.sublist ((List.take_sublist _ _).trans (List.drop_sublist _ _))
 ·rw [htk, ← prodW_grp hall]
  unfold prodW
  rw [List.flatMap_append]
theorem arr_of {w : World} {b n cap : Nat} {l : Words} (h : strsAt w (.slice (some ⟨b, 0, none⟩) n cap) l) (hf : ∀ i, w.frozen? ⟨b, i, none⟩ = false) (hlt : b < w.heap.size) : ArrS w b l := by
 refine ⟨hlt, fun i hi => ?_, hf⟩
 obtain ⟨b', off', e, hc⟩ := str_cell h i hi
 cases e
 rwa [Nat.zero_add] at hc
theorem strs_of_arr {w : World} {b n cap : Nat} {l : Words} (h : ArrS w b l) (hn : n = l.length) (h1 : n ≤ cap) (h2 : cap ≤ maxLen) : strsAt w (.slice (some ⟨b, 0, none⟩) n cap) l := by
 subst hn
 refine .inr ⟨b, 0, cap, by rw [List.length_map], by rw [List.length_map]; exact h1, h2, fun i hi => ?_⟩
 rw [List.length_map] at hi
 rw [Nat.zero_add, List.getElem_map]
 exact h.cell i hi
def ByLenS (l m : Words) : Prop := List.Perm m l ∧ (m.Pairwise fun x y => x.length ≤ y.length) ∧ StbK (List.length (α := UInt8)) (fun a b => lessB a b = true) m
theorem psortS (l : Words) (b cap : Nat) (w : World) (hset : setW l) (hc : strsAt w (.slice (some ⟨b, 0, none⟩) l.length cap) l) (hf : ∀ i, w.frozen? ⟨b, i, none⟩ = false) (hbw : b < w.heap.size) (h1 : l.length ≤ cap) (h2 : cap ≤ maxLen) (hm : l.length ≤ 1000000) :
  Calls Tryz.prog 71 #[.slice (some ⟨b, 0, none⟩) l.length cap, .func (.func 72) #[] #[]] w fun e w' => e = .returned (.tuple #[]) ∧ ∃ m, ByLenS l m ∧ strsAt w' (.slice (some ⟨b, 0, none⟩) l.length cap) m ∧ Fr [b] w w' := by
 refine (pstable plen_cmp l b cap l.length w (arr_of hc hf hbw) rfl h1 hm).mono ?_
 rintro e w' ⟨x, rfl, hmv, hs, ha, hfr⟩
 rw [List.nil_append, List.append_nil] at ha
 exact ⟨rfl, x, ⟨hmv.1, hs, hmv.2 (stb_of_set hset)⟩, strs_of_arr ha hmv.len.symm h1 h2, hfr⟩
set_option maxRecDepth 100000 in
set_option maxHeartbeats 4000000 in
theorem prog_wcat : ProgWCat := by
 intro k a b v u w hk1 hk2 ha hb sa sb sha shb
 obtain ⟨iS, hiS, hS0, hS1, hS2⟩ := info_parts infoStrW
 obtain ⟨a0, c0, rfl, -, -⟩ := ha.form
 obtain ⟨a1, c1, rfl, -, -⟩ := hb.form
 have hcut := pcuts a k _ w ha sa (by have := sha.1; omega)
 obtain ⟨H, hH⟩ : ∃ H, H = cutsW a k := ⟨_, rfl⟩
 have hHl : H.length ≤ 100000 := by rw [hH]; exact Nat.le_trans (cutsW_len _ _) sha.1
 have hHx : ∀ x ∈ H, x.length ≤ 1000 ∧ -9223372036854775808 ≤ k - (x.length : Int) := fun x hx => by
  rw [hH] at hx
  obtain ⟨y, hy, rfl⟩ := mem_cutsW.1 hx
  have h1 := sha.2 y hy
  have h2 := cutW_le y k
  refine ⟨by omega, ?_⟩
  unfold cutW
  rw [List.length_take]
  omega
 have hHs : setW H := by rw [hH]; exact set_cutsW _ _
 rw [← hH] at hcut
 have HCUT := Lib.hid hcut
 have HHE := Lib.hid hH
 have HHX := Lib.hid hHx
 have HHS := Lib.hid hHs
 have HB := Lib.hid hb
 have HTW := Lib.hid (show ∀ hs, TailsW k b hs 0 b from fun hs => ⟨sb, Nat.le_refl _, shb.2, fun c _ => rfl⟩)
 have HBL := Lib.hid shb.1
 clear hcut hH hHx hHs ha hb sa sb sha shb
 go_enter Tryz.func38, Tryz.ntmps38
 go_upto_region 4 with (first
  | (go_at_call 70; refine HCUT.out.mono ?_; rintro e w1 ⟨hbk, hc, rfl, hcc, hcm, hge, hs1, hfz, hlt, hf1⟩; have HSO := Lib.hid (psortS H hbk hc w1 HHS.out hs1 hfz hlt hcc hcm (by omega)); have HF1 := Lib.hid hf1; have HGE := Lib.hid hge; clear hs1 hfz hlt hf1)
  | (go_at_call 71; refine HSO.out.mono ?_; rintro e w2 ⟨rfl, hs, hby, hs2, hf2⟩; have HF2 := Lib.hid (HF1.out.trans hf2 (by simp) (n := []) (fun i hi hlt => by simp at hi; have := HGE.out; omega)); have HCO := Lib.hid (pcount_any 1 [] _ w2 (by decide) (by decide) (sets_nil w2) (by simp) (by simp)); have HS2 := Lib.hid hs2; have HBY := Lib.hid hby; clear hs2 hf2 hby)
  | (go_at_call 74; refine HCO.out.mono ?_; rintro e w3 ⟨p, mb, fv, rfl, hT3, hF3⟩; have HT3 := Lib.hid hT3; have HF3 := Lib.hid hF3; clear hT3 hF3))
 have hmem : ∀ x, x ∈ hs ↔ x ∈ cutsW a k := fun x => by rw [HBY.out.1.mem_iff, HHE.out]
 have hsl : hs.length = H.length := HBY.out.1.length_eq
 have HM := Lib.hid hmem
 have HSL := Lib.hid hsl
 have HORD := Lib.hid HBY.out.2.1
 have HSTB := Lib.hid HBY.out.2.2
 have HSX := Lib.hid (show ∀ x ∈ hs, x.length ≤ 1000 ∧ -9223372036854775808 ≤ k - (x.length : Int) from fun x hx => HHX.out x (HBY.out.1.mem_iff.1 hx))
 have hHl2 : hs.length ≤ 100000 := by omega
 clear hmem HSO HCO HCUT HHX hHl
 rw [← hsl] at HS2 ⊢
 clear hsl
 go_wp2_with fail
 go_loopw [8, 9] (CatRel w2 k b hs p mb) (fun hv _ _ => lenSl hv)
 case atStart => exact ⟨0, b, fv, Nat.zero_le _, HS2.out, HTW.out hs, (HB.out.below HF2.out).below HF3.out, HT3.out, by simp [prodW, fndW, fndR], by simp [prodW], HF3.out⟩
 case round =>
  obtain ⟨i, T, fw, hi, hhv, hTW, hst, hTy, hfl, hpl, hF⟩ := hrel
  have hhv2 := hhv
  replace hhv := hhv.below hF
  obtain ⟨at0, ct0, rfl, hct0, hcm0⟩ := hhv.form
  obtain ⟨at1, ct1, rfl, -, -⟩ := hst.form
  obtain ⟨l, hl⟩ : ∃ l, l = hs.drop i := ⟨_, rfl⟩
  obtain ⟨n, hn⟩ : ∃ n, n = l.length := ⟨_, rfl⟩
  have hni : n = hs.length - i := by rw [hn, hl, List.length_drop]
  rw [← hl] at hhv hhv2 hct0 ⊢
  rw [← hn] at hhv hhv2 hct0 ⊢
  have HNI := Lib.hid hni
  by_cases hin : 0 < n
  ·have hd1 : decide (0 < n) = true := decide_eq_true hin
   have hil : i < hs.length := by omega
   obtain ⟨bq, oq, rfl, -⟩ := str_cell hhv 0 (by omega)
   have HALK := Lib.hid (palike l _ ct0 n wr hn hhv (by omega))
   have HHV := Lib.hid hhv
   have HHV2 := Lib.hid hhv2
   have HST := Lib.hid hst
   have HTWi := Lib.hid hTW
   have HTY := Lib.hid hTy
   have HFL := Lib.hid hfl
   have HPL := Lib.hid hpl
   have HF := Lib.hid hF
   have HIL := Lib.hid hil
   have HL := Lib.hid hl
   have HN := Lib.hid hn
   have hnb : n ≤ 100000 := by omega
   clear hhv hhv2 hTW hst hTy hfl hpl hF hi hl hn hni
   go_upto_region 6 with (go_at_call 75; refine HALK.out.mono ?_; rintro e w4 ⟨m, rfl, hm0, hmn, hsame, hf4⟩; have HM0 := Lib.hid hm0; have HMN := Lib.hid hmn; have HSAME := Lib.hid hsame; have HF4 := Lib.hid hf4; clear hm0 hmn hsame hf4)
   have hmn2 : m ≤ n := by rw [HN.out]; exact HMN.out
   have hG : GrpAt a b hs k i m (l.take m) (hs[i]'HIL.out).length := by
    rw [HL.out]
    exact grpAt_of HIL.out HM.out HSTB.out (by rw [← HL.out]; exact HMN.out) (by rw [← HL.out]; exact HSAME.out)
   obtain ⟨g, hg⟩ : ∃ g, g = l.take m := ⟨_, rfl⟩
   obtain ⟨x, hx⟩ : ∃ x, x = hs[i]'HIL.out := ⟨_, rfl⟩
   obtain ⟨hTe, hTn⟩ := HTWi.out.nextG HIL.out HM0.out HORD.out
   have hxb := HSX.out x (by rw [hx]; exact List.getElem_mem HIL.out)
   rw [← hg, ← hx] at hG
   rw [← hx] at hTe hTn
   obtain ⟨T', hT'⟩ : ∃ T', T' = cutsW b (k - (x.length : Int)) := ⟨_, rfl⟩
   have hcutT := pcuts T (k - (x.length : Int)) _ w4 (HST.out.below HF4.out) HTWi.out.set (by have := HTWi.out.len; have := HBL.out; omega)
   rw [hTe, ← hT'] at hcutT
   rw [← hT'] at hTn
   have hgl : GrpAt a b hs k i m g x.length := hG
   have hprod : prodW k b (hs.take (i + m)) = prodW k b (hs.take i) ++ joinedW g T' := by rw [hT']; exact hG.prod
   have hgrow := grp_le (b := b) hG.mem hG.all hG.set
   rw [hG.len, ← hT'] at hgrow
   have hgv : ∀ wx, Fr [] w4 wx → strsAt wx (.slice (some ⟨bq, oq, none⟩) m ct0) g := fun wx hf => by
    rw [hg]
    unfold strsAt
    rw [List.map_take]
    exact cellsAt.take (m := n) ((HHV.out.below HF4.out).below hf) (by rw [List.length_map, ← HN.out]; exact hmn2)
   obtain ⟨da, dc, hrun, hdc, hdrop⟩ := strs_cut (P := Tryz.prog) (t := 22) (e := 9) (i := iS) Tryz.underlying22 hiS hS1 (b := bq) (o := oq) (cap := ct0) HN.out hmn2 hct0
   have hdroph : strsAt w2 (.slice da (n - m) dc) (hs.drop (i + m)) := by
    have := hdrop w2 HHV2.out
    rwa [HL.out, List.drop_drop] at this
   have hcell0 : w4.cell? ⟨bq, oq, none⟩ = some (encStr x) := by
    obtain ⟨b', o', e', hc'⟩ := str_cell (HHV.out.below HF4.out) 0 (by rw [← HN.out]; exact hin)
    cases e'
    rw [Nat.add_zero] at hc'
    rw [hc', hx]
    congr 2
    simp only [HL.out, List.getElem_drop]
    rfl
   have hr4 := hrun w4
   have hm0' : decide (0 < m) = true := decide_eq_true HM0.out
   have hm0'' : 0 < m := HM0.out
   have hmc : m ≤ ct0 := by omega
   obtain ⟨hx1, hx2⟩ := hxb
   obtain ⟨nt, hnt⟩ : ∃ nt, nt = T'.length := ⟨_, rfl⟩
   obtain ⟨mt, hmt⟩ : ∃ mt, mt = m * nt := ⟨_, rfl⟩
   have hmti : (m : Int) * (nt : Int) = (mt : Int) := by rw [hmt]; simp
   have hntb : nt ≤ 100000 := by rw [hnt]; exact Nat.le_trans hTn.len HBL.out
   have hmb : m ≤ 100000 := by omega
   have hmtb : mt ≤ 10000000000 := by rw [hmt]; exact Nat.mul_le_mul hmb hntb
   have HG := Lib.hid hG
   have HGE2 := Lib.hid hg
   have HTN := Lib.hid hTn
   have HCT := Lib.hid hcutT
   have HPROD := Lib.hid hprod
   have HGROW := Lib.hid hgrow
   have HGV := Lib.hid hgv
   have HDROP := Lib.hid hdroph
   have HTE := Lib.hid hT'
   have HNT := Lib.hid hnt
   have HMT := Lib.hid hmt
   have HX := Lib.hid hx
   rw [← hnt] at HGROW
   clear hG hg hTe hTn hcutT hprod hgrow hgv hdrop hdroph hrun hT' hgl hnt hmt hx
   by_cases hgt : 4096 < mt
   ·have hd2 : decide ((4096 : Int) < (mt : Int)) = true := decide_eq_true (by omega)
    have hd2b : decide (4096 < mt) = true := decide_eq_true hgt
    rw [HNT.out] at hmti hntb
    have HGT := Lib.hid hgt
    clear hgt
    go_wp2_with (go_at_call 70; refine HCT.out.mono ?_; rintro e w5 ⟨tb, tc, rfl, htc, htm, htg, hs5, hfz5, hlt5, hf5⟩)
    go_ret2
    exact CatGot.no (Nat.lt_of_lt_of_le HGT.out (by rw [HMT.out]; exact HGROW.out)) (((HF2.out.trans HF.out (by simp) (n := []) (by simp)).trans HF4.out (by simp) (n := []) (by simp)).trans hf5 (by simp) (by simp))
   ·have hd2 : decide ((4096 : Int) < (mt : Int)) = false := decide_eq_false (by omega)
    have hd2b : decide (4096 < mt) = false := decide_eq_false hgt
    have hgm : g.length * T'.length ≤ 4096 := by rw [HG.out.len, ← HNT.out, ← HMT.out]; omega
    have hg1 : ∀ y ∈ g, y.length ≤ 1000 := fun y hy => by rw [HG.out.all y hy]; exact hx1
    rw [HNT.out] at hmti hntb
    have hjn : Hid (∀ (tv : Value) (wx : World), Fr [] w4 wx → strsAt wx tv T' → Calls Tryz.prog 76 #[.slice (some ⟨bq, oq, none⟩) m ct0, tv] wx fun e w' => ∃ v, e = .returned v ∧ RowS wx w' v (joinedW g T')) := Lib.hid (fun tv wx hf ht => pjoined g T' _ tv wx (HGV.out wx hf) ht hgm hg1 HTN.out.short)
    have HGM := Lib.hid hgm
    have HG1 := Lib.hid hg1
    clear hgm hg1 hgt
    go_upto_region 11 with (first
     | (go_at_call 70; refine HCT.out.mono ?_; rintro e w5 ⟨tb, tc, rfl, htc, htm, htg, hs5, hfz5, hlt5, hf5⟩; have HJN := Lib.hid (hjn.out _ w5 hf5 hs5); have HS5 := Lib.hid hs5; have HF5 := Lib.hid hf5; have HTG := Lib.hid htg; clear hs5 hfz5 hlt5 hf5 htg)
     | (go_at_call 76; refine HJN.out.mono ?_; rintro e w6 ⟨v6, rfl, hrow6⟩; have HR6 := Lib.hid hrow6; obtain ⟨a6, c6, rfl, hc6, hm6⟩ := hrow6.form; clear hrow6))
    have hF6 : Fr [] wr w6 := (HF4.out.trans HF5.out (by simp) (n := []) (by simp)).trans HR6.out.2 (by simp) (by simp)
    have hT6 := HTY.out.fr hF6
    obtain ⟨af, cf, rfl, hcf, hmf⟩ := owns_slice hT6.row
    have hob := hT6.obj
    obtain ⟨nf, hnf⟩ : ∃ n, n = (fndW 1 (prodW k b (hs.take i))).length := ⟨_, rfl⟩
    have HNF := Lib.hid hnf
    rw [← hnf] at hob hcf
    obtain ⟨d1, d2, d3, g1, g2, g3⟩ := three_of_heap hob
    obtain ⟨L5, hL5⟩ : ∃ L, L = joinedW g T' := ⟨_, rfl⟩
    rw [← hL5] at HR6 HPROD ⊢
    rw [← hL5] at hc6
    have HL5 := Lib.hid hL5
    have hL5l : L5.length ≤ 4096 := by rw [hL5, joinedW_len]; exact HGM.out
    have HF6 := Lib.hid hF6
    have HT6 := Lib.hid hT6
    have HF26 := Lib.hid (HF.out.trans hF6 (by simp) (n := []) (by simp))
    clear hnf hT6 hob hF6 hL5
    by_cases hdone : nf = 0 ∧ n - m = 0
    ·obtain ⟨hz1, hz2⟩ := hdone
     have e1 : (nf == 0) = true := by rw [beq_iff_eq]; exact hz1
     have e1i : ((nf : Int) == 0) = true := by rw [beq_iff_eq]; omega
     have e2 : (n - m == 0) = true := by rw [beq_iff_eq]; exact hz2
     have e2i : (((n - m : Nat) : Int) == 0) = true := by rw [beq_iff_eq]; omega
     have hall : L5 = catW k a b := by
      have hfe : fndW 1 (prodW k b (hs.take i)) = [] := List.eq_nil_of_length_eq_zero (by rw [← HNF.out]; exact hz1)
      have hpe := fnd_nil hfe
      have him : i + m = hs.length := by have h5 := HNI.out; have h6 := HIL.out; omega
      have hp := HPROD.out
      rw [hpe, List.nil_append, him, List.take_length] at hp
      rw [HL5.out, HTE.out]
      refine grp_all HM.out HG.out.all HG.out.set ?_
      rw [hp, HL5.out, HTE.out, prodW_grp HG.out.all]
     have HALL := Lib.hid hall
     have HR6' := Lib.hid HR6.out.strs
     rw [hall] at HR6'
     clear hz1 hz2 hall
     go_wp2_with fail
     go_ret2
     have hlen : (catW k a b).length ≤ 4096 := by rw [← HALL.out]; exact hL5l
     refine CatGot.made hlen ?_ (HF2.out.trans HF26.out (by simp) (by simp))
     have := HR6'.out
     rwa [← HALL.out] at this ⊢
    ·have hxs : ∀ z ∈ L5, z.length ≤ maxLen := fun z hz => by
      rw [HL5.out] at hz
      unfold joinedW at hz
      obtain ⟨y, hy, hz⟩ := List.mem_flatMap.1 hz
      obtain ⟨t, ht, rfl⟩ := List.mem_map.1 hz
      have h5 := HG1.out y hy
      have h6 := HTN.out.short t ht
      rw [List.length_append]
      simp only [maxLen]
      omega
     have hpl2 : (prodW k b (hs.take i)).length + L5.length ≤ 2000000000 := by
      have h5 := HPL.out
      have h6 := HIL.out
      omega
     have hT6 := HT6.out
     have hR6 := HR6.out
     have HAD := Lib.hid (padd_any w2.heap.size p mb 1 (prodW k b (hs.take i)) L5 (.slice af (fndW 1 (prodW k b (hs.take i))).length cf) (.slice a6 L5.length c6) w6 (by decide) (by decide) hT6 (fun w' hf' => cellsAt.kept hR6.strs hf' (fun q hq _ _ hm => by
       have h5 := HTY.out.fr (HF4.out.trans HF5.out (by simp) (n := []) (by simp))
       have h7 := (hR6.1.lt q hq).1
       have h8 := h5.lt q hm
       omega)) (by have h5 := HF26.out.size; omega) hpl2 hxs)
     obtain ⟨P1, hP1⟩ : ∃ P, P = prodW k b (hs.take (i + m)) := ⟨_, rfl⟩
     have HP1 := Lib.hid hP1
     have hfle : (fndW 1 P1).length ≤ (catW k a b).length := by
      rw [hP1]
      exact found_le (fun y hy => (HM.out y).1 (List.mem_of_mem_take hy))
     have hp1l : P1.length ≤ (i + m) * 4096 := by
      have h5 := HPL.out
      have h6 : (i + m) * 4096 = i * 4096 + m * 4096 := Nat.add_mul _ _ _
      rw [hP1, HPROD.out, List.length_append]
      omega
     have HFLE := Lib.hid hfle
     have HP1L := Lib.hid hp1l
     have HPL2 := Lib.hid hpl2
     rw [← HNF.out] at HAD
     clear hP1 hfle hp1l hpl2 hxs hT6 hR6
     have hparts : (nf == 0) = false ∨ ((nf == 0) = true ∧ (n - m == 0) = false) := by
      by_cases h5 : nf = 0
      ·exact .inr ⟨by rw [beq_iff_eq]; exact h5, by rw [beq_eq_false_iff_ne]; exact fun h6 => hdone ⟨h5, h6⟩⟩
      ·exact .inl (by rw [beq_eq_false_iff_ne]; exact h5)
     have HPARTS := Lib.hid hparts
     clear hdone hparts
     go_cut [56] (fun s wx => s = .bool false ∧ w6 = wx)
     case first =>
      rcases HPARTS.out with h5 | ⟨h5, h6⟩
      ·have h5i : ((nf : Int) == 0) = false := by rw [beq_eq_false_iff_ne] at h5 ⊢; omega
       go_wp2_with fail
       go_meet
       exact ⟨rfl, rfl⟩
      ·have h5i : ((nf : Int) == 0) = true := by rw [beq_iff_eq] at h5 ⊢; omega
       have h6i : (((n - m : Nat) : Int) == 0) = false := by rw [beq_eq_false_iff_ne] at h6 ⊢; omega
       go_wp2_with fail
       go_meet
       exact ⟨rfl, rfl⟩
     case rest =>
      obtain ⟨rfl, rfl⟩ := hcut
      go_upto_region 14 with (go_at_call 77; refine HAD.out.mono ?_; rintro e w7 ⟨rfl, fv7, hT7, hf7, hsub7⟩; have HT7 := Lib.hid hT7; have HF7 := Lib.hid hf7; clear hT7 hf7 hsub7)
      have hT7 := HT7.out
      rw [← HPROD.out, ← HP1.out] at hT7
      obtain ⟨a7, c7, rfl, hc7, hm7⟩ := owns_slice hT7.row
      have hob7 := hT7.obj
      obtain ⟨ng, hng⟩ : ∃ n, n = (fndW 1 P1).length := ⟨_, rfl⟩
      have HNG := Lib.hid hng
      rw [← hng] at hob7 hc7
      clear d1 d2 d3 g1 g2 g3
      obtain ⟨d1, d2, d3, g1, g2, g3⟩ := three_of_heap hob7
      have HF27 := Lib.hid (Fr.new HF26.out HF7.out (fun q hq => HT6.out.ge q (by rw [← HNF.out]; exact hq)))
      have HST7 : Hid (strsAt w7 (.slice (some ⟨tb, 0, none⟩) T'.length tc) T') := Lib.hid (cellsAt.kept (cellsAt.below HS5.out HR6.out.2) HF7.out (fun q hq _ _ hm => by
       have h5 := (HTY.out.fr HF4.out).lt q (by rw [← HNF.out]; exact hm)
       have h6 := HTG.out
       simp [Value.ownBlock] at hq
       omega))
      have HT7b := Lib.hid hT7
      clear hT7 hob7 hng
      by_cases hg7 : 4096 < ng
      ·have e3 : decide (4096 < ng) = true := decide_eq_true hg7
       have e3i : decide ((4096 : Int) < (ng : Int)) = true := decide_eq_true (by omega)
       have HG7 := Lib.hid hg7
       clear hg7
       go_wp2_with fail
       go_ret2
       exact CatGot.no (Nat.lt_of_lt_of_le (by rw [← HNG.out]; exact HG7.out) HFLE.out) (HF2.out.trans HF27.out (by simp) (by simp))
      ·have e3 : decide (4096 < ng) = false := decide_eq_false hg7
       have e3i : decide ((4096 : Int) < (ng : Int)) = false := decide_eq_false (by omega)
       have HG7 := Lib.hid hg7
       clear hg7
       go_wp2_with fail
       have hfin : CatRel w2 k b hs p mb (.slice da (n - m) dc) (.slice (some ⟨tb, 0, none⟩) T'.length tc) w7 := by
        refine ⟨i + m, T', .slice a7 (fndW 1 P1).length c7, by have h5 := HIL.out; have h6 := HNI.out; omega, HDROP.out, HTN.out, HST7.out, ?_, ?_, ?_, HF27.out⟩
        ·rw [← HP1.out]; exact HT7b.out
        ·rw [← HP1.out, ← HNG.out]; have := HG7.out; omega
        ·rw [← HP1.out]; exact HP1L.out
       go_roundw
       case rel => exact hfin
       case measure => simp only [lenSl]; omega
  ·have hd1 : decide (0 < n) = false := decide_eq_false hin
   obtain rfl : i = hs.length := by omega
   rw [List.take_length] at hTy hfl
   have hfin := found_all (k := k) (b := b) HM.out
   have hsrt : sortW (fndW 1 (prodW k b hs)) = catW k a b := by rw [fnd_one, prod_all HM.out]
   have hset := pset_any w2.heap.size p mb 1 (prodW k b hs) fw wr hTy (by omega)
   have HSET := Lib.hid hset
   have HTY := Lib.hid hTy
   have HF := Lib.hid hF
   have HSRT := Lib.hid hsrt
   have HLE := Lib.hid (show (catW k a b).length ≤ 4096 by rw [← hfin]; exact hfl)
   clear hset hTy hF hsrt hfin hfl hpl hst hTW hi hhv hhv2 hl hn hni
   go_wp2_with (go_at_call 78; refine HSET.out.mono ?_; rintro e w6 hg; have HG := Lib.hid (pdone HTY.out HF.out HSRT.out hg); clear hg; obtain ⟨v2, rfl, hs2, hf2⟩ := HG.out; obtain ⟨a2, c2, rfl, -, -⟩ := hs2.form)
   go_ret2
   exact CatGot.made HLE.out hs2 (HF2.out.trans hf2 (by simp) (by simp))
end Go.Proofs.YtnaamjpiaekmeaaGreat
