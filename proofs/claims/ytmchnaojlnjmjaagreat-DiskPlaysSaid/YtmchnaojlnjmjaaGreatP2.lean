/- Several texts in one: DskPg, DskPh, DskPi, DskPj. -/
import Derived.Test.YtmchnaojlnjmjaaGreatP1
import Derived.Test.YtmchnaojlnjmjaaGreatBs
import Derived.Test.YtmchnaojlnjmjaaGreatIn
import Derived.Test.YtmchnaojlnjmjaaGreatFt
import Derived.Test.YtmchnaojlnjmjaaGreatUs
/-! The program's disk (layer 11): Create. Written by wip/tools/gen_pg.py. -/
namespace Go.Proofs.YtmchnaojlnjmjaaGreat
open Go.RowKit Go.Maps

set_option maxRecDepth 100000 in
set_option maxHeartbeats 2000000 in
theorem pcreate_any {w : World} {px pm : Nat} {d : DskD} {B : List Nat} {k : Nat} (m : List UInt8) (hp : PK w px pm d B) (hk : AllOk d k) (hk4 : k ≤ 400) (hm : m.length ≤ maxLen) :
    Calls Tryz.prog 14 #[.pointer (some ⟨px, 0, none⟩), encStr m] w (DidK PK px pm (createK d m).1 (.int .i64 (createK d m).2) B w) := by
  obtain ⟨L, h, hL, rfl⟩ := hp
  have hst := pstep_any h hL hk hk4
  have HK := Lib.hid hk
  have HL := Lib.hid hL
  have his := fun wx => pisname_any m hm wx
  unfold Stepd at hst
  by_cases hc : codeK d = 0
  · rw [hc] at hst
    have HST := Lib.hid hst
    have HC := Lib.hid hc
    cases hr : rightB m with
    | false =>
      have hmm : createK d m = (stepK d, 1) := by unfold createK; rw [if_neg (by simp [hc]), if_pos hr]
      rw [hmm]
      rw [hr] at his
      have HIS := Lib.hid his
      clear h hL hk hc hst hmm hr his
      go_enter Tryz.func14, Tryz.ntmps14
      go_wp2_with (first
        | (go_at_call 45; refine HST.out.mono ?_; rintro e w1 ⟨L1, rfl, hw1, hL1, e1, e2, e3⟩)
        | (go_at_call 13; refine (HIS.out _).mono ?_; rintro e w2 ⟨rfl, hf2⟩; have hp2 := hw1.pk.below hf2))
      go_ret
      exact did_mk (hw1.after hf2) hL1
    | true =>
      rw [hr] at his
      have HIS := Lib.hid his
      cases hlk : lookL d.dn m with
      | some v =>
        have hmm : createK d m = (stepK d, 8) := by unfold createK; rw [if_neg (by simp [hc]), if_neg (by simp [hr]), if_pos (by simp [hlk])]
        rw [hmm]
        obtain ⟨n, p, g, ev, hat, hnl, hfk⟩ := hL.found h hk hlk
        rw [ev] at hlk
        have HLK := Lib.hid hlk
        have HAT := Lib.hid hat
        have hfl := hk.ok.fl
        have hn6 : n ≤ 1000000 := by omega
        clear h hL hk hc hst hmm hlk hat ev hfk hnl hfl hr his
        go_enter Tryz.func14, Tryz.ntmps14
        go_wp2_with (first
          | (go_at_call 45; refine HST.out.mono ?_; rintro e w1 ⟨L1, rfl, hw1, hL1, e1, e2, e3⟩)
          | (go_at_call 13; refine (HIS.out _).mono ?_; rintro e w2 ⟨rfl, hf2⟩; have hp2 := hw1.pk.below hf2)
          | (go_at_call 42; refine (pfile_some hp2 m hm n HLK.out (show atFs L1.fs n = some (p, g) by rw [e1]; exact HAT.out) hn6).mono ?_; rintro e w3 ⟨rfl, rfl⟩))
        go_ret
        exact did_mk (hw1.after hf2) hL1
      | none =>
        have HLK := Lib.hid hlk
        by_cases hfull : 256 ≤ d.dn.length
        · have hmm : createK d m = (stepK d, 9) := by unfold createK; rw [if_neg (by simp [hc]), if_neg (by simp [hr]), if_neg (by simp [hlk]), if_pos hfull]
          rw [hmm]
          have hdf : decide (256 ≤ (d.dn.length : Int)) = true := decide_eq_true (by omega)
          clear h hL hk hc hst hmm hlk hr his hfull
          go_enter Tryz.func14, Tryz.ntmps14
          go_wp2_with (first
            | (go_at_call 45; refine HST.out.mono ?_; rintro e w1 ⟨L1, rfl, hw1, hL1, e1, e2, e3⟩)
            | (go_at_call 13; refine (HIS.out _).mono ?_; rintro e w2 ⟨rfl, hf2⟩; have hp2 := hw1.pk.below hf2)
            | (go_at_call 42; refine (pfile_none hp2 m hm HLK.out).mono ?_; rintro e w3 ⟨rfl, rfl⟩)
            | (go_at_call 46; refine (show Calls Tryz.prog 46 #[.pointer (some ⟨px, 0, none⟩)] _ (Namesd d.dn _) from plisted_any (d := stepK d) (L := L1) hp2 HK.out.ok.sn (by have := hL1.md; have := HK.out.step.ok.st; omega)).mono ?_; rintro e w4 ⟨v, rfl, hv, hf4⟩; obtain ⟨a0, cc0, rfl, hlc, hmc⟩ := names_slice hv))
          go_ret
          exact did_mk ((hw1.after hf2).after hf4) hL1
        · have hmm : createK d m = ({ stepK d with dn := applyL d.dn ⟨0, m, [], d.files.length⟩, ops := d.ops ++ [⟨0, m, [], d.files.length⟩], files := d.files ++ [f0D] }, 0) := by unfold createK; rw [if_neg (by simp [hc]), if_neg (by simp [hr]), if_neg (by simp [hlk]), if_neg hfull]
          rw [hmm]
          have hdf : decide (256 ≤ (d.dn.length : Int)) = false := decide_eq_false (by omega)
          have hmd : L.mD ≤ 500 := by have := hL.md; have := hk.ok.st; omega
          have hmM : L.mM ≤ 500 := by have := hL.mm; have := hk.ok.st; omega
          have hfl : d.files.length ≤ 500 := by have := hk.ok.fl; omega
          have hlN : (lookL d.dn m).isSome = false := by rw [hlk]; rfl
          have HLN := Lib.hid hlN
          have HPL := Lib.hid h.fl
          have hwf := wf_small (n := (d.files.length : Int)) (by omega) (by omega)
          have HWF := Lib.hid hwf
          clear h hL hk hc hst hmm hlk hr his hfull hlN hwf
          go_enter Tryz.func14, Tryz.ntmps14
          go_upto_region 10 with (first
            | (go_at_call 45; refine HST.out.mono ?_; rintro e w1 ⟨L1, rfl, hw1, hL1, e1, e2, e3⟩)
            | (go_at_call 13; refine (HIS.out _).mono ?_; rintro e w2 ⟨rfl, hf2⟩; have hp2 := hw1.pk.below hf2)
            | (go_at_call 42; refine (pfile_none hp2 m hm HLK.out).mono ?_; rintro e w3 ⟨rfl, rfl⟩)
            | (go_at_call 46; refine (show Calls Tryz.prog 46 #[.pointer (some ⟨px, 0, none⟩)] _ (Namesd d.dn _) from plisted_any (d := stepK d) (L := L1) hp2 HK.out.ok.sn (by have := hL1.md; have := HK.out.step.ok.st; omega)).mono ?_; rintro e w4 ⟨v, rfl, hv, hf4⟩; obtain ⟨a0, cc0, rfl, hlc, hmc⟩ := names_slice hv))
          have hp4 := hp2.below hf4
          have hw4 := (hw1.after hf2).after hf4
          have HP4 := Lib.hid hp4
          have HW4 := Lib.hid hw4
          have HL1 := Lib.hid hL1
          clear hp2 hp4 hw4 hw1 hf2 hf4 hv hL1
          refine wp_region_Y [] 9 [(0, false), (1, false), (2, false), (3, false), (4, false), (5, false), (6, false), (7, false), (8, false), (9, true)] 51 rfl (by kernel_rfl) (by kernel_rfl) (by kernel_rfl) (fun c a d v w h => by cases d <;> exact h) (fun wd hfd => ?_)
          simp only [List.map_cons, List.map_nil, List.getElem?_toArray, List.getElem?_cons_succ, List.getElem?_cons_zero, Option.getD_some]
          have HPD := Lib.hid (HP4.out.below hfd)
          have HFD := Lib.hid hfd
          clear hfd
          repeat (apply walkZ_t; · (intro w' hf'; obtain ⟨c0, c1, c2, c3, c4, f2, f3⟩ := (HPD.out.below hf').cells; go_wp2_with fail; exact ⟨rfl, rfl⟩))
          refine walkZ_x ?_
          go_wp2_with (go_at_call 47; refine (dput_yes L1.pd L1.mD L1.Bd _ _ _ m _ _ HPD.out.dr hm HWF.out HLN.out (by omega)).mono ?_; rintro e w5 ⟨rfl, ht⟩)
          refine ⟨by simp, rfl, ?_⟩
          refine walkZ_end ?_
          obtain ⟨L2, g1, g2, g3, hw5⟩ := HPD.out.dir ht
          have HP5 := Lib.hid hw5.pk
          have HW5 := Lib.hid ((HW4.out.after HFD.out).trans hw5)
          clear ht hw5
          go_upto_region 11 with fail
          refine wp_region_Y [] 9 [(0, false), (1, false), (2, false), (3, false), (4, false), (5, false), (6, false), (7, false), (8, true), (9, true)] 51 rfl (by kernel_rfl) (by kernel_rfl) (by kernel_rfl) (fun c a d v w h => by cases d <;> exact h) (fun we hfe => ?_)
          simp only [List.map_cons, List.map_nil, List.getElem?_toArray, List.getElem?_cons_succ, List.getElem?_cons_zero, Option.getD_some]
          have HPE := Lib.hid (HP5.out.below hfe)
          have HFE := Lib.hid hfe
          clear hfe
          repeat (apply walkZ_t; · (intro w' hf'; obtain ⟨c0, c1, c2, c3, c4, f2, f3⟩ := (HPE.out.below hf').cells; go_wp2_with fail; exact ⟨rfl, rfl⟩))
          refine walkZ_x ?_
          go_wp2_with (go_at_call 48; refine (inew_any [] _ _ (bytesAt.nil _) (by simp)).mono ?_; rintro e w6 ⟨p, g, rfl, hF, hf6, hpp, hgg⟩)
          refine ⟨.inr hf6, rfl, ?_⟩
          refine walkZ_x ?_
          have hmp6 := HPE.out.mp.below hf6
          have HMP6 := Lib.hid hmp6
          have HF6 := Lib.hid hf6
          have HFF := Lib.hid hF
          clear hmp6 hf6 hF
          go_wp2_with (at_mapUpdate; refine wpL_pput rfl _ _ _ 62 rfl 3 86 Tryz.underlying3 Tryz.underlying62 L2.bM L2.mM _ rfl HMP6.out (by simp [maxLen]; omega) (d.files.length : Int) rfl HWF.out p rfl ?_; intro w7 hm7 hf7)
          refine ⟨rfl, ?_⟩
          refine walkZ_end ?_
          have hbx : px ≠ L2.bM := fun e => by have h1 := HPE.out.tx; rw [e, HPE.out.tb] at h1; cases h1
          have hob7 := hf7.heap (HF6.out.heap HPE.out.obj (by simp)) (by simpa using hbx)
          have c3 : w7.cell? ⟨px, 3, none⟩ = some (.int .i64 ((d.files.length : Nat) : Int)) := by rw [cell_of_heap hob7]; rfl
          have f3 : w7.frozen? ⟨px, 3, none⟩ = false := free_of_heap hob7 3
          have HM7 := Lib.hid hm7
          have HF7 := Lib.hid hf7
          have HO7 := Lib.hid hob7
          have HBX := Lib.hid hbx
          clear hm7 hf7 hob7 hbx
          go_wp2_with fail
          go_ret
          have hset := Fr.set0 w7 px 3 (.int .i64 ((d.files.length : Int) + 1))
          obtain ⟨L3, k1, k2, k3, hw8⟩ := HPE.out.add HFF.out HF6.out hpp hgg (HM7.out.kept hset (by simpa using fun e : L2.bM = px => HBX.out e.symm)) ((HF7.out.mono (by simp)).trans (hset.mono (by simp)) (fun _ q _ => q) (fun _ q _ => q)) (by
            have := heap_setCell_same HO7.out (i := 3) (.int .i64 ((d.files.length : Int) + 1))
            exact this)
          refine did_mk ((HW5.out.after HFE.out).trans hw8) (HL.out.act HK.out HC.out ⟨0, m, [], d.files.length⟩ (d.files ++ [f0D]) (fun n q => ?_) (by omega) (by omega) (fun _ => ?_))
          · rw [k1, atFs_snoc]
            split
            · rfl
            · rw [g1, e1]; exact q
          · rw [k1, atFs_snoc, g1, e1, HPL.out]
            rw [if_pos (by simp)]
            rfl
  · have hmm : createK d m = (stepK d, codeK d) := by unfold createK; rw [if_pos hc]
    rw [hmm]
    obtain ⟨c, hcc⟩ : ∃ c, c = codeK d := ⟨_, rfl⟩
    rw [← hcc] at hst hc ⊢
    have hc0 : (c == 0) = false := by rw [beq_eq_false_iff_ne]; exact hc
    have HST := Lib.hid hst
    clear h hL hk hc hmm hst hcc his
    go_enter Tryz.func14, Tryz.ntmps14
    go_wp2_with (go_at_call 45; refine HST.out.mono ?_; rintro e w1 ⟨L1, rfl, hw1, hL1, e1, e2, e3⟩)
    go_ret
    exact did_mk hw1 hL1
end Go.Proofs.YtmchnaojlnjmjaaGreat

/-! The program's disk (layer 11): Append. Written by wip/tools/gen_ph.py. -/
namespace Go.Proofs.YtmchnaojlnjmjaaGreat
open Go.RowKit Go.Maps

def PSizeRel (w : World) (n : Nat) (sv iv : Value) (wx : World) : Prop := ((sv = .int .i64 0 ∧ iv = .int .i64 0) ∨ (sv = .int .i64 (n : Int) ∧ iv = .int .i64 1)) ∧ w = wx
/-- In the loop that appends: nothing yet, or all. -/
def PAppRel (px pm : Nat) (L : Lay) (d' : DskD) (n : Nat) (x : Nat → Option (Nat × Nat)) (w : World) (iv : Value) (wx : World) : Prop := (iv = .int .i64 0 ∧ Fr [] w wx) ∨ (iv = .int .i64 1 ∧ ∃ (L' : Lay) (g : Nat), Went px pm L L' d' w wx ∧ (∃ y, L'.fs = L.fs.set n (some y)) ∧ L'.mD = L.mD ∧ L'.mM = L.mM)
set_option maxRecDepth 100000 in
set_option maxHeartbeats 2000000 in
theorem pappend_any {w : World} {px pm : Nat} {d : DskD} {B : List Nat} {k : Nat} (m b : List UInt8) (pv bv : Value) (hp : PK w px pm d B) (hk : AllOk d k) (hk4 : k ≤ 400) (hm : m.length ≤ maxLen) (hb : b.length ≤ 1000) (hpv : cellsAt w pv [bv]) (hbv : bytesAt w bv b) (hpnb : ∀ j, pv.ownBlock = some j → j ∉ B) (hbnb : ∀ j, bv.ownBlock = some j → b ≠ [] → j ∉ B) :
    Calls Tryz.prog 15 #[.pointer (some ⟨px, 0, none⟩), encStr m, pv] w (DidK PK px pm (appendK d m b).1 (.int .i64 (appendK d m b).2) B w) := by
  obtain ⟨L, h, hL, rfl⟩ := hp
  have hst := pstep_any h hL hk hk4
  have HK := Lib.hid hk
  have HL := Lib.hid hL
  have hplt := h.lt
  have hpvl := hpv.lt (by simp)
  have hbvl := fun (hne : b ≠ []) => hbv.lt hne
  obtain ⟨ab, cb, rfl, hbc, hbm⟩ := hbv.form
  obtain ⟨ap, cp, rfl, hpc, hpm⟩ := hpv.form
  simp only [List.length_singleton] at hpv hpc hpnb hpvl ⊢
  have hb63 : cb ≤ 9223372036854775807 := by simpa [maxLen] using hbm
  have hp63 : cp ≤ 9223372036854775807 := by simpa [maxLen] using hpm
  have HPV := Lib.hid hpv
  have HBV := Lib.hid hbv
  have HPN := Lib.hid hpnb
  have HBN := Lib.hid hbnb
  unfold Stepd at hst
  by_cases hc : codeK d = 0
  · rw [hc] at hst
    have HST := Lib.hid hst
    have HC := Lib.hid hc
    cases hlk : lookL d.dn m with
    | none =>
      have hmm : appendK d m b = (stepK d, 7) := by unfold appendK; rw [if_neg (by simp [hc]), hlk]
      rw [hmm]
      have HLK := Lib.hid hlk
      clear h hL hk hc hst hmm hlk hpv hbv hpnb hbnb hpvl hbvl hplt hbm hpm
      go_enter Tryz.func15, Tryz.ntmps15
      go_wp2_with (first
        | (go_at_call 45; refine HST.out.mono ?_; rintro e w1 ⟨L1, rfl, hw1, hL1, e1, e2, e3⟩)
        | (go_at_call 42; refine (pfile_none hw1.pk m hm HLK.out).mono ?_; rintro e w2 ⟨rfl, rfl⟩))
      have hpv1 := HPV.out.kept hw1.fr (fun j hj _ _ => HPN.out j hj)
      obtain ⟨pb, poff, rfl, -, hpcell⟩ := hpv1.get (i := 0) (by simp)
      have hpc0 := hpcell 0 (by simp)
      simp only [List.getElem_cons_zero, Nat.add_zero] at hpc0
      clear hpv1 hpcell
      go_loopw [9, 24] (PSizeRel w1 b.length) (fun _ iv _ => 1 - (intOf iv).toNat)
      case atStart => exact ⟨.inl ⟨rfl, rfl⟩, rfl⟩
      case round =>
        obtain ⟨⟨rfl, rfl⟩ | ⟨rfl, rfl⟩, rfl⟩ := hrel
        · go_wp2_with fail
          exact ⟨⟨.inr ⟨rfl, rfl⟩, rfl⟩, by simp [intOf]⟩
        · skip
          go_wp2_with fail
          go_ret
          exact did_mk hw1 hL1
    | some v =>
      obtain ⟨n, p, g, ev, hat, hnl, hfk⟩ := hL.found h hk hlk
      have hfm : fileN d n ∈ d.files := by unfold fileN; simp only [List.getD, List.getElem?_eq_getElem hnl, Option.getD_some]; exact List.getElem_mem hnl
      have hln := hk.ok.len _ hfm
      have hfl := hk.ok.fl
      have hn6 : n ≤ 1000000 := by omega
      have HAT := Lib.hid hat
      obtain ⟨N, hN⟩ : ∃ N, N = (fileN d n).now.length := ⟨_, rfl⟩
      have HN := Lib.hid hN
      rw [← hN] at hln
      by_cases hlong : 1048576 < N + b.length
      · have hmm : appendK d m b = (stepK d, 5) := by unfold appendK; rw [if_neg (by simp [hc]), hlk]; simp only; rw [hfk, if_pos (by omega)]
        rw [hmm]
        rw [ev] at hlk
        have HLK := Lib.hid hlk
        have hd5 : decide (1048576 - (N : Int) < (b.length : Int)) = true := decide_eq_true (by omega)
        clear h hL hk hc hst hmm hlk hpv hbv hpnb hbnb hpvl hbvl hplt hbm hpm hat ev hfk hnl hfm hfl hN hlong
        go_enter Tryz.func15, Tryz.ntmps15
        go_wp2_with (first
          | (go_at_call 45; refine HST.out.mono ?_; rintro e w1 ⟨L1, rfl, hw1, hL1, e1, e2, e3⟩)
          | (go_at_call 42; refine (pfile_some hw1.pk m hm n HLK.out (show atFs L1.fs n = some (p, g) by rw [e1]; exact HAT.out) hn6).mono ?_; rintro e w2 ⟨rfl, rfl⟩))
        have hpv1 := HPV.out.kept hw1.fr (fun j hj _ _ => HPN.out j hj)
        obtain ⟨pb, poff, rfl, -, hpcell⟩ := hpv1.get (i := 0) (by simp)
        have hpc0 := hpcell 0 (by simp)
        simp only [List.getElem_cons_zero, Nat.add_zero] at hpc0
        clear hpv1 hpcell
        go_loopw [9, 24] (PSizeRel w1 b.length) (fun _ iv _ => 1 - (intOf iv).toNat)
        case atStart => exact ⟨.inl ⟨rfl, rfl⟩, rfl⟩
        case round =>
          obtain ⟨⟨rfl, rfl⟩ | ⟨rfl, rfl⟩, rfl⟩ := hrel
          · go_wp2_with fail
            exact ⟨⟨.inr ⟨rfl, rfl⟩, rfl⟩, by simp [intOf]⟩
          · skip
            have HLE := Lib.hid (ilen_any p g _ _ _ (hw1.pk.fi n p g (by rw [e1]; exact HAT.out)))
            rw [show (fileN (stepK d) n).now.length = N from HN.out.symm] at HLE
            go_wp2_with (go_at_call 49; refine HLE.out.mono ?_; rintro e w3 ⟨rfl, rfl⟩)
            go_ret
            exact did_mk hw1 hL1
      · have hd5 : decide (1048576 - (N : Int) < (b.length : Int)) = false := decide_eq_false (by omega)
        have hrm := hL.rm
        have hup := usedTo_le d 1000000 (fun f hf => by have := hk.ok.len f hf; omega) d.dn.length (Nat.le_refl _)
        rw [usedTo_all] at hup
        have hul : usedK d ≤ 1000000000 := by have := hk.ok.nl; omega
        obtain ⟨U, hU⟩ : ∃ U, U = usedK d := ⟨_, rfl⟩
        rw [← hU] at hul
        have HU := Lib.hid hU
        have hu1 : usedK (stepK d) = U := by rw [hU]; rfl
        have HU1 := Lib.hid hu1
        obtain ⟨R, hR⟩ : ∃ R, R = d.room := ⟨_, rfl⟩
        rw [← hR] at hrm
        have HR := Lib.hid hR
        obtain ⟨hr0, hr1⟩ := hrm
        by_cases hfull : R < ((U + b.length : Nat) : Int)
        · have hmm : appendK d m b = (stepK d, 9) := by unfold appendK; rw [if_neg (by simp [hc]), hlk]; simp only; rw [hfk, if_neg (by omega), if_pos (by rw [← hU, ← hR]; exact hfull)]
          rw [hmm]
          rw [ev] at hlk
          have HLK := Lib.hid hlk
          have hd6 : decide (R - (U : Int) < (b.length : Int)) = true := decide_eq_true (by omega)
          clear h hL hk hc hst hmm hlk hpv hbv hpnb hbnb hpvl hbvl hplt hbm hpm hat ev hfk hnl hfm hfl hN hlong hup hU hu1 hR hfull
          go_enter Tryz.func15, Tryz.ntmps15
          go_wp2_with (first
            | (go_at_call 45; refine HST.out.mono ?_; rintro e w1 ⟨L1, rfl, hw1, hL1, e1, e2, e3⟩)
            | (go_at_call 42; refine (pfile_some hw1.pk m hm n HLK.out (show atFs L1.fs n = some (p, g) by rw [e1]; exact HAT.out) hn6).mono ?_; rintro e w2 ⟨rfl, rfl⟩))
          have hpv1 := HPV.out.kept hw1.fr (fun j hj _ _ => HPN.out j hj)
          obtain ⟨pb, poff, rfl, -, hpcell⟩ := hpv1.get (i := 0) (by simp)
          have hpc0 := hpcell 0 (by simp)
          simp only [List.getElem_cons_zero, Nat.add_zero] at hpc0
          clear hpv1 hpcell
          go_loopw [9, 24] (PSizeRel w1 b.length) (fun _ iv _ => 1 - (intOf iv).toNat)
          case atStart => exact ⟨.inl ⟨rfl, rfl⟩, rfl⟩
          case round =>
            obtain ⟨⟨rfl, rfl⟩ | ⟨rfl, rfl⟩, rfl⟩ := hrel
            · go_wp2_with fail
              exact ⟨⟨.inr ⟨rfl, rfl⟩, rfl⟩, by simp [intOf]⟩
            · skip
              have HLE := Lib.hid (ilen_any p g _ _ _ (hw1.pk.fi n p g (by rw [e1]; exact HAT.out)))
              rw [show (fileN (stepK d) n).now.length = N from HN.out.symm] at HLE
              have HW1 := Lib.hid hw1
              have HL1 := Lib.hid hL1
              clear hw1 hL1
              go_upto_region 14 with (go_at_call 49; refine HLE.out.mono ?_; rintro e w3 ⟨rfl, rfl⟩)
              refine wp_region_G [] [(0, false), (1, false), (2, false), (3, false), (4, false), (5, false), (6, true), (7, false), (8, false), (9, false)] 62 rfl (by kernel_rfl) (by kernel_rfl) (by kernel_rfl) (fun c a d v w h => by cases d <;> exact h) (fun wd hfd => ?_)
              simp only [List.map_cons, List.map_nil, List.getElem?_toArray, List.getElem?_cons_succ, List.getElem?_cons_zero, Option.getD_some]
              have HPD := Lib.hid (HW1.out.pk.below hfd)
              have HFD := Lib.hid hfd
              have HUS := Lib.hid (pused_any HPD.out HL1.out HK.out.step (by omega))
              rw [HU1.out] at HUS
              clear hfd
              repeat (apply wpG_t; · (intro w' hf'; obtain ⟨c0, c1, c2, c3, c4, f2, f3⟩ := (HPD.out.below hf').cells; rw [show (stepK d).room = R from HR.out.symm] at c4; go_wp2_with fail; exact ⟨rfl, rfl⟩))
              refine wpG_x ?_
              go_wp2_with (go_at_call 38; refine HUS.out.mono ?_; rintro e w4 ⟨rfl, hf4⟩)
              refine ⟨hf4, rfl, ?_⟩
              repeat (apply wpG_t; · (intro w' hf'; go_wp2_with fail; exact ⟨rfl, rfl⟩))
              refine wpG_end ?_
              go_wp2_with fail
              go_ret
              exact did_mk ((HW1.out.after HFD.out).after hf4) HL1.out
        · have hmm : appendK d m b = ({ stepK d with files := d.files.set n ⟨(fileN d n).now ++ b, (fileN d n).safe⟩ }, 0) := by
            unfold appendK putK
            rw [if_neg (by simp [hc]), hlk]
            simp only
            rw [hfk, if_neg (by omega), if_neg (by rw [← hU, ← hR]; exact hfull), ev]; rfl
          rw [hmm]
          rw [ev] at hlk
          have HLK := Lib.hid hlk
          have hd6 : decide (R - (U : Int) < (b.length : Int)) = false := decide_eq_false (by omega)
          have HBL := Lib.hid hbvl
          have hno : b ≠ [] → ∀ j, (Value.slice ab b.length cb).ownBlock = some j → j ∉ L.blocks px := fun hne j hj => hbnb j hj hne
          have HNO := Lib.hid hno
          have hNb : N + b.length ≤ 1048576 := by omega
          have HPL := Lib.hid hpvl
          clear h hL hk hc hst hmm hlk hpv hbv hpnb hbnb hpvl hbvl hplt hbm hpm hat ev hfk hnl hfm hfl hN hlong hup hU hu1 hR hfull hno
          go_enter Tryz.func15, Tryz.ntmps15
          go_wp2_with (first
            | (go_at_call 45; refine HST.out.mono ?_; rintro e w1 ⟨L1, rfl, hw1, hL1, e1, e2, e3⟩)
            | (go_at_call 42; refine (pfile_some hw1.pk m hm n HLK.out (show atFs L1.fs n = some (p, g) by rw [e1]; exact HAT.out) hn6).mono ?_; rintro e w2 ⟨rfl, rfl⟩))
          have hpv1 := HPV.out.kept hw1.fr (fun j hj _ _ => HPN.out j hj)
          obtain ⟨pb, poff, rfl, -, hpcell⟩ := hpv1.get (i := 0) (by simp)
          have hpc0 := hpcell 0 (by simp)
          simp only [List.getElem_cons_zero, Nat.add_zero] at hpc0
          clear hpv1 hpcell
          go_loopw [9, 24] (PSizeRel w1 b.length) (fun _ iv _ => 1 - (intOf iv).toNat)
          case atStart => exact ⟨.inl ⟨rfl, rfl⟩, rfl⟩
          case round =>
            obtain ⟨⟨rfl, rfl⟩ | ⟨rfl, rfl⟩, rfl⟩ := hrel
            · go_wp2_with fail
              exact ⟨⟨.inr ⟨rfl, rfl⟩, rfl⟩, by simp [intOf]⟩
            · skip
              have HLE := Lib.hid (ilen_any p g _ _ _ (hw1.pk.fi n p g (by rw [e1]; exact HAT.out)))
              rw [show (fileN (stepK d) n).now.length = N from HN.out.symm] at HLE
              have HAT1 := Lib.hid (show atFs L1.fs n = some (p, g) by rw [e1]; exact HAT.out)
              have HW1 := Lib.hid hw1
              have HL1 := Lib.hid hL1
              have HPC0 := Lib.hid hpc0
              clear hw1 hL1 hpc0
              go_upto_region 14 with (go_at_call 49; refine HLE.out.mono ?_; rintro e w3 ⟨rfl, rfl⟩)
              refine wp_region_G [] [(0, false), (1, false), (2, false), (3, false), (4, false), (5, false), (6, true), (7, false), (8, false), (9, false)] 62 rfl (by kernel_rfl) (by kernel_rfl) (by kernel_rfl) (fun c a d v w h => by cases d <;> exact h) (fun wd hfd => ?_)
              simp only [List.map_cons, List.map_nil, List.getElem?_toArray, List.getElem?_cons_succ, List.getElem?_cons_zero, Option.getD_some]
              have HPD := Lib.hid (HW1.out.pk.below hfd)
              have HFD := Lib.hid hfd
              have HUS := Lib.hid (pused_any HPD.out HL1.out HK.out.step (by omega))
              rw [HU1.out] at HUS
              clear hfd
              repeat (apply wpG_t; · (intro w' hf'; obtain ⟨c0, c1, c2, c3, c4, f2, f3⟩ := (HPD.out.below hf').cells; rw [show (stepK d).room = R from HR.out.symm] at c4; go_wp2_with fail; exact ⟨rfl, rfl⟩))
              refine wpG_x ?_
              go_wp2_with (go_at_call 38; refine HUS.out.mono ?_; rintro e w4 ⟨rfl, hf4⟩)
              refine ⟨hf4, rfl, ?_⟩
              repeat (apply wpG_t; · (intro w' hf'; go_wp2_with fail; exact ⟨rfl, rfl⟩))
              refine wpG_end ?_
              have HW4 := Lib.hid ((HW1.out.after HFD.out).after hf4)
              have HF14 := Lib.hid (HFD.out.trans hf4 (by simp) (n := []) (by simp))
              clear hf4
              go_wp2_with fail
              go_loopw [54] (PAppRel px pm L1 { stepK d with files := d.files.set n ⟨(fileN d n).now ++ b, (fileN d n).safe⟩ } n (fun _ => none) w4) (fun iv _ => 1 - (intOf iv).toNat)
              case atStart => exact .inl ⟨rfl, Fr.refl _ _⟩
              case round =>
                rcases hrel with ⟨rfl, hf⟩ | ⟨rfl, L2, g2, hw2, ⟨y, hy⟩, hmD, hmM⟩
                · have hcell := hf.cell (HF14.out.cell HPC0.out (by simp)) (by simp)
                  have hPr := HW4.out.pk.below hf
                  have hbw := ((HBV.out.kept HW4.out.fr (fun j hj hne _ => HNO.out hne j hj)).below hf)
                  have HPR := Lib.hid hPr
                  have HAP := Lib.hid (iappend_yes p g _ _ b _ wr (hPr.fi n p g HAT1.out) hbw (by rw [show (fileN (stepK d) n).now.length = N from HN.out.symm]; exact hNb) (fun hne j hj e => by
                    have h1 := HNO.out hne j hj
                    have h2 := HBL.out hne j hj
                    have h3 := HW4.out.new j (Lay.blocks_iff.2 (.inr (.inr (.inr (.inr ⟨n, p, g, HAT1.out, .inl e⟩)))))
                    exact h3.elim h1 (fun q => by omega)))
                  have HF := Lib.hid hf
                  clear hf hPr hbw
                  go_wp2_with (go_at_call 50; refine HAP.out.mono ?_; rintro e w5 ⟨g5, rfl, hF5, hf5, hg5⟩)
                  obtain ⟨L2, k1, k2, k3, hw5⟩ := HPR.out.file HAT1.out ⟨(fileN d n).now ++ b, (fileN d n).safe⟩ hF5 hf5 hg5
                  exact ⟨.inr ⟨by simp, L2, g5, hw5.before HF.out, ⟨_, k1⟩, k2, k3⟩, by simp [intOf]⟩
                · have HW2 := Lib.hid hw2
                  have HY := Lib.hid hy
                  have HMD := Lib.hid hmD
                  have HMM := Lib.hid hmM
                  clear hw2 hy hmD hmM
                  go_wp2_with fail
                  go_ret
                  exact did_mk (HW4.out.trans HW2.out) (HL1.out.put _ (atFs_lt HAT1.out) HY.out HMD.out HMM.out)
  · have hmm : appendK d m b = (stepK d, codeK d) := by unfold appendK; rw [if_pos hc]
    rw [hmm]
    obtain ⟨c, hcc⟩ : ∃ c, c = codeK d := ⟨_, rfl⟩
    rw [← hcc] at hst hc ⊢
    have hc0 : (c == 0) = false := by rw [beq_eq_false_iff_ne]; exact hc
    have HST := Lib.hid hst
    clear h hL hk hc hmm hst hcc hpv hbv hpnb hbnb hpvl hbvl hplt hbm hpm
    go_enter Tryz.func15, Tryz.ntmps15
    go_wp2_with (go_at_call 45; refine HST.out.mono ?_; rintro e w1 ⟨L1, rfl, hw1, hL1, e1, e2, e3⟩)
    go_ret
    exact did_mk hw1 hL1
end Go.Proofs.YtmchnaojlnjmjaaGreat

/-! The program's disk (layer 11): Flip, Names; Arm and Fall of its meter. -/
namespace Go.Proofs.YtmchnaojlnjmjaaGreat
open Go.RowKit Go.Maps

theorem LayOk.same {L L' : Lay} {d d' : DskD} (h : LayOk L d) (h1 : L'.fs = L.fs) (h2 : L'.mD = L.mD) (h3 : L'.mM = L.mM) (k1 : d'.dn = d.dn) (k2 : d'.ds = d.ds) (k3 : d'.ops = d.ops) (k4 : d'.steps = d.steps) (k5 : d'.room = d.room) : LayOk L' d' :=
  ⟨fun n hn => by unfold reachK at hn; rw [k1, k2, k3] at hn; rw [h1]; exact h.re n hn, by rw [h2, k4]; exact h.md, by rw [h3, k4]; exact h.mm, by rw [k1, k4]; exact h.nl, by rw [k2, k3, k4]; exact h.sl, by rw [k5]; exact h.rm⟩
set_option maxRecDepth 100000 in
theorem ilen_nil (w : World) : Calls Tryz.prog 49 #[.pointer none] w fun e w' => e = .returned (.int .i64 0) ∧ w = w' := by
  go_enter Tryz.func49, Tryz.ntmps49
  go_wp2_with fail
  go_ret
  exact ⟨rfl, rfl⟩
set_option maxRecDepth 100000 in
theorem iflip_nil (bit : Int) (w : World) (h64 : bit ≤ 9223372036854775807) :
    Calls Tryz.prog 70 #[.pointer none, .int .i64 bit] w fun e w' => e = .returned (.bool false) ∧ w = w' := by
  by_cases hn : bit < 0
  · have hd : decide (bit < 0) = true := decide_eq_true hn
    go_enter Tryz.func70, Tryz.ntmps70
    go_wp2_with fail
    go_ret
    exact ⟨rfl, rfl⟩
  · obtain ⟨q, rfl⟩ := Int.eq_ofNat_of_zero_le (show 0 ≤ bit by omega)
    have hd : decide ((q : Int) < 0) = false := decide_eq_false hn
    have hd2 : decide ((0 : Int) ≤ (q : Int) / 8) = true := decide_eq_true (by omega)
    clear hn
    go_enter Tryz.func70, Tryz.ntmps70
    go_wp2_with (go_at_call 49; refine (ilen_nil _).mono ?_; rintro e w2 ⟨rfl, rfl⟩)
    go_ret
    exact ⟨rfl, rfl⟩
set_option maxRecDepth 100000 in
theorem pflip_any {w : World} {px pm : Nat} {d : DskD} {B : List Nat} {k : Nat} (m : List UInt8) (bit : Int) (hp : PK w px pm d B) (hk : AllOk d k) (hk4 : k ≤ 400) (hm : m.length ≤ maxLen) (h64 : bit ≤ 9223372036854775807) :
    Calls Tryz.prog 35 #[.pointer (some ⟨px, 0, none⟩), encStr m, .int .i64 bit] w (DidK PK px pm (flipK d m bit).1 (.bool (flipK d m bit).2) B w) := by
  obtain ⟨L, h, hL, rfl⟩ := hp
  cases hlk : lookL d.dn m with
  | none =>
    have hmm : flipK d m bit = (d, false) := by unfold flipK; rw [hlk]
    rw [hmm]
    have HFI := Lib.hid (pfile_none h m hm hlk)
    have HH := Lib.hid h
    have HL := Lib.hid hL
    clear h hL hk hmm hlk
    go_enter Tryz.func35, Tryz.ntmps35
    go_wp2_with (first
      | (go_at_call 42; refine HFI.out.mono ?_; rintro e w2 ⟨rfl, rfl⟩)
      | (go_at_call 70; refine (iflip_nil bit _ h64).mono ?_; rintro e w3 ⟨rfl, rfl⟩))
    go_ret
    exact did_mk (HH.out.same (Fr.refl _ _)) HL.out
  | some v =>
    obtain ⟨n, p, g, ev, hat, hnl, hfk⟩ := hL.found h hk hlk
    have hfm : fileN d n ∈ d.files := by unfold fileN; simp only [List.getD, List.getElem?_eq_getElem hnl, Option.getD_some]; exact List.getElem_mem hnl
    have hln := hk.ok.len _ hfm
    have hpr := hk.ok.pre _ hfm
    have hfl := hk.ok.fl
    rw [ev] at hlk
    have HFI := Lib.hid (pfile_some h m hm n hlk hat (by omega))
    have hrw : flipK d m bit = if bit < 0 ∨ 8 * ((fileN d n).now.length : Int) ≤ bit then (d, false) else ({ d with files := d.files.set n ⟨flipC (fileN d n).now bit, (flipC (fileN d n).now bit).take (fileN d n).safe.length⟩ }, true) := by
      unfold flipK putK
      rw [hlk]
      simp only
      rw [ev] at hfk
      rw [hfk]; rfl
    by_cases hb : bit < 0 ∨ 8 * ((fileN d n).now.length : Int) ≤ bit
    · have hmm : flipK d m bit = (d, false) := by rw [hrw, if_pos hb]
      rw [hmm]
      have HFL := Lib.hid (iflip_no p g _ _ bit w (h.fi n p g hat) hb h64)
      have HH := Lib.hid h
      have HL := Lib.hid hL
      clear h hL hk hmm hlk hat ev hfk hnl hfm hln hpr hfl hrw hb
      go_enter Tryz.func35, Tryz.ntmps35
      go_wp2_with (first
        | (go_at_call 42; refine HFI.out.mono ?_; rintro e w2 ⟨rfl, rfl⟩)
        | (go_at_call 70; refine HFL.out.mono ?_; rintro e w3 ⟨rfl, rfl⟩))
      go_ret
      exact did_mk (HH.out.same (Fr.refl _ _)) HL.out
    · have hmm : flipK d m bit = ({ d with files := d.files.set n ⟨flipC (fileN d n).now bit, (flipC (fileN d n).now bit).take (fileN d n).safe.length⟩ }, true) := by rw [hrw, if_neg hb]
      rw [hmm]
      have hfl2 := iflip_any p g _ _ bit w (h.fi n p g hat) (by omega) h64
      have hin : inB (fileN d n).now.length bit = true := decide_eq_true (by omega)
      rw [hin] at hfl2
      have HFL := Lib.hid hfl2
      have hsl : ((flipC (fileN d n).now bit).take (fileN d n).safe.length).length = (fileN d n).safe.length := by
        rw [List.length_take, flipC_length]
        have := congrArg List.length hpr
        rw [List.length_take] at this
        omega
      have HSL := Lib.hid hsl
      have HH := Lib.hid h
      have HL := Lib.hid hL
      have HAT := Lib.hid hat
      clear h hL hk hmm hlk hat ev hfk hnl hfm hln hpr hfl hrw hb hsl hin hfl2
      go_enter Tryz.func35, Tryz.ntmps35
      go_wp2_with (first
        | (go_at_call 42; refine HFI.out.mono ?_; rintro e w2 ⟨rfl, rfl⟩)
        | (go_at_call 70; refine HFL.out.mono ?_; rintro e w3 ⟨rfl, hF, hf3⟩))
      go_ret
      rw [← HSL.out] at hF
      obtain ⟨L2, k1, k2, k3, hw2⟩ := HH.out.file HAT.out ⟨flipC (fileN d n).now bit, (flipC (fileN d n).now bit).take (fileN d n).safe.length⟩ hF (hf3.mono (by simp)) (.inl rfl)
      exact did_mk hw2 (HL.out.put _ (atFs_lt HAT.out) k1 k2 k3)
theorem parm_any {w : World} {px pm : Nat} {d : DskD} {B : List Nat} {k : Nat} (fv : Value) (a i : Int) (hp : PK w px pm d B) (hk : AllOk d k) (hk4 : k ≤ 400) (hfv : faultsAt w fv [⟨a, i⟩]) (hfb : ∀ j, fv.ownBlock = some j → j ∉ B) :
    Calls Tryz.prog 33 #[.pointer (some ⟨pm, 0, none⟩), fv] w fun e w' => ∃ c : Int, DidK PK px pm (armK d a i) (.int .i64 c) B w e w' := by
  obtain ⟨L, h, hL, rfl⟩ := hp
  have hst := hk.ok.st
  have hle := liveF_le d.armed d.steps
  have hal := hk.al
  refine (arm_any pm L.Bm d.steps d.down (liveF d.armed d.steps) [⟨a, i⟩] fv w h.mt hfv ⟨hk.ok.st0, by omega⟩ (by simp only [List.length_singleton]; omega) (fun j hj _ hm => hfb j hj (Lay.blocks_iff.2 (.inr (.inr (.inl hm)))))).mono ?_
  rintro e w' ⟨rfl, ht⟩
  obtain ⟨L2, k1, k2, k3, hw⟩ := h.meter ht (d.armed ++ armF [⟨a, i⟩] d.steps) (liveF_arm _ _ _).symm
  have hm : armK d a i = { d with armed := d.armed ++ armF [⟨a, i⟩] d.steps } := by
    unfold armK armF
    by_cases hc : 1 ≤ a ∧ a ≤ 1099511627776 ∧ 1 ≤ i ∧ i ≤ 3
    · rw [if_pos hc, List.filter_cons_of_pos ((mayF_iff _).2 ⟨hc.2.2.1, hc.2.2.2, hc.1, hc.2.1⟩)]; rfl
    · rw [if_neg hc, List.filter_cons_of_neg (fun q => hc (by obtain ⟨q1, q2, q3, q4⟩ := (mayF_iff _).1 q; exact ⟨q3, q4, q1, q2⟩))]
      simp
  rw [hm]
  exact ⟨_, did_mk hw (hL.same k1 k2 k3 rfl rfl rfl rfl rfl)⟩
theorem pfall_any {w : World} {px pm : Nat} {d : DskD} {B : List Nat} (hp : PK w px pm d B) :
    Calls Tryz.prog 34 #[.pointer (some ⟨pm, 0, none⟩)] w (DidK PK px pm { d with down := true } (.tuple #[]) B w) := by
  obtain ⟨L, h, hL, rfl⟩ := hp
  refine (mfall_any pm L.Bm d.steps d.down (liveF d.armed d.steps) w h.mt).mono ?_
  rintro e w' ⟨rfl, ht⟩
  obtain ⟨L2, k1, k2, k3, hw⟩ := h.meter ht d.armed rfl
  exact did_mk hw (hL.same k1 k2 k3 rfl rfl rfl rfl rfl)
set_option maxRecDepth 100000 in
theorem pnames_any {w : World} {px pm : Nat} {d : DskD} {B : List Nat} {k : Nat} (hp : PK w px pm d B) (hk : AllOk d k) (hk4 : k ≤ 400) :
    Calls Tryz.prog 18 #[.pointer (some ⟨px, 0, none⟩)] w fun e w' => ∃ a c, e = .returned (.slice a (if d.down then [] else d.dn.map (·.1)).length c) ∧ cellsAt w' (.slice a (if d.down then [] else d.dn.map (·.1)).length c) ((if d.down then [] else d.dn.map (·.1)).map encStr) ∧ Fr [] w w' := by
  obtain ⟨L, h, hL, rfl⟩ := hp
  obtain ⟨c0, c1, c2, c3, c4, f2, f3⟩ := h.cells
  have hdo := mdown_any pm L.Bm _ _ _ w h.mt
  have hmd := hL.md
  have hst := hk.ok.st
  cases hdn : d.down with
  | true =>
    rw [hdn] at hdo
    have HDO := Lib.hid hdo
    clear h hL hk hdo hdn hmd hst
    go_enter Tryz.func18, Tryz.ntmps18
    go_wp2_with (go_at_call 36; refine HDO.out.mono ?_; rintro e w1 ⟨rfl, rfl⟩)
    go_ret
    exact ⟨none, 0, rfl, cellsAt.nil _, Fr.refl _ _⟩
  | false =>
    rw [hdn] at hdo
    have HDO := Lib.hid hdo
    have HLI := Lib.hid (plisted_any h hk.ok.sn (by omega))
    clear h hL hk hdo hdn hmd hst
    go_enter Tryz.func18, Tryz.ntmps18
    go_wp2_with (first
      | (go_at_call 36; refine HDO.out.mono ?_; rintro e w1 ⟨rfl, rfl⟩)
      | (go_at_call 46; refine HLI.out.mono ?_; rintro e w2 ⟨v, rfl, hv, hf2⟩))
    go_ret
    obtain ⟨a0, cc0, rfl, hlc, hmc⟩ := names_slice hv
    refine ⟨a0, cc0, ?_, ?_, hf2⟩
    · simp
    · have := cellsAt_of_owns (cs := (d.dn.map (·.1)).map encStr) (by simpa using hv)
      simpa using this
end Go.Proofs.YtmchnaojlnjmjaaGreat

/-! The program's disk (layer 11): Up. Written by wip/tools/gen_pj.py. -/
namespace Go.Proofs.YtmchnaojlnjmjaaGreat
open Go.RowKit Go.Maps

/-- In Up's loop. -/
def PUpRel (px pm : Nat) (Lc : Lay) (d : DskD) (C : List Ent) (sizes cuts0 : List Int) (M : Nat) (w4 : World) (s4 s22 : Value) (wx : World) : Prop :=
  ∃ (i : Nat) (fs : List FileD) (cuts : List Int) (Lx : Lay), i ≤ C.length ∧ s22 = .int .i64 (i : Int) ∧ cellsAt wx s4 (cuts.map (Value.int .i64)) ∧ (∀ j, s4.ownBlock = some j → cuts ≠ [] → j ∉ Lc.blocks px ∧ j < w4.heap.size) ∧ cuts.length ≤ 60 ∧ Went px pm Lc Lx { d with files := fs } w4 wx ∧
    fs.length = d.files.length ∧ FsOk fs M ∧ upL sizes (C.drop i) i fs cuts = upL sizes C 0 d.files cuts0 ∧ (∀ n, (atFs Lc.fs n).isSome → (atFs Lx.fs n).isSome) ∧ Lx.mD = Lc.mD
set_option maxRecDepth 100000 in
set_option maxHeartbeats 4000000 in
theorem pup_any {w : World} {px pm : Nat} {d : DskD} {B : List Nat} {k : Nat} (ks : List Bool) (sizes cuts : List Int) (kv zv cv : Value) (hp : PK w px pm d B) (hk : AllOk d k) (hk4 : k ≤ 400) (hkl : ks.length ≤ 60) (hzl : sizes.length ≤ 20) (hcl : cuts.length ≤ 60) (hkv : cellsAt w kv (ks.map Value.bool)) (hzv : cellsAt w zv (sizes.map (Value.int .i64))) (hcv : cellsAt w cv (cuts.map (Value.int .i64)))
    (hoff : ∀ j, (kv.ownBlock = some j ∧ ks ≠ []) ∨ (zv.ownBlock = some j ∧ sizes ≠ []) ∨ (cv.ownBlock = some j ∧ cuts ≠ []) → j ∉ B) :
    Calls Tryz.prog 17 #[.pointer (some ⟨px, 0, none⟩), .agg #[kv, zv, cv]] w (DidK PK px pm (upK d ks sizes cuts) (.tuple #[]) B w) := by
  obtain ⟨L, h, hL, rfl⟩ := hp
  have hkb := fun (hne : ks ≠ []) => hkv.lt (by simpa using hne)
  have hzb := fun (hne : sizes ≠ []) => hzv.lt (by simpa using hne)
  have hcb := fun (hne : cuts ≠ []) => hcv.lt (by simpa using hne)
  obtain ⟨ak, ck, rfl, hk2, hkm⟩ := hkv.form
  obtain ⟨az, cz, rfl, hz2, hzm⟩ := hzv.form
  obtain ⟨ac, cc, rfl, hc2, hcm⟩ := hcv.form
  rw [List.length_map] at hkv hzv hcv hk2 hz2 hc2 hoff hkb hzb hcb ⊢
  rw [List.length_map, List.length_map]
  rw [List.length_map, List.length_map] at hoff
  have hk63 : ck ≤ 9223372036854775807 := by simpa [maxLen] using hkm
  have hz63 : cz ≤ 9223372036854775807 := by simpa [maxLen] using hzm
  have hc63 : cc ≤ 9223372036854775807 := by simpa [maxLen] using hcm
  have hst := hk.ok.st
  have hmd6 : L.mD ≤ 1000000 := by have := hL.md; omega
  have hsC := sorted_crash d.ds d.ops ks hk.ok.ss
  have hlC := crashK_le d.ds d.ops ks
  have hlC4 : (crashL d.ds d.ops ks).length ≤ 400 := by have := hk.ok.sl; omega
  have hlCs : (((crashL d.ds d.ops ks).length : Nat) : Int) ≤ d.steps := by have := hL.sl; omega
  have hnC := nums_crash (fun n => 0 ≤ n ∧ n.toNat < d.files.length) d.ds d.ops ks hk.ok.ss hk.ok.snums hk.ok.onums
  have hrC := nums_crash (fun n => (atFs L.fs n.toNat).isSome) d.ds d.ops ks hk.ok.ss (fun e he => hL.re e.2 (.inr (.inl ⟨e, he, rfl⟩))) (fun o ho h0 => hL.re o.n (.inr (.inr ⟨o, ho, h0, rfl⟩)))
  have hokC : okNames (crashL d.ds d.ops ks) := names_crash (fun x => x.length ≤ maxLen) d.ds d.ops ks hk.ok.ss hk.oks hk.oko
  have hm : upK d ks sizes cuts = { d with dn := crashL d.ds d.ops ks, ds := crashL d.ds d.ops ks, ops := [], files := upL sizes (crashL d.ds d.ops ks) 0 d.files cuts, down := false, armed := [] } := rfl
  rw [hm]
  have hfa := Fr.alloc w (.cells #[.slice ak ks.length ck, .slice az sizes.length cz, .slice ac cuts.length cc] 55)
  have hba := heap_alloc_new w (.cells #[.slice ak ks.length ck, .slice az sizes.length cz, .slice ac cuts.length cc] 55)
  have hsz := World.size_alloc w (.cells #[.slice ak ks.length ck, .slice az sizes.length cz, .slice ac cuts.length cc] 55)
  have hxl := h.lt
  have hcr := fun wx (hx : Fr [] w wx) => dcrash_any L.pd L.mD L.Bd d.dn d.ds d.ops ks (.slice ak ks.length ck) wx (h.below hx).dr (hkv.below hx) (by omega) hmd6
  obtain ⟨C, hC⟩ : ∃ C, C = crashL d.ds d.ops ks := ⟨_, rfl⟩
  rw [← hC] at hsC hlC4 hlCs hnC hrC hokC hcr ⊢
  obtain ⟨w0, hw0⟩ : ∃ w0, w0 = w.alloc (.cells #[.slice ak ks.length ck, .slice az sizes.length cz, .slice ac cuts.length cc] 55) := ⟨_, rfl⟩
  obtain ⟨x0, hx0⟩ : ∃ x0, x0 = w.heap.size := ⟨_, rfl⟩
  rw [← hw0] at hfa hba hsz
  rw [← hx0] at hba hxl hsz hkb hzb hcb
  have HFL := Lib.hid hk.ok.fl
  have HFO := Lib.hid (show FsOk d.files (1000 * k) from ⟨hk.ok.pre, hk.ok.len⟩)
  have HK := Lib.hid hk
  have HH := Lib.hid h
  have HL := Lib.hid hL
  have HSC := Lib.hid hsC
  have HLS := Lib.hid hlCs
  have HNC := Lib.hid hnC
  have HRC := Lib.hid hrC
  have HOC := Lib.hid hokC
  have HCRD := Lib.hid hcr
  have HFA := Lib.hid hfa
  have HBA := Lib.hid hba
  have HXL := Lib.hid hxl
  have HZV := Lib.hid hzv
  have HCV := Lib.hid hcv
  have HZB := Lib.hid hzb
  have HCB := Lib.hid hcb
  have HOF := Lib.hid hoff
  have HW0 := Lib.hid hw0
  have HX0 := Lib.hid hx0
  clear h hL hk hkv hzv hcv hkb hzb hcb hoff hst hsC hlC hlCs hnC hrC hokC hm hfa hba hxl hcr hC hw0 hx0 hkm hzm hcm
  obtain ⟨c0, c1, c2, c3, c4, f2, f3⟩ := (HH.out.below HFA.out).cells
  go_enter Tryz.func17, Tryz.ntmps17
  go_upto_region 1 with fail
  rw [← HW0.out, ← HX0.out]
  go_upto_region 2 with fail
  refine wp_region_Y [] 6 [(0, false), (1, false), (2, false), (3, false), (4, false), (5, false), (6, true)] 53 rfl (by kernel_rfl) (by kernel_rfl) (by kernel_rfl) (fun c a d v w h => by cases d <;> exact h) (fun wd hfd => ?_)
  simp only [List.map_cons, List.map_nil, List.getElem?_toArray, List.getElem?_cons_succ, List.getElem?_cons_zero, Option.getD_some]
  have HFD := Lib.hid (HFA.out.trans hfd (by simp) (n := []) (by simp))
  have HBD := Lib.hid (hfd.heap HBA.out (by simp))
  have HSD := Lib.hid hfd.size
  clear hfd c0 c1 c2 c3 c4 f2 f3
  have HPD := Lib.hid (HH.out.below HFD.out)
  repeat (apply walkZ_t; · (intro w' hf'; obtain ⟨c0, c1, c2, c3, c4, f2, f3⟩ := (HPD.out.below hf').cells; obtain ⟨y0, y1, y2, -, -, -⟩ := three_of_heap (hf'.heap HBD.out (by simp)); go_wp2_with fail; exact ⟨rfl, rfl⟩))
  refine walkZ_x ?_
  go_wp2_with (go_at_call 52; refine (HCRD.out _ HFD.out).mono ?_; rintro e w3 ⟨rfl, ht⟩)
  refine ⟨by simp, rfl, ?_⟩
  refine walkZ_end ?_
  obtain ⟨Lc, g1, g2, g3, hw3⟩ := HPD.out.dir ht
  clear ht
  have hxD : x0 < wd.heap.size := by have := HSD.out; omega
  have hb3 := hw3.fr.heap HBD.out (fun hm => by have := HXL.out _ hm; omega)
  have hxc : x0 ∉ Lc.blocks px := fun hm => (hw3.new _ hm).elim (fun q => by have := HXL.out _ q; omega) (fun q => by omega)
  have hzc : ∀ j, (Value.slice az sizes.length cz).ownBlock = some j → sizes ≠ [] → j ∉ Lc.blocks px := fun j hj hne hm => (hw3.new _ hm).elim (HOF.out j (.inr (.inl ⟨hj, hne⟩))) (fun q => by have := HZB.out hne j hj; omega)
  have hcc : ∀ j, (Value.slice ac cuts.length cc).ownBlock = some j → cuts ≠ [] → j ∉ Lc.blocks px ∧ j < w3.heap.size := fun j hj hne => ⟨fun hm => (hw3.new _ hm).elim (HOF.out j (.inr (.inr ⟨hj, hne⟩))) (fun q => by have := HCB.out hne j hj; omega), by have := HCB.out hne j hj; have := hw3.fr.size; omega⟩
  have hz3 := (HZV.out.below HFD.out).kept hw3.fr (fun j hj hne _ => HOF.out j (.inr (.inl ⟨hj, by simpa using hne⟩)))
  have hc3 := (HCV.out.below HFD.out).kept hw3.fr (fun j hj hne _ => HOF.out j (.inr (.inr ⟨hj, by simpa using hne⟩)))
  have HW3 := Lib.hid (hw3.before HFD.out)
  have HP3 := Lib.hid hw3.pk
  have HB3 := Lib.hid hb3
  have HXC := Lib.hid hxc
  have HZC := Lib.hid hzc
  have HCC := Lib.hid hcc
  have HZ3 := Lib.hid hz3
  have HC3 := Lib.hid hc3
  obtain ⟨y0, y1, y2, -, -, -⟩ := three_of_heap hb3
  clear hw3 hb3 hxc hzc hcc hz3 hc3
  have hmdC : Lc.mD ≤ 1000000 := by omega
  have HLI := Lib.hid (show Calls Tryz.prog 46 #[.pointer (some ⟨px, 0, none⟩)] w3 (Namesd C w3) from plisted_any (d := { d with dn := C, ds := C, ops := [] }) (L := Lc) HP3.out HSC.out hmdC)
  go_wp2_with (go_at_call 46; refine HLI.out.mono ?_; rintro e w4 ⟨v, rfl, hv, hf4⟩; obtain ⟨a0, cn0, rfl, hlc, hmc⟩ := names_slice hv)
  have HF4 := Lib.hid hf4
  have HP4 := Lib.hid (HP3.out.below hf4)
  have HB4 := Lib.hid (hf4.heap HB3.out (by simp))
  have HZ4 := Lib.hid (HZ3.out.below hf4)
  have HV := Lib.hid hv
  have HXL3 := Lib.hid HP3.out.lt
  clear y0 y1 y2 hv hf4
  go_loopw [4, 22] (PUpRel px pm Lc { d with dn := C, ds := C, ops := [] } C sizes cuts (1000 * k) w4) (fun _ iv _ => C.length - (intOf iv).toNat)
  case atStart => exact ⟨0, d.files, cuts, Lc, Nat.zero_le _, rfl, HC3.out.below HF4.out, fun j hj hne => ⟨(HCC.out j hj hne).1, Nat.lt_of_lt_of_le (HCC.out j hj hne).2 HF4.out.size⟩, hcl, HP4.out.same (Fr.refl _ _), rfl, HFO.out, rfl, fun _ q => q, rfl⟩
  case round =>
    obtain ⟨i, fs, cs, Lx, hi, rfl, hcut, hcob, hcsl, hW, hfs, hfo, hup, hat, hmx⟩ := hrel
    have HW := Lib.hid hW
    have HFS := Lib.hid hfs
    have HFO2 := Lib.hid hfo
    have HUP := Lib.hid hup
    have HAT := Lib.hid hat
    have HMX := Lib.hid hmx
    by_cases hin : i < C.length
    · have hd2 : decide (i < C.length) = true := decide_eq_true hin
      obtain ⟨ax, cx, rfl, hlcx, hmcx⟩ := hcut.form
      rw [List.length_map] at hcut hlcx hcob ⊢
      have hx63 : cx ≤ 9223372036854775807 := by simpa [maxLen] using hmcx
      have hvr := owns_kept HV.out hW.fr (fun j hj hm => by
        have h1 := (HV.out.lt j hj).1
        have h2 := HXL3.out j hm
        omega)
      obtain ⟨bb, off, rfl, hcn⟩ := names_at hvr (Fr.refl [] wr) i hin
      have hlk := look_mem HSC.out _ (List.getElem_mem hin)
      obtain ⟨hn0, hn1⟩ := HNC.out _ (List.getElem_mem hin)
      have hat1 := HAT.out _ (show (atFs Lc.fs (C[i]'hin).2.toNat).isSome by rw [g1]; exact HRC.out _ (List.getElem_mem hin))
      obtain ⟨⟨p, g⟩, hpg⟩ := Option.isSome_iff_exists.1 hat1
      obtain ⟨n, hn⟩ : ∃ n : Nat, (C[i]'hin).2 = (n : Int) := ⟨(C[i]'hin).2.toNat, by omega⟩
      rw [hn, Int.toNat_natCast] at hn1 hpg
      have hlk2 : lookL C (C[i]'hin).1 = some (n : Int) := by rw [← hn]; exact hlk
      have hnf : n < fs.length := by rw [hfs]; exact hn1
      have hfl := HFL.out
      obtain ⟨f, hfe⟩ : ∃ f, f = fs[n]'hnf := ⟨_, rfl⟩
      have hfN : fileN { ({ d with dn := C, ds := C, ops := [] } : DskD) with files := fs } n = f := by unfold fileN; simp only [List.getD, List.getElem?_eq_getElem hnf, Option.getD_some]; exact hfe.symm
      have hFi := hW.pk.fi n p g hpg
      rw [hfN] at hFi
      have hust := upL_step sizes C i hin fs cs f n hn hnf hfe
      have hfp := hfo.pre f (by rw [hfe]; exact List.getElem_mem hnf)
      have hfl2 := hfo.len f (by rw [hfe]; exact List.getElem_mem hnf)
      have hsl : f.safe.length ≤ f.now.length := by have := congrArg List.length hfp; simp at this; omega
      obtain ⟨sz, hsz⟩ : ∃ sz, sz = sizes.getD i 0 := ⟨_, rfl⟩
      rw [← hsz] at hust
      have hpn : ∀ j, (Value.slice ax cs.length cx).ownBlock = some j → cs ≠ [] → j ≠ p ∧ j ≠ g := fun j hj hne => by
        obtain ⟨q1, q2⟩ := hcob j hj hne
        refine ⟨fun e => ?_, fun e => ?_⟩
        · exact (hW.new j (Lay.blocks_iff.2 (.inr (.inr (.inr (.inr ⟨n, p, g, hpg, .inl e⟩)))))).elim q1 (fun q => by omega)
        · exact (hW.new j (Lay.blocks_iff.2 (.inr (.inr (.inr (.inr ⟨n, p, g, hpg, .inr e⟩)))))).elim q1 (fun q => by omega)
      have hcr := icrash_any p g f.safe.length f.now sz cs _ wr hFi hcut (by omega) (by omega) (fun hne j hj => hpn j hj hne)
      have hll := crashC_length f.now f.safe.length sz cs hsl
      have hllu : (crashC f.now f.safe.length sz cs).length ≤ f.now.length := by rw [hll]; unfold sizeC; omega
      rw [← hll] at hcr
      obtain ⟨lf, hlf⟩ : ∃ lf, lf = crashC f.now f.safe.length sz cs := ⟨_, rfl⟩
      rw [← hlf] at hust hcr hllu
      obtain ⟨K, hK⟩ : ∃ K, K = min (secsC lf.length f.safe.length) cs.length := ⟨_, rfl⟩
      rw [← hK] at hust hcr
      have hKl : K ≤ cs.length := by omega
      have HCR := Lib.hid hcr
      have HFI := Lib.hid (pfile_some hW.pk _ (HOC.out _ (List.getElem_mem hin)) n hlk2 hpg (by omega))
      have hbx := hW.fr.heap HB4.out HXC.out
      obtain ⟨y0, y1, y2, -, -, -⟩ := three_of_heap hbx
      have hzr := HZ4.out.kept hW.fr (fun j hj hne _ => HZC.out j hj (by simpa using hne))
      have HCOB := Lib.hid hcob
      have HCW := Lib.hid (fun w6 (hf6 : Fr [p, g] wr w6) => hcut.kept hf6 (fun j hj hne _ hm => by
        obtain ⟨q1, q2⟩ := hpn j hj (by simpa using hne)
        simp only [List.mem_cons, List.not_mem_nil, or_false] at hm
        exact hm.elim q1 q2))
      have hnext : ∀ (w6 : World) (_ : isF w6 p g lf lf.length) (_ : Fr [p, g] wr w6) (s4 : Value) (_ : cellsAt w6 s4 ((cs.drop K).map (Value.int .i64))) (_ : ∀ j, s4.ownBlock = some j → cs.drop K ≠ [] → j ∉ Lc.blocks px ∧ j < w4.heap.size), PUpRel px pm Lc { d with dn := C, ds := C, ops := [] } C sizes cuts (1000 * k) w4 s4 (.int .i64 ((i : Int) + 1)) w6 := fun w6 hF6 hf6 s4 h1 h2 => by
        obtain ⟨Ly, m1, m2, m3, hwy⟩ := hW.pk.file hpg ⟨lf, lf⟩ hF6 hf6 (.inl rfl)
        refine ⟨i + 1, fs.set n ⟨lf, lf⟩, cs.drop K, Ly, by omega, by simp, h1, h2, by rw [List.length_drop]; omega, hW.trans hwy, by rw [List.length_set]; exact hfs, hfo.set (by omega), by rw [← hust]; exact hup, fun a ha => ?_, by rw [m2]; exact hmx⟩
        rw [m1, atFs_set _ _ _ _ (atFs_lt hpg)]
        split
        · rfl
        · exact hat a ha
      have HNEXT := Lib.hid hnext
      obtain ⟨nm, hnme⟩ : ∃ nm, nm = (C[i]'hin).1 := ⟨_, rfl⟩
      rw [← hnme] at hcn HFI
      have hi63 : (i : Int) + 1 ≤ 9223372036854775807 := by omega
      clear hW hfs hfo hup hat hmx hcut hcob hvr hlk hn0 hat1 hn hlk2 hfe hfN hFi hust hfp hfl2 hsl hpn hcr hll hlf hK hbx hnext hnme hnf hn1 hpg hllu
      by_cases hz : i < sizes.length
      · have hd3 : decide (i < sizes.length) = true := decide_eq_true hz
        obtain ⟨bz, offz, rfl, -, hzc⟩ := hzr.get (i := i) (by rw [List.length_map]; exact hz)
        have hzi := hzc i (by rw [List.length_map]; exact hz)
        rw [List.getElem_map] at hzi
        have hse : sizes[i]'hz = sz := by rw [hsz]; simp only [List.getD, List.getElem?_eq_getElem hz, Option.getD_some]
        rw [hse] at hzi
        clear hzc hse hsz hzr
        by_cases hcap : cx = K
        · subst hcap
          go_wp2_with (first
            | (go_at_call 42; refine HFI.out.mono ?_; rintro e w5 ⟨rfl, rfl⟩)
            | (go_at_call 53; refine HCR.out.mono ?_; rintro e w6 ⟨rfl, hF6, hf6⟩))
          have hrest : cellsAt w6 (.slice ax 0 0) ((cs.drop cx).map (Value.int .i64)) := .inl ⟨ax, 0, rfl, by simp, by rw [List.map_eq_nil_iff, List.drop_eq_nil_iff]; omega⟩
          exact ⟨HNEXT.out w6 hF6 hf6 _ hrest (fun j hj hne => absurd (List.drop_eq_nil_iff.2 (by omega)) hne), by simp [intOf]; omega⟩
        · have HCAP := Lib.hid hcap
          go_wp2_with (first
            | (go_at_call 42; refine HFI.out.mono ?_; rintro e w5 ⟨rfl, rfl⟩)
            | (go_at_call 53; refine HCR.out.mono ?_; rintro e w6 ⟨rfl, hF6, hf6⟩))
          have hc6 := HCW.out w6 hf6
          have hc7 : cellsAt w6 (.slice ax (cs.map (Value.int .i64)).length cx) (cs.map (Value.int .i64)) := by rw [List.length_map]; exact hc6
          have hrest := hc7.rest (n := K) (by rw [List.length_map]; omega)
          rw [if_neg HCAP.out, List.length_map, ← List.map_drop] at hrest
          exact ⟨HNEXT.out w6 hF6 hf6 _ hrest (fun j hj hne => HCOB.out j (by rw [← ownBlock_map (n := K) (l := cs.length - K) (c := cx - K) (l' := cs.length) (c' := cx)]; exact hj) (fun e => by rw [e] at hne; simp at hne)), by simp [intOf]; omega⟩
      · have hd3 : decide (i < sizes.length) = false := decide_eq_false hz
        have hse : sz = 0 := by rw [hsz]; simp only [List.getD, List.getElem?_eq_none (Nat.le_of_not_lt hz), Option.getD_none]
        rw [hse] at HCR
        clear hse hsz hzr
        by_cases hcap : cx = K
        · subst hcap
          go_wp2_with (first
            | (go_at_call 42; refine HFI.out.mono ?_; rintro e w5 ⟨rfl, rfl⟩)
            | (go_at_call 53; refine HCR.out.mono ?_; rintro e w6 ⟨rfl, hF6, hf6⟩))
          have hrest : cellsAt w6 (.slice ax 0 0) ((cs.drop cx).map (Value.int .i64)) := .inl ⟨ax, 0, rfl, by simp, by rw [List.map_eq_nil_iff, List.drop_eq_nil_iff]; omega⟩
          exact ⟨HNEXT.out w6 hF6 hf6 _ hrest (fun j hj hne => absurd (List.drop_eq_nil_iff.2 (by omega)) hne), by simp [intOf]; omega⟩
        · have HCAP := Lib.hid hcap
          go_wp2_with (first
            | (go_at_call 42; refine HFI.out.mono ?_; rintro e w5 ⟨rfl, rfl⟩)
            | (go_at_call 53; refine HCR.out.mono ?_; rintro e w6 ⟨rfl, hF6, hf6⟩))
          have hc6 := HCW.out w6 hf6
          have hc7 : cellsAt w6 (.slice ax (cs.map (Value.int .i64)).length cx) (cs.map (Value.int .i64)) := by rw [List.length_map]; exact hc6
          have hrest := hc7.rest (n := K) (by rw [List.length_map]; omega)
          rw [if_neg HCAP.out, List.length_map, ← List.map_drop] at hrest
          exact ⟨HNEXT.out w6 hF6 hf6 _ hrest (fun j hj hne => HCOB.out j (by rw [← ownBlock_map (n := K) (l := cs.length - K) (c := cx - K) (l' := cs.length) (c' := cx)]; exact hj) (fun e => by rw [e] at hne; simp at hne)), by simp [intOf]; omega⟩
    · have hd2 : decide (i < C.length) = false := decide_eq_false hin
      obtain rfl : i = C.length := by omega
      rw [List.drop_length] at hup
      have hup2 : fs = upL sizes C 0 d.files cuts := hup
      have hmdx : Lx.mD ≤ 1000000 := by omega
      have hre2 : ∀ e ∈ C, 0 ≤ e.2 ∧ e.2.toNat < fs.length ∧ (atFs Lx.fs e.2.toNat).isSome := fun e he => ⟨(HNC.out e he).1, by rw [hfs]; exact (HNC.out e he).2, hat _ (by rw [g1]; exact HRC.out e he)⟩
      have hfl := HFL.out
      have HFG := Lib.hid (pforget_any hW.pk HSC.out hmdx (show C.length ≤ 1000000 by omega) HOC.out (show fs.length ≤ 1000000 by rw [hfs]; show d.files.length ≤ 1000000; omega) hre2)
      have HRE := Lib.hid hre2
      have HUP2 := Lib.hid hup2
      clear hW hfs hfo hup hat hmx hcut hcob hup2 hre2 hfl
      go_wp2_with (first
        | (go_at_call 54; refine HFG.out.mono ?_; rintro e w5 ⟨L5, rfl, k1, k2, k3, hw5⟩; obtain ⟨c0, c1, c2, c3, c4, f2, f3⟩ := hw5.pk.cells; have HRI := Lib.hid (mrise_any pm L5.Bm _ _ _ w5 hw5.pk.mt))
        | (go_at_call 55; refine HRI.out.mono ?_; rintro e w6 ⟨rfl, ht⟩))
      go_end0
      obtain ⟨L6, m1, m2, m3, hw6⟩ := hw5.pk.meter ht [] rfl
      rw [← HUP2.out]
      refine did_mk ((((HW3.out.after HF4.out).trans HW.out).trans hw5).trans hw6) (LayOk.same (forgot_ok (L := Lx) (L' := L5) (d := { d with dn := C, ds := C, ops := [], files := fs }) rfl rfl (fun e he => ⟨(HRE.out e he).1, (HRE.out e he).2.2⟩) k1 ?_ k3 HLS.out HL.out.rm) m1 m2 m3 rfl rfl rfl rfl rfl)
      show (L5.mD : Int) ≤ d.steps
      rw [k2, HMX.out, g2]
      exact HL.out.md
end Go.Proofs.YtmchnaojlnjmjaaGreat
