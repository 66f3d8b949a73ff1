/- The program's disk (layer 11): Create. Written by wip/tools/gen_pg.py. -/
import Derived.Test.YtmchnaojlnjmjaaDskPf
import Derived.Test.YtmchnaojlnjmjaaBs
namespace Go.Proofs.Ytmchnaojlnjmjaa
open Go.RowKit Go.Maps

set_option maxRecDepth 100000 in
set_option maxHeartbeats 2000000 in
theorem pcreate_any {w : World} {px pm : Nat} {d : DskD} {B : List Nat} {k : Nat} (m : List UInt8) (hp : PK w px pm d B) (hk : AllOk d k) (hk4 : k ≤ 400) (hm : m.length ≤ maxLen) :
    Calls Try.prog 10 #[.pointer (some ⟨px, 0, none⟩), encStr m] w (DidK PK px pm (createK d m).1 (.int .i64 (createK d m).2) B w) := by
  obtain ⟨L, h, hL, rfl⟩ := hp
  have hst := pstep_any h hL hk hk4
  have HK := Lib.hid hk
  have HL := Lib.hid hL
  have his := fun wx => pisname_any m hm wx
  unfold Stepd at hst
  by_cases hc : codeK d = 0
  · rw [hc] at hst
    have HST := Lib.hid hst
    have HC := Lib.hid hc
    cases hr : rightB m with
    | false =>
      have hmm : createK d m = (stepK d, 1) := by unfold createK; rw [if_neg (by simp [hc]), if_pos hr]
      rw [hmm]
      rw [hr] at his
      have HIS := Lib.hid his
      clear h hL hk hc hst hmm hr his
      go_enter Try.func10, Try.ntmps10
      go_wp2_with (first
        | (go_at_call 24; refine HST.out.mono ?_; rintro e w1 ⟨L1, rfl, hw1, hL1, e1, e2, e3⟩)
        | (go_at_call 6; refine (HIS.out _).mono ?_; rintro e w2 ⟨rfl, hf2⟩; have hp2 := hw1.pk.below hf2))
      go_ret
      exact did_mk (hw1.after hf2) hL1
    | true =>
      rw [hr] at his
      have HIS := Lib.hid his
      cases hlk : lookL d.dn m with
      | some v =>
        have hmm : createK d m = (stepK d, 8) := by unfold createK; rw [if_neg (by simp [hc]), if_neg (by simp [hr]), if_pos (by simp [hlk])]
        rw [hmm]
        obtain ⟨n, p, g, ev, hat, hnl, hfk⟩ := hL.found h hk hlk
        rw [ev] at hlk
        have HLK := Lib.hid hlk
        have HAT := Lib.hid hat
        have hfl := hk.ok.fl
        have hn6 : n ≤ 1000000 := by omega
        clear h hL hk hc hst hmm hlk hat ev hfk hnl hfl hr his
        go_enter Try.func10, Try.ntmps10
        go_wp2_with (first
          | (go_at_call 24; refine HST.out.mono ?_; rintro e w1 ⟨L1, rfl, hw1, hL1, e1, e2, e3⟩)
          | (go_at_call 6; refine (HIS.out _).mono ?_; rintro e w2 ⟨rfl, hf2⟩; have hp2 := hw1.pk.below hf2)
          | (go_at_call 25; refine (pfile_some hp2 m hm n HLK.out (show atFs L1.fs n = some (p, g) by rw [e1]; exact HAT.out) hn6).mono ?_; rintro e w3 ⟨rfl, rfl⟩))
        go_ret
        exact did_mk (hw1.after hf2) hL1
      | none =>
        have HLK := Lib.hid hlk
        by_cases hfull : 256 ≤ d.dn.length
        · have hmm : createK d m = (stepK d, 9) := by unfold createK; rw [if_neg (by simp [hc]), if_neg (by simp [hr]), if_neg (by simp [hlk]), if_pos hfull]
          rw [hmm]
          have hdf : decide (256 ≤ (d.dn.length : Int)) = true := decide_eq_true (by omega)
          clear h hL hk hc hst hmm hlk hr his hfull
          go_enter Try.func10, Try.ntmps10
          go_wp2_with (first
            | (go_at_call 24; refine HST.out.mono ?_; rintro e w1 ⟨L1, rfl, hw1, hL1, e1, e2, e3⟩)
            | (go_at_call 6; refine (HIS.out _).mono ?_; rintro e w2 ⟨rfl, hf2⟩; have hp2 := hw1.pk.below hf2)
            | (go_at_call 25; refine (pfile_none hp2 m hm HLK.out).mono ?_; rintro e w3 ⟨rfl, rfl⟩)
            | (go_at_call 26; refine (show Calls Try.prog 26 #[.pointer (some ⟨px, 0, none⟩)] _ (Namesd d.dn _) from plisted_any (d := stepK d) (L := L1) hp2 HK.out.ok.sn (by have := hL1.md; have := HK.out.step.ok.st; omega)).mono ?_; rintro e w4 ⟨v, rfl, hv, hf4⟩; obtain ⟨a0, cc0, rfl, hlc, hmc⟩ := names_slice hv))
          go_ret
          exact did_mk ((hw1.after hf2).after hf4) hL1
        · have hmm : createK d m = ({ stepK d with dn := applyL d.dn ⟨0, m, [], d.files.length⟩, ops := d.ops ++ [⟨0, m, [], d.files.length⟩], files := d.files ++ [f0D] }, 0) := by unfold createK; rw [if_neg (by simp [hc]), if_neg (by simp [hr]), if_neg (by simp [hlk]), if_neg hfull]
          rw [hmm]
          have hdf : decide (256 ≤ (d.dn.length : Int)) = false := decide_eq_false (by omega)
          have hmd : L.mD ≤ 500 := by have := hL.md; have := hk.ok.st; omega
          have hmM : L.mM ≤ 500 := by have := hL.mm; have := hk.ok.st; omega
          have hfl : d.files.length ≤ 500 := by have := hk.ok.fl; omega
          have hlN : (lookL d.dn m).isSome = false := by rw [hlk]; rfl
          have HLN := Lib.hid hlN
          have HPL := Lib.hid h.fl
          have hwf := wf_small (n := (d.files.length : Int)) (by omega) (by omega)
          have HWF := Lib.hid hwf
          clear h hL hk hc hst hmm hlk hr his hfull hlN hwf
          go_enter Try.func10, Try.ntmps10
          go_upto_region 10 with (first
            | (go_at_call 24; refine HST.out.mono ?_; rintro e w1 ⟨L1, rfl, hw1, hL1, e1, e2, e3⟩)
            | (go_at_call 6; refine (HIS.out _).mono ?_; rintro e w2 ⟨rfl, hf2⟩; have hp2 := hw1.pk.below hf2)
            | (go_at_call 25; refine (pfile_none hp2 m hm HLK.out).mono ?_; rintro e w3 ⟨rfl, rfl⟩)
            | (go_at_call 26; refine (show Calls Try.prog 26 #[.pointer (some ⟨px, 0, none⟩)] _ (Namesd d.dn _) from plisted_any (d := stepK d) (L := L1) hp2 HK.out.ok.sn (by have := hL1.md; have := HK.out.step.ok.st; omega)).mono ?_; rintro e w4 ⟨v, rfl, hv, hf4⟩; obtain ⟨a0, cc0, rfl, hlc, hmc⟩ := names_slice hv))
          have hp4 := hp2.below hf4
          have hw4 := (hw1.after hf2).after hf4
          have HP4 := Lib.hid hp4
          have HW4 := Lib.hid hw4
          have HL1 := Lib.hid hL1
          clear hp2 hp4 hw4 hw1 hf2 hf4 hv hL1
          refine wp_region_Y [] 9 [(0, false), (1, false), (2, false), (3, false), (4, false), (5, false), (6, false), (7, false), (8, false), (9, true)] 51 rfl (by kernel_rfl) (by kernel_rfl) (by kernel_rfl) (fun c a d v w h => by cases d <;> exact h) (fun wd hfd => ?_)
          simp only [List.map_cons, List.map_nil, List.getElem?_toArray, List.getElem?_cons_succ, List.getElem?_cons_zero, Option.getD_some]
          have HPD := Lib.hid (HP4.out.below hfd)
          have HFD := Lib.hid hfd
          clear hfd
          repeat (apply walkZ_t; · (intro w' hf'; obtain ⟨c0, c1, c2, c3, c4, f2, f3⟩ := (HPD.out.below hf').cells; go_wp2_with fail; exact ⟨rfl, rfl⟩))
          refine walkZ_x ?_
          go_wp2_with (go_at_call 27; refine (dput_yes L1.pd L1.mD L1.Bd _ _ _ m _ _ HPD.out.dr hm HWF.out HLN.out (by omega)).mono ?_; rintro e w5 ⟨rfl, ht⟩)
          refine ⟨by simp, rfl, ?_⟩
          refine walkZ_end ?_
          obtain ⟨L2, g1, g2, g3, hw5⟩ := HPD.out.dir ht
          have HP5 := Lib.hid hw5.pk
          have HW5 := Lib.hid ((HW4.out.after HFD.out).trans hw5)
          clear ht hw5
          go_upto_region 11 with fail
          refine wp_region_Y [] 9 [(0, false), (1, false), (2, false), (3, false), (4, false), (5, false), (6, false), (7, false), (8, true), (9, true)] 51 rfl (by kernel_rfl) (by kernel_rfl) (by kernel_rfl) (fun c a d v w h => by cases d <;> exact h) (fun we hfe => ?_)
          simp only [List.map_cons, List.map_nil, List.getElem?_toArray, List.getElem?_cons_succ, List.getElem?_cons_zero, Option.getD_some]
          have HPE := Lib.hid (HP5.out.below hfe)
          have HFE := Lib.hid hfe
          clear hfe
          repeat (apply walkZ_t; · (intro w' hf'; obtain ⟨c0, c1, c2, c3, c4, f2, f3⟩ := (HPE.out.below hf').cells; go_wp2_with fail; exact ⟨rfl, rfl⟩))
          refine walkZ_x ?_
          go_wp2_with (go_at_call 28; refine (inew_any [] _ _ (bytesAt.nil _) (by simp)).mono ?_; rintro e w6 ⟨p, g, rfl, hF, hf6, hpp, hgg⟩)
          refine ⟨.inr hf6, rfl, ?_⟩
          refine walkZ_x ?_
          have hmp6 := HPE.out.mp.below hf6
          have HMP6 := Lib.hid hmp6
          have HF6 := Lib.hid hf6
          have HFF := Lib.hid hF
          clear hmp6 hf6 hF
          go_wp2_with (at_mapUpdate; refine wpL_pput rfl _ _ _ 45 rfl 3 57 Try.underlying3 Try.underlying45 L2.bM L2.mM _ rfl HMP6.out (by simp [maxLen]; omega) (d.files.length : Int) rfl HWF.out p rfl ?_; intro w7 hm7 hf7)
          refine ⟨rfl, ?_⟩
          refine walkZ_end ?_
          have hbx : px ≠ L2.bM := fun e => by have h1 := HPE.out.tx; rw [e, HPE.out.tb] at h1; cases h1
          have hob7 := hf7.heap (HF6.out.heap HPE.out.obj (by simp)) (by simpa using hbx)
          have c3 : w7.cell? ⟨px, 3, none⟩ = some (.int .i64 ((d.files.length : Nat) : Int)) := by rw [cell_of_heap hob7]; rfl
          have f3 : w7.frozen? ⟨px, 3, none⟩ = false := free_of_heap hob7 3
          have HM7 := Lib.hid hm7
          have HF7 := Lib.hid hf7
          have HO7 := Lib.hid hob7
          have HBX := Lib.hid hbx
          clear hm7 hf7 hob7 hbx
          go_wp2_with fail
          go_ret
          have hset := Fr.set0 w7 px 3 (.int .i64 ((d.files.length : Int) + 1))
          obtain ⟨L3, k1, k2, k3, hw8⟩ := HPE.out.add HFF.out HF6.out hpp hgg (HM7.out.kept hset (by simpa using fun e : L2.bM = px => HBX.out e.symm)) ((HF7.out.mono (by simp)).trans (hset.mono (by simp)) (fun _ q _ => q) (fun _ q _ => q)) (by
            have := heap_setCell_same HO7.out (i := 3) (.int .i64 ((d.files.length : Int) + 1))
            exact this)
          refine did_mk ((HW5.out.after HFE.out).trans hw8) (HL.out.act HK.out HC.out ⟨0, m, [], d.files.length⟩ (d.files ++ [f0D]) (fun n q => ?_) (by omega) (by omega) (fun _ => ?_))
          · rw [k1, atFs_snoc]
            split
            · rfl
            · rw [g1, e1]; exact q
          · rw [k1, atFs_snoc, g1, e1, HPL.out]
            rw [if_pos (by simp)]
            rfl
  · have hmm : createK d m = (stepK d, codeK d) := by unfold createK; rw [if_pos hc]
    rw [hmm]
    obtain ⟨c, hcc⟩ : ∃ c, c = codeK d := ⟨_, rfl⟩
    rw [← hcc] at hst hc ⊢
    have hc0 : (c == 0) = false := by rw [beq_eq_false_iff_ne]; exact hc
    have HST := Lib.hid hst
    clear h hL hk hc hmm hst hcc his
    go_enter Try.func10, Try.ntmps10
    go_wp2_with (go_at_call 24; refine HST.out.mono ?_; rintro e w1 ⟨L1, rfl, hw1, hL1, e1, e2, e3⟩)
    go_ret
    exact did_mk hw1 hL1
end Go.Proofs.Ytmchnaojlnjmjaa
