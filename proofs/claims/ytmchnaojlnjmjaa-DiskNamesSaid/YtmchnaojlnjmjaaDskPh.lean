/- The program's disk (layer 11): Append. Written by wip/tools/gen_ph.py. -/
import Derived.Test.YtmchnaojlnjmjaaDskPg
import Derived.Test.YtmchnaojlnjmjaaInoB
namespace Go.Proofs.Ytmchnaojlnjmjaa
open Go.RowKit Go.Maps

def PSizeRel (w : World) (n : Nat) (sv iv : Value) (wx : World) : Prop := ((sv = .int .i64 0 ∧ iv = .int .i64 0) ∨ (sv = .int .i64 (n : Int) ∧ iv = .int .i64 1)) ∧ w = wx
/-- In the loop that appends: nothing yet, or all. -/
def PAppRel (px pm : Nat) (L : Lay) (d' : DskD) (n : Nat) (x : Nat → Option (Nat × Nat)) (w : World) (iv : Value) (wx : World) : Prop := (iv = .int .i64 0 ∧ Fr [] w wx) ∨ (iv = .int .i64 1 ∧ ∃ (L' : Lay) (g : Nat), Went px pm L L' d' w wx ∧ (∃ y, L'.fs = L.fs.set n (some y)) ∧ L'.mD = L.mD ∧ L'.mM = L.mM)
set_option maxRecDepth 100000 in
set_option maxHeartbeats 2000000 in
theorem pappend_any {w : World} {px pm : Nat} {d : DskD} {B : List Nat} {k : Nat} (m b : List UInt8) (pv bv : Value) (hp : PK w px pm d B) (hk : AllOk d k) (hk4 : k ≤ 400) (hm : m.length ≤ maxLen) (hb : b.length ≤ 1000) (hpv : cellsAt w pv [bv]) (hbv : bytesAt w bv b) (hpnb : ∀ j, pv.ownBlock = some j → j ∉ B) (hbnb : ∀ j, bv.ownBlock = some j → b ≠ [] → j ∉ B) :
    Calls Try.prog 11 #[.pointer (some ⟨px, 0, none⟩), encStr m, pv] w (DidK PK px pm (appendK d m b).1 (.int .i64 (appendK d m b).2) B w) := by
  obtain ⟨L, h, hL, rfl⟩ := hp
  have hst := pstep_any h hL hk hk4
  have HK := Lib.hid hk
  have HL := Lib.hid hL
  have hplt := h.lt
  have hpvl := hpv.lt (by simp)
  have hbvl := fun (hne : b ≠ []) => hbv.lt hne
  obtain ⟨ab, cb, rfl, hbc, hbm⟩ := hbv.form
  obtain ⟨ap, cp, rfl, hpc, hpm⟩ := hpv.form
  simp only [List.length_singleton] at hpv hpc hpnb hpvl ⊢
  have hb63 : cb ≤ 9223372036854775807 := by simpa [maxLen] using hbm
  have hp63 : cp ≤ 9223372036854775807 := by simpa [maxLen] using hpm
  have HPV := Lib.hid hpv
  have HBV := Lib.hid hbv
  have HPN := Lib.hid hpnb
  have HBN := Lib.hid hbnb
  unfold Stepd at hst
  by_cases hc : codeK d = 0
  · rw [hc] at hst
    have HST := Lib.hid hst
    have HC := Lib.hid hc
    cases hlk : lookL d.dn m with
    | none =>
      have hmm : appendK d m b = (stepK d, 7) := by unfold appendK; rw [if_neg (by simp [hc]), hlk]
      rw [hmm]
      have HLK := Lib.hid hlk
      clear h hL hk hc hst hmm hlk hpv hbv hpnb hbnb hpvl hbvl hplt hbm hpm
      go_enter Try.func11, Try.ntmps11
      go_wp2_with (first
        | (go_at_call 24; refine HST.out.mono ?_; rintro e w1 ⟨L1, rfl, hw1, hL1, e1, e2, e3⟩)
        | (go_at_call 25; refine (pfile_none hw1.pk m hm HLK.out).mono ?_; rintro e w2 ⟨rfl, rfl⟩))
      have hpv1 := HPV.out.kept hw1.fr (fun j hj _ _ => HPN.out j hj)
      obtain ⟨pb, poff, rfl, -, hpcell⟩ := hpv1.get (i := 0) (by simp)
      have hpc0 := hpcell 0 (by simp)
      simp only [List.getElem_cons_zero, Nat.add_zero] at hpc0
      clear hpv1 hpcell
      go_loopw [9, 24] (PSizeRel w1 b.length) (fun _ iv _ => 1 - (intOf iv).toNat)
      case atStart => exact ⟨.inl ⟨rfl, rfl⟩, rfl⟩
      case round =>
        obtain ⟨⟨rfl, rfl⟩ | ⟨rfl, rfl⟩, rfl⟩ := hrel
        · go_wp2_with fail
          exact ⟨⟨.inr ⟨rfl, rfl⟩, rfl⟩, by simp [intOf]⟩
        · skip
          go_wp2_with fail
          go_ret
          exact did_mk hw1 hL1
    | some v =>
      obtain ⟨n, p, g, ev, hat, hnl, hfk⟩ := hL.found h hk hlk
      have hfm : fileN d n ∈ d.files := by unfold fileN; simp only [List.getD, List.getElem?_eq_getElem hnl, Option.getD_some]; exact List.getElem_mem hnl
      have hln := hk.ok.len _ hfm
      have hfl := hk.ok.fl
      have hn6 : n ≤ 1000000 := by omega
      have HAT := Lib.hid hat
      obtain ⟨N, hN⟩ : ∃ N, N = (fileN d n).now.length := ⟨_, rfl⟩
      have HN := Lib.hid hN
      rw [← hN] at hln
      by_cases hlong : 1048576 < N + b.length
      · have hmm : appendK d m b = (stepK d, 5) := by unfold appendK; rw [if_neg (by simp [hc]), hlk]; simp only; rw [hfk, if_pos (by omega)]
        rw [hmm]
        rw [ev] at hlk
        have HLK := Lib.hid hlk
        have hd5 : decide (1048576 - (N : Int) < (b.length : Int)) = true := decide_eq_true (by omega)
        clear h hL hk hc hst hmm hlk hpv hbv hpnb hbnb hpvl hbvl hplt hbm hpm hat ev hfk hnl hfm hfl hN hlong
        go_enter Try.func11, Try.ntmps11
        go_wp2_with (first
          | (go_at_call 24; refine HST.out.mono ?_; rintro e w1 ⟨L1, rfl, hw1, hL1, e1, e2, e3⟩)
          | (go_at_call 25; refine (pfile_some hw1.pk m hm n HLK.out (show atFs L1.fs n = some (p, g) by rw [e1]; exact HAT.out) hn6).mono ?_; rintro e w2 ⟨rfl, rfl⟩))
        have hpv1 := HPV.out.kept hw1.fr (fun j hj _ _ => HPN.out j hj)
        obtain ⟨pb, poff, rfl, -, hpcell⟩ := hpv1.get (i := 0) (by simp)
        have hpc0 := hpcell 0 (by simp)
        simp only [List.getElem_cons_zero, Nat.add_zero] at hpc0
        clear hpv1 hpcell
        go_loopw [9, 24] (PSizeRel w1 b.length) (fun _ iv _ => 1 - (intOf iv).toNat)
        case atStart => exact ⟨.inl ⟨rfl, rfl⟩, rfl⟩
        case round =>
          obtain ⟨⟨rfl, rfl⟩ | ⟨rfl, rfl⟩, rfl⟩ := hrel
          · go_wp2_with fail
            exact ⟨⟨.inr ⟨rfl, rfl⟩, rfl⟩, by simp [intOf]⟩
          · skip
            have HLE := Lib.hid (ilen_any p g _ _ _ (hw1.pk.fi n p g (by rw [e1]; exact HAT.out)))
            rw [show (fileN (stepK d) n).now.length = N from HN.out.symm] at HLE
            go_wp2_with (go_at_call 29; refine HLE.out.mono ?_; rintro e w3 ⟨rfl, rfl⟩)
            go_ret
            exact did_mk hw1 hL1
      · have hd5 : decide (1048576 - (N : Int) < (b.length : Int)) = false := decide_eq_false (by omega)
        have hrm := hL.rm
        have hup := usedTo_le d 1000000 (fun f hf => by have := hk.ok.len f hf; omega) d.dn.length (Nat.le_refl _)
        rw [usedTo_all] at hup
        have hul : usedK d ≤ 1000000000 := by have := hk.ok.nl; omega
        obtain ⟨U, hU⟩ : ∃ U, U = usedK d := ⟨_, rfl⟩
        rw [← hU] at hul
        have HU := Lib.hid hU
        have hu1 : usedK (stepK d) = U := by rw [hU]; rfl
        have HU1 := Lib.hid hu1
        obtain ⟨R, hR⟩ : ∃ R, R = d.room := ⟨_, rfl⟩
        rw [← hR] at hrm
        have HR := Lib.hid hR
        obtain ⟨hr0, hr1⟩ := hrm
        by_cases hfull : R < ((U + b.length : Nat) : Int)
        · have hmm : appendK d m b = (stepK d, 9) := by unfold appendK; rw [if_neg (by simp [hc]), hlk]; simp only; rw [hfk, if_neg (by omega), if_pos (by rw [← hU, ← hR]; exact hfull)]
          rw [hmm]
          rw [ev] at hlk
          have HLK := Lib.hid hlk
          have hd6 : decide (R - (U : Int) < (b.length : Int)) = true := decide_eq_true (by omega)
          clear h hL hk hc hst hmm hlk hpv hbv hpnb hbnb hpvl hbvl hplt hbm hpm hat ev hfk hnl hfm hfl hN hlong hup hU hu1 hR hfull
          go_enter Try.func11, Try.ntmps11
          go_wp2_with (first
            | (go_at_call 24; refine HST.out.mono ?_; rintro e w1 ⟨L1, rfl, hw1, hL1, e1, e2, e3⟩)
            | (go_at_call 25; refine (pfile_some hw1.pk m hm n HLK.out (show atFs L1.fs n = some (p, g) by rw [e1]; exact HAT.out) hn6).mono ?_; rintro e w2 ⟨rfl, rfl⟩))
          have hpv1 := HPV.out.kept hw1.fr (fun j hj _ _ => HPN.out j hj)
          obtain ⟨pb, poff, rfl, -, hpcell⟩ := hpv1.get (i := 0) (by simp)
          have hpc0 := hpcell 0 (by simp)
          simp only [List.getElem_cons_zero, Nat.add_zero] at hpc0
          clear hpv1 hpcell
          go_loopw [9, 24] (PSizeRel w1 b.length) (fun _ iv _ => 1 - (intOf iv).toNat)
          case atStart => exact ⟨.inl ⟨rfl, rfl⟩, rfl⟩
          case round =>
            obtain ⟨⟨rfl, rfl⟩ | ⟨rfl, rfl⟩, rfl⟩ := hrel
            · go_wp2_with fail
              exact ⟨⟨.inr ⟨rfl, rfl⟩, rfl⟩, by simp [intOf]⟩
            · skip
              have HLE := Lib.hid (ilen_any p g _ _ _ (hw1.pk.fi n p g (by rw [e1]; exact HAT.out)))
              rw [show (fileN (stepK d) n).now.length = N from HN.out.symm] at HLE
              have HW1 := Lib.hid hw1
              have HL1 := Lib.hid hL1
              clear hw1 hL1
              go_upto_region 14 with (go_at_call 29; refine HLE.out.mono ?_; rintro e w3 ⟨rfl, rfl⟩)
              refine wp_region_G [] [(0, false), (1, false), (2, false), (3, false), (4, false), (5, false), (6, true), (7, false), (8, false), (9, false)] 62 rfl (by kernel_rfl) (by kernel_rfl) (by kernel_rfl) (fun c a d v w h => by cases d <;> exact h) (fun wd hfd => ?_)
              simp only [List.map_cons, List.map_nil, List.getElem?_toArray, List.getElem?_cons_succ, List.getElem?_cons_zero, Option.getD_some]
              have HPD := Lib.hid (HW1.out.pk.below hfd)
              have HFD := Lib.hid hfd
              have HUS := Lib.hid (pused_any HPD.out HL1.out HK.out.step (by omega))
              rw [HU1.out] at HUS
              clear hfd
              repeat (apply wpG_t; · (intro w' hf'; obtain ⟨c0, c1, c2, c3, c4, f2, f3⟩ := (HPD.out.below hf').cells; rw [show (stepK d).room = R from HR.out.symm] at c4; go_wp2_with fail; exact ⟨rfl, rfl⟩))
              refine wpG_x ?_
              go_wp2_with (go_at_call 30; refine HUS.out.mono ?_; rintro e w4 ⟨rfl, hf4⟩)
              refine ⟨hf4, rfl, ?_⟩
              repeat (apply wpG_t; · (intro w' hf'; go_wp2_with fail; exact ⟨rfl, rfl⟩))
              refine wpG_end ?_
              go_wp2_with fail
              go_ret
              exact did_mk ((HW1.out.after HFD.out).after hf4) HL1.out
        · have hmm : appendK d m b = ({ stepK d with files := d.files.set n ⟨(fileN d n).now ++ b, (fileN d n).safe⟩ }, 0) := by
            unfold appendK putK
            rw [if_neg (by simp [hc]), hlk]
            simp only
            rw [hfk, if_neg (by omega), if_neg (by rw [← hU, ← hR]; exact hfull), ev]; rfl
          rw [hmm]
          rw [ev] at hlk
          have HLK := Lib.hid hlk
          have hd6 : decide (R - (U : Int) < (b.length : Int)) = false := decide_eq_false (by omega)
          have HBL := Lib.hid hbvl
          have hno : b ≠ [] → ∀ j, (Value.slice ab b.length cb).ownBlock = some j → j ∉ L.blocks px := fun hne j hj => hbnb j hj hne
          have HNO := Lib.hid hno
          have hNb : N + b.length ≤ 1048576 := by omega
          have HPL := Lib.hid hpvl
          clear h hL hk hc hst hmm hlk hpv hbv hpnb hbnb hpvl hbvl hplt hbm hpm hat ev hfk hnl hfm hfl hN hlong hup hU hu1 hR hfull hno
          go_enter Try.func11, Try.ntmps11
          go_wp2_with (first
            | (go_at_call 24; refine HST.out.mono ?_; rintro e w1 ⟨L1, rfl, hw1, hL1, e1, e2, e3⟩)
            | (go_at_call 25; refine (pfile_some hw1.pk m hm n HLK.out (show atFs L1.fs n = some (p, g) by rw [e1]; exact HAT.out) hn6).mono ?_; rintro e w2 ⟨rfl, rfl⟩))
          have hpv1 := HPV.out.kept hw1.fr (fun j hj _ _ => HPN.out j hj)
          obtain ⟨pb, poff, rfl, -, hpcell⟩ := hpv1.get (i := 0) (by simp)
          have hpc0 := hpcell 0 (by simp)
          simp only [List.getElem_cons_zero, Nat.add_zero] at hpc0
          clear hpv1 hpcell
          go_loopw [9, 24] (PSizeRel w1 b.length) (fun _ iv _ => 1 - (intOf iv).toNat)
          case atStart => exact ⟨.inl ⟨rfl, rfl⟩, rfl⟩
          case round =>
            obtain ⟨⟨rfl, rfl⟩ | ⟨rfl, rfl⟩, rfl⟩ := hrel
            · go_wp2_with fail
              exact ⟨⟨.inr ⟨rfl, rfl⟩, rfl⟩, by simp [intOf]⟩
            · skip
              have HLE := Lib.hid (ilen_any p g _ _ _ (hw1.pk.fi n p g (by rw [e1]; exact HAT.out)))
              rw [show (fileN (stepK d) n).now.length = N from HN.out.symm] at HLE
              have HAT1 := Lib.hid (show atFs L1.fs n = some (p, g) by rw [e1]; exact HAT.out)
              have HW1 := Lib.hid hw1
              have HL1 := Lib.hid hL1
              have HPC0 := Lib.hid hpc0
              clear hw1 hL1 hpc0
              go_upto_region 14 with (go_at_call 29; refine HLE.out.mono ?_; rintro e w3 ⟨rfl, rfl⟩)
              refine wp_region_G [] [(0, false), (1, false), (2, false), (3, false), (4, false), (5, false), (6, true), (7, false), (8, false), (9, false)] 62 rfl (by kernel_rfl) (by kernel_rfl) (by kernel_rfl) (fun c a d v w h => by cases d <;> exact h) (fun wd hfd => ?_)
              simp only [List.map_cons, List.map_nil, List.getElem?_toArray, List.getElem?_cons_succ, List.getElem?_cons_zero, Option.getD_some]
              have HPD := Lib.hid (HW1.out.pk.below hfd)
              have HFD := Lib.hid hfd
              have HUS := Lib.hid (pused_any HPD.out HL1.out HK.out.step (by omega))
              rw [HU1.out] at HUS
              clear hfd
              repeat (apply wpG_t; · (intro w' hf'; obtain ⟨c0, c1, c2, c3, c4, f2, f3⟩ := (HPD.out.below hf').cells; rw [show (stepK d).room = R from HR.out.symm] at c4; go_wp2_with fail; exact ⟨rfl, rfl⟩))
              refine wpG_x ?_
              go_wp2_with (go_at_call 30; refine HUS.out.mono ?_; rintro e w4 ⟨rfl, hf4⟩)
              refine ⟨hf4, rfl, ?_⟩
              repeat (apply wpG_t; · (intro w' hf'; go_wp2_with fail; exact ⟨rfl, rfl⟩))
              refine wpG_end ?_
              have HW4 := Lib.hid ((HW1.out.after HFD.out).after hf4)
              have HF14 := Lib.hid (HFD.out.trans hf4 (by simp) (n := []) (by simp))
              clear hf4
              go_wp2_with fail
              go_loopw [54] (PAppRel px pm L1 { stepK d with files := d.files.set n ⟨(fileN d n).now ++ b, (fileN d n).safe⟩ } n (fun _ => none) w4) (fun iv _ => 1 - (intOf iv).toNat)
              case atStart => exact .inl ⟨rfl, Fr.refl _ _⟩
              case round =>
                rcases hrel with ⟨rfl, hf⟩ | ⟨rfl, L2, g2, hw2, ⟨y, hy⟩, hmD, hmM⟩
                · have hcell := hf.cell (HF14.out.cell HPC0.out (by simp)) (by simp)
                  have hPr := HW4.out.pk.below hf
                  have hbw := ((HBV.out.kept HW4.out.fr (fun j hj hne _ => HNO.out hne j hj)).below hf)
                  have HPR := Lib.hid hPr
                  have HAP := Lib.hid (iappend_yes p g _ _ b _ wr (hPr.fi n p g HAT1.out) hbw (by rw [show (fileN (stepK d) n).now.length = N from HN.out.symm]; exact hNb) (fun hne j hj e => by
                    have h1 := HNO.out hne j hj
                    have h2 := HBL.out hne j hj
                    have h3 := HW4.out.new j (Lay.blocks_iff.2 (.inr (.inr (.inr (.inr ⟨n, p, g, HAT1.out, .inl e⟩)))))
                    exact h3.elim h1 (fun q => by omega)))
                  have HF := Lib.hid hf
                  clear hf hPr hbw
                  go_wp2_with (go_at_call 31; refine HAP.out.mono ?_; rintro e w5 ⟨g5, rfl, hF5, hf5, hg5⟩)
                  obtain ⟨L2, k1, k2, k3, hw5⟩ := HPR.out.file HAT1.out ⟨(fileN d n).now ++ b, (fileN d n).safe⟩ hF5 hf5 hg5
                  exact ⟨.inr ⟨by simp, L2, g5, hw5.before HF.out, ⟨_, k1⟩, k2, k3⟩, by simp [intOf]⟩
                · have HW2 := Lib.hid hw2
                  have HY := Lib.hid hy
                  have HMD := Lib.hid hmD
                  have HMM := Lib.hid hmM
                  clear hw2 hy hmD hmM
                  go_wp2_with fail
                  go_ret
                  exact did_mk (HW4.out.trans HW2.out) (HL1.out.put _ (atFs_lt HAT1.out) HY.out HMD.out HMM.out)
  · have hmm : appendK d m b = (stepK d, codeK d) := by unfold appendK; rw [if_pos hc]
    rw [hmm]
    obtain ⟨c, hcc⟩ : ∃ c, c = codeK d := ⟨_, rfl⟩
    rw [← hcc] at hst hc ⊢
    have hc0 : (c == 0) = false := by rw [beq_eq_false_iff_ne]; exact hc
    have HST := Lib.hid hst
    clear h hL hk hc hmm hst hcc hpv hbv hpnb hbnb hpvl hbvl hplt hbm hpm
    go_enter Try.func11, Try.ntmps11
    go_wp2_with (go_at_call 24; refine HST.out.mono ?_; rintro e w1 ⟨L1, rfl, hw1, hL1, e1, e2, e3⟩)
    go_ret
    exact did_mk hw1 hL1
end Go.Proofs.Ytmchnaojlnjmjaa
