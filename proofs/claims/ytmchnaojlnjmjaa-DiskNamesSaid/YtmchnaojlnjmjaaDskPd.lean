/- The program's disk (layer 11): New, SyncDir, Sync. -/
import Derived.Test.YtmchnaojlnjmjaaDskPc
import Derived.Test.YtmchnaojlnjmjaaDirF
namespace Go.Proofs.Ytmchnaojlnjmjaa
open Go.RowKit Go.Maps

theorem forgot_ok {L L' : Lay} {d : DskD} (hds : d.ds = d.dn) (hop : d.ops = []) (hre : ∀ e ∈ d.dn, 0 ≤ e.2 ∧ (atFs L.fs e.2.toNat).isSome) (h1 : L'.fs = keptFs L.fs d.dn) (h2 : (L'.mD : Int) ≤ d.steps) (h3 : L'.mM = d.dn.length) (nl : ((d.dn.length : Nat) : Int) ≤ d.steps) (rm : 0 ≤ d.room ∧ d.room ≤ 9223372036854775807) : LayOk L' d := by
  have key : ∀ n, (∃ e ∈ d.dn, e.2 = n) → (atFs L'.fs n.toNat).isSome := by
    rintro n ⟨e, he, rfl⟩
    obtain ⟨h0, hs⟩ := hre e he
    rw [h1, atFs_kept, if_pos]
    · exact hs
    · rw [List.any_eq_true]
      exact ⟨e, he, decide_eq_true (by omega)⟩
  refine ⟨fun n hn => ?_, h2, by rw [h3]; exact nl, nl, by rw [hds, hop]; simpa using nl, rm⟩
  rcases hn with q | q | ⟨o, ho, _⟩
  · exact key n q
  · rw [hds] at q; exact key n q
  · rw [hop] at ho; cases ho
theorem LayOk.put {L L' : Lay} {d : DskD} {n : Nat} {x : Nat × Nat} (h : LayOk L d) (f : FileD) (hn : n < L.fs.length) (h1 : L'.fs = L.fs.set n (some x)) (h2 : L'.mD = L.mD) (h3 : L'.mM = L.mM) : LayOk L' { d with files := d.files.set n f } := by
  refine ⟨fun i hi => ?_, by rw [h2]; exact h.md, by rw [h3]; exact h.mm, h.nl, h.sl, h.rm⟩
  rw [h1, atFs_set _ _ _ _ hn]
  split
  · rfl
  · exact h.re i hi
/-- The number of a valid file's is within the list. -/
theorem PkC.at_lt {w : World} {px pm : Nat} {L : Lay} {d : DskD} (h : PkC w px pm L d) {n p g : Nat} (hi : atFs L.fs n = some (p, g)) : n < d.files.length := by rw [← h.fl]; exact atFs_lt hi
set_option maxRecDepth 100000 in
set_option maxHeartbeats 1000000 in
theorem psyncDir_any {w : World} {px pm : Nat} {d : DskD} {B : List Nat} {k : Nat} (hp : PK w px pm d B) (hk : AllOk d k) (hk4 : k ≤ 400) :
    Calls Try.prog 13 #[.pointer (some ⟨px, 0, none⟩)] w (DidK PK px pm (syncDirK d).1 (.int .i64 (syncDirK d).2) B w) := by
  obtain ⟨L, h, hL, rfl⟩ := hp
  have hst := pstep_any h hL hk hk4
  have HK := Lib.hid hk
  by_cases hc : codeK d = 0
  · have hm : syncDirK d = ({ stepK d with ds := d.dn, ops := [] }, 0) := by unfold syncDirK; rw [if_neg (by simp [hc])]
    rw [hm]
    unfold Stepd at hst
    rw [hc] at hst
    have HST := Lib.hid hst
    clear h hL hk hc hm hst
    go_enter Try.func13, Try.ntmps13
    go_upto_region 4 with (go_at_call 24; refine HST.out.mono ?_; rintro e w1 ⟨L1, rfl, hw1, hL1, e1, e2, e3⟩)
    have hsm := HK.out.step
    have hst1 : (stepK d).steps ≤ 401 := by have := hsm.ok.st; omega
    have hmd1 : L1.mD ≤ 1000000 := by have := hL1.md; omega
    have hnl1 : d.dn.length ≤ 1000000 := by have := hsm.ok.nl; have h9 : (stepK d).dn = d.dn := rfl; rw [h9] at this; omega
    have hre1 : ∀ e ∈ d.dn, 0 ≤ e.2 ∧ e.2.toNat < d.files.length ∧ (atFs L1.fs e.2.toNat).isSome := fun e he => ⟨(HK.out.ok.nums e he).1, (HK.out.ok.nums e he).2, hL1.re e.2 (.inl ⟨e, he, rfl⟩)⟩
    obtain ⟨c0, c1, c2, c3, c4, f2, f3⟩ := hw1.pk.cells
    have HSY := Lib.hid (dsync_any L1.pd L1.mD L1.Bd _ _ _ w1 hw1.pk.dr hmd1)
    have HW1 := Lib.hid hw1
    have HL1 := Lib.hid hL1
    have HRE := Lib.hid hre1
    clear hw1 hL1 hre1
    go_wp2_with (first
      | (go_at_call 33; refine HSY.out.mono ?_; rintro e w2 ⟨rfl, ht⟩; obtain ⟨L2, g1, g2, g3, hw2⟩ := HW1.out.pk.dir ht; clear ht; have HFG := Lib.hid (pforget_any hw2.pk HK.out.ok.sn (by omega) hnl1 HK.out.okn (by have := HK.out.ok.fl; show d.files.length ≤ 1000000; omega) (fun e he => by rw [g1]; exact HRE.out e he)); have HW2 := Lib.hid hw2; clear hw2)
      | (go_at_call 34; refine HFG.out.mono ?_; rintro e w3 ⟨L3, rfl, k1, k2, k3, hw3⟩))
    go_ret
    refine did_mk ((HW1.out.trans HW2.out).trans hw3) (forgot_ok (L := L2) rfl rfl (fun e he => ?_) k1 ?_ k3 HL1.out.nl HL1.out.rm)
    · obtain ⟨q0, -, q2⟩ := HRE.out e he
      exact ⟨q0, by rw [g1]; exact q2⟩
    · rw [k2, g2]; exact HL1.out.md
  · have hm : syncDirK d = (stepK d, codeK d) := by unfold syncDirK; rw [if_pos hc]
    rw [hm]
    unfold Stepd at hst
    obtain ⟨c, hcc⟩ : ∃ c, c = codeK d := ⟨_, rfl⟩
    rw [← hcc] at hst hc ⊢
    have hc0 : (c == 0) = false := by rw [beq_eq_false_iff_ne]; exact hc
    have HST := Lib.hid hst
    clear h hL hk hc hm hst hcc
    go_enter Try.func13, Try.ntmps13
    go_wp2_with (go_at_call 24; refine HST.out.mono ?_; rintro e w1 ⟨L1, rfl, hw1, hL1, e1, e2, e3⟩)
    go_ret
    exact did_mk hw1 hL1
end Go.Proofs.Ytmchnaojlnjmjaa
