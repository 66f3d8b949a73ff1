/- The program's disk (layer 11): Drop, Move. Written by wip/tools/gen_pf.py. -/
import Derived.Test.YtmchnaojlnjmjaaDskPe
import Derived.Test.YtmchnaojlnjmjaaDskPn
namespace Go.Proofs.Ytmchnaojlnjmjaa
open Go.RowKit Go.Maps

theorem steps_up {d : DskD} (hc : codeK d = 0) : (stepK d).steps = d.steps + 1 := by
  show (if d.down then d.steps else d.steps + 1) = d.steps + 1
  cases hdn : d.down with
  | true => unfold codeK at hc; rw [hdn] at hc; simp at hc
  | false => rfl
theorem LayOk.act {L L2 : Lay} {d : DskD} {k : Nat} (hL : LayOk L d) (hk : AllOk d k) (hc : codeK d = 0) (o : OpD) (fs : List FileD) (h1 : ∀ n, (atFs L.fs n).isSome → (atFs L2.fs n).isSome) (h2 : L2.mD = L.mD + 1) (h3 : L2.mM ≤ L.mM + 1) (ho : o.kind = 0 → (atFs L2.fs o.n.toNat).isSome) :
    LayOk L2 { stepK d with dn := applyL d.dn o, ops := d.ops ++ [o], files := fs } := by
  have hs := steps_up hc
  have hle := applyL_le d.dn o
  have a1 := hL.md
  have a2 := hL.mm
  have a3 := hL.nl
  have a4 := hL.sl
  refine ⟨fun n hn => ?_, ?_, ?_, ?_, ?_, hL.rm⟩
  · rcases hn with ⟨e, he, rfl⟩ | ⟨e, he, rfl⟩ | ⟨q, hq, hq0, rfl⟩
    · exact nums_apply hk.ok.sn o (fun n => (atFs L2.fs n.toNat).isSome) (fun e he => h1 _ (hL.re _ (.inl ⟨e, he, rfl⟩))) ho e he
    · exact h1 _ (hL.re _ (.inr (.inl ⟨e, he, rfl⟩)))
    · rcases List.mem_append.1 hq with r | r
      · exact h1 _ (hL.re _ (.inr (.inr ⟨q, r, hq0, rfl⟩)))
      · obtain rfl := List.mem_singleton.1 r
        exact ho hq0
  · show (L2.mD : Int) ≤ (stepK d).steps
    rw [hs, h2]; omega
  · show (L2.mM : Int) ≤ (stepK d).steps
    rw [hs]; omega
  · show (((applyL d.dn o).length : Nat) : Int) ≤ (stepK d).steps
    rw [hs]; omega
  · show ((d.ds.length + (d.ops ++ [o]).length : Nat) : Int) ≤ (stepK d).steps
    rw [hs, List.length_append, List.length_singleton]; omega

set_option maxRecDepth 100000 in
set_option maxHeartbeats 1000000 in
theorem pdrop_any {w : World} {px pm : Nat} {d : DskD} {B : List Nat} {k : Nat} (m : List UInt8) (hp : PK w px pm d B) (hk : AllOk d k) (hk4 : k ≤ 400) (hm : m.length ≤ maxLen) :
    Calls Try.prog 36 #[.pointer (some ⟨px, 0, none⟩), encStr m] w (DidK PK px pm (dropK d m).1 (.int .i64 (dropK d m).2) B w) := by
  obtain ⟨L, h, hL, rfl⟩ := hp
  have hst := pstep_any h hL hk hk4
  have HK := Lib.hid hk
  have HL := Lib.hid hL
  unfold Stepd at hst
  by_cases hc : codeK d = 0
  · rw [hc] at hst
    have HST := Lib.hid hst
    have HC := Lib.hid hc
    cases hlk : (lookL d.dn m).isSome with
    | false =>
      have hmm : dropK d m = (stepK d, 7) := by unfold dropK; rw [if_neg (by simp [hc]), if_pos hlk]
      rw [hmm]
      have HLK := Lib.hid hlk
      clear h hL hk hc hst hmm hlk
      go_enter Try.func36, Try.ntmps36
      go_wp2_with (first
        | (go_at_call 24; refine HST.out.mono ?_; rintro e w1 ⟨L1, rfl, hw1, hL1, e1, e2, e3⟩; obtain ⟨c0, c1, c2, c3, c4, f2, f3⟩ := hw1.pk.cells)
        | (go_at_call 54; refine (ddrop_no L1.pd L1.mD L1.Bd _ _ _ m _ hw1.pk.dr hm HLK.out).mono ?_; rintro e w2 ⟨rfl, rfl⟩))
      go_ret
      exact did_mk hw1 hL1
    | true =>
      have hmm : dropK d m = ({ stepK d with dn := applyL d.dn ⟨1, m, [], 0⟩, ops := d.ops ++ [⟨1, m, [], 0⟩] }, 0) := by unfold dropK; rw [if_neg (by simp [hc]), if_neg (by simp [hlk])]
      rw [hmm]
      have HLK := Lib.hid hlk
      have hmd : L.mD ≤ 500 := by have := hL.md; have := hk.ok.st; omega
      clear h hL hk hc hst hmm hlk
      go_enter Try.func36, Try.ntmps36
      go_wp2_with (first
        | (go_at_call 24; refine HST.out.mono ?_; rintro e w1 ⟨L1, rfl, hw1, hL1, e1, e2, e3⟩; obtain ⟨c0, c1, c2, c3, c4, f2, f3⟩ := hw1.pk.cells)
        | (go_at_call 54; refine (ddrop_yes L1.pd L1.mD L1.Bd _ _ _ m _ hw1.pk.dr hm HLK.out (by omega)).mono ?_; rintro e w2 ⟨rfl, ht⟩))
      go_ret
      obtain ⟨L2, g1, g2, g3, hw2⟩ := hw1.pk.dir ht
      exact did_mk (hw1.trans hw2) (HL.out.act HK.out HC.out _ d.files (fun n q => by rw [g1, e1]; exact q) (by omega) (by omega) (fun h0 => absurd (show (1 : Int) = 0 from h0) (by decide)))
  · have hmm : dropK d m = (stepK d, codeK d) := by unfold dropK; rw [if_pos hc]
    rw [hmm]
    obtain ⟨c, hcc⟩ : ∃ c, c = codeK d := ⟨_, rfl⟩
    rw [← hcc] at hst hc ⊢
    have hc0 : (c == 0) = false := by rw [beq_eq_false_iff_ne]; exact hc
    have HST := Lib.hid hst
    clear h hL hk hc hmm hst hcc
    go_enter Try.func36, Try.ntmps36
    go_wp2_with (go_at_call 24; refine HST.out.mono ?_; rintro e w1 ⟨L1, rfl, hw1, hL1, e1, e2, e3⟩)
    go_ret
    exact did_mk hw1 hL1
set_option maxRecDepth 100000 in
set_option maxHeartbeats 1000000 in
theorem pmove_any {w : World} {px pm : Nat} {d : DskD} {B : List Nat} {k : Nat} (a b : List UInt8) (hp : PK w px pm d B) (hk : AllOk d k) (hk4 : k ≤ 400) (hm : a.length ≤ maxLen) (hm2 : b.length ≤ maxLen) :
    Calls Try.prog 35 #[.pointer (some ⟨px, 0, none⟩), encStr a, encStr b] w (DidK PK px pm (moveK d a b).1 (.int .i64 (moveK d a b).2) B w) := by
  obtain ⟨L, h, hL, rfl⟩ := hp
  have hst := pstep_any h hL hk hk4
  have HK := Lib.hid hk
  have HL := Lib.hid hL
  have his := fun wx => pisname_any b hm2 wx
  unfold Stepd at hst
  by_cases hc : codeK d = 0
  · rw [hc] at hst
    have HST := Lib.hid hst
    have HC := Lib.hid hc
    cases hr : rightB b with
    | false =>
      have hmm : moveK d a b = (stepK d, 1) := by unfold moveK; rw [if_neg (by simp [hc]), if_pos hr]
      rw [hmm]
      rw [hr] at his
      have HIS := Lib.hid his
      clear h hL hk hc hst hmm hr his
      go_enter Try.func35, Try.ntmps35
      go_wp2_with (first
        | (go_at_call 24; refine HST.out.mono ?_; rintro e w1 ⟨L1, rfl, hw1, hL1, e1, e2, e3⟩; obtain ⟨c0, c1, c2, c3, c4, f2, f3⟩ := hw1.pk.cells)
        | (go_at_call 6; refine (HIS.out _).mono ?_; rintro e w2 ⟨rfl, hf2⟩; have hp2 := hw1.pk.below hf2; clear c0 c1 c2 c3 c4 f2 f3; obtain ⟨c0, c1, c2, c3, c4, f2, f3⟩ := hp2.cells))
      go_ret
      exact did_mk (hw1.after hf2) hL1
    | true =>
      rw [hr] at his
      have HIS := Lib.hid his
      cases hlk : (lookL d.dn a).isSome with
      | false =>
        have hmm : moveK d a b = (stepK d, 7) := by unfold moveK; rw [if_neg (by simp [hc]), if_neg (by simp [hr]), if_pos hlk]
        rw [hmm]
        have HLK := Lib.hid hlk
        clear h hL hk hc hst hmm hlk hr his
        go_enter Try.func35, Try.ntmps35
        go_wp2_with (first
          | (go_at_call 24; refine HST.out.mono ?_; rintro e w1 ⟨L1, rfl, hw1, hL1, e1, e2, e3⟩; obtain ⟨c0, c1, c2, c3, c4, f2, f3⟩ := hw1.pk.cells)
          | (go_at_call 6; refine (HIS.out _).mono ?_; rintro e w2 ⟨rfl, hf2⟩; have hp2 := hw1.pk.below hf2; clear c0 c1 c2 c3 c4 f2 f3; obtain ⟨c0, c1, c2, c3, c4, f2, f3⟩ := hp2.cells)
          | (go_at_call 53; refine (dmove_no L1.pd L1.mD L1.Bd _ _ _ a b _ hp2.dr hm HLK.out).mono ?_; rintro e w3 ⟨rfl, rfl⟩))
        go_ret
        exact did_mk (hw1.after hf2) hL1
      | true =>
        have HLK := Lib.hid hlk
        have hmd : L.mD ≤ 500 := by have := hL.md; have := hk.ok.st; omega
        by_cases hab : a = b
        · have hmm : moveK d a b = (stepK d, 0) := by unfold moveK; rw [if_neg (by simp [hc]), if_neg (by simp [hr]), if_neg (by simp [hlk]), if_pos hab]
          rw [hmm]
          have HAB := Lib.hid hab
          clear h hL hk hc hst hmm hlk hr his hab
          go_enter Try.func35, Try.ntmps35
          go_wp2_with (first
            | (go_at_call 24; refine HST.out.mono ?_; rintro e w1 ⟨L1, rfl, hw1, hL1, e1, e2, e3⟩; obtain ⟨c0, c1, c2, c3, c4, f2, f3⟩ := hw1.pk.cells)
            | (go_at_call 6; refine (HIS.out _).mono ?_; rintro e w2 ⟨rfl, hf2⟩; have hp2 := hw1.pk.below hf2; clear c0 c1 c2 c3 c4 f2 f3; obtain ⟨c0, c1, c2, c3, c4, f2, f3⟩ := hp2.cells)
            | (go_at_call 53; rw [← HAB.out]; refine (dmove_same L1.pd L1.mD L1.Bd _ _ _ a _ hp2.dr hm HLK.out).mono ?_; rintro e w3 ⟨rfl, rfl⟩))
          go_ret
          exact did_mk (hw1.after hf2) hL1
        · have hmm : moveK d a b = ({ stepK d with dn := applyL d.dn ⟨2, a, b, 0⟩, ops := d.ops ++ [⟨2, a, b, 0⟩] }, 0) := by unfold moveK; rw [if_neg (by simp [hc]), if_neg (by simp [hr]), if_neg (by simp [hlk]), if_neg hab]
          rw [hmm]
          have HAB := Lib.hid hab
          clear h hL hk hc hst hmm hlk hr his hab
          go_enter Try.func35, Try.ntmps35
          go_wp2_with (first
            | (go_at_call 24; refine HST.out.mono ?_; rintro e w1 ⟨L1, rfl, hw1, hL1, e1, e2, e3⟩; obtain ⟨c0, c1, c2, c3, c4, f2, f3⟩ := hw1.pk.cells)
            | (go_at_call 6; refine (HIS.out _).mono ?_; rintro e w2 ⟨rfl, hf2⟩; have hp2 := hw1.pk.below hf2; clear c0 c1 c2 c3 c4 f2 f3; obtain ⟨c0, c1, c2, c3, c4, f2, f3⟩ := hp2.cells)
            | (go_at_call 53; refine (dmove_yes L1.pd L1.mD L1.Bd _ _ _ a b _ hp2.dr hm hm2 HAB.out HLK.out (by omega)).mono ?_; rintro e w3 ⟨rfl, ht⟩))
          go_ret
          obtain ⟨L2, g1, g2, g3, hw2⟩ := hp2.dir ht
          exact did_mk ((hw1.after hf2).trans hw2) (HL.out.act HK.out HC.out _ d.files (fun n q => by rw [g1, e1]; exact q) (by omega) (by omega) (fun h0 => absurd (show (2 : Int) = 0 from h0) (by decide)))
  · have hmm : moveK d a b = (stepK d, codeK d) := by unfold moveK; rw [if_pos hc]
    rw [hmm]
    obtain ⟨c, hcc⟩ : ∃ c, c = codeK d := ⟨_, rfl⟩
    rw [← hcc] at hst hc ⊢
    have hc0 : (c == 0) = false := by rw [beq_eq_false_iff_ne]; exact hc
    have HST := Lib.hid hst
    clear h hL hk hc hmm hst hcc his
    go_enter Try.func35, Try.ntmps35
    go_wp2_with (go_at_call 24; refine HST.out.mono ?_; rintro e w1 ⟨L1, rfl, hw1, hL1, e1, e2, e3⟩)
    go_ret
    exact did_mk hw1 hL1
end Go.Proofs.Ytmchnaojlnjmjaa
