/- Several texts in one: DskPc, DskPd, DskPe, DskPf. -/
import Derived.Test.YtmchnaojlnjmjaaGreatDskPb
import Derived.Test.YtmchnaojlnjmjaaGreatShelf
import Derived.Test.YtmchnaojlnjmjaaGreatDirF
import Derived.Test.YtmchnaojlnjmjaaGreatDskAct
import Derived.Test.YtmchnaojlnjmjaaGreatDskPn
/-! The program's disk (layer 11): New, forget, SyncDir. -/
namespace Go.Proofs.YtmchnaojlnjmjaaGreat
open Go.RowKit Go.Maps

def PForgetRel (w w1 : World) (b : Nat) (fs : Fs) (C : List Ent) (iv : Value) (wx : World) : Prop := ∃ k : Nat, k ≤ C.length ∧ iv = .int .i64 (k : Int) ∧ pmapIs Tryz.prog 3 wx b k (fsF (keptFs fs (C.take k))) ∧ Fr [b] w1 wx
theorem kept_none (fs : Fs) : fsF (keptFs fs []) = fun _ => none := by
  funext k
  unfold fsF
  rw [atFs_kept]
  split <;> rfl
theorem kept_next (fs : Fs) (C : List Ent) (k n p g : Nat) (hk : k < C.length) (hn : (C[k]'hk).2 = (n : Int)) (hi : atFs fs n = some (p, g)) : (fun j : Int => if j = (n : Int) then some p else fsF (keptFs fs (C.take k)) j) = fsF (keptFs fs (C.take (k + 1))) := by
  funext j
  unfold fsF
  rw [atFs_kept, atFs_kept, List.take_succ_eq_append_getElem hk, List.any_append]
  by_cases hj : j < 0
  · rw [if_neg (by omega), if_pos hj, if_pos hj]
  · rw [if_neg hj, if_neg hj]
    by_cases e : j = (n : Int)
    · rw [if_pos e]
      have e2 : j.toNat = n := by omega
      rw [e2]
      simp [hn, hi]
    · rw [if_neg e]
      have e4 : ([C[k]'hk].any fun e => decide (e.2 = ((j.toNat : Nat) : Int))) = false := by
        rw [List.any_cons, List.any_nil, Bool.or_false, hn]
        exact decide_eq_false (by omega)
      rw [e4, Bool.or_false]
def Forgot (w : World) (px pm : Nat) (L : Lay) (d : DskD) (e : Ending) (w' : World) : Prop := ∃ L' : Lay, e = .returned (.tuple #[]) ∧ L'.fs = keptFs L.fs d.dn ∧ L'.mD = L.mD ∧ L'.mM = d.dn.length ∧ Went px pm L L' d w w'
set_option maxRecDepth 100000 in
set_option maxHeartbeats 1000000 in
theorem pforget_any {w : World} {px pm : Nat} {L : Lay} {d : DskD} (h : PkC w px pm L d) (hs : sortedL d.dn) (hmd : L.mD ≤ 1000000) (hnl : d.dn.length ≤ 1000000) (hok : okNames d.dn) (hfl : d.files.length ≤ 1000000) (hre : ∀ e ∈ d.dn, 0 ≤ e.2 ∧ e.2.toNat < d.files.length ∧ (atFs L.fs e.2.toNat).isSome) :
    Calls Tryz.prog 54 #[.pointer (some ⟨px, 0, none⟩)] w (Forgot w px pm L d) := by
  have hmm := @run_makeMap Tryz.prog
  have hfa := Fr.alloc w (.map #[] 0)
  have hlt := h.lt
  have HLI := Lib.hid (plisted_any (h.below hfa) hs hmd)
  have hmk := pmapIs.made Tryz.prog 3 w
  obtain ⟨w0, hw0⟩ : ∃ w0, w0 = w.alloc (.map #[] 0) := ⟨_, rfl⟩
  obtain ⟨b, hb⟩ : ∃ b, b = w.heap.size := ⟨_, rfl⟩
  have hs0 : w0.heap.size = b + 1 := by rw [hw0, hb, World.size_alloc]
  rw [← hw0] at HLI hfa hmk
  rw [← hb] at hmk hlt
  rw [← kept_none L.fs] at hmk
  have HS := Lib.hid hs
  have HH := Lib.hid h
  have HLT := Lib.hid hlt
  have HFA := Lib.hid hfa
  have HMK := Lib.hid hmk
  have HRE := Lib.hid hre
  have HOK := Lib.hid hok
  have HW0 := Lib.hid hw0
  have HB := Lib.hid hb
  clear h hs hlt hfa hmk hre hok hw0 hb
  go_enter Tryz.func54, Tryz.ntmps54
  go_upto_region 1 with fail
  rw [← HW0.out, ← HB.out]
  go_wp2_with (go_at_call 46; refine HLI.out.mono ?_; rintro e w1 ⟨v, rfl, hv, hf1⟩; obtain ⟨a0, c0, rfl, hlc, hmc⟩ := names_slice hv)
  have HV := Lib.hid hv
  have HF1 := Lib.hid hf1
  clear hv hf1
  go_loopw [11] (PForgetRel w w1 b L.fs d.dn) (fun iv _ => d.dn.length - (intOf iv).toNat)
  case atStart => exact ⟨0, Nat.zero_le _, rfl, HMK.out.below HF1.out, Fr.refl _ _⟩
  case round =>
    obtain ⟨i, hi, rfl, hmp, hf⟩ := hrel
    have HF := Lib.hid hf
    have hPw : PkC wr px pm L d := (HH.out.below (HFA.out.trans HF1.out (by simp) (n := []) (by simp))).kept hf (fun k hk hm => by
      have h1 := HLT.out k hk
      have h2 : k = b := by simpa using hm
      omega)
    by_cases hin : i < d.dn.length
    · have hd2 : decide (i < d.dn.length) = true := decide_eq_true hin
      have hvr := owns_kept HV.out hf (fun k hk hm => by
        have h1 := (HV.out.lt k hk).1
        have h2 : k = b := by simpa using hm
        omega)
      obtain ⟨bb, off, rfl, hc⟩ := names_at hvr (Fr.refl [] wr) i hin
      have hlk := look_mem HS.out _ (List.getElem_mem hin)
      obtain ⟨h0, h1, h2⟩ := HRE.out _ (List.getElem_mem hin)
      obtain ⟨⟨p, g⟩, hpg⟩ := Option.isSome_iff_exists.1 h2
      obtain ⟨n, hn⟩ : ∃ n : Nat, (d.dn[i]'hin).2 = (n : Int) := ⟨(d.dn[i]'hin).2.toNat, by omega⟩
      rw [hn, Int.toNat_natCast] at h1 hpg
      have HNX := Lib.hid (kept_next L.fs d.dn i n p g hin hn hpg)
      rw [hn] at hlk
      have hget := dget_any L.pd L.mD L.Bd d.dn d.ds d.ops _ wr hPw.dr (HOK.out _ (List.getElem_mem hin))
      have hnu : numL d.dn (d.dn[i]'hin).1 = (n : Int) := by unfold numL; rw [hlk]; rfl
      rw [hlk, hnu] at hget
      obtain ⟨nm, hnme⟩ : ∃ nm, nm = (d.dn[i]'hin).1 := ⟨_, rfl⟩
      rw [← hnme] at hc hget
      have HG := Lib.hid hget
      have hF : fsF L.fs (n : Int) = some p := by
        unfold fsF
        rw [if_neg (by omega), Int.toNat_natCast, hpg]; rfl
      have HPF := Lib.hid hF
      have HMP := Lib.hid hmp
      have HOM := Lib.hid hPw.mp
      obtain ⟨c0', c1', c2', c3', c4', f2', f3'⟩ := hPw.cells
      have hwf := wf_small (n := (n : Int)) (by omega) (by omega)
      clear hf hPw hlk h0 h2 hpg hn hget hnu hnme hF hvr hmp
      go_wp2_with (first
        | (go_at_call 72; refine HG.out.mono ?_; rintro e w2 ⟨rfl, rfl⟩)
        | (at_lookup; refine wpL_plook rfl _ _ 62 rfl 3 86 Tryz.underlying3 Tryz.underlying62 rfl L.bM L.mM (fsF L.fs) rfl HOM.out (n : Int) rfl hwf ?_; rw [HPF.out])
        | (at_mapUpdate; refine wpL_pput rfl _ _ _ 62 rfl 3 86 Tryz.underlying3 Tryz.underlying62 b i _ rfl HMP.out (by simp [maxLen]; omega) (n : Int) rfl hwf p rfl ?_; intro w3 hm3 hf3; rw [HNX.out] at hm3))
      exact ⟨⟨i + 1, by omega, by go_num, hm3, HF.out.trans hf3 (fun _ q _ => q) (fun _ q _ => q)⟩, by simp [intOf]; omega⟩
    · have hd2 : decide (i < d.dn.length) = false := decide_eq_false hin
      obtain rfl : i = d.dn.length := by omega
      rw [List.take_length] at hmp
      have hobj := hPw.obj
      obtain ⟨c0', c1', c2', c3', c4', f2', f3'⟩ := hPw.cells
      have HMP := Lib.hid hmp
      have HOB := Lib.hid hobj
      clear hf hPw hmp hobj
      go_wp2_with fail
      go_end0
      have hfr : Fr [] w wr := (HFA.out.trans HF1.out (by simp) (n := []) (by simp)).new HF.out (fun j hj => by
        have h2 : j = b := by simpa using hj
        have h3 := HB.out
        omega)
      obtain ⟨L', e1, e2, e3, e4⟩ := HH.out.part d.dn HMP.out hfr (by have := HB.out; omega) (Fr.set0 wr px 2 (.map (some b))) (by have := heap_setCell_same HOB.out (i := 2) (.map (some b)); exact this)
      exact ⟨L', rfl, e1, e2, e3, e4⟩
end Go.Proofs.YtmchnaojlnjmjaaGreat

/-! The program's disk (layer 11): New, SyncDir, Sync. -/
namespace Go.Proofs.YtmchnaojlnjmjaaGreat
open Go.RowKit Go.Maps

theorem forgot_ok {L L' : Lay} {d : DskD} (hds : d.ds = d.dn) (hop : d.ops = []) (hre : ∀ e ∈ d.dn, 0 ≤ e.2 ∧ (atFs L.fs e.2.toNat).isSome) (h1 : L'.fs = keptFs L.fs d.dn) (h2 : (L'.mD : Int) ≤ d.steps) (h3 : L'.mM = d.dn.length) (nl : ((d.dn.length : Nat) : Int) ≤ d.steps) (rm : 0 ≤ d.room ∧ d.room ≤ 9223372036854775807) : LayOk L' d := by
  have key : ∀ n, (∃ e ∈ d.dn, e.2 = n) → (atFs L'.fs n.toNat).isSome := by
    rintro n ⟨e, he, rfl⟩
    obtain ⟨h0, hs⟩ := hre e he
    rw [h1, atFs_kept, if_pos]
    · exact hs
    · rw [List.any_eq_true]
      exact ⟨e, he, decide_eq_true (by omega)⟩
  refine ⟨fun n hn => ?_, h2, by rw [h3]; exact nl, nl, by rw [hds, hop]; simpa using nl, rm⟩
  rcases hn with q | q | ⟨o, ho, _⟩
  · exact key n q
  · rw [hds] at q; exact key n q
  · rw [hop] at ho; cases ho
theorem LayOk.put {L L' : Lay} {d : DskD} {n : Nat} {x : Nat × Nat} (h : LayOk L d) (f : FileD) (hn : n < L.fs.length) (h1 : L'.fs = L.fs.set n (some x)) (h2 : L'.mD = L.mD) (h3 : L'.mM = L.mM) : LayOk L' { d with files := d.files.set n f } := by
  refine ⟨fun i hi => ?_, by rw [h2]; exact h.md, by rw [h3]; exact h.mm, h.nl, h.sl, h.rm⟩
  rw [h1, atFs_set _ _ _ _ hn]
  split
  · rfl
  · exact h.re i hi
/-- The number of a valid file's is within the list. -/
theorem PkC.at_lt {w : World} {px pm : Nat} {L : Lay} {d : DskD} (h : PkC w px pm L d) {n p g : Nat} (hi : atFs L.fs n = some (p, g)) : n < d.files.length := by rw [← h.fl]; exact atFs_lt hi
set_option maxRecDepth 100000 in
set_option maxHeartbeats 1000000 in
theorem psyncDir_any {w : World} {px pm : Nat} {d : DskD} {B : List Nat} {k : Nat} (hp : PK w px pm d B) (hk : AllOk d k) (hk4 : k ≤ 400) :
    Calls Tryz.prog 30 #[.pointer (some ⟨px, 0, none⟩)] w (DidK PK px pm (syncDirK d).1 (.int .i64 (syncDirK d).2) B w) := by
  obtain ⟨L, h, hL, rfl⟩ := hp
  have hst := pstep_any h hL hk hk4
  have HK := Lib.hid hk
  by_cases hc : codeK d = 0
  · have hm : syncDirK d = ({ stepK d with ds := d.dn, ops := [] }, 0) := by unfold syncDirK; rw [if_neg (by simp [hc])]
    rw [hm]
    unfold Stepd at hst
    rw [hc] at hst
    have HST := Lib.hid hst
    clear h hL hk hc hm hst
    go_enter Tryz.func30, Tryz.ntmps30
    go_upto_region 4 with (go_at_call 45; refine HST.out.mono ?_; rintro e w1 ⟨L1, rfl, hw1, hL1, e1, e2, e3⟩)
    have hsm := HK.out.step
    have hst1 : (stepK d).steps ≤ 401 := by have := hsm.ok.st; omega
    have hmd1 : L1.mD ≤ 1000000 := by have := hL1.md; omega
    have hnl1 : d.dn.length ≤ 1000000 := by have := hsm.ok.nl; have h9 : (stepK d).dn = d.dn := rfl; rw [h9] at this; omega
    have hre1 : ∀ e ∈ d.dn, 0 ≤ e.2 ∧ e.2.toNat < d.files.length ∧ (atFs L1.fs e.2.toNat).isSome := fun e he => ⟨(HK.out.ok.nums e he).1, (HK.out.ok.nums e he).2, hL1.re e.2 (.inl ⟨e, he, rfl⟩)⟩
    obtain ⟨c0, c1, c2, c3, c4, f2, f3⟩ := hw1.pk.cells
    have HSY := Lib.hid (dsync_any L1.pd L1.mD L1.Bd _ _ _ w1 hw1.pk.dr hmd1)
    have HW1 := Lib.hid hw1
    have HL1 := Lib.hid hL1
    have HRE := Lib.hid hre1
    clear hw1 hL1 hre1
    go_wp2_with (first
      | (go_at_call 66; refine HSY.out.mono ?_; rintro e w2 ⟨rfl, ht⟩; obtain ⟨L2, g1, g2, g3, hw2⟩ := HW1.out.pk.dir ht; clear ht; have HFG := Lib.hid (pforget_any hw2.pk HK.out.ok.sn (by omega) hnl1 HK.out.okn (by have := HK.out.ok.fl; show d.files.length ≤ 1000000; omega) (fun e he => by rw [g1]; exact HRE.out e he)); have HW2 := Lib.hid hw2; clear hw2)
      | (go_at_call 54; refine HFG.out.mono ?_; rintro e w3 ⟨L3, rfl, k1, k2, k3, hw3⟩))
    go_ret
    refine did_mk ((HW1.out.trans HW2.out).trans hw3) (forgot_ok (L := L2) rfl rfl (fun e he => ?_) k1 ?_ k3 HL1.out.nl HL1.out.rm)
    · obtain ⟨q0, -, q2⟩ := HRE.out e he
      exact ⟨q0, by rw [g1]; exact q2⟩
    · rw [k2, g2]; exact HL1.out.md
  · have hm : syncDirK d = (stepK d, codeK d) := by unfold syncDirK; rw [if_pos hc]
    rw [hm]
    unfold Stepd at hst
    obtain ⟨c, hcc⟩ : ∃ c, c = codeK d := ⟨_, rfl⟩
    rw [← hcc] at hst hc ⊢
    have hc0 : (c == 0) = false := by rw [beq_eq_false_iff_ne]; exact hc
    have HST := Lib.hid hst
    clear h hL hk hc hm hst hcc
    go_enter Tryz.func30, Tryz.ntmps30
    go_wp2_with (go_at_call 45; refine HST.out.mono ?_; rintro e w1 ⟨L1, rfl, hw1, hL1, e1, e2, e3⟩)
    go_ret
    exact did_mk hw1 hL1
end Go.Proofs.YtmchnaojlnjmjaaGreat

/-! The program's disk (layer 11): New, Sync, Drop, Read, Names. -/
namespace Go.Proofs.YtmchnaojlnjmjaaGreat
open Go.RowKit Go.Maps

set_option maxRecDepth 100000 in
set_option maxHeartbeats 1000000 in
theorem pnew_any (room : Int) (w : World) (h0 : 0 ≤ room) (h1 : room ≤ 9223372036854775807) : Calls Tryz.prog 6 #[.int .i64 room] w fun e w' => ∃ px pm B, e = .returned (.pointer (some ⟨px, 0, none⟩)) ∧ PK w' px pm ⟨[], [], [], [], room, 0, false, []⟩ B ∧ Fr [] w w' ∧ ∀ k ∈ B, w.heap.size ≤ k := by
  have hmm := @run_makeMap Tryz.prog
  have hd : decide (room < 0) = false := decide_eq_false (by omega)
  go_enter Tryz.func6, Tryz.ntmps6
  go_upto_region 3 with fail
  go_wp2_with (first
    | (go_at_call 19; refine (mnew_any _).mono ?_; rintro e w1 ⟨pm, Bm, rfl, hm, hf1, hB1⟩)
    | (go_at_call 20; refine (dnew_any _).mono ?_; rintro e w2 ⟨pd, Bd, rfl, hdr, hf2, hB2⟩))
  go_ret
  have hfa := Fr.alloc w2 (.map #[] 0)
  have hfb := Fr.alloc (w2.alloc (.map #[] 0)) (.cells #[.pointer (some ⟨pm, 0, none⟩), .pointer (some ⟨pd, 0, none⟩), .map (some w2.heap.size), .int .i64 0, .int .i64 room] 64)
  have hfab := hfa.trans hfb (by simp) (n := []) (by simp)
  have hs1 := hf1.size
  have hs2 := hf2.size
  have hobj := heap_alloc_new (w2.alloc (.map #[] 0)) (.cells #[.pointer (some ⟨pm, 0, none⟩), .pointer (some ⟨pd, 0, none⟩), .map (some w2.heap.size), .int .i64 0, .int .i64 room] 64)
  rw [World.size_alloc] at hobj
  have hml := hm.lt
  have hdl := hdr.lt
  have hmp := pmapIs.made Tryz.prog 3 w2
  refine ⟨w2.heap.size + 1, pm, (Lay.mk pd w2.heap.size 0 0 Bm Bd [] (fun k => if k < w1.heap.size then 0 else if k < w2.heap.size then 1 else if k = w2.heap.size then 3 else 2)).blocks (w2.heap.size + 1), rfl,
    ⟨_, ⟨hobj, (hm.below hf2).below hfab, hdr.below hfab, ?_, rfl, fun n p g e => by simp [atFs] at e, ?_, ?_, ?_, ?_, fun n p g e => by simp [atFs] at e⟩, ⟨?_, Int.le_refl _, Int.le_refl _, Int.le_refl _, Int.le_refl _, h0, h1⟩, rfl⟩, ?_, ?_⟩
  · have : (fun _ : Int => (none : Option Nat)) = fsF [] := by funext k; unfold fsF; simp [atFs]
    rw [this] at hmp
    exact hmp.below hfb
  · show (if w2.heap.size + 1 < w1.heap.size then 0 else if w2.heap.size + 1 < w2.heap.size then 1 else if w2.heap.size + 1 = w2.heap.size then 3 else 2) = 2
    rw [if_neg (by omega), if_neg (by omega), if_neg (by omega)]
  · show (if w2.heap.size < w1.heap.size then 0 else if w2.heap.size < w2.heap.size then 1 else if w2.heap.size = w2.heap.size then 3 else 2) = 3
    rw [if_neg (by omega), if_neg (by omega), if_pos rfl]
  · intro k hk
    exact if_pos (hml k hk)
  · intro k hk
    have h7 := hB2 k hk
    have h2 := hdl k hk
    show (if k < w1.heap.size then 0 else if k < w2.heap.size then 1 else if k = w2.heap.size then 3 else 2) = 1
    rw [if_neg (by omega), if_pos h2]
  · rintro n (⟨e, he, _⟩ | ⟨e, he, _⟩ | ⟨e, he, _⟩) <;> cases he
  · exact (hf1.trans hf2 (by simp) (n := []) (by simp)).trans hfab (by simp) (by simp)
  · intro j hj
    rcases Lay.blocks_iff.1 hj with q | q | q | q | ⟨n, p, g, e, _⟩
    · omega
    · have : j = w2.heap.size := q
      omega
    · exact hB1 j q
    · have := hB2 j q; omega
    · simp [atFs] at e
set_option maxRecDepth 100000 in
set_option maxHeartbeats 1000000 in
theorem psync_any {w : World} {px pm : Nat} {d : DskD} {B : List Nat} {k : Nat} (m : List UInt8) (hp : PK w px pm d B) (hk : AllOk d k) (hk4 : k ≤ 400) (hm : m.length ≤ maxLen) :
    Calls Tryz.prog 16 #[.pointer (some ⟨px, 0, none⟩), encStr m] w (DidK PK px pm (syncK d m).1 (.int .i64 (syncK d m).2) B w) := by
  obtain ⟨L, h, hL, rfl⟩ := hp
  have hst := pstep_any h hL hk hk4
  have HK := Lib.hid hk
  unfold Stepd at hst
  by_cases hc : codeK d = 0
  · rw [hc] at hst
    have HST := Lib.hid hst
    cases hlk : lookL d.dn m with
    | none =>
      have hmm : syncK d m = (stepK d, 7) := by unfold syncK; rw [if_neg (by simp [hc]), hlk]
      rw [hmm]
      have HLK := Lib.hid hlk
      clear h hL hk hc hst hmm hlk
      go_enter Tryz.func16, Tryz.ntmps16
      go_wp2_with (first
        | (go_at_call 45; refine HST.out.mono ?_; rintro e w1 ⟨L1, rfl, hw1, hL1, e1, e2, e3⟩)
        | (go_at_call 42; refine (pfile_none hw1.pk m hm HLK.out).mono ?_; rintro e w2 ⟨rfl, rfl⟩))
      go_ret
      exact did_mk hw1 hL1
    | some v =>
      obtain ⟨n, p, g, ev, hat, hnl, hfk⟩ := hL.found h hk hlk
      have hmm : syncK d m = ({ stepK d with files := d.files.set n ⟨(fileN d n).now, (fileN d n).now⟩ }, 0) := by
        unfold syncK putK
        rw [if_neg (by simp [hc]), hlk]
        simp only
        rw [hfk, ev]; rfl
      rw [hmm]
      rw [ev] at hlk
      have HLK := Lib.hid hlk
      have HAT := Lib.hid hat
      have hfl := hk.ok.fl
      have hn6 : n ≤ 1000000 := by omega
      have HNL := Lib.hid hnl
      clear h hL hk hc hst hmm hlk hat ev hfk hnl hfl
      go_enter Tryz.func16, Tryz.ntmps16
      go_wp2_with (first
        | (go_at_call 45; refine HST.out.mono ?_; rintro e w1 ⟨L1, rfl, hw1, hL1, e1, e2, e3⟩; have HAT1 := Lib.hid (show atFs L1.fs n = some (p, g) by rw [e1]; exact HAT.out))
        | (go_at_call 42; refine (pfile_some hw1.pk m hm n HLK.out HAT1.out hn6).mono ?_; rintro e w2 ⟨rfl, rfl⟩)
        | (go_at_call 51; refine (isync_any p g _ _ w1 (hw1.pk.fi n p g HAT1.out)).mono ?_; rintro e w3 ⟨rfl, hF, hf3⟩))
      go_ret
      obtain ⟨L2, k1, k2, k3, hw2⟩ := hw1.pk.file HAT1.out ⟨(fileN d n).now, (fileN d n).now⟩ hF (hf3.mono (by simp)) (.inl rfl)
      exact did_mk (hw1.trans hw2) (hL1.put _ (atFs_lt HAT1.out) k1 k2 k3)
  · have hmm : syncK d m = (stepK d, codeK d) := by unfold syncK; rw [if_pos hc]
    rw [hmm]
    obtain ⟨c, hcc⟩ : ∃ c, c = codeK d := ⟨_, rfl⟩
    rw [← hcc] at hst hc ⊢
    have hc0 : (c == 0) = false := by rw [beq_eq_false_iff_ne]; exact hc
    have HST := Lib.hid hst
    clear h hL hk hc hmm hst hcc
    go_enter Tryz.func16, Tryz.ntmps16
    go_wp2_with (go_at_call 45; refine HST.out.mono ?_; rintro e w1 ⟨L1, rfl, hw1, hL1, e1, e2, e3⟩)
    go_ret
    exact did_mk hw1 hL1
set_option maxRecDepth 100000 in
set_option maxHeartbeats 1000000 in
theorem pread_any {w : World} {px pm : Nat} {d : DskD} {B : List Nat} {k : Nat} (m : List UInt8) (hp : PK w px pm d B) (hk : AllOk d k) (hk4 : k ≤ 400) (hm : m.length ≤ maxLen) :
    Calls Tryz.prog 11 #[.pointer (some ⟨px, 0, none⟩), encStr m] w fun e w' => ∃ v, e = .returned (.tuple #[v, .int .i64 (readK d m).2]) ∧ bytesAt w' v (readK d m).1 ∧ Fr [] w w' ∧ ∀ j, v.ownBlock = some j → w.heap.size ≤ j := by
  obtain ⟨L, h, hL, rfl⟩ := hp
  obtain ⟨c0, c1, c2, c3, c4, f2, f3⟩ := h.cells
  have hdo := mdown_any pm L.Bm _ _ _ w h.mt
  cases hdn : d.down with
  | true =>
    rw [hdn] at hdo
    have hr : readK d m = ([], 11) := by unfold readK; rw [hdn]; rfl
    rw [hr]
    have HDO := Lib.hid hdo
    clear h hL hk hdo hdn hr
    go_enter Tryz.func11, Tryz.ntmps11
    go_wp2_with (go_at_call 36; refine HDO.out.mono ?_; rintro e w1 ⟨rfl, rfl⟩)
    go_ret2
    exact ⟨_, rfl, bytesAt.nil _, Fr.refl _ _, fun j hj => by cases hj⟩
  | false =>
    rw [hdn] at hdo
    have HDO := Lib.hid hdo
    cases hlk : lookL d.dn m with
    | none =>
      have hr : readK d m = ([], 7) := by unfold readK; rw [hdn, hlk]; rfl
      rw [hr]
      have HFI := Lib.hid (pfile_none h m hm hlk)
      clear h hL hk hdo hdn hr hlk
      go_enter Tryz.func11, Tryz.ntmps11
      go_wp2_with (first
        | (go_at_call 36; refine HDO.out.mono ?_; rintro e w1 ⟨rfl, rfl⟩)
        | (go_at_call 42; refine HFI.out.mono ?_; rintro e w2 ⟨rfl, rfl⟩))
      go_ret2
      exact ⟨_, rfl, bytesAt.nil _, Fr.refl _ _, fun j hj => by cases hj⟩
    | some v =>
      obtain ⟨n, p, g, ev, hat, hnl, hfk⟩ := hL.found h hk hlk
      have hr : readK d m = ((fileN d n).now, 0) := by
        unfold readK
        rw [hdn, hlk]
        simp only
        rw [hfk]; rfl
      rw [hr]
      rw [ev] at hlk
      have hfl := hk.ok.fl
      have HFI := Lib.hid (pfile_some h m hm n hlk hat (by omega))
      have hfm : fileN d n ∈ d.files := by unfold fileN; simp only [List.getD, List.getElem?_eq_getElem hnl, Option.getD_some]; exact List.getElem_mem hnl
      have hln := hk.ok.len _ hfm
      have HBY := Lib.hid (ibytes_any p g _ _ w (h.fi n p g hat) (by omega))
      clear h hL hk hdo hdn hr hlk hat hfk ev hnl hfm hln hfl
      go_enter Tryz.func11, Tryz.ntmps11
      go_wp2_with (first
        | (go_at_call 36; refine HDO.out.mono ?_; rintro e w1 ⟨rfl, rfl⟩)
        | (go_at_call 42; refine HFI.out.mono ?_; rintro e w2 ⟨rfl, rfl⟩)
        | (go_at_call 43; refine HBY.out.mono ?_; rintro e w3 ⟨v3, rfl, hb3, hn3, hf3⟩))
      go_ret2
      exact ⟨_, rfl, hb3, hf3, hn3⟩
end Go.Proofs.YtmchnaojlnjmjaaGreat

/-! The program's disk (layer 11): Drop, Move. Written by wip/tools/gen_pf.py. -/
namespace Go.Proofs.YtmchnaojlnjmjaaGreat
open Go.RowKit Go.Maps

theorem steps_up {d : DskD} (hc : codeK d = 0) : (stepK d).steps = d.steps + 1 := by
  show (if d.down then d.steps else d.steps + 1) = d.steps + 1
  cases hdn : d.down with
  | true => unfold codeK at hc; rw [hdn] at hc; simp at hc
  | false => rfl
theorem LayOk.act {L L2 : Lay} {d : DskD} {k : Nat} (hL : LayOk L d) (hk : AllOk d k) (hc : codeK d = 0) (o : OpD) (fs : List FileD) (h1 : ∀ n, (atFs L.fs n).isSome → (atFs L2.fs n).isSome) (h2 : L2.mD = L.mD + 1) (h3 : L2.mM ≤ L.mM + 1) (ho : o.kind = 0 → (atFs L2.fs o.n.toNat).isSome) :
    LayOk L2 { stepK d with dn := applyL d.dn o, ops := d.ops ++ [o], files := fs } := by
  have hs := steps_up hc
  have hle := applyL_le d.dn o
  have a1 := hL.md
  have a2 := hL.mm
  have a3 := hL.nl
  have a4 := hL.sl
  refine ⟨fun n hn => ?_, ?_, ?_, ?_, ?_, hL.rm⟩
  · rcases hn with ⟨e, he, rfl⟩ | ⟨e, he, rfl⟩ | ⟨q, hq, hq0, rfl⟩
    · exact nums_apply hk.ok.sn o (fun n => (atFs L2.fs n.toNat).isSome) (fun e he => h1 _ (hL.re _ (.inl ⟨e, he, rfl⟩))) ho e he
    · exact h1 _ (hL.re _ (.inr (.inl ⟨e, he, rfl⟩)))
    · rcases List.mem_append.1 hq with r | r
      · exact h1 _ (hL.re _ (.inr (.inr ⟨q, r, hq0, rfl⟩)))
      · obtain rfl := List.mem_singleton.1 r
        exact ho hq0
  · show (L2.mD : Int) ≤ (stepK d).steps
    rw [hs, h2]; omega
  · show (L2.mM : Int) ≤ (stepK d).steps
    rw [hs]; omega
  · show (((applyL d.dn o).length : Nat) : Int) ≤ (stepK d).steps
    rw [hs]; omega
  · show ((d.ds.length + (d.ops ++ [o]).length : Nat) : Int) ≤ (stepK d).steps
    rw [hs, List.length_append, List.length_singleton]; omega

set_option maxRecDepth 100000 in
set_option maxHeartbeats 1000000 in
theorem pdrop_any {w : World} {px pm : Nat} {d : DskD} {B : List Nat} {k : Nat} (m : List UInt8) (hp : PK w px pm d B) (hk : AllOk d k) (hk4 : k ≤ 400) (hm : m.length ≤ maxLen) :
    Calls Tryz.prog 32 #[.pointer (some ⟨px, 0, none⟩), encStr m] w (DidK PK px pm (dropK d m).1 (.int .i64 (dropK d m).2) B w) := by
  obtain ⟨L, h, hL, rfl⟩ := hp
  have hst := pstep_any h hL hk hk4
  have HK := Lib.hid hk
  have HL := Lib.hid hL
  unfold Stepd at hst
  by_cases hc : codeK d = 0
  · rw [hc] at hst
    have HST := Lib.hid hst
    have HC := Lib.hid hc
    cases hlk : (lookL d.dn m).isSome with
    | false =>
      have hmm : dropK d m = (stepK d, 7) := by unfold dropK; rw [if_neg (by simp [hc]), if_pos hlk]
      rw [hmm]
      have HLK := Lib.hid hlk
      clear h hL hk hc hst hmm hlk
      go_enter Tryz.func32, Tryz.ntmps32
      go_wp2_with (first
        | (go_at_call 45; refine HST.out.mono ?_; rintro e w1 ⟨L1, rfl, hw1, hL1, e1, e2, e3⟩; obtain ⟨c0, c1, c2, c3, c4, f2, f3⟩ := hw1.pk.cells)
        | (go_at_call 68; refine (ddrop_no L1.pd L1.mD L1.Bd _ _ _ m _ hw1.pk.dr hm HLK.out).mono ?_; rintro e w2 ⟨rfl, rfl⟩))
      go_ret
      exact did_mk hw1 hL1
    | true =>
      have hmm : dropK d m = ({ stepK d with dn := applyL d.dn ⟨1, m, [], 0⟩, ops := d.ops ++ [⟨1, m, [], 0⟩] }, 0) := by unfold dropK; rw [if_neg (by simp [hc]), if_neg (by simp [hlk])]
      rw [hmm]
      have HLK := Lib.hid hlk
      have hmd : L.mD ≤ 500 := by have := hL.md; have := hk.ok.st; omega
      clear h hL hk hc hst hmm hlk
      go_enter Tryz.func32, Tryz.ntmps32
      go_wp2_with (first
        | (go_at_call 45; refine HST.out.mono ?_; rintro e w1 ⟨L1, rfl, hw1, hL1, e1, e2, e3⟩; obtain ⟨c0, c1, c2, c3, c4, f2, f3⟩ := hw1.pk.cells)
        | (go_at_call 68; refine (ddrop_yes L1.pd L1.mD L1.Bd _ _ _ m _ hw1.pk.dr hm HLK.out (by omega)).mono ?_; rintro e w2 ⟨rfl, ht⟩))
      go_ret
      obtain ⟨L2, g1, g2, g3, hw2⟩ := hw1.pk.dir ht
      exact did_mk (hw1.trans hw2) (HL.out.act HK.out HC.out _ d.files (fun n q => by rw [g1, e1]; exact q) (by omega) (by omega) (fun h0 => absurd (show (1 : Int) = 0 from h0) (by decide)))
  · have hmm : dropK d m = (stepK d, codeK d) := by unfold dropK; rw [if_pos hc]
    rw [hmm]
    obtain ⟨c, hcc⟩ : ∃ c, c = codeK d := ⟨_, rfl⟩
    rw [← hcc] at hst hc ⊢
    have hc0 : (c == 0) = false := by rw [beq_eq_false_iff_ne]; exact hc
    have HST := Lib.hid hst
    clear h hL hk hc hmm hst hcc
    go_enter Tryz.func32, Tryz.ntmps32
    go_wp2_with (go_at_call 45; refine HST.out.mono ?_; rintro e w1 ⟨L1, rfl, hw1, hL1, e1, e2, e3⟩)
    go_ret
    exact did_mk hw1 hL1
set_option maxRecDepth 100000 in
set_option maxHeartbeats 1000000 in
theorem pmove_any {w : World} {px pm : Nat} {d : DskD} {B : List Nat} {k : Nat} (a b : List UInt8) (hp : PK w px pm d B) (hk : AllOk d k) (hk4 : k ≤ 400) (hm : a.length ≤ maxLen) (hm2 : b.length ≤ maxLen) :
    Calls Tryz.prog 31 #[.pointer (some ⟨px, 0, none⟩), encStr a, encStr b] w (DidK PK px pm (moveK d a b).1 (.int .i64 (moveK d a b).2) B w) := by
  obtain ⟨L, h, hL, rfl⟩ := hp
  have hst := pstep_any h hL hk hk4
  have HK := Lib.hid hk
  have HL := Lib.hid hL
  have his := fun wx => pisname_any b hm2 wx
  unfold Stepd at hst
  by_cases hc : codeK d = 0
  · rw [hc] at hst
    have HST := Lib.hid hst
    have HC := Lib.hid hc
    cases hr : rightB b with
    | false =>
      have hmm : moveK d a b = (stepK d, 1) := by unfold moveK; rw [if_neg (by simp [hc]), if_pos hr]
      rw [hmm]
      rw [hr] at his
      have HIS := Lib.hid his
      clear h hL hk hc hst hmm hr his
      go_enter Tryz.func31, Tryz.ntmps31
      go_wp2_with (first
        | (go_at_call 45; refine HST.out.mono ?_; rintro e w1 ⟨L1, rfl, hw1, hL1, e1, e2, e3⟩; obtain ⟨c0, c1, c2, c3, c4, f2, f3⟩ := hw1.pk.cells)
        | (go_at_call 13; refine (HIS.out _).mono ?_; rintro e w2 ⟨rfl, hf2⟩; have hp2 := hw1.pk.below hf2; clear c0 c1 c2 c3 c4 f2 f3; obtain ⟨c0, c1, c2, c3, c4, f2, f3⟩ := hp2.cells))
      go_ret
      exact did_mk (hw1.after hf2) hL1
    | true =>
      rw [hr] at his
      have HIS := Lib.hid his
      cases hlk : (lookL d.dn a).isSome with
      | false =>
        have hmm : moveK d a b = (stepK d, 7) := by unfold moveK; rw [if_neg (by simp [hc]), if_neg (by simp [hr]), if_pos hlk]
        rw [hmm]
        have HLK := Lib.hid hlk
        clear h hL hk hc hst hmm hlk hr his
        go_enter Tryz.func31, Tryz.ntmps31
        go_wp2_with (first
          | (go_at_call 45; refine HST.out.mono ?_; rintro e w1 ⟨L1, rfl, hw1, hL1, e1, e2, e3⟩; obtain ⟨c0, c1, c2, c3, c4, f2, f3⟩ := hw1.pk.cells)
          | (go_at_call 13; refine (HIS.out _).mono ?_; rintro e w2 ⟨rfl, hf2⟩; have hp2 := hw1.pk.below hf2; clear c0 c1 c2 c3 c4 f2 f3; obtain ⟨c0, c1, c2, c3, c4, f2, f3⟩ := hp2.cells)
          | (go_at_call 67; refine (dmove_no L1.pd L1.mD L1.Bd _ _ _ a b _ hp2.dr hm HLK.out).mono ?_; rintro e w3 ⟨rfl, rfl⟩))
        go_ret
        exact did_mk (hw1.after hf2) hL1
      | true =>
        have HLK := Lib.hid hlk
        have hmd : L.mD ≤ 500 := by have := hL.md; have := hk.ok.st; omega
        by_cases hab : a = b
        · have hmm : moveK d a b = (stepK d, 0) := by unfold moveK; rw [if_neg (by simp [hc]), if_neg (by simp [hr]), if_neg (by simp [hlk]), if_pos hab]
          rw [hmm]
          have HAB := Lib.hid hab
          clear h hL hk hc hst hmm hlk hr his hab
          go_enter Tryz.func31, Tryz.ntmps31
          go_wp2_with (first
            | (go_at_call 45; refine HST.out.mono ?_; rintro e w1 ⟨L1, rfl, hw1, hL1, e1, e2, e3⟩; obtain ⟨c0, c1, c2, c3, c4, f2, f3⟩ := hw1.pk.cells)
            | (go_at_call 13; refine (HIS.out _).mono ?_; rintro e w2 ⟨rfl, hf2⟩; have hp2 := hw1.pk.below hf2; clear c0 c1 c2 c3 c4 f2 f3; obtain ⟨c0, c1, c2, c3, c4, f2, f3⟩ := hp2.cells)
            | (go_at_call 67; rw [← HAB.out]; refine (dmove_same L1.pd L1.mD L1.Bd _ _ _ a _ hp2.dr hm HLK.out).mono ?_; rintro e w3 ⟨rfl, rfl⟩))
          go_ret
          exact did_mk (hw1.after hf2) hL1
        · have hmm : moveK d a b = ({ stepK d with dn := applyL d.dn ⟨2, a, b, 0⟩, ops := d.ops ++ [⟨2, a, b, 0⟩] }, 0) := by unfold moveK; rw [if_neg (by simp [hc]), if_neg (by simp [hr]), if_neg (by simp [hlk]), if_neg hab]
          rw [hmm]
          have HAB := Lib.hid hab
          clear h hL hk hc hst hmm hlk hr his hab
          go_enter Tryz.func31, Tryz.ntmps31
          go_wp2_with (first
            | (go_at_call 45; refine HST.out.mono ?_; rintro e w1 ⟨L1, rfl, hw1, hL1, e1, e2, e3⟩; obtain ⟨c0, c1, c2, c3, c4, f2, f3⟩ := hw1.pk.cells)
            | (go_at_call 13; refine (HIS.out _).mono ?_; rintro e w2 ⟨rfl, hf2⟩; have hp2 := hw1.pk.below hf2; clear c0 c1 c2 c3 c4 f2 f3; obtain ⟨c0, c1, c2, c3, c4, f2, f3⟩ := hp2.cells)
            | (go_at_call 67; refine (dmove_yes L1.pd L1.mD L1.Bd _ _ _ a b _ hp2.dr hm hm2 HAB.out HLK.out (by omega)).mono ?_; rintro e w3 ⟨rfl, ht⟩))
          go_ret
          obtain ⟨L2, g1, g2, g3, hw2⟩ := hp2.dir ht
          exact did_mk ((hw1.after hf2).trans hw2) (HL.out.act HK.out HC.out _ d.files (fun n q => by rw [g1, e1]; exact q) (by omega) (by omega) (fun h0 => absurd (show (2 : Int) = 0 from h0) (by decide)))
  · have hmm : moveK d a b = (stepK d, codeK d) := by unfold moveK; rw [if_pos hc]
    rw [hmm]
    obtain ⟨c, hcc⟩ : ∃ c, c = codeK d := ⟨_, rfl⟩
    rw [← hcc] at hst hc ⊢
    have hc0 : (c == 0) = false := by rw [beq_eq_false_iff_ne]; exact hc
    have HST := Lib.hid hst
    clear h hL hk hc hmm hst hcc his
    go_enter Tryz.func31, Tryz.ntmps31
    go_wp2_with (go_at_call 45; refine HST.out.mono ?_; rintro e w1 ⟨L1, rfl, hw1, hL1, e1, e2, e3⟩)
    go_ret
    exact did_mk hw1 hL1
end Go.Proofs.YtmchnaojlnjmjaaGreat
