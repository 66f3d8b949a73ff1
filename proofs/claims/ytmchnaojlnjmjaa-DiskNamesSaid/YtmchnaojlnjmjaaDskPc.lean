/- The program's disk (layer 11): New, forget, SyncDir. -/
import Derived.Test.YtmchnaojlnjmjaaDskPb
import Derived.Test.YtmchnaojlnjmjaaShelf
namespace Go.Proofs.Ytmchnaojlnjmjaa
open Go.RowKit Go.Maps

def PForgetRel (w w1 : World) (b : Nat) (fs : Fs) (C : List Ent) (iv : Value) (wx : World) : Prop := ∃ k : Nat, k ≤ C.length ∧ iv = .int .i64 (k : Int) ∧ pmapIs Try.prog 3 wx b k (fsF (keptFs fs (C.take k))) ∧ Fr [b] w1 wx
theorem kept_none (fs : Fs) : fsF (keptFs fs []) = fun _ => none := by
  funext k
  unfold fsF
  rw [atFs_kept]
  split <;> rfl
theorem kept_next (fs : Fs) (C : List Ent) (k n p g : Nat) (hk : k < C.length) (hn : (C[k]'hk).2 = (n : Int)) (hi : atFs fs n = some (p, g)) : (fun j : Int => if j = (n : Int) then some p else fsF (keptFs fs (C.take k)) j) = fsF (keptFs fs (C.take (k + 1))) := by
  funext j
  unfold fsF
  rw [atFs_kept, atFs_kept, List.take_succ_eq_append_getElem hk, List.any_append]
  by_cases hj : j < 0
  · rw [if_neg (by omega), if_pos hj, if_pos hj]
  · rw [if_neg hj, if_neg hj]
    by_cases e : j = (n : Int)
    · rw [if_pos e]
      have e2 : j.toNat = n := by omega
      rw [e2]
      simp [hn, hi]
    · rw [if_neg e]
      have e4 : ([C[k]'hk].any fun e => decide (e.2 = ((j.toNat : Nat) : Int))) = false := by
        rw [List.any_cons, List.any_nil, Bool.or_false, hn]
        exact decide_eq_false (by omega)
      rw [e4, Bool.or_false]
def Forgot (w : World) (px pm : Nat) (L : Lay) (d : DskD) (e : Ending) (w' : World) : Prop := ∃ L' : Lay, e = .returned (.tuple #[]) ∧ L'.fs = keptFs L.fs d.dn ∧ L'.mD = L.mD ∧ L'.mM = d.dn.length ∧ Went px pm L L' d w w'
set_option maxRecDepth 100000 in
set_option maxHeartbeats 1000000 in
theorem pforget_any {w : World} {px pm : Nat} {L : Lay} {d : DskD} (h : PkC w px pm L d) (hs : sortedL d.dn) (hmd : L.mD ≤ 1000000) (hnl : d.dn.length ≤ 1000000) (hok : okNames d.dn) (hfl : d.files.length ≤ 1000000) (hre : ∀ e ∈ d.dn, 0 ≤ e.2 ∧ e.2.toNat < d.files.length ∧ (atFs L.fs e.2.toNat).isSome) :
    Calls Try.prog 34 #[.pointer (some ⟨px, 0, none⟩)] w (Forgot w px pm L d) := by
  have hmm := @run_makeMap Try.prog
  have hfa := Fr.alloc w (.map #[] 0)
  have hlt := h.lt
  have HLI := Lib.hid (plisted_any (h.below hfa) hs hmd)
  have hmk := pmapIs.made Try.prog 3 w
  obtain ⟨w0, hw0⟩ : ∃ w0, w0 = w.alloc (.map #[] 0) := ⟨_, rfl⟩
  obtain ⟨b, hb⟩ : ∃ b, b = w.heap.size := ⟨_, rfl⟩
  have hs0 : w0.heap.size = b + 1 := by rw [hw0, hb, World.size_alloc]
  rw [← hw0] at HLI hfa hmk
  rw [← hb] at hmk hlt
  rw [← kept_none L.fs] at hmk
  have HS := Lib.hid hs
  have HH := Lib.hid h
  have HLT := Lib.hid hlt
  have HFA := Lib.hid hfa
  have HMK := Lib.hid hmk
  have HRE := Lib.hid hre
  have HOK := Lib.hid hok
  have HW0 := Lib.hid hw0
  have HB := Lib.hid hb
  clear h hs hlt hfa hmk hre hok hw0 hb
  go_enter Try.func34, Try.ntmps34
  go_upto_region 1 with fail
  rw [← HW0.out, ← HB.out]
  go_wp2_with (go_at_call 26; refine HLI.out.mono ?_; rintro e w1 ⟨v, rfl, hv, hf1⟩; obtain ⟨a0, c0, rfl, hlc, hmc⟩ := names_slice hv)
  have HV := Lib.hid hv
  have HF1 := Lib.hid hf1
  clear hv hf1
  go_loopw [11] (PForgetRel w w1 b L.fs d.dn) (fun iv _ => d.dn.length - (intOf iv).toNat)
  case atStart => exact ⟨0, Nat.zero_le _, rfl, HMK.out.below HF1.out, Fr.refl _ _⟩
  case round =>
    obtain ⟨i, hi, rfl, hmp, hf⟩ := hrel
    have HF := Lib.hid hf
    have hPw : PkC wr px pm L d := (HH.out.below (HFA.out.trans HF1.out (by simp) (n := []) (by simp))).kept hf (fun k hk hm => by
      have h1 := HLT.out k hk
      have h2 : k = b := by simpa using hm
      omega)
    by_cases hin : i < d.dn.length
    · have hd2 : decide (i < d.dn.length) = true := decide_eq_true hin
      have hvr := owns_kept HV.out hf (fun k hk hm => by
        have h1 := (HV.out.lt k hk).1
        have h2 : k = b := by simpa using hm
        omega)
      obtain ⟨bb, off, rfl, hc⟩ := names_at hvr (Fr.refl [] wr) i hin
      have hlk := look_mem HS.out _ (List.getElem_mem hin)
      obtain ⟨h0, h1, h2⟩ := HRE.out _ (List.getElem_mem hin)
      obtain ⟨⟨p, g⟩, hpg⟩ := Option.isSome_iff_exists.1 h2
      obtain ⟨n, hn⟩ : ∃ n : Nat, (d.dn[i]'hin).2 = (n : Int) := ⟨(d.dn[i]'hin).2.toNat, by omega⟩
      rw [hn, Int.toNat_natCast] at h1 hpg
      have HNX := Lib.hid (kept_next L.fs d.dn i n p g hin hn hpg)
      rw [hn] at hlk
      have hget := dget_any L.pd L.mD L.Bd d.dn d.ds d.ops _ wr hPw.dr (HOK.out _ (List.getElem_mem hin))
      have hnu : numL d.dn (d.dn[i]'hin).1 = (n : Int) := by unfold numL; rw [hlk]; rfl
      rw [hlk, hnu] at hget
      obtain ⟨nm, hnme⟩ : ∃ nm, nm = (d.dn[i]'hin).1 := ⟨_, rfl⟩
      rw [← hnme] at hc hget
      have HG := Lib.hid hget
      have hF : fsF L.fs (n : Int) = some p := by
        unfold fsF
        rw [if_neg (by omega), Int.toNat_natCast, hpg]; rfl
      have HPF := Lib.hid hF
      have HMP := Lib.hid hmp
      have HOM := Lib.hid hPw.mp
      obtain ⟨c0', c1', c2', c3', c4', f2', f3'⟩ := hPw.cells
      have hwf := wf_small (n := (n : Int)) (by omega) (by omega)
      clear hf hPw hlk h0 h2 hpg hn hget hnu hnme hF hvr hmp
      go_wp2_with (first
        | (go_at_call 46; refine HG.out.mono ?_; rintro e w2 ⟨rfl, rfl⟩)
        | (at_lookup; refine wpL_plook rfl _ _ 45 rfl 3 57 Try.underlying3 Try.underlying45 rfl L.bM L.mM (fsF L.fs) rfl HOM.out (n : Int) rfl hwf ?_; rw [HPF.out])
        | (at_mapUpdate; refine wpL_pput rfl _ _ _ 45 rfl 3 57 Try.underlying3 Try.underlying45 b i _ rfl HMP.out (by simp [maxLen]; omega) (n : Int) rfl hwf p rfl ?_; intro w3 hm3 hf3; rw [HNX.out] at hm3))
      exact ⟨⟨i + 1, by omega, by go_num, hm3, HF.out.trans hf3 (fun _ q _ => q) (fun _ q _ => q)⟩, by simp [intOf]; omega⟩
    · have hd2 : decide (i < d.dn.length) = false := decide_eq_false hin
      obtain rfl : i = d.dn.length := by omega
      rw [List.take_length] at hmp
      have hobj := hPw.obj
      obtain ⟨c0', c1', c2', c3', c4', f2', f3'⟩ := hPw.cells
      have HMP := Lib.hid hmp
      have HOB := Lib.hid hobj
      clear hf hPw hmp hobj
      go_wp2_with fail
      go_end0
      have hfr : Fr [] w wr := (HFA.out.trans HF1.out (by simp) (n := []) (by simp)).new HF.out (fun j hj => by
        have h2 : j = b := by simpa using hj
        have h3 := HB.out
        omega)
      obtain ⟨L', e1, e2, e3, e4⟩ := HH.out.part d.dn HMP.out hfr (by have := HB.out; omega) (Fr.set0 wr px 2 (.map (some b))) (by have := heap_setCell_same HOB.out (i := 2) (.map (some b)); exact this)
      exact ⟨L', rfl, e1, e2, e3, e4⟩
end Go.Proofs.Ytmchnaojlnjmjaa
