/- The program's disk (layer 11): step, listed, file, Pending. -/
import Derived.Test.YtmchnaojlnjmjaaGreatDskPk
import Derived.Test.YtmchnaojlnjmjaaGreatDirG
import Derived.Test.YtmchnaojlnjmjaaGreatBs
namespace Go.Proofs.YtmchnaojlnjmjaaGreat
open Go.RowKit Go.Maps

/-- Behind a step. -/
def Stepd (w : World) (px pm : Nat) (L : Lay) (d : DskD) (e : Ending) (w' : World) : Prop := ∃ L' : Lay, e = .returned (.int .i64 (codeK d)) ∧ Went px pm L L' (stepK d) w w' ∧ LayOk L' (stepK d) ∧ L'.fs = L.fs ∧ L'.mD = L.mD ∧ L'.mM = L.mM
theorem LayOk.step {L L' : Lay} {d : DskD} (h : LayOk L d) (h1 : L'.fs = L.fs) (h2 : L'.mD = L.mD) (h3 : L'.mM = L.mM) : LayOk L' (stepK d) := by
  have hs : d.steps ≤ (stepK d).steps := by show d.steps ≤ (if d.down then d.steps else d.steps + 1); split <;> omega
  exact ⟨fun n hn => by rw [h1]; exact h.re n hn, by rw [h2]; exact Int.le_trans h.md hs, by rw [h3]; exact Int.le_trans h.mm hs, Int.le_trans h.nl hs, Int.le_trans h.sl hs, h.rm⟩
set_option maxRecDepth 100000 in
theorem pstep_any {w : World} {px pm k : Nat} {L : Lay} {d : DskD} (h : PkC w px pm L d) (hL : LayOk L d) (hk : AllOk d k) (hk4 : k ≤ 400) :
    Calls Tryz.prog 45 #[.pointer (some ⟨px, 0, none⟩)] w (Stepd w px pm L d) := by
  have hst := hk.ok.st
  have HS := Lib.hid (step_any pm L.Bm d.steps d.down (liveF d.armed d.steps) w h.mt ⟨hk.ok.st0, by omega⟩ (liveF_kinds hk.kinds _))
  have hc : stepC d.down (liveF d.armed d.steps) d.steps = codeK d := by unfold stepC codeK; rw [liveF_hit]
  have hl : stepL d.down (liveF d.armed d.steps) d.steps = liveF d.armed (stepN d.down d.steps) := by
    unfold stepL stepN
    split
    · rfl
    · exact liveF_keep _ _
  rw [hc] at HS
  obtain ⟨c, hcc⟩ : ∃ c, c = codeK d := ⟨_, rfl⟩
  obtain ⟨c0, c1, c2, c3, c4, f2, f3⟩ := h.cells
  have HH := Lib.hid h
  have HL := Lib.hid hL
  have HLL := Lib.hid hl
  clear h hL hk hc hl
  go_enter Tryz.func45, Tryz.ntmps45
  go_wp2_with (go_at_call 74; refine HS.out.mono ?_; rintro e w1 ⟨rfl, ht⟩)
  go_ret
  obtain ⟨L', h1, h2, h3, h4⟩ := HH.out.meter ht d.armed HLL.out
  exact ⟨L', rfl, h4, HL.out.step h1 h2 h3, h1, h2, h3⟩
theorem plisted_any {w : World} {px pm : Nat} {L : Lay} {d : DskD} (h : PkC w px pm L d) (hs : sortedL d.dn) (hm : L.mD ≤ 1000000) :
    Calls Tryz.prog 46 #[.pointer (some ⟨px, 0, none⟩)] w (Namesd d.dn w) := by
  have HS := Lib.hid (dnames_any L.pd L.mD L.Bd d.dn d.ds d.ops w h.dr hs hm)
  obtain ⟨c0, c1, c2, c3, c4, f2, f3⟩ := h.cells
  clear h hs
  go_enter Tryz.func46, Tryz.ntmps46
  go_wp2_with (go_at_call 75; refine HS.out.mono ?_; rintro e w1 ⟨v, rfl, hv, hf⟩)
  go_ret
  exact ⟨v, rfl, hv, hf⟩
theorem ppending_any {w : World} {px pm : Nat} {L : Lay} {d : DskD} (h : PkC w px pm L d) :
    Calls Tryz.prog 41 #[.pointer (some ⟨px, 0, none⟩)] w fun e w' => e = .returned (.int .i64 ((d.ops.length : Nat) : Int)) ∧ w = w' := by
  have HS := Lib.hid (dpending_any L.pd L.mD L.Bd d.dn d.ds d.ops w h.dr)
  obtain ⟨c0, c1, c2, c3, c4, f2, f3⟩ := h.cells
  clear h
  go_enter Tryz.func41, Tryz.ntmps41
  go_wp2_with (go_at_call 71; refine HS.out.mono ?_; rintro e w1 ⟨rfl, rfl⟩)
  go_ret
  exact ⟨rfl, rfl⟩
set_option maxRecDepth 100000 in
theorem pfile_none {w : World} {px pm : Nat} {L : Lay} {d : DskD} (h : PkC w px pm L d) (m : List UInt8) (hm : m.length ≤ maxLen) (hl : lookL d.dn m = none) :
    Calls Tryz.prog 42 #[.pointer (some ⟨px, 0, none⟩), encStr m] w fun e w' => e = .returned (.pointer none) ∧ w = w' := by
  have hg := dget_any L.pd L.mD L.Bd d.dn d.ds d.ops m w h.dr hm
  rw [hl] at hg
  have HG := Lib.hid hg
  obtain ⟨c0, c1, c2, c3, c4, f2, f3⟩ := h.cells
  clear h hg hl
  go_enter Tryz.func42, Tryz.ntmps42
  go_wp2_with (go_at_call 72; refine HG.out.mono ?_; rintro e w1 ⟨rfl, rfl⟩)
  go_ret
  exact ⟨rfl, rfl⟩
theorem wf_small {n : Int} (h0 : 0 ≤ n) (h1 : n ≤ 1000000) : (Lit.int .i64 n).wf = true := by
  have e1 : IntKind.i64.min = -9223372036854775808 := by decide
  have e2 : IntKind.i64.max = 9223372036854775807 := by decide
  simp [Lit.wf, e1, e2]; omega
set_option maxRecDepth 100000 in
theorem pfile_some {w : World} {px pm : Nat} {L : Lay} {d : DskD} (h : PkC w px pm L d) (m : List UInt8) (hm : m.length ≤ maxLen) (n : Nat) (hl : lookL d.dn m = some (n : Int)) {p g : Nat} (hi : atFs L.fs n = some (p, g)) (hn : n ≤ 1000000) :
    Calls Tryz.prog 42 #[.pointer (some ⟨px, 0, none⟩), encStr m] w fun e w' => e = .returned (.pointer (some ⟨p, 0, none⟩)) ∧ w = w' := by
  have hg := dget_any L.pd L.mD L.Bd d.dn d.ds d.ops m w h.dr hm
  have hnu : numL d.dn m = (n : Int) := by unfold numL; rw [hl]; rfl
  rw [hl, hnu] at hg
  have HG := Lib.hid hg
  have hF : fsF L.fs (n : Int) = some p := by
    unfold fsF
    rw [if_neg (by omega), Int.toNat_natCast, hi]; rfl
  have HMP := Lib.hid h.mp
  obtain ⟨c0, c1, c2, c3, c4, f2, f3⟩ := h.cells
  have HF := Lib.hid hF
  have hwf := wf_small (n := (n : Int)) (by omega) (by omega)
  clear h hg hl hnu hF
  go_enter Tryz.func42, Tryz.ntmps42
  go_wp2_with (first
    | (go_at_call 72; refine HG.out.mono ?_; rintro e w1 ⟨rfl, rfl⟩)
    | (at_lookup; refine wpL_plook rfl _ _ 62 rfl 3 86 Tryz.underlying3 Tryz.underlying62 rfl L.bM L.mM (fsF L.fs) rfl HMP.out (n : Int) rfl hwf ?_; rw [HF.out]))
  go_ret
  exact ⟨rfl, rfl⟩
end Go.Proofs.YtmchnaojlnjmjaaGreat
