/- Several texts in one: SchG, SchE. -/
import Derived.Test.YtmcekpgmebanaaaSm
import Derived.Test.YtmcekpgmebanaaaFo
import Derived.Test.YtmcekpgmebanaaaWq
import Derived.Test.YtmcekpgmebanaaaGa
set_option linter.unusedVariables false
set_option linter.unusedSimpArgs false
/-! The program's first sets (layer 20): what the rules of a nonterminal give. -/
namespace Go.Proofs.Ytmcekpgmebanaaa
open Go.RowKit

theorem infoStrsG : (Try.prog.info? 22).map (fun i => (i.zero, i.size, i.bytes)) = some (some (.slice none 0 0), 1, 24) := by kernel_rfl
theorem first_four {g : GramG} {k : Int} {ss : List Int} {u : List UInt8} (h : firstP g k ss u) (hk : k ≤ 4) : u.length ≤ 4 := by
  obtain ⟨y, -, rfl⟩ := h
  unfold cutW
  rw [List.length_take]
  omega
theorem SchS.short {g : GramG} {k : Int} {ls : List Words} {D : List Bool} (h : SchS g k ls D) (hk : k ≤ 4) : ∀ l ∈ ls, setW l ∧ ShortW l := fun l hl => by
  obtain ⟨i, hi, rfl⟩ := List.getElem_of_mem hl
  exact ⟨h.sound.set _ hl, by have := h.small i hi; omega, fun x hx => by have := first_four (h.sound.sub i hi x hx) hk; omega⟩
theorem noStrs_bools {w : World} {b : Nat} {D : List Bool} (h : boolRow w b D) : NoStrs w b := ⟨_, _, _, h, fun i z hz x e => by
  subst e
  simp only [List.getElem?_toArray, List.getElem?_map, Option.map_eq_some_iff] at hz
  obtain ⟨q, _, hq⟩ := hz
  cases hq⟩
section
variable {w w' : World} {p bs bd br bu : Nat} {x1 x2 x3 : Value} {k : Int} {N R : Nat} {vs : List Value} {ls : List Words} {D : List Bool} {rv uv : List Value} {rl ul : List (List Int)}
/-- Only what is due has changed. -/
theorem SchAt.due_of (h : SchAt w p bs bd br bu x1 x2 x3 k N R vs ls D rv uv rl ul) {E : List Bool} (hf : Fr [bd] w w') (he : boolRow w' bd E) : SchAt w' p bs bd br bu x1 x2 x3 k N R vs ls E rv uv rl ul := by
  have n1 : p ≠ bd := fun e => by have h1 := h.obj; have h2 := h.due; unfold boolRow at h2; rw [e, h2] at h1; injection h1 with h1; injection h1 with _ h1; exact absurd h1 (by decide)
  have n2 : br ≠ bd := fun e => by have h1 := h.rules.row; have h2 := h.due; unfold boolRow at h2; rw [e, h2] at h1; injection h1 with h1; injection h1 with _ h1; exact absurd h1 (by decide)
  have n3 : bu ≠ bd := fun e => by have h1 := h.uses.row; have h2 := h.due; unfold boolRow at h2; rw [e, h2] at h1; injection h1 with h1; injection h1 with _ h1; exact absurd h1 (by decide)
  have n4 : bs ≠ bd := fun e => by have h1 := h.sets.row; have h2 := h.due; unfold boolRow at h2; rw [e, h2] at h1; injection h1 with h1; injection h1 with _ h1; exact absurd h1 (by decide)
  have hk : ∀ q ∈ [bd], NoInts w q := fun q hq => by rw [List.mem_singleton.1 hq]; exact bools_kind h.due
  have hs : ∀ q ∈ [bd], NoStrs w q := fun q hq => by rw [List.mem_singleton.1 hq]; exact noStrs_bools h.due
  exact ⟨hf.heap h.obj (by simpa using n1), ⟨hf.heap h.sets.row (by simpa using n4), h.sets.len, fun a h1 h2 => strs_keep (h.sets.at_ a h1 h2) hf hs⟩, he, h.rules.keep hf (by simpa using n2) hk, h.uses.keep hf (by simpa using n3) hk⟩
theorem SchAt.bd_lt (h : SchAt w p bs bd br bu x1 x2 x3 k N R vs ls D rv uv rl ul) : bd < w.heap.size := (Array.getElem?_eq_some_iff.1 (show w.heap[bd]? = some _ from h.due)).1
end
/-- Pieces, in a row of the call's own. -/
def PtR (w : World) (base : Nat) (v : Value) (ls : List Words) : Prop := ∃ us : List Value, ownsQ w base 22 isSl v ls.length us ∧ ∀ i (h : i < us.length) (h' : i < ls.length), strsAt w (us[i]'h) (ls[i]'h')
theorem PtR.sets {w : World} {base : Nat} {v : Value} {ls : List Words} (h : PtR w base v ls) : setsAt w v ls := by
  obtain ⟨us, h1, h2⟩ := h
  exact ⟨us, h1.1, h1.cells, h2⟩
theorem PtR.kept {w w' : World} {base bd : Nat} {v : Value} {ls : List Words} {D : List Bool} (h : PtR w base v ls) (hd : boolRow w bd D) (hb : bd < base) (hf : Fr [bd] w w') : PtR w' base v ls := by
  obtain ⟨us, h1, h2⟩ := h
  refine ⟨us, h1.kept hf (fun q hq hm => ?_), fun i a b => strs_keep (h2 i a b) hf (fun q hq => by rw [List.mem_singleton.1 hq]; exact noStrs_bools hd)⟩
  have := (h1.owns.lt q hq).1
  have e : q = bd := by simpa using hm
  omega
theorem PtR.later {w w' : World} {base : Nat} {v : Value} {ls : List Words} (h : PtR w base v ls) (hf : Fr [] w w') : PtR w' base v ls := by
  obtain ⟨us, h1, h2⟩ := h
  exact ⟨us, h1.kept hf (by simp), fun i a b => (h2 i a b).below hf⟩
theorem PtR.one {w : World} {base : Nat} {u : Value} {l : Words} (hb : base ≤ w.heap.size) (hu : strsAt w u l) : PtR (w.alloc (.cells #[u] 22)) base (.slice (some ⟨w.heap.size, 0, none⟩) 1 1) [l] := by
  obtain ⟨a, c, rfl, -, -⟩ := hu.form
  refine ⟨[_], ownsQ.new hb ⟨_, _, _, rfl⟩, fun i h1 h2 => ?_⟩
  have : i = 0 := by simp at h1; omega
  subst this
  exact hu.below (Fr.alloc w _)
theorem PtR.snoc {w w9 : World} {base : Nat} {v v9 u : Value} {ls : List Words} {l : Words} {us : List Value} (h1 : ownsQ w base 22 isSl v ls.length us) (h2 : ∀ i (h : i < us.length) (h' : i < ls.length), strsAt w (us[i]'h) (ls[i]'h')) (hu : strsAt w u l) (h9 : ownsQ w9 base 22 isSl v9 (ls.length + 1) (us ++ [u])) (hf : Fr v.ownBlock.toList w w9) : PtR w9 base v9 (ls ++ [l]) := by
  have hn := h1.noStrs
  refine ⟨us ++ [u], by rw [List.length_append]; exact h9, fun i a b => ?_⟩
  by_cases hi : i < us.length
  · have hl : i < ls.length := by rw [← h1.1]; exact hi
    rw [List.getElem_append_left hi, List.getElem_append_left hl]
    exact strs_keep (h2 i hi hl) hf hn
  · have e : i = us.length := by rw [List.length_append] at a; simp at a; omega
    have e2 : i = ls.length := by rw [e]; exact h1.1
    rw [List.getElem_append_right (by omega), List.getElem_append_right (by omega)]
    simp only [List.getElem_singleton]
    exact strs_keep hu hf hn
theorem PtR.fr {w0 w w9 : World} {base : Nat} {v : Value} {ls : List Words} {bd : Nat} (h : PtR w base v ls) (hb : base = w0.heap.size) (hf : Fr v.ownBlock.toList w w9) (h0 : Fr [bd] w0 w) : Fr [bd] w0 w9 := by
  obtain ⟨us, h1, -⟩ := h
  refine h0.trans hf (fun _ h _ => h) (fun i hi hlt => ?_)
  have := (h1.owns.lt i (by simpa [Option.mem_toList] using hi)).1
  omega
theorem PtR.due {w w9 : World} {base bd : Nat} {v : Value} {ls : List Words} {D : List Bool} (h : PtR w base v ls) (hb : bd < base) (hf : Fr v.ownBlock.toList w w9) (hd : boolRow w bd D) : boolRow w9 bd D := by
  obtain ⟨us, h1, -⟩ := h
  refine hf.heap hd (fun hm => ?_)
  have := (h1.owns.lt bd (by simpa [Option.mem_toList] using hm)).1
  omega
/-- What given answers. -/
def GvGot (g : GramG) (k : Int) (ls : List Words) (n : Nat) (hn : n < ls.length) (D0 : List Bool) (bd : Nat) (w : World) (e : Ending) (w' : World) : Prop :=
  ∃ a m c b, e = .returned (.tuple #[.slice a m c, .bool b]) ∧ Fr [bd] w w' ∧ ((b = false ∧ OverG g k) ∨ (b = true ∧ ∃ al D, m = al.length ∧ strsAt w' (.slice a m c) al ∧ GivOut g k ls n hn D0 D al ∧ boolRow w' bd D))
def GvR (g : GramG) (k : Int) (ls : List Words) (n : Nat) (hn : n < ls.length) (D0 : List Bool) (bd : Nat) (w : World) (pv wv iv : Value) (wx : World) : Prop :=
  ∃ (c : Nat) (D : List Bool) (p0 : Words) (ps : List Words) (wd : Nat), c ≤ (rIdx g.rules n g.rules.length).length ∧ iv = .int .i64 (c : Int) ∧ wv = .int .i64 (wd : Int) ∧ ps.length ≤ c ∧ PtR wx w.heap.size pv (p0 :: ps) ∧ GivS g k ls n hn D0 D c p0 ps wd ∧ boolRow wx bd D ∧ Fr [bd] w wx
set_option maxRecDepth 100000 in
set_option maxHeartbeats 8000000 in
theorem pgiven (hW : ProgWCat) (hU : ProgWUnion) (g : GramG) (k : Int) (ls : List Words) (n : Nat) (hn : n < ls.length) (D0 : List Bool) (p bs bd br bu : Nat) (x1 x2 : Value) (a3 : Option Addr) (c3 N R : Nat) (vs rv uv : List Value) (w : World) (hv : ValidG g) (hk1 : 1 ≤ k) (hk4 : k ≤ 4) (hN : N = g.names.length) (hR : R = g.rules.length) (hx3 : rulesAt w (.slice a3 R c3) g.rules) (hx3b : ∀ wx, Fr [bd] w wx → rulesAt wx (.slice a3 R c3) g.rules)
    (hA : SchAt w p bs bd br bu x1 x2 (.slice a3 R c3) k N R vs ls D0 rv uv (RLs g.rules N R) (ULs g.rules N R)) (hS : SchS g k ls D0) :
    Calls Try.prog 57 #[.pointer (some ⟨p, 0, none⟩), .int .i64 (n : Int)] w (GvGot g k ls n hn D0 bd w) := by
  obtain ⟨iS, hiS, hS0, hS1, hS2⟩ := info_parts infoStrsG
  have hlN : ls.length = N := by rw [hS.sound.len, hN]
  have hnN : n < N := by omega
  have hN256 : N ≤ 256 := by have := hv.syms; omega
  have hR3 : R ≤ 4096 := by rw [hR]; exact hv.few
  have hnv : n < vs.length := by rw [hA.sets.len]; exact hn
  have hat := hA.sets.at_ n hnv hn
  obtain ⟨pa, ca, hva, hca, hma⟩ := hat.form
  have hcs := hA.sets.cell hnv
  have hnr : n < rv.length := by rw [hA.rules.len, RLs_len]; exact hnN
  have hri := hA.rules.at_ n hnr (by rw [RLs_len]; exact hnN)
  rw [RLs_get] at hri
  obtain ⟨ra, rc, hrv, hrc, hrm⟩ := hri.form
  have hcr := hA.rules.cell hnr
  obtain ⟨M, hM⟩ : ∃ M, M = (rIdx g.rules n R).length := ⟨_, rfl⟩
  rw [← hM] at hrv hrc
  rw [hva] at hcs hat
  rw [hrv] at hcr hri
  have hM4 : M ≤ 4096 := by rw [hM]; exact Nat.le_trans (rIdx_len g.rules n R) hR3
  obtain ⟨nl, hnl⟩ : ∃ nl, nl = (ls[n]'hn).length := ⟨_, rfl⟩
  rw [← hnl] at hcs hat hca
  have HA := Lib.hid hA
  have HS := Lib.hid hS
  have HRI := Lib.hid hri
  have HM := Lib.hid hM
  have HX3 := Lib.hid hx3b
  have HRE := Lib.hid hR
  have HNE := Lib.hid hN
  have HV := Lib.hid hv
  have HLN := Lib.hid hlN
  have HOF := Lib.hid (pof_any hW)
  have HUN := Lib.hid hU
  have HBD := Lib.hid hA.bd_lt
  have HP1 := Lib.hid (PtR.one (base := w.heap.size) (Nat.le_refl _) hat)
  have HF1 := Lib.hid (Fr.alloc w (.cells #[.slice pa nl ca] 22))
  have HG1 := Lib.hid (GivS.start (hn := hn) hS)
  have HCR := Lib.hid hcr
  have HW := Lib.hid hW
  obtain ⟨l0, l1, l2, l3, l4, l5, l6, l7⟩ := hA.cells
  clear hA hS hri hM hx3 hx3b hR hN hv hlN hW hU hat hva hrv hnl hcr
  go_enter Try.func57, Try.ntmps57
  go_upto_region 2 with fail
  obtain ⟨w1, hw1⟩ : ∃ w1, w1 = w.alloc (.cells #[.slice pa nl ca] 22) := ⟨_, rfl⟩
  rw [← hw1] at HP1 HF1 ⊢
  obtain ⟨q1, hq1⟩ : ∃ q1, q1 = w.heap.size := ⟨_, rfl⟩
  rw [show Value.slice (some ⟨w.heap.size, 0, none⟩) 1 1 = Value.slice (some ⟨q1, 0, none⟩) 1 1 by rw [hq1]] at HP1
  rw [← hq1]
  have m5 := HF1.out.cell l5 (by simp)
  have hcr := HF1.out.cell HCR.out (by simp)
  clear hw1 hq1 l0 l1 l2 l3 l4 l5 l6 l7
  go_wp2_with fail
  clear m5 hcr
  go_loopw [6, 7, 29] (GvR g k ls n hn D0 bd w) (fun _ _ iv _ => M - (intOf iv).toNat)
  case atStart => exact ⟨0, D0, _, [], 0, Nat.zero_le _, rfl, rfl, Nat.le_refl _, HP1.out, HG1.out, HA.out.due.below HF1.out, HF1.out.mono (by simp)⟩
  case round =>
    obtain ⟨c, D, p0, ps, wd, hc, rfl, rfl, hpc, hpt, hgs, hdue, hfr⟩ := hrel
    rw [← HRE.out] at hc
    rw [← HM.out] at hc
    have hsch := HA.out.due_of hfr hdue
    obtain ⟨l0, l1, l2, l3, l4, l5, l6, l7⟩ := hsch.cells
    have hwd := hgs.most
    have HPT := Lib.hid hpt
    have HGS := Lib.hid hgs
    have HDUE := Lib.hid hdue
    have HFR := Lib.hid hfr
    have HSCH := Lib.hid hsch
    by_cases hcM : c < M
    · have hd1 : decide (c < M) = true := decide_eq_true hcM
      have hcl : c < (rIdx g.rules n R).length := by rw [← HM.out]; exact hcM
      have hcell9 : ∃ b9 o9, ra = some ⟨b9, o9, none⟩ ∧ wr.cell? ⟨b9, o9 + c, none⟩ = some (.int .i64 ((rIdx g.rules n R)[c]'hcl)) := int_cell (ints_keep HRI.out hfr (fun q hq => by rw [List.mem_singleton.1 hq]; exact bools_kind HA.out.due)) c hcl
      obtain ⟨b9, o9, e9, hcell⟩ := hcell9
      subst e9
      obtain ⟨j, hj, hjR, r, hr, hl⟩ := mem_rIdx.1 (List.getElem_mem hcl)
      rw [hj] at hcell
      have hjl : j < g.rules.length := (List.getElem?_eq_some_iff.1 hr).1
      have hjD : j < D.length := by rw [hgs.len, HS.out.due.len]; exact hjl
      have hjRn : j < R := hjR
      have hcl' : c < (rIdx g.rules n g.rules.length).length := by rw [← HRE.out]; exact hcl
      have hj' : (rIdx g.rules n g.rules.length)[c]'hcl' = (j : Int) := by rw [← hj]; congr 1; rw [HRE.out]
      have hdcell := hdue.cell hjD
      have hdfree := hdue.free j
      have hrm := List.mem_of_getElem? hr
      cases hDj : D[j]'hjD with
      | false =>
        rw [hDj] at hdcell
        have hDq : D[j]? = some false := by rw [List.getElem?_eq_getElem hjD, hDj]
        have HNX := Lib.hid (hgs.skip hcl' hj' hDq)
        clear hpt hgs hdue hfr hsch hDq hj hj' hl hr hrm hDj
        go_wp2_with fail
        go_roundw
        case rel => exact ⟨c + 1, D, p0, ps, wd, by rw [← HRE.out, ← HM.out]; omega, by go_num, rfl, by omega, HPT.out, HNX.out, HDUE.out, HFR.out⟩
        case measure => simp [intOf]; omega
      | true =>
        rw [hDj] at hdcell
        have HCL := Lib.hid hcl'
        have HJ := Lib.hid hj'
        have HJD := Lib.hid hjD
        have HR := Lib.hid hr
        have HL := Lib.hid hl
        have HRM := Lib.hid hrm
        -- what is due, written
        have hdue2 : boolRow (wr.setCell ⟨bd, j, none⟩ (.bool false)) bd (D.set j false) := hdue.set j false
        have hf2 := Fr.set0 wr bd j (.bool false)
        have hpt2 := hpt.kept hdue HBD.out hf2
        have hfr2 : Fr [bd] w (wr.setCell ⟨bd, j, none⟩ (.bool false)) := hfr.trans hf2 (fun _ h _ => h) (fun _ h _ => h)
        obtain ⟨w2, hw2⟩ : ∃ w2, w2 = wr.setCell ⟨bd, j, none⟩ (.bool false) := ⟨_, rfl⟩
        rw [← hw2] at hdue2 hpt2 hfr2
        have HW2 := Lib.hid hw2
        have HDUE2 := Lib.hid hdue2
        have HPT2 := Lib.hid hpt2
        have HFR2 := Lib.hid hfr2
        have HSCH2 := Lib.hid (HA.out.due_of hfr2 hdue2)
        clear hpt hgs hdue hfr hsch hj hj' hl hr hrm hDj hdue2 hf2 hpt2 hfr2 hw2 HPT HDUE HFR HSCH
        go_upto_region 7 with fail
        rw [← HW2.out]
        clear l0 l1 l2 l3 l4 l5 l6 l7 hdcell hdfree hcell
        have hsyr : ∀ s ∈ r.right, -256 ≤ s ∧ s < (g.names.length : Int) := fun s hs => by
          have h1 := (HV.out.rules r HRM.out).2.2.2 s hs
          have h2 := HV.out.syms
          omega
        have hints : IntS r.right := fun s hs => by have := hsyr s hs; have := HV.out.syms; omega
        have hr64 := (HV.out.rules r HRM.out).2.2.1
        obtain ⟨b3, o3, v3, e3, k0, k1, hiv⟩ := rule_cells (HX3.out w2 HFR2.out) j hjl
        subst e3
        have hre : g.rules[j]'hjl = r := by
          have := HR.out
          rw [List.getElem?_eq_getElem hjl] at this
          exact Option.some.inj this
        rw [hre] at hiv
        obtain ⟨a7, c7, rfl, hc7, hm7⟩ := hiv.form
        obtain ⟨nr, hnr⟩ : ∃ nr, nr = r.right.length := ⟨_, rfl⟩
        rw [← hnr] at hiv k1 hc7
        have hset2 := HSCH2.out.sets.sets (by rw [HLN.out]; simp only [maxLen]; omega)
        rw [HLN.out] at hset2
        have hof : ∀ wx, Fr [] w2 wx → Calls Try.prog 75 #[.slice (some ⟨bs, 0, none⟩) N N, .int .i64 k, .slice a7 nr c7] wx (FofGot (fofG ls k r.right) wx) := fun wx hf => HOF.out ls _ k r.right (.slice a7 nr c7) wx hk1 hk4 (hset2.below hf) (hiv.below hf) (HS.out.short hk4) hints (by omega)
        have hsd := sound_fof hk1 HS.out.sound hsyr
        have HOFW := Lib.hid hof
        have HSD := Lib.hid hsd
        have HK1 := Lib.hid k1
        clear hof hsd hset2 hiv hints hsyr hnr hre k0 k1
        obtain ⟨FR, hFR⟩ : ∃ x, x = fofG ls k r.right := ⟨_, rfl⟩
        rw [← hFR] at HOFW
        have HFRE := Lib.hid hFR
        clear hFR
        have key : ∀ wa wx e, FofGot FR wa e wx → ∃ a m c, e = .returned (.tuple #[.slice a m c, .bool FR.isSome]) ∧ Hid (m = (FR.getD []).length) ∧ strsAt wx (.slice a m c) (FR.getD []) ∧ Fr [] wa wx := fun wa wx e h => by
          obtain ⟨v, rfl, h1, h2⟩ := h
          obtain ⟨a, c, rfl, -, -⟩ := h1.form
          exact ⟨a, _, c, rfl, Lib.hid rfl, h1, h2⟩
        have KEY := Lib.hid key
        clear key
        refine wp_region_G [] [(0, false), (1, false), (2, false), (3, false), (4, false), (5, false), (6, false), (7, false), (8, false), (9, false), (10, false), (11, false), (12, false), (13, false), (14, false), (15, false), (16, false), (17, true), (18, false), (19, false), (20, false), (21, false), (22, false)] 95 rfl (by kernel_rfl) (by kernel_rfl) (by kernel_rfl) (fun c a d v w h => by cases d <;> exact h) (fun wd2 hfd => ?_)
        simp only [List.map_cons, List.map_nil, List.getElem?_toArray, List.getElem?_cons_succ, List.getElem?_cons_zero, Option.getD_some]
        have HFD := Lib.hid hfd
        clear hfd
        repeat (apply wpG_t; · (intro w' hf'; obtain ⟨l0, l1, l2, l3, l4, l5, l6, l7⟩ := (HSCH2.out.later (HFD.out.tr0 hf')).cells; have kc := (HFD.out.tr0 hf').cell HK1.out (by simp); go_wp2_with fail; exact ⟨rfl, rfl⟩))
        refine wpG_x ?_
        go_wp2_with (go_at_call 75; refine (HOFW.out _ HFD.out).mono ?_; rintro e w5 hg; obtain ⟨am, md, cm, rfl, hmd, hsm, hfm⟩ := KEY.out _ _ _ hg; clear hg)
        have HF5 := Lib.hid (HFD.out.tr0 hfm)
        have HSM := Lib.hid hsm
        have HMD := hmd
        refine ⟨hfm, rfl, ?_⟩
        clear hsm hmd hfm
        repeat (apply wpG_t; · (intro w' hf'; go_wp2_with fail; exact ⟨rfl, rfl⟩))
        refine wpG_end ?_
        have HPT5 := Lib.hid (HPT2.out.later HF5.out)
        have HDUE5 := Lib.hid (HDUE2.out.below HF5.out)
        have HFR5 := Lib.hid (show Fr [bd] w w5 from HFR2.out.trans HF5.out (fun _ h _ => h) (by simp))
        clear HOFW KEY
        cases hFR : FR with
        | none =>
          have HOV := Lib.hid (show OverG g k from by
            rcases HSD.out with ⟨⟨m, h1, h2, h3⟩, h4⟩ | ⟨l, h4, h5⟩
            · exact .inr ⟨r, HRM.out, m, h2, h3⟩
            · rw [← HFRE.out, hFR] at h4; cases h4)
          clear hFR
          go_wp2_with fail
          go_ret2
          exact ⟨_, _, _, false, rfl, HFR5.out, .inl ⟨rfl, HOV.out⟩⟩
        | some m =>
          have hm : fofG ls k r.right = some m := by rw [← HFRE.out, hFR]
          have hfirst : ∀ u ∈ m, firstP g k r.right u := by
            rcases HSD.out with ⟨_, h4⟩ | ⟨l, h4, h5⟩
            · rw [hm] at h4; cases h4
            · rw [hm] at h4
              rw [Option.some.inj h4]
              exact h5
          have hsm := HSM.out
          have hmd := HMD.out
          rw [hFR] at hsm hmd
          have hsm2 : strsAt w5 (.slice am md cm) m := hsm
          have hmd2 : md = m.length := hmd
          have hmd4 : md ≤ 4096 := by rw [hmd2]; exact fofG_len hm
          obtain ⟨us, hq1, hq2⟩ := HPT5.out
          obtain ⟨gp, cp, rfl, hcp, hcpm, hgp, hcells⟩ := hq1.get
          obtain ⟨np, hnp⟩ : ∃ np, np = (p0 :: ps).length := ⟨_, rfl⟩
          have hnp2 : np ≤ 4097 := by rw [hnp, List.length_cons]; omega
          have HMM := Lib.hid hm
          have HFI := Lib.hid hfirst
          have HSM2 := Lib.hid hsm2
          have HMD2 := Lib.hid hmd2
          have HQ1 := Lib.hid hq1
          have HQ2 := Lib.hid hq2
          rw [← hnp] at HQ1 hcp ⊢
          have HNP := Lib.hid hnp
          have HSZ := Lib.hid HFR5.out.size
          obtain ⟨sum, hsum⟩ : ∃ x, x = wd + md := ⟨_, rfl⟩
          have hsumi : (wd : Int) + (md : Int) = (sum : Int) := by omega
          have hsumb : sum ≤ 8192 := by omega
          have HSUM := Lib.hid hsum
          have HPCO := Lib.hid hpc
          clear hm hfirst hsm hmd hsm2 hmd2 hq1 hq2 hnp hFR HSM HMD HPT5 hcells hsum hpc
          go_upto_region 11 with (at_builtin; refine wpL_appendQ rfl _ _ 45 rfl w.heap.size 22 iS (.slice none 0 0) 24 Try.underlying45 hiS hS0 hS1 hS2 rfl isSl ⟨_, _, _, rfl⟩ (.slice (some ⟨gp, 0, none⟩) np cp) np us (by rfl) HQ1.out (.slice am md cm) rfl ⟨_, _, _, rfl⟩ (by rfl) (by omega) (by simp only [maxLen]; omega) HSZ.out ?_; intro v9 w9 h9 hf9; have H9 := Lib.hid h9; have HF9 := Lib.hid hf9; clear h9 hf9)
          have hpt9 : PtR w9 w.heap.size v9 ((p0 :: ps) ++ [m]) := PtR.snoc (by rw [← HNP.out]; exact HQ1.out) HQ2.out HSM2.out (by rw [← HNP.out]; exact H9.out) HF9.out
          have hptq : PtR w5 w.heap.size (.slice (some ⟨gp, 0, none⟩) np cp) (p0 :: ps) := ⟨us, by rw [← HNP.out]; exact HQ1.out, HQ2.out⟩
          have HFR9 := Lib.hid (hptq.fr rfl HF9.out HFR5.out)
          have HDUE9 := Lib.hid (hptq.due HBD.out HF9.out HDUE5.out)
          have HPT9 := Lib.hid hpt9
          obtain ⟨g9, c9, rfl, hc9, hc9m, hg9, hcells9⟩ := H9.out.get
          have hus : us.length = np := by have h5 := H9.out.1; rw [List.length_append] at h5; simp at h5; omega
          clear hpt9 hptq
          by_cases hov : 4096 < sum
          · have hd2 : decide (4096 < sum) = true := decide_eq_true hov
            have hd2i : decide ((4096 : Int) < (sum : Int)) = true := decide_eq_true (by omega)
            have hsound : ∀ p' ∈ p0 :: (ps ++ [m]), setW p' ∧ ∀ u ∈ p', firstP g k [(n : Int)] u := fun p' hp' => by
              rcases List.mem_cons.1 hp' with rfl | hp'
              · exact HGS.out.sets _ (by simp)
              · rcases List.mem_append.1 hp' with hp' | hp'
                · exact HGS.out.sets p' (by simp [hp'])
                · rw [List.mem_singleton.1 hp']
                  exact ⟨fofG_set HMM.out, fun u hu => rule_first HRM.out HL.out (HFI.out u hu)⟩
            obtain ⟨FL, hFL⟩ : ∃ x, x = (p0 :: (ps ++ [m])).flatten := ⟨_, rfl⟩
            have hfls : ∀ u ∈ FL, firstP g k [(n : Int)] u := fun u hu => by
              rw [hFL] at hu
              obtain ⟨p', hp', hu⟩ := List.mem_flatten.1 hu
              exact (hsound p' hp').2 u hu
            have hfll : FL.length ≤ 12300 := by
              have h5 := HGS.out.words
              have h6 := HGS.out.few
              have h7 := HMD2.out
              rw [hFL, List.flatten_cons, List.length_append, List.flatten_append, List.length_append, h5, List.flatten_singleton]
              omega
            have hun := HUN.out (p0 :: (ps ++ [m])) _ w9 (by have := HPT9.out.sets; rwa [List.cons_append] at this) (fun l hl => (hsound l hl).1) ⟨by rw [← hFL]; omega, fun x hx => by rw [← hFL] at hx; have := first_four (hfls x hx) hk4; omega⟩
            rw [← hFL] at hun
            obtain ⟨UL, hUL⟩ : ∃ x, x = ofW FL := ⟨_, rfl⟩
            rw [← hUL] at hun
            have HUNW := Lib.hid (show Calls Try.prog 18 #[.slice (some ⟨g9, 0, none⟩) (np + 1) c9] w9 fun e w' => ∃ a c, e = .returned (.slice a UL.length c) ∧ strsAt w' (.slice a UL.length c) UL ∧ Fr [] w9 w' from (by
              have h5 := hun
              exact h5.mono (by
                rintro e w' ⟨v, rfl, h1, h2⟩
                obtain ⟨a, c, rfl, -, -⟩ := h1.form
                exact ⟨a, c, rfl, h1, h2⟩)))
            obtain ⟨nu, hnu⟩ : ∃ nu, nu = UL.length := ⟨_, rfl⟩
            rw [← hnu] at HUNW
            have HNU := Lib.hid hnu
            have HUL := Lib.hid hUL
            have HFL := Lib.hid hFL
            have HFLS := Lib.hid hfls
            clear hov hsound hfls hfll hun hUL hnu hFL hcells9 hus
            go_upto_region 13 with (go_at_call 18; refine HUNW.out.mono ?_; rintro e w10 ⟨au, cu, rfl, hsu, hfu⟩; have HSU := Lib.hid hsu; have HFU := Lib.hid hfu; clear hsu hfu)
            have HFR10 := Lib.hid (show Fr [bd] w w10 from HFR9.out.trans HFU.out (fun _ h _ => h) (by simp))
            have HP11 := Lib.hid (PtR.one (base := w.heap.size) HFR10.out.size HSU.out)
            have hfa := Fr.alloc w10 (.cells #[.slice au nu cu] 22)
            have hca := heap_alloc_new w10 (.cells #[.slice au nu cu] 22)
            obtain ⟨w11, hw11⟩ : ∃ x, x = w10.alloc (.cells #[.slice au nu cu] 22) := ⟨_, rfl⟩
            obtain ⟨q11, hq11⟩ : ∃ x, x = w10.heap.size := ⟨_, rfl⟩
            rw [← hw11] at HP11 hfa hca ⊢
            rw [show Value.slice (some ⟨w10.heap.size, 0, none⟩) 1 1 = Value.slice (some ⟨q11, 0, none⟩) 1 1 by rw [hq11]] at HP11
            rw [← hq11] at hca ⊢
            have hc0 : w11.cell? ⟨q11, 0, none⟩ = some (.slice au nu cu) := by rw [cell_of_heap hca]; rfl
            have HFR11 := Lib.hid (show Fr [bd] w w11 from HFR10.out.trans hfa (fun _ h _ => h) (by simp))
            have HDUE11 := Lib.hid ((HDUE9.out.below HFU.out).below hfa)
            clear hfa hca hw11 hq11
            by_cases hbig : 4096 < nu
            · have hd3 : decide (4096 < nu) = true := decide_eq_true hbig
              have hd3i : decide ((4096 : Int) < (nu : Int)) = true := decide_eq_true (by omega)
              have HOV := Lib.hid (HGS.out.over HS.out HFLS.out (by rw [← HUL.out, ← HNU.out]; exact hbig))
              clear hbig
              go_wp2_with fail
              go_ret2
              exact ⟨_, _, _, false, rfl, HFR11.out, .inl ⟨rfl, HOV.out⟩⟩
            · have hd3 : decide (4096 < nu) = false := decide_eq_false hbig
              have hd3i : decide ((4096 : Int) < (nu : Int)) = false := decide_eq_false (by omega)
              have HNX := Lib.hid (HGS.out.join HCL.out HJ.out HJD.out HR.out HL.out HMM.out HFI.out (by rw [← HFL.out, ← HUL.out, ← HNU.out]; omega))
              rw [← HFL.out, ← HUL.out] at HNX
              have HMX := Lib.hid (show c + 1 ≤ (rIdx g.rules n g.rules.length).length by rw [← HRE.out, ← HM.out]; omega)
              clear hbig
              go_wp2_with fail
              go_roundw
              case rel => exact ⟨c + 1, _, UL, [], 0, HMX.out, by go_num, rfl, Nat.zero_le _, HP11.out, HNX.out, HDUE11.out, HFR11.out⟩
              case measure => simp [intOf]; omega
          · have hd2 : decide (4096 < sum) = false := decide_eq_false hov
            have hd2i : decide ((4096 : Int) < (sum : Int)) = false := decide_eq_false (by omega)
            have hc0 := hcells9 0 (by rw [List.length_append]; simp)
            have hu0l : 0 < us.length := by have := HNP.out; rw [List.length_cons] at this; omega
            rw [List.getElem_append_left hu0l] at hc0
            have hp0 := HQ2.out 0 hu0l (by simp)
            obtain ⟨a0, c0, hu0, hc0l, hc0m⟩ := hp0.form
            rw [hu0] at hc0
            have hp0n : ((p0 :: ps)[0]'(by simp)).length = p0.length := rfl
            rw [hp0n] at hc0
            obtain ⟨n0, hn0⟩ : ∃ n0, n0 = p0.length := ⟨_, rfl⟩
            rw [← hn0] at hc0
            have hn04 : n0 ≤ 4096 := by rw [hn0]; exact HGS.out.few
            have hd3 : decide (4096 < n0) = false := decide_eq_false (by omega)
            have hd3i : decide ((4096 : Int) < (n0 : Int)) = false := decide_eq_false (by omega)
            have HNX := Lib.hid (HGS.out.give HCL.out HJ.out HJD.out HR.out HL.out HMM.out HFI.out (by have h5 := HMD2.out; have h6 := HSUM.out; omega))
            have hnz : 0 < np + 1 := by omega
            have HMX := Lib.hid (show c + 1 ≤ (rIdx g.rules n g.rules.length).length by rw [← HRE.out, ← HM.out]; omega)
            have HPC := Lib.hid (show (ps ++ [m]).length ≤ c + 1 by have h5 := HPCO.out; rw [List.length_append]; simp; omega)
            have HSE := Lib.hid (show (sum : Int) = ((wd + m.length : Nat) : Int) by have h5 := HMD2.out; have h6 := HSUM.out; omega)
            clear hov hu0 hp0 hcells9 hp0n hn0 hus hu0l
            go_wp2_with fail
            go_roundw
            case rel => exact ⟨c + 1, _, p0, ps ++ [m], wd + m.length, HMX.out, by go_num, by rw [HSE.out], HPC.out, HPT9.out, HNX.out, HDUE9.out, HFR9.out⟩
            case measure => simp [intOf]; omega
    · have hd1 : decide (c < M) = false := decide_eq_false hcM
      have hcE : c = (rIdx g.rules n g.rules.length).length := by rw [← HRE.out, ← HM.out]; omega
      have hgs2 := hgs
      rw [hcE] at hgs2
      obtain ⟨FL, hFL⟩ : ∃ x, x = (p0 :: ps).flatten := ⟨_, rfl⟩
      have hfls : ∀ u ∈ FL, firstP g k [(n : Int)] u := by rw [hFL]; exact hgs.all_sound
      have hfll : FL.length ≤ 8192 := by
        have h5 := hgs.words
        have h6 := hgs.few
        rw [hFL, List.flatten_cons, List.length_append, h5]
        omega
      have hun := HUN.out (p0 :: ps) _ wr hpt.sets (fun l hl => (hgs.sets l hl).1) ⟨by rw [← hFL]; omega, fun x hx => by rw [← hFL] at hx; have := first_four (hfls x hx) hk4; omega⟩
      rw [← hFL] at hun
      obtain ⟨UL, hUL⟩ : ∃ x, x = ofW FL := ⟨_, rfl⟩
      rw [← hUL] at hun
      obtain ⟨us, hq1, hq2⟩ := hpt
      obtain ⟨gp, cp, rfl, hcp, hcpm, hgp, hcells⟩ := hq1.get
      have HUNW := Lib.hid (hun.mono (show ∀ e w', GotS UL wr e w' → ∃ a c, e = .returned (.slice a UL.length c) ∧ strsAt w' (.slice a UL.length c) UL ∧ Fr [] wr w' from by
        rintro e w' ⟨v, rfl, h1, h2⟩
        obtain ⟨a, c, rfl, -, -⟩ := h1.form
        exact ⟨a, c, rfl, h1, h2⟩))
      obtain ⟨nu, hnu⟩ : ∃ nu, nu = UL.length := ⟨_, rfl⟩
      rw [← hnu] at HUNW
      have HNU := Lib.hid hnu
      have HUL := Lib.hid hUL
      have HFL := Lib.hid hFL
      have HFLS := Lib.hid hfls
      have HG2 := Lib.hid hgs2
      obtain ⟨np, hnp⟩ : ∃ np, np = (p0 :: ps).length := ⟨_, rfl⟩
      rw [← hnp] at HUNW hcp ⊢
      clear hpc hgs hdue hfr hsch hgs2 hfls hfll hun hUL hnu hFL hq1 hq2 hcells hnp hcE HPT HSCH l0 l1 l2 l3 l4 l5 l6 l7
      by_cases hbig : nu ≤ 4096
      · have hd3 : decide (nu ≤ 4096) = true := decide_eq_true hbig
        have hd3i : decide ((nu : Int) ≤ (4096 : Int)) = true := decide_eq_true (by omega)
        have HOUT := Lib.hid (HG2.out.out (by rw [← HFL.out, ← HUL.out, ← HNU.out]; exact hbig))
        rw [← HFL.out, ← HUL.out] at HOUT
        clear hbig
        go_wp2_with (go_at_call 18; refine HUNW.out.mono ?_; rintro e w10 ⟨au, cu, rfl, hsu, hfu⟩; have HSU := Lib.hid hsu; have HFU := Lib.hid hfu; clear hsu hfu)
        go_ret2
        exact ⟨_, _, _, true, rfl, HFR.out.trans HFU.out (fun _ h _ => h) (by simp), .inr ⟨rfl, UL, D, HNU.out, HSU.out, HOUT.out, HDUE.out.below HFU.out⟩⟩
      · have hd3 : decide (nu ≤ 4096) = false := decide_eq_false hbig
        have hd3i : decide ((nu : Int) ≤ (4096 : Int)) = false := decide_eq_false (by omega)
        have HOV := Lib.hid (HG2.out.over HS.out HFLS.out (by rw [← HUL.out, ← HNU.out]; omega))
        clear hbig
        go_wp2_with (go_at_call 18; refine HUNW.out.mono ?_; rintro e w10 ⟨au, cu, rfl, hsu, hfu⟩; have HSU := Lib.hid hsu; have HFU := Lib.hid hfu; clear hsu hfu)
        go_ret2
        exact ⟨_, _, _, false, rfl, HFR.out.trans HFU.out (fun _ h _ => h) (by simp), .inl ⟨rfl, HOV.out⟩⟩
end Go.Proofs.Ytmcekpgmebanaaa

/-! The program's first sets (layer 20): a set grows by what its rules give. -/
namespace Go.Proofs.Ytmcekpgmebanaaa
open Go.RowKit

/-- What extend answers. -/
def ExGot (g : GramG) (k : Int) (p bs bd br bu : Nat) (x1 x2 x3 : Value) (N R : Nat) (ls : List Words) (D0 : List Bool) (rv uv : List Value) (n : Nat) (w : World) (e : Ending) (w' : World) : Prop :=
  ∃ b, e = .returned (.bool b) ∧ Fr [bs, bd] w w' ∧ ((b = false ∧ OverG g k) ∨ (b = true ∧ ∃ vs' ls' D', SchAt w' p bs bd br bu x1 x2 x3 k N R vs' ls' D' rv uv (RLs g.rules N R) (ULs g.rules N R) ∧ SchS g k ls' D' ∧ ∀ ls0, RndK g ls0 ls D0 (n + 1) → RndK g ls0 ls' D' n))
def ExR (g : GramG) (k : Int) (p bs bd br bu : Nat) (x1 x2 x3 : Value) (N R : Nat) (vs : List Value) (ls : List Words) (D : List Bool) (rv uv : List Value) (n : Nat) (w2 : World) (iv : Value) (wx : World) : Prop :=
  ∃ (c : Nat) (D2 : List Bool), c ≤ (uIdx g.rules n R).length ∧ iv = .int .i64 (c : Int) ∧ SchAt wx p bs bd br bu x1 x2 x3 k N R vs ls D2 rv uv (RLs g.rules N R) (ULs g.rules N R) ∧ D2.length = D.length ∧
    (∀ i (h : i < (uIdx g.rules n R).length), i < c → ∀ j : Nat, (uIdx g.rules n R)[i]'h = (j : Int) → D2[j]? = some true) ∧ (∀ j : Nat, D2[j]? = some false → D[j]? = some false) ∧ Fr [bd] w2 wx
set_option maxRecDepth 100000 in
set_option maxHeartbeats 8000000 in
theorem pextend (hW : ProgWCat) (hU : ProgWUnion) (g : GramG) (k : Int) (ls : List Words) (n : Nat) (hn : n < ls.length) (D0 : List Bool) (p bs bd br bu : Nat) (x1 x2 : Value) (a3 : Option Addr) (c3 N R : Nat) (vs rv uv : List Value) (w : World) (hv : ValidG g) (hk1 : 1 ≤ k) (hk4 : k ≤ 4) (hN : N = g.names.length) (hR : R = g.rules.length) (hx3b : ∀ wx, Fr [bd] w wx → rulesAt wx (.slice a3 R c3) g.rules)
    (hA : SchAt w p bs bd br bu x1 x2 (.slice a3 R c3) k N R vs ls D0 rv uv (RLs g.rules N R) (ULs g.rules N R)) (hS : SchS g k ls D0) :
    Calls Try.prog 41 #[.pointer (some ⟨p, 0, none⟩), .int .i64 (n : Int)] w (ExGot g k p bs bd br bu x1 x2 (.slice a3 R c3) N R ls D0 rv uv n w) := by
  have hgv := pgiven hW hU g k ls n hn D0 p bs bd br bu x1 x2 a3 c3 N R vs rv uv w hv hk1 hk4 hN hR (hx3b w (Fr.refl _ _)) hx3b hA hS
  have hlN : ls.length = N := by rw [hS.sound.len, hN]
  have hnN : n < N := by omega
  have hN256 : N ≤ 256 := by have := hv.syms; omega
  have hR3 : R ≤ 4096 := by rw [hR]; exact hv.few
  have hnv : n < vs.length := by rw [hA.sets.len]; exact hn
  have hat := hA.sets.at_ n hnv hn
  obtain ⟨pa, ca, hva, hca, hma⟩ := hat.form
  obtain ⟨nl, hnl⟩ : ∃ nl, nl = (ls[n]'hn).length := ⟨_, rfl⟩
  rw [← hnl] at hva hca
  have HGV := Lib.hid hgv
  have HA := Lib.hid hA
  have HS := Lib.hid hS
  have HV := Lib.hid hv
  have HRE := Lib.hid hR
  have HVA := Lib.hid hva
  have HNL := Lib.hid hnl
  have HD0 := Lib.hid hS.due.len
  clear hgv hA hS hv hN hR hx3b hat hva hnl hW hU
  go_enter Try.func41, Try.ntmps41
  go_upto_region 2 with (go_at_call 57; refine HGV.out.mono ?_; rintro e w1 ⟨am, m, cm, b, rfl, hf1, hor⟩; have HF1 := Lib.hid hf1; have HOR := Lib.hid hor; clear hf1 hor)
  rcases HOR.out with ⟨rfl, hov⟩ | ⟨rfl, al, D, hm, hal, hout, hdue⟩
  · have HOV := Lib.hid hov
    clear hov HOR
    go_wp2_with fail
    go_ret
    exact ⟨false, rfl, HF1.out.mono (fun i hi _ => by simp at hi; simp [hi]), .inl ⟨rfl, HOV.out⟩⟩
  · have hA1 := HA.out.due_of HF1.out hdue
    have hn1 : n < vs.length := hnv
    have hcs := hA1.sets.cell hn1
    rw [HVA.out] at hcs
    obtain ⟨l0, l1, l2, l3, l4, l5, l6, l7⟩ := hA1.cells
    have HOUT := Lib.hid hout
    have HAL := Lib.hid hal
    have HME := Lib.hid hm
    have HA1 := Lib.hid hA1
    have hm4 : m ≤ 4096 := by rw [hm]; exact hout.few
    by_cases hgr : nl < m
    · have hd1 : decide (nl < m) = true := decide_eq_true hgr
      have hfree := hA1.sets.free n
      have hput := hA1.putS n (u := .slice am m cm) hal
      have hf2 := Fr.set0 w1 bs n (.slice am m cm)
      obtain ⟨w2, hw2⟩ : ∃ w2, w2 = w1.setCell ⟨bs, n, none⟩ (.slice am m cm) := ⟨_, rfl⟩
      rw [← hw2] at hput hf2
      have HW2 := Lib.hid hw2
      have HP2 := Lib.hid hput
      have HF2 := Lib.hid hf2
      have hnu : n < uv.length := by rw [hput.uses.len, ULs_len]; exact hnN
      have hui := hput.uses.at_ n hnu (by rw [ULs_len]; exact hnN)
      rw [ULs_get] at hui
      obtain ⟨ra, rc, hrv, hrc, hrm⟩ := hui.form
      obtain ⟨M, hM⟩ : ∃ M, M = (uIdx g.rules n R).length := ⟨_, rfl⟩
      rw [← hM] at hrv hrc
      have hM4 : M ≤ 262144 := by
        have h5 := uIdx_len g.rules n (fun r hr => (HV.out.rules r hr).2.2.1) R
        rw [hM]; omega
      have HM := Lib.hid hM
      have HRV := Lib.hid hrv
      have HGR := Lib.hid (show (ls[n]'hn).length < al.length by rw [← HNL.out, ← HME.out]; exact hgr)
      clear hA1 hout hal hdue hput hf2 hw2 hui hrv hM HOR hgr hm
      go_upto_region 4 with fail
      rw [← HW2.out]
      clear l0 l1 l2 l3 l4 l5 l6 l7 hcs hfree
      obtain ⟨l0, l1, l2, l3, l4, l5, l6, l7⟩ := HP2.out.cells
      have hcu := HP2.out.uses.cell hnu
      rw [HRV.out] at hcu
      go_wp2_with fail
      clear l0 l1 l2 l3 l4 l5 l6 l7 hcu
      go_loopw [44] (ExR g k p bs bd br bu x1 x2 (.slice a3 R c3) N R (vs.set n (.slice am m cm)) (ls.set n al) D rv uv n w2) (fun iv _ => M - (intOf iv).toNat)
      case atStart => exact ⟨0, D, Nat.zero_le _, rfl, HP2.out, rfl, fun i h hi => by omega, fun j h => h, Fr.refl _ _⟩
      case round =>
        obtain ⟨c, D2, hc, rfl, hsc, hDl, hpast, hless, hfr⟩ := hrel
        rw [← HM.out] at hc
        have HSC := Lib.hid hsc
        have HPAST := Lib.hid hpast
        have HLESS := Lib.hid hless
        have HFR := Lib.hid hfr
        have HDL := Lib.hid hDl
        by_cases hcM : c < M
        · have hd2 : decide (c < M) = true := decide_eq_true hcM
          have hcl : c < (uIdx g.rules n R).length := by rw [← HM.out]; exact hcM
          have hui := hsc.uses.at_ n hnu (by rw [ULs_len]; exact hnN)
          rw [ULs_get, HRV.out] at hui
          obtain ⟨b9, o9, e9, hcell⟩ := int_cell hui c hcl
          subst e9
          obtain ⟨j, hj, hjR, r, hr, hmem⟩ := mem_uIdx.1 (List.getElem_mem hcl)
          rw [hj] at hcell
          have hjD : j < D2.length := by rw [hDl, HOUT.out.len, HD0.out]; exact (List.getElem?_eq_some_iff.1 hr).1
          have hdc := hsc.due.cell hjD
          have hdf := hsc.due.free j
          obtain ⟨l0, l1, l2, l3, l4, l5, l6, l7⟩ := hsc.cells
          have HNX := Lib.hid (hsc.mark j true)
          have HNF := Lib.hid (show Fr [bd] w2 (wr.setCell ⟨bd, j, none⟩ (.bool true)) from hfr.trans (Fr.set0 wr bd j (.bool true)) (fun _ h _ => h) (fun _ h _ => h))
          have HNP := Lib.hid (show ∀ i (h : i < (uIdx g.rules n R).length), i < c + 1 → ∀ q : Nat, (uIdx g.rules n R)[i]'h = (q : Int) → (D2.set j true)[q]? = some true from fun i h hi q hq => by
            by_cases e : i = c
            · subst e
              rw [hj] at hq
              obtain rfl : j = q := by omega
              simp [hjD]
            · by_cases e2 : j = q
              · subst e2; simp [hjD]
              · rw [List.getElem?_set_ne e2]
                exact hpast i h (by omega) q hq)
          have HNL2 := Lib.hid (show ∀ q : Nat, (D2.set j true)[q]? = some false → D[q]? = some false from fun q hq => by
            by_cases e2 : j = q
            · subst e2; simp [hjD] at hq
            · rw [List.getElem?_set_ne e2] at hq
              exact hless q hq)
          clear hsc hDl hpast hless hfr hui hj hr hmem
          go_wp2_with fail
          go_roundw
          case rel => exact ⟨c + 1, D2.set j true, by rw [← HM.out]; omega, by go_num, HNX.out, by rw [List.length_set]; exact HDL.out, HNP.out, HNL2.out, HNF.out⟩
          case measure => simp [intOf]; omega
        · have hd2 : decide (c < M) = false := decide_eq_false hcM
          have hcE : c = (uIdx g.rules n R).length := by rw [← HM.out]; omega
          have HUS := Lib.hid (show ∀ (j : Nat) (r : RuleG), g.rules[j]? = some r → (n : Int) ∈ r.right → D2[j]? = some true from fun j r hr hm => by
            have h5 : (j : Int) ∈ uIdx g.rules n R := mem_uIdx.2 ⟨j, rfl, by rw [HRE.out]; exact (List.getElem?_eq_some_iff.1 hr).1, r, hr, hm⟩
            obtain ⟨i, hi, e⟩ := List.getElem_of_mem h5
            exact hpast i hi (by omega) j e)
          have HFIN := Lib.hid (HOUT.out.grow HS.out hDl HUS.out hless)
          clear hsc hDl hpast hless hfr hcE
          go_wp2_with fail
          go_ret
          refine ⟨true, rfl, ?_, .inr ⟨rfl, _, _, D2, HSC.out, HFIN.out, fun ls0 h => RndK.grow hn h HGR.out n⟩⟩
          exact (HF1.out.trans HF2.out (n := [bs, bd]) (fun i hi _ => by simp at hi; simp [hi]) (fun i hi _ => by simp at hi; simp [hi])).trans HFR.out (fun _ h _ => h) (fun i hi _ => by simp at hi; simp [hi])
    · have hd1 : decide (nl < m) = false := decide_eq_false hgr
      have HSAME := Lib.hid (hout.same HS.out (by rw [← HNL.out, ← HME.out]; exact hgr))
      clear hA1 hout hal hdue HOR hgr hm
      go_wp2_with fail
      go_ret
      exact ⟨true, rfl, HF1.out.mono (fun i hi _ => by simp at hi; simp [hi]), .inr ⟨rfl, vs, ls, D, HA1.out, HSAME.out, fun ls0 h => h.same HOUT.out HS.out.due⟩⟩
end Go.Proofs.Ytmcekpgmebanaaa
