/- Several texts in one: WpI, WpJ, WpK. -/
import Derived.LoopTactic
import Derived.WalkMore
import Derived.Test.YtamoalnbcmnciaaDt
import Derived.Test.YtamoalnbcmnciaaMm
import Derived.Test.YtamoalnbcmnciaaPa
import Derived.Test.YtamoalnbcmnciaaPb
import Derived.Test.YtamoalnbcmnciaaGc
import Derived.Test.YtamoalnbcmnciaaBs
/-! The program's well (layer 15): slices.Index and slices.Contains at numbers and at marks. Written by wip/tools/gen_wpi.py. -/
namespace Go.Proofs.Ytamoalnbcmnciaa
open Go.RowKit

def CxRel_i (w : World) (l : List Int) (x : Int) (iv : Value) (wx : World) : Prop := ∃ k : Nat, k ≤ l.length ∧ iv = .int .i64 (k : Int) ∧ (∀ j (_ : j < k) (h : j < l.length), l[j]'h ≠ x) ∧ Fr [] w wx
def RIx_i (l : List Int) (x : Int) (w : World) (e : Ending) (w' : World) : Prop := ∃ r : Int, e = .returned (.int .i64 r) ∧ decide (0 ≤ r) = decide (x ∈ l) ∧ Fr [] w w'
set_option maxRecDepth 100000 in
set_option maxHeartbeats 1000000 in
theorem pindex_i (l : List Int) (x : Int) (lv : Value) (w : World) (h : intsAt w lv l) : Calls Try.prog 33 #[lv, .int .i64 x] w (RIx_i l x w) := by
  obtain ⟨a0, c0, rfl, hle, hmx⟩ := h.form
  have HE := Lib.hid h
  clear h
  go_enter Try.func33, Try.ntmps33
  go_wp2_with fail
  go_loopw [8] (CxRel_i w l x) (fun iv _ => l.length - (intOf iv).toNat)
  case atStart => exact ⟨0, Nat.zero_le _, rfl, fun j hj => by omega, Fr.refl _ _⟩
  case round =>
    obtain ⟨k, hk, rfl, hall, hf⟩ := hrel
    have HA := Lib.hid hall
    have HF := Lib.hid hf
    clear hall
    by_cases hkn : k < l.length
    · have hd2 : decide (k < l.length) = true := decide_eq_true hkn
      obtain ⟨b, off, rfl, hc⟩ := int_cell (HE.out.below hf) k hkn
      have hm := List.getElem_mem hkn
      obtain ⟨y, hy⟩ : ∃ y, y = l[k]'hkn := ⟨_, rfl⟩
      rw [← hy] at hc hm
      have HY := Lib.hid hy
      have HM := Lib.hid hm
      clear hf hy hm
      by_cases he : x = y
      · have e1 : (x == y) = true := by rw [he]; simp
        have HX := Lib.hid he
        clear he
        go_wp2_with fail
        go_ret
        refine ⟨(k : Int), rfl, ?_, HF.out⟩
        rw [decide_eq_true (show (0 : Int) ≤ (k : Int) by omega), decide_eq_true (show x ∈ l by rw [HX.out]; exact HM.out)]
      · have e1 : (x == y) = false := by rw [beq_eq_false_iff_ne]; exact he
        have HX := Lib.hid he
        clear he
        go_wp2_with fail
        refine ⟨⟨k + 1, by omega, by go_num, fun j hj hjl => ?_, HF.out⟩, by simp [intOf]; omega⟩
        by_cases e : j = k
        · subst e; rw [← HY.out]; exact fun q => HX.out q.symm
        · exact HA.out j (by omega) hjl
    · have hd2 : decide (k < l.length) = false := decide_eq_false hkn
      have HN := Lib.hid (show x ∉ l from fun hm => by obtain ⟨j, hj, e⟩ := List.getElem_of_mem hm; exact HA.out j (by omega) hj e)
      clear hf hkn
      go_wp2_with fail
      go_ret
      refine ⟨-1, rfl, ?_, HF.out⟩
      rw [decide_eq_false HN.out]
      rfl
set_option maxRecDepth 100000 in
theorem pcontains_i (l : List Int) (x : Int) (lv : Value) (w : World) (h : intsAt w lv l) : Calls Try.prog 18 #[lv, .int .i64 x] w fun e w' => e = .returned (.bool (decide (x ∈ l))) ∧ Fr [] w w' := by
  have hix := pindex_i l x lv w h
  obtain ⟨a0, c0, rfl, hle, hmx⟩ := h.form
  obtain ⟨R, hR⟩ : ∃ R, R = decide (x ∈ l) := ⟨_, rfl⟩
  rw [← hR]
  unfold RIx_i at hix
  rw [← hR] at hix
  have HI := Lib.hid hix
  clear hix h hR
  go_enter Try.func18, Try.ntmps18
  go_wp2_with (go_at_call 33; refine HI.out.mono ?_; rintro e w1 ⟨r, rfl, hr, hf1⟩)
  go_ret
  exact ⟨by rw [← hr]; rfl, hf1⟩
def CxRel_b (w : World) (l : List Bool) (x : Bool) (iv : Value) (wx : World) : Prop := ∃ k : Nat, k ≤ l.length ∧ iv = .int .i64 (k : Int) ∧ (∀ j (_ : j < k) (h : j < l.length), l[j]'h ≠ x) ∧ Fr [] w wx
def RIx_b (l : List Bool) (x : Bool) (w : World) (e : Ending) (w' : World) : Prop := ∃ r : Int, e = .returned (.int .i64 r) ∧ decide (0 ≤ r) = decide (x ∈ l) ∧ Fr [] w w'
set_option maxRecDepth 100000 in
set_option maxHeartbeats 1000000 in
theorem pindex_b (l : List Bool) (x : Bool) (lv : Value) (w : World) (h : boolsAt w lv l) : Calls Try.prog 40 #[lv, .bool x] w (RIx_b l x w) := by
  obtain ⟨a0, c0, rfl, hle, hmx⟩ := h.form
  have HE := Lib.hid h
  clear h
  go_enter Try.func40, Try.ntmps40
  go_wp2_with fail
  go_loopw [8] (CxRel_b w l x) (fun iv _ => l.length - (intOf iv).toNat)
  case atStart => exact ⟨0, Nat.zero_le _, rfl, fun j hj => by omega, Fr.refl _ _⟩
  case round =>
    obtain ⟨k, hk, rfl, hall, hf⟩ := hrel
    have HA := Lib.hid hall
    have HF := Lib.hid hf
    clear hall
    by_cases hkn : k < l.length
    · have hd2 : decide (k < l.length) = true := decide_eq_true hkn
      obtain ⟨b, off, rfl, hc⟩ := bool_cell (HE.out.below hf) k hkn
      have hm := List.getElem_mem hkn
      obtain ⟨y, hy⟩ : ∃ y, y = l[k]'hkn := ⟨_, rfl⟩
      rw [← hy] at hc hm
      have HY := Lib.hid hy
      have HM := Lib.hid hm
      clear hf hy hm
      by_cases he : x = y
      · have e1 : (x == y) = true := by rw [he]; simp
        have HX := Lib.hid he
        clear he
        go_wp2_with fail
        go_ret
        refine ⟨(k : Int), rfl, ?_, HF.out⟩
        rw [decide_eq_true (show (0 : Int) ≤ (k : Int) by omega), decide_eq_true (show x ∈ l by rw [HX.out]; exact HM.out)]
      · have e1 : (x == y) = false := by rw [beq_eq_false_iff_ne]; exact he
        have HX := Lib.hid he
        clear he
        go_wp2_with fail
        refine ⟨⟨k + 1, by omega, by go_num, fun j hj hjl => ?_, HF.out⟩, by simp [intOf]; omega⟩
        by_cases e : j = k
        · subst e; rw [← HY.out]; exact fun q => HX.out q.symm
        · exact HA.out j (by omega) hjl
    · have hd2 : decide (k < l.length) = false := decide_eq_false hkn
      have HN := Lib.hid (show x ∉ l from fun hm => by obtain ⟨j, hj, e⟩ := List.getElem_of_mem hm; exact HA.out j (by omega) hj e)
      clear hf hkn
      go_wp2_with fail
      go_ret
      refine ⟨-1, rfl, ?_, HF.out⟩
      rw [decide_eq_false HN.out]
      rfl
set_option maxRecDepth 100000 in
theorem pcontains_b (l : List Bool) (x : Bool) (lv : Value) (w : World) (h : boolsAt w lv l) : Calls Try.prog 21 #[lv, .bool x] w fun e w' => e = .returned (.bool (decide (x ∈ l))) ∧ Fr [] w w' := by
  have hix := pindex_b l x lv w h
  obtain ⟨a0, c0, rfl, hle, hmx⟩ := h.form
  obtain ⟨R, hR⟩ : ∃ R, R = decide (x ∈ l) := ⟨_, rfl⟩
  rw [← hR]
  unfold RIx_b at hix
  rw [← hR] at hix
  have HI := Lib.hid hix
  clear hix h hR
  go_enter Try.func21, Try.ntmps21
  go_wp2_with (go_at_call 40; refine HI.out.mono ?_; rintro e w1 ⟨r, rfl, hr, hf1⟩)
  go_ret
  exact ⟨by rw [← hr]; rfl, hf1⟩
end Go.Proofs.Ytamoalnbcmnciaa

/-! The program's well (layer 15): Shortest, Reached, Check. -/
namespace Go.Proofs.Ytamoalnbcmnciaa
open Go.RowKit

/-- A grammar in its box. -/
theorem box_gram {g : GramG} {gv : Value} {w : World} (hg : gramAt w gv g) : ∃ a1 c1 a2 c2 a3 c3, gv = .agg #[.slice a1 g.names.length c1, .slice a2 g.terms.length c2, .slice a3 g.rules.length c3] ∧
    Hid (Fr [] w (w.alloc (.cells #[.slice a1 g.names.length c1, .slice a2 g.terms.length c2, .slice a3 g.rules.length c3] 25))) ∧
    Hid ((w.alloc (.cells #[.slice a1 g.names.length c1, .slice a2 g.terms.length c2, .slice a3 g.rules.length c3] 25)).heap[w.heap.size]? = some (.cells #[.slice a1 g.names.length c1, .slice a2 g.terms.length c2, .slice a3 g.rules.length c3] 25 (0, 0))) := by
  obtain ⟨a1, c1, a2, c2, a3, c3, rfl, -, -, -⟩ := hg.parts
  exact ⟨a1, c1, a2, c2, a3, c3, rfl, Fr.alloc _ _, heap_alloc_new _ _⟩
set_option maxRecDepth 100000 in
set_option maxHeartbeats 1000000 in
theorem pshortest_any : ProgShortest := by
  intro g gv w hg hz hi
  obtain ⟨a1, c1, a2, c2, a3, c3, rfl, HF0, HB⟩ := box_gram hg
  obtain ⟨w0, hw0⟩ : ∃ w0, w0 = w.alloc (.cells #[.slice a1 g.names.length c1, .slice a2 g.terms.length c2, .slice a3 g.rules.length c3] 25) := ⟨_, rfl⟩
  obtain ⟨q0, hq0⟩ : ∃ q0, q0 = w.heap.size := ⟨_, rfl⟩
  rw [← hw0] at HF0 HB
  rw [← hq0] at HB
  have HV := Lib.hid (pvalid_any g _ w0 (hg.below HF0.out) hz hi)
  have HL := Lib.hid (fun wx (hf : Fr [] w wx) (hv : ValidG g) => plengths_any g _ wx (hg.below hf) hv)
  unfold RShort
  obtain ⟨N, hN⟩ : ∃ n, n = g.names.length := ⟨_, rfl⟩
  obtain ⟨n2, hn2⟩ : ∃ n, n = g.terms.length := ⟨_, rfl⟩
  obtain ⟨n3, hn3⟩ : ∃ n, n = g.rules.length := ⟨_, rfl⟩
  rw [← hN, ← hn2, ← hn3] at HB hw0 HV HL
  rw [← hN, ← hn2, ← hn3]
  have HW0 := Lib.hid hw0
  have HQ0 := Lib.hid hq0
  have HN := Lib.hid hN
  clear hw0 hq0 hN hn2 hn3 hg hz hi
  obtain ⟨x0, x1, x2, -⟩ := three_of_heap HB.out
  cases hvb : validB g with
  | false =>
    rw [hvb] at HV
    have HVB := Lib.hid hvb
    clear hvb
    go_enter Try.func12, Try.ntmps12
    go_upto_region 1 with fail
    rw [← HW0.out, ← HQ0.out]
    go_wp2_with (go_at_call 17; refine HV.out.mono ?_; rintro e w1 ⟨rfl, hf1⟩)
    go_ret
    exact ⟨_, [], rfl, cellsAt.nil _, by unfold ShortL; rw [HVB.out]; simp, HF0.out.trans hf1 (by simp) (by simp)⟩
  | true =>
    rw [hvb] at HV
    have HVB := Lib.hid hvb
    have HVG := Lib.hid (of_boolOf hvb)
    clear hvb
    go_enter Try.func12, Try.ntmps12
    go_upto_region 1 with fail
    rw [← HW0.out, ← HQ0.out]
    go_wp2_with (first
      | (go_at_call 19; have := w1; refine (HL.out w1 HF1.out HVG.out).mono ?_; rintro e w2 ⟨b, hb, rfl, hrow, hl, hok, hf2⟩)
      | (go_at_call 17; refine HV.out.mono ?_; rintro e w1 ⟨rfl, hf1⟩; have HF1 := Lib.hid (HF0.out.trans hf1 (by simp) (n := []) (by simp)); obtain ⟨x0, x1, x2, -⟩ := three_of_heap (hf1.heap HB.out (by simp)); clear hf1))
    go_ret
    obtain ⟨h1, h2⟩ := lensP_short HVG.out
    rw [HN.out]
    exact ⟨_, lensP g, rfl, hrow.at (by rw [h1]; have := HVG.out.syms; simp [maxLen]; omega) _ h1.symm, by unfold ShortL; rw [HVB.out]; exact ⟨h1, h2⟩, HF1.out.trans hf2 (by simp) (by simp)⟩
set_option maxRecDepth 100000 in
set_option maxHeartbeats 1000000 in
theorem preachedx_any : ProgReached := by
  intro g gv w hg hz hi
  obtain ⟨a1, c1, a2, c2, a3, c3, rfl, HF0, HB⟩ := box_gram hg
  obtain ⟨w0, hw0⟩ : ∃ w0, w0 = w.alloc (.cells #[.slice a1 g.names.length c1, .slice a2 g.terms.length c2, .slice a3 g.rules.length c3] 25) := ⟨_, rfl⟩
  obtain ⟨q0, hq0⟩ : ∃ q0, q0 = w.heap.size := ⟨_, rfl⟩
  rw [← hw0] at HF0 HB
  rw [← hq0] at HB
  have HV := Lib.hid (pvalid_any g _ w0 (hg.below HF0.out) hz hi)
  have HL := Lib.hid (fun wx (hf : Fr [] w wx) (hv : ValidG g) => plengths_any g _ wx (hg.below hf) hv)
  have HR := Lib.hid (fun wx (hf : Fr [] w wx) (hv : ValidG g) => preached_any g _ wx (hg.below hf) hv)
  unfold RBools
  obtain ⟨N, hN⟩ : ∃ n, n = g.names.length := ⟨_, rfl⟩
  obtain ⟨n2, hn2⟩ : ∃ n, n = g.terms.length := ⟨_, rfl⟩
  obtain ⟨n3, hn3⟩ : ∃ n, n = g.rules.length := ⟨_, rfl⟩
  rw [← hN, ← hn2, ← hn3] at HB hw0 HV HL HR
  rw [← hN, ← hn2, ← hn3]
  have HW0 := Lib.hid hw0
  have HQ0 := Lib.hid hq0
  have HN := Lib.hid hN
  have HN2 := Lib.hid hn2
  clear hw0 hq0 hN hn2 hn3 hg hz hi
  obtain ⟨x0, x1, x2, -⟩ := three_of_heap HB.out
  cases hvb : validB g with
  | false =>
    rw [hvb] at HV
    have HVB := Lib.hid hvb
    clear hvb
    go_enter Try.func11, Try.ntmps11
    go_upto_region 1 with fail
    rw [← HW0.out, ← HQ0.out]
    go_wp2_with (go_at_call 17; refine HV.out.mono ?_; rintro e w1 ⟨rfl, hf1⟩)
    go_ret
    exact ⟨_, rfl, by unfold reachO; rw [HVB.out]; exact cellsAt.nil _, HF0.out.trans hf1 (by simp) (by simp)⟩
  | true =>
    rw [hvb] at HV
    have HVB := Lib.hid hvb
    have HVG := Lib.hid (of_boolOf hvb)
    clear hvb
    go_enter Try.func11, Try.ntmps11
    go_upto_region 1 with fail
    rw [← HW0.out, ← HQ0.out]
    go_wp2_with (first
      | (go_at_call 20; have := w1; refine (HR.out w1 HF1.out HVG.out).mono ?_; rintro e w2 ⟨b, b2, hb, hb2, rfl, hr, hr2, hl, hl2, hf2⟩)
      | (go_at_call 17; refine HV.out.mono ?_; rintro e w1 ⟨rfl, hf1⟩; have HF1 := Lib.hid (HF0.out.trans hf1 (by simp) (n := []) (by simp)); obtain ⟨x0, x1, x2, -⟩ := three_of_heap (hf1.heap HB.out (by simp)); clear hf1))
    go_ret
    rw [reachedP_is HVG.out] at hr hl
    refine ⟨_, rfl, ?_, HF1.out.trans hf2 (by simp) (by simp)⟩
    unfold reachO
    rw [if_pos HVB.out]
    exact hr.at (by rw [hl]; have := HVG.out.syms; simp [maxLen]; omega) _ hl.symm
set_option maxRecDepth 100000 in
set_option maxHeartbeats 2000000 in
theorem pcheck_any : ProgCheck := by
  intro g gv w hg hz hi
  obtain ⟨a1, c1, a2, c2, a3, c3, rfl, HF0, HB⟩ := box_gram hg
  obtain ⟨w0, hw0⟩ : ∃ w0, w0 = w.alloc (.cells #[.slice a1 g.names.length c1, .slice a2 g.terms.length c2, .slice a3 g.rules.length c3] 25) := ⟨_, rfl⟩
  obtain ⟨q0, hq0⟩ : ∃ q0, q0 = w.heap.size := ⟨_, rfl⟩
  rw [← hw0] at HF0 HB
  rw [← hq0] at HB
  have HV := Lib.hid (pvalid_any g _ w0 (hg.below HF0.out) hz hi)
  have HL := Lib.hid (fun wx (hf : Fr [] w wx) (hv : ValidG g) => plengths_any g _ wx (hg.below hf) hv)
  have HR := Lib.hid (fun wx (hf : Fr [] w wx) (hv : ValidG g) => preached_any g _ wx (hg.below hf) hv)
  obtain ⟨R, hR⟩ : ∃ R, R = checkG g := ⟨_, rfl⟩
  rw [← hR]
  obtain ⟨N, hN⟩ : ∃ n, n = g.names.length := ⟨_, rfl⟩
  obtain ⟨n2, hn2⟩ : ∃ n, n = g.terms.length := ⟨_, rfl⟩
  obtain ⟨n3, hn3⟩ : ∃ n, n = g.rules.length := ⟨_, rfl⟩
  rw [← hN, ← hn2, ← hn3] at HB hw0 HV HL HR
  rw [← hN, ← hn2, ← hn3]
  have HW0 := Lib.hid hw0
  have HQ0 := Lib.hid hq0
  have HN := Lib.hid hN
  have HN2 := Lib.hid hn2
  clear hw0 hq0 hN hn2 hn3 hg hz hi
  obtain ⟨x0, x1, x2, -⟩ := three_of_heap HB.out
  cases hvb : validB g with
  | false =>
    rw [hvb] at HV
    have HX := Lib.hid (show R = 1 by rw [hR]; unfold checkG; rw [if_pos hvb])
    clear hvb hR
    go_enter Try.func7, Try.ntmps7
    go_upto_region 1 with fail
    rw [← HW0.out, ← HQ0.out]
    go_wp2_with (go_at_call 17; refine HV.out.mono ?_; rintro e w1 ⟨rfl, hf1⟩)
    go_ret
    exact ⟨by rw [HX.out]; rfl, HF0.out.trans hf1 (by simp) (by simp)⟩
  | true =>
    rw [hvb] at HV
    have HVG := Lib.hid (of_boolOf hvb)
    rw [check_is (of_boolOf hvb)] at hR
    have HLI := Lib.hid (fun (wx : World) (b : Nat) (hr : intRow wx b (lensP g)) (hl : (lensP g).length = g.names.length) => pcontains_i (lensP g) (-1) _ wx (hr.at (by rw [hl]; have := (of_boolOf hvb).syms; simp [maxLen]; omega) g.names.length hl.symm))
    have HL1 := Lib.hid (fun (wx : World) (b : Nat) (hr : boolRow wx b (reachedP g).1) (hl : (reachedP g).1.length = g.names.length) => pcontains_b (reachedP g).1 false _ wx (hr.at (by rw [hl]; have := (of_boolOf hvb).syms; simp [maxLen]; omega) g.names.length hl.symm))
    have HL2 := Lib.hid (fun (wx : World) (b : Nat) (hr : boolRow wx b (reachedP g).2) (hl : (reachedP g).2.length = g.terms.length) => pcontains_b (reachedP g).2 false _ wx (hr.at (by rw [hl]; have := (of_boolOf hvb).syms; simp [maxLen]; omega) g.terms.length hl.symm))
    have hrp := reachedP_is (of_boolOf hvb)
    rw [show (reachL g) = (reachedP g).1 by rw [hrp], show (usedL g) = (reachedP g).2 by rw [hrp]] at hR
    clear hvb hrp
    obtain ⟨d1, hd1⟩ : ∃ d, d = decide ((-1 : Int) ∈ lensP g) := ⟨_, rfl⟩
    obtain ⟨d2, hd2⟩ : ∃ d, d = decide (false ∈ (reachedP g).1) := ⟨_, rfl⟩
    obtain ⟨d3, hd3⟩ : ∃ d, d = decide (false ∈ (reachedP g).2) := ⟨_, rfl⟩
    rw [← hd1] at HLI
    rw [← hd2] at HL1
    rw [← hd3] at HL2
    have HX : Hid (R = if d1 = true then 18 else if d2 = true then 17 else if d3 = true then 17 else 0) := Lib.hid (by rw [hR, hd1, hd2, hd3]; simp only [decide_eq_true_eq])
    clear hR hd1 hd2 hd3
    cases d1 with
    | true =>
      have HX2 := Lib.hid (show R = 18 from HX.out)
      go_enter Try.func7, Try.ntmps7
      go_upto_region 1 with fail
      rw [← HW0.out, ← HQ0.out]
      go_wp2_with (first
        | (go_at_call 18; have := w2; refine (HLI.out _ _ hrow hl).mono ?_; rintro e w3 ⟨rfl, hf3⟩)
        | (go_at_call 19; have := w1; refine (HL.out w1 HF1.out HVG.out).mono ?_; rintro e w2 ⟨b, hb, rfl, hrow, hl, hok, hf2⟩)
        | (go_at_call 17; refine HV.out.mono ?_; rintro e w1 ⟨rfl, hf1⟩; have HF1 := Lib.hid (HF0.out.trans hf1 (by simp) (n := []) (by simp)); obtain ⟨x0, x1, x2, -⟩ := three_of_heap (hf1.heap HB.out (by simp)); clear hf1))
      go_ret
      exact ⟨by rw [HX2.out]; rfl, HF1.out.trans (hf2.trans hf3 (by simp) (n := []) (by simp)) (by simp) (by simp)⟩
    | false =>
      cases d2 with
      | true =>
        have HX2 := Lib.hid (show R = 17 from HX.out)
        go_enter Try.func7, Try.ntmps7
        go_upto_region 1 with fail
        rw [← HW0.out, ← HQ0.out]
        go_wp2_with (first
          | (go_at_call 21; have := w4; refine (HL1.out _ _ hr hl4).mono ?_; rintro e w5 ⟨rfl, hf5⟩)
          | (go_at_call 20; have := w3; refine (HR.out w3 HF3.out HVG.out).mono ?_; rintro e w4 ⟨b3, b2, hb3, hb2, rfl, hr, hr2, hl4, hl2, hf4⟩)
          | (go_at_call 18; have := w2; refine (HLI.out _ _ hrow hl).mono ?_; rintro e w3 ⟨rfl, hf3⟩; have HF3 := Lib.hid (HF1.out.trans (hf2.trans hf3 (by simp) (n := []) (by simp)) (by simp) (n := []) (by simp)); obtain ⟨x0, x1, x2, -⟩ := three_of_heap ((hf2.trans hf3 (by simp) (n := []) (by simp)).heap HB1.out (by simp)))
          | (go_at_call 19; have := w1; refine (HL.out w1 HF1.out HVG.out).mono ?_; rintro e w2 ⟨b, hb, rfl, hrow, hl, hok, hf2⟩)
          | (go_at_call 17; refine HV.out.mono ?_; rintro e w1 ⟨rfl, hf1⟩; have HF1 := Lib.hid (HF0.out.trans hf1 (by simp) (n := []) (by simp)); have HB1 := Lib.hid (hf1.heap HB.out (by simp)); obtain ⟨x0, x1, x2, -⟩ := three_of_heap HB1.out; clear hf1))
        go_ret
        exact ⟨by rw [HX2.out]; rfl, HF3.out.trans (hf4.trans hf5 (by simp) (n := []) (by simp)) (by simp) (by simp)⟩
      | false =>
        have HX2 := Lib.hid (show R = if d3 = true then 17 else 0 from HX.out)
        cases d3 with
        | true =>
          have HX3 := Lib.hid (show R = 17 from HX2.out)
          go_enter Try.func7, Try.ntmps7
          go_upto_region 1 with fail
          rw [← HW0.out, ← HQ0.out]
          go_wp2_with (first
            | (go_at_call 21; have := w5; refine (HL2.out _ _ (hr2.below hf5) hl2).mono ?_; rintro e w6 ⟨rfl, hf6⟩)
            | (go_at_call 21; have := w4; refine (HL1.out _ _ hr hl4).mono ?_; rintro e w5 ⟨rfl, hf5⟩)
            | (go_at_call 20; have := w3; refine (HR.out w3 HF3.out HVG.out).mono ?_; rintro e w4 ⟨b3, b2, hb3, hb2, rfl, hr, hr2, hl4, hl2, hf4⟩)
            | (go_at_call 18; have := w2; refine (HLI.out _ _ hrow hl).mono ?_; rintro e w3 ⟨rfl, hf3⟩; have HF3 := Lib.hid (HF1.out.trans (hf2.trans hf3 (by simp) (n := []) (by simp)) (by simp) (n := []) (by simp)); obtain ⟨x0, x1, x2, -⟩ := three_of_heap ((hf2.trans hf3 (by simp) (n := []) (by simp)).heap HB1.out (by simp)))
            | (go_at_call 19; have := w1; refine (HL.out w1 HF1.out HVG.out).mono ?_; rintro e w2 ⟨b, hb, rfl, hrow, hl, hok, hf2⟩)
            | (go_at_call 17; refine HV.out.mono ?_; rintro e w1 ⟨rfl, hf1⟩; have HF1 := Lib.hid (HF0.out.trans hf1 (by simp) (n := []) (by simp)); have HB1 := Lib.hid (hf1.heap HB.out (by simp)); obtain ⟨x0, x1, x2, -⟩ := three_of_heap HB1.out; clear hf1))
          go_ret
          exact ⟨by rw [HX3.out]; rfl, HF3.out.trans (hf4.trans (hf5.trans hf6 (by simp) (n := []) (by simp)) (by simp) (n := []) (by simp)) (by simp) (by simp)⟩
        | false =>
          have HX3 := Lib.hid (show R = 0 from HX2.out)
          go_enter Try.func7, Try.ntmps7
          go_upto_region 1 with fail
          rw [← HW0.out, ← HQ0.out]
          go_wp2_with (first
            | (go_at_call 21; have := w5; refine (HL2.out _ _ (hr2.below hf5) hl2).mono ?_; rintro e w6 ⟨rfl, hf6⟩)
            | (go_at_call 21; have := w4; refine (HL1.out _ _ hr hl4).mono ?_; rintro e w5 ⟨rfl, hf5⟩)
            | (go_at_call 20; have := w3; refine (HR.out w3 HF3.out HVG.out).mono ?_; rintro e w4 ⟨b3, b2, hb3, hb2, rfl, hr, hr2, hl4, hl2, hf4⟩)
            | (go_at_call 18; have := w2; refine (HLI.out _ _ hrow hl).mono ?_; rintro e w3 ⟨rfl, hf3⟩; have HF3 := Lib.hid (HF1.out.trans (hf2.trans hf3 (by simp) (n := []) (by simp)) (by simp) (n := []) (by simp)); obtain ⟨x0, x1, x2, -⟩ := three_of_heap ((hf2.trans hf3 (by simp) (n := []) (by simp)).heap HB1.out (by simp)))
            | (go_at_call 19; have := w1; refine (HL.out w1 HF1.out HVG.out).mono ?_; rintro e w2 ⟨b, hb, rfl, hrow, hl, hok, hf2⟩)
            | (go_at_call 17; refine HV.out.mono ?_; rintro e w1 ⟨rfl, hf1⟩; have HF1 := Lib.hid (HF0.out.trans hf1 (by simp) (n := []) (by simp)); have HB1 := Lib.hid (hf1.heap HB.out (by simp)); obtain ⟨x0, x1, x2, -⟩ := three_of_heap HB1.out; clear hf1))
          go_ret
          exact ⟨by rw [HX3.out]; rfl, HF3.out.trans (hf4.trans (hf5.trans hf6 (by simp) (n := []) (by simp)) (by simp) (n := []) (by simp)) (by simp) (by simp)⟩
end Go.Proofs.Ytamoalnbcmnciaa

/-! The program's well (layer 15): Productive. -/
namespace Go.Proofs.Ytamoalnbcmnciaa
open Go.RowKit

theorem intRow.kept {w w' : World} {g : Nat} {l : List Int} {L : List Nat} (h : intRow w g l) (hf : Fr L w w') (hg : g ∉ L) : intRow w' g l := hf.heap h hg
def PdRel (w : World) (b b2 : Nat) (l : List Int) (iv : Value) (wx : World) : Prop := ∃ k : Nat, k ≤ l.length ∧ iv = .int .i64 (k : Int) ∧ intRow wx b l ∧ fillAt wx b2 4 (.bool false) (l.map fun v => Value.bool (v != -1)) k ∧ Fr [] w wx
set_option maxRecDepth 100000 in
set_option maxHeartbeats 2000000 in
theorem pproductive_any : ProgProductive := by
  intro g gv w hg hz hi
  obtain ⟨iB, hiB, hz0, hz1, hz2⟩ := info_parts infoBool
  obtain ⟨a1, c1, a2, c2, a3, c3, rfl, HF0, HB⟩ := box_gram hg
  obtain ⟨w0, hw0⟩ : ∃ w0, w0 = w.alloc (.cells #[.slice a1 g.names.length c1, .slice a2 g.terms.length c2, .slice a3 g.rules.length c3] 25) := ⟨_, rfl⟩
  obtain ⟨q0, hq0⟩ : ∃ q0, q0 = w.heap.size := ⟨_, rfl⟩
  have hsz := HF0.out.size
  rw [← hw0] at HF0 HB hsz
  rw [← hq0] at HB
  have HV := Lib.hid (pvalid_any g _ w0 (hg.below HF0.out) hz hi)
  have HL := Lib.hid (fun wx (hf : Fr [] w wx) (hv : ValidG g) => plengths_any g _ wx (hg.below hf) hv)
  have hle1 : g.names.length ≤ c1 := by obtain ⟨_, _, _, _, _, _, e, ⟨-, q, -⟩, -, -⟩ := hg.parts; simp at e; omega
  unfold RBools
  have HV2 := Lib.hid hz.names
  obtain ⟨N, hN⟩ : ∃ n, n = g.names.length := ⟨_, rfl⟩
  obtain ⟨n2, hn2⟩ : ∃ n, n = g.terms.length := ⟨_, rfl⟩
  obtain ⟨n3, hn3⟩ : ∃ n, n = g.rules.length := ⟨_, rfl⟩
  rw [← hN, ← hn2, ← hn3] at HB hw0 HV HL
  rw [← hN] at hle1 HV2
  rw [← hN, ← hn2, ← hn3]
  have HW0 := Lib.hid hw0
  have HQ0 := Lib.hid hq0
  have HN := Lib.hid hN
  have HSZ := Lib.hid hsz
  clear hw0 hq0 hN hn2 hn3 hg hz hi hsz
  obtain ⟨x0, x1, x2, -⟩ := three_of_heap HB.out
  have hN2 := HV2.out
  cases hvb : validB g with
  | false =>
    rw [hvb] at HV
    have HVB := Lib.hid hvb
    clear hvb
    go_enter Try.func10, Try.ntmps10
    go_upto_region 1 with fail
    rw [← HW0.out, ← HQ0.out]
    go_wp2_with (go_at_call 17; refine HV.out.mono ?_; rintro e w1 ⟨rfl, hf1⟩)
    go_ret
    exact ⟨_, rfl, by unfold prodO; rw [HVB.out]; exact cellsAt.nil _, HF0.out.trans hf1 (by simp) (by simp)⟩
  | true =>
    rw [hvb] at HV
    have HVB := Lib.hid hvb
    have HVG := Lib.hid (of_boolOf hvb)
    clear hvb
    go_enter Try.func10, Try.ntmps10
    go_upto_region 1 with fail
    rw [← HW0.out, ← HQ0.out]
    go_wp2_with (first
      | (go_at_call 19; have := w2; refine (HL.out w2 HF2.out HVG.out).mono ?_; rintro e w3 ⟨b, hb, rfl, hrow, hl, hok, hf3⟩)
      | (refine wpL_make rfl _ _ 31 rfl 4 iB (.bool false) 1 Try.underlying31 hiB hz0 hz1 hz2 rfl N rfl rfl (by omega) (by simp [maxLen]; omega) ?_; intro w2 hh2 hf2 hs2; have HF2 := Lib.hid (HF1.out.trans hf2 (by simp) (n := []) (by simp)); obtain ⟨x0, x1, x2, -⟩ := three_of_heap (hf2.heap HB1.out (by simp)))
      | (go_at_call 17; refine HV.out.mono ?_; rintro e w1 ⟨rfl, hf1⟩; have HF1 := Lib.hid (HF0.out.trans hf1 (by simp) (n := []) (by simp)); have HB1 := Lib.hid (hf1.heap HB.out (by simp)); obtain ⟨x0, x1, x2, -⟩ := three_of_heap HB1.out; clear hf1))
    obtain ⟨b2, hb2⟩ : ∃ b2, b2 = w1.heap.size := ⟨_, rfl⟩
    have HGE := Lib.hid (show w.heap.size ≤ b2 by have := HSZ.out; have := HF1.out.size; omega)
    rw [← hb2] at hh2
    rw [← HN.out] at hl ⊢
    rw [← hb2]
    obtain ⟨l, hl0⟩ : ∃ l, l = lensP g := ⟨_, rfl⟩
    rw [← hl0] at hrow hl hok
    have hll : ((l.map fun v => Value.bool (v != -1))).length = N := by rw [List.length_map, hl]
    have HFL := Lib.hid (fill_below (fill_zero (l := l.map fun v => Value.bool (v != -1)) hll.symm hh2.out) hf3)
    have HF3 := Lib.hid (HF2.out.trans hf3 (by simp) (n := []) (by simp))
    have HROW := Lib.hid hrow
    have HLL := Lib.hid hl
    have HL0 := Lib.hid hl0
    have hne : b2 ≠ b := ne_of_types HFL.out hrow (by decide)
    have HNE := Lib.hid hne
    have hmap : ∀ k (h : k < l.length), (l.map fun v => Value.bool (v != -1))[k]'(by rw [List.length_map]; exact h) = .bool (l[k]'h != -1) := fun k h => by rw [List.getElem_map]
    have HMAP := Lib.hid hmap
    clear hh2 hf2 hs2 hf3 hb hok hrow hl hl0 hll hb2 x0 x1 x2 hne hmap
    go_loopw [16] (PdRel w b b2 l) (fun iv _ => N - (intOf iv).toNat)
    case atStart => exact ⟨0, Nat.zero_le _, rfl, HROW.out, HFL.out, HF3.out⟩
    case round =>
      obtain ⟨k, hk, rfl, hr, hfl, hf⟩ := hrel
      have HF := Lib.hid hf
      have HR := Lib.hid hr
      have HFK := Lib.hid hfl
      by_cases hkn : k < N
      · have hd1 : decide (k < N) = true := decide_eq_true hkn
        have hkl : k < l.length := by have := HLL.out; omega
        have z0 := hr.cell hkl
        have z1 := fill_cell hfl (by rw [List.length_map]; exact hkl)
        have z2 := fill_free hfl k
        obtain ⟨v, hv⟩ : ∃ v, v = l[k]'hkl := ⟨_, rfl⟩
        rw [← hv] at z0
        have HVV := Lib.hid hv
        clear hr hfl hf hv
        go_wp2_with fail
        refine ⟨⟨k + 1, by omega, by go_num, HR.out.kept (Fr.set0 _ _ _ _) (by simp; exact fun e => HNE.out e.symm), ?_, HF.out.trans (Fr.set0 _ _ _ _) (by simp) (fun i hi hlt => by have := HGE.out; simp at hi; omega)⟩, by simp [intOf]; omega⟩
        exact fill_next HFK.out (by rw [List.length_map]; exact hkl) (by rw [HMAP.out k hkl, ← HVV.out])
      · have hd1 : decide (k < N) = false := decide_eq_false hkn
        have HKN := Lib.hid hkn
        clear hr hfl hf hkn
        go_wp2_with fail
        go_ret
        have h1 := fill_end HFK.out (by rw [List.length_map]; have := HKN.out; have := HLL.out; omega) (by rw [List.length_map, HLL.out]; simp [maxLen]; omega)
        rw [List.length_map, HLL.out] at h1
        refine ⟨_, rfl, ?_, HF.out⟩
        unfold prodO
        rw [if_pos HVB.out, prodL_is HVG.out, ← HL0.out]
        unfold boolsAt
        rw [List.map_map]
        exact h1
end Go.Proofs.Ytamoalnbcmnciaa
