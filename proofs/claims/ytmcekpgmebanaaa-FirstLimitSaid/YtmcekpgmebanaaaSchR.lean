/- The program's first sets (layer 20): rounds, and the whole. -/
import Derived.Test.YtmcekpgmebanaaaSg
import Derived.Test.YtmcekpgmebanaaaSchN
import Derived.Test.YtmcekpgmebanaaaTb
import Derived.Test.YtmcekpgmebanaaaPr
import Derived.Test.YtmcekpgmebanaaaWpI
import Derived.WalkMore
set_option linter.unusedVariables false
set_option linter.unusedSimpArgs false
namespace Go.Proofs.Ytmcekpgmebanaaa
open Go.RowKit

def RdGot (g : GramG) (k : Int) (p bs bd br bu : Nat) (x1 x2 x3 : Value) (N R : Nat) (ls : List Words) (rv uv : List Value) (w : World) (e : Ending) (w' : World) : Prop :=
  ∃ c, e = .returned (.int .i64 c) ∧ Fr [bs, bd] w w' ∧ ((c = 21 ∧ OverG g k) ∨ (c = 0 ∧ ∃ vs' ls' D', SchAt w' p bs bd br bu x1 x2 x3 k N R vs' ls' D' rv uv (RLs g.rules N R) (ULs g.rules N R) ∧ SchS g k ls' D' ∧ RndK g ls ls' D' 0))
def RdR (g : GramG) (k : Int) (p bs bd br bu : Nat) (x1 x2 x3 : Value) (N R : Nat) (ls : List Words) (rv uv : List Value) (w : World) (iv : Value) (wx : World) : Prop :=
  ∃ (z : Int) (vs' : List Value) (ls' : List Words) (D' : List Bool), iv = .int .i64 z ∧ -1 ≤ z ∧ z < (N : Int) ∧ SchAt wx p bs bd br bu x1 x2 x3 k N R vs' ls' D' rv uv (RLs g.rules N R) (ULs g.rules N R) ∧ SchS g k ls' D' ∧ RndK g ls ls' D' (z + 1).toNat ∧ Fr [bs, bd] w wx
set_option maxRecDepth 100000 in
set_option maxHeartbeats 8000000 in
theorem pround (hW : ProgWCat) (hU : ProgWUnion) (g : GramG) (k : Int) (ls : List Words) (D0 : List Bool) (p bs bd br bu q0 q6 : Nat) (a1 : Option Addr) (c1 : Nat) (x2 : Value) (a3 : Option Addr) (c3 N R : Nat) (vs rv uv : List Value) (w : World) (hv : ValidG g) (hk1 : 1 ≤ k) (hk4 : k ≤ 4) (hN : N = g.names.length) (hR : R = g.rules.length) (hx3b : ∀ wx, Fr [bs, bd] w wx → rulesAt wx (.slice a3 R c3) g.rules)
    (hq0 : w.cell? ⟨q0, 0, none⟩ = some (.slice a1 N c1)) (hq0n : q0 ∉ [bs, bd]) (hq6 : w.cell? ⟨q6, 0, none⟩ = some (.pointer (some ⟨p, 0, none⟩))) (hq6n : q6 ∉ [bs, bd])
    (hA : SchAt w p bs bd br bu (.slice a1 N c1) x2 (.slice a3 R c3) k N R vs ls D0 rv uv (RLs g.rules N R) (ULs g.rules N R)) (hS : SchS g k ls D0) :
    Calls Try.prog 40 #[.pointer (some ⟨q0, 0, none⟩), .pointer (some ⟨q6, 0, none⟩)] w (RdGot g k p bs bd br bu (.slice a1 N c1) x2 (.slice a3 R c3) N R ls rv uv w) := by
  have HEX := Lib.hid (fun (n : Nat) (ls' : List Words) (D' : List Bool) (vs' : List Value) (wx : World) (hn : n < ls'.length) (hf : Fr [bs, bd] w wx) (hA' : SchAt wx p bs bd br bu (.slice a1 N c1) x2 (.slice a3 R c3) k N R vs' ls' D' rv uv (RLs g.rules N R) (ULs g.rules N R)) (hS' : SchS g k ls' D') => pextend hW hU g k ls' n hn D' p bs bd br bu (.slice a1 N c1) x2 a3 c3 N R vs' rv uv wx hv hk1 hk4 hN hR (fun wy hy => hx3b wy (hf.trans hy (fun _ h _ => h) (fun i hi _ => by simp at hi; simp [hi]))) hA' hS')
  have HA := Lib.hid hA
  have HS := Lib.hid hS
  have HQ6 := Lib.hid (fun wx (hf : Fr [bs, bd] w wx) => hf.cell hq6 hq6n)
  have HNE := Lib.hid hN
  have hN256 : N ≤ 256 := by have := hv.syms; omega
  have hN1 : 1 ≤ N := by rw [hN]; exact hv.one
  have HST := Lib.hid (show RndK g ls ls D0 N from RndK.start (fun r hr => by rw [hN]; exact (hv.rules r hr).2.1))
  have e1 : ((N : Int) - 1 + 1).toNat = N := by omega
  have HE1 := Lib.hid e1
  clear hW hU hv hN hR hx3b hq0n hq6 hq6n hA hS e1
  go_enter Try.func40, Try.ntmps40
  go_wp2_with fail
  clear hq0
  go_loopw [3] (RdR g k p bs bd br bu (.slice a1 N c1) x2 (.slice a3 R c3) N R ls rv uv w) (fun iv _ => (intOf iv + 1).toNat)
  case atStart => exact ⟨(N : Int) - 1, vs, ls, D0, rfl, by omega, by omega, HA.out, HS.out, by rw [HE1.out]; exact HST.out, Fr.refl _ _⟩
  case round =>
    obtain ⟨z, vs', ls', D', rfl, hz1, hz2, hsc, hss, hrk, hfr⟩ := hrel
    have HSC := Lib.hid hsc
    have HSS := Lib.hid hss
    have HRK := Lib.hid hrk
    have HFR := Lib.hid hfr
    by_cases hneg : z < 0
    · have d1 : decide (z < 0) = true := decide_eq_true hneg
      have d1b : decide (0 ≤ z) = false := decide_eq_false (by omega)
      have HZ := Lib.hid (show (z + 1).toNat = 0 by omega)
      clear hsc hss hrk hfr hneg
      go_wp2_with fail
      go_ret
      exact ⟨0, rfl, HFR.out, .inr ⟨rfl, vs', ls', D', HSC.out, HSS.out, by have := HRK.out; rwa [HZ.out] at this⟩⟩
    · obtain ⟨n, rfl⟩ := Int.eq_ofNat_of_zero_le (show 0 ≤ z by omega)
      have d1 : decide ((n : Int) < 0) = false := decide_eq_false (by omega)
      have d1b : decide (0 ≤ (n : Int)) = true := decide_eq_true (by omega)
      have hnl : n < ls'.length := by rw [hss.sound.len, ← HNE.out]; omega
      have HC := Lib.hid (HEX.out n ls' D' vs' wr hnl hfr hsc hss)
      have c6 := HQ6.out wr hfr
      have hrk2 := hrk
      rw [show ((n : Int) + 1).toNat = n + 1 by omega] at hrk2
      have HRK2 := Lib.hid hrk2
      have hnb : n ≤ 256 := by omega
      clear hsc hss hrk hfr hneg hrk2
      go_upto_if 15 with (go_at_call 41; refine HC.out.mono ?_; rintro e w1 ⟨b, rfl, hf1, hor⟩; have HF1 := Lib.hid hf1; have HOR := Lib.hid hor; clear hf1 hor)
      rcases HOR.out with ⟨rfl, hov⟩ | ⟨rfl, vs2, ls2, D2, hsc2, hss2, hrk2⟩
      · have HOV := Lib.hid hov
        clear hov HOR c6
        go_wp2_with fail
        go_ret
        exact ⟨21, rfl, HFR.out.trans HF1.out (fun _ h _ => h) (fun _ h _ => h), .inl ⟨rfl, HOV.out⟩⟩
      · have HSC2 := Lib.hid hsc2
        have HSS2 := Lib.hid hss2
        have HRKN := Lib.hid (hrk2 ls HRK2.out)
        have HEN := Lib.hid (show ((n : Int) - 1 + 1).toNat = n by omega)
        clear hsc2 hss2 hrk2 HOR c6
        go_wp2_with fail
        exact ⟨⟨(n : Int) - 1, vs2, ls2, D2, rfl, by omega, by omega, HSC2.out, HSS2.out, by rw [HEN.out]; exact HRKN.out, HFR.out.trans HF1.out (fun _ h _ => h) (fun _ h _ => h)⟩, by simp [intOf] <;> omega⟩
def lenV : Option Value → Nat
  | some (.slice _ m _) => m
  | _ => 0
def sumV (w : World) (b n : Nat) : Nat := ((List.range n).map fun a => lenV (w.cell? ⟨b, a, none⟩)).sum
theorem SetB.sum {w : World} {b : Nat} {vs : List Value} {ls : List Words} (h : SetB w b vs ls) : sumV w b ls.length = (ls.map List.length).sum := by
  unfold sumV
  congr 1
  apply List.ext_getElem
  · simp
  · intro i h1 h2
    have hi : i < ls.length := by simpa using h1
    have hv : i < vs.length := by rw [h.len]; exact hi
    simp only [List.getElem_map, List.getElem_range]
    rw [h.cell hv]
    obtain ⟨p, c, e, -, -⟩ := (h.at_ i hv hi).form
    rw [e]; rfl
theorem small_sum {ls : List Words} {N : Nat} (hl : ls.length = N) (h : ∀ i (h : i < ls.length), (ls[i]'h).length ≤ 4096) : (ls.map List.length).sum ≤ N * 4096 := by
  rw [← hl]
  exact sum_most ls 4096 (fun l hm => by obtain ⟨i, hi, rfl⟩ := List.getElem_of_mem hm; exact h i hi)
set_option maxRecDepth 100000 in
set_option maxHeartbeats 8000000 in
theorem psets_bad (hCk : ProgCheck) (g : GramG) (gv : Value) (k : Int) (w : World) (hg : gramAt w gv g) (hz : SizeG g) (hi : IntG g) (hb : k < 1 ∨ 4 < k ∨ checkG g ≠ 0) : Calls Try.prog 23 #[gv, .int .i64 k] w (FirstGot g k w) := by
  obtain ⟨a1, c1, a2, c2, a3, c3, rfl, HF0, HB⟩ := box_gram hg
  obtain ⟨w0, hw0⟩ : ∃ w0, w0 = w.alloc (.cells #[.slice a1 g.names.length c1, .slice a2 g.terms.length c2, .slice a3 g.rules.length c3] 44) := ⟨_, rfl⟩
  obtain ⟨q0, hq0⟩ : ∃ q0, q0 = w.heap.size := ⟨_, rfl⟩
  rw [← hw0] at HF0 HB
  rw [← hq0] at HB
  have HCK := Lib.hid (hCk g _ w0 (hg.below HF0.out) hz hi)
  have HW0 := Lib.hid hw0
  have HQ0 := Lib.hid hq0
  have HOUT := Lib.hid (show FirstOut g k [] 1 from .inl ⟨hb, rfl, rfl⟩)
  obtain ⟨n2, hn2⟩ : ∃ n, n = g.terms.length := ⟨_, rfl⟩
  obtain ⟨n1, hn1⟩ : ∃ n, n = g.names.length := ⟨_, rfl⟩
  obtain ⟨n3, hn3⟩ : ∃ n, n = g.rules.length := ⟨_, rfl⟩
  rw [← hn1, ← hn2, ← hn3] at HB HW0 HCK ⊢
  obtain ⟨C, hC⟩ : ∃ C, C = checkG g := ⟨_, rfl⟩
  rw [← hC] at HCK hb
  obtain ⟨x0, x1, x2, -⟩ := three_of_heap HB.out
  clear hw0 hq0 hg hz hi hCk hn1 hn2 hn3 hC
  have fin : ∀ wx, Fr [] w wx → FirstGot g k w (.returned (.tuple #[.slice none 0 0, .int .i64 1])) wx := fun wx hf => ⟨_, [], 1, rfl, sets_nil wx, HOUT.out, hf⟩
  have HFIN := Lib.hid fin
  clear fin
  by_cases h0 : C = 0
  · have d0 : (C == 0) = true := by rw [beq_iff_eq]; exact h0
    have d0b : (C != 0) = false := by rw [bne_eq_false_iff_eq]; exact h0
    have d0c : (!(C == 0)) = false := by rw [d0]; rfl
    by_cases h1 : k < 1
    · have d1 : decide (k < 1) = true := decide_eq_true h1
      clear h1 hb h0
      go_enter Try.func23, Try.ntmps23
      go_upto_region 1 with fail
      rw [← HW0.out, ← HQ0.out]
      go_step3
      go_wp2_with (go_at_call 38; refine HCK.out.mono ?_; rintro e w3 ⟨rfl, hf3⟩)
      rw [Exit.noGoto_ret]
      go_ret2
      exact HFIN.out _ (HF0.out.tr0 hf3)
    · have d1 : decide (k < 1) = false := decide_eq_false h1
      have h2 : 4 < k := by omega
      have d2 : decide (4 < k) = true := decide_eq_true h2
      clear h1 h2 hb h0
      go_enter Try.func23, Try.ntmps23
      go_upto_region 1 with fail
      rw [← HW0.out, ← HQ0.out]
      go_step3
      go_wp2_with (go_at_call 38; refine HCK.out.mono ?_; rintro e w3 ⟨rfl, hf3⟩)
      rw [Exit.noGoto_ret]
      go_ret2
      exact HFIN.out _ (HF0.out.tr0 hf3)
  · have d3 : (C == 0) = false := by rw [beq_eq_false_iff_ne]; exact h0
    have d3b : (C != 0) = true := by rw [bne_iff_ne]; exact h0
    have d3c : (!(C == 0)) = true := by rw [d3]; rfl
    clear hb h0
    go_enter Try.func23, Try.ntmps23
    go_upto_region 1 with fail
    rw [← HW0.out, ← HQ0.out]
    go_step3
    go_wp2_with (go_at_call 38; refine HCK.out.mono ?_; rintro e w3 ⟨rfl, hf3⟩)
    rw [Exit.noGoto_ret]
    go_ret2
    exact HFIN.out _ (HF0.out.tr0 hf3)
def StRel (g : GramG) (k : Int) (p bs bd br bu : Nat) (x1 x2 x3 : Value) (N R : Nat) (rv uv : List Value) (w1 : World) (wx : World) : Prop :=
  ∃ (vs : List Value) (ls : List Words) (D : List Bool), SchAt wx p bs bd br bu x1 x2 x3 k N R vs ls D rv uv (RLs g.rules N R) (ULs g.rules N R) ∧ SchS g k ls D ∧ Fr [bs, bd] w1 wx
set_option maxRecDepth 100000 in
set_option maxHeartbeats 8000000 in
theorem psets_good (hW : ProgWCat) (hU : ProgWUnion) (hCk : ProgCheck) (g : GramG) (gv : Value) (k : Int) (w : World) (hg : gramAt w gv g) (hz : SizeG g) (hi : IntG g) (hk1 : 1 ≤ k) (hk4 : k ≤ 4) (hc : checkG g = 0) : Calls Try.prog 23 #[gv, .int .i64 k] w (FirstGot g k w) := by
  obtain ⟨a1, c1, a2, c2, a3, c3, rfl, HF0, HB⟩ := box_gram hg
  have hgr : rulesAt w (.slice a3 g.rules.length c3) g.rules := by
    obtain ⟨x, y, z, e, -, -, h⟩ := hg
    simp only [Value.agg.injEq, Array.mk.injEq, List.cons.injEq, and_true] at e
    rw [e.2.2]; exact h
  obtain ⟨w0, hw0⟩ : ∃ w0, w0 = w.alloc (.cells #[.slice a1 g.names.length c1, .slice a2 g.terms.length c2, .slice a3 g.rules.length c3] 44) := ⟨_, rfl⟩
  obtain ⟨q0, hq0⟩ : ∃ q0, q0 = w.heap.size := ⟨_, rfl⟩
  rw [← hw0] at HF0 HB
  rw [← hq0] at HB
  have hv := check_valid hc
  have HCK := Lib.hid (hCk g _ w0 (hg.below HF0.out) hz hi)
  rw [hc] at HCK
  have HW0 := Lib.hid hw0
  have HQ0 := Lib.hid hq0
  have HV := Lib.hid hv
  have HC := Lib.hid hc
  have HGA := Lib.hid (fun wx (hf : Fr [] w wx) => pnew g _ k wx (hg.below hf) hv _ _ _ rfl)
  have HGR := Lib.hid (fun wx (hf : Fr [] w wx) => hgr.below hf)
  have hN256 : g.names.length ≤ 256 := by have := hv.syms; omega
  obtain ⟨n2, hn2⟩ : ∃ n, n = g.terms.length := ⟨_, rfl⟩
  obtain ⟨n1, hn1⟩ : ∃ n, n = g.names.length := ⟨_, rfl⟩
  obtain ⟨n3, hn3⟩ : ∃ n, n = g.rules.length := ⟨_, rfl⟩
  have HGA2 := Lib.hid (show ∀ wx, Fr [] w wx → Calls Try.prog 39 #[.agg #[.slice a1 n1 c1, .slice a2 n2 c2, .slice a3 n3 c3], .int .i64 k] wx fun e w' => ∃ p bs bd br bu vs rv uv, e = .returned (.pointer (some ⟨p, 0, none⟩)) ∧ wx.heap.size ≤ bs ∧ wx.heap.size ≤ bd ∧ SchAt w' p bs bd br bu (.slice a1 n1 c1) (.slice a2 n2 c2) (.slice a3 n3 c3) k n1 n3 vs (List.replicate g.names.length []) (List.replicate g.rules.length true) rv uv (RLs g.rules n1 n3) (ULs g.rules n1 n3) ∧ Fr [] wx w' from fun wx hf => by
    rw [hn1, hn2, hn3]
    exact HGA.out wx hf)
  have HN1 := Lib.hid hn1
  have HN3 := Lib.hid hn3
  rw [← hn1, ← hn2, ← hn3] at HB HW0 HCK ⊢
  rw [← hn3] at HGR
  rw [← hn1] at hN256
  obtain ⟨x0, x1, x2, -⟩ := three_of_heap HB.out
  have d0 : ((0 : Int) == 0) = true := rfl
  have d1 : decide (k < 1) = false := decide_eq_false (by omega)
  have d2 : decide (4 < k) = false := decide_eq_false (by omega)
  clear hw0 hq0 hg hz hi hCk hn1 hn2 hn3 hv hgr hc HGA
  go_enter Try.func23, Try.ntmps23
  go_upto_region 1 with fail
  rw [← HW0.out, ← HQ0.out]
  go_step3
  go_upto_region 3 with (go_at_call 38; refine HCK.out.mono ?_; rintro e w3 ⟨rfl, hf3⟩; have HF3 := Lib.hid (HF0.out.tr0 hf3); have HB3 := Lib.hid (hf3.heap HB.out (by simp)); clear hf3 x0 x1 x2; obtain ⟨x0, x1, x2, -⟩ := three_of_heap HB3.out)
  go_upto_region 4 with (go_at_call 39; refine (HGA2.out _ HF3.out).mono ?_; rintro e w4 ⟨p, bs, bd, br, bu, vs, rv, uv, rfl, hbs, hbd, hsc, hf4⟩; have HSC := Lib.hid hsc; have HF4 := Lib.hid hf4; have HBS := Lib.hid hbs; have HBD := Lib.hid hbd; clear hsc hf4 hbs hbd x0 x1 x2)
  have hfa := Fr.alloc w4 (.cells #[.pointer (some ⟨p, 0, none⟩)] 65)
  have hba := heap_alloc_new w4 (.cells #[.pointer (some ⟨p, 0, none⟩)] 65)
  obtain ⟨w5, hw5⟩ : ∃ x, x = w4.alloc (.cells #[.pointer (some ⟨p, 0, none⟩)] 65) := ⟨_, rfl⟩
  obtain ⟨q6, hq6⟩ : ∃ x, x = w4.heap.size := ⟨_, rfl⟩
  rw [← hw5] at hfa hba ⊢
  rw [← hq6] at hba ⊢
  have HB5 := Lib.hid ((HF4.out.tr0 hfa).heap HB3.out (by simp))
  have HBA := Lib.hid hba
  have HF5 := Lib.hid ((HF3.out.tr0 HF4.out).tr0 hfa)
  have HSC5 := Lib.hid (HSC.out.later hfa)
  have HS0 := Lib.hid (SchS.start g k)
  have HNS := Lib.hid (show q0 ∉ [bs, bd] ∧ q6 ∉ [bs, bd] ∧ w.heap.size ≤ bs ∧ w.heap.size ≤ bd from by
    have h1 := HBS.out
    have h2 := HBD.out
    have h3 := HF3.out.size
    have h4 : q0 < w3.heap.size := (Array.getElem?_eq_some_iff.1 HB3.out).1
    have h5 := HSC.out.bd_lt
    have h6 : bs < w4.heap.size := (Array.getElem?_eq_some_iff.1 HSC.out.sets.row).1
    refine ⟨?_, ?_, by omega, by omega⟩
    · simp only [List.mem_cons, List.not_mem_nil, or_false]; omega
    · simp only [List.mem_cons, List.not_mem_nil, or_false]; omega)
  have HRD := Lib.hid (fun (ls' : List Words) (D' : List Bool) (vs' : List Value) (wx : World) (hf : Fr [bs, bd] w5 wx) (hA' : SchAt wx p bs bd br bu (.slice a1 n1 c1) (.slice a2 n2 c2) (.slice a3 n3 c3) k n1 n3 vs' ls' D' rv uv (RLs g.rules n1 n3) (ULs g.rules n1 n3)) (hS' : SchS g k ls' D') =>
    pround hW hU g k ls' D' p bs bd br bu q0 q6 a1 c1 (.slice a2 n2 c2) a3 c3 n1 n3 vs' rv uv wx HV.out hk1 hk4 HN1.out HN3.out
      (fun wy hy => HGR.out wy ((HF5.out.trans hf (n := []) (by simp) (fun i hi hlt => by have h8 := HNS.out.2.2; simp at hi; omega)).trans hy (by simp) (fun i hi hlt => by have h8 := HNS.out.2.2; simp at hi; omega)))
      (hf.cell (three_of_heap HB5.out).1 HNS.out.1) HNS.out.1 (hf.cell (by rw [cell_of_heap HBA.out]; rfl) HNS.out.2.1) HNS.out.2.1 hA' hS')
  clear hfa hba hw5 hq6 HCK HGA2 hW hU
  go_wp2_with fail
  go_step3
  go_wp2_with fail
  go_loopw [8] (fun _ wx => StRel g k p bs bd br bu (.slice a1 n1 c1) (.slice a2 n2 c2) (.slice a3 n3 c3) n1 n3 rv uv w5 wx) (fun _ wx => n1 * 4096 - sumV wx bs n1)
  case atStart => exact ⟨vs, _, _, HSC5.out, HS0.out, Fr.refl _ _⟩
  case round =>
    obtain ⟨vs', ls', D', hsc, hss, hfr⟩ := hrel
    have hlen : ls'.length = n1 := by rw [hss.sound.len, HN1.out]
    have hsum := hsc.sets.sum
    rw [hlen] at hsum
    have HSUM := Lib.hid hsum
    have HMX := Lib.hid (small_sum hlen hss.small)
    have HFR := Lib.hid hfr
    have HRW := Lib.hid (HRD.out ls' D' vs' wr hfr hsc hss)
    have c6 := hfr.cell (p := ⟨q6, 0, none⟩) (v := .pointer (some ⟨p, 0, none⟩)) (by rw [cell_of_heap HBA.out]; rfl) HNS.out.2.1
    clear hsc hss hfr hsum
    go_upto_region 6 with (go_at_call 40; refine HRW.out.mono ?_; rintro e w6 ⟨c, rfl, hf6, hor⟩; have HF6 := Lib.hid hf6; have HOR := Lib.hid hor; clear hf6 hor)
    have hFW6 : Fr [] w w6 := (HF5.out.trans HFR.out (n := []) (by simp) (fun i hi hlt => by have h8 := HNS.out.2.2; simp at hi; omega)).trans HF6.out (by simp) (fun i hi hlt => by have h8 := HNS.out.2.2; simp at hi; omega)
    have HFW6 := Lib.hid hFW6
    have HF56 := Lib.hid (show Fr [bs, bd] w5 w6 from HFR.out.trans HF6.out (fun _ h _ => h) (fun _ h _ => h))
    clear hFW6
    rcases HOR.out with ⟨rfl, hov⟩ | ⟨rfl, vs2, ls2, D2, hsc2, hss2, hrk2⟩
    · have HOV := Lib.hid hov
      clear hov HOR c6
      go_wp2_with fail
      rw [Exit.noGoto_ret]
      go_ret2
      exact ⟨_, [], 21, rfl, sets_nil _, .inr ⟨⟨hk1, hk4, HC.out⟩, .inl ⟨HOV.out, rfl, rfl⟩⟩, HFW6.out⟩
    · have HSC2 := Lib.hid hsc2
      have HSS2 := Lib.hid hss2
      have HRK2 := Lib.hid hrk2
      have hDl : D2.length = n3 := by rw [hss2.due.len, HN3.out]
      have hn34 : n3 ≤ 4096 := by rw [HN3.out]; exact HV.out.few
      have hlen2 : ls2.length = n1 := by rw [hss2.sound.len, HN1.out]
      have c6' := HF56.out.cell (p := ⟨q6, 0, none⟩) (v := .pointer (some ⟨p, 0, none⟩)) (by rw [cell_of_heap HBA.out]; rfl) HNS.out.2.1
      have hbo := hsc2.due.at (by rw [hDl]; simp only [maxLen]; omega) n3 hDl.symm
      have hcn := pcontains_b D2 true _ w6 hbo
      obtain ⟨B, hB⟩ : ∃ B, B = decide (true ∈ D2) := ⟨_, rfl⟩
      rw [← hB] at hcn
      have HCN := Lib.hid hcn
      have HBE := Lib.hid hB
      have HLEN2 := Lib.hid hlen2
      have HDL := Lib.hid hDl
      obtain ⟨l0, l1, l2, l3, l4, l5, l6, l7⟩ := hsc2.cells
      clear hsc2 hss2 hrk2 hDl hbo hcn hB HOR c6 hlen2
      cases B with
      | true =>
        have HNEWS := Lib.hid (show (ls'.map List.length).sum < (ls2.map List.length).sum from HRK2.out.news HSS2.out.due.len (fun r hr => (HV.out.rules r hr).1) (of_decide_eq_true HBE.out.symm))
        have HMX2 := Lib.hid (small_sum HLEN2.out HSS2.out.small)
        go_wp2_with (go_at_call 42; refine HCN.out.mono ?_; rintro e w7 ⟨rfl, hf7⟩; have HF7 := Lib.hid hf7; clear hf7)
        have hs7 := (HSC2.out.later HF7.out).sets.sum
        rw [HLEN2.out] at hs7
        refine ⟨⟨vs2, ls2, D2, HSC2.out.later HF7.out, HSS2.out, HF56.out.trans HF7.out (fun _ h _ => h) (by simp)⟩, ?_⟩
        have h1 := HSUM.out
        have h2 := HNEWS.out
        have h3 := HMX2.out
        rw [hs7, h1]
        omega
      | false =>
        have hEX := HSS2.out.exact hk1 HV.out (of_decide_eq_false HBE.out.symm)
        have HEX := Lib.hid hEX
        clear hEX
        go_wp2_with (go_at_call 42; refine HCN.out.mono ?_; rintro e w7 ⟨rfl, hf7⟩; have HF7 := Lib.hid hf7; clear hf7; clear l0 l1 l2 l3 l4 l5 l6 l7; obtain ⟨l0, l1, l2, l3, l4, l5, l6, l7⟩ := (HSC2.out.later HF7.out).cells; replace c6' := HF7.out.cell c6' (by simp))
        rw [Exit.noGoto_ret]
        go_ret2
        refine ⟨_, ls2, 0, rfl, ?_, .inr ⟨⟨hk1, hk4, HC.out⟩, .inr ⟨HEX.out.2, rfl, HEX.out.1.1, HEX.out.1.2⟩⟩, HFW6.out.tr0 HF7.out⟩
        have := (HSC2.out.later HF7.out).sets.sets (by rw [HLEN2.out]; simp only [maxLen]; omega)
        rwa [HLEN2.out] at this
theorem psets_any (hW : ProgWCat) (hU : ProgWUnion) (hCk : ProgCheck) : ProgFirst := by
  intro g gv k w hg hz hi
  by_cases hb : k < 1 ∨ 4 < k ∨ checkG g ≠ 0
  · exact psets_bad hCk g gv k w hg hz hi hb
  · exact psets_good hW hU hCk g gv k w hg hz hi (by omega) (by omega) (by omega)
end Go.Proofs.Ytmcekpgmebanaaa
