/- WellShortest (layer 15), over any program that does what it must. -/
import Derived.Test.YtamoalnbcmnciaaLb
import Derived.Test.YtamoalnbcmnciaaWrF
import Derived.Test.YtamoalnbcmnciaaGrmFw
import Derived.Test.YtamoalnbcmnciaaMm
import Derived.Test.YtamoalnbcmnciaaGr
import Derived.BigQuiet
namespace Go.Proofs.Ytamoalnbcmnciaa
open Go.RowKit

theorem prodL_at {g : GramG} {i : Nat} (h : i < (prodL g).length) : (prodL g)[i]'h = boolOf (ProdN g i) := by simp [prodL]
def ShRel (w : World) (N : Nat) (iv : Value) (wx : World) : Prop := ∃ k : Nat, k ≤ N ∧ iv = .int .i64 (k : Int) ∧ Fr [] w wx
set_option maxRecDepth 100000 in
set_option maxHeartbeats 8000000 in
theorem lwellshortest_any (hC : ProgCheck) (hS : ProgShortest) (g : GramG) (gv : Value) (w : World) (hg : gramAt w gv g) (hi : IntG g)
    (gn : ∀ n ∈ g.names, n.length ≤ maxLen) (gt : ∀ n ∈ g.terms, n.length ≤ maxLen) : Calls Try.prog 4 #[gv] w fun e w' => e = .returned (.bool true) ∧ Fr [] w w' := by
  obtain ⟨a1, c1, a2, c2, a3, c3, rfl, HF0, HB⟩ := box_gram hg
  obtain ⟨w0, hw0⟩ : ∃ w0, w0 = w.alloc (.cells #[.slice a1 g.names.length c1, .slice a2 g.terms.length c2, .slice a3 g.rules.length c3] 25) := ⟨_, rfl⟩
  obtain ⟨q0, hq0⟩ : ∃ q0, q0 = w.heap.size := ⟨_, rfl⟩
  rw [← hw0] at HF0 HB
  rw [← hq0] at HB
  have HFEW := Lib.hid (rfew_any g _ w0 (hg.below HF0.out) gn gt)
  have HAW := Lib.hid (fun wx => lawake_any hC wx)
  have HSH := Lib.hid (fun wx (hf : Fr [] w wx) (hz : SizeG g) => hS g _ wx (hg.below hf) hz hi)
  have HRV := Lib.hid (fun wx (hf : Fr [] w wx) (hz : SizeG g) => rvalid_any g _ wx (hg.below hf) hz)
  have HRP := Lib.hid (fun wx (hf : Fr [] w wx) (hv : ValidG g) => rprod_any g _ wx (hg.below hf) hv)
  have HLN := Lib.hid (fun wx (hf : Fr [] w wx) (hv : ValidG g) => llengths_any g _ wx (hg.below hf) hv)
  have hle1 : g.names.length ≤ c1 := by obtain ⟨_, _, _, _, _, _, e, ⟨-, q, -⟩, -, -⟩ := hg.parts; simp at e; omega
  obtain ⟨N, hN⟩ : ∃ n, n = g.names.length := ⟨_, rfl⟩
  obtain ⟨n2, hn2⟩ : ∃ n, n = g.terms.length := ⟨_, rfl⟩
  obtain ⟨n3, hn3⟩ : ∃ n, n = g.rules.length := ⟨_, rfl⟩
  rw [← hN, ← hn2, ← hn3] at HB hw0 HFEW HSH HRV HRP HLN
  rw [← hN] at hle1
  rw [← hN, ← hn2, ← hn3]
  have HW0 := Lib.hid hw0
  have HQ0 := Lib.hid hq0
  have HN := Lib.hid hN
  clear hw0 hq0 hN hn2 hn3 hg hi gn gt hC hS
  obtain ⟨x0, x1, x2, -⟩ := three_of_heap HB.out
  rcases few_two g with hf2 | hf2
  · rw [hf2] at HFEW
    clear hf2
    go_enter Try.func4, Try.ntmps4
    go_upto_region 1 with fail
    rw [← HW0.out, ← HQ0.out]
    go_wp2_with (first | (go_at_call 5; refine HFEW.out.mono ?_; rintro e w1 ⟨rfl, hf1⟩; have HF1 := Lib.hid (HF0.out.trans hf1 (by simp) (n := []) (by simp))) | (go_at_call 6; refine (HAW.out _).mono ?_; rintro e w2 ⟨rfl, hf2⟩))
    go_ret
    exact ⟨rfl, HF1.out.trans hf2 (by simp) (by simp)⟩
  have hsz := few_size (g := g) (by rw [hf2]; decide)
  rw [hf2] at HFEW
  have HSZ := Lib.hid hsz
  clear hf2 hsz
  cases hvb : validB g with
  | false =>
    rw [hvb] at HRV
    clear hvb
    go_enter Try.func4, Try.ntmps4
    go_upto_region 1 with fail
    rw [← HW0.out, ← HQ0.out]
    go_wp2_with (first
      | (go_at_call 6; refine (HAW.out _).mono ?_; rintro e w3 ⟨rfl, hf3⟩)
      | (go_at_call 9; refine (HRV.out _ HF1.out HSZ.out).mono ?_; rintro e w2 ⟨rfl, hf2⟩; have HF2 := Lib.hid (HF1.out.trans hf2 (by simp) (n := []) (by simp)))
      | (go_at_call 5; refine HFEW.out.mono ?_; rintro e w1 ⟨rfl, hf1⟩; have HF1 := Lib.hid (HF0.out.trans hf1 (by simp) (n := []) (by simp)); obtain ⟨x0, x1, x2, -⟩ := three_of_heap (hf1.heap HB.out (by simp))))
    go_ret
    exact ⟨rfl, HF2.out.trans hf3 (by simp) (by simp)⟩
  | true =>
    rw [hvb] at HRV
    have HVB := Lib.hid hvb
    have HVG := Lib.hid (of_boolOf hvb)
    have hsm : N ≤ 256 := by rw [HN.out]; have := (of_boolOf hvb).syms; omega
    clear hvb
    go_enter Try.func4, Try.ntmps4
    go_upto_region 1 with fail
    rw [← HW0.out, ← HQ0.out]
    go_upto_region 6 with (first
      | (go_at_call 14; have := w4; refine (HRP.out _ HF4.out HVG.out).mono ?_; rintro e w5 ⟨b5, hb5, rfl, hr5, hf5⟩; have HF5 := Lib.hid (HF4.out.trans hf5 (by simp) (n := []) (by simp)); have HB5 := Lib.hid (hf5.heap HB4.out (by simp)))
      | (go_at_call 12; have := w3; refine (HSH.out _ HF3.out HSZ.out).mono ?_; rintro e w4 ⟨v4, l4, rfl, hv4, hs4, hf4⟩; have HF4 := Lib.hid (HF3.out.trans hf4 (by simp) (n := []) (by simp)); have HB4 := Lib.hid (hf4.heap HB3.out (by simp)); obtain ⟨x0, x1, x2, -⟩ := three_of_heap HB4.out)
      | (go_at_call 16; have := w2; refine (HLN.out _ HF2.out HVG.out).mono ?_; rintro e w3 ⟨v3, bs, ms, rfl, hl3, hm3, ho3, hf3⟩; have HF3 := Lib.hid (HF2.out.trans hf3 (by simp) (n := []) (by simp)); have HB3 := Lib.hid (hf3.heap HB2.out (by simp)); obtain ⟨x0, x1, x2, -⟩ := three_of_heap HB3.out)
      | (go_at_call 9; refine (HRV.out _ HF1.out HSZ.out).mono ?_; rintro e w2 ⟨rfl, hf2⟩; have HF2 := Lib.hid (HF1.out.trans hf2 (by simp) (n := []) (by simp)); have HB2 := Lib.hid (hf2.heap HB1.out (by simp)); obtain ⟨x0, x1, x2, -⟩ := three_of_heap HB2.out)
      | (go_at_call 5; refine HFEW.out.mono ?_; rintro e w1 ⟨rfl, hf1⟩; have HF1 := Lib.hid (HF0.out.trans hf1 (by simp) (n := []) (by simp)); have HB1 := Lib.hid (hf1.heap HB.out (by simp)); obtain ⟨x0, x1, x2, -⟩ := three_of_heap HB1.out))
    have HHW := Lib.hid (show Fr [] w w5 from HF5.out)
    obtain ⟨a3, k3, e3, hle3, hmx3⟩ := cellsAt.form hl3.1
    subst e3
    rw [List.length_map, ← hl3.2.1, hm3, ← HN.out] at hl3 hle3 ⊢
    obtain ⟨a4, k4, e4, hle4, hmx4⟩ := hv4.form
    subst e4
    have hsl : ShortL g l4 := hs4
    unfold ShortL at hsl
    rw [if_pos HVB.out] at hsl
    obtain ⟨hll, hsi⟩ := hsl
    rw [hll, ← HN.out] at hv4 hle4 ⊢
    rw [prodL_len, ← HN.out]
    have HL5 := Lib.hid ((hl3.below hf4).below hf5)
    have HV5 := Lib.hid (hv4.below hf5)
    have HR5 := Lib.hid hr5
    have HLL := Lib.hid hll
    have HSI := Lib.hid hsi
    have HMM := Lib.hid hm3
    have HBN := Lib.hid hl3.2.1
    have HMK := Lib.hid (show ∀ i n, i < g.names.length → n ≤ 6 → (marked ms.flatten (i * 7 + n) ↔ LenN g [(i : Int)] n) from fun i n hi hn => by rw [ho3]; exact len_rounds HVG.out _ (by omega) hi hn)
    have hnn : ((N : Int) != (N : Int)) = false := by simp
    have HS7 := Lib.hid hl3.2.2.1
    simp only [maxLen] at hmx3
    clear hl3 hm3 ho3 hf3 hs4 hv4 hf4 hr5 hf5 hb5 hll hsi x0 x1 x2
    obtain ⟨x0, x1, x2, -⟩ := three_of_heap HB5.out
    go_wp2_with fail
    clear x0 x1 x2
    go_loopw [6] (ShRel w5 N) (fun iv _ => N - (intOf iv).toNat)
    case atStart => exact ⟨0, Nat.zero_le _, rfl, Fr.refl _ _⟩
    case round =>
      obtain ⟨k, hk, rfl, hf⟩ := hrel
      have HF := Lib.hid hf
      by_cases hkn : k < N
      · have hd1 : decide (k < N) = true := decide_eq_true hkn
        have hkg : k < g.names.length := by have := HN.out; omega
        have hkl : k < l4.length := by have := HLL.out; omega
        have hkp : k < (prodL g).length := by rw [prodL_len]; exact hkg
        have hkm : k < ms.length := by have := HMM.out; omega
        have hkb : k < bs.length := by have := HBN.out; omega
        obtain ⟨b6, o6, rfl, z0⟩ := int_cell (HV5.out.below hf) k hkl
        have z1 := (HR5.out.below hf).cell hkp
        obtain ⟨b7, o7, rfl, z2⟩ := lens_cell (HL5.out.below hf) k hkb
        have HROW := Lib.hid ((HL5.out.below hf).2.2.2 k hkb hkm)
        have hsh := HSI.out k hkl
        obtain ⟨s, hs⟩ : ∃ s, s = l4[k]'hkl := ⟨_, rfl⟩
        rw [← hs] at z0 hsh
        obtain ⟨pi, hpi⟩ : ∃ p, p = (prodL g)[k]'hkp := ⟨_, rfl⟩
        rw [← hpi] at z1
        have hpi2 : pi = boolOf (ProdN g k) := by rw [hpi]; exact prodL_at hkp
        have hd4 : decide (0 ≤ s) = pi := by
          have := short_sign HVG.out hsh
          rw [hpi2]
          by_cases q : ProdN g k
          · rw [boolOf_true q]; exact decide_eq_true (this.2 q)
          · rw [boolOf_false q]; exact decide_eq_false (fun h => q (this.1 h))
        have hpp : (pi == pi) = true := by simp
        have HSM := Lib.hid (fun n (hn : n ≤ 6) => short_small HVG.out hn hsh)
        have HZ0 := Lib.hid z0
        have HZ2 := Lib.hid z2
        obtain ⟨bk, hbk⟩ : ∃ b, b = bs[k]'hkb := ⟨_, rfl⟩
        rw [← hbk] at HZ2 HROW z2
        clear hs hpi hpi2 hf hsh hbk z2
        go_upto_region 11 with fail
        go_quiet (fail)
        go_wp2_with fail
        clear z0 z1
        have HFN := Lib.hid (HF.out.andDrewN nq)
        have HZ02 := Lib.hid (show (wr.drewN nq).cell? ⟨b6, o6 + k, none⟩ = some (.int .i64 s) from HZ0.out)
        have HZ22 := Lib.hid (show (wr.drewN nq).cell? ⟨b7, o7 + k, none⟩ = some (.slice (some ⟨bk, 0, none⟩) 7 7) from HZ2.out)
        have HROW2 := Lib.hid (show boolRow (wr.drewN nq) bk (ms[k]'hkm) from HROW.out)
        obtain ⟨wi, hwi⟩ : ∃ wi, wi = wr.drewN nq := ⟨_, rfl⟩
        rw [← hwi] at HFN HZ02 HZ22 HROW2 ⊢
        clear hwi
        go_loopw [7] (ShRel wi 7) (fun iv _ => 7 - (intOf iv).toNat)
        case atStart => exact ⟨0, Nat.zero_le _, rfl, Fr.refl _ _⟩
        case round =>
          obtain ⟨n, hn, rfl, hfn⟩ := hrel
          have HFI := Lib.hid hfn
          by_cases hn6 : n ≤ 6
          · have hd2 : decide ((n : Int) ≤ 6) = true := decide_eq_true (by omega)
            have hn7 : n < 7 := by omega
            have h7 := HS7.out _ (List.getElem_mem hkm)
            have hnm : n < (ms[k]'hkm).length := by omega
            have z0 := hfn.cell HZ02.out (by simp)
            have z2 := hfn.cell HZ22.out (by simp)
            have z3 := (HROW2.out.below hfn).cell hnm
            obtain ⟨u, hu⟩ : ∃ u, u = (ms[k]'hkm)[n]'hnm := ⟨_, rfl⟩
            rw [← hu] at z3
            have hlen : LenN g [(k : Int)] n ↔ u = true := by
              rw [← HMK.out k n hkg hn6, seven_marked HS7.out hkm hn7]
              unfold marked
              rw [List.getElem?_eq_getElem hnm, ← hu]
              simp
            obtain ⟨s1, s2⟩ := HSM.out n hn6
            clear hu h7 hnm hfn
            cases u with
            | true =>
              obtain ⟨s3, s4⟩ := s2 (hlen.2 rfl)
              have e2 : decide (s < 0) = false := decide_eq_false (by omega)
              have e3 : decide ((n : Int) < s) = false := decide_eq_false (by omega)
              obtain ⟨d, hd⟩ : ∃ d, ((n : Int) == s) = d := ⟨_, rfl⟩
              clear s1 s2 s3 s4 hlen
              cases d with
              | true =>
                go_wp2_with fail
                exact ⟨⟨n + 1, by omega, by go_num, HFI.out⟩, by simp [intOf]; omega⟩
              | false =>
                go_wp2_with fail
                exact ⟨⟨n + 1, by omega, by go_num, HFI.out⟩, by simp [intOf]; omega⟩
            | false =>
              have hd : ((n : Int) == s) = false := by
                rw [beq_eq_false_iff_ne]
                intro q
                have := hlen.1 (s1 q)
                cases this
              clear s1 s2 hlen
              go_wp2_with fail
              exact ⟨⟨n + 1, by omega, by go_num, HFI.out⟩, by simp [intOf]; omega⟩
          · have hd2 : decide ((n : Int) ≤ 6) = false := decide_eq_false (by omega)
            clear hn6 hfn
            go_wp2_with fail
            exact ⟨⟨k + 1, by omega, by go_num, HFN.out.trans HFI.out (by simp) (by simp)⟩, by simp [intOf]; omega⟩
      · have hd1 : decide (k < N) = false := decide_eq_false hkn
        clear hf hkn
        go_wp2_with (go_at_call 6; refine (HAW.out _).mono ?_; rintro e w7 ⟨rfl, hf7⟩)
        go_ret
        exact ⟨rfl, HHW.out.trans (HF.out.trans hf7 (by simp) (n := []) (by simp)) (by simp) (by simp)⟩
end Go.Proofs.Ytamoalnbcmnciaa
