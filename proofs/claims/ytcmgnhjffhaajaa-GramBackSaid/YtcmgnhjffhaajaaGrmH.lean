/- GramBack (layer 14), over any program that does what it must. Written by wip/tools/gen_gh.py. -/
import Derived.Test.YtcmgnhjffhaajaaGrmF
import Derived.Test.YtcmgnhjffhaajaaGrmO
import Derived.Test.YtcmgnhjffhaajaaMm
namespace Go.Proofs.Ytcmgnhjffhaajaa
open Go.RowKit

theorem lines_len (g : GramG) : (linesG g).length = g.names.length := by simp [linesG]
theorem lines_get {g : GramG} {i : Nat} (h : i < (linesG g).length) (h' : i < g.names.length) : (linesG g)[i] = ⟨g.names[i], altsG g i⟩ := by
  simp [linesG]
theorem alts_map (g : GramG) (i : Nat) : altsG g i = (ruleF g.rules i).map fun r => r.right.map (itemG g) := rfl
theorem ruleF_step {l : List RuleG} {i k : Nat} (h : k < l.length) : ruleF (l.drop k) i = if l[k].left = (i : Int) then l[k] :: ruleF (l.drop (k + 1)) i else ruleF (l.drop (k + 1)) i := by
  unfold ruleF
  rw [List.drop_eq_getElem_cons h, List.filter_cons]
  simp
def BOut (w : World) (n : Nat) (iv : Value) (wx : World) : Prop := ∃ k : Nat, k ≤ n ∧ iv = .int .i64 (k : Int) ∧ Fr [] w wx
def BMid (w : World) (g : GramG) (i : Nat) (nv kv : Value) (wx : World) : Prop := ∃ (k : Nat) (A : List RuleG), k ≤ g.rules.length ∧ A.length ≤ k ∧ nv = .int .i64 (A.length : Int) ∧ kv = .int .i64 (k : Int) ∧ ruleF g.rules i = A ++ ruleF (g.rules.drop k) i ∧ Fr [] w wx
set_option maxRecDepth 100000 in
set_option maxHeartbeats 8000000 in
theorem grmback_any (hA : ProgPar) (hR : ProgResolve) (hV : ProgValid) (hI : ProgIsT) (hL : ProgLines) (g : GramG) (gv : Value) (w : World) (hg : gramAt w gv g) (hi : IntG g)
    (gn : ∀ n ∈ g.names, n.length ≤ maxLen) (gt : ∀ n ∈ g.terms, n.length ≤ maxLen) : Calls Try.prog 5 #[gv] w fun e w' => e = .returned (.bool true) ∧ Fr [] w w' := by
  have hfg := fun wx (hfx : Fr [] w wx) => rfew_any g gv wx (hg.below hfx) gn gt
  have HAW := Lib.hid (fun wx => grmawake_any hA hR hV hI wx)
  have hG := hg
  obtain ⟨sa, sb, sc, rfl, h1, h2, h3⟩ := hg
  obtain ⟨a10, c10, rfl, hc1, hm1⟩ := h1.form
  obtain ⟨a20, c20, rfl, hc2, hm2⟩ := h2.form
  obtain ⟨a30, c30, rfl, hc3, hm3⟩ := h3.form
  have hb0 := heap_alloc_new w (.cells #[.slice a10 g.names.length c10, .slice a20 g.terms.length c20, .slice a30 g.rules.length c30] 25)
  have hf0 := Fr.alloc w (.cells #[.slice a10 g.names.length c10, .slice a20 g.terms.length c20, .slice a30 g.rules.length c30] 25)
  obtain ⟨w0, hw0⟩ : ∃ w0, w0 = w.alloc (.cells #[.slice a10 g.names.length c10, .slice a20 g.terms.length c20, .slice a30 g.rules.length c30] 25) := ⟨_, rfl⟩
  obtain ⟨q0, hq0⟩ : ∃ q0, q0 = w.heap.size := ⟨_, rfl⟩
  rw [← hw0] at hb0 hf0
  rw [← hq0] at hb0
  have HB0 := Lib.hid hb0
  have HF := Lib.hid hf0
  have H1 := Lib.hid h1
  have H2 := Lib.hid h2
  have H3 := Lib.hid h3
  have HW0 := Lib.hid hw0
  have HQ0 := Lib.hid hq0
  have HG := Lib.hid hG
  have HL := Lib.hid (fun (gx : Value) (wx : World) a b => hL g gx wx a b hi)
  have HR := Lib.hid hR
  clear hb0 hf0 hw0 hq0 h1 h2 h3 hi hA hR hV hI hL hG gn gt
  obtain ⟨y0, y1, y2, z0, z1, z2⟩ := three_of_heap HB0.out
  by_cases hgz : fewB g = 0
  · rw [hgz] at hfg
    have HFG := Lib.hid hfg
    clear hfg hgz
    go_enter Try.func5, Try.ntmps5
    go_upto_region 1 with fail
    rw [← HQ0.out, ← HW0.out]
    clear HW0 HQ0
    go_wp2_with (first | (go_at_call 7; refine (HFG.out _ HF.out).mono ?_; rintro e w3 ⟨rfl, hf3⟩) | (go_at_call 8; refine (HAW.out _).mono ?_; rintro e w4 ⟨rfl, hf4⟩))
    go_ret
    exact ⟨rfl, (HF.out.trans hf3 (by simp) (n := []) (by simp)).trans hf4 (by simp) (by simp)⟩
  have hg1 : fewB g = 1 := (few_two g).resolve_left hgz
  have hsg := few_size hgz
  rw [hg1] at hfg
  have HFG := Lib.hid hfg
  have HSG := Lib.hid hsg
  clear hfg hgz hg1 hsg
  have HLI := Lib.hid (fun wx (hfx : Fr [] w wx) => HL.out _ wx (HG.out.below hfx) HSG.out)
  have hva := fun wx (hfx : Fr [] w wx) => rvalid_any g _ wx (HG.out.below hfx) HSG.out
  rcases boolOf_cases (ValidG g) with ⟨hvg, hvb⟩ | ⟨hvg, hvb⟩
  rotate_left
  · have hvb' : validB g = false := hvb
    rw [hvb'] at hva
    have hlo : linesOf g = [] := by unfold linesOf; rw [hvb']; rfl
    rw [hlo] at HLI
    have HVA := Lib.hid hva
    clear hva hvg hvb hvb' hlo
    go_enter Try.func5, Try.ntmps5
    go_upto_region 1 with fail
    rw [← HQ0.out, ← HW0.out]
    clear HW0 HQ0
    go_upto_region 3 with (go_at_call 7; refine (HFG.out _ HF.out).mono ?_; rintro e w1 ⟨rfl, hf1⟩)
    have HF1 := Lib.hid (HF.out.trans hf1 (by simp) (n := []) (by simp))
    have HB1 := Lib.hid (hf1.heap HB0.out (by simp))
    clear y0 y1 y2 z0 z1 z2 hf1
    obtain ⟨y0, y1, y2, z0, z1, z2⟩ := three_of_heap HB1.out
    go_upto_region 4 with (go_at_call 14; refine (HLI.out _ HF1.out).mono ?_; rintro e w2 ⟨lv, rfl, hlv, hf2⟩; obtain ⟨al, cl, rfl, hcl, hml⟩ := hlv.form)
    have HF2 := Lib.hid (HF1.out.trans hf2 (by simp) (n := []) (by simp))
    have HB2 := Lib.hid (hf2.heap HB1.out (by simp))
    clear y0 y1 y2 z0 z1 z2 hf2
    obtain ⟨y0, y1, y2, z0, z1, z2⟩ := three_of_heap HB2.out
    go_wp2_with (first | (go_at_call 11; refine (HVA.out _ HF2.out).mono ?_; rintro e w3 ⟨rfl, hf3⟩) | (go_at_call 8; refine (HAW.out _).mono ?_; rintro e w4 ⟨rfl, hf4⟩))
    go_ret
    exact ⟨rfl, (HF2.out.trans hf3 (by simp) (n := []) (by simp)).trans hf4 (by simp) (by simp)⟩
  have hvb' : validB g = true := hvb
  rw [hvb'] at hva
  have hlo : linesOf g = linesG g := by unfold linesOf; rw [hvb']; rfl
  rw [hlo] at HLI
  have HVA := Lib.hid hva
  have HVG := Lib.hid hvg
  have hsl := lines_size hvg
  have HRS := Lib.hid (fun lv wx (hl : linesAt wx lv (linesG g)) => HR.out (linesG g) lv wx hl hsl)
  have hln := lines_len g
  have hnl1 : g.names.length ≤ 100000 := HSG.out.names
  have hnl2 : g.rules.length ≤ 100000 := HSG.out.rules
  clear hva hvg hvb hvb' hlo hsl
  go_enter Try.func5, Try.ntmps5
  go_upto_region 1 with fail
  rw [← HQ0.out, ← HW0.out]
  clear HW0 HQ0
  go_upto_region 3 with (go_at_call 7; refine (HFG.out _ HF.out).mono ?_; rintro e w1 ⟨rfl, hf1⟩)
  have HF1 := Lib.hid (HF.out.trans hf1 (by simp) (n := []) (by simp))
  have HB1 := Lib.hid (hf1.heap HB0.out (by simp))
  clear y0 y1 y2 z0 z1 z2 hf1
  obtain ⟨y0, y1, y2, z0, z1, z2⟩ := three_of_heap HB1.out
  go_upto_region 4 with (go_at_call 14; refine (HLI.out _ HF1.out).mono ?_; rintro e w2 ⟨lv, rfl, hlv, hf2⟩; obtain ⟨al, cl, he, hcl, hml⟩ := hlv.form; rw [hln] at he hcl; subst he)
  have HF2 := Lib.hid (HF1.out.trans hf2 (by simp) (n := []) (by simp))
  have HB2 := Lib.hid (hf2.heap HB1.out (by simp))
  clear y0 y1 y2 z0 z1 z2 hf2
  obtain ⟨y0, y1, y2, z0, z1, z2⟩ := three_of_heap HB2.out
  go_upto_region 6 with (go_at_call 11; refine (HVA.out _ HF2.out).mono ?_; rintro e w3 ⟨rfl, hf3⟩)
  have HF3 := Lib.hid (HF2.out.trans hf3 (by simp) (n := []) (by simp))
  have HB3 := Lib.hid (hf3.heap HB2.out (by simp))
  have HLV := Lib.hid (hlv.below hf3)
  have J1 := Lib.hid (H1.out.below HF3.out)
  have J2 := Lib.hid (H2.out.below HF3.out)
  have J3 := Lib.hid (H3.out.below HF3.out)
  clear y0 y1 y2 z0 z1 z2 hf3 hlv
  obtain ⟨y0, y1, y2, z0, z1, z2⟩ := three_of_heap HB3.out
  have x0 : ((g.names.length : Int) != (g.names.length : Int)) = false := by simp
  go_wp2_with fail
  clear y0 y1 y2 z0 z1 z2 x0
  go_loopw [4] (BOut w3 g.names.length) (fun iv _ => g.names.length - (intOf iv).toNat)
  case atStart => exact ⟨0, Nat.zero_le _, rfl, Fr.refl _ _⟩
  case round =>
    obtain ⟨i, hi, rfl, hfw⟩ := hrel
    have HFW := Lib.hid hfw
    obtain ⟨y0, y1, y2⟩ := two_three (hfw.heap HB3.out (by simp))
    clear hfw
    by_cases hin : i < g.names.length
    · have hd1 : decide (i < g.names.length) = true := decide_eq_true hin
      have hil : i < (linesG g).length := by rw [hln]; exact hin
      obtain ⟨b1, o1, av, rfl, p0, p1, hav⟩ := line_cells HLV.out i hil
      rw [lines_get hil hin] at p0 hav
      simp only at p0 hav
      obtain ⟨b2, o2, rfl, p2⟩ := str_cell J1.out i hin
      obtain ⟨nm, hnm⟩ : ∃ nm, nm = g.names[i]'hin := ⟨_, rfl⟩
      rw [← hnm] at p0 p2
      obtain ⟨a4, c4, rfl, hc4, hm4⟩ := hav.form
      obtain ⟨NA, hNA⟩ : ∃ NA, NA = (altsG g i).length := ⟨_, rfl⟩
      rw [← hNA] at p1 hc4 hav
      have HNA := Lib.hid hNA
      have HAV := Lib.hid hav
      have HP1 := Lib.hid p1
      have r0 := HFW.out.cell p0 (by simp)
      have r1 := HFW.out.cell p1 (by simp)
      have r2 := HFW.out.cell p2 (by simp)
      have x1 : (nm != nm) = false := by simp
      clear hnm hNA p0 p1 p2 hav
      go_upto_region 11 with fail
      go_quiet (fail)
      have HFQ := Lib.hid (HFW.out.andDrewN nq)
      generalize hwq : wr.drewN nq = wq at HFQ ⊢
      clear hwq y0 y1 y2 r0 r1 r2 x1 hd1
      go_wp2_with fail
      go_loopw [5, 6] (BMid w3 g i) (fun _ kv _ => g.rules.length - (intOf kv).toNat)
      case atStart => exact ⟨0, [], Nat.zero_le _, Nat.zero_le _, rfl, rfl, rfl, HFQ.out⟩
      case round =>
        clear HFQ HFW
        obtain ⟨k, A, hk, hAk, rfl, rfl, hFA, hfw⟩ := hrel
        have HFA := Lib.hid hFA
        have HFW := Lib.hid hfw
        obtain ⟨y0, y1, y2⟩ := two_three (hfw.heap HB3.out (by simp))
        have r1 := hfw.cell HP1.out (by simp)
        obtain ⟨n, hn⟩ : ∃ n, n = A.length := ⟨_, rfl⟩
        rw [← hn] at hAk ⊢
        have HAN := Lib.hid hn
        clear hFA hfw hn
        by_cases hkn : k < g.rules.length
        · have hd2 : decide (k < g.rules.length) = true := decide_eq_true hkn
          obtain ⟨b3, o3, rv, rfl, p0, p1, hrv⟩ := rule_cells J3.out k hkn
          obtain ⟨r, hr⟩ : ∃ r, r = g.rules[k]'hkn := ⟨_, rfl⟩
          have hst := ruleF_step (i := i) hkn
          rw [← hr] at p0 hrv hst
          have hrm : r ∈ g.rules := by rw [hr]; exact List.getElem_mem hkn
          obtain ⟨rl, rr⟩ := r
          simp only at p0 hrv hst
          have hrng := (HVG.out.rules _ hrm).2.2.2
          simp only at hrng
          obtain ⟨a5, c5, rfl, hc5, hm5⟩ := hrv.form
          have q0' := HFW.out.cell p0 (by simp)
          have q1' := HFW.out.cell p1 (by simp)
          have HQ1 := Lib.hid p1
          have HRV := Lib.hid hrv
          have HRNG := Lib.hid hrng
          clear hr p0 p1 hrv hrm hrng
          by_cases he : rl = (i : Int)
          · have e1 : (rl != (i : Int)) = false := by rw [he]; simp
            have e1' : (rl == (i : Int)) = true := by rw [he]; simp
            rw [if_pos he] at hst
            have hF2 : ruleF g.rules i = A ++ ⟨rl, rr⟩ :: ruleF (g.rules.drop (k + 1)) i := by rw [← hst]; exact HFA.out
            have hnNA : n < NA := by rw [HNA.out, alts_map, List.length_map, hF2, HAN.out]; simp
            have hnal : n < (altsG g i).length := by rw [← HNA.out]; exact hnNA
            obtain ⟨b6, o6, xv, rfl, p3, hxv⟩ := alt_cells HAV.out n hnal
            have hget : (altsG g i)[n]'hnal = rr.map (itemG g) := by
              have h1 : (altsG g i)[n]? = some (rr.map (itemG g)) := by
                rw [alts_map, List.getElem?_map, hF2, HAN.out]
                simp
              rw [List.getElem?_eq_getElem hnal] at h1
              exact Option.some.inj h1
            rw [hget] at hxv
            obtain ⟨a6, c6, hxe, hc6, hm6⟩ := hxv.form
            rw [List.length_map] at hxe hc6
            subst hxe
            have r3 := HFW.out.cell p3 (by simp)
            have HP3 := Lib.hid p3
            have HXV := Lib.hid hxv
            have HF2' := Lib.hid hF2
            have d3 : decide ((NA : Int) ≤ (n : Int)) = false := decide_eq_false (by omega)
            have d3' : decide (NA ≤ n) = false := decide_eq_false (by omega)
            have x2 : ((rr.length : Int) != (rr.length : Int)) = false := by simp
            clear he hst hF2 hnal hget p3 hxv
            go_upto_region 18 with fail
            go_quiet (fail)
            have HFQ := Lib.hid (HFW.out.andDrewN nq)
            generalize hwq : wr.drewN nq = wq at HFQ ⊢
            clear hwq y0 y1 y2 r1 q0' q1' r3 d3 d3' x2 e1 e1' hd2
            go_wp2_with fail
            go_loopw [7] (BOut w3 rr.length) (fun iv _ => rr.length - (intOf iv).toNat)
            case atStart => exact ⟨0, Nat.zero_le _, rfl, HFQ.out⟩
            case round =>
              clear HFQ HFW
              obtain ⟨j, hj, rfl, hfw⟩ := hrel
              have HFW := Lib.hid hfw
              obtain ⟨y0, y1, y2⟩ := two_three (hfw.heap HB3.out (by simp))
              have r1 := hfw.cell HP1.out (by simp)
              have q1' := hfw.cell HQ1.out (by simp)
              have r3 := hfw.cell HP3.out (by simp)
              clear hfw
              by_cases hjn : j < rr.length
              · have hd4 : decide (j < rr.length) = true := decide_eq_true hjn
                obtain ⟨b7, o7, rfl, p4⟩ := int_cell HRV.out j hjn
                obtain ⟨s, hs⟩ : ∃ s, s = rr[j]'hjn := ⟨_, rfl⟩
                have hsr := HRNG.out (rr[j]'hjn) (List.getElem_mem hjn)
                have hjm : j < (rr.map (itemG g)).length := by rw [List.length_map]; exact hjn
                obtain ⟨b8, o8, rfl, i0, i1⟩ := item_cells HXV.out j hjm
                rw [List.getElem_map] at i0 i1
                rw [← hs] at p4 hsr i0 i1
                obtain ⟨hs1, hs2⟩ := hsr
                have r4 := HFW.out.cell p4 (by simp)
                have s0 := HFW.out.cell i0 (by simp)
                have s1 := HFW.out.cell i1 (by simp)
                clear hs p4 i0 i1 hjm
                by_cases hneg : s < 0
                · have hit : itemG g s = ⟨true, g.terms.getD (-1 - s).toNat []⟩ := if_pos hneg
                  have hkt : (-1 - s).toNat < g.terms.length := by omega
                  rw [hit, getD_lt hkt] at s0 s1
                  simp only at s0 s1
                  obtain ⟨b9, o9, rfl, t0⟩ := str_cell J2.out (-1 - s).toNat hkt
                  obtain ⟨tx, htx⟩ : ∃ tx, tx = g.terms[(-1 - s).toNat]'hkt := ⟨_, rfl⟩
                  rw [← htx] at s1 t0
                  have t1 := HFW.out.cell t0 (by simp)
                  have e2 : decide (s < 0) = true := decide_eq_true hneg
                  have e3 : decide (0 ≤ s) = false := decide_eq_false (by omega)
                  have x3 : (tx != tx) = false := by simp
                  have HT0 := Lib.hid t0
                  clear hit htx t0
                  go_upto_region 25 with fail
                  have hb := heap_alloc_new wr (.cells #[.bool true, encStr tx] 44)
                  have hf := Fr.alloc wr (.cells #[.bool true, encStr tx] 44)
                  rw [show wr.alloc (.cells #[.bool true, .string { data := tx.toArray }] 44) = wr.alloc (.cells #[.bool true, encStr tx] 44) from rfl]
                  obtain ⟨w5, hw5⟩ : ∃ w5, w5 = wr.alloc (.cells #[.bool true, encStr tx] 44) := ⟨_, rfl⟩
                  obtain ⟨p, hp⟩ : ∃ p, p = wr.heap.size := ⟨_, rfl⟩
                  rw [← hw5] at hb hf ⊢
                  rw [← hp] at hb ⊢
                  have HF5 := Lib.hid (HFW.out.trans hf (by simp) (n := []) (by simp))
                  clear y0 y1 y2 r1 q1' r3 r4 s0 s1 t1 hw5 hp
                  obtain ⟨v0, v1⟩ := pair_of_heap hb
                  obtain ⟨y0, y1, y2⟩ := two_three (HF5.out.heap HB3.out (by simp))
                  have t1 := HF5.out.cell HT0.out (by simp)
                  clear hb hf
                  go_quiet (fail)
                  have HFQ := Lib.hid (HF5.out.andDrewN nq)
                  go_wp2_with fail
                  exact ⟨⟨j + 1, by omega, by go_num, HFQ.out⟩, by simp [intOf]; omega⟩
                · have hit : itemG g s = ⟨false, g.names.getD s.toNat []⟩ := if_neg hneg
                  have hkt : s.toNat < g.names.length := by omega
                  rw [hit, getD_lt hkt] at s0 s1
                  simp only at s0 s1
                  obtain ⟨b9, o9, hb9, t0⟩ := str_cell J1.out s.toNat hkt
                  simp only [Option.some.injEq, Addr.mk.injEq, and_true] at hb9
                  obtain ⟨rfl, rfl⟩ := hb9
                  obtain ⟨tx, htx⟩ : ∃ tx, tx = g.names[s.toNat]'hkt := ⟨_, rfl⟩
                  rw [← htx] at s1 t0
                  have t1 := HFW.out.cell t0 (by simp)
                  have e2 : decide (s < 0) = false := decide_eq_false hneg
                  have e3 : decide (0 ≤ s) = true := decide_eq_true (by omega)
                  have x3 : (tx != tx) = false := by simp
                  have HT0 := Lib.hid t0
                  clear hit htx t0
                  go_upto_region 25 with fail
                  have hb := heap_alloc_new wr (.cells #[.bool false, encStr tx] 44)
                  have hf := Fr.alloc wr (.cells #[.bool false, encStr tx] 44)
                  rw [show wr.alloc (.cells #[.bool false, .string { data := tx.toArray }] 44) = wr.alloc (.cells #[.bool false, encStr tx] 44) from rfl]
                  obtain ⟨w5, hw5⟩ : ∃ w5, w5 = wr.alloc (.cells #[.bool false, encStr tx] 44) := ⟨_, rfl⟩
                  obtain ⟨p, hp⟩ : ∃ p, p = wr.heap.size := ⟨_, rfl⟩
                  rw [← hw5] at hb hf ⊢
                  rw [← hp] at hb ⊢
                  have HF5 := Lib.hid (HFW.out.trans hf (by simp) (n := []) (by simp))
                  clear y0 y1 y2 r1 q1' r3 r4 s0 s1 t1 hw5 hp
                  obtain ⟨v0, v1⟩ := pair_of_heap hb
                  obtain ⟨y0, y1, y2⟩ := two_three (HF5.out.heap HB3.out (by simp))
                  have t1 := HF5.out.cell HT0.out (by simp)
                  clear hb hf
                  go_quiet (fail)
                  have HFQ := Lib.hid (HF5.out.andDrewN nq)
                  go_wp2_with fail
                  exact ⟨⟨j + 1, by omega, by go_num, HFQ.out⟩, by simp [intOf]; omega⟩
              · have hd4 : decide (j < rr.length) = false := decide_eq_false hjn
                go_wp2_with fail
                exact ⟨⟨k + 1, A ++ [⟨rl, rr⟩], by omega, by simp; have := HAN.out; omega, by rw [List.length_append, ← HAN.out]; rfl, by go_num, by rw [HF2'.out]; simp, HFW.out⟩, by simp [intOf]; omega⟩
          · have e1 : (rl != (i : Int)) = true := by rw [bne_iff_ne]; exact he
            have e1' : (rl == (i : Int)) = false := by rw [beq_eq_false_iff_ne]; exact he
            rw [if_neg he] at hst
            have HF2 := Lib.hid (show ruleF g.rules i = A ++ ruleF (g.rules.drop (k + 1)) i by rw [← hst]; exact HFA.out)
            clear he hst
            go_wp2_with fail
            exact ⟨⟨k + 1, A, by omega, by have := HAN.out; omega, by rw [← HAN.out], by go_num, HF2.out, HFW.out⟩, by simp [intOf]; omega⟩
        · have hd2 : decide (k < g.rules.length) = false := decide_eq_false hkn
          have hnn : n = NA := by rw [HNA.out, alts_map, List.length_map, HFA.out, List.drop_eq_nil_of_le (by omega), HAN.out]; simp [ruleF]
          have e1 : ((n : Int) != (NA : Int)) = false := by rw [hnn]; simp
          have e1' : (n != NA) = false := by rw [hnn]; simp
          have HNN := Lib.hid hnn
          clear hnn
          go_wp2_with fail
          exact ⟨⟨i + 1, by omega, by go_num, HFW.out⟩, by simp [intOf]; omega⟩
    · have hd1 : decide (i < g.names.length) = false := decide_eq_false hin
      have hor := fun wx (hfx : Fr [] w wx) => ordered_any g _ wx (HG.out.below hfx) HVG.out HSG.out
      have HF4 := Lib.hid (HF3.out.trans HFW.out (by simp) (n := []) (by simp))
      have HB4 := Lib.hid (HFW.out.heap HB3.out (by simp))
      clear y0 y1 y2
      obtain ⟨y0, y1, y2, z0, z1, z2⟩ := three_of_heap HB4.out
      rcases boolOf_cases (OrderG g) with ⟨ho, hb⟩ | ⟨ho, hb⟩
      · rw [hb] at hor
        have HOR := Lib.hid hor
        have hrs := HRS.out
        rw [resolve_back HVG.out ho] at hrs
        have HRS2 := Lib.hid hrs
        have HLV4 := Lib.hid (HLV.out.below HFW.out)
        have hsm := fun wx (hfx : Fr [] w wx) hv (hh : gramAt wx hv g) => rsame_any g g _ hv wx (HG.out.below hfx) hh
        rw [show sameB g g = true from boolOf_true rfl] at hsm
        have HSM := Lib.hid hsm
        clear hor ho hb hrs hsm HRS
        go_upto_region 32 with (go_at_call 15; refine (HOR.out _ HF4.out).mono ?_; rintro e w6 ⟨rfl, hf6⟩)
        have HF6 := Lib.hid (HF4.out.trans hf6 (by simp) (n := []) (by simp))
        have HB6 := Lib.hid (hf6.heap HB4.out (by simp))
        have HLV6 := Lib.hid (HLV4.out.below hf6)
        clear y0 y1 y2 z0 z1 z2 hf6
        go_upto_region 33 with (go_at_call 16; refine (HRS2.out _ _ HLV6.out).mono ?_; rintro e w7 ⟨v7, rfl, hg7, hf7⟩; obtain ⟨ta, tb, tc, rfl, k1, k2, k3⟩ := hg7; obtain ⟨a1, c1, rfl, hc1', hm1'⟩ := k1.form; obtain ⟨a2, c2, rfl, hc2', hm2'⟩ := k2.form; obtain ⟨a3, c3, rfl, hc3', hm3'⟩ := k3.form)
        have hb := heap_alloc_new w7 (.cells #[.slice a1 g.names.length c1, .slice a2 g.terms.length c2, .slice a3 g.rules.length c3] 25)
        have hf := Fr.alloc w7 (.cells #[.slice a1 g.names.length c1, .slice a2 g.terms.length c2, .slice a3 g.rules.length c3] 25)
        obtain ⟨w8, hw8⟩ : ∃ w8, w8 = w7.alloc (.cells #[.slice a1 g.names.length c1, .slice a2 g.terms.length c2, .slice a3 g.rules.length c3] 25) := ⟨_, rfl⟩
        obtain ⟨p, hp⟩ : ∃ p, p = w7.heap.size := ⟨_, rfl⟩
        rw [← hw8] at hb hf ⊢
        rw [← hp] at hb ⊢
        have HF8 := Lib.hid ((HF6.out.trans hf7 (by simp) (n := []) (by simp)).trans hf (by simp) (n := []) (by simp))
        have HG8 := Lib.hid (show gramAt w8 (.agg #[.slice a1 g.names.length c1, .slice a2 g.terms.length c2, .slice a3 g.rules.length c3]) g from ⟨_, _, _, rfl, k1.below hf, k2.below hf, k3.below hf⟩)
        obtain ⟨y0, y1, y2, z0, z1, z2⟩ := three_of_heap (hf.heap (hf7.heap HB6.out (by simp)) (by simp))
        obtain ⟨x0, x1, x2, u0, u1, u2⟩ := three_of_heap hb
        clear hw8 hp hb hf k1 k2 k3 hf7
        go_wp2_with (first | (go_at_call 13; refine (HSM.out _ HF8.out _ HG8.out).mono ?_; rintro e w9 ⟨rfl, hf9⟩) | (go_at_call 8; refine (HAW.out _).mono ?_; rintro e w10 ⟨rfl, hf10⟩))
        go_ret
        exact ⟨rfl, (HF8.out.trans hf9 (by simp) (n := []) (by simp)).trans hf10 (by simp) (by simp)⟩
      · rw [hb] at hor
        have HOR := Lib.hid hor
        clear hor ho hb
        go_wp2_with (first | (go_at_call 15; refine (HOR.out _ HF4.out).mono ?_; rintro e w6 ⟨rfl, hf6⟩) | (go_at_call 8; refine (HAW.out _).mono ?_; rintro e w7 ⟨rfl, hf7⟩))
        go_ret
        exact ⟨rfl, (HF4.out.trans hf6 (by simp) (n := []) (by simp)).trans hf7 (by simp) (by simp)⟩
end Go.Proofs.Ytcmgnhjffhaajaa
