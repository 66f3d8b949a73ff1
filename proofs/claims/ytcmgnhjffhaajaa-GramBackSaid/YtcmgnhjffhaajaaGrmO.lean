/- The statements' ordered (layer 14). Written by wip/tools/gen_go.py. -/
import Derived.Test.YtcmgnhjffhaajaaGrmC
namespace Go.Proofs.Ytcmgnhjffhaajaa
open Go.RowKit

theorem seen_stop {s : Int} {n : Nat} (l : List Int) (h : s < 0) (h2 : (n : Int) < -1 - s) : seenG (s :: l) n = none := by show (if _ then _ else _) = _; rw [if_pos ⟨h, h2⟩]
theorem seen_next {s : Int} {n : Nat} (l : List Int) (h : s < 0) (h2 : -1 - s = (n : Int)) : seenG (s :: l) n = seenG l (n + 1) := by
  show (if _ then _ else _) = _
  rw [if_neg (fun q => by omega), if_pos ⟨h, h2⟩]
theorem seen_same {s : Int} {n : Nat} (l : List Int) (_ : s < 0) (h1 : ¬ (n : Int) < -1 - s) (h2 : ¬ -1 - s = (n : Int)) : seenG (s :: l) n = seenG l n := by
  show (if _ then _ else _) = _
  rw [if_neg (fun q => h1 q.2), if_neg (fun q => h2 q.2)]
theorem seen_pos {s : Int} {n : Nat} (l : List Int) (h : ¬ s < 0) : seenG (s :: l) n = seenG l n := by
  show (if _ then _ else _) = _
  rw [if_neg (fun q => h q.1), if_neg (fun q => h q.1)]
def symsFrom (g : GramG) (i : Nat) : List Int := (g.rules.drop i).flatMap (·.right)
theorem syms_step {g : GramG} {i : Nat} (h : i < g.rules.length) : symsFrom g i = g.rules[i].right ++ symsFrom g (i + 1) := by
  unfold symsFrom
  rw [List.drop_eq_getElem_cons h, List.flatMap_cons]
def SortUp (g : GramG) (i : Nat) : Prop := ∀ j (h : j + 1 < g.rules.length), j + 1 < i → (g.rules[j]'(by omega)).left ≤ (g.rules[j + 1]'h).left
def OOut (w : World) (g : GramG) (X : Option Nat) (sv iv : Value) (wx : World) : Prop := ∃ i n : Nat, i ≤ g.rules.length ∧ n ≤ g.terms.length ∧ sv = .int .i64 (n : Int) ∧ iv = .int .i64 (i : Int) ∧ SortUp g i ∧ X = seenG (symsFrom g i) n ∧ Fr [] w wx
def OIn (w : World) (g : GramG) (X : Option Nat) (i : Nat) (r : List Int) (sv kv : Value) (wx : World) : Prop := ∃ k n : Nat, k ≤ r.length ∧ n ≤ g.terms.length ∧ sv = .int .i64 (n : Int) ∧ kv = .int .i64 (k : Int) ∧ X = seenG (r.drop k ++ symsFrom g (i + 1)) n ∧ Fr [] w wx
set_option maxRecDepth 100000 in
set_option maxHeartbeats 8000000 in
theorem ordered_any (g : GramG) (gv : Value) (w : World) (h : gramAt w gv g) (hv : ValidG g) (hz : SizeG g) : Calls Try.prog 15 #[gv] w fun e w' => e = .returned (.bool (boolOf (OrderG g))) ∧ Fr [] w w' := by
  obtain ⟨sa, sb, sc, rfl, h1, h2, h3⟩ := h
  obtain ⟨a10, c10, rfl, hc1, hm1⟩ := h1.form
  obtain ⟨a20, c20, rfl, hc2, hm2⟩ := h2.form
  obtain ⟨a30, c30, rfl, hc3, hm3⟩ := h3.form
  have hn2 := hz.terms
  have hn3 := hz.rules
  obtain ⟨R, hR⟩ : ∃ R, R = boolOf (OrderG g) := ⟨_, rfl⟩
  rw [← hR]
  have HR := Lib.hid hR
  have hbad : ¬ OrderG g → R = false := fun hn => by rw [HR.out]; exact boolOf_false hn
  have HBAD := Lib.hid hbad
  obtain ⟨X, hX⟩ : ∃ X, X = seenG (symsFrom g 0) 0 := ⟨_, rfl⟩
  have hXo : (∀ i (h : i + 1 < g.rules.length), (g.rules[i]'(by omega)).left ≤ (g.rules[i + 1]'h).left) → X = some g.terms.length → OrderG g := fun h1 h2 => ⟨h1, by rw [← h2, hX]; rfl⟩
  have hXn : OrderG g → X = some g.terms.length := fun ho => by rw [hX]; exact ho.2
  have HXO := Lib.hid hXo
  have HXN := Lib.hid hXn
  have HX0 := Lib.hid hX
  have HV := Lib.hid hv
  have hb0 := heap_alloc_new w (.cells #[.slice a10 g.names.length c10, .slice a20 g.terms.length c20, .slice a30 g.rules.length c30] 25)
  have hf0 := Fr.alloc w (.cells #[.slice a10 g.names.length c10, .slice a20 g.terms.length c20, .slice a30 g.rules.length c30] 25)
  obtain ⟨w0, hw0⟩ : ∃ w0, w0 = w.alloc (.cells #[.slice a10 g.names.length c10, .slice a20 g.terms.length c20, .slice a30 g.rules.length c30] 25) := ⟨_, rfl⟩
  obtain ⟨q0, hq0⟩ : ∃ q0, q0 = w.heap.size := ⟨_, rfl⟩
  rw [← hw0] at hb0 hf0
  rw [← hq0] at hb0
  have H3 := Lib.hid (h3.below hf0)
  have HB0 := Lib.hid hb0
  have HF := Lib.hid hf0
  have HW0 := Lib.hid hw0
  have HQ0 := Lib.hid hq0
  clear hR hbad hX hXo hXn hb0 hf0 hw0 hq0 h1 h2 h3 hv hz
  go_enter Try.func15, Try.ntmps15
  go_upto_region 1 with fail
  rw [← HW0.out, ← HQ0.out]
  clear HW0 HQ0
  go_wp2_with fail
  go_loopw [3, 4] (OOut w0 g X) (fun _ iv _ => g.rules.length - (intOf iv).toNat)
  case atStart => exact ⟨0, 0, Nat.zero_le _, Nat.zero_le _, rfl, rfl, (fun j h1 h2 => by omega), HX0.out, Fr.refl _ _⟩
  case round =>
    obtain ⟨i, n, hi, hnn, rfl, rfl, hso, hx, hfw⟩ := hrel
    have HSO := Lib.hid hso
    have HX := Lib.hid hx
    have HFW := Lib.hid hfw
    obtain ⟨y0, y1, y2⟩ := two_three (hfw.heap HB0.out (by simp))
    clear hso hx hfw
    by_cases hin : i < g.rules.length
    · have hd1 : decide (i < g.rules.length) = true := decide_eq_true hin
      obtain ⟨b1, o1, v1, rfl, p0, p1, hv1⟩ := rule_cells H3.out i hin
      obtain ⟨rl, hrl⟩ : ∃ rl, rl = (g.rules[i]'hin).left := ⟨_, rfl⟩
      obtain ⟨rr, hrr⟩ : ∃ rr, rr = (g.rules[i]'hin).right := ⟨_, rfl⟩
      rw [← hrl] at p0
      rw [← hrr] at hv1
      have r0 := HFW.out.cell p0 (by simp)
      have hxs := syms_step hin
      rw [← hrr] at hxs
      have hrng : ∀ s ∈ rr, -(g.terms.length : Int) ≤ s ∧ s < (g.names.length : Int) := by rw [hrr]; exact (HV.out.rules _ (List.getElem_mem hin)).2.2.2
      have HRNG := Lib.hid hrng
      have HRL := Lib.hid hrl
      have HXS := Lib.hid (show X = seenG (rr ++ symsFrom g (i + 1)) n by rw [HX.out, hxs])
      have HP1 := Lib.hid p1
      obtain ⟨a4, c4, rfl, hc4, hm4⟩ := hv1.form
      have HV1 := Lib.hid hv1
      clear hrl hrr p0 p1 hxs hrng hv1
      have HCONT : Hid True := Lib.hid trivial
      by_cases hpos : 0 < i
      · have hd2 : decide (0 < i) = true := decide_eq_true hpos
        have hd2' : decide (0 < (i : Int)) = true := decide_eq_true (by omega)
        have hil : i - 1 < g.rules.length := by omega
        obtain ⟨b2, o2, v2, hb2, p0, -, -⟩ := rule_cells H3.out (i - 1) hil
        simp only [Option.some.injEq, Addr.mk.injEq, and_true] at hb2
        obtain ⟨rfl, rfl⟩ := hb2
        obtain ⟨pl, hpl⟩ : ∃ pl, pl = (g.rules[i - 1]'hil).left := ⟨_, rfl⟩
        rw [← hpl] at p0
        have r2 := HFW.out.cell p0 (by simp)
        have HPL := Lib.hid hpl
        clear hpl p0
        by_cases hlt : rl < pl
        · have hd3 : decide (rl < pl) = true := decide_eq_true hlt
          have HN := Lib.hid (HBAD.out (fun ho => by
            have := ho.1 (i - 1) (by omega)
            have e : g.rules[i - 1 + 1]'(by omega) = g.rules[i]'hin := by congr 1; omega
            rw [e, ← HRL.out, ← HPL.out] at this
            omega))
          clear hlt
          go_upto_region 5 with fail
          go_quiet (fail)
          go_wp2_with fail
          go_ret
          exact ⟨by rw [HN.out]; rfl, HF.out.trans (HFW.out.andDrewN _) (by simp) (by simp)⟩
        · have hd3 : decide (rl < pl) = false := decide_eq_false hlt
          have HLE := Lib.hid (show pl ≤ rl by omega)
          have HSO2 := Lib.hid (show SortUp g (i + 1) from fun j h1 h2 => by
            by_cases e : j + 1 = i
            · have e1 : g.rules[j + 1]'h1 = g.rules[i]'hin := by congr 1
              have e2 : g.rules[j]'(by omega) = g.rules[i - 1]'hil := by congr 1; omega
              rw [e1, e2, ← HRL.out, ← HPL.out]; exact HLE.out
            · exact HSO.out j h1 (by omega))
          clear hlt
          go_upto_region 5 with fail
          go_quiet (fail)
          have HFQ := Lib.hid (HFW.out.andDrewN nq)
          generalize hwq : wr.drewN nq = wq at HFQ ⊢
          clear hwq y0 y1 y2 r0 r2 hd2 hd2' hd3
          go_wp2_with fail
          go_loopw [3, 5] (OIn w0 g X i rr) (fun _ kv _ => rr.length - (intOf kv).toNat)
          case atStart => exact ⟨0, n, Nat.zero_le _, hnn, rfl, rfl, by rw [List.drop_zero]; exact HXS.out, HFQ.out⟩
          case round =>
            clear HFQ HXS
            obtain ⟨k, n, hk, hnn, rfl, rfl, hx, hfw⟩ := hrel
            have HX := Lib.hid hx
            have HFV := Lib.hid hfw
            obtain ⟨y0, y1, y2⟩ := two_three (hfw.heap HB0.out (by simp))
            have r1 := hfw.cell HP1.out (by simp)
            clear hx hfw
            by_cases hkn : k < rr.length
            · have hd3 : decide (k < rr.length) = true := decide_eq_true hkn
              obtain ⟨b4, o4, rfl, p0⟩ := int_cell HV1.out k hkn
              obtain ⟨s, hs⟩ : ∃ s, s = rr[k]'hkn := ⟨_, rfl⟩
              rw [← hs] at p0
              have r5 := HFV.out.cell p0 (by simp)
              have hsr := HRNG.out s (by rw [hs]; exact List.getElem_mem hkn)
              have hxs : X = seenG (s :: (rr.drop (k + 1) ++ symsFrom g (i + 1))) n := by rw [HX.out, List.drop_eq_getElem_cons hkn, ← hs]; rfl
              obtain ⟨hs1, hs2⟩ := hsr
              clear p0 hs
              by_cases hneg : s < 0
              · have e1 : decide (s < 0) = true := decide_eq_true hneg
                by_cases hgt : (n : Int) < -1 - s
                · have e2 : decide ((n : Int) < -1 - s) = true := decide_eq_true hgt
                  have hxn : X = none := hxs.trans (seen_stop _ hneg hgt)
                  have HN := Lib.hid (HBAD.out (fun ho => by have := HXN.out ho; rw [hxn] at this; cases this))
                  clear hxs hxn hgt
                  go_wp2_with fail
                  go_ret
                  exact ⟨by rw [HN.out]; rfl, HF.out.trans HFV.out (by simp) (by simp)⟩
                · have e2 : decide ((n : Int) < -1 - s) = false := decide_eq_false hgt
                  by_cases heq : -1 - s = (n : Int)
                  · have e3 : ((-1 - s) == (n : Int)) = true := by rw [heq]; simp
                    have HN := Lib.hid (show X = seenG (rr.drop (k + 1) ++ symsFrom g (i + 1)) (n + 1) from hxs.trans (seen_next _ hneg heq))
                    have HNT := Lib.hid (show n + 1 ≤ g.terms.length by omega)
                    clear hxs hgt heq
                    go_wp2_with fail
                    exact ⟨⟨k + 1, n + 1, by omega, HNT.out, by go_num, by go_num, HN.out, HFV.out⟩, by simp [intOf]; omega⟩
                  · have e3 : ((-1 - s) == (n : Int)) = false := by rw [beq_eq_false_iff_ne]; exact heq
                    have HN := Lib.hid (show X = seenG (rr.drop (k + 1) ++ symsFrom g (i + 1)) n from hxs.trans (seen_same _ hneg hgt heq))
                    clear hxs hgt heq
                    go_wp2_with fail
                    exact ⟨⟨k + 1, n, by omega, hnn, rfl, by go_num, HN.out, HFV.out⟩, by simp [intOf]; omega⟩
              · have e1 : decide (s < 0) = false := decide_eq_false hneg
                have HN := Lib.hid (show X = seenG (rr.drop (k + 1) ++ symsFrom g (i + 1)) n from hxs.trans (seen_pos _ hneg))
                clear hxs hneg
                go_wp2_with fail
                exact ⟨⟨k + 1, n, by omega, hnn, rfl, by go_num, HN.out, HFV.out⟩, by simp [intOf]; omega⟩
            · have hd3 : decide (k < rr.length) = false := decide_eq_false hkn
              have HN := Lib.hid (show X = seenG (symsFrom g (i + 1)) n by rw [HX.out, List.drop_eq_nil_of_le (by omega)]; rfl)
              go_wp2_with fail
              exact ⟨⟨i + 1, n, by omega, hnn, rfl, by go_num, HSO2.out, HN.out, HFV.out⟩, by simp [intOf]; omega⟩
      · have hd2 : decide (0 < i) = false := decide_eq_false hpos
        have hd2' : decide (0 < (i : Int)) = false := decide_eq_false (by omega)
        have HSO2 := Lib.hid (show SortUp g (i + 1) from fun j h1 h2 => by omega)
        go_upto_region 5 with fail
        go_quiet (fail)
        have HFQ := Lib.hid (HFW.out.andDrewN nq)
        generalize hwq : wr.drewN nq = wq at HFQ ⊢
        clear hwq y0 y1 y2 r0 hd2 hd2'
        go_wp2_with fail
        go_loopw [3, 5] (OIn w0 g X i rr) (fun _ kv _ => rr.length - (intOf kv).toNat)
        case atStart => exact ⟨0, n, Nat.zero_le _, hnn, rfl, rfl, by rw [List.drop_zero]; exact HXS.out, HFQ.out⟩
        case round =>
          clear HFQ HXS
          obtain ⟨k, n, hk, hnn, rfl, rfl, hx, hfw⟩ := hrel
          have HX := Lib.hid hx
          have HFV := Lib.hid hfw
          obtain ⟨y0, y1, y2⟩ := two_three (hfw.heap HB0.out (by simp))
          have r1 := hfw.cell HP1.out (by simp)
          clear hx hfw
          by_cases hkn : k < rr.length
          · have hd3 : decide (k < rr.length) = true := decide_eq_true hkn
            obtain ⟨b4, o4, rfl, p0⟩ := int_cell HV1.out k hkn
            obtain ⟨s, hs⟩ : ∃ s, s = rr[k]'hkn := ⟨_, rfl⟩
            rw [← hs] at p0
            have r5 := HFV.out.cell p0 (by simp)
            have hsr := HRNG.out s (by rw [hs]; exact List.getElem_mem hkn)
            have hxs : X = seenG (s :: (rr.drop (k + 1) ++ symsFrom g (i + 1))) n := by rw [HX.out, List.drop_eq_getElem_cons hkn, ← hs]; rfl
            obtain ⟨hs1, hs2⟩ := hsr
            clear p0 hs
            by_cases hneg : s < 0
            · have e1 : decide (s < 0) = true := decide_eq_true hneg
              by_cases hgt : (n : Int) < -1 - s
              · have e2 : decide ((n : Int) < -1 - s) = true := decide_eq_true hgt
                have hxn : X = none := hxs.trans (seen_stop _ hneg hgt)
                have HN := Lib.hid (HBAD.out (fun ho => by have := HXN.out ho; rw [hxn] at this; cases this))
                clear hxs hxn hgt
                go_wp2_with fail
                go_ret
                exact ⟨by rw [HN.out]; rfl, HF.out.trans HFV.out (by simp) (by simp)⟩
              · have e2 : decide ((n : Int) < -1 - s) = false := decide_eq_false hgt
                by_cases heq : -1 - s = (n : Int)
                · have e3 : ((-1 - s) == (n : Int)) = true := by rw [heq]; simp
                  have HN := Lib.hid (show X = seenG (rr.drop (k + 1) ++ symsFrom g (i + 1)) (n + 1) from hxs.trans (seen_next _ hneg heq))
                  have HNT := Lib.hid (show n + 1 ≤ g.terms.length by omega)
                  clear hxs hgt heq
                  go_wp2_with fail
                  exact ⟨⟨k + 1, n + 1, by omega, HNT.out, by go_num, by go_num, HN.out, HFV.out⟩, by simp [intOf]; omega⟩
                · have e3 : ((-1 - s) == (n : Int)) = false := by rw [beq_eq_false_iff_ne]; exact heq
                  have HN := Lib.hid (show X = seenG (rr.drop (k + 1) ++ symsFrom g (i + 1)) n from hxs.trans (seen_same _ hneg hgt heq))
                  clear hxs hgt heq
                  go_wp2_with fail
                  exact ⟨⟨k + 1, n, by omega, hnn, rfl, by go_num, HN.out, HFV.out⟩, by simp [intOf]; omega⟩
            · have e1 : decide (s < 0) = false := decide_eq_false hneg
              have HN := Lib.hid (show X = seenG (rr.drop (k + 1) ++ symsFrom g (i + 1)) n from hxs.trans (seen_pos _ hneg))
              clear hxs hneg
              go_wp2_with fail
              exact ⟨⟨k + 1, n, by omega, hnn, rfl, by go_num, HN.out, HFV.out⟩, by simp [intOf]; omega⟩
          · have hd3 : decide (k < rr.length) = false := decide_eq_false hkn
            have HN := Lib.hid (show X = seenG (symsFrom g (i + 1)) n by rw [HX.out, List.drop_eq_nil_of_le (by omega)]; rfl)
            go_wp2_with fail
            exact ⟨⟨i + 1, n, by omega, hnn, rfl, by go_num, HSO2.out, HN.out, HFV.out⟩, by simp [intOf]; omega⟩
    · have hd1 : decide (i < g.rules.length) = false := decide_eq_false hin
      obtain rfl : i = g.rules.length := by omega
      have hxe : X = some n := by rw [HX.out]; unfold symsFrom; rw [List.drop_length]; rfl
      by_cases hnt : n = g.terms.length
      · have e1 : ((n : Int) == (g.terms.length : Int)) = true := by rw [hnt]; simp
        have e1' : (n == g.terms.length) = true := by rw [hnt]; simp
        have HN := Lib.hid (show R = true by rw [HR.out]; exact boolOf_true (HXO.out (fun j h => HSO.out j h (by omega)) (by rw [hxe, hnt])))
        clear hxe hnt
        go_wp2_with fail
        go_ret
        exact ⟨by rw [HN.out]; rfl, HF.out.trans HFW.out (by simp) (by simp)⟩
      · have e1 : ((n : Int) == (g.terms.length : Int)) = false := by rw [beq_eq_false_iff_ne]; omega
        have e1' : (n == g.terms.length) = false := by rw [beq_eq_false_iff_ne]; exact hnt
        have HN := Lib.hid (HBAD.out (fun ho => by have := HXN.out ho; rw [hxe] at this; exact hnt (Option.some.inj this)))
        clear hxe hnt
        go_wp2_with fail
        go_ret
        exact ⟨by rw [HN.out]; rfl, HF.out.trans HFW.out (by simp) (by simp)⟩
end Go.Proofs.Ytcmgnhjffhaajaa
