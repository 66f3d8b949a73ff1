/- Sorting in place (slices.SortStableFunc at []string): the whole. -/
import Derived.Test.YtnaamjpiaekmeaaGreatStbF
set_option linter.unusedVariables false
set_option linter.unusedSimpArgs false
namespace Go.Proofs.YtnaamjpiaekmeaaGreat
open Go.RowKit
theorem pmrg_any (hC : CmpP Tryz.prog 72) : ∀ n, SymP n
 | 0 => by
   intro p u v s b cap a m e N w hn
   intros
   omega
 | n + 1 => by
   intro p u v s b cap a m e N w hn h hN h1 h2 ha hm he hu hv su sv
   by_cases hu1 : u.length = 1
   ·obtain ⟨t, rfl⟩ := List.length_eq_one_iff.1 hu1
    exact psymA hC p v s t b cap a m e N w h (by simp only [List.length_cons, List.length_nil] at hN; omega) h1 h2 ha (by simpa using hm) he sv
   ·by_cases hv1 : v.length = 1
    ·obtain ⟨t, rfl⟩ := List.length_eq_one_iff.1 hv1
     exact psymB hC p u s t b cap a m e N w h (by simp only [List.length_cons, List.length_nil] at hN; omega) h1 h2 ha hm (by simpa using he) su (by omega)
    ·exact psymC hC n (pmrg_any hC n) p u v s b cap a m e N w hn h hN h1 h2 ha hm he (by omega) (by omega) su sv
def StO (w : World) (b : Nat) (l : Words) (av bv : Value) (wx : World) : Prop := ∃ d r : Words, av = .int .i64 (d.length : Int) ∧ bv = .int .i64 ((d.length + 20 : Nat) : Int) ∧ ArrS wx b (d ++ r) ∧ MovW l (d ++ r) ∧ DoneK (List.length (α := UInt8)) 20 d ∧ Fr [b] w wx
def StK (w : World) (b : Nat) (l : Words) (kv : Value) (wx : World) : Prop := ∃ (k : Nat) (l' : Words), 0 < k ∧ k ≤ 2000000 ∧ kv = .int .i64 (k : Int) ∧ ArrS wx b l' ∧ MovW l l' ∧ BlkK (List.length (α := UInt8)) k l' ∧ Fr [b] w wx
def StM (w : World) (b k k2 : Nat) (l : Words) (av bv : Value) (wx : World) : Prop := ∃ d r : Words, av = .int .i64 (d.length : Int) ∧ bv = .int .i64 ((d.length + k2 : Nat) : Int) ∧ ArrS wx b (d ++ r) ∧ MovW l (d ++ r) ∧ BlkK (List.length (α := UInt8)) k r ∧ DoneK (List.length (α := UInt8)) k2 d ∧ Fr [b] w wx
theorem mov_mid {l d x r x' : Words} (h : MovW l (d ++ (x ++ r))) (hx : MovW x x') : MovW l (d ++ x' ++ r) := by
 have := hx.frame d r
 rw [List.append_assoc d x r] at this
 exact h.trans this
set_option maxRecDepth 100000 in
set_option maxHeartbeats 4000000 in
theorem pstab (hC : CmpP Tryz.prog 72) (l : Words) (b cap N : Nat) (w : World) (h : ArrS w b l) (hN : N = l.length) (h1 : N ≤ cap) (h2 : N ≤ 1000000) :
  Calls Tryz.prog 109 #[.slice (some ⟨b, 0, none⟩) N cap, .int .i64 (N : Int), .func (.func 72) #[] #[]] w (SortGot w b [] l []) := by
 have HA := Lib.hid h
 have HN := Lib.hid hN
 have HC := Lib.hid hC
 have HSYM := Lib.hid (pmrg_any hC)
 clear h hN hC
 go_enter Tryz.func109, Tryz.ntmps109
 go_wp2_with fail
 go_loopw [7, 8] (StO w b l) (fun _ bv _ => N + 20 - (intOf bv).toNat)
 case atStart => exact ⟨[], l, rfl, rfl, HA.out, MovK.refl _, DoneK.nil _, Fr.refl _ _⟩
 case round =>
  obtain ⟨d, r, rfl, rfl, harr, hm, hd, hf⟩ := hrel
  have HR := Lib.hid harr
  have HM := Lib.hid hm
  have HD := Lib.hid hd
  have HF := Lib.hid hf
  have HLEN := Lib.hid (show d.length + r.length = N by have := hm.len; rw [List.length_append] at this; rw [HN.out]; omega)
  obtain ⟨a, ha⟩ : ∃ a, a = d.length := ⟨_, rfl⟩
  obtain ⟨c, hc⟩ : ∃ c, c = d.length + 20 := ⟨_, rfl⟩
  rw [← hc, ← ha]
  have hab : a ≤ 1000000 := by have := HLEN.out; omega
  have hcb : c ≤ 1000020 := by have := HLEN.out; omega
  have HAD := Lib.hid ha
  have HCD := Lib.hid hc
  clear harr hm hd hf ha hc HA
  by_cases hcN : c ≤ N
  ·have d1 : decide (c ≤ N) = true := decide_eq_true hcN
   have h20 : 20 ≤ r.length := by have h3 := HLEN.out; have h4 := HCD.out; omega
   have hxl : (r.take 20).length = 20 := by rw [List.length_take]; omega
   have hform : d ++ r = d ++ r.take 20 ++ r.drop 20 := by rw [List.append_assoc, List.take_append_drop]
   have hR := HR.out
   rw [hform] at hR
   have hins := pinsert HC.out d (r.take 20) (r.drop 20) b cap a c N wr hR (by rw [hxl, List.length_drop]; have := HLEN.out; omega) h1 h2 HAD.out (by rw [hxl]; exact HCD.out)
   have HI := Lib.hid hins
   have HXL := Lib.hid hxl
   have HM2 := Lib.hid (show MovW l (d ++ (r.take 20 ++ r.drop 20)) by rw [List.take_append_drop]; exact HM.out)
   clear hins hR hform hxl h20
   go_wp2_with (go_at_call 135; refine HI.out.mono ?_; rintro e w1 ⟨x', rfl, hm1, hs1, ha1, hf1⟩; have HM1 := Lib.hid hm1; have HS1 := Lib.hid hs1; have HA1 := Lib.hid ha1; have HF1 := Lib.hid hf1; clear hm1 hs1 ha1 hf1)
   have hl' : x'.length = 20 := by have := HM1.out.len; rw [this]; exact HXL.out
   exact ⟨⟨d ++ x', r.drop 20, by rw [List.length_append, hl', HCD.out], by rw [List.length_append, hl', HCD.out]; go_num, HA1.out, mov_mid HM2.out HM1.out, HD.out.snoc hl' HS1.out, HF.out.trans HF1.out (fun _ h _ => h) (fun _ h _ => h)⟩, by simp [intOf]; omega⟩
  ·have d1 : decide (c ≤ N) = false := decide_eq_false hcN
   have hr20 : r.length ≤ 20 := by have h3 := HLEN.out; have h4 := HCD.out; omega
   have hR := HR.out
   have hins := pinsert HC.out d r [] b cap a N N wr (by rw [List.append_nil]; exact hR) (by have := HLEN.out; simp; omega) h1 h2 HAD.out (by have := HLEN.out; omega)
   have HI := Lib.hid hins
   have HR20 := Lib.hid hr20
   clear hins hR hr20
   go_wp2_with (go_at_call 135; refine HI.out.mono ?_; rintro e w1 ⟨x', rfl, hm1, hs1, ha1, hf1⟩; have HM1 := Lib.hid hm1; have HS1 := Lib.hid hs1; have HA1 := Lib.hid ha1; have HF1 := Lib.hid hf1; clear hm1 hs1 ha1 hf1)
   have hst : StK w b l (.int .i64 20) w1 := by
    have h5 := HA1.out
    rw [List.append_nil] at h5
    have h6 := mov_mid (r := []) (by rw [List.append_nil]; exact HM.out) HM1.out
    rw [List.append_nil] at h6
    exact ⟨20, d ++ x', by omega, by omega, rfl, h5, h6, HD.out.whole (by rw [HM1.out.len]; exact HR20.out) HS1.out, HF.out.trans HF1.out (fun _ h _ => h) (fun _ h _ => h)⟩
   have HST := Lib.hid hst
   clear hst HI HM1 HS1 HA1 HF1 HR HM HD HF HLEN HAD HCD HR20
   go_loopw [6] (StK w b l) (fun kv _ => N - (intOf kv).toNat)
   case atStart => exact HST.out
   case round =>
    clear HST
    obtain ⟨k, l', hk, hkb, rfl, harr, hm, hb, hf⟩ := hrel
    have HR := Lib.hid harr
    have HM := Lib.hid hm
    have HB := Lib.hid hb
    have HF := Lib.hid hf
    have HLEN := Lib.hid (show l'.length = N by have := hm.len; rw [HN.out]; omega)
    clear harr hm hb hf
    by_cases hkN : k < N
    ·have d2 : decide (k < N) = true := decide_eq_true hkN
     obtain ⟨k2, hk2⟩ : ∃ k2, k2 = 2 * k := ⟨_, rfl⟩
     have e2a : (2 : Int) * (k : Int) = (k2 : Int) := by omega
     have e2b : (k : Int) * 2 = (k2 : Int) := by omega
     have hk2b : k2 ≤ 2000000 := by omega
     have HK2 := Lib.hid hk2
     clear hk2
     go_wp2_with fail
     go_loopw [7, 8] (StM w b k k2 l) (fun _ bv _ => N + k2 - (intOf bv).toNat)
     case atStart => exact ⟨[], l', rfl, by simp, HR.out, HM.out, HB.out, DoneK.nil _, HF.out⟩
     case round =>
      clear HR HM HB HF HLEN
      obtain ⟨d, r, rfl, rfl, harr, hm, hb, hd, hf⟩ := hrel
      have HR := Lib.hid harr
      have HM := Lib.hid hm
      have HB := Lib.hid hb
      have HD := Lib.hid hd
      have HF := Lib.hid hf
      have HLEN := Lib.hid (show d.length + r.length = N by have := hm.len; rw [List.length_append] at this; rw [HN.out]; omega)
      obtain ⟨a2, ha⟩ : ∃ a, a = d.length := ⟨_, rfl⟩
      obtain ⟨c2, hc⟩ : ∃ c, c = d.length + k2 := ⟨_, rfl⟩
      rw [← hc, ← ha]
      have hab2 : a2 ≤ 1000000 := by have := HLEN.out; omega
      have hcb2 : c2 ≤ 3000000 := by have := HLEN.out; omega
      have HAD := Lib.hid ha
      have HCD := Lib.hid hc
      obtain ⟨m, hmm⟩ : ∃ m, m = a2 + k := ⟨_, rfl⟩
      have emm : (a2 : Int) + (k : Int) = (m : Int) := by omega
      have HMM := Lib.hid hmm
      have hmb : m ≤ 3000000 := by omega
      clear harr hm hb hd hf ha hc hmm
      by_cases hcN2 : c2 ≤ N
      ·have d3 : decide (c2 ≤ N) = true := decide_eq_true hcN2
       obtain ⟨x, y, r', hr, hx, hy, sx, sy, hb'⟩ := HB.out.two (by have h3 := HLEN.out; have h4 := HCD.out; have h5 := HK2.out; omega)
       subst hr
       have hR := HR.out
       rw [← List.append_assoc] at hR
       have hsym := HSYM.out (x.length + y.length) d x y r' b cap a2 m c2 N wr (Nat.le_refl _) hR (by have := HLEN.out; simp only [List.length_append] at this; omega) h1 h2 HAD.out (by have := HMM.out; omega) (by have h3 := HMM.out; have h4 := HCD.out; have h5 := HK2.out; have h6 := HAD.out; omega) (by omega) (by omega) sx sy
       have HI := Lib.hid hsym
       have HB' := Lib.hid hb'
       have HXY := Lib.hid (show (x ++ y).length = k2 by have := HK2.out; rw [List.length_append]; omega)
       clear hsym hR hb' hx hy sx sy
       go_wp2_with (go_at_call 136; refine HI.out.mono ?_; rintro e w2 ⟨x', rfl, hm1, hs1, ha1, hf1⟩; have HM1 := Lib.hid hm1; have HS1 := Lib.hid hs1; have HA1 := Lib.hid ha1; have HF1 := Lib.hid hf1; clear hm1 hs1 ha1 hf1)
       have hl' : x'.length = k2 := by have := HM1.out.len; rw [this]; exact HXY.out
       exact ⟨⟨d ++ x', r', by rw [List.length_append, hl', HCD.out], by rw [List.length_append, hl', HCD.out]; go_num, HA1.out, mov_mid HM.out HM1.out, HB'.out, HD.out.snoc hl' HS1.out, HF.out.trans HF1.out (fun _ h _ => h) (fun _ h _ => h)⟩, by simp [intOf]; omega⟩
      ·have d3 : decide (c2 ≤ N) = false := decide_eq_false hcN2
       by_cases hmN : m < N
       ·have d4 : decide (m < N) = true := decide_eq_true hmN
        obtain ⟨x, y, hr, hx, hy, sx, sy⟩ := HB.out.rest (by have h3 := HLEN.out; have h4 := HMM.out; have h5 := HAD.out; omega) (by have h3 := HLEN.out; have h4 := HCD.out; have h5 := HK2.out; omega)
        subst hr
        have hR := HR.out
        have hy0 : 0 < y.length := List.length_pos_iff.2 hy
        have hsym := HSYM.out (x.length + y.length) d x y [] b cap a2 m N N wr (Nat.le_refl _) (by rw [List.append_nil]; exact hR) (by have := HLEN.out; simp only [List.length_append, List.length_nil] at this ⊢; omega) h1 h2 HAD.out (by have := HMM.out; omega) (by have h3 := HMM.out; have h4 := HLEN.out; have h6 := HAD.out; rw [List.length_append] at h4; omega) (by omega) hy0 sx sy
        have HI := Lib.hid hsym
        have HXY := Lib.hid (show (x ++ y).length ≤ k2 by have h3 := HLEN.out; have h4 := HCD.out; omega)
        clear hsym hR hx hy sx sy hy0
        go_wp2_with (go_at_call 136; refine HI.out.mono ?_; rintro e w2 ⟨x', rfl, hm1, hs1, ha1, hf1⟩; have HM1 := Lib.hid hm1; have HS1 := Lib.hid hs1; have HA1 := Lib.hid ha1; have HF1 := Lib.hid hf1; clear hm1 hs1 ha1 hf1)
        have h5 := HA1.out
        rw [List.append_nil] at h5
        have h6 := mov_mid (r := []) (by rw [List.append_nil]; exact HM.out) HM1.out
        rw [List.append_nil] at h6
        exact ⟨⟨k2, d ++ x', by have := HK2.out; omega, hk2b, by go_num, h5, h6, HD.out.whole (by rw [HM1.out.len]; exact HXY.out) HS1.out, HF.out.trans HF1.out (fun _ h _ => h) (fun _ h _ => h)⟩, by simp [intOf]; have := HK2.out; omega⟩
       ·have d4 : decide (m < N) = false := decide_eq_false hmN
        have hrk : r.length ≤ k := by have h3 := HLEN.out; have h4 := HMM.out; have h5 := HAD.out; omega
        have HW := Lib.hid (HD.out.whole (by have := HK2.out; omega) (HB.out.one hrk))
        clear hrk
        go_wp2_with fail
        exact ⟨⟨k2, d ++ r, by have := HK2.out; omega, hk2b, by go_num, HR.out, HM.out, HW.out, HF.out⟩, by simp [intOf]; have := HK2.out; omega⟩
    ·have d2 : decide (k < N) = false := decide_eq_false hkN
     have HS := Lib.hid (HB.out.one (by have := HLEN.out; omega))
     go_wp2_with fail
     go_end0
     exact ⟨l', rfl, HM.out, HS.out, by simpa using HR.out, HF.out⟩
set_option maxRecDepth 100000 in
theorem pstable (hC : CmpP Tryz.prog 72) (l : Words) (b cap N : Nat) (w : World) (h : ArrS w b l) (hN : N = l.length) (h1 : N ≤ cap) (h2 : N ≤ 1000000) :
  Calls Tryz.prog 71 #[.slice (some ⟨b, 0, none⟩) N cap, .func (.func 72) #[] #[]] w (SortGot w b [] l []) := by
 have HS := Lib.hid (pstab hC l b cap N w h hN h1 h2)
 clear h hN
 go_enter Tryz.func71, Tryz.ntmps71
 go_wp2_with (go_at_call 109; refine HS.out.mono ?_; rintro e w1 ⟨x', rfl, hr⟩)
 go_end0
 exact ⟨x', rfl, hr⟩
end Go.Proofs.YtnaamjpiaekmeaaGreat
