/- Sorting in place (slices.SortStableFunc at []string): merging. -/
import Derived.Test.YtnaamjpiaekmeaaGreatSt
import Derived.Deep.DeepCutAuto
set_option linter.unusedVariables false
set_option linter.unusedSimpArgs false
namespace Go.Proofs.YtnaamjpiaekmeaaGreat
open Go.RowKit
def SymR (w : World) (b : Nat) (l u v : Words) (a n lo hi : Nat) (sv rv : Value) (wx : World) : Prop := ∃ s r : Nat, sv = .int .i64 ((a + s : Nat) : Int) ∧ rv = .int .i64 ((a + r : Nat) : Int) ∧ SymK (List.length (α := UInt8)) u v n lo hi s r ∧ ArrS wx b l ∧ Fr [b] w wx
def SymP (n : Nat) : Prop := ∀ (p u v s : Words) (b cap a m e N : Nat) (w : World), u.length + v.length ≤ n → ArrS w b (p ++ (u ++ v) ++ s) → N = p.length + (u.length + v.length) + s.length → N ≤ cap → N ≤ 1000000 → a = p.length → m = a + u.length → e = m + v.length → 0 < u.length → 0 < v.length → SrtW u → SrtW v →
 Calls Tryz.prog 136 #[.slice (some ⟨b, 0, none⟩) N cap, .int .i64 (a : Int), .int .i64 (m : Int), .int .i64 (e : Int), .func (.func 72) #[] #[]] w (SortGot w b p (u ++ v) s)
set_option maxRecDepth 100000 in
set_option maxHeartbeats 8000000 in
theorem psymC (hC : CmpP Tryz.prog 72) (n : Nat) (ih : SymP n) (p u v s : Words) (b cap a m e N : Nat) (w : World) (hn : u.length + v.length ≤ n + 1) (h : ArrS w b (p ++ (u ++ v) ++ s)) (hN : N = p.length + (u.length + v.length) + s.length) (h1 : N ≤ cap) (h2 : N ≤ 1000000) (ha : a = p.length) (hm : m = a + u.length) (he : e = m + v.length) (hu2 : 2 ≤ u.length) (hv2 : 2 ≤ v.length) (su : SrtW u) (sv : SrtW v) :
  Calls Tryz.prog 136 #[.slice (some ⟨b, 0, none⟩) N cap, .int .i64 (a : Int), .int .i64 (m : Int), .int .i64 (e : Int), .func (.func 72) #[] #[]] w (SortGot w b p (u ++ v) s) := by
 have HA := Lib.hid h
 have HLEN := Lib.hid (show (p ++ (u ++ v) ++ s).length = N by rw [hN]; simp only [List.length_append])
 have HC := Lib.hid hC
 have HSU := Lib.hid su
 have HSV := Lib.hid sv
 have HIH := Lib.hid ih
 obtain ⟨lu, hlu⟩ : ∃ x, x = u.length := ⟨_, rfl⟩
 obtain ⟨lv, hlv⟩ : ∃ x, x = v.length := ⟨_, rfl⟩
 rw [← hlu, ← hlv] at hN hn
 rw [← hlu] at hm hu2
 rw [← hlv] at he hv2
 obtain ⟨M, hM⟩ : ∃ M, M = (lu + lv) / 2 := ⟨_, rfl⟩
 obtain ⟨mid, hmid⟩ : ∃ x, x = a + M := ⟨_, rfl⟩
 obtain ⟨nn, hnn⟩ : ∃ x, x = mid + m := ⟨_, rfl⟩
 obtain ⟨pn, hpn⟩ : ∃ x, x + 1 = nn := ⟨nn - 1, by omega⟩
 obtain ⟨lo, hlo⟩ : ∃ x, x = if M < lu then M - lv else 0 := ⟨_, rfl⟩
 obtain ⟨hi, hhi⟩ : ∃ x, x = if M < lu then M else lu := ⟨_, rfl⟩
 have hB : SymB lu lv (M + lu) lo hi := by
  by_cases q : M < lu
  ·rw [if_pos q] at hlo hhi
   exact ⟨by omega, by omega, by omega, by omega, by omega, by omega⟩
  ·rw [if_neg q] at hlo hhi
   exact ⟨by omega, by omega, by omega, by omega, by omega, by omega⟩
 have HB := Lib.hid hB
 have HFACT := Lib.hid (show N = a + (lu + lv) + s.length ∧ a = p.length ∧ m = a + lu ∧ e = m + lv ∧ 2 ≤ lu ∧ 2 ≤ lv ∧ M = (lu + lv) / 2 ∧ mid = a + M ∧ nn = mid + m ∧ pn + 1 = nn ∧ lu = u.length ∧ lv = v.length from ⟨by omega, ha, hm, he, hu2, hv2, hM, hmid, hnn, hpn, hlu, hlv⟩)
 have HLO := Lib.hid hlo
 have HHI := Lib.hid hhi
 have HNN := Lib.hid hn
 have d0 : ((m : Int) - (a : Int) == 1) = false := by rw [beq_eq_false_iff_ne]; omega
 have d00 : ((e : Int) - (m : Int) == 1) = false := by rw [beq_eq_false_iff_ne]; omega
 have hb1 : m ≤ 1000000 := by omega
 have hb2 : e ≤ 1000000 := by omega
 have hb3 : a ≤ 1000000 := by omega
 have hb4 : mid ≤ 1000000 := by omega
 have hb5 : nn ≤ 2000000 := by omega
 have hb6 : pn ≤ 2000000 := by omega
 have HMID := Lib.hid (show ((a : Int) + (e : Int)) / 2 = (mid : Int) by omega)
 have HNI := Lib.hid (show (mid : Int) + (m : Int) = (nn : Int) by omega)
 have HPI := Lib.hid (show (nn : Int) - 1 = (pn : Int) by omega)
 clear h hN hn hC ha hm he su sv ih hB hlo hhi hM hmid hnn hpn hu2 hv2 hlu hlv
 go_enter Tryz.func136, Tryz.ntmps136
 go_upto_region 25 with fail
 rw [HMID.out]
 go_upto_region 26 with fail
 rw [HNI.out]
 go_upto_if 140 with fail
 go_cut [20, 21] (fun s t wx => s = .int .i64 ((a + lo : Nat) : Int) ∧ t = .int .i64 ((a + hi : Nat) : Int) ∧ w = wx)
 case first =>
  as_aux_lemma =>
   obtain ⟨f1, f2, f3, f4, f5, f6, f7, f8, f9, f10, f11, f12⟩ := HFACT.out
   by_cases q : M < lu
   ·have e1 := HLO.out
    have e2 := HHI.out
    rw [if_pos q] at e1 e2
    have HE1 := Lib.hid (show (nn : Int) - (e : Int) = ((a + lo : Nat) : Int) by omega)
    have HE2 := Lib.hid (show mid = a + hi by omega)
    have d1 : decide (mid < m) = true := decide_eq_true (by omega)
    clear e1 e2 f1 f2 f3 f4 f5 f6 f7 f8 f9 f10 f11 f12 q
    rw [d1]
    go_wp2_with fail
    go_meet
    exact ⟨by rw [HE1.out], by rw [HE2.out], rfl⟩
   ·have e1 := HLO.out
    have e2 := HHI.out
    rw [if_neg q] at e1 e2
    have HE1 := Lib.hid (show a = a + lo by omega)
    have HE2 := Lib.hid (show m = a + hi by omega)
    have d1 : decide (mid < m) = false := decide_eq_false (by omega)
    clear e1 e2 f1 f2 f3 f4 f5 f6 f7 f8 f9 f10 f11 f12 q
    rw [d1]
    go_wp2_with fail
    go_meet
    exact ⟨by rw [← HE1.out], by rw [HE2.out], rfl⟩
 case rest =>
  as_aux_lemma =>
   obtain ⟨rfl, rfl, rfl⟩ := hcut
   go_upto_region 33 with fail
   rw [HPI.out]
   go_wp2_with fail
   go_loopw [20, 21] (SymR w b (p ++ (u ++ v) ++ s) u v a (M + lu) lo hi) (fun sv rv _ => (intOf rv).toNat - (intOf sv).toNat)
   case atStart => exact ⟨lo, hi, rfl, rfl, ⟨HB.out.lo_hi, Nat.le_refl _, Nat.le_refl _, fun c _ _ h1 h2 => by omega, fun c _ _ h1 h2 => by omega⟩, HA.out, Fr.refl _ _⟩
   case round =>
    as_aux_lemma =>
     obtain ⟨i, j, rfl, rfl, hbk, harr, hf⟩ := hrel
     have HK := Lib.hid hbk
     have HR := Lib.hid harr
     have HF := Lib.hid hf
     clear HA
     have hjh := hbk.hi_
     have hli := hbk.lo_
     have hijl := hbk.le
     have HJH := Lib.hid hjh
     have HLI := Lib.hid hli
     have HIJ := Lib.hid hijl
     obtain ⟨mi, hmi⟩ : ∃ x, x = a + i := ⟨_, rfl⟩
     obtain ⟨mj, hmj⟩ : ∃ x, x = a + j := ⟨_, rfl⟩
     rw [← hmi, ← hmj]
     have HMI := Lib.hid hmi
     have HMJ := Lib.hid hmj
     have hmib : mi ≤ 1000000 ∧ mj ≤ 1000000 := by
      obtain ⟨f1, f2, f3, f4, f5, f6, f7, f8, f9, f10, f11, f12⟩ := HFACT.out
      have := HB.out.hi_u
      omega
     obtain ⟨hmib, hmjb⟩ := hmib
     clear hbk harr hf hjh hli hijl hmi hmj
     by_cases hij : mi < mj
     ·have d1 : decide (mi < mj) = true := decide_eq_true hij
      obtain ⟨c, hc⟩ : ∃ c, a + c = (mi + mj) / 2 := ⟨(mi + mj) / 2 - a, by have h3 := HMI.out; have h4 := HMJ.out; omega⟩
      have hci : i ≤ c := by have h3 := HMI.out; have h4 := HMJ.out; omega
      have hcj : c < j := by have h3 := HMI.out; have h4 := HMJ.out; omega
      obtain ⟨x, hx⟩ : ∃ x, x = a + c := ⟨_, rfl⟩
      have hxx : ((mi : Int) + (mj : Int)) / 2 = (x : Int) := by omega
      have HHX := Lib.hid hxx
      obtain ⟨f1, f2, f3, f4, f5, f6, f7, f8, f9, f10, f11, f12⟩ := HFACT.out
      have hcu : c < u.length := by have h3 := HB.out.hi_u; have h4 := HJH.out; omega
      obtain ⟨y, hy⟩ : ∃ y, y + x = pn := ⟨pn - x, by have h3 := HB.out.hi_u; have h4 := HB.out.n_hi; have h5 := HJH.out; omega⟩
      have hpx : (pn : Int) - (x : Int) = (y : Int) := by omega
      have hd : M + lu - 1 - c - u.length < v.length := by have h3 := HB.out.n_lo; have h4 := HLI.out; have h5 := HB.out.n_hi; have h6 := HJH.out; omega
      have hyd : y = m + (M + lu - 1 - c - u.length) := by have h5 := HB.out.n_hi; have h6 := HJH.out; omega
      have hxN : x < N := by omega
      have hyN : y < N := by omega
      have cx := HR.out.get (i := x) (by rw [HLEN.out]; exact hxN)
      rw [show p ++ (u ++ v) ++ s = p ++ u ++ (v ++ s) by simp, getD_in p (v ++ s) u hcu (by omega)] at cx
      have cy := HR.out.get (i := y) (by rw [HLEN.out]; exact hyN)
      rw [show p ++ (u ++ v) ++ s = (p ++ u) ++ v ++ s by simp, getD_in (p ++ u) s v hd (by rw [List.length_append]; omega)] at cy
      obtain ⟨zu, hzu⟩ : ∃ z, z = u[c]'hcu := ⟨_, rfl⟩
      obtain ⟨zv, hzv⟩ : ∃ z, z = v[M + lu - 1 - c - u.length]'hd := ⟨_, rfl⟩
      rw [← hzu] at cx
      rw [← hzv] at cy
      have HBL := Lib.hid (show SymB u.length v.length (M + lu) lo hi by rw [← f11, ← f12]; exact HB.out)
      have HX := Lib.hid hx
      have HPX := Lib.hid hpx
      have HZU := Lib.hid hzu
      have HZV := Lib.hid hzv
      have HCI := Lib.hid hci
      have HCJ := Lib.hid hcj
      clear f1 f2 f3 f4 f5 f6 f7 f8 f9 f10 f11 f12 hy hpx hyd hxx hx hzu hzv hci hcj hc
      by_cases hlt : zv.length < zu.length
      ·obtain ⟨r, d3, hc⟩ := HC.out.yes hlt
       have HCM := Lib.hid hc
       have HBN := Lib.hid (HK.out.down HSU.out HSV.out HBL.out HCI.out HCJ.out (fun q q' => by rw [← HZU.out, ← HZV.out]; exact hlt))
       clear hlt hc
       go_upto_region 35 with fail
       rw [HHX.out]
       have hpx := HPX.out
       go_quiet (first | (go_at_call 72; with_reducible refine Calls.quiet_of_same (HCM.out _)))
       clear hpx
       go_wp2_with fail
       exact ⟨⟨i, c, by rw [HMI.out], by rw [HX.out], HBN.out, HR.out.drewN nq, HF.out.andDrewN nq⟩, by simp [intOf]; have h3 := HX.out; have h4 := HMI.out; have h5 := HCI.out; have h6 := HCJ.out; have h7 := HMJ.out; omega⟩
      ·obtain ⟨r, d3, hc⟩ := HC.out.no hlt
       have HCM := Lib.hid hc
       have HBN := Lib.hid (HK.out.up HSU.out HSV.out HBL.out HCI.out HCJ.out (fun q q' => by rw [← HZU.out, ← HZV.out]; omega))
       clear hlt hc
       go_upto_region 35 with fail
       rw [HHX.out]
       have hpx := HPX.out
       go_quiet (first | (go_at_call 72; with_reducible refine Calls.quiet_of_same (HCM.out _)))
       clear hpx
       go_wp2_with fail
       exact ⟨⟨c + 1, j, by have h3 := HX.out; simp only [Value.int.injEq, true_and]; omega, by rw [HMJ.out], HBN.out, HR.out.drewN nq, HF.out.andDrewN nq⟩, by simp [intOf]; have h3 := HX.out; have h4 := HMI.out; have h5 := HCI.out; have h6 := HCJ.out; have h7 := HMJ.out; omega⟩
     ·have d1 : decide (mi < mj) = false := decide_eq_false hij
      obtain rfl : i = j := by have h3 := HMI.out; have h4 := HMJ.out; have h5 := HIJ.out; omega
      obtain ⟨f1, f2, f3, f4, f5, f6, f7, f8, f9, f10, f11, f12⟩ := HFACT.out
      have hparts := HK.out.parts HSU.out HSV.out (show SymB u.length v.length (M + lu) lo hi by rw [← f11, ← f12]; exact HB.out)
      obtain ⟨q, hq⟩ : ∃ q, q = M + lu - i - u.length := ⟨_, rfl⟩
      rw [← hq] at hparts
      have hil : i ≤ lu ∧ i + q = M ∧ q ≤ lv := by have h3 := HB.out.hi_u; have h4 := HB.out.n_hi; have h5 := HJH.out; have h6 := HB.out.n_lo; have h7 := HLI.out; omega
      have HPARTS := Lib.hid hparts
      have hsz1 : (u.take i).length = i := by rw [List.length_take]; omega
      have hsz2 : (u.drop i).length = lu - i := by rw [List.length_drop]; omega
      have hsz3 : (v.take q).length = q := by rw [List.length_take]; omega
      have hsz4 : (v.drop q).length = lv - q := by rw [List.length_drop]; omega
      have hsu := HSU.out
      have hsv := HSV.out
      have hR := HR.out
      rw [← List.take_append_drop i u] at hsu
      rw [← List.take_append_drop q v] at hsv
      rw [show p ++ (u ++ v) ++ s = p ++ (u.take i ++ u.drop i ++ (v.take q ++ v.drop q)) ++ s by rw [List.take_append_drop, List.take_append_drop]] at hR
      have HGOAL := Lib.hid (show u ++ v = u.take i ++ u.drop i ++ (v.take q ++ v.drop q) by rw [List.take_append_drop, List.take_append_drop])
      obtain ⟨U1, hU1⟩ : ∃ x, x = u.take i := ⟨_, rfl⟩
      obtain ⟨U2, hU2⟩ : ∃ x, x = u.drop i := ⟨_, rfl⟩
      obtain ⟨V1, hV1⟩ : ∃ x, x = v.take q := ⟨_, rfl⟩
      obtain ⟨V2, hV2⟩ : ∃ x, x = v.drop q := ⟨_, rfl⟩
      rw [← hU1, ← hU2, ← hV1, ← hV2] at hR HGOAL HPARTS
      rw [← hU1, ← hU2] at hsu
      rw [← hV1, ← hV2] at hsv
      rw [← hU1] at hsz1
      rw [← hU2] at hsz2
      rw [← hV1] at hsz3
      rw [← hV2] at hsz4
      have HR1 := Lib.hid hR
      have HSU1 := Lib.hid hsu
      have HSV1 := Lib.hid hsv
      have HSZ := Lib.hid (show U1.length = i ∧ U2.length = lu - i ∧ V1.length = q ∧ V2.length = lv - q from ⟨hsz1, hsz2, hsz3, hsz4⟩)
      have HIL := Lib.hid hil
      obtain ⟨en, hen⟩ : ∃ x, x = m + q := ⟨_, rfl⟩
      have HEN := Lib.hid hen
      have heni : (nn : Int) - (mi : Int) = (en : Int) := by have := HMI.out; omega
      have HENI := Lib.hid heni
      have henb : en ≤ 1000000 := by omega
      have HFA := Lib.hid (show N = p.length + (i + q + ((lu - i) + (lv - q))) + s.length ∧ mi = p.length + i ∧ mid = p.length + (i + q) ∧ m = p.length + lu ∧ e = p.length + lu + lv ∧ a = p.length ∧ i + q < lu + lv ∧ 0 < i + q by have := HMI.out; omega)
      clear f1 f2 f3 f4 f5 f6 f7 f8 f9 f10 f11 f12 hparts hq hil hsz1 hsz2 hsz3 hsz4 hsu hsv hR hU1 hU2 hV1 hV2 hen heni HK HR
      go_upto_region 39 with fail
      rw [HENI.out]
      obtain ⟨c1, hc1⟩ : ∃ c1 : Bool, c1 = decide (mi < m ∧ m < en) := ⟨_, rfl⟩
      have HC1 := Lib.hid hc1
      clear hc1
      go_cut [185] (fun s wx => s = .bool c1 ∧ wr = wx)
      case first =>
       as_aux_lemma =>
        by_cases g1 : mi < m
        ·have d2 : decide (mi < m) = true := decide_eq_true g1
         by_cases g2 : m < en
         ·have d3 : decide (m < en) = true := decide_eq_true g2
          have HE := Lib.hid (show c1 = true by rw [HC1.out]; exact decide_eq_true ⟨g1, g2⟩)
          clear g1 g2
          go_wp2_with fail
          go_meet
          exact ⟨by rw [HE.out], rfl⟩
         ·have d3 : decide (m < en) = false := decide_eq_false g2
          have HE := Lib.hid (show c1 = false by rw [HC1.out]; exact decide_eq_false (fun q => g2 q.2))
          clear g1 g2
          go_wp2_with fail
          go_meet
          exact ⟨by rw [HE.out], rfl⟩
        ·have d2 : decide (mi < m) = false := decide_eq_false g1
         have HE := Lib.hid (show c1 = false by rw [HC1.out]; exact decide_eq_false (fun q => g1 q.1))
         clear g1
         go_wp2_with fail
         go_meet
         exact ⟨by rw [HE.out], rfl⟩
      case rest =>
       as_aux_lemma =>
        obtain ⟨rfl, rfl⟩ := hcut
        go_upto_if 185 with fail
        go_cut [24] (fun s24 wx => s24 = .int .i64 (en : Int) ∧ ArrS wx b (p ++ (U1 ++ V1 ++ (U2 ++ V2)) ++ s) ∧ Fr [b] w wx)
        case first =>
         as_aux_lemma =>
          have hA := HR1.out
          cases c1 with
          | true =>
            obtain ⟨g1, g2⟩ := of_decide_eq_true HC1.out.symm
            have hc := prot (p ++ (U1 ++ U2 ++ (V1 ++ V2)) ++ s) (p ++ (U1 ++ V1 ++ (U2 ++ V2)) ++ s) b cap mi m en (.func (.func 72) #[] #[]) wr hA N (by
             obtain ⟨z1, z2, z3, z4⟩ := HSZ.out
             obtain ⟨f1, f2, f3, f4, f5, f6, f7⟩ := HFA.out
             simp only [List.length_append]; omega) h1 h2 g1 g2 (by
             obtain ⟨f1, f2, f3, f4, f5, f6, f7⟩ := HFA.out
             have := HEN.out; have := HIL.out; omega) (by
             obtain ⟨z1, z2, z3, z4⟩ := HSZ.out
             obtain ⟨f1, f2, f3, f4, f5, f6, f7⟩ := HFA.out
             have := HEN.out
             exact ⟨p ++ U1, U2, V1, V2 ++ s, by simp only [List.append_assoc], by simp only [List.append_assoc], by omega, by omega, by rw [List.length_append]; omega⟩)
            have HC2 := Lib.hid hc
            clear hA hc g1 g2
            go_wp2_with (go_at_call 150; refine HC2.out.mono ?_; rintro e w1 ⟨rfl, ha1, hf1⟩)
            go_meet
            exact ⟨rfl, ha1, HF.out.trans hf1 (fun _ h _ => h) (fun _ h _ => h)⟩
          | false =>
            have hng := of_decide_eq_false HC1.out.symm
            have hsame : U1 ++ U2 ++ (V1 ++ V2) = U1 ++ V1 ++ (U2 ++ V2) := by
             obtain ⟨z1, z2, z3, z4⟩ := HSZ.out
             obtain ⟨f1, f2, f3, f4, f5, f6, f7⟩ := HFA.out
             have h5 := HEN.out
             by_cases g1 : mi < m
             ·have : V1 = [] := List.eq_nil_of_length_eq_zero (by omega)
              rw [this]; simp
             ·have : U2 = [] := List.eq_nil_of_length_eq_zero (by omega)
              rw [this]; simp
            rw [hsame] at hA
            have HA2 := Lib.hid hA
            clear hA hng hsame
            go_wp2_with fail
            go_meet
            exact ⟨rfl, HA2.out, HF.out⟩
        case rest =>
         as_aux_lemma =>
          obtain ⟨rfl, hA2, hF2⟩ := hcut
          have HA2 := Lib.hid hA2
          have HF2 := Lib.hid hF2
          clear hA2 hF2 HF HR1
          obtain ⟨w3, hw3⟩ : ∃ x, x = wc := ⟨_, rfl⟩
          rw [← hw3] at HA2 HF2 ⊢
          clear hw3
          go_upto_region 41 with fail
          obtain ⟨c2, hc2⟩ : ∃ c : Bool, c = decide (a < mi ∧ mi < mid) := ⟨_, rfl⟩
          have HC2 := Lib.hid hc2
          clear hc2
          go_cut [199] (fun s wx => s = .bool c2 ∧ w3 = wx)
          case first =>
           as_aux_lemma =>
            by_cases g1 : a < mi
            ·have d2 : decide (a < mi) = true := decide_eq_true g1
             by_cases g2 : mi < mid
             ·have d3 : decide (mi < mid) = true := decide_eq_true g2
              have HE := Lib.hid (show c2 = true by rw [HC2.out]; exact decide_eq_true ⟨g1, g2⟩)
              clear g1 g2
              go_wp2_with fail
              go_meet
              exact ⟨by rw [HE.out], rfl⟩
             ·have d3 : decide (mi < mid) = false := decide_eq_false g2
              have HE := Lib.hid (show c2 = false by rw [HC2.out]; exact decide_eq_false (fun q => g2 q.2))
              clear g1 g2
              go_wp2_with fail
              go_meet
              exact ⟨by rw [HE.out], rfl⟩
            ·have d2 : decide (a < mi) = false := decide_eq_false g1
             have HE := Lib.hid (show c2 = false by rw [HC2.out]; exact decide_eq_false (fun q => g1 q.1))
             clear g1
             go_wp2_with fail
             go_meet
             exact ⟨by rw [HE.out], rfl⟩
          case rest =>
           as_aux_lemma =>
            obtain ⟨rfl, rfl⟩ := hcut
            go_upto_if 199 with fail
            go_cut [24] (fun s24 wx => s24 = .int .i64 (en : Int) ∧ ∃ x, MovW (U1 ++ V1) x ∧ SrtW x ∧ ArrS wx b (p ++ (x ++ (U2 ++ V2)) ++ s) ∧ Fr [b] w wx)
            case first =>
             as_aux_lemma =>
              cases c2 with
              | true =>
                obtain ⟨g1, g2⟩ := of_decide_eq_true HC2.out.symm
                have hc := HIH.out p U1 V1 (U2 ++ V2 ++ s) b cap a mi mid N w3 (by
                 obtain ⟨z1, z2, z3, z4⟩ := HSZ.out
                 obtain ⟨f1, f2, f3, f4, f5, f6, f7, f8⟩ := HFA.out
                 have := HNN.out; omega) (by
                 have := HA2.out
                 rwa [show p ++ (U1 ++ V1 ++ (U2 ++ V2)) ++ s = p ++ (U1 ++ V1) ++ (U2 ++ V2 ++ s) by simp only [List.append_assoc]] at this) (by
                 obtain ⟨z1, z2, z3, z4⟩ := HSZ.out
                 obtain ⟨f1, f2, f3, f4, f5, f6, f7, f8⟩ := HFA.out
                 simp only [List.length_append]; omega) h1 h2 (by
                 obtain ⟨f1, f2, f3, f4, f5, f6, f7, f8⟩ := HFA.out; omega) (by
                 obtain ⟨z1, z2, z3, z4⟩ := HSZ.out
                 obtain ⟨f1, f2, f3, f4, f5, f6, f7, f8⟩ := HFA.out; omega) (by
                 obtain ⟨z1, z2, z3, z4⟩ := HSZ.out
                 obtain ⟨f1, f2, f3, f4, f5, f6, f7, f8⟩ := HFA.out; omega) (by
                 obtain ⟨z1, z2, z3, z4⟩ := HSZ.out
                 obtain ⟨f1, f2, f3, f4, f5, f6, f7, f8⟩ := HFA.out; omega) (by
                 obtain ⟨z1, z2, z3, z4⟩ := HSZ.out
                 obtain ⟨f1, f2, f3, f4, f5, f6, f7, f8⟩ := HFA.out; omega) HSU1.out.left HSV1.out.left
                have HCX := Lib.hid hc
                clear hc g1 g2
                go_wp2_with (go_at_call 136; refine HCX.out.mono ?_; rintro e w1 ⟨x, rfl, hm1, hs1, ha1, hf1⟩)
                go_meet
                exact ⟨rfl, x, hm1, hs1, by rwa [show p ++ x ++ (U2 ++ V2 ++ s) = p ++ (x ++ (U2 ++ V2)) ++ s by simp only [List.append_assoc]] at ha1, HF2.out.trans hf1 (fun _ h _ => h) (fun _ h _ => h)⟩
              | false =>
                have hng := of_decide_eq_false HC2.out.symm
                have HSAME := Lib.hid (show SrtW (U1 ++ V1) from by
                 obtain ⟨z1, z2, z3, z4⟩ := HSZ.out
                 obtain ⟨f1, f2, f3, f4, f5, f6, f7, f8⟩ := HFA.out
                 by_cases g1 : a < mi
                 ·have : V1 = [] := List.eq_nil_of_length_eq_zero (by omega)
                  rw [this, List.append_nil]; exact HSU1.out.left
                 ·have : U1 = [] := List.eq_nil_of_length_eq_zero (by omega)
                  rw [this, List.nil_append]; exact HSV1.out.left)
                clear hng
                go_wp2_with fail
                go_meet
                exact ⟨rfl, U1 ++ V1, MovK.refl _, HSAME.out, HA2.out, HF2.out⟩
            case rest =>
             as_aux_lemma =>
              obtain ⟨rfl, x, hm3, hs3, hA3, hF3⟩ := hcut
              have HM3 := Lib.hid hm3
              have HS3 := Lib.hid hs3
              have HA3 := Lib.hid hA3
              have HF3 := Lib.hid hF3
              clear hm3 hs3 hA3 hF3 HA2 HF2
              obtain ⟨w4, hw4⟩ : ∃ x, x = wc := ⟨_, rfl⟩
              rw [← hw4] at HA3 HF3 ⊢
              clear hw4
              have HLX := Lib.hid (show x.length = i + q by
               obtain ⟨z1, z2, z3, z4⟩ := HSZ.out
               have := HM3.out.len; rw [List.length_append] at this; omega)
              by_cases g : mid < en ∧ en < e
              ·obtain ⟨g1, g2⟩ := g
               have d2 : decide (mid < en) = true := decide_eq_true g1
               have d3 : decide (en < e) = true := decide_eq_true g2
               have hc := HIH.out (p ++ x) U2 V2 s b cap mid en e N w4 (by
                obtain ⟨z1, z2, z3, z4⟩ := HSZ.out
                obtain ⟨f1, f2, f3, f4, f5, f6, f7, f8⟩ := HFA.out
                have h5 := HNN.out; have h6 := HIL.out; omega) (by
                have := HA3.out
                rwa [show p ++ (x ++ (U2 ++ V2)) ++ s = p ++ x ++ (U2 ++ V2) ++ s by simp only [List.append_assoc]] at this) (by
                obtain ⟨z1, z2, z3, z4⟩ := HSZ.out
                obtain ⟨f1, f2, f3, f4, f5, f6, f7, f8⟩ := HFA.out
                have := HLX.out
                simp only [List.length_append]; omega) h1 h2 (by
                obtain ⟨f1, f2, f3, f4, f5, f6, f7, f8⟩ := HFA.out
                have := HLX.out
                rw [List.length_append]; omega) (by
                obtain ⟨z1, z2, z3, z4⟩ := HSZ.out
                have := HEN.out
                obtain ⟨f1, f2, f3, f4, f5, f6, f7, f8⟩ := HFA.out; omega) (by
                obtain ⟨z1, z2, z3, z4⟩ := HSZ.out
                have := HEN.out
                obtain ⟨f1, f2, f3, f4, f5, f6, f7, f8⟩ := HFA.out; omega) (by
                obtain ⟨z1, z2, z3, z4⟩ := HSZ.out
                have := HEN.out
                obtain ⟨f1, f2, f3, f4, f5, f6, f7, f8⟩ := HFA.out; omega) (by
                obtain ⟨z1, z2, z3, z4⟩ := HSZ.out
                have := HEN.out
                obtain ⟨f1, f2, f3, f4, f5, f6, f7, f8⟩ := HFA.out; omega) HSU1.out.right HSV1.out.right
               have HCX := Lib.hid hc
               clear hc g1 g2
               go_wp2_with (go_at_call 136; refine HCX.out.mono ?_; rintro e w1 ⟨y, rfl, hm1, hs1, ha1, hf1⟩)
               go_end0
               rw [HGOAL.out]
               obtain ⟨hmm, hss⟩ := sym_merge HPARTS.out.1 HPARTS.out.2 HSU1.out HSV1.out HM3.out hm1 HS3.out hs1
               exact ⟨x ++ y, rfl, hmm, hss, by rwa [show p ++ x ++ y ++ s = p ++ (x ++ y) ++ s by simp only [List.append_assoc]] at ha1, HF3.out.trans hf1 (fun _ h _ => h) (fun _ h _ => h)⟩
              ·have HSAME := Lib.hid (show SrtW (U2 ++ V2) from by
                obtain ⟨z1, z2, z3, z4⟩ := HSZ.out
                obtain ⟨f1, f2, f3, f4, f5, f6, f7, f8⟩ := HFA.out
                have h5 := HEN.out
                have h6 := HIL.out
                by_cases g1 : mid < en
                ·have : V2 = [] := List.eq_nil_of_length_eq_zero (by omega)
                 rw [this, List.append_nil]; exact HSU1.out.right
                ·have : U2 = [] := List.eq_nil_of_length_eq_zero (by omega)
                 rw [this, List.nil_append]; exact HSV1.out.right)
               have HFIN := Lib.hid (show SortGot w b p (u ++ v) s (.returned (.tuple #[])) w4 from by
                rw [HGOAL.out]
                obtain ⟨hmm, hss⟩ := sym_merge HPARTS.out.1 HPARTS.out.2 HSU1.out HSV1.out HM3.out (MovK.refl _) HS3.out HSAME.out
                exact ⟨x ++ (U2 ++ V2), rfl, hmm, hss, HA3.out, HF3.out⟩)
               by_cases g1 : mid < en
               ·have d2 : decide (mid < en) = true := decide_eq_true g1
                have d3 : decide (en < e) = false := decide_eq_false (fun q => g ⟨g1, q⟩)
                clear g g1
                go_wp2_with fail
                go_end0
                exact HFIN.out
               ·have d2 : decide (mid < en) = false := decide_eq_false g1
                clear g g1
                go_wp2_with fail
                go_end0
                exact HFIN.out
end Go.Proofs.YtnaamjpiaekmeaaGreat
