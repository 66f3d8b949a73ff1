/- Several texts in one: FiA, FiB, FiC, FiD. -/
import Derived.LoopTactic
import Derived.BigQuiet
import Derived.WalkMore
import Derived.Deep.DeepCutAuto
import Derived.Deep.MidRow
import Derived.Test.YtnaamjpiaekmeaaGreatTb
import Derived.Test.YtnaamjpiaekmeaaGreatKyS
import Derived.Test.YtnaamjpiaekmeaaGreatDt
import Derived.Test.YtnaamjpiaekmeaaGreatBs
import Derived.Test.YtnaamjpiaekmeaaGreatMm
set_option linter.unusedVariables false
set_option linter.unusedSimpArgs false
namespace Go.Proofs.YtnaamjpiaekmeaaGreat
open Go.RowKit
theorem any_succ (n : Nat) (g : Nat → Bool) : (List.range (n + 1)).any g = ((List.range n).any g || g n) := by
 rw [List.range_succ, List.any_append]
 simp
def doneM (T : TabT) (W : List UInt8) (s : Int) (now : List Bool) (p q : Nat) : Bool := (List.range p).any fun p' => atB now p' && hitB T W s p' q
theorem doneM_succ (T : TabT) (W : List UInt8) (s : Int) (now : List Bool) (p q : Nat) : doneM T W s now (p + 1) q = (doneM T W s now p q || (atB now p && hitB T W s p q)) := any_succ p _
theorem mv_done (T : TabT) (W : List UInt8) (s : Int) (now : List Bool) : mvB T W s now = boolF (W.length + 1) (doneM T W s now (W.length + 1)) := rfl
theorem hit_yes {T : TabT} {W : List UInt8} {s : Int} {p : Nat} (hs : s < 0) (hp : p < W.length) (h : (((W[p]'hp).toNat : Nat) : Int) = -1 - s) (j : Nat) : hitB T W s p j = decide (j = p + 1) := by
 have e : W.getD p 0 = W[p]'hp := by rw [List.getD_eq_getElem?_getD, List.getElem?_eq_getElem hp]; rfl
 unfold hitB
 rw [if_pos hs, e, decide_eq_true hp, decide_eq_true h]
 simp
theorem hit_no {T : TabT} {W : List UInt8} {s : Int} {p : Nat} (hs : s < 0) (h : ∀ hp : p < W.length, (((W[p]'hp).toNat : Nat) : Int) ≠ -1 - s) (j : Nat) : hitB T W s p j = false := by
 cases hh : hitB T W s p j with
 | false => rfl
 | true =>
   obtain ⟨-, hp, hb⟩ := (hit_term hs).1 hh
   exact absurd hb (h hp)
theorem hit_nt {T : TabT} {W : List UInt8} {s : Int} {p : Nat} (hs : ¬ s < 0) (j : Nat) : hitB T W s p j = (decide (p ≤ j) && T s p j) := by
 unfold hitB
 rw [if_neg hs]
def MvO (w1 : World) (r : Nat) (T : TabT) (W : List UInt8) (s : Int) (now : List Bool) (iv : Value) (wx : World) : Prop :=
 ∃ p : Nat, p ≤ W.length + 1 ∧ iv = .int .i64 (p : Int) ∧ Fr [] w1 wx ∧ rowF wx r (W.length + 1) (doneM T W s now p)
def MvI (w1 : World) (r m p : Nat) (f : Nat → Bool) (T : TabT) (s : Int) (iv : Value) (wx : World) : Prop :=
 ∃ q : Nat, p ≤ q ∧ q ≤ m ∧ iv = .int .i64 (q : Int) ∧ Fr [] w1 wx ∧ rowF wx r m (fun j => f j || (decide (p ≤ j) && decide (j < q) && T s p j))
set_option maxRecDepth 100000 in
set_option maxHeartbeats 4000000 in
theorem rmove_any (g0 g1 g2 ex fr v : Value) (W : List UInt8) (s : Int) (N : Nat) (T : TabT) (F : TabF) (now : List Bool) (w : World) (hs1 : -256 ≤ s) (hs2 : s < (N : Int)) (hN : N ≤ 100000) (hW : W.length ≤ 100000)
  (hv : boolsAt w v now) (hnl : now.length = W.length + 1) (ht : ReadsT w ex fr N (W.length + 1) T F) :
  Calls Tryz.prog 67 #[tabV g0 g1 g2 W ex fr, .int .i64 s, v] w (RBoolsN (mvB T W s now) w) := by
 obtain ⟨iB, hiB, hB0, hB1, hB2⟩ := info_parts infoBool
 obtain ⟨a0, c0, rfl, hc0, hm0⟩ := hv.form
 unfold tabV
 obtain ⟨C, hC⟩ : ∃ C, C = #[g0, g1, g2, encStr W, ex, fr] := ⟨_, rfl⟩
 rw [← hC]
 have HC := Lib.hid hC
 have HT := Lib.hid ht
 have HV := Lib.hid hv
 clear hC ht hv
 go_enter Tryz.func67, Tryz.ntmps67
 go_upto_region 1 with (refine wpL_boxArr rfl _ _ rfl C rfl ?_; intro w1 hh1 hf1 hz1; refine Hid.out ?_)
 refine Lib.hid ?_
 obtain ⟨q0, hq0⟩ : ∃ q, q = w.heap.size := ⟨_, rfl⟩
 have hb1 := hh1.out
 rw [HC.out, ← hq0] at hb1
 rw [← hq0]
 have HQ := Lib.hid hq0
 have HB := Lib.hid hb1
 have HF1 := Lib.hid hf1
 obtain ⟨x0, x1, x2, x3, x4, x5⟩ := six_of_heap hb1
 have HQ1 := Lib.hid (lt_k hb1)
 obtain ⟨n, hn⟩ : ∃ n, n = W.length := ⟨_, rfl⟩
 have HN := Lib.hid hn
 rw [← hn] at hW
 have hwl : W.length = n := hn.symm
 clear hb1 hh1 hf1 hq0 hz1 x0 x1 x2 hn HC
 go_upto_region 3 with (refine wpL_make rfl _ _ 50 rfl 4 iB (.bool false) 1 Tryz.underlying50 hiB hB0 hB1 hB2 rfl (n + 1) rfl rfl (by omega) (by simp only [maxLen]; omega) ?_; intro w2 hh2 hf2 hz2; have HR2 := Lib.hid (rowF.new hh2.out); have HF2 := Lib.hid hf2; clear hh2 hf2 hz2)
 obtain ⟨r, hr⟩ : ∃ r, r = w1.heap.size := ⟨_, rfl⟩
 rw [← hr] at HR2 ⊢
 have hrw : w1.heap.size ≤ r := by omega
 have HRW := Lib.hid hrw
 clear hr hrw
 obtain ⟨m, hm⟩ : ∃ m, m = n + 1 := ⟨_, rfl⟩
 rw [← hm] at HR2 ⊢
 have HM := Lib.hid hm
 have hnm : n < m := by omega
 have hmle : m ≤ 100001 := by omega
 clear hm x3 x4 x5
 go_wp2_with fail
 go_loopw [9] (MvO w1 r T W s now) (fun iv _ => m - (intOf iv).toNat)
 case atStart => exact ⟨0, Nat.zero_le _, rfl, HF2.out, by rw [hwl, ← HM.out]; exact HR2.out⟩
 case round =>
  clear HR2 HF2
  obtain ⟨p, hp, rfl, hfr, hrow⟩ := hrel
  rw [hwl, ← HM.out] at hp hrow
  have HROW := Lib.hid hrow
  have HFR := Lib.hid hfr
  by_cases hpn : p < m
  ·have hd : decide (p ≤ n) = true := decide_eq_true (by have := HM.out; omega)
   have hpl : p < now.length := by rw [hnl, hwl, ← HM.out]; exact hpn
   obtain ⟨b, off, rfl, hc⟩ := bool_cell (HV.out.below (HF1.out.tr0 hfr)) p hpl
   have hat : atB now p = now[p]'hpl := by unfold atB; rw [List.getD_eq_getElem?_getD, List.getElem?_eq_getElem hpl]; rfl
   obtain ⟨nb, hnb⟩ : ∃ nb, nb = now[p]'hpl := ⟨_, rfl⟩
   rw [← hnb] at hc hat
   clear hnb
   cases nb with
   | false =>
     have HNX := Lib.hid (show ∀ j, doneM T W s now p j = doneM T W s now (p + 1) j from fun j => by rw [doneM_succ, hat]; simp)
     clear hat hrow hfr
     go_wp2_with fail
     go_roundw
     case rel => exact ⟨p + 1, by rw [hwl, ← HM.out]; omega, by go_num, HFR.out, by rw [hwl, ← HM.out]; exact HROW.out.congr (fun j _ => HNX.out j)⟩
     case measure => simp [intOf]; omega
   | true =>
     by_cases hs0 : s < 0
     ·have hd2 : decide (s < 0) = true := decide_eq_true hs0
      by_cases hpl2 : p < n
      ·have hd3 : decide (p < n) = true := decide_eq_true hpl2
       have hpw : p < W.length := by rw [hwl]; exact hpl2
       have hix := fun wx => run_index_str (P := Tryz.prog) wx 9 W (p : Int) p (W[p]'hpw) Tryz.underlying9 rfl (List.getElem?_eq_getElem hpw)
       have h8 : (W[p]'hpw).toNat < 256 := (W[p]'hpw).toNat_lt
       have x3 : wr.cell? ⟨q0, 3, none⟩ = some (encStr W) := by rw [cell_of_heap (hfr.heap HB.out (by simp))]; rfl
       by_cases hcs : (((W[p]'hpw).toNat : Nat) : Int) = -1 - s
       ·have hd4 : ((((W[p]'hpw).toNat : Nat) : Int) == -1 - s) = true := by rw [hcs]; simp
        have HNX := Lib.hid (show ∀ j, (doneM T W s now p j || decide (j = p + 1)) = doneM T W s now (p + 1) j from fun j => by rw [doneM_succ, hat, hit_yes hs0 hpw hcs]; simp)
        have k1 := hrow.cell (i := p + 1) (by omega)
        have k2 := hrow.free (p + 1)
        have hp1 : p + 1 < m := by omega
        clear hat hrow hfr hcs
        go_wp2_with fail
        have HR9 := Lib.hid ((HROW.out.set hp1).congr (fun j _ => HNX.out j))
        have HF9 := Lib.hid (Fr.newer (i := p + 1) (v := .bool true) HFR.out HRW.out)
        go_roundw
        case rel => exact ⟨p + 1, by rw [hwl, ← HM.out]; omega, by go_num, HF9.out, by rw [hwl, ← HM.out]; exact HR9.out⟩
        case measure => simp [intOf]; omega
       ·have hd4 : ((((W[p]'hpw).toNat : Nat) : Int) == -1 - s) = false := by rw [beq_eq_false_iff_ne]; exact hcs
        have HNX := Lib.hid (show ∀ j, doneM T W s now p j = doneM T W s now (p + 1) j from fun j => by rw [doneM_succ, hat, hit_no hs0 (fun _ => hcs)]; simp)
        clear hat hrow hfr hcs
        go_wp2_with fail
        go_roundw
        case rel => exact ⟨p + 1, by rw [hwl, ← HM.out]; omega, by go_num, HFR.out, by rw [hwl, ← HM.out]; exact HROW.out.congr (fun j _ => HNX.out j)⟩
        case measure => simp [intOf]; omega
      ·have hd3 : decide (p < n) = false := decide_eq_false hpl2
       have HNX := Lib.hid (show ∀ j, doneM T W s now p j = doneM T W s now (p + 1) j from fun j => by rw [doneM_succ, hat, hit_no hs0 (fun hp => by omega)]; simp)
       clear hat hrow hfr
       go_wp2_with fail
       go_roundw
       case rel => exact ⟨p + 1, by rw [hwl, ← HM.out]; omega, by go_num, HFR.out, by rw [hwl, ← HM.out]; exact HROW.out.congr (fun j _ => HNX.out j)⟩
       case measure => simp [intOf]; omega
     ·have hd2 : decide (s < 0) = false := decide_eq_false hs0
      obtain ⟨a, rfl⟩ := Int.eq_ofNat_of_zero_le (show 0 ≤ s by omega)
      have HNX := Lib.hid (show ∀ j, j < m → (doneM T W (a : Int) now p j || (decide (p ≤ j) && decide (j < m) && T (a : Int) p j)) = doneM T W (a : Int) now (p + 1) j from fun j hj => by rw [doneM_succ, hat, hit_nt hs0, decide_eq_true hj]; simp)
      have HST := Lib.hid (show rowF wr r m (fun j => doneM T W (a : Int) now p j || (decide (p ≤ j) && decide (j < p) && T (a : Int) p j)) from hrow.congr (fun j _ => by
       have : (decide (p ≤ j) && decide (j < p)) = false := by rw [Bool.and_eq_false_iff, decide_eq_false_iff_not, decide_eq_false_iff_not]; omega
       rw [this]; simp))
      obtain ⟨f, hf⟩ : ∃ f, f = doneM T W (a : Int) now p := ⟨_, rfl⟩
      rw [← hf] at HNX HST
      have haN : a < N := by omega
      clear hat hrow hfr hs0 hf HROW
      go_wp2_with fail
      go_loopw [10] (MvI w1 r m p f T (a : Int)) (fun iv _ => m - (intOf iv).toNat)
      case atStart => exact ⟨p, Nat.le_refl _, by omega, rfl, HFR.out, HST.out⟩
      case round =>
       clear HST HFR
       obtain ⟨q, hpq, hq, rfl, hfr, hrow⟩ := hrel
       have HROW := Lib.hid hrow
       have HFR := Lib.hid hfr
       by_cases hqn : q < m
       ·have hd5 : decide (q ≤ n) = true := decide_eq_true (by have := HM.out; omega)
        have x4 : wr.cell? ⟨q0, 4, none⟩ = some ex := by rw [cell_of_heap (hfr.heap HB.out (by simp))]; rfl
        have ht := HT.out.below (HF1.out.tr0 hfr)
        rw [hwl, ← HM.out] at ht
        obtain ⟨b0, o0, k0, b1, o1, k1, b2, o2, k2, rfl, hk0, hk0', e0, hk1, hk1', e1, hk2, hk2', e2⟩ := ht.way haN hpn hqn
        simp only [maxLen] at hk0' hk1' hk2'
        obtain ⟨tb, htb⟩ : ∃ tb, tb = T (a : Int) p q := ⟨_, rfl⟩
        rw [← htb] at e2
        cases tb with
        | false =>
          have HNY := Lib.hid (show ∀ j, j < m → (f j || (decide (p ≤ j) && decide (j < q) && T (a : Int) p j)) = (f j || (decide (p ≤ j) && decide (j < q + 1) && T (a : Int) p j)) from fun j _ => by
           by_cases e : j = q
           ·subst e; rw [← htb]; simp
           ·rw [show decide (j < q + 1) = decide (j < q) from by congr 1; exact propext (by omega)])
          clear hrow hfr ht htb
          go_wp2_with fail
          go_roundw
          case rel => exact ⟨q + 1, by omega, by omega, by go_num, HFR.out, HROW.out.congr (fun j hj => HNY.out j hj)⟩
          case measure => simp [intOf]; omega
        | true =>
          have HNY := Lib.hid (show ∀ j, j < m → ((f j || (decide (p ≤ j) && decide (j < q) && T (a : Int) p j)) || decide (j = q)) = (f j || (decide (p ≤ j) && decide (j < q + 1) && T (a : Int) p j)) from fun j _ => by
           by_cases e : j = q
           ·subst e; rw [← htb, decide_eq_true hpq]; simp
           ·rw [show decide (j < q + 1) = decide (j < q) from by congr 1; exact propext (by omega), decide_eq_false e]; simp)
          have y1 := hrow.cell hqn
          have y2 := hrow.free q
          clear hrow hfr ht htb
          go_wp2_with fail
          have HR9 := Lib.hid ((HROW.out.set hqn).congr (fun j hj => HNY.out j hj))
          have HF9 := Lib.hid (Fr.newer (i := q) (v := .bool true) HFR.out HRW.out)
          go_roundw
          case rel => exact ⟨q + 1, by omega, by omega, by go_num, HF9.out, HR9.out⟩
          case measure => simp [intOf]; omega
       ·have hd5 : decide (q ≤ n) = false := decide_eq_false (by have := HM.out; omega)
        have hqm : q = m := by omega
        have HR9 := Lib.hid (show rowF wr r m (doneM T W (a : Int) now (p + 1)) from by rw [hqm] at hrow; exact hrow.congr (fun j hj => HNX.out j hj))
        clear hrow hfr hqm
        go_wp2_with fail
        go_roundw
        case rel => exact ⟨p + 1, by rw [hwl, ← HM.out]; omega, by go_num, HFR.out, by rw [hwl, ← HM.out]; exact HR9.out⟩
        case measure => simp [intOf]; omega
  ·have hd : decide (p ≤ n) = false := decide_eq_false (by have := HM.out; omega)
   have hpm : p = m := by omega
   have HRES := Lib.hid (show boolsAt wr (.slice (some ⟨r, 0, none⟩) m m) (mvB T W s now) from by
    rw [mv_done, hwl, ← HM.out]
    rw [hpm] at hrow
    exact hrow.bools (by simp only [maxLen]; omega))
   clear hrow hfr hpm
   go_wp2_with fail
   go_ret
   exact ⟨_, rfl, HRES.out, HF1.out.tr0 HFR.out, fun k hk => by
    have e : r = k := by simpa [Value.ownBlock] using hk
    have h1 := HRW.out
    have h2 := HF1.out.size
    omega⟩
end Go.Proofs.YtnaamjpiaekmeaaGreat
namespace Go.Proofs.YtnaamjpiaekmeaaGreat
open Go.RowKit
theorem sizeTab : (Tryz.prog.info? 36).map (·.size) = some 6 := by kernel_rfl
structure TabK (w : World) (C : Array Value) (W : List UInt8) (N : Nat) (T : TabT) (F : TabF) : Prop where
 form : ∃ g0 g1 g2 ex fr, C = #[g0, g1, g2, encStr W, ex, fr] ∧ ReadsT w ex fr N (W.length + 1) T F
theorem TabK.below {w w' : World} {C : Array Value} {W : List UInt8} {N : Nat} {T : TabT} {F : TabF} (h : TabK w C W N T F) (hf : Fr [] w w') : TabK w' C W N T F := by
 obtain ⟨g0, g1, g2, ex, fr, rfl, hr⟩ := h.form
 exact ⟨g0, g1, g2, ex, fr, rfl, hr.below hf⟩
theorem TabK.size {w : World} {C : Array Value} {W : List UInt8} {N : Nat} {T : TabT} {F : TabF} (h : TabK w C W N T F) : (Tryz.prog.info? 36).map (·.size) = some C.size := by
 obtain ⟨g0, g1, g2, ex, fr, rfl, hr⟩ := h.form
 exact sizeTab
theorem TabK.word {w : World} {C : Array Value} {W : List UInt8} {N : Nat} {T : TabT} {F : TabF} (h : TabK w C W N T F) : C[3]? = some (encStr W) := by
 obtain ⟨g0, g1, g2, ex, fr, rfl, hr⟩ := h.form
 rfl
theorem mv_len (T : TabT) (W : List UInt8) (s : Int) (now : List Bool) : (mvB T W s now).length = W.length + 1 := by simp [mvB]
theorem rmove_k (C : Array Value) (v : Value) (W : List UInt8) (s : Int) (N : Nat) (T : TabT) (F : TabF) (now : List Bool) (w : World) (hs1 : -256 ≤ s) (hs2 : s < (N : Int)) (hN : N ≤ 100000) (hW : W.length ≤ 100000)
  (hv : boolsAt w v now) (hnl : now.length = W.length + 1) (ht : TabK w C W N T F) : Calls Tryz.prog 67 #[.agg C, .int .i64 s, v] w (RBoolsN (mvB T W s now) w) := by
 obtain ⟨g0, g1, g2, ex, fr, rfl, hr⟩ := ht.form
 exact rmove_any g0 g1 g2 ex fr v W s N T F now w hs1 hs2 hN hW hv hnl hr
def SymsK (N : Nat) (ss : List Int) : Prop := ∀ s ∈ ss, -256 ≤ s ∧ s < (N : Int)
theorem ends_drop {T : TabT} {W : List UInt8} {ss : List Int} {i : Nat} (h : i < ss.length) (now : List Bool) : endsB T W (ss.drop i) now = endsB T W (ss.drop (i + 1)) (mvB T W (ss[i]'h) now) := by
 rw [List.drop_eq_getElem_cons h]
 rfl
def EnR (B : Nat) (w : World) (T : TabT) (W : List UInt8) (ss : List Int) (R : List Bool) (v iv : Value) (wx : World) : Prop :=
 ∃ i : Nat, i ≤ ss.length ∧ iv = .int .i64 (i : Int) ∧ Fr [] w wx ∧ ∃ now, now.length = W.length + 1 ∧ boolsAt wx v now ∧ endsB T W (ss.drop i) now = R ∧ ∀ k, v.ownBlock = some k → B ≤ k
set_option maxRecDepth 100000 in
set_option maxHeartbeats 4000000 in
theorem rends_any (C : Array Value) (W : List UInt8) (N : Nat) (T : TabT) (F : TabF) (ss : List Int) (sv : Value) (p : Nat) (w : World) (hss : SymsK N ss) (hN : N ≤ 100000) (hW : W.length ≤ 99999) (hp : p ≤ W.length)
  (hs : intsAt w sv ss) (ht : TabK w C W N T F) :
  Calls Tryz.prog 34 #[.agg C, sv, .int .i64 (p : Int)] w (RBoolsN (endsB T W ss (unitB W p)) w) := by
 obtain ⟨iB, hiB, hB0, hB1, hB2⟩ := info_parts infoBool
 obtain ⟨a0, c0, rfl, hc0, hm0⟩ := hs.form
 have HSZ := Lib.hid ht.size
 have HT := Lib.hid ht
 have HS := Lib.hid hs
 have hcw := ht.word
 obtain ⟨R, hR⟩ : ∃ R, R = endsB T W ss (unitB W p) := ⟨_, rfl⟩
 rw [← hR]
 have HR := Lib.hid hR
 obtain ⟨n, hn⟩ : ∃ n, n = W.length := ⟨_, rfl⟩
 have HN := Lib.hid hn
 rw [← hn] at hW hp
 have hwl : W.length = n := hn.symm
 clear ht hs hR hn
 go_enter Tryz.func34, Tryz.ntmps34
 go_upto_region 1 with (refine wpL_boxArr rfl _ _ rfl C rfl ?_; intro w1 hh1 hf1 hz1; refine Hid.out ?_)
 refine Lib.hid ?_
 obtain ⟨q0, hq0⟩ : ∃ q, q = w.heap.size := ⟨_, rfl⟩
 have hb1 := hh1.out
 rw [← hq0] at hb1
 rw [← hq0]
 have HB := Lib.hid hb1
 have HF1 := Lib.hid hf1
 have x3 : w1.cell? ⟨q0, 3, none⟩ = some (encStr W) := (cell_of_heap hb1 3).trans hcw
 clear hb1 hh1 hf1 hq0 hz1
 go_upto_region 2 with (refine wpL_make rfl _ _ 50 rfl 4 iB (.bool false) 1 Tryz.underlying50 hiB hB0 hB1 hB2 rfl (n + 1) rfl rfl (by omega) (by simp only [maxLen]; omega) ?_; intro w2 hh2 hf2 hz2; have HR2 := Lib.hid (rowF.new hh2.out); have HF2 := Lib.hid hf2; clear hh2 hf2 hz2)
 obtain ⟨r, hr⟩ : ∃ r, r = w1.heap.size := ⟨_, rfl⟩
 rw [← hr] at HR2 ⊢
 have HRW := Lib.hid (show w1.heap.size ≤ r by omega)
 clear hr x3 hcw
 obtain ⟨m, hm⟩ : ∃ m, m = n + 1 := ⟨_, rfl⟩
 rw [← hm] at HR2 ⊢
 have HM := Lib.hid hm
 have hpm : p < m := by omega
 have hmle : m ≤ 100001 := by omega
 clear hm
 have y1 := HR2.out.cell hpm
 have y2 := HR2.out.free p
 go_upto_region 3 with fail
 have HR3 := Lib.hid (HR2.out.set hpm)
 have HF3 := Lib.hid (Fr.newer (i := p) (v := .bool true) HF2.out HRW.out)
 generalize w2.setCell ⟨r, p, none⟩ (.bool true) = w3 at HR3 HF3 ⊢
 have HST := Lib.hid (show boolsAt w3 (.slice (some ⟨r, 0, none⟩) m m) (unitB W p) from by
  have h := (HR3.out.congr (g := fun j => decide (j = p)) (fun j _ => by simp)).bools (by simp only [maxLen]; omega)
  unfold unitB
  rw [hwl, ← HM.out]
  exact h)
 have HUL := Lib.hid (show (unitB W p).length = W.length + 1 by simp [unitB])
 clear y1 y2 HR2 HF2 HR3
 go_wp2_with fail
 go_loopw [7, 8] (EnR w.heap.size w1 T W ss R) (fun _ iv _ => ss.length - (intOf iv).toNat)
 case atStart => exact ⟨0, Nat.zero_le _, rfl, HF3.out, unitB W p, HUL.out, HST.out, by rw [List.drop_zero]; exact HR.out.symm, fun k hk => by
  have e : r = k := by simpa [Value.ownBlock] using hk
  have h1 := HRW.out
  have h2 := HF1.out.size
  omega⟩
 case round =>
  clear HST HUL
  obtain ⟨i, hi, rfl, hfr, now, hnl, hst, hen, hnew⟩ := hrel
  obtain ⟨a7, c7, rfl, hc7, hm7⟩ := hst.form
  by_cases hin : i < ss.length
  ·have hd : decide (i < ss.length) = true := decide_eq_true hin
   obtain ⟨b, off, rfl, hc⟩ := int_cell (HS.out.below (HF1.out.tr0 hfr)) i hin
   obtain ⟨h1, h2⟩ := hss _ (List.getElem_mem hin)
   have hdr := ends_drop (T := T) (W := W) hin now
   obtain ⟨s, hse⟩ : ∃ s, s = ss[i]'hin := ⟨_, rfl⟩
   rw [← hse] at hc h1 h2 hdr
   have HDR := Lib.hid (show endsB T W (ss.drop (i + 1)) (mvB T W s now) = R by rw [← hdr]; exact hen)
   rw [hnl, hwl, ← HM.out] at hc7 hst ⊢
   have HMV := Lib.hid (fun wx (hf : Fr [] wr wx) => rmove_k C (.slice a7 m c7) W s N T F now wx h1 h2 hN (by rw [hwl]; omega) (hst.below hf) hnl (HT.out.below ((HF1.out.tr0 hfr).tr0 hf)))
   have HFR := Lib.hid hfr
   have HBW := Lib.hid (show wr.heap[q0]? = some (.cells C 36 (0, 0)) from hfr.heap HB.out (by simp))
   clear hfr hst hen hdr hse h1 h2
   go_upto_region 6 with fail
   refine wp_region_G [] [(0, false), (1, false), (2, false), (3, false), (4, false), (5, false), (6, true), (7, false)] 31 rfl (by kernel_rfl) (by kernel_rfl) (by kernel_rfl) (fun c a d v w h => by cases d <;> exact h) (fun wd hfd => ?_)
   simp only [List.map_cons, List.map_nil, List.getElem?_toArray, List.getElem?_cons_succ, List.getElem?_cons_zero, Option.getD_some]
   have L1 : Hid (Later [] wd (fun w' => w'.cell? ⟨b, off + i, none⟩ = some (.int .i64 s))) := Lib.hid (fun w' hf' => hf'.cell (hfd.cell hc (by simp)) (by simp))
   have L2 : Hid (Later [] wd (fun w' => w'.heap[q0]? = some (.cells C 36 (0, 0)))) := Lib.hid (fun w' hf' => hf'.heap (hfd.heap HBW.out (by simp)) (by simp))
   have HFD := Lib.hid hfd
   clear hc hfd
   repeat (apply wpG_t; · (intro w' hf'; have c1 := L1.out w' hf'; have c2 := L2.out w' hf'; go_wp2_with (refine wpList_load_row rfl _ _ rfl q0 rfl _ C _ _ c2 Tryz.underlying36 rfl HSZ.out ?_); exact ⟨rfl, rfl⟩))
   refine wpG_x ?_
   go_wp2_with (go_at_call 67; refine (HMV.out _ HFD.out).mono ?_; rintro e w5 ⟨v5, rfl, hs5, hf5, hn5⟩)
   refine ⟨hf5, rfl, ?_⟩
   have HN5 := Lib.hid (show ∀ k, v5.ownBlock = some k → w.heap.size ≤ k from fun k hk => by
    have h1 := hn5 k hk
    have h2 := HF1.out.size
    have h3 := HFR.out.size
    have h4 := HFD.out.size
    omega)
   clear hn5
   have HS5 := Lib.hid hs5
   have HF5 := Lib.hid ((HFR.out.tr0 HFD.out).tr0 hf5)
   clear hs5 hf5
   apply wpG_t
   ·(intro w' hf'; go_wp2_with fail; exact ⟨rfl, rfl⟩)
   refine wpG_end ?_
   go_wp2_with fail
   go_roundw
   case rel => exact ⟨i + 1, by omega, by go_num, HF5.out, _, mv_len _ _ _ _, HS5.out, HDR.out, HN5.out⟩
   case measure => simp [intOf]; omega
  ·have hd : decide (i < ss.length) = false := decide_eq_false hin
   have hen' : now = R := by
    rw [List.drop_eq_nil_of_le (by omega)] at hen
    exact hen
   have HRES := Lib.hid (show RBoolsN R w (.returned (.slice a7 now.length c7)) wr from ⟨_, rfl, by rw [← hen']; exact hst, HF1.out.tr0 hfr, hnew⟩)
   clear hen hen' hst hfr hnl
   go_wp2_with fail
   go_ret
   exact HRES.out
end Go.Proofs.YtnaamjpiaekmeaaGreat
namespace Go.Proofs.YtnaamjpiaekmeaaGreat
open Go.RowKit
def anyF (F : TabF) (W : List UInt8) (s : Int) (now : List Bool) : Bool := decide (0 ≤ s) && (List.range (W.length + 1)).any fun p => atB now p && F s p
theorem begs_drop {T : TabT} {F : TabF} {W : List UInt8} {ss : List Int} {i : Nat} (h : i < ss.length) (now : List Bool) : begB T F W (ss.drop i) now = (atB now W.length || (anyF F W (ss[i]'h) now || begB T F W (ss.drop (i + 1)) (mvB T W (ss[i]'h) now))) := by
 rw [List.drop_eq_getElem_cons h]
 rfl
def BgR (w : World) (T : TabT) (F : TabF) (W : List UInt8) (ss : List Int) (R : Bool) (v iv : Value) (wx : World) : Prop :=
 ∃ i : Nat, i ≤ ss.length ∧ iv = .int .i64 (i : Int) ∧ Fr [] w wx ∧ ∃ now, now.length = W.length + 1 ∧ boolsAt wx v now ∧ begB T F W (ss.drop i) now = R
def BgI (w : World) (F : TabF) (s : Int) (m : Nat) (now : List Bool) (iv : Value) (wx : World) : Prop :=
 ∃ p : Nat, p ≤ m ∧ iv = .int .i64 (p : Int) ∧ Fr [] w wx ∧ ∀ p', p' < p → (atB now p' && F s p') = false
set_option maxRecDepth 100000 in
set_option maxHeartbeats 8000000 in
theorem rbegs_any (C : Array Value) (W : List UInt8) (N : Nat) (T : TabT) (F : TabF) (ss : List Int) (sv : Value) (p : Nat) (w : World) (hss : SymsK N ss) (hN : N ≤ 100000) (hW : W.length ≤ 99999) (hp : p ≤ W.length)
  (hs : intsAt w sv ss) (ht : TabK w C W N T F) :
  Calls Tryz.prog 35 #[.agg C, sv, .int .i64 (p : Int)] w fun e w' => e = .returned (.bool (begB T F W ss (unitB W p))) ∧ Fr [] w w' := by
 obtain ⟨iB, hiB, hB0, hB1, hB2⟩ := info_parts infoBool
 obtain ⟨a0, c0, rfl, hc0, hm0⟩ := hs.form
 have HSZ := Lib.hid ht.size
 have HT := Lib.hid ht
 have HS := Lib.hid hs
 have hcw := ht.word
 obtain ⟨R, hR⟩ : ∃ R, R = begB T F W ss (unitB W p) := ⟨_, rfl⟩
 rw [← hR]
 have HR := Lib.hid hR
 obtain ⟨n, hn⟩ : ∃ n, n = W.length := ⟨_, rfl⟩
 have HN := Lib.hid hn
 rw [← hn] at hW hp
 have hwl : W.length = n := hn.symm
 clear ht hs hR hn
 go_enter Tryz.func35, Tryz.ntmps35
 go_upto_region 1 with (refine wpL_boxArr rfl _ _ rfl C rfl ?_; intro w1 hh1 hf1 hz1; refine Hid.out ?_)
 refine Lib.hid ?_
 obtain ⟨q0, hq0⟩ : ∃ q, q = w.heap.size := ⟨_, rfl⟩
 have hb1 := hh1.out
 rw [← hq0] at hb1
 rw [← hq0]
 have HB := Lib.hid hb1
 have HF1 := Lib.hid hf1
 have x3 : w1.cell? ⟨q0, 3, none⟩ = some (encStr W) := (cell_of_heap hb1 3).trans hcw
 clear hb1 hh1 hf1 hq0 hz1
 go_upto_region 3 with (refine wpL_make rfl _ _ 50 rfl 4 iB (.bool false) 1 Tryz.underlying50 hiB hB0 hB1 hB2 rfl (n + 1) rfl rfl (by omega) (by simp only [maxLen]; omega) ?_; intro w2 hh2 hf2 hz2; have HR2 := Lib.hid (rowF.new hh2.out); have HF2 := Lib.hid hf2; clear hh2 hf2 hz2)
 obtain ⟨r, hr⟩ : ∃ r, r = w1.heap.size := ⟨_, rfl⟩
 rw [← hr] at HR2 ⊢
 have HRW := Lib.hid (show w1.heap.size ≤ r by omega)
 clear hr x3 hcw
 obtain ⟨m, hm⟩ : ∃ m, m = n + 1 := ⟨_, rfl⟩
 rw [← hm] at HR2 ⊢
 have HM := Lib.hid hm
 have hpm : p < m := by omega
 have hnm : n < m := by omega
 have hmle : m ≤ 100001 := by omega
 clear hm
 have y1 := HR2.out.cell hpm
 have y2 := HR2.out.free p
 go_upto_region 4 with fail
 have HR3 := Lib.hid (HR2.out.set hpm)
 have HF3 := Lib.hid (Fr.newer (i := p) (v := .bool true) HF2.out HRW.out)
 generalize w2.setCell ⟨r, p, none⟩ (.bool true) = w3 at HR3 HF3 ⊢
 have HST := Lib.hid (show boolsAt w3 (.slice (some ⟨r, 0, none⟩) m m) (unitB W p) from by
  have h := (HR3.out.congr (g := fun j => decide (j = p)) (fun j _ => by simp)).bools (by simp only [maxLen]; omega)
  unfold unitB
  rw [hwl, ← HM.out]
  exact h)
 have HUL := Lib.hid (show (unitB W p).length = W.length + 1 by simp [unitB])
 clear y1 y2 HR2 HF2 HR3
 go_wp2_with fail
 go_loopw [8, 9] (BgR w1 T F W ss R) (fun _ iv _ => ss.length - (intOf iv).toNat)
 case atStart => exact ⟨0, Nat.zero_le _, rfl, HF3.out, unitB W p, HUL.out, HST.out, by rw [List.drop_zero]; exact HR.out.symm⟩
 case round =>
  clear HST HUL
  obtain ⟨i, hi, rfl, hfr, now, hnl, hst, hen⟩ := hrel
  obtain ⟨a7, c7, rfl, hc7, hm7⟩ := hst.form
  rw [hnl, hwl, ← HM.out] at hc7 hst ⊢
  have hln : n < now.length := by rw [hnl, hwl]; omega
  obtain ⟨b7, o7, rfl, hcn⟩ := bool_cell hst n hln
  have hatn : atB now n = now[n]'hln := by unfold atB; rw [List.getD_eq_getElem?_getD, List.getElem?_eq_getElem hln]; rfl
  obtain ⟨nb, hnb⟩ : ∃ nb, nb = now[n]'hln := ⟨_, rfl⟩
  rw [← hnb] at hcn hatn
  clear hnb
  have HFR := Lib.hid hfr
  by_cases hin : i < ss.length
  ·have hd : decide (i < ss.length) = true := decide_eq_true hin
   obtain ⟨b, off, rfl, hc⟩ := int_cell (HS.out.below (HF1.out.tr0 hfr)) i hin
   obtain ⟨h1, h2⟩ := hss _ (List.getElem_mem hin)
   have hdr := begs_drop (T := T) (F := F) (W := W) hin now
   obtain ⟨s, hse⟩ : ∃ s, s = ss[i]'hin := ⟨_, rfl⟩
   rw [← hse] at hc h1 h2 hdr
   rw [hen, hwl, hatn] at hdr
   cases nb with
   | true =>
     have hRt : R = true := by rw [hdr]; rfl
     subst hRt
     clear hdr hfr hst hen hse hatn hc
     go_wp2_with fail
     go_ret
     exact ⟨rfl, HF1.out.tr0 HFR.out⟩
   | false =>
     rw [Bool.false_or] at hdr
     have HDR := Lib.hid (show anyF F W s now = false → begB T F W (ss.drop (i + 1)) (mvB T W s now) = R from fun e => by rw [hdr, e]; simp)
     have HYES := Lib.hid (show anyF F W s now = true → R = true from fun e => by rw [hdr, e]; rfl)
     have HMV := Lib.hid (fun wx (hf : Fr [] wr wx) => rmove_k C (.slice (some ⟨b7, o7, none⟩) m c7) W s N T F now wx h1 h2 hN (by rw [hwl]; omega) (hst.below hf) hnl (HT.out.below ((HF1.out.tr0 hfr).tr0 hf)))
     have HBW := Lib.hid (show wr.heap[q0]? = some (.cells C 36 (0, 0)) from hfr.heap HB.out (by simp))
     have HCI := Lib.hid hc
     have HST := Lib.hid hst
     obtain ⟨w4, hw4⟩ : ∃ w4, w4 = wr := ⟨_, rfl⟩
     rw [← hw4] at HMV HBW HCI HST HFR hcn ⊢
     clear hdr hfr hst hen hse hatn hc hw4
     go_wp2_with fail
     go_loopw [10] (BgI w4 F s m now) (fun iv _ => m - (intOf iv).toNat)
     case atStart => exact ⟨0, Nat.zero_le _, rfl, Fr.refl _ _, fun p' hp' => by omega⟩
     case round =>
      obtain ⟨q, hq, rfl, hfr2, hall⟩ := hrel
      by_cases hqm : q < m
      ·have hd2 : decide (q ≤ n) = true := decide_eq_true (by have := HM.out; omega)
       by_cases hs0 : 0 ≤ s
       ·have hd3 : decide (0 ≤ s) = true := decide_eq_true hs0
        have HALL := Lib.hid hall
        have HFR2 := Lib.hid hfr2
        obtain ⟨a, rfl⟩ := Int.eq_ofNat_of_zero_le hs0
        have haN : a < N := by omega
        have hql : q < now.length := by rw [hnl, hwl, ← HM.out]; exact hqm
        obtain ⟨b8, o8, e8, hcq⟩ := bool_cell (HST.out.below hfr2) q hql
        cases e8
        have hatq : atB now q = now[q]'hql := by unfold atB; rw [List.getD_eq_getElem?_getD, List.getElem?_eq_getElem hql]; rfl
        obtain ⟨mb, hmb⟩ : ∃ mb, mb = now[q]'hql := ⟨_, rfl⟩
        rw [← hmb] at hcq hatq
        have htk := HT.out.below ((HF1.out.tr0 HFR.out).tr0 hfr2)
        obtain ⟨g0, g1, g2, ex, fr, hCe, hrd⟩ := htk.form
        rw [hwl, ← HM.out] at hrd
        obtain ⟨b0, o0, k0, b1, o1, k1, hfe, hk0, hk0', e0, hk1, hk1', e1⟩ := hrd.wayF haN hqm
        simp only [maxLen] at hk0' hk1'
        have h5 : wr.cell? ⟨q0, 5, none⟩ = some (.slice (some ⟨b0, o0, none⟩) N k0) := by
         rw [cell_of_heap (hfr2.heap HBW.out (by simp)), hCe, ← hfe]; rfl
        obtain ⟨fb, hfb⟩ : ∃ fb, fb = F (a : Int) q := ⟨_, rfl⟩
        rw [← hfb] at e1
        have KC := Lib.hid hcq
        have KI := Lib.hid (hfr2.cell HCI.out (by simp))
        have K5 := Lib.hid h5
        have KA := Lib.hid e0
        have KB := Lib.hid e1
        have hd3' := hfr2.cell HCI.out (by simp)
        have HNO := Lib.hid (show (mb && fb) = false → ∀ p', p' < q + 1 → (atB now p' && F (a : Int) p') = false from fun e p' hp' => by
         by_cases hpe : p' = q
         ·subst hpe; rw [hatq, ← hfb]; exact e
         ·exact HALL.out p' (by omega))
        have HYE := Lib.hid (show (mb && fb) = true → R = true from fun e => HYES.out (by
         unfold anyF
         rw [decide_eq_true hs0, Bool.true_and, List.any_eq_true]
         exact ⟨q, List.mem_range.2 (by rw [hwl, ← HM.out]; exact hqm), by rw [hatq, ← hfb]; exact e⟩))
        clear hcq hatq hmb htk hrd hCe hfe e0 e1 h5 hfb hall hfr2 hs0
        cases mb with
        | false =>
          go_upto_region 12 with fail
          refine wp_region_G [] [(0, false), (1, false), (2, false), (3, false), (4, false), (5, false), (6, false), (7, false), (8, false), (9, false), (10, false), (11, false), (12, false), (13, false), (14, false), (15, false), (16, false)] 70 rfl (by kernel_rfl) (by kernel_rfl) (by kernel_rfl) (fun c a d v w h => by cases d <;> exact h) (fun wd hfd => ?_)
          simp only [List.map_cons, List.map_nil, List.getElem?_toArray, List.getElem?_cons_succ, List.getElem?_cons_zero, Option.getD_some]
          have HFD := Lib.hid (HFR2.out.tr0 hfd)
          have HW2 := Lib.hid hfd
          clear hfd
          repeat (apply wpG_t; · (intro w' hf'; have hk := HW2.out.tr0 hf'; have c1 := hk.cell KC.out (by simp); have c2 := hk.cell KI.out (by simp); have c3 := hk.cell K5.out (by simp); have c4 := hk.cell KA.out (by simp); have c5 := hk.cell KB.out (by simp); clear hk; go_wp2_with fail; exact ⟨rfl, rfl⟩))
          refine wpG_end ?_
          go_wp2_with fail
          go_roundw
          case rel => exact ⟨q + 1, by omega, by go_num, HFD.out, HNO.out rfl⟩
          case measure => simp [intOf]; omega
        | true =>
          cases fb with
          | false =>
            go_upto_region 12 with fail
            refine wp_region_G [] [(0, false), (1, false), (2, false), (3, false), (4, false), (5, false), (6, false), (7, false), (8, false), (9, false), (10, false), (11, false), (12, false), (13, false), (14, false), (15, false), (16, false)] 70 rfl (by kernel_rfl) (by kernel_rfl) (by kernel_rfl) (fun c a d v w h => by cases d <;> exact h) (fun wd hfd => ?_)
            simp only [List.map_cons, List.map_nil, List.getElem?_toArray, List.getElem?_cons_succ, List.getElem?_cons_zero, Option.getD_some]
            have HFD := Lib.hid (HFR2.out.tr0 hfd)
            have HW2 := Lib.hid hfd
            clear hfd
            repeat (apply wpG_t; · (intro w' hf'; have hk := HW2.out.tr0 hf'; have c1 := hk.cell KC.out (by simp); have c2 := hk.cell KI.out (by simp); have c3 := hk.cell K5.out (by simp); have c4 := hk.cell KA.out (by simp); have c5 := hk.cell KB.out (by simp); clear hk; go_wp2_with fail; exact ⟨rfl, rfl⟩))
            refine wpG_end ?_
            go_wp2_with fail
            go_roundw
            case rel => exact ⟨q + 1, by omega, by go_num, HFD.out, HNO.out rfl⟩
            case measure => simp [intOf]; omega
          | true =>
            have hRt := HYE.out rfl
            subst hRt
            clear HYE HYES HNO HDR HMV HALL
            go_upto_region 12 with fail
            refine wp_region_G [] [(0, false), (1, false), (2, false), (3, false), (4, false), (5, false), (6, false), (7, false), (8, false), (9, false), (10, false), (11, false), (12, false), (13, false), (14, false), (15, false), (16, false)] 70 rfl (by kernel_rfl) (by kernel_rfl) (by kernel_rfl) (fun c a d v w h => by cases d <;> exact h) (fun wd hfd => ?_)
            simp only [List.map_cons, List.map_nil, List.getElem?_toArray, List.getElem?_cons_succ, List.getElem?_cons_zero, Option.getD_some]
            have HFD := Lib.hid (HFR2.out.tr0 hfd)
            have HW2 := Lib.hid hfd
            clear hfd
            repeat (apply wpG_t; · (intro w' hf'; have hk := HW2.out.tr0 hf'; have c1 := hk.cell KC.out (by simp); have c2 := hk.cell KI.out (by simp); have c3 := hk.cell K5.out (by simp); have c4 := hk.cell KA.out (by simp); have c5 := hk.cell KB.out (by simp); clear hk; go_wp2_with fail; exact ⟨rfl, rfl⟩))
            refine wpG_end ?_
            go_wp2_with fail
            go_ret
            exact ⟨rfl, HF1.out.tr0 (HFR.out.tr0 HFD.out)⟩
       ·have hd3 : decide (0 ≤ s) = false := decide_eq_false hs0
        have HANY := Lib.hid (show anyF F W s now = false by unfold anyF; rw [hd3]; rfl)
        have hci := hfr2.cell HCI.out (by simp)
        clear hs0
        have HBW2 := Lib.hid (hfr2.heap HBW.out (by simp))
        have hc2 := hfr2.cell HCI.out (by simp)
        have HFR2 := Lib.hid hfr2
        clear hfr2 hall
        go_upto_region 14 with fail
        refine wp_region_G [] [(0, false), (1, false), (2, false), (3, false), (4, false), (5, false), (6, true), (7, false)] 70 rfl (by kernel_rfl) (by kernel_rfl) (by kernel_rfl) (fun c a d v w h => by cases d <;> exact h) (fun wd hfd => ?_)
        simp only [List.map_cons, List.map_nil, List.getElem?_toArray, List.getElem?_cons_succ, List.getElem?_cons_zero, Option.getD_some]
        have L1 : Hid (Later [] wd (fun w' => w'.cell? ⟨b, off + i, none⟩ = some (.int .i64 s))) := Lib.hid (fun w' hf' => hf'.cell (hfd.cell hc2 (by simp)) (by simp))
        have L2 : Hid (Later [] wd (fun w' => w'.heap[q0]? = some (.cells C 36 (0, 0)))) := Lib.hid (fun w' hf' => hf'.heap (hfd.heap HBW2.out (by simp)) (by simp))
        have HFD := Lib.hid (HFR2.out.tr0 hfd)
        clear hc2 hfd
        repeat (apply wpG_t; · (intro w' hf'; have c1 := L1.out w' hf'; have c2 := L2.out w' hf'; go_wp2_with (refine wpList_load_row rfl _ _ rfl q0 rfl _ C _ _ c2 Tryz.underlying36 rfl HSZ.out ?_); exact ⟨rfl, rfl⟩))
        refine wpG_x ?_
        go_wp2_with (go_at_call 67; refine (HMV.out _ HFD.out).mono ?_; rintro e w5 ⟨v5, rfl, hs5, hf5, -⟩)
        refine ⟨hf5, rfl, ?_⟩
        have HS5 := Lib.hid hs5
        have HF5 := Lib.hid ((HFR.out.tr0 HFD.out).tr0 hf5)
        clear hs5 hf5
        apply wpG_t
        ·(intro w' hf'; go_wp2_with fail; exact ⟨rfl, rfl⟩)
        refine wpG_end ?_
        go_wp2_with fail
        go_roundw
        case rel => exact ⟨i + 1, by omega, by go_num, HF5.out, _, mv_len _ _ _ _, HS5.out, HDR.out HANY.out⟩
        case measure => simp [intOf]; omega
      ·have hd2 : decide (q ≤ n) = false := decide_eq_false (by have := HM.out; omega)
       have HANY := Lib.hid (show anyF F W s now = false from by
        unfold anyF
        rw [Bool.and_eq_false_iff]
        right
        rw [List.any_eq_false]
        intro x hx
        rw [List.mem_range, hwl, ← HM.out] at hx
        rw [hall x (by omega)]
        simp)
       have HBW2 := Lib.hid (hfr2.heap HBW.out (by simp))
       have hc2 := hfr2.cell HCI.out (by simp)
       have HFR2 := Lib.hid hfr2
       clear hfr2 hall
       go_upto_region 14 with fail
       refine wp_region_G [] [(0, false), (1, false), (2, false), (3, false), (4, false), (5, false), (6, true), (7, false)] 70 rfl (by kernel_rfl) (by kernel_rfl) (by kernel_rfl) (fun c a d v w h => by cases d <;> exact h) (fun wd hfd => ?_)
       simp only [List.map_cons, List.map_nil, List.getElem?_toArray, List.getElem?_cons_succ, List.getElem?_cons_zero, Option.getD_some]
       have L1 : Hid (Later [] wd (fun w' => w'.cell? ⟨b, off + i, none⟩ = some (.int .i64 s))) := Lib.hid (fun w' hf' => hf'.cell (hfd.cell hc2 (by simp)) (by simp))
       have L2 : Hid (Later [] wd (fun w' => w'.heap[q0]? = some (.cells C 36 (0, 0)))) := Lib.hid (fun w' hf' => hf'.heap (hfd.heap HBW2.out (by simp)) (by simp))
       have HFD := Lib.hid (HFR2.out.tr0 hfd)
       clear hc2 hfd
       repeat (apply wpG_t; · (intro w' hf'; have c1 := L1.out w' hf'; have c2 := L2.out w' hf'; go_wp2_with (refine wpList_load_row rfl _ _ rfl q0 rfl _ C _ _ c2 Tryz.underlying36 rfl HSZ.out ?_); exact ⟨rfl, rfl⟩))
       refine wpG_x ?_
       go_wp2_with (go_at_call 67; refine (HMV.out _ HFD.out).mono ?_; rintro e w5 ⟨v5, rfl, hs5, hf5, -⟩)
       refine ⟨hf5, rfl, ?_⟩
       have HS5 := Lib.hid hs5
       have HF5 := Lib.hid ((HFR.out.tr0 HFD.out).tr0 hf5)
       clear hs5 hf5
       apply wpG_t
       ·(intro w' hf'; go_wp2_with fail; exact ⟨rfl, rfl⟩)
       refine wpG_end ?_
       go_wp2_with fail
       go_roundw
       case rel => exact ⟨i + 1, by omega, by go_num, HF5.out, _, mv_len _ _ _ _, HS5.out, HDR.out HANY.out⟩
       case measure => simp [intOf]; omega
  ·have hd : decide (i < ss.length) = false := decide_eq_false hin
   have hen' : R = nb := by
    rw [List.drop_eq_nil_of_le (by omega)] at hen
    rw [← hen, ← hatn, ← hwl]
    rfl
   subst hen'
   clear hen hst hfr hatn
   go_wp2_with fail
   go_ret
   exact ⟨rfl, HF1.out.tr0 HFR.out⟩
end Go.Proofs.YtnaamjpiaekmeaaGreat
namespace Go.Proofs.YtnaamjpiaekmeaaGreat
open Go.RowKit
set_option maxRecDepth 100000 in
set_option maxHeartbeats 4000000 in
theorem rfirst_any (C : Array Value) (W : List UInt8) (N : Nat) (T : TabT) (F : TabF) (ss : List Int) (sv : Value) (k : Int) (w : World) (hss : SymsK N ss) (hN : N ≤ 100000) (hW : W.length ≤ 99999)
  (hs : intsAt w sv ss) (ht : TabK w C W N T F) :
  Calls Tryz.prog 15 #[.agg C, .int .i64 k, sv] w fun e w' => e = .returned (.bool (firstB T F W k ss)) ∧ Fr [] w w' := by
 have HSZ := Lib.hid ht.size
 have hcw := ht.word
 have HBG := Lib.hid (fun wx (hf : Fr [] w wx) => rbegs_any C W N T F ss sv 0 wx hss hN hW (Nat.zero_le _) (hs.below hf) (ht.below hf))
 have HEN := Lib.hid (fun wx (hf : Fr [] w wx) => rends_any C W N T F ss sv 0 wx hss hN hW (Nat.zero_le _) (hs.below hf) (ht.below hf))
 have hel : (endsB T W ss (unitB W 0)).length = W.length + 1 := by
  have : ∀ (l : List Int) (now : List Bool), now.length = W.length + 1 → (endsB T W l now).length = W.length + 1 := by
   intro l
   induction l with
   | nil => exact fun now h => h
   | cons s l ih => exact fun now _ => ih _ (mv_len _ _ _ _)
  exact this _ _ (by simp [unitB])
 have HFB := Lib.hid (show firstB T F W k ss = if (W.length : Int) = k then begB T F W ss (unitB W 0) else decide ((W.length : Int) < k) && atB (endsB T W ss (unitB W 0)) W.length from rfl)
 obtain ⟨E, hE⟩ : ∃ E, E = endsB T W ss (unitB W 0) := ⟨_, rfl⟩
 rw [← hE] at HEN hel HFB
 obtain ⟨B, hB⟩ : ∃ B, B = begB T F W ss (unitB W 0) := ⟨_, rfl⟩
 rw [← hB] at HBG HFB
 obtain ⟨R, hR⟩ : ∃ R, R = firstB T F W k ss := ⟨_, rfl⟩
 rw [← hR] at HFB ⊢
 obtain ⟨n, hn⟩ : ∃ n, n = W.length := ⟨_, rfl⟩
 rw [← hn] at HFB hel hW
 have hwl : W.length = n := hn.symm
 clear hs ht hE hB hR hn hss
 by_cases e1 : (n : Int) = k
 ·have hd : ((n : Int) == k) = true := by rw [e1]; simp
  have HRB := Lib.hid (show R = B by rw [HFB.out, if_pos e1])
  clear e1 HEN
  go_enter Tryz.func15, Tryz.ntmps15
  go_upto_region 1 with (refine wpL_boxArr rfl _ _ rfl C rfl ?_; intro w1 hh1 hf1 hz1; refine Hid.out ?_)
  refine Lib.hid ?_
  obtain ⟨q0, hq0⟩ : ∃ q, q = w.heap.size := ⟨_, rfl⟩
  have hb1 := hh1.out
  rw [← hq0] at hb1
  rw [← hq0]
  have HF1 := Lib.hid hf1
  have HB := Lib.hid hb1
  have x3 : w1.cell? ⟨q0, 3, none⟩ = some (encStr W) := (cell_of_heap hb1 3).trans hcw
  clear hb1 hh1 hf1 hq0 hz1
  go_wp2_with (first
   | (refine wpList_load_row rfl _ _ rfl q0 rfl _ C _ _ HB.out Tryz.underlying36 rfl HSZ.out ?_)
   | (go_at_call 35; refine (HBG.out _ HF1.out).mono ?_; rintro e w5 ⟨rfl, hf5⟩))
  go_ret
  exact ⟨by rw [HRB.out]; rfl, HF1.out.tr0 hf5⟩
 ·have hd : ((n : Int) == k) = false := by rw [beq_eq_false_iff_ne]; exact e1
  have HRB := Lib.hid (show R = (decide ((n : Int) < k) && atB E n) by rw [HFB.out, if_neg e1])
  clear HBG
  by_cases e2 : (n : Int) < k
  ·have hd2 : decide ((n : Int) < k) = true := decide_eq_true e2
   rw [hd2, Bool.true_and] at HRB
   have hEn : n < E.length := by omega
   have hat : atB E n = E[n]'hEn := by unfold atB; rw [List.getD_eq_getElem?_getD, List.getElem?_eq_getElem hEn]; rfl
   rw [hat] at HRB
   clear e1 e2 hat
   go_enter Tryz.func15, Tryz.ntmps15
   go_upto_region 1 with (refine wpL_boxArr rfl _ _ rfl C rfl ?_; intro w1 hh1 hf1 hz1; refine Hid.out ?_)
   refine Lib.hid ?_
   obtain ⟨q0, hq0⟩ : ∃ q, q = w.heap.size := ⟨_, rfl⟩
   have hb1 := hh1.out
   rw [← hq0] at hb1
   rw [← hq0]
   have HF1 := Lib.hid hf1
   have HB := Lib.hid hb1
   have x3 : w1.cell? ⟨q0, 3, none⟩ = some (encStr W) := (cell_of_heap hb1 3).trans hcw
   clear hb1 hh1 hf1 hq0 hz1
   go_upto_region 3 with fail
   have HX3 := Lib.hid x3
   clear x3 hcw
   refine wp_region_G [] [(0, false), (1, false), (2, false), (3, false), (4, false), (5, false), (6, false), (7, false), (9, false), (10, false), (11, false), (8, true), (12, false), (13, false), (14, false), (15, false)] 30 rfl (by kernel_rfl) (by kernel_rfl) (by kernel_rfl) (fun c a d v w h => by cases d <;> exact h) (fun wd hfd => ?_)
   simp only [List.map_cons, List.map_nil, List.getElem?_toArray, List.getElem?_cons_succ, List.getElem?_cons_zero, Option.getD_some]
   have L1 : Hid (Later [] wd (fun w' => w'.cell? ⟨q0, 3, none⟩ = some (encStr W))) := Lib.hid (fun w' hf' => hf'.cell (hfd.cell HX3.out (by simp)) (by simp))
   have L2 : Hid (Later [] wd (fun w' => w'.heap[q0]? = some (.cells C 36 (0, 0)))) := Lib.hid (fun w' hf' => hf'.heap (hfd.heap HB.out (by simp)) (by simp))
   have HFD := Lib.hid (HF1.out.tr0 hfd)
   clear hfd
   repeat (apply wpG_t; · (intro w' hf'; have c1 := L1.out w' hf'; have c2 := L2.out w' hf'; go_wp2_with (refine wpL_loadW rfl _ _ rfl q0 rfl _ C _ _ c2 Tryz.underlying36 rfl HSZ.out ?_); exact ⟨rfl, rfl⟩))
   refine wpG_x ?_
   go_wp2_with (go_at_call 34; refine (HEN.out _ HFD.out).mono ?_; rintro e w5 ⟨v5, rfl, hs5, hf5, -⟩)
   refine ⟨hf5, rfl, ?_⟩
   obtain ⟨a5, c5, rfl, hc5, hm5⟩ := hs5.form
   obtain ⟨b5, o5, rfl, hcell⟩ := bool_cell hs5 n hEn
   rw [hel] at hc5 ⊢
   rw [← HRB.out] at hcell
   have HC5 := Lib.hid hcell
   have HF5 := Lib.hid (HFD.out.tr0 hf5)
   have L5 : Hid (Later [] w5 (fun w' => w'.cell? ⟨b5, o5 + n, none⟩ = some (.bool R))) := Lib.hid (fun w' hf' => hf'.cell HC5.out (by simp))
   clear hs5 hf5 hcell HEN L1 L2 HC5 HRB
   repeat (apply wpG_t; · (intro w' hf'; have c1 := L5.out w' hf'; go_wp2_with fail; exact ⟨rfl, rfl⟩))
   refine wpG_end ?_
   go_wp2_with fail
   go_ret
   exact ⟨rfl, HF5.out⟩
  ·have hd2 : decide ((n : Int) < k) = false := decide_eq_false e2
   rw [hd2, Bool.false_and] at HRB
   clear e1 e2 HEN
   go_enter Tryz.func15, Tryz.ntmps15
   go_upto_region 1 with (refine wpL_boxArr rfl _ _ rfl C rfl ?_; intro w1 hh1 hf1 hz1; refine Hid.out ?_)
   refine Lib.hid ?_
   obtain ⟨q0, hq0⟩ : ∃ q, q = w.heap.size := ⟨_, rfl⟩
   have hb1 := hh1.out
   rw [← hq0] at hb1
   rw [← hq0]
   have HF1 := Lib.hid hf1
   have x3 : w1.cell? ⟨q0, 3, none⟩ = some (encStr W) := (cell_of_heap hb1 3).trans hcw
   clear hb1 hh1 hf1 hq0 hz1
   go_upto_region 3 with fail
   have HX3 := Lib.hid x3
   clear x3 hcw
   refine wp_region_G [] [(0, false), (1, false), (2, false), (3, false), (4, false), (5, false), (6, false), (7, false), (9, false), (10, false), (11, false), (8, true), (12, false), (13, false), (14, false), (15, false)] 30 rfl (by kernel_rfl) (by kernel_rfl) (by kernel_rfl) (fun c a d v w h => by cases d <;> exact h) (fun wd hfd => ?_)
   simp only [List.map_cons, List.map_nil, List.getElem?_toArray, List.getElem?_cons_succ, List.getElem?_cons_zero, Option.getD_some]
   have L1 : Hid (Later [] wd (fun w' => w'.cell? ⟨q0, 3, none⟩ = some (encStr W))) := Lib.hid (fun w' hf' => hf'.cell (hfd.cell HX3.out (by simp)) (by simp))
   have HFD := Lib.hid (HF1.out.tr0 hfd)
   clear hfd
   repeat (apply wpG_t; · (intro w' hf'; have c1 := L1.out w' hf'; go_wp2_with fail; exact ⟨rfl, rfl⟩))
   refine wpG_x ?_
   go_wp2_with fail
   refine ⟨Fr.refl _ _, rfl, ?_⟩
   repeat (apply wpG_t; · (intro w' hf'; go_wp2_with fail; exact ⟨rfl, rfl⟩))
   refine wpG_end ?_
   go_wp2_with fail
   go_ret
   exact ⟨by rw [HRB.out]; rfl, HFD.out⟩
end Go.Proofs.YtnaamjpiaekmeaaGreat
