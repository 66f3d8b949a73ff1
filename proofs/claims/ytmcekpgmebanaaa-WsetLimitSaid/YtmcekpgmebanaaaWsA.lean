/- Layer 19, the document's: Has, Same; the law's few, is. -/
import Derived.Test.YtmcekpgmebanaaaMm
import Derived.Test.YtmcekpgmebanaaaDt
import Derived.Test.YtmcekpgmebanaaaDirLs
import Derived.Test.YtmcekpgmebanaaaBs
import Derived.Test.YtmcekpgmebanaaaWs
import Derived.Test.YtmcekpgmebanaaaWsSame
set_option linter.unusedVariables false
set_option linter.unusedSimpArgs false
namespace Go.Proofs.Ytmcekpgmebanaaa
open Go.RowKit
def fewW (l : Words) : Bool := decide (l.length ≤ 60) && l.all fun x => decide (x.length ≤ 20)
def WFewRel (w : World) (l : Words) (i : Value) (wx : World) : Prop := ∃ k : Nat, k ≤ l.length ∧ i = .int .i64 (k : Int) ∧ w = wx ∧ ∀ j (_ : j < k) (h : j < l.length), (l[j]'h).length ≤ 20
set_option maxRecDepth 100000 in
theorem lfew_any (l : Words) (v : Value) (w : World) (h : strsAt w v l) :
    Calls Try.prog 8 #[v] w fun e w' => e = .returned (.bool (fewW l)) ∧ w = w' := by
  obtain ⟨a0, c0, rfl, hle, hmx⟩ := h.form
  have HL := Lib.hid h
  obtain ⟨R, hR⟩ : ∃ R, R = fewW l := ⟨_, rfl⟩
  rw [← hR]
  have HR := Lib.hid hR
  clear h hR
  by_cases h60 : 60 < l.length
  · have d1 : decide (60 < (l.length : Int)) = true := decide_eq_true (by omega)
    have d1' : decide (60 < l.length) = true := decide_eq_true h60
    have hRf : R = false := by rw [HR.out]; unfold fewW; rw [decide_eq_false (by omega)]; rfl
    subst hRf
    clear h60
    go_enter Try.func8, Try.ntmps8
    go_wp2_with fail
    go_ret
    exact ⟨rfl, rfl⟩
  · have d1 : decide (60 < (l.length : Int)) = false := decide_eq_false (by omega)
    have d1' : decide (60 < l.length) = false := decide_eq_false h60
    have H60 := Lib.hid h60
    clear h60
    go_enter Try.func8, Try.ntmps8
    go_wp2_with fail
    go_loopw [3] (WFewRel w l) (fun i _ => l.length - (intOf i).toNat)
    case atStart => exact ⟨0, Nat.zero_le _, rfl, rfl, fun j hj => by omega⟩
    case round =>
      obtain ⟨k, hk, rfl, rfl, hall⟩ := hrel
      have HA := Lib.hid hall
      clear hall
      by_cases hkn : k < l.length
      · have hd : decide (k < l.length) = true := decide_eq_true hkn
        obtain ⟨b, off, rfl, hc⟩ := str_cell HL.out k hkn
        obtain ⟨y, hy⟩ : ∃ y, y = l[k]'hkn := ⟨_, rfl⟩
        rw [← hy] at hc
        by_cases hxy : 20 < y.length
        · have hb : decide (20 < (y.length : Int)) = true := decide_eq_true (by omega)
          have hb' : decide (20 < y.length) = true := decide_eq_true hxy
          have hRf : R = false := by
            rw [HR.out]
            unfold fewW
            cases hq : l.all fun x => decide (x.length ≤ 20) with
            | false => simp
            | true =>
              have := of_decide_eq_true (List.all_eq_true.1 hq _ (List.getElem_mem hkn))
              rw [← hy] at this
              omega
          subst hRf
          clear hxy hy
          go_wp2_with fail
          go_ret
          exact ⟨rfl, rfl⟩
        · have hb : decide (20 < (y.length : Int)) = false := decide_eq_false (by omega)
          have hb' : decide (20 < y.length) = false := decide_eq_false hxy
          have HNE := Lib.hid (show ∀ j (_ : j < k + 1) (h : j < l.length), (l[j]'h).length ≤ 20 from fun j hj hjl => by
            by_cases e : j = k
            · subst e; rw [← hy]; omega
            · exact HA.out j (by omega) hjl)
          clear hxy hy
          go_wp2_with fail
          go_roundw
          case rel => exact ⟨k + 1, by omega, by go_num, rfl, HNE.out⟩
          case measure => simp [intOf]; omega
      · have hd : decide (k < l.length) = false := decide_eq_false hkn
        have hRt : R = true := by
          rw [HR.out]
          unfold fewW
          rw [Bool.and_eq_true, decide_eq_true_eq, List.all_eq_true]
          refine ⟨by have := H60.out; omega, fun x hx => ?_⟩
          obtain ⟨j, hj, rfl⟩ := List.getElem_of_mem hx
          exact decide_eq_true (HA.out j (by omega) hj)
        subst hRt
        go_wp2_with fail
        go_ret
        exact ⟨rfl, rfl⟩
theorem few_parts {l : Words} (h : fewW l = true) : l.length ≤ 60 ∧ ∀ x ∈ l, x.length ≤ 20 := by
  unfold fewW at h
  rw [Bool.and_eq_true, decide_eq_true_eq, List.all_eq_true] at h
  exact ⟨h.1, fun x hx => of_decide_eq_true (h.2 x hx)⟩
def IsRel (w : World) (l : Words) (i : Value) (wx : World) : Prop := ∃ k : Nat, (k + 1 ≤ l.length ∨ k = 0) ∧ i = .int .i64 ((k + 1 : Nat) : Int) ∧ Fr [] w wx ∧ ∀ j (_ : j < k) (h : j + 1 < l.length), lessB (l[j]'(by omega)) (l[j + 1]'h) = true
set_option maxRecDepth 100000 in
set_option maxHeartbeats 1000000 in
theorem lis_any (l : Words) (v : Value) (w : World) (h : strsAt w v l) (hs : ∀ x ∈ l, x.length ≤ maxLen) :
    Calls Try.prog 14 #[v] w fun e w' => e = .returned (.bool (isSetB l)) ∧ Fr [] w w' := by
  obtain ⟨a0, c0, rfl, hle, hmx⟩ := h.form
  have HL := Lib.hid h
  obtain ⟨R, hR⟩ : ∃ R, R = isSetB l := ⟨_, rfl⟩
  rw [← hR]
  have HR := Lib.hid hR
  have HS := Lib.hid hs
  clear h hR hs
  go_enter Try.func14, Try.ntmps14
  go_wp2_with fail
  go_loopw [3] (IsRel w l) (fun i _ => l.length + 1 - (intOf i).toNat)
  case atStart => exact ⟨0, .inr rfl, rfl, Fr.refl _ _, fun j hj => by omega⟩
  case round =>
    obtain ⟨q, hq, rfl, hfr, hall⟩ := hrel
    have HA := Lib.hid hall
    have HFR := Lib.hid hfr
    clear hall
    by_cases hkn : q + 1 < l.length
    · obtain ⟨k, hk⟩ : ∃ k, k = q + 1 := ⟨_, rfl⟩
      have hd : decide (k < l.length) = true := decide_eq_true (by omega)
      obtain ⟨b, off, rfl, hc⟩ := str_cell (HL.out.below hfr) q (by omega)
      obtain ⟨b', off', e, hc'⟩ := str_cell (HL.out.below hfr) (q + 1) hkn
      cases e
      have hy1 := HS.out _ (List.getElem_mem (show q < l.length by omega))
      have hz1 := HS.out _ (List.getElem_mem hkn)
      obtain ⟨y, hy⟩ : ∃ y, y = l[q]'(by omega) := ⟨_, rfl⟩
      obtain ⟨z, hz⟩ : ∃ z, z = l[q + 1]'hkn := ⟨_, rfl⟩
      rw [← hy] at hc hy1
      rw [← hz] at hc' hz1
      obtain ⟨L, hL⟩ : ∃ L, L = lessB y z := ⟨_, rfl⟩
      have HLE := Lib.hid (fun wx => rless_any y z wx hy1 hz1)
      rw [← hL] at HLE
      have hkq : (k : Int) - 1 = (q : Int) := by omega
      rw [← hk] at hc' ⊢
      have HKQ := Lib.hid hkq
      have HK := Lib.hid hk
      have HNO := Lib.hid (show L = false → R = false from fun e => by
        cases hr : R with
        | false => rfl
        | true =>
          rw [hr] at HR
          have := isSetB_get HR.out.symm q hkn
          rw [← hy, ← hz, ← hL, e] at this
          cases this)
      have HYES := Lib.hid (show L = true → ∀ j (_ : j < k) (h : j + 1 < l.length), lessB (l[j]'(by omega)) (l[j + 1]'h) = true from fun hl j hj hjl => by
        by_cases e : j = q
        · subst e; rw [← hy, ← hz, ← hL]; exact hl
        · exact HA.out j (by omega) hjl)
      have hk0 : 0 < k := by omega
      have hkl : k < l.length := by omega
      have hql : q < l.length := by omega
      clear hy hz hL hy1 hz1 hk hq hkn hkq
      go_upto_region 4 with fail
      refine wp_region_G [] [(0, false), (1, false), (2, false), (3, false), (4, false), (5, false), (6, false), (7, false), (8, false), (9, true), (10, false)] 21 rfl (by kernel_rfl) (by kernel_rfl) (by kernel_rfl) (fun c a d v w h => by cases d <;> exact h) (fun wd hfd => ?_)
      simp only [List.map_cons, List.map_nil, List.getElem?_toArray, List.getElem?_cons_succ, List.getElem?_cons_zero, Option.getD_some]
      have L1 : Hid (Later [] wd (fun w' => w'.cell? ⟨b, off + q, none⟩ = some (encStr y))) := Lib.hid (fun w' hf' => hf'.cell (hfd.cell hc (by simp)) (by simp))
      have L2 : Hid (Later [] wd (fun w' => w'.cell? ⟨b, off + k, none⟩ = some (encStr z))) := Lib.hid (fun w' hf' => hf'.cell (hfd.cell hc' (by simp)) (by simp))
      have HFD := Lib.hid (HFR.out.trans hfd (by simp) (n := []) (by simp))
      clear hc hc' hfd hfr
      iterate 2 (apply wpG_t; · (intro w' hf'; go_wp2_with fail; exact ⟨rfl, rfl⟩))
      iterate 3 (apply wpG_t; · (intro w' hf'; have hpq := HKQ.out; have c1 := L1.out w' hf'; go_wp2_with fail; exact ⟨rfl, rfl⟩))
      iterate 4 (apply wpG_t; · (intro w' hf'; have c2 := L2.out w' hf'; go_wp2_with fail; exact ⟨rfl, rfl⟩))
      refine wpG_x ?_
      go_wp2_with (go_at_call 27; refine (HLE.out _).mono ?_; rintro e w7 ⟨rfl, hf7⟩)
      refine ⟨hf7, rfl, ?_⟩
      have HF7 := Lib.hid (HFD.out.trans hf7 (by simp) (n := []) (by simp))
      apply wpG_t
      · (intro w' hf'; go_wp2_with fail; exact ⟨rfl, rfl⟩)
      refine wpG_end ?_
      clear hf7
      cases L with
      | true =>
        go_wp2_with fail
        go_roundw
        case rel => exact ⟨k, .inl (by omega), by go_num, HF7.out, HYES.out rfl⟩
        case measure => simp [intOf]; omega
      | false =>
        have hRf := HNO.out rfl
        subst hRf
        go_wp2_with fail
        go_ret
        exact ⟨rfl, HF7.out⟩
    · obtain ⟨k, hk⟩ : ∃ k, k = q + 1 := ⟨_, rfl⟩
      rw [← hk]
      have hd : decide (k < l.length) = false := decide_eq_false (by omega)
      have hRt : R = true := by
        rw [HR.out]
        exact isSetB_of (fun i hi => HA.out i (by omega) hi)
      subst hRt
      clear hk hkn hq hfr
      go_wp2_with fail
      go_ret
      exact ⟨rfl, HFR.out⟩
end Go.Proofs.Ytmcekpgmebanaaa
