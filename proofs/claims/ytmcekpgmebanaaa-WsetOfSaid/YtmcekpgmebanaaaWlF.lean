/- The program's sets of words (layer 19): Is. -/
import Derived.Test.YtmcekpgmebanaaaWlD
import Derived.Test.YtmcekpgmebanaaaBLess
set_option linter.unusedVariables false
set_option linter.unusedSimpArgs false
namespace Go.Proofs.Ytmcekpgmebanaaa
open Go.RowKit Go.Maps Go.Sort

theorem run_geqS (t : TypeId) (a b : List UInt8) (w : World) : (binOp .geq t (encStr a) (encStr b)).run Try.prog w = .ok (.bool !(lessB a b)) w := by
  rw [← bytesLess_lessB]
  simp [binOp, Op.stringOp, mk_toList]
set_option maxRecDepth 100000 in
set_option maxHeartbeats 1000000 in
theorem prog_wis : ProgWIs := by
  intro l v w h hsh
  have hl : l.length ≤ 100000 := hsh.1
  obtain ⟨a0, c0, rfl, hle, hmx⟩ := h.form
  have HL := Lib.hid h
  obtain ⟨R, hR⟩ : ∃ R, R = isSetB l := ⟨_, rfl⟩
  rw [← hR]
  have HR := Lib.hid hR
  clear h hR
  go_enter Try.func13, Try.ntmps13
  go_wp2_with fail
  go_loopw [3] (IsRel w l) (fun i _ => l.length + 1 - (intOf i).toNat)
  case atStart => exact ⟨0, .inr rfl, rfl, Fr.refl _ _, fun j hj => by omega⟩
  case round =>
    obtain ⟨q, hq, rfl, hfr, hall⟩ := hrel
    have HA := Lib.hid hall
    have HFR := Lib.hid hfr
    clear hall
    by_cases hkn : q + 1 < l.length
    · obtain ⟨k, hk⟩ : ∃ k, k = q + 1 := ⟨_, rfl⟩
      have hd : decide (k < l.length) = true := decide_eq_true (by omega)
      obtain ⟨b, off, rfl, hc⟩ := str_cell (HL.out.below hfr) q (by omega)
      obtain ⟨b', off', e, hc'⟩ := str_cell (HL.out.below hfr) (q + 1) hkn
      cases e
      obtain ⟨y, hy⟩ : ∃ y, y = l[q]'(by omega) := ⟨_, rfl⟩
      obtain ⟨z, hz⟩ : ∃ z, z = l[q + 1]'hkn := ⟨_, rfl⟩
      rw [← hy] at hc
      rw [← hz] at hc'
      obtain ⟨L, hL⟩ : ∃ L, L = lessB y z := ⟨_, rfl⟩
      have HLE := Lib.hid (fun wx => run_geqS 9 y z wx)
      rw [← hL] at HLE
      have hkq : (k : Int) - 1 = (q : Int) := by omega
      rw [← hk] at hc' ⊢
      have HKQ := Lib.hid hkq
      have HK := Lib.hid hk
      have HNO := Lib.hid (show L = false → R = false from fun e => by
        cases hr : R with
        | false => rfl
        | true =>
          rw [hr] at HR
          have := isSetB_get HR.out.symm q hkn
          rw [← hy, ← hz, ← hL, e] at this
          cases this)
      have HYES := Lib.hid (show L = true → ∀ j (_ : j < k) (h : j + 1 < l.length), lessB (l[j]'(by omega)) (l[j + 1]'h) = true from fun hl j hj hjl => by
        by_cases e : j = q
        · subst e; rw [← hy, ← hz, ← hL]; exact hl
        · exact HA.out j (by omega) hjl)
      have hk0 : 0 < k := by omega
      have hkl : k < l.length := by omega
      have hql : q < l.length := by omega
      clear hy hz hL hk hq hkn hkq
      go_upto_region 4 with fail
      refine wp_region_G [] [(0, false), (1, false), (2, false), (3, false), (4, false), (5, false), (6, false), (7, false), (8, false), (9, false)] 20 rfl (by kernel_rfl) (by kernel_rfl) (by kernel_rfl) (fun c a d v w h => by cases d <;> exact h) (fun wd hfd => ?_)
      simp only [List.map_cons, List.map_nil, List.getElem?_toArray, List.getElem?_cons_succ, List.getElem?_cons_zero, Option.getD_some]
      have L1 : Hid (Later [] wd (fun w' => w'.cell? ⟨b, off + q, none⟩ = some (encStr y))) := Lib.hid (fun w' hf' => hf'.cell (hfd.cell hc (by simp)) (by simp))
      have L2 : Hid (Later [] wd (fun w' => w'.cell? ⟨b, off + k, none⟩ = some (encStr z))) := Lib.hid (fun w' hf' => hf'.cell (hfd.cell hc' (by simp)) (by simp))
      have HFD := Lib.hid (HFR.out.trans hfd (by simp) (n := []) (by simp))
      clear hc hc' hfd hfr
      iterate 2 (apply wpG_t; · (intro w' hf'; go_wp2_with fail; exact ⟨rfl, rfl⟩))
      iterate 3 (apply wpG_t; · (intro w' hf'; have hpq := HKQ.out; have c1 := L1.out w' hf'; go_wp2_with fail; exact ⟨rfl, rfl⟩))
      iterate 4 (apply wpG_t; · (intro w' hf'; have c2 := L2.out w' hf'; go_wp2_with fail; exact ⟨rfl, rfl⟩))
      have HF7 := HFD
      apply wpG_t
      · (intro w' hf'; have hge := HLE.out w'; go_wp2_with fail; exact ⟨rfl, rfl⟩)
      refine wpG_end ?_
      cases L with
      | true =>
        go_wp2_with fail
        go_roundw
        case rel => exact ⟨k, .inl (by omega), by go_num, HF7.out, HYES.out rfl⟩
        case measure => simp [intOf]; omega
      | false =>
        have hRf := HNO.out rfl
        subst hRf
        go_wp2_with fail
        go_ret
        exact ⟨rfl, HF7.out⟩
    · obtain ⟨k, hk⟩ : ∃ k, k = q + 1 := ⟨_, rfl⟩
      rw [← hk]
      have hd : decide (k < l.length) = false := decide_eq_false (by omega)
      have hRt : R = true := by
        rw [HR.out]
        exact isSetB_of (fun i hi => HA.out i (by omega) hi)
      subst hRt
      clear hk hkn hq hfr
      go_wp2_with fail
      go_ret
      exact ⟨rfl, HFR.out⟩
end Go.Proofs.Ytmcekpgmebanaaa
