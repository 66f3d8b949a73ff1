/- Layer 19, the document's Same. -/
import Derived.Test.YtmcekpgmebanaaaMm
import Derived.Test.YtmcekpgmebanaaaDt
import Derived.Test.YtmcekpgmebanaaaBs
import Derived.LoopTactic
import Derived.BigQuiet
import Derived.WalkMore
import Derived.BigRegion
import Derived.Deep.DeepCutAuto
set_option linter.unusedVariables false
set_option linter.unusedSimpArgs false
namespace Go.Proofs.Ytmcekpgmebanaaa
open Go.RowKit

def WSameRel (w : World) (l m : Words) (i : Value) (wx : World) : Prop := ∃ k : Nat, k ≤ l.length ∧ i = .int .i64 (k : Int) ∧ Fr [] w wx ∧ ∀ j (_ : j < k) (h : j < l.length) (h' : j < m.length), (l[j]'h) = m[j]'h'
set_option maxRecDepth 100000 in
set_option maxHeartbeats 1000000 in
theorem rsm_any (l m : Words) (v u : Value) (w : World) (h : strsAt w v l) (g : strsAt w u m) :
    Calls Try.prog 10 #[v, u] w fun e w' => e = .returned (.bool (decide (l = m))) ∧ Fr [] w w' := by
  obtain ⟨a0, c0, rfl, hle, hmx⟩ := h.form
  obtain ⟨a1, c1, rfl, hle1, hmx1⟩ := g.form
  have HL := Lib.hid h
  have HM := Lib.hid g
  obtain ⟨R, hR⟩ : ∃ R, R = decide (l = m) := ⟨_, rfl⟩
  rw [← hR]
  have HR := Lib.hid hR
  clear h g hR
  by_cases hlm : l.length = m.length
  · have HLM := Lib.hid hlm
    obtain ⟨n, hn⟩ : ∃ n, n = l.length := ⟨_, rfl⟩
    rw [show m.length = n by rw [← hlm, hn]] at hle1 HM ⊢
    rw [← hn] at hle HL ⊢
    have HN := Lib.hid hn
    clear hlm hn
    go_enter Try.func10, Try.ntmps10
    go_wp2_with fail
    go_loopw [5] (WSameRel w l m) (fun i _ => n - (intOf i).toNat)
    case atStart => exact ⟨0, Nat.zero_le _, rfl, Fr.refl _ _, fun j hj => by omega⟩
    case round =>
      obtain ⟨k, hk, rfl, hfr, hall⟩ := hrel
      rw [← HN.out] at hk
      have HA := Lib.hid hall
      have HFR := Lib.hid hfr
      by_cases hkn : k < n
      · have hd : decide (k < n) = true := decide_eq_true hkn
        have hkl : k < l.length := by rw [← HN.out]; exact hkn
        have hkm : k < m.length := by rw [← HLM.out, ← HN.out]; exact hkn
        obtain ⟨b, off, rfl, hc⟩ := str_cell (HL.out.below hfr) k hkl
        obtain ⟨b', off', rfl, hc'⟩ := str_cell (HM.out.below hfr) k hkm
        obtain ⟨y, hy⟩ : ∃ y, y = l[k]'hkl := ⟨_, rfl⟩
        obtain ⟨z, hz⟩ : ∃ z, z = m[k]'hkm := ⟨_, rfl⟩
        rw [← hy] at hc
        rw [← hz] at hc'
        by_cases hyz : y = z
        · have hb : (y == z) = true := by rw [hyz]; simp
          have HNE := Lib.hid (show ∀ j (_ : j < k + 1) (h : j < l.length) (h' : j < m.length), (l[j]'h) = m[j]'h' from fun j hj hjl hjm => by
            by_cases e : j = k
            · subst e; rw [← hy, ← hz]; exact hyz
            · exact HA.out j (by omega) hjl hjm)
          clear hyz hy hz hfr hall
          go_upto_region 6 with fail
          refine wp_region_G [] [(0, false), (1, false), (2, false), (3, false), (4, false), (5, false), (6, false), (7, false), (8, false)] 26 rfl (by kernel_rfl) (by kernel_rfl) (by kernel_rfl) (fun c a d v w h => by cases d <;> exact h) (fun wd hfd => ?_)
          simp only [List.map_cons, List.map_nil, List.getElem?_toArray, List.getElem?_cons_succ, List.getElem?_cons_zero, Option.getD_some]
          have L1 : Hid (Later [] wd (fun w' => w'.cell? ⟨b, off + k, none⟩ = some (encStr y))) := Lib.hid (fun w' hf' => hf'.cell (hfd.cell hc (by simp)) (by simp))
          have L2 : Hid (Later [] wd (fun w' => w'.cell? ⟨b', off' + k, none⟩ = some (encStr z))) := Lib.hid (fun w' hf' => hf'.cell (hfd.cell hc' (by simp)) (by simp))
          have HFD := Lib.hid (HFR.out.trans hfd (by simp) (n := []) (by simp))
          clear hc hc' hfd
          repeat (apply wpG_t; · (intro w' hf'; have c1 := L1.out w' hf'; have c2 := L2.out w' hf'; go_wp2_with fail; exact ⟨rfl, rfl⟩))
          refine wpG_end ?_
          go_wp2_with fail
          go_roundw
          case rel => exact ⟨k + 1, by rw [← HN.out]; omega, by go_num, HFD.out, HNE.out⟩
          case measure => simp [intOf]; omega
        · have hb : (y == z) = false := by rw [beq_eq_false_iff_ne]; exact hyz
          have hRf : R = false := by
            rw [HR.out]
            refine decide_eq_false (fun e => ?_)
            subst e
            exact hyz (hy.trans hz.symm)
          subst hRf
          clear hyz hy hz hfr hall
          go_upto_region 6 with fail
          refine wp_region_G [] [(0, false), (1, false), (2, false), (3, false), (4, false), (5, false), (6, false), (7, false), (8, false)] 26 rfl (by kernel_rfl) (by kernel_rfl) (by kernel_rfl) (fun c a d v w h => by cases d <;> exact h) (fun wd hfd => ?_)
          simp only [List.map_cons, List.map_nil, List.getElem?_toArray, List.getElem?_cons_succ, List.getElem?_cons_zero, Option.getD_some]
          have L1 : Hid (Later [] wd (fun w' => w'.cell? ⟨b, off + k, none⟩ = some (encStr y))) := Lib.hid (fun w' hf' => hf'.cell (hfd.cell hc (by simp)) (by simp))
          have L2 : Hid (Later [] wd (fun w' => w'.cell? ⟨b', off' + k, none⟩ = some (encStr z))) := Lib.hid (fun w' hf' => hf'.cell (hfd.cell hc' (by simp)) (by simp))
          have HFD := Lib.hid (HFR.out.trans hfd (by simp) (n := []) (by simp))
          clear hc hc' hfd
          repeat (apply wpG_t; · (intro w' hf'; have c1 := L1.out w' hf'; have c2 := L2.out w' hf'; go_wp2_with fail; exact ⟨rfl, rfl⟩))
          refine wpG_end ?_
          go_wp2_with fail
          go_ret
          exact ⟨rfl, HFD.out⟩
      · have hd : decide (k < n) = false := decide_eq_false hkn
        have hRt : R = true := by
          rw [HR.out]
          refine decide_eq_true (List.ext_getElem HLM.out (fun j h1 h2 => HA.out j ?_ h1 h2))
          have := HN.out
          omega
        subst hRt
        clear hfr hall
        go_wp2_with fail
        go_ret
        exact ⟨rfl, HFR.out⟩
  · have hb : (l.length == m.length) = false := by rw [beq_eq_false_iff_ne]; exact hlm
    have hb' : ((l.length : Int) == (m.length : Int)) = false := by rw [beq_eq_false_iff_ne]; omega
    have hRf : R = false := by
      rw [HR.out]
      exact decide_eq_false (fun e => hlm (by rw [e]))
    subst hRf
    obtain ⟨n, hn⟩ : ∃ n, n = l.length := ⟨_, rfl⟩
    obtain ⟨q, hq⟩ : ∃ q, q = m.length := ⟨_, rfl⟩
    rw [← hn] at hb hb' hle ⊢
    rw [← hq] at hb hb' hle1 ⊢
    clear hlm hn hq
    go_enter Try.func10, Try.ntmps10
    go_wp2_with fail
    go_ret
    exact ⟨rfl, Fr.refl _ _⟩
theorem rsm_val (l m : Words) (v u : Value) (w : World) (h : strsAt w v l) (g : strsAt w u m) (R : Bool) (hR : decide (l = m) = R) :
    Calls Try.prog 10 #[v, u] w fun e w' => e = .returned (.bool R) ∧ Fr [] w w' := by
  subst hR
  exact rsm_any l m v u w h g
end Go.Proofs.Ytmcekpgmebanaaa
