/- The document's Less of texts (layer 9; split out of DirH). -/
import Derived.Test.YtmcekpgmebanaaaMm
import Derived.Test.YtmcekpgmebanaaaDt
import Derived.Test.YtmcekpgmebanaaaBs
import Derived.LoopTactic
import Derived.BigQuiet
import Derived.WalkMore
import Derived.BigRegion
import Derived.Deep.DeepCutAuto
set_option linter.unusedVariables false
set_option linter.unusedSimpArgs false
namespace Go.Proofs.Ytmcekpgmebanaaa
open Go.RowKit


def LessRel (w : World) (a b : List UInt8) (i : Value) (wx : World) : Prop := ∃ k : Nat, k ≤ min a.length b.length ∧ i = .int .i64 (k : Int) ∧ Fr [] w wx ∧ a.take k = b.take k
set_option maxRecDepth 100000 in
theorem rless_any (a b : List UInt8) (w : World) (ha : a.length ≤ maxLen) (hb : b.length ≤ maxLen) :
    Calls Try.prog 27 #[encStr a, encStr b] w fun e w' => e = .returned (.bool (lessB a b)) ∧ Fr [] w w' := by
  have ha' : a.length ≤ 9223372036854775807 := by simpa [maxLen] using ha
  have hb' : b.length ≤ 9223372036854775807 := by simpa [maxLen] using hb
  obtain ⟨R, hR⟩ : ∃ R, R = lessB a b := ⟨_, rfl⟩
  have HR := Lib.hid hR
  rw [← hR]
  clear hR ha hb
  go_enter Try.func27, Try.ntmps27
  go_wp2_with fail
  go_loopw [5] (LessRel w a b) (fun i _ => a.length - (intOf i).toNat)
  case atStart => exact ⟨0, Nat.zero_le _, rfl, Fr.refl _ _, rfl⟩
  case round =>
    obtain ⟨k, hk, rfl, hf, htk⟩ := hrel
    by_cases hka : k < a.length
    · have hd : decide (k < a.length) = true := decide_eq_true hka
      by_cases hkb : k < b.length
      · have hd2 : decide (k < b.length) = true := decide_eq_true hkb
        obtain ⟨x, hx⟩ : ∃ x, x = a[k]'hka := ⟨_, rfl⟩
        obtain ⟨y, hy⟩ : ∃ y, y = b[k]'hkb := ⟨_, rfl⟩
        have hia := fun wx => run_index_str (P := Try.prog) wx 9 a (k : Int) k x Try.underlying9 rfl (by rw [hx, List.getElem?_eq_getElem])
        have hib := fun wx => run_index_str (P := Try.prog) wx 9 b (k : Int) k y Try.underlying9 rfl (by rw [hy, List.getElem?_eq_getElem])
        have HX := Lib.hid hx
        have HY := Lib.hid hy
        have HTK := Lib.hid htk
        have HF := Lib.hid hf
        clear hx hy htk hf
        by_cases hxy : x = y
        · have hne : ((x.toNat : Int) != (y.toNat : Int)) = false := by rw [hxy]; simp
          have HXY := Lib.hid hxy
          clear hxy
          go_wp2_with fail
          go_region
          generalize hwq : wr.drew = wq
          have hfq : Fr [] w wq := hwq ▸ HF.out.andDrew
          clear hwq
          go_wp2_with fail
          go_roundw
          case rel => exact ⟨k + 1, by omega, by simp, hfq, by rw [List.take_succ_eq_append_getElem hka, List.take_succ_eq_append_getElem hkb, HTK.out, ← HX.out, ← HY.out, HXY.out]⟩
          case measure => simp [intOf]; omega
        · have hne : ((x.toNat : Int) != (y.toNat : Int)) = true := by rw [bne_iff_ne]; intro q; exact hxy (UInt8.toNat_inj.1 (by omega))
          have HL := Lib.hid (show R = decide (x.toNat < y.toNat) by
            rw [HR.out, lessB_at k a b HTK.out hka hkb (by rw [← HX.out, ← HY.out]; exact hxy), ← HX.out, ← HY.out])
          clear hxy
          go_wp2_with fail
          go_region
          generalize hwq : wr.drew = wq
          have hfq : Fr [] w wq := hwq ▸ HF.out.andDrew
          clear hwq
          go_wp2_with fail
          go_region
          generalize hwq2 : wq.drew = wq2
          have hfq2 : Fr [] w wq2 := hwq2 ▸ hfq.andDrew
          clear hwq2
          go_wp2_with fail
          go_ret
          exact ⟨by rw [HL.out]; rfl, hfq2⟩
      · have hd2 : decide (k < b.length) = false := decide_eq_false hkb
        have HL := Lib.hid (show R = decide ((a.length : Int) < (b.length : Int)) by
          rw [HR.out, lessB_end a b k (by omega) htk]
          exact decide_eq_decide.2 (by omega))
        have HF := Lib.hid hf
        have hd3 : decide (a.length < b.length) = false := decide_eq_false (by omega)
        have HL2 := Lib.hid (show R = false by rw [HL.out]; exact decide_eq_false (by omega))
        clear htk hf
        go_wp2_with fail
        go_ret
        exact ⟨by rw [HL2.out]; rfl, HF.out⟩
    · have hd : decide (k < a.length) = false := decide_eq_false hka
      have HL := Lib.hid (show R = decide (a.length < b.length) by
        rw [HR.out, lessB_end a b k (by omega) htk])
      have HF := Lib.hid hf
      clear htk hf
      by_cases hlt : a.length < b.length
      · have hd3 : decide (a.length < b.length) = true := decide_eq_true hlt
        rw [hd3] at HL
        go_wp2_with fail
        go_ret
        exact ⟨by rw [HL.out]; rfl, HF.out⟩
      · have hd3 : decide (a.length < b.length) = false := decide_eq_false hlt
        rw [hd3] at HL
        go_wp2_with fail
        go_ret
        exact ⟨by rw [HL.out]; rfl, HF.out⟩

end Go.Proofs.Ytmcekpgmebanaaa
