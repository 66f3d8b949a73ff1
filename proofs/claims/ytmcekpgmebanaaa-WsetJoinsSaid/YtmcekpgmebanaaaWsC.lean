/- Layer 19, the document's: Of, Cat. -/
import Derived.Test.YtmcekpgmebanaaaWsB
import Derived.Test.YtmcekpgmebanaaaWoR
import Derived.Test.YtmcekpgmebanaaaCatW
import Derived.Test.YtmcekpgmebanaaaWsCt
set_option linter.unusedVariables false
set_option linter.unusedSimpArgs false
namespace Go.Proofs.Ytmcekpgmebanaaa
open Go.RowKit

def OfRel (w : World) (l : Words) (v iv : Value) (wx : World) : Prop := ∃ i : Nat, i ≤ l.length ∧ iv = .int .i64 (i : Int) ∧ strsAt wx v (ofW (l.take i)) ∧ Fr [] w wx
set_option maxRecDepth 100000 in
set_option maxHeartbeats 1000000 in
theorem rof_any (l : Words) (v : Value) (w : World) (h : strsAt w v l) (hl : l.length ≤ 1000000) (hs : ∀ y ∈ l, y.length ≤ maxLen) :
    Calls Try.prog 12 #[v] w (GotS (ofW l) w) := by
  obtain ⟨a0, c0, rfl, hle, hmx⟩ := h.form
  have HL := Lib.hid h
  have HS := Lib.hid hs
  clear h hs
  go_enter Try.func12, Try.ntmps12
  go_wp2_with fail
  go_loopw [3, 4] (OfRel w l) (fun _ iv _ => l.length - (intOf iv).toNat)
  case atStart => exact ⟨0, Nat.zero_le _, rfl, cellsAt.nil _, Fr.refl _ _⟩
  case round =>
    obtain ⟨i, hi, rfl, hst, hfr⟩ := hrel
    by_cases hin : i < l.length
    · have hd : decide (i < l.length) = true := decide_eq_true hin
      obtain ⟨b, off, rfl, hc⟩ := str_cell (HL.out.below hfr) i hin
      have hnx := ofW_next hin
      have hxm := HS.out _ (List.getElem_mem hin)
      obtain ⟨x, hx⟩ : ∃ x, x = l[i]'hin := ⟨_, rfl⟩
      rw [← hx] at hc hnx hxm
      have hlen := ofW_len (l.take i)
      rw [List.length_take] at hlen
      have hmem : ∀ y ∈ ofW (l.take i), y.length ≤ maxLen := fun y hy => HS.out y (List.mem_of_mem_take (mem_ofW.1 hy))
      have HP := Lib.hid (rput_any (ofW (l.take i)) x u3 wr hst (by omega) hmem hxm)
      have HNX := Lib.hid hnx
      have HFR := Lib.hid hfr
      clear hnx hxm hx hlen hmem hst hfr
      go_wp2_with (go_at_call 26; refine HP.out.mono ?_; rintro e w5 ⟨v5, rfl, hs5, hf5⟩)
      go_roundw
      case rel => exact ⟨i + 1, by omega, by go_num, by rw [HNX.out]; exact hs5, HFR.out.trans hf5 (by simp) (by simp)⟩
      case measure => simp [intOf]; omega
    · have hd : decide (i < l.length) = false := decide_eq_false hin
      obtain rfl : i = l.length := by omega
      rw [List.take_length] at hst
      have HR := Lib.hid hst
      have HFR := Lib.hid hfr
      clear hst hfr
      go_wp2_with fail
      go_ret
      exact ⟨_, rfl, HR.out, HFR.out⟩
end Go.Proofs.Ytmcekpgmebanaaa
