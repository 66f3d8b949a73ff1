/- The program's sets of words (layer 19): Of, Union, Meet. -/
import Derived.Test.YtmcekpgmebanaaaWa
import Derived.Test.YtmcekpgmebanaaaWsD
import Derived.Test.YtmcekpgmebanaaaWlDp
import Derived.Test.YtmcekpgmebanaaaWlDu
import Derived.Test.YtmcekpgmebanaaaWlDm
set_option linter.unusedVariables false
set_option linter.unusedSimpArgs false
namespace Go.Proofs.Ytmcekpgmebanaaa
open Go.RowKit Go.Maps Go.Sort

theorem sets_new1 (w : World) (e : TypeId) (v0 : Value) (l0 : Words) (h0 : strsAt w v0 l0) : setsAt (w.alloc (.cells #[v0] e)) (.slice (some ⟨w.heap.size, 0, none⟩) 1 1) [l0] := by
  refine ⟨[v0], rfl, cellsAt_new w [v0] e 1 rfl (by simp [maxLen]), fun i a b => ?_⟩
  match i, a with
  | 0, _ => exact h0.below (Fr.alloc w (.cells #[v0] e))
set_option maxRecDepth 100000 in
set_option maxHeartbeats 1000000 in
theorem prog_wof : ProgWOf := by
  intro l v w h hsh
  obtain ⟨a0, c0, rfl, -, -⟩ := h.form
  have hsets := sets_new1 w 22 _ l h
  have hf1 := Fr.alloc w (.cells #[.slice a0 l.length c0] 22)
  have hcount := pcount_any 1 [l] _ _ (by decide) (by decide) hsets (by have := hsh.1; simp; omega) (fun m hm x hx => by simp at hm; subst hm; exact hsh.max x hx)
  rw [show [l].flatten = l by simp] at hcount
  have hle : (fndW 1 l).length ≤ 2000000000 := by have := fndW_len (t := 1) (by decide) l; have := hsh.1; omega
  have HC := Lib.hid hcount
  have HLE := Lib.hid hle
  have HF1 := Lib.hid hf1
  clear h hsh hsets hcount hle hf1
  go_enter Try.func11, Try.ntmps11
  go_wp2_with (first
    | (go_at_call 24; refine HC.out.mono ?_; rintro e w1 ⟨p, mb, fv, rfl, hT, hF⟩; have HS := Lib.hid (pset_any _ p mb 1 _ fv w1 hT HLE.out); have HT := Lib.hid hT; have HF := Lib.hid hF; clear hT hF)
    | (go_at_call 25; refine HS.out.mono ?_; rintro e w2 hg; have HG := Lib.hid (pdone HT.out HF.out (fnd_one _) hg); clear hg; obtain ⟨v2, rfl, hs2, hf2⟩ := HG.out; obtain ⟨a2, c2, rfl, -, -⟩ := hs2.form))
  go_ret
  exact ⟨_, rfl, hs2, HF1.out.trans hf2 (by simp) (by simp)⟩
end Go.Proofs.Ytmcekpgmebanaaa
