/- The program: Meet. (Split out of WlD.) -/
import Derived.Test.YtmcekpgmebanaaaWa
import Derived.Test.YtmcekpgmebanaaaWlDp
import Derived.Test.YtmcekpgmebanaaaWs
set_option linter.unusedVariables false
set_option linter.unusedSimpArgs false
namespace Go.Proofs.Ytmcekpgmebanaaa
open Go.RowKit Go.Maps Go.Sort

theorem sets_new2 (w : World) (e : TypeId) (v0 v1 : Value) (l0 l1 : Words) (h0 : strsAt w v0 l0) (h1 : strsAt w v1 l1) : setsAt (w.alloc (.cells #[v0, v1] e)) (.slice (some ⟨w.heap.size, 0, none⟩) 2 2) [l0, l1] := by
  have hf := Fr.alloc w (.cells #[v0, v1] e)
  refine ⟨[v0, v1], rfl, cellsAt_new w [v0, v1] e 2 rfl (by simp [maxLen]), fun i a b => ?_⟩
  match i, a with
  | 0, _ => exact h0.below hf
  | 1, _ => exact h1.below hf
set_option maxRecDepth 100000 in
set_option maxHeartbeats 1000000 in
theorem prog_wmeet : ProgWMeet := by
  intro l m v u w h hm sl sm hsh hsm
  obtain ⟨a0, c0, rfl, -, -⟩ := h.form
  obtain ⟨a1, c1, rfl, -, -⟩ := hm.form
  have hsets := sets_new2 w 22 _ _ l m h hm
  have hf1 := Fr.alloc w (.cells #[.slice a0 l.length c0, .slice a1 m.length c1] 22)
  have hlm : (l ++ m).length ≤ 200000 := by have := hsh.1; have := hsm.1; simp; omega
  have hcount := pcount_any 2 [l, m] _ _ (by decide) (by decide) hsets (by rw [show [l, m].flatten = l ++ m by simp]; omega) (fun z hz x hx => by
    simp at hz
    rcases hz with rfl | rfl
    · exact hsh.max x hx
    · exact hsm.max x hx)
  rw [show [l, m].flatten = l ++ m by simp] at hcount
  have hle : (fndW 2 (l ++ m)).length ≤ 2000000000 := by have := fndW_len (t := 2) (by decide) (l ++ m); omega
  have HC := Lib.hid hcount
  have HLE := Lib.hid hle
  have HF1 := Lib.hid hf1
  have HFN := Lib.hid (fnd_two sl sm)
  clear h hm hsh hsm hsets hcount hle hf1 hlm sl sm
  go_enter Try.func19, Try.ntmps19
  go_wp2_with (first
    | (go_at_call 24; refine HC.out.mono ?_; rintro e w1 ⟨p, mb, fv, rfl, hT, hF⟩; have HS := Lib.hid (pset_any _ p mb 2 _ fv w1 hT HLE.out); have HT := Lib.hid hT; have HF := Lib.hid hF; clear hT hF)
    | (go_at_call 25; refine HS.out.mono ?_; rintro e w2 hg; have HG := Lib.hid (pdone HT.out HF.out HFN.out hg); clear hg; obtain ⟨v2, rfl, hs2, hf2⟩ := HG.out; obtain ⟨a2, c2, rfl, -, -⟩ := hs2.form))
  go_ret
  exact ⟨_, rfl, hs2, HF1.out.trans hf2 (by simp) (by simp)⟩
end Go.Proofs.Ytmcekpgmebanaaa
