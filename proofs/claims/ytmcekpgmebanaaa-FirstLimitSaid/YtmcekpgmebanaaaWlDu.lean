/- The program: Union. (Split out of WlD.) -/
import Derived.Test.YtmcekpgmebanaaaWa
import Derived.Test.YtmcekpgmebanaaaWlDp
import Derived.Test.YtmcekpgmebanaaaWq
set_option linter.unusedVariables false
set_option linter.unusedSimpArgs false
namespace Go.Proofs.Ytmcekpgmebanaaa
open Go.RowKit Go.Maps Go.Sort

set_option maxRecDepth 100000 in
set_option maxHeartbeats 1000000 in
theorem prog_wunion : ProgWUnion := by
  intro ls v w h hs hsh
  have hcount := pcount_any 1 ls v w (by decide) (by decide) h (by have := hsh.1; omega) (fun l hl x hx => hsh.max x (List.mem_flatten.2 ⟨l, hl, hx⟩))
  obtain ⟨a0, c0, rfl, -, -⟩ := h.form
  have HC := Lib.hid hcount
  have hle : (fndW 1 ls.flatten).length ≤ 2000000000 := by have := fndW_len (t := 1) (by decide) ls.flatten; have := hsh.1; omega
  have HLE := Lib.hid hle
  clear h hs hsh hcount hle
  go_enter Try.func18, Try.ntmps18
  go_wp2_with (first
    | (go_at_call 24; refine HC.out.mono ?_; rintro e w1 ⟨p, mb, fv, rfl, hT, hF⟩; have HS := Lib.hid (pset_any _ p mb 1 _ fv w1 hT HLE.out); have HT := Lib.hid hT; have HF := Lib.hid hF; clear hT hF)
    | (go_at_call 25; refine HS.out.mono ?_; rintro e w2 hg; have HG := Lib.hid (pdone HT.out HF.out (fnd_one _) hg); clear hg; obtain ⟨v2, rfl, hs2, hf2⟩ := HG.out; obtain ⟨a2, c2, rfl, -, -⟩ := hs2.form))
  go_ret
  exact ⟨_, rfl, hs2, hf2⟩
end Go.Proofs.Ytmcekpgmebanaaa
