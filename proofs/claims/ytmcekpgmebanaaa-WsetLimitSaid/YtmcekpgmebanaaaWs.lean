/- Several texts in one: WsHas, WsGo, WsPc, WsPu, WsPm, WsPo. -/
import Derived.LoopTactic
import Derived.BigQuiet
import Derived.WalkMore
import Derived.BigRegion
import Derived.Deep.DeepCutAuto
import Derived.Test.YtmcekpgmebanaaaMm
import Derived.Test.YtmcekpgmebanaaaDt
import Derived.Test.YtmcekpgmebanaaaBs
import Derived.Test.YtmcekpgmebanaaaProg
set_option linter.unusedVariables false
set_option linter.unusedSimpArgs false
/-! Layer 19, the document's Has. -/
namespace Go.Proofs.Ytmcekpgmebanaaa
open Go.RowKit


def WHasRel (w : World) (l : Words) (x : List UInt8) (i : Value) (wx : World) : Prop := ∃ k : Nat, k ≤ l.length ∧ i = .int .i64 (k : Int) ∧ w = wx ∧ ∀ j (_ : j < k) (h : j < l.length), (l[j]'h) ≠ x
set_option maxRecDepth 100000 in
theorem rhas_any (l : Words) (x : List UInt8) (v : Value) (w : World) (h : strsAt w v l) :
    Calls Try.prog 16 #[v, encStr x] w fun e w' => e = .returned (.bool (decide (x ∈ l))) ∧ w = w' := by
  obtain ⟨a0, c0, rfl, hle, hmx⟩ := h.form
  have HL := Lib.hid h
  obtain ⟨R, hR⟩ : ∃ R, R = decide (x ∈ l) := ⟨_, rfl⟩
  rw [← hR]
  have HR := Lib.hid hR
  clear h hR
  go_enter Try.func16, Try.ntmps16
  go_wp2_with fail
  go_loopw [5] (WHasRel w l x) (fun i _ => l.length - (intOf i).toNat)
  case atStart => exact ⟨0, Nat.zero_le _, rfl, rfl, fun j hj => by omega⟩
  case round =>
    obtain ⟨k, hk, rfl, rfl, hall⟩ := hrel
    have HA := Lib.hid hall
    clear hall
    by_cases hkn : k < l.length
    · have hd : decide (k < l.length) = true := decide_eq_true hkn
      obtain ⟨b, off, rfl, hc⟩ := str_cell HL.out k hkn
      obtain ⟨y, hy⟩ : ∃ y, y = l[k]'hkn := ⟨_, rfl⟩
      rw [← hy] at hc
      by_cases hxy : y = x
      · have hb : (y == x) = true := by rw [hxy]; simp
        have hRt : R = true := by rw [HR.out, ← hxy, hy]; exact decide_eq_true (List.getElem_mem hkn)
        subst hRt
        clear hxy hy
        go_wp2_with fail
        go_ret
        exact ⟨rfl, rfl⟩
      · have hb : (y == x) = false := by rw [beq_eq_false_iff_ne]; exact hxy
        have HNE := Lib.hid (show ∀ j (_ : j < k + 1) (h : j < l.length), (l[j]'h) ≠ x from fun j hj hjl => by
          by_cases e : j = k
          · subst e; rw [← hy]; exact hxy
          · exact HA.out j (by omega) hjl)
        clear hxy hy
        go_wp2_with fail
        go_roundw
        case rel => exact ⟨k + 1, by omega, by go_num, rfl, HNE.out⟩
        case measure => simp [intOf]; omega
    · have hd : decide (k < l.length) = false := decide_eq_false hkn
      have hRf : R = false := by
        rw [HR.out]
        refine decide_eq_false (fun hm => ?_)
        obtain ⟨j, hj, e⟩ := List.getElem_of_mem hm
        exact HA.out j (by omega) hj e
      subst hRf
      go_wp2_with fail
      go_ret
      exact ⟨rfl, rfl⟩
end Go.Proofs.Ytmcekpgmebanaaa

/-! What a function that answers with a set answers. (Split out of WsB.) -/
namespace Go.Proofs.Ytmcekpgmebanaaa
open Go.RowKit

/-- What is returned reads as these words. -/
def GotS (l : Words) (w : World) (e : Ending) (w' : World) : Prop := ∃ v, e = .returned v ∧ strsAt w' v l ∧ Fr [] w w'
end Go.Proofs.Ytmcekpgmebanaaa

/-! What Cat must do. (Split out of WsD.) -/
namespace Go.Proofs.Ytmcekpgmebanaaa
open Go.RowKit

/-- A set of at most 4096 words, and true; else nothing, and false. -/
def CatGot (l : Words) (w : World) (e : Ending) (w' : World) : Prop := ∃ v, e = .returned (.tuple #[v, .bool (decide (l.length ≤ 4096))]) ∧ strsAt w' v (if l.length ≤ 4096 then l else []) ∧ Fr [] w w'
def ProgWCat : Prop := ∀ (k : Int) (a b : Words) (v u : Value) (w : World), -9223372036854775808 ≤ k → k ≤ 9223372036854775807 → strsAt w v a → strsAt w u b → setW a → setW b → ShortW a → ShortW b → Calls Try.prog 20 #[.int .i64 k, v, u] w (CatGot (catW k a b) w)
/-- At most 4096. -/
def CatYes (l : Words) (w : World) (e : Ending) (w' : World) : Prop := ∃ v, e = .returned (.tuple #[v, .bool true]) ∧ strsAt w' v l ∧ Fr [] w w'
theorem CatGot.yes {l : Words} {w w' : World} {e : Ending} (h : CatGot l w e w') (hl : l.length ≤ 4096) : CatYes l w e w' := by
  obtain ⟨v, he, hs, hf⟩ := h
  rw [decide_eq_true hl] at he
  rw [if_pos hl] at hs
  exact ⟨v, he, hs, hf⟩
end Go.Proofs.Ytmcekpgmebanaaa

/-! What Union must do. (Split out of WsD.) -/
namespace Go.Proofs.Ytmcekpgmebanaaa
open Go.RowKit

def ProgWUnion : Prop := ∀ (ls : List Words) (v : Value) (w : World), setsAt w v ls → (∀ l ∈ ls, setW l) → ShortW ls.flatten → Calls Try.prog 18 #[v] w (GotS (ofW ls.flatten) w)
end Go.Proofs.Ytmcekpgmebanaaa

/-! What Meet must do. (Split out of WsD.) -/
namespace Go.Proofs.Ytmcekpgmebanaaa
open Go.RowKit

def ProgWMeet : Prop := ∀ (l m : Words) (v u : Value) (w : World), strsAt w v l → strsAt w u m → setW l → setW m → ShortW l → ShortW m → Calls Try.prog 19 #[v, u] w (GotS (l.filter fun x => decide (x ∈ m)) w)
end Go.Proofs.Ytmcekpgmebanaaa

/-! What Of must do. (Split out of WsD.) -/
namespace Go.Proofs.Ytmcekpgmebanaaa
open Go.RowKit

def ProgWOf : Prop := ∀ (l : Words) (v : Value) (w : World), strsAt w v l → ShortW l → Calls Try.prog 11 #[v] w (GotS (ofW l) w)
end Go.Proofs.Ytmcekpgmebanaaa
