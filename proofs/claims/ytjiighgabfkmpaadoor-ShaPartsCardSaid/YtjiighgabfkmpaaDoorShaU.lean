/- The document's answers above, root, Root, Begin. -/
import Derived.Test.YtjiighgabfkmpaaDoorShaT
namespace Go.Proofs.YtjiighgabfkmpaaDoor
open Go.RowKit

set_option maxRecDepth 100000 in
theorem ref_above_any (l : List Nat) (p z : Nat) (va : Value) (w : World) (ha : numsAt64 w va l) (hz : z < l.length) (hd : ∀ x ∈ l, x < 65536) (hp : p < 65536) (hl : l.length ≤ 1000) :
    Calls Tryd.prog 32 #[va, .int .u64 p, .int .i64 z] w fun e w' => e = .returned (.bool (aboveN l p z)) ∧ w = w' := by
  obtain ⟨g, rfl, hg⟩ := ha
  have HG := Lib.hid hg
  have HD := Lib.hid hd
  clear hg hd
  obtain ⟨r, hr⟩ : ∃ r, r = aboveN l p z := ⟨_, rfl⟩
  rw [← hr]
  have HR := Lib.hid hr
  clear hr
  go_enter Tryd.func32, Tryd.ntmps32
  go_wp2_with fail
  go_loop [7] (fun vi => ∃ i : Nat, z ≤ i ∧ i < l.length ∧ vi = .int .i64 (i : Int) ∧ ∀ j (hj : j < l.length), i < j → l[j]'hj = 0) (fun vi => (intOf vi).toNat)
  case atStart => exact ⟨l.length - 1, by omega, by omega, by go_num, fun j hj h => by omega⟩
  case round =>
    obtain ⟨i, hzi, hi, rfl, hh⟩ := hrel
    obtain ⟨x, hx⟩ : ∃ x, x = l[i]'hi := ⟨_, rfl⟩
    have hc : w.cell? ⟨g, i, none⟩ = some (.int .u64 (x : Int)) := by rw [cell_of_heap HG.out, nums64_get _ _ hi, hx]
    by_cases hiz : z < i
    · have hd1 : decide (z < i) = true := decide_eq_true hiz
      by_cases hx0 : 0 < x
      · have hd2 : decide (0 < x) = true := decide_eq_true hx0
        have habove := above_high l p z hz hp i hiz hi (by rw [← hx]; exact hx0)
        have HA := Lib.hid habove
        have HH := Lib.hid hh
        clear habove hx hh
        go_wp2_with fail
        go_ret
        exact ⟨by rw [HR.out, HA.out]; rfl, rfl⟩
      · have hd2 : decide (0 < x) = false := decide_eq_false hx0
        have hh2 : ∀ j (hj : j < l.length), i - 1 < j → l[j]'hj = 0 := fun j hj h => by
          by_cases e : j = i
          · subst e; omega
          · exact hh j hj (by omega)
        have HH := Lib.hid hh2
        clear hx hh hh2
        go_wp2_with fail
        go_round
        case rel => exact ⟨i - 1, by omega, by omega, by go_num, HH.out⟩
        case measure => simp [intOf]; omega
    · have hd1 : decide (z < i) = false := decide_eq_false hiz
      have hiz' : i = z := by omega
      have hh3 : ∀ j (hj : j < l.length), z < j → l[j]'hj = 0 := fun j hj h => hh j hj (by omega)
      have hxz : x = l[z]'hz := by rw [hx]; congr 1
      have hcz : w.cell? ⟨g, z, none⟩ = some (.int .u64 (x : Int)) := by rw [← hiz']; exact hc
      have HH := Lib.hid hh3
      have HXZ := Lib.hid hxz
      have HIZ := Lib.hid hiz'
      clear hh hh3 hx hxz hc hiz'
      by_cases hne : x = p
      · have hdn : ((x : Int) != (p : Int)) = false := by rw [bne_eq_false_iff_eq]; omega
        have HNE := Lib.hid hne
        clear hne
        go_wp2_with fail
        go_loop [8] (fun vi => ∃ i : Nat, i ≤ z ∧ vi = .int .i64 (i : Int) ∧ ∀ j (hj : j < l.length), j < i → l[j]'hj = 0) (fun vi => z - (intOf vi).toNat)
        case atStart => exact ⟨0, by omega, rfl, fun j hj h => by omega⟩
        case round =>
          obtain ⟨k, hkz, rfl, hh⟩ := hrel
          by_cases hk : k < z
          · have hdk : decide (k < z) = true := decide_eq_true hk
            have hkl : k < l.length := by omega
            obtain ⟨y, hy⟩ : ∃ y, y = l[k]'hkl := ⟨_, rfl⟩
            have hcy : w.cell? ⟨g, k, none⟩ = some (.int .u64 (y : Int)) := by rw [cell_of_heap HG.out, nums64_get _ _ hkl, hy]
            by_cases hy0 : 0 < y
            · have hd2 : decide (0 < y) = true := decide_eq_true hy0
              have habove := above_low l p z hz HH.out (by rw [← HXZ.out, HNE.out]) k hk (by rw [← hy]; exact hy0)
              have HA := Lib.hid habove
              have HH2 := Lib.hid hh
              clear habove hy hh
              go_wp2_with fail
              go_ret
              exact ⟨by rw [HR.out, HA.out]; rfl, rfl⟩
            · have hd2 : decide (0 < y) = false := decide_eq_false hy0
              have hh2 : ∀ j (hj : j < l.length), j < k + 1 → l[j]'hj = 0 := fun j hj h => by
                by_cases e : j = k
                · subst e; omega
                · exact hh j hj (by omega)
              have HH2 := Lib.hid hh2
              clear hy hh hh2
              go_wp2_with fail
              go_round
              case rel => exact ⟨k + 1, by omega, by go_num, HH2.out⟩
              case measure => simp [intOf]; omega
          · have hdk : decide (k < z) = false := decide_eq_false hk
            have habove := above_none l p z hz HH.out (by rw [← HXZ.out, HNE.out]) (fun j hj => hh j (by omega) (by omega))
            have HA := Lib.hid habove
            clear habove hh
            go_wp2_with fail
            go_ret
            exact ⟨by rw [HR.out, HA.out]; rfl, rfl⟩
      · have hdn : ((x : Int) != (p : Int)) = true := by rw [bne_iff_ne]; omega
        have habove := above_mid l p z hz HD.out HH.out (by rw [← HXZ.out]; exact hne)
        rw [← HXZ.out] at habove
        have HA := Lib.hid habove
        clear habove hne
        go_wp2_with fail
        go_ret
        refine ⟨?_, rfl⟩
        rw [HR.out, HA.out]
        exact congrArg (fun b : Bool => Ending.returned (Value.bool b)) (decide_eq_decide.2 (by omega))
end Go.Proofs.YtjiighgabfkmpaaDoor
