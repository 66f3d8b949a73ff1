/- The law's same (layer 15). -/
import Derived.Test.YtamoalnbcmnciaaDt
import Derived.Test.YtamoalnbcmnciaaBs
import Derived.LoopTactic
import Derived.BigQuiet
import Derived.WalkMore
import Derived.Deep.DeepCutAuto
namespace Go.Proofs.Ytamoalnbcmnciaa
open Go.RowKit

def SmRel (w : World) (a b : List Bool) (iv : Value) (wx : World) : Prop := ∃ k : Nat, k ≤ a.length ∧ iv = .int .i64 (k : Int) ∧ (∀ j (_ : j < k) (h1 : j < a.length) (h2 : j < b.length), a[j]'h1 = b[j]'h2) ∧ Fr [] w wx
set_option maxRecDepth 100000 in
set_option maxHeartbeats 2000000 in
theorem lsame_any (a b : List Bool) (va vb : Value) (w : World) (h1 : boolsAt w va a) (h2 : boolsAt w vb b) : Calls Try.prog 13 #[va, vb] w fun e w' => e = .returned (.bool (decide (a = b))) ∧ Fr [] w w' := by
  obtain ⟨a0, c0, rfl, hle0, hmx0⟩ := h1.form
  obtain ⟨a1, c1, rfl, hle1, hmx1⟩ := h2.form
  obtain ⟨R, hR⟩ : ∃ R, R = decide (a = b) := ⟨_, rfl⟩
  rw [← hR]
  have HBAD := Lib.hid (show ¬ a = b → R = false from fun h => by rw [hR]; exact decide_eq_false h)
  have HGOOD := Lib.hid (show a = b → R = true from fun h => by rw [hR]; exact decide_eq_true h)
  have H1 := Lib.hid h1
  have H2 := Lib.hid h2
  clear h1 h2 hR
  obtain ⟨n, hn⟩ : ∃ n, n = a.length := ⟨_, rfl⟩
  obtain ⟨m, hm⟩ : ∃ n, n = b.length := ⟨_, rfl⟩
  rw [← hn] at H1 hle0 ⊢
  rw [← hm] at H2 hle1 ⊢
  have HN := Lib.hid hn
  have HM := Lib.hid hm
  clear hn hm
  by_cases t1 : n = m
  rotate_left
  · have d1 : ((n : Int) != (m : Int)) = true := by rw [bne_iff_ne]; omega
    have HX := Lib.hid (HBAD.out (fun e => t1 (by rw [HN.out, HM.out, e])))
    clear t1
    go_enter Try.func13, Try.ntmps13
    go_wp2_with fail
    go_ret
    exact ⟨by rw [HX.out]; rfl, Fr.refl _ _⟩
  have d1 : ((n : Int) != (m : Int)) = false := by rw [t1]; simp
  have HT1 := Lib.hid t1
  have he1 : n ≤ m := by omega
  clear t1
  go_enter Try.func13, Try.ntmps13
  go_wp2_with fail
  go_loopw [5] (SmRel w a b) (fun iv _ => n - (intOf iv).toNat)
  case atStart => exact ⟨0, Nat.zero_le _, rfl, fun j hj => by omega, Fr.refl _ _⟩
  case round =>
    obtain ⟨k, hk, rfl, hall, hf⟩ := hrel
    have hkn' : k ≤ n := by have := HN.out; omega
    have HA := Lib.hid hall
    have HF := Lib.hid hf
    clear hall
    by_cases hkn : k < n
    · have hd1 : decide (k < n) = true := decide_eq_true hkn
      have hka : k < a.length := by have := HN.out; omega
      have hkb : k < b.length := by have := HM.out; omega
      have hkm : k < m := by omega
      obtain ⟨b1, o1, rfl, p0⟩ := bool_cell (H1.out.below hf) k hka
      obtain ⟨b2, o2, rfl, p1⟩ := bool_cell (H2.out.below hf) k hkb
      obtain ⟨x, hx⟩ : ∃ x, x = a[k]'hka := ⟨_, rfl⟩
      obtain ⟨y, hy⟩ : ∃ y, y = b[k]'hkb := ⟨_, rfl⟩
      rw [← hx] at p0
      rw [← hy] at p1
      have HX0 := Lib.hid hx
      have HY0 := Lib.hid hy
      clear hx hy hf
      by_cases he : x = y
      · have e1 : (x == y) = true := by rw [he]; simp
        have HE := Lib.hid he
        clear he
        go_upto_region 6 with fail
        go_quiet (fail)
        go_wp2_with fail
        refine ⟨⟨k + 1, by omega, by go_num, fun j hj g1 g2 => ?_, HF.out.andDrewN _⟩, by simp [intOf]; omega⟩
        by_cases e : j = k
        · subst e; rw [← HX0.out, ← HY0.out]; exact HE.out
        · exact HA.out j (by omega) g1 g2
      · have e1 : (x == y) = false := by rw [beq_eq_false_iff_ne]; exact he
        have HX := Lib.hid (HBAD.out (fun e => he (by rw [HX0.out, HY0.out]; simp [e])))
        clear he
        go_upto_region 6 with fail
        go_quiet (fail)
        go_wp2_with fail
        go_ret
        exact ⟨by rw [HX.out]; rfl, HF.out.andDrewN _⟩
    · have hd1 : decide (k < n) = false := decide_eq_false hkn
      have HX := Lib.hid (HGOOD.out (List.ext_getElem (by rw [← HN.out, ← HM.out]; exact HT1.out) (fun j g1 g2 => HA.out j (by have := HN.out; omega) g1 g2)))
      clear hf hkn
      go_wp2_with fail
      go_ret
      exact ⟨by rw [HX.out]; rfl, HF.out⟩
end Go.Proofs.Ytamoalnbcmnciaa
