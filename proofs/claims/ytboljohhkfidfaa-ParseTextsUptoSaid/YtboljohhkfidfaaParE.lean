/- The statements' alike (layer 13), of the same lines. -/
import Derived.Test.YtboljohhkfidfaaParDat
import Derived.LoopTactic
import Derived.BigQuiet
import Derived.Deep.DeepCutAuto
namespace Go.Proofs.Ytboljohhkfidfaa
open Go.RowKit

def CntRel (w : World) (n : Nat) (iv : Value) (wx : World) : Prop := ∃ k : Nat, k ≤ n ∧ iv = .int .i64 (k : Int) ∧ Fr [] w wx
set_option maxRecDepth 100000 in
set_option maxHeartbeats 4000000 in
theorem alike_any (l : List LineD) (va vb : Value) (w : World) (h1 : linesAt w va l) (h2 : linesAt w vb l) : Calls Try.prog 9 #[va, vb] w fun e w' => e = .returned (.bool true) ∧ Fr [] w w' := by
  obtain ⟨a1, c1, rfl, hc1, hm1⟩ := h1.form
  obtain ⟨a2, c2, rfl, hc2, hm2⟩ := h2.form
  have H1 := Lib.hid h1
  have H2 := Lib.hid h2
  have x1 : ((l.length : Int) != (l.length : Int)) = false := by simp
  clear h1 h2
  go_enter Try.func9, Try.ntmps9
  go_wp2_with fail
  go_loopw [5] (CntRel w l.length) (fun iv _ => l.length - (intOf iv).toNat)
  case atStart => exact ⟨0, Nat.zero_le _, rfl, Fr.refl _ _⟩
  case round =>
    obtain ⟨i, hi, rfl, hf⟩ := hrel
    have HF := Lib.hid hf
    by_cases hin : i < l.length
    · have hd1 : decide (i < l.length) = true := decide_eq_true hin
      obtain ⟨b1, o1, ua, rfl, k0, k1, hal⟩ := line_cells H1.out i hin
      obtain ⟨b2, o2, ub, rfl, m0, m1, hbl⟩ := line_cells H2.out i hin
      obtain ⟨L, hLe⟩ : ∃ L, L = l[i]'hin := ⟨_, rfl⟩
      rw [← hLe] at k0 hal m0 hbl
      obtain ⟨nm, al⟩ := L
      simp only at k0 hal m0 hbl
      obtain ⟨a3, c3, rfl, hc3, hm3⟩ := hal.form
      obtain ⟨a4, c4, rfl, hc4, hm4⟩ := hbl.form
      have x2 : ((al.length : Int) != (al.length : Int)) = false := by simp
      have HK1 := Lib.hid k1
      have HM1 := Lib.hid m1
      have HA := Lib.hid hal
      have HB := Lib.hid hbl
      have r0 := hf.cell k0 (by simp)
      have r1 := hf.cell k1 (by simp)
      have s0 := hf.cell m0 (by simp)
      have s1 := hf.cell m1 (by simp)
      clear hLe k0 k1 m0 m1 hal hbl hf
      go_upto_region 6 with fail
      go_quiet (fail)
      have HF6 := Lib.hid (HF.out.andDrewN nq)
      generalize hwq : wr.drewN nq = wq at HF6 ⊢
      clear hwq r0 r1 s0 s1
      go_wp2_with fail
      go_loopw [6] (CntRel w al.length) (fun iv _ => al.length - (intOf iv).toNat)
      case atStart => exact ⟨0, Nat.zero_le _, rfl, HF6.out⟩
      case round =>
        obtain ⟨k, hk, rfl, hf2⟩ := hrel
        have HF2 := Lib.hid hf2
        have r1 := hf2.cell HK1.out (by simp)
        have s1 := hf2.cell HM1.out (by simp)
        by_cases hkn : k < al.length
        · have hd2 : decide (k < al.length) = true := decide_eq_true hkn
          obtain ⟨b3, o3, wa, rfl, p0, hia⟩ := alt_cells HA.out k hkn
          obtain ⟨b4, o4, wb, rfl, t0, hib⟩ := alt_cells HB.out k hkn
          obtain ⟨its, hits⟩ : ∃ its, its = al[k]'hkn := ⟨_, rfl⟩
          rw [← hits] at hia hib
          obtain ⟨a5, c5, rfl, hc5, hm5⟩ := hia.form
          obtain ⟨a6, c6, rfl, hc6, hm6⟩ := hib.form
          have x3 : ((its.length : Int) != (its.length : Int)) = false := by simp
          have r2 := hf2.cell p0 (by simp)
          have s2 := hf2.cell t0 (by simp)
          have HIA := Lib.hid hia
          have HIB := Lib.hid hib
          clear hits p0 t0 hia hib hf2
          go_wp2_with fail
          go_loopw [9] (CntRel w its.length) (fun iv _ => its.length - (intOf iv).toNat)
          case atStart => exact ⟨0, Nat.zero_le _, rfl, HF2.out⟩
          case round =>
            obtain ⟨n, hn, rfl, hf3⟩ := hrel
            have HF3 := Lib.hid hf3
            by_cases hnn : n < its.length
            · have hd3 : decide (n < its.length) = true := decide_eq_true hnn
              obtain ⟨b5, o5, rfl, i0, i1⟩ := item_cells HIA.out n hnn
              obtain ⟨b6, o6, rfl, j0, j1⟩ := item_cells HIB.out n hnn
              obtain ⟨it, hite⟩ : ∃ it, it = its[n]'hnn := ⟨_, rfl⟩
              rw [← hite] at i0 i1 j0 j1
              obtain ⟨tb, tx⟩ := it
              simp only at i0 i1 j0 j1
              have g0 := hf3.cell i0 (by simp)
              have g1 := hf3.cell i1 (by simp)
              have e0 := hf3.cell j0 (by simp)
              have e1 := hf3.cell j1 (by simp)
              clear hite i0 i1 j0 j1 hf3 r1 s1 r2 s2
              go_upto_region 18 with fail
              go_quiet (fail)
              go_wp2_with fail
              exact ⟨⟨n + 1, by omega, by go_num, HF3.out.andDrewN _⟩, by simp [intOf]; omega⟩
            · have hd3 : decide (n < its.length) = false := decide_eq_false hnn
              clear hf3 r1 s1 r2 s2
              go_wp2_with fail
              exact ⟨⟨k + 1, by omega, by go_num, HF3.out⟩, by simp [intOf]; omega⟩
        · have hd2 : decide (k < al.length) = false := decide_eq_false hkn
          clear hf2
          go_wp2_with fail
          exact ⟨⟨i + 1, by omega, by go_num, HF2.out⟩, by simp [intOf]; omega⟩
    · have hd1 : decide (i < l.length) = false := decide_eq_false hin
      clear hf
      go_wp2_with fail
      go_ret
      exact ⟨rfl, HF.out⟩
end Go.Proofs.Ytboljohhkfidfaa
