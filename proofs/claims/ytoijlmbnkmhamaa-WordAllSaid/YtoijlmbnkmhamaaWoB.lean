/- Layer 18, the program's: a builder's Len and WriteByte; Cat. -/
import Derived.Test.YtoijlmbnkmhamaaWoA
import Derived.Test.YtoijlmbnkmhamaaBldA
import Derived.Test.YtoijlmbnkmhamaaStrsD
namespace Go.Proofs.Ytoijlmbnkmhamaa
open Go.RowKit

set_option maxHeartbeats 1000000 in
set_option maxRecDepth 100000 in
theorem blen_at {w0 w : World} {l : List UInt8} (h : BldAt w0 l w) :
    Calls Try.prog 16 #[.pointer (some ⟨w0.heap.size, 0, none⟩)] w fun e w' => e = .returned (.int .i64 (l.length : Int)) ∧ w = w' := by
  have key : ∃ p a cap, w.heap[w0.heap.size]? = some (.cells #[p, .slice a l.length cap] tB (0, 0)) := by
    have : ∃ p, Lib.BuilderAtF tB tU w0.heap.size w0.heap.size p (Lib.byteCells l) w := by
      rcases h.1 with h1 | h1
      · exact ⟨_, h1⟩
      · exact ⟨_, h1⟩
    obtain ⟨p, hB, v, hbk, hown, hne⟩ := this
    have hl : (Lib.byteCells l).length = l.length := by simp [Lib.byteCells]
    rw [hl] at hown
    rcases hown.2 with ⟨hv, h0⟩ | ⟨g, cap, cur, fz, hv, _⟩
    · exact ⟨p, none, 0, by rw [hbk, hv, h0]⟩
    · exact ⟨p, _, cap, by rw [hbk, hv]⟩
  obtain ⟨p, a, cap, hbk⟩ := key
  obtain ⟨b, hb⟩ : ∃ b, b = w0.heap.size := ⟨_, rfl⟩
  rw [← hb] at hbk ⊢
  have c1 : w.cell? ⟨b, 1, none⟩ = some (.slice a l.length cap) := by rw [Lib.cell_of_heap hbk]; rfl
  clear h hbk hb
  go_enter Try.func16, Try.ntmps16
  go_wp2_with fail
  go_ret
  exact ⟨rfl, rfl⟩
theorem cutW_app (a p : List UInt8) (k : Int) : cutW (a ++ p) k = cutW a k ++ cutW p (k - ((cutW a k).length : Int)) := by
  unfold cutW
  rw [List.take_append, List.length_take]
  congr 2
  omega
def CatRel (w0 : World) (k : Int) (parts : List (List UInt8)) (iv : Value) (wx : World) : Prop := ∃ i : Nat, i ≤ parts.length ∧ iv = .int .i64 (i : Int) ∧ BldAt w0 (cutW (parts.take i).flatten k) wx
theorem flat_short : ∀ (l : List (List UInt8)) (i : Nat), ((l.take i).flatten).length ≤ l.flatten.length
  | [], i => by simp
  | x :: l, 0 => by simp
  | x :: l, i + 1 => by have := flat_short l i; simp at this ⊢; omega
theorem flat_next {l : List (List UInt8)} {i : Nat} (h : i < l.length) : (l.take (i + 1)).flatten = (l.take i).flatten ++ l[i]'h := by
  rw [List.take_succ_eq_append_getElem h, List.flatten_append]
  simp
set_option maxRecDepth 100000 in
set_option maxHeartbeats 4000000 in
theorem wcat_any (k : Int) (hk1 : -9223372036854775808 ≤ k) (hk2 : k ≤ 9223372036854775807) (parts : List (List UInt8)) (hs : parts.flatten.length ≤ 1000000000) (v : Value) (w : World) (h : strsAt w v parts) :
    Calls Try.prog 9 #[.int .i64 k, v] w fun e w' => e = .returned (.string ⟨(cutW parts.flatten k).toArray⟩) ∧ Fr [] w w' := by
  obtain ⟨a1, c1, rfl, hc1, hm1⟩ := h.form
  have HL := Lib.hid h
  have HS := Lib.hid hs
  clear h hs
  go_enter Try.func9, Try.ntmps9
  go_upto_region 2 with fail
  have hnew := BldAt.new w
  obtain ⟨b, hb⟩ : ∃ b, b = w.heap.size := ⟨_, rfl⟩
  rw [← hb]
  generalize w.alloc (.cells #[.pointer none, .slice none 0 0] tB) = w1 at hnew ⊢
  have HB := Lib.hid hb
  have HNEW := Lib.hid hnew
  clear hb hnew
  go_wp2_with fail
  go_loopw [10] (CatRel w k parts) (fun iv _ => parts.length - (intOf iv).toNat)
  case atStart => exact ⟨0, Nat.zero_le _, rfl, by simpa [cutW] using HNEW.out⟩
  case round =>
    clear HNEW
    obtain ⟨i, hi, rfl, hbd⟩ := hrel
    have HBD := Lib.hid hbd
    by_cases hin : i < parts.length
    · have hd1 : decide (i < parts.length) = true := decide_eq_true hin
      obtain ⟨b1, off1, rfl, k0⟩ := str_cell HL.out i hin
      have r0 := hbd.base.cell k0 (by simp)
      have hfl := flat_short parts (i + 1)
      have hfn := flat_next hin
      obtain ⟨X, hX⟩ : ∃ X, X = parts[i]'hin := ⟨_, rfl⟩
      rw [← hX] at r0 hfn
      obtain ⟨T, hT⟩ : ∃ T, T = cutW (parts.take i).flatten k := ⟨_, rfl⟩
      have happ : cutW (parts.take (i + 1)).flatten k = T ++ cutW X (k - (T.length : Int)) := by rw [hfn, cutW_app, ← hT]
      have hT1 : T.length ≤ 1000000000 := by rw [hT]; unfold cutW; rw [List.length_take]; have := flat_short parts i; have := HS.out; omega
      have hT2 : T.length ≤ k.toNat := by rw [hT]; unfold cutW; rw [List.length_take]; omega
      have hXl : X.length ≤ 1000000000 := by rw [hfn, List.length_append] at hfl; have := HS.out; omega
      have hq1 : -9223372036854775808 ≤ k - (T.length : Int) := by omega
      have hq2 : k - (T.length : Int) ≤ 9223372036854775807 := by omega
      have hbt : BldAt w T wr := by rw [hT]; exact hbd
      have HLEN := Lib.hid (flip_same (blen_at hbt))
      obtain ⟨Y, hY⟩ : ∃ Y, Y = (cutW X (k - (T.length : Int))).toArray := ⟨_, rfl⟩
      have HCUT := Lib.hid (fun wx => wcut_any X (k - (T.length : Int)) wx)
      rw [← hY] at HCUT
      have HWR := Lib.hid (bwrite hbt hY (by unfold cutW; rw [List.length_take]; omega) _ rfl)
      rw [← HB.out] at HWR HLEN
      have HA := Lib.hid happ
      have HBT := Lib.hid hbt
      clear happ hT hbt hfl hfn hX hY hbd k0 HBD
      go_wp2_with (first
        | (go_at_call 16; refine (HLEN.out).mono ?_; rintro e w2 ⟨rfl, rfl⟩)
        | (go_at_call 7; refine (HCUT.out _).mono ?_; rintro e w2 ⟨rfl, rfl⟩)
        | (go_at_call 15; refine HWR.out.mono ?_; rintro e w3 ⟨rfl, hb3, -⟩))
      go_roundw
      case rel => exact ⟨i + 1, by omega, by go_num, by rw [HA.out]; exact hb3⟩
      case measure => simp [intOf]; omega
    · have hd1 : decide (i < parts.length) = false := decide_eq_false hin
      obtain rfl : i = parts.length := by omega
      have hbe : BldAt w (cutW parts.flatten k) wr := by simpa using hbd
      have HWE := Lib.hid (bstring hbe)
      rw [← HB.out] at HWE
      clear hbd HBD hbe
      go_wp2_with (go_at_call 17; refine HWE.out.mono ?_; rintro e w5 ⟨rfl, hb5⟩)
      go_ret
      refine ⟨rfl, Fr.of_below ?_⟩
      rw [← HB.out]
      exact hb5
end Go.Proofs.Ytoijlmbnkmhamaa
