/- Contract of frame.Seal. -/
import Derived.Test.YtijdffpekonklaaFraA
import Derived.Test.YtijdffpekonklaaOctRaw
import Derived.Test.YtijdffpekonklaaVarB
namespace Go.Proofs.Ytijdffpekonklaa
open Go.RowKit

theorem bytesAt.slice {w : World} {v : Value} {bs : List UInt8} (h : bytesAt w v bs) : ∃ a n c, v = .slice a n c := by
  obtain ⟨a, c, rfl, -, -⟩ := h.form
  exact ⟨_, _, _, rfl⟩
/-- Bytes that the call has made, and no error. -/
def Sealed (w : World) (bs : List UInt8) (e : Ending) (w' : World) : Prop := ∃ v, e = .returned (.tuple #[v, .int .i64 0]) ∧ bytesAt w' v bs ∧ Fr [] w w'
set_option maxRecDepth 100000 in
theorem seal_any (k : UInt8) (load : List UInt8) (sv : Value) (w : World) (h : bytesAt w sv load) (hl : load.length ≤ 1000000) :
    Calls Try.prog 8 #[.int .u8 (k.toNat : Int), sv] w (Sealed w (sealF k load)) := by
  obtain ⟨i, hi, hz0, hz1, hz2⟩ := info_parts infoB
  obtain ⟨a0, c0, rfl, hle, hmx⟩ := h.form
  have hlt := h.lt
  have hd1 : decide (1048576 < (load.length : Int)) = false := decide_eq_false (by omega)
  have HB := Lib.hid h
  have hfl := form_len10 load.length (by omega)
  have hnew : (w.alloc (.cells #[.int .u8 (k.toNat : Int)] 5)).ownsRow w.heap.size 5 1 (.slice (some ⟨w.heap.size, 0, none⟩) 1 1) [k].length (cellsB [k]) :=
    owns_of_heap (cur := [.int .u8 (k.toNat : Int)]) (heap_alloc_new w _) (Nat.le_refl _) rfl (Nat.le_refl _) (by simp [maxLen]) rfl
  have HN := Lib.hid hnew
  have hnums := numsAt_new (w.alloc (.cells #[.int .u8 (k.toNat : Int)] 5)) [load.length] 32 1 rfl (by simp [maxLen]) #[.int .u64 (load.length : Int)] rfl
  rw [World.size_alloc] at hnums
  have hlist := list_any [load.length] _ _ hnums (by simp; omega) (by simp)
  rw [forms_one] at hlist
  have HL := Lib.hid hlist
  have hbody : [k] ++ form load.length ++ load = bodyF k load := rfl
  have HBo := Lib.hid hbody
  have HLT := Lib.hid hlt
  have hsz0 : ∀ x y : Obj, w.heap.size ≤ ((w.alloc x).alloc y).heap.size := by intro x y; simp; omega
  clear h hnew hbody hlt hnums hlist
  go_enter Try.func8, Try.ntmps8
  go_wp2_with (first
    | (go_at_call 18; refine HL.out.mono ?_; rintro e w1 ⟨v1, rfl, hown1, hf1⟩; have hb1 := bytesAt_of_owns hown1; have hn1 := owns_kept (owns_kept HN.out (Fr.alloc _ _) (by simp)) hf1 (by simp); have hs1 := Nat.le_trans (hsz0 _ _) hf1.size)
    | (at_builtin; refine wpL_append rfl (.tmp 12) (.tmp 17) 22 rfl w.heap.size 5 i (.int .u8 0) Try.underlying22 hi hz0 hz1 hz2 rfl _ [k] rfl hn1 _ (form load.length) rfl hb1 (by simp; omega) hs1 ?_; intro v2 w2 hown2 hf2 hb2; clear hb2; obtain ⟨a2, n2, c2, rfl⟩ := (bytesAt_of_owns hown2).slice)
    | (go_at_call 19; refine (write_any _).mono ?_; rintro e w3 ⟨p, rfl, hw3, hf3, hp3⟩))
  have hlt2 := hown2.lt
  have hf2' : Fr [w.heap.size] w1 w2 := hf2
  have hf02 : Fr [] w w2 := (((Fr.alloc w _).trans (Fr.alloc _ _) (by simp) (n := []) (by simp)).trans hf1 (by simp) (n := []) (by simp)).trans hf2' (by simp) (by simp)
  have hf03 : Fr [] w w3 := hf02.trans hf3 (by simp) (by simp)
  have hh3 := (bytesAt_of_owns hown2).below hf3
  have hpw : w.heap.size ≤ p := Nat.le_trans hf02.size hp3
  clear hown2 hf1 hf2 hf2' hn1 hb1 hown1 HL HN hsz0 hs1
  obtain ⟨H, hH⟩ : ∃ H, H = [k] ++ form load.length := ⟨_, rfl⟩
  rw [← hH] at hh3 HBo
  have hHl : H.length ≤ 11 := by rw [hH]; simp; omega
  have hparts := partsAt_new2 w3 _ _ _ _ 22 hh3 (HB.out.below hf03)
  have hcrc := of_any _ _ _ hparts
  rw [show ([H, load] : List (List UInt8)).flatten = bodyF k load from by simpa using HBo.out] at hcrc
  have HC := Lib.hid hcrc
  have HH3 := Lib.hid hh3
  have HF := Lib.hid hf03
  have HW3 := Lib.hid hw3
  have HLT2 := Lib.hid hlt2
  have hcl : crcOf (bodyF k load) < 4294967296 := by unfold crcOf; omega
  obtain ⟨s, hs⟩ : ∃ s, s = crcOf (bodyF k load) := ⟨_, rfl⟩
  rw [← hs] at HC hcl
  have HS := Lib.hid hs
  have hfin : ([H, load, sum4 s] : List (List UInt8)).flatten = sealF k load := by rw [sealF, ← hs, ← HBo.out]; simp
  have HFin := Lib.hid hfin
  clear hparts hcrc hh3 hf02 hf03 hf3 hw3 hlt2 hH hs hfin
  go_wp2_with (first
    | (go_at_call 22; refine HC.out.mono ?_; rintro e w4 ⟨rfl, hf4⟩)
    | (go_at_call 21; refine (sumForm_any s _ hcl).mono ?_; rintro e w5 ⟨v5, rfl, hb5, hk5, hf5⟩; obtain ⟨a5, n5, c5, rfl⟩ := hb5.slice))
  have hf35 : Fr [] w3 w5 := ((Fr.alloc w3 _).trans hf4 (by simp) (n := []) (by simp)).trans hf5 (by simp) (by simp)
  have hp3 := HW3.out.lt.1
  have hs35 := hf35.size
  have hs34 : w3.heap.size ≤ w4.heap.size := ((Fr.alloc w3 _).trans hf4 (by simp) (n := []) (by simp)).size
  have hrows : rowsAt (p :: (none : Option Nat).toList) _ _ [H, load, sum4 s] := rowsAt_new [p] w5 [.slice a2 n2 c2, .slice a0 load.length c0, .slice a5 n5 c5] [H, load, sum4 s] 22 3 rfl rfl (by simp [maxLen]) (by simp; omega) (fun j hj hj' => by
    match j, hj with
    | 0, _ => exact ⟨HH3.out.below hf35, fun q hq _ => by have := (HLT2.out q hq).2; simp; omega⟩
    | 1, _ => exact ⟨(HB.out.below HF.out).below hf35, fun q hq hne => by have := HLT.out hne q hq; simp; omega⟩
    | 2, _ => exact ⟨hb5, fun q hq _ => by have := (hk5 q hq).1; simp; omega⟩)
  have hw6 : isW (w5.alloc (.cells #[.slice a2 n2 c2, .slice a0 load.length c0, .slice a5 n5 c5] 22)) p none [] := HW3.out.kept (hf35.trans (Fr.alloc w5 _) (by simp) (n := []) (by simp)) (by simp) (by simp)
  have hraw := raw_any p none [] _ _ _ hw6 hrows (by simp [sum4]; omega)
  rw [HFin.out, List.nil_append] at hraw
  have HR := Lib.hid hraw
  have hf06 : Fr [] w (w5.alloc (.cells #[.slice a2 n2 c2, .slice a0 load.length c0, .slice a5 n5 c5] 22)) := (HF.out.trans hf35 (by simp) (n := []) (by simp)).trans (Fr.alloc w5 _) (by simp) (by simp)
  have HF6 := Lib.hid hf06
  have hsl : (sealF k load).length ≤ 140737488355328 := by rw [sealF_length]; omega
  clear hraw hrows hw6 hb5 hk5 hf4 hf5 hf35 hf06 HC HH3 HF HW3 HLT2 HFin HS
  go_wp2_with (first
    | (go_at_call 20; refine HR.out.mono ?_; rintro e w7 ⟨rfl, g7, hw7, hf7, hg7⟩)
    | (go_at_call 23; refine (bytes_any p g7 _ _ hw7 hsl).mono ?_; rintro e w8 ⟨v8, rfl, hown8, hf8⟩))
  go_ret2
  have hf07 : Fr [] w w7 := HF6.out.trans hf7 (by simp) (by simp; omega)
  exact ⟨_, rfl, bytesAt_of_owns hown8, hf07.trans hf8 (by simp) (by simp)⟩

set_option maxRecDepth 100000 in
theorem seal_long (k : Int) (load : List UInt8) (sv : Value) (w : World) (h : bytesAt w sv load) (hl : 1048576 < load.length) :
    Calls Try.prog 8 #[.int .u8 k, sv] w fun e w' => e = .returned (.tuple #[.slice none 0 0, .int .i64 5]) ∧ w = w' := by
  obtain ⟨a0, c0, rfl, hle, hmx⟩ := h.form
  have hd1 : decide (1048576 < (load.length : Int)) = true := decide_eq_true (by omega)
  clear h
  go_enter Try.func8, Try.ntmps8
  go_wp2_with fail
  go_ret2
  exact ⟨rfl, rfl⟩
end Go.Proofs.Ytijdffpekonklaa
