/- Stage 17: the variables that keys reach (hex's digits, the library's table of powers, its two errors, MaxLen), and the library's Itoa, Atoi and Cut in one word each. -/
import Derived.Test.YtjlkcdmeiakkbaaGreatDoorHexA
import Derived.Lib.AppendIntMem
import Derived.Test.YtjlkcdmeiakkbaaGreatDoorMk
import Derived.Test.YtjlkcdmeiakkbaaGreatDoorShelf
set_option linter.unusedVariables false
set_option linter.unusedSimpArgs false
namespace Go.Proofs.YtjlkcdmeiakkbaaGreatDoor
open Go.RowKit

/-- What the variables hold. -/
structure VarsAt (w : World) : Prop where
  digs : digsAt w
  tab : Lib.TabIs Tryz.prog w "internal/strconv.uint64pow10" .u64 Lib.pow10Tab
  len : ∃ m, w.cell? ⟨2, 0, none⟩ = some (.int .i64 m)
  syn : ∃ t p, w.cell? ⟨3, 0, none⟩ = some (.iface t p)
  rng : ∃ t p, w.cell? ⟨4, 0, none⟩ = some (.iface t p)

theorem gPow : Tryz.prog.globalNamed "internal/strconv.uint64pow10" = some 5 := by kernel_rfl
theorem tab_below {w w' : World} (h : Lib.TabIs Tryz.prog w "internal/strconv.uint64pow10" .u64 Lib.pow10Tab) (hf : Fr [] w w') : Lib.TabIs Tryz.prog w' "internal/strconv.uint64pow10" .u64 Lib.pow10Tab :=
  Lib.tabBelow_of_tabIs h w' (hf.below (Nat.le_refl _) (by simp))
theorem VarsAt.below {w w' : World} (h : VarsAt w) (hf : Fr [] w w') : VarsAt w' where
  digs := h.digs.below hf
  tab := tab_below h.tab hf
  len := let ⟨m, hm⟩ := h.len; ⟨m, hf.cell hm (by simp)⟩
  syn := let ⟨t, p, hm⟩ := h.syn; ⟨t, p, hf.cell hm (by simp)⟩
  rng := let ⟨t, p, hm⟩ := h.rng; ⟨t, p, hf.cell hm (by simp)⟩

theorem Fr.grow (w : World) (n : Nat) (os : Array Obj) : Fr [] w (Go.Sort.grow (w.drewN n) os) := by
  refine ⟨rfl, rfl, rfl, ?_, fun k hk _ => ?_⟩
  · show w.heap.size ≤ (w.heap ++ os).size
    simp
  · show (w.heap ++ os)[k]? = w.heap[k]?
    rw [Array.getElem?_append_left hk]

/-- strconv.Itoa. -/
theorem itoa_any (n : Int) (h0 : -9223372036854775808 ≤ n) (h1 : n ≤ 9223372036854775807) (w : World) (hv : VarsAt w) :
    Calls Tryz.prog 45 #[.int .i64 n] w fun e w' => e = .returned (.string ⟨(Lib.itoa n).toArray⟩) ∧ Fr [] w w' :=
  (Tryz.strconv_Itoa n h0 h1 w hv.tab).mono fun e w' ⟨he, k, os, hw⟩ => ⟨he, by rw [hw]; exact Fr.grow w k os⟩
/-- strconv.Itoa below 100. -/
theorem itoa_small (k : Nat) (h : k < 100) (w : World) :
    Calls Tryz.prog 45 #[.int .i64 k] w fun e w' => e = .returned (.string ⟨(Lib.itoa (k : Int)).toArray⟩) ∧ w = w' :=
  (Tryz.strconv_Itoa_small k h w).mono fun e w' ⟨he, hw⟩ => ⟨by rw [he]; unfold Lib.itoa; rw [if_neg (by omega)]; rfl, hw.symm⟩

/-- strconv.Atoi: the number, whatever error stands beside it. -/
def AtoiRet (s : List UInt8) (w : World) (e : Ending) (w' : World) : Prop := (∃ ev, e = .returned (.tuple #[.int .i64 (atoiV s), ev]) ∧ ev.oneCell' = true) ∧ Fr [] w w'
theorem atoi_any (s : List UInt8) (hl : s.length ≤ 1000000) (w : World) (hv : VarsAt w) :
    Calls Tryz.prog 43 #[.string ⟨s.toArray⟩] w (AtoiRet s w) := by
  have hz : (⟨s.toArray⟩ : ByteArray).size = s.length := by simp [ByteArray.size]
  have hd : (⟨s.toArray⟩ : ByteArray).data.toList = s := by simp
  unfold AtoiRet atoiV
  cases h : Lib.atoiAll s with
  | ok v =>
    refine (Tryz.strconv_Atoi_ok ⟨s.toArray⟩ (by omega) v (by rw [hd]; exact h) w).mono fun e w' ⟨he, hw⟩ => ⟨⟨_, he, rfl⟩, ?_⟩
    rcases hw with rfl | ⟨t, rfl⟩
    · exact Fr.refl _ _
    · exact Fr.of_below (Lib.bytesWorld_below _ _ _)
  | range =>
    obtain ⟨t, p, hm⟩ := hv.rng
    refine (Tryz.strconv_Atoi_range ⟨s.toArray⟩ (by omega) (by rw [hd]; exact h) _ w hm (.inr ⟨_, _, rfl⟩)).mono fun e w' hh => ?_
    obtain ⟨N, he, -, -, hb⟩ := hh
    rw [hd] at he
    exact ⟨⟨_, he, rfl⟩, Fr.of_below hb⟩
  | _ =>
    obtain ⟨t, p, hm⟩ := hv.syn
    have hA := Any.strconv_Atoi_syntax Tryz.laysC172 ⟨s.toArray⟩ (by omega) (by rw [hd]; exact h) _ w hm (.inr ⟨_, _, rfl⟩)
    refine Calls.mono (f := 43) hA fun e w' hh => ?_
    obtain ⟨N, he, -, -, hb⟩ := hh
    exact ⟨⟨_, he, rfl⟩, Fr.of_below hb⟩

/-- strings.Cut at a dash. -/
theorem cut_any (s : List UInt8) (hl : s.length ≤ 1000000) (w : World) (hv : VarsAt w) :
    Calls Tryz.prog 41 #[.string ⟨s.toArray⟩, .string ⟨#[45]⟩] w fun e w' =>
      e = .returned (.tuple #[.string ⟨(Lib.cut s [45]).1.toArray⟩, .string ⟨(Lib.cut s [45]).2.1.toArray⟩, .bool (Lib.cut s [45]).2.2]) ∧ Fr [] w w' := by
  obtain ⟨m, hm⟩ := hv.len
  have hz : (⟨s.toArray⟩ : ByteArray).size = s.length := by simp [ByteArray.size]
  have hd : (⟨s.toArray⟩ : ByteArray).data.toList = s := by simp
  have h := Tryz.strings_Cut ⟨s.toArray⟩ ⟨#[45]⟩ m w (by omega) hm
  rw [hd] at h
  refine h.mono fun e w' ⟨he, n, hw⟩ => ⟨he, ?_⟩
  rw [hw]
  exact (Fr.refl [] w).andDrewN n

/-! ### Keys and names as values -/

def keyC (h : List UInt8) (k : Int) : Array Value := (cellsB h ++ [Value.int .i64 k]).toArray
def nameC (x : NameD) : Array Value := (Value.int .i64 x.kd :: (cellsB x.h ++ [Value.int .i64 x.k, Value.int .i64 x.n])).toArray
theorem keyC_size {h : List UInt8} {k : Int} (hl : h.length = 32) : (keyC h k).size = 33 := by simp [keyC, cellsB_length, hl]
theorem nameC_size {x : NameD} (hl : x.h.length = 32) : (nameC x).size = 35 := by simp [nameC, cellsB_length, hl]
theorem sizeK {h : List UInt8} {k : Int} (hl : h.length = 32) : (Tryz.prog.info? 30).map (·.size) = some (keyC h k).size := by
  rw [keyC_size hl]; kernel_rfl
theorem sizeN {x : NameD} (hl : x.h.length = 32) : (Tryz.prog.info? 39).map (·.size) = some (nameC x).size := by
  rw [nameC_size hl]; kernel_rfl
theorem sizeH {h : List UInt8} (hl : h.length = 32) : (Tryz.prog.info? 28).map (·.size) = some (cellsB h).toArray.size := by
  rw [bytesC_size, hl]; kernel_rfl
theorem keyC_one (h : List UInt8) (k : Int) : (keyC h k).all (·.oneCell') = true := by
  simp only [keyC, Array.all_eq_true_iff_forall_mem]
  intro u hu
  simp only [List.mem_toArray, List.mem_append, List.mem_singleton] at hu
  rcases hu with hu | rfl
  · exact cellsB_one h u hu
  · rfl
theorem nameC_one (x : NameD) : (nameC x).all (·.oneCell') = true := by
  simp only [nameC, Array.all_eq_true_iff_forall_mem]
  intro u hu
  simp only [List.mem_toArray, List.mem_cons, List.mem_append, List.mem_nil_iff, or_false] at hu
  rcases hu with rfl | hu | rfl | rfl
  · rfl
  · exact cellsB_one x.h u hu
  · rfl
  · rfl
theorem keyC_K {h : List UInt8} {k : Int} (hl : h.length = 32) : (keyC h k)[32]? = some (.int .i64 k) := by
  simp [keyC, cellsB_length, hl]
theorem keyC_H {h : List UInt8} {k : Int} (i : Nat) (hi : i < h.length) : (keyC h k)[i]? = some (.int .u8 ((h[i]'hi).toNat : Int)) := by
  simp only [keyC, List.getElem?_toArray]
  rw [List.getElem?_append_left (by rw [cellsB_length]; exact hi), cellsB_get h i hi]
theorem nameC_kd (x : NameD) : (nameC x)[0]? = some (.int .i64 x.kd) := by simp [nameC]
theorem nameC_n {x : NameD} (hl : x.h.length = 32) : (nameC x)[34]? = some (.int .i64 x.n) := by
  simp [nameC, cellsB_length, hl]
theorem zeroK : (Tryz.prog.info? 30).map (fun i => i.zero) = some (some (.agg (keyC zeroH 0))) := by kernel_rfl
theorem zeroNm : (Tryz.prog.info? 39).map (fun i => i.zero) = some (some (.agg (nameC zeroN))) := by kernel_rfl

theorem list32 {h : List UInt8} (hl : h.length = 32) : ∃ a0 a1 a2 a3 a4 a5 a6 a7 a8 a9 a10 a11 a12 a13 a14 a15 a16 a17 a18 a19 a20 a21 a22 a23 a24 a25 a26 a27 a28 a29 a30 a31, h = [a0, a1, a2, a3, a4, a5, a6, a7, a8, a9, a10, a11, a12, a13, a14, a15, a16, a17, a18, a19, a20, a21, a22, a23, a24, a25, a26, a27, a28, a29, a30, a31] := by
  match h, hl with
  | [a0, a1, a2, a3, a4, a5, a6, a7, a8, a9, a10, a11, a12, a13, a14, a15, a16, a17, a18, a19, a20, a21, a22, a23, a24, a25, a26, a27, a28, a29, a30, a31], _ => exact ⟨_, _, _, _, _, _, _, _, _, _, _, _, _, _, _, _, _, _, _, _, _, _, _, _, _, _, _, _, _, _, _, _, rfl⟩
theorem built_key {h : List UInt8} (hl : h.length = 32) (k : Int) : Tryz.prog.built 30 [(0, .agg (cellsB h).toArray), (1, .int .i64 k)] = some (keyC h k) := by
  obtain ⟨a0, a1, a2, a3, a4, a5, a6, a7, a8, a9, a10, a11, a12, a13, a14, a15, a16, a17, a18, a19, a20, a21, a22, a23, a24, a25, a26, a27, a28, a29, a30, a31, rfl⟩ := list32 hl
  kernel_rfl
theorem built_key0 : Tryz.prog.built 30 [] = some (keyC zeroH 0) := by kernel_rfl
theorem built_name {h : List UInt8} (hl : h.length = 32) (kd k n : Int) : Tryz.prog.built 39 [(0, .int .i64 kd), (1, .agg (keyC h k)), (2, .int .i64 n)] = some (nameC ⟨kd, h, k, n⟩) := by
  obtain ⟨a0, a1, a2, a3, a4, a5, a6, a7, a8, a9, a10, a11, a12, a13, a14, a15, a16, a17, a18, a19, a20, a21, a22, a23, a24, a25, a26, a27, a28, a29, a30, a31, rfl⟩ := list32 hl
  kernel_rfl
theorem built_nameK {h : List UInt8} (hl : h.length = 32) (kd k : Int) : Tryz.prog.built 39 [(0, .int .i64 kd), (1, .agg (keyC h k))] = some (nameC ⟨kd, h, k, 0⟩) := by
  obtain ⟨a0, a1, a2, a3, a4, a5, a6, a7, a8, a9, a10, a11, a12, a13, a14, a15, a16, a17, a18, a19, a20, a21, a22, a23, a24, a25, a26, a27, a28, a29, a30, a31, rfl⟩ := list32 hl
  kernel_rfl
theorem built_nameN (kd n : Int) : Tryz.prog.built 39 [(0, .int .i64 kd), (2, .int .i64 n)] = some (nameC ⟨kd, zeroH, 0, n⟩) := by kernel_rfl
theorem built_name1 (kd : Int) : Tryz.prog.built 39 [(0, .int .i64 kd)] = some (nameC ⟨kd, zeroH, 0, 0⟩) := by kernel_rfl
theorem built_name0 : Tryz.prog.built 39 [] = some (nameC zeroN) := by kernel_rfl
end Go.Proofs.YtjlkcdmeiakkbaaGreatDoor
