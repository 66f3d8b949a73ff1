/- Contracts of package hex: number. -/
import Derived.Test.YtjlkcdmeiakkbaaGreatDoorBs
import Derived.Test.YtjlkcdmeiakkbaaGreatDoorArr
import Derived.Test.YtjlkcdmeiakkbaaGreatDoorMk
import Derived.Test.YtjlkcdmeiakkbaaGreatDoorProg
import Derived.Deep.MidRow
import Derived.LoopTactic
import Derived.Laws.ResultCell
set_option linter.unusedVariables false
set_option linter.unusedSimpArgs false
namespace Go.Proofs.YtjlkcdmeiakkbaaGreatDoor
open Go.RowKit

/-- The table of digits lies where the program's text lays it. -/
def digsAt (w : World) : Prop := ∀ i (h : i < dk.length), w.cell? ⟨0, i, none⟩ = some (.int .u8 ((dk[i]'h).toNat : Int))
theorem digsAt.kept {w w' : World} {l : List Nat} (h : digsAt w) (hf : Fr l w w') (hl : 0 ∉ l) : digsAt w' := fun i hi => hf.cell (h i hi) hl
theorem digsAt.below {w w' : World} (h : digsAt w) (hf : Fr [] w w') : digsAt w' := h.kept hf (by simp)
theorem digsAt.pos {w : World} (h : digsAt w) : 0 < w.heap.size := World.block_lt_of_cell? w _ (h 0 (by rw [dk_length]; decide))
theorem digsAt.get {w : World} (h : digsAt w) (i : Nat) (hi : i < 16) : w.cell? ⟨0, i, none⟩ = some (.int .u8 ((hxd i).toNat : Int)) := by
  have h' : i < dk.length := hi
  rw [h i h', dk_get i h']
def dkC : List Value := cellsB dk
theorem digsAt.range {w : World} (h : digsAt w) : w.rangeAt 0 0 dkC := by
  intro j v hj
  have hl : j < dk.length := by
    rcases Nat.lt_or_ge j dk.length with q | q
    · exact q
    · rw [List.getElem?_eq_none (by simpa [dkC, cellsB] using q)] at hj; cases hj
  rw [show 0 + j = j from by omega, h j hl, ← cellsB_get dk j hl]
  exact hj
theorem info16 : (Tryz.prog.info? 124).map (·.size) = some dkC.length := by kernel_rfl
theorem dkC_get (i : Nat) (hi : i < 16) : dkC.toArray[i]? = some (.int .u8 ((hxd i).toNat : Int)) := by
  have h : i < dk.length := hi
  simp only [dkC, List.getElem?_toArray]
  rw [cellsB_get dk i h, dk_get]

def NumRel (c : UInt8) (w : World) (m : Nat) (i : Value) (wr : World) : Prop := wr = w ∧ ∃ k : Nat, k ≤ m ∧ i = .int .i64 (k : Int)
set_option maxRecDepth 100000 in
theorem number_yes (c : UInt8) (w : World) (hr : digsAt w) (hc : isD c = true) :
    Calls Tryz.prog 112 #[.int .u8 (c.toNat : Int)] w fun e w' => e = .returned (.tuple #[.int .u8 (valD c : Nat), .bool true]) ∧ w = w' := by
  obtain ⟨hv, hx⟩ := isD_spec c hc
  obtain ⟨m, hm⟩ : ∃ m, m = valD c := ⟨_, rfl⟩
  rw [← hm] at hv hx ⊢
  have hrange := hr.range
  have hget := dkC_get
  have hi16 := info16
  obtain ⟨T, hT⟩ : ∃ T, T = dkC := ⟨_, rfl⟩
  rw [← hT] at hrange hget hi16
  have hne : ∀ k, k < m → (((hxd k).toNat : Int) == (c.toNat : Int)) = false := by
    intro k hk
    rw [beq_eq_false_iff_ne]
    intro e
    have e2 : (hxd k).toNat = (hxd m).toNat := by rw [hx]; omega
    have := hxd_inj k m (by omega) hv (UInt8.toNat_inj.1 e2)
    omega
  have heq : (((hxd m).toNat : Int) == (c.toNat : Int)) = true := by rw [hx, beq_self_eq_true]
  have HG := Lib.hid hget
  have HR := Lib.hid hrange
  have HI := Lib.hid hi16
  have HN := Lib.hid hne
  have HE := Lib.hid heq
  clear hget hrange hi16 hne heq hx hm hT hr
  go_enter Tryz.func112, Tryz.ntmps112
  go_wp2_with (refine wpList_load_mid rfl 124 _ rfl 0 0 rfl T _ HR.out Tryz.underlying124 rfl HI.out ?_)
  go_loopw [7] (NumRel c w m) (fun i _ => 16 - (intOf i).toNat)
  case atStart => exact ⟨rfl, 0, by omega, rfl⟩
  case round =>
    obtain ⟨rfl, k, hk, rfl⟩ := hrel
    have hd : decide ((k : Int) < 16) = true := decide_eq_true (by omega)
    have hidx := run_index_agg wr 124 5 16 .u8 T.toArray k _ Tryz.underlying124 Tryz.underlying5 size8 (by omega) (HG.out k (by omega))
    by_cases hkm : k < m
    · have h1 := HN.out k hkm
      go_wp2_with fail
      exact ⟨⟨rfl, k + 1, by omega, by go_num⟩, by simp [intOf]; omega⟩
    · have hkm' : k = m := by omega
      subst hkm'
      have h1 := HE.out
      go_wp2_with fail
      go_ret2
      exact ⟨rfl, rfl⟩
set_option maxRecDepth 100000 in
theorem number_no (c : UInt8) (w : World) (hr : digsAt w) (hc : isD c = false) :
    Calls Tryz.prog 112 #[.int .u8 (c.toNat : Int)] w fun e w' => e = .returned (.tuple #[.int .u8 0, .bool false]) ∧ w = w' := by
  have hrange := hr.range
  have hget := dkC_get
  have hi16 := info16
  obtain ⟨T, hT⟩ : ∃ T, T = dkC := ⟨_, rfl⟩
  rw [← hT] at hrange hget hi16
  have hne : ∀ k, k < 16 → (((hxd k).toNat : Int) == (c.toNat : Int)) = false := by
    intro k hk
    rw [beq_eq_false_iff_ne]
    intro e
    have e2 : (hxd k).toNat = c.toNat := by omega
    have h2 := (hxd_spec k hk).1
    rw [UInt8.toNat_inj.1 e2, hc] at h2
    cases h2
  have HG := Lib.hid hget
  have HR := Lib.hid hrange
  have HI := Lib.hid hi16
  have HN := Lib.hid hne
  clear hget hrange hi16 hne hT hr hc
  go_enter Tryz.func112, Tryz.ntmps112
  go_wp2_with (refine wpList_load_mid rfl 124 _ rfl 0 0 rfl T _ HR.out Tryz.underlying124 rfl HI.out ?_)
  go_loopw [7] (NumRel c w 16) (fun i _ => 16 - (intOf i).toNat)
  case atStart => exact ⟨rfl, 0, by omega, rfl⟩
  case round =>
    obtain ⟨rfl, k, hk, rfl⟩ := hrel
    by_cases hkm : k < 16
    · have hd : decide ((k : Int) < 16) = true := decide_eq_true (by omega)
      have hidx := run_index_agg wr 124 5 16 .u8 T.toArray k _ Tryz.underlying124 Tryz.underlying5 size8 (by omega) (HG.out k (by omega))
      have h1 := HN.out k hkm
      go_wp2_with fail
      exact ⟨⟨rfl, k + 1, by omega, by go_num⟩, by simp [intOf]; omega⟩
    · have hd : decide ((k : Int) < 16) = false := decide_eq_false (by omega)
      go_wp2_with fail
      go_ret2
      exact ⟨rfl, rfl⟩
end Go.Proofs.YtjlkcdmeiakkbaaGreatDoor
