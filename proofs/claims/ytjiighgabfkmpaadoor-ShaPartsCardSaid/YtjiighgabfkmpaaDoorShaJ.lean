/- Contract of package sha's Of. -/
import Derived.Test.YtjiighgabfkmpaaDoorShaI
namespace Go.Proofs.YtjiighgabfkmpaaDoor
open Go.RowKit

def OfRel (parts : List (List UInt8)) (p g : Nat) (Z : Array Value) (w : World) (i : Value) (wr : World) : Prop :=
  ∃ k : Nat, k ≤ parts.length ∧ i = .int .i64 (k : Int) ∧ isH wr p (parts.take k).flatten ∧ wr.heap[g]? = some (.cells Z 24 (0, 0)) ∧ Fr [] w wr
theorem flat_take_le (parts : List (List UInt8)) (k : Nat) : (parts.take k).flatten.length ≤ parts.flatten.length := by
  have h : parts.flatten = (parts.take k).flatten ++ (parts.drop k).flatten := by rw [← List.flatten_append, List.take_append_drop]
  rw [h, List.length_append]
  omega
set_option maxRecDepth 100000 in
theorem of_any (parts : List (List UInt8)) (sv : Value) (w : World) (h : partsAt w sv parts) (hr : rootsAt w) (hlen : parts.flatten.length < 800000000000) :
    Calls Tryd.prog 8 #[sv] w fun e w' => e = .returned (.agg (cellsB (hashN parts.flatten)).toArray) ∧ Fr [] w w' := by
  obtain ⟨a0, c0, rfl, hle, hmx⟩ := h.form
  simp only [maxLen] at hmx
  obtain ⟨Z, hZ⟩ : ∃ Z, Z = (cellsB (List.replicate 32 0)).toArray := ⟨_, rfl⟩
  have hiz := infoB32
  have hZs : Z.size = (cellsB (hashN parts.flatten)).toArray.size := by rw [hZ]; simp [cellsB, hashN_length]
  rw [← hZ] at hiz
  have hl32 : (Tryd.prog.info? 24).map (·.size) = some (cellsB (hashN parts.flatten)).toArray.size := by rw [bytesC_size, hashN_length]; exact sizeB32
  have HON := Lib.hid (bytesC_one (hashN parts.flatten))
  obtain ⟨E, hE⟩ : ∃ E, E = (cellsB (hashN parts.flatten)).toArray := ⟨_, rfl⟩
  rw [← hE] at hZs hl32 HON ⊢
  have HI := Lib.hid hiz
  have HZS := Lib.hid hZs
  have HL32 := Lib.hid hl32
  have HE := Lib.hid hE
  have HR := Lib.hid hr
  clear hZ hiz hZs hl32 hE hr
  go_enter Tryd.func8, Tryd.ntmps8
  go_wp2_with (first
    | (refine wpL_newArr rfl 24 rfl Z HI.out ?_; intro w1 hh1 hf1 hs1)
    | (go_at_call 17; refine (new_any w1).mono ?_; rintro e w2 ⟨v, rfl, p, rfl, hp, hH, hf2⟩))
  have hpw : w.heap.size < p := by have := hs1.out; omega
  have hg := hf2.heap hh1.out (by simp)
  have hf02 : Fr [] w w2 := hf1.trans hf2 (by simp) (by simp)
  have hpos := HR.out.pos
  clear hh1 hf1 hs1 hf2 hp
  go_loopw [9] (OfRel parts p w.heap.size Z w) (fun i _ => parts.length - (intOf i).toNat)
  case atStart => exact ⟨0, Nat.zero_le _, rfl, by simpa using hH, hg, hf02⟩
  case round =>
    clear hH hg
    obtain ⟨k, hk, rfl, hH, hg, hf⟩ := hrel
    by_cases hkn : k < parts.length
    · have hd : decide (k < parts.length) = true := decide_eq_true hkn
      obtain ⟨b, off, v, rfl, hc0, hb0⟩ := h.get hkn
      have hc := hf.cell hc0 (by simp)
      have hb := hb0.below hf
      have hlt := hb0.lt
      have hnext := flat_take_succ parts k hkn
      have hsz : ((parts.take k).flatten ++ (parts[k]'hkn)).length < 800000000000 := by rw [← hnext]; exact Nat.lt_of_le_of_lt (flat_take_le parts (k + 1)) hlen
      obtain ⟨q, hq⟩ : ∃ q, q = parts[k]'hkn := ⟨_, rfl⟩
      rw [← hq] at hb hlt hnext hsz
      rw [List.length_append] at hsz
      have HW := Lib.hid (write_any p _ q v wr hH hb (fun j hj hne => by have := hlt hne j hj; omega) (HR.out.below hf) (by omega) (by omega))
      have HN := Lib.hid hnext
      have HG := Lib.hid hg
      clear hc0 hb0 hb hlt hnext hq hsz hg
      go_wp2_with (go_at_call 18; refine HW.out.mono ?_; rintro e w3 ⟨rfl, hH3, hf3⟩)
      exact ⟨⟨k + 1, by omega, by go_num, by rw [HN.out]; exact hH3, hf3.heap HG.out (by simp; omega), hf.trans hf3 (by simp) (by simp; omega)⟩, by simp [intOf]; omega⟩
    · have hd : decide (k < parts.length) = false := decide_eq_false hkn
      rw [show k = parts.length from by omega, List.take_length] at hH
      have HS := Lib.hid (sum_any p parts.flatten wr hH (HR.out.below hf) (by omega))
      rw [← HE.out] at HS
      have HG := Lib.hid hg
      clear hg
      go_wp2_with (first
        | (go_at_call 20; refine HS.out.mono ?_; rintro e w3 ⟨rfl, hf3⟩)
        | (refine wpL_storeArr rfl 24 (.tmp 2) (.tmp 18) rfl w.heap.size E Z rfl rfl 24 (hf3.heap HG.out (by simp)) HL32.out HZS.out HON.out ?_; intro w4 hh4 hf4 hs4))
      refine bodyPost_ret (v := .agg E) ?_ rfl ⟨rfl, (hf.trans hf3 (by simp) (n := []) (by simp)).trans hf4 (by simp) (by simp)⟩
      exact results_cell_row rfl _ _ w.heap.size 24 E (0, 0) _ rfl hh4.out Tryd.underlying24 rfl HL32.out
end Go.Proofs.YtjiighgabfkmpaaDoor
