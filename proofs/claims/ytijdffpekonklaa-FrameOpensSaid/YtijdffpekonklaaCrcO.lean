/- Contract of package crc: Of. -/
import Derived.Test.YtijdffpekonklaaCrcB
import Derived.Test.YtijdffpekonklaaPart
namespace Go.Proofs.Ytijdffpekonklaa
open Go.RowKit

/-- The sum of bytes. -/
def crcOf (bs : List UInt8) : Nat := 4294967295 - crcS 4294967295 bs
theorem crcS_ones (bs : List UInt8) : crcS 4294967295 bs < 4294967296 := crcS_lt bs _ (by decide)

def OfRel (parts : List (List UInt8)) (g : Nat) (w : World) (s i : Value) (wr : World) : Prop :=
  ∃ k x : Nat, k ≤ parts.length ∧ i = .int .i64 (k : Int) ∧ s = .int .u32 (x : Int) ∧ x = crcS 4294967295 (parts.take k).flatten ∧ wr.heap[g]? = some (.cells (crcTab 256) 69 (0, 0)) ∧ Fr [] w wr
set_option maxRecDepth 100000 in
theorem of_any (parts : List (List UInt8)) (sv : Value) (w : World) (h : partsAt w sv parts) :
    Calls Try.prog 22 #[sv] w fun e w' => e = .returned (.int .u32 (crcOf parts.flatten : Nat)) ∧ Fr [] w w' := by
  obtain ⟨a0, c0, rfl, hle, hmx⟩ := h.form
  simp only [maxLen] at hmx
  have hsz : (Try.prog.info? 69).map (·.size) = some (crcTab 256).size := by rw [crcTab_size]; exact sizeT
  have HS := Lib.hid hsz
  have HO := Lib.hid (show (crcTab 0).size = (crcTab 256).size by rw [crcTab_size, crcTab_size])
  have HN := Lib.hid (crcTab_one 256)
  clear hsz
  go_enter Try.func22, Try.ntmps22
  go_wp2_with (first
    | (go_at_call 31; refine (table_any _).mono ?_; rintro e w1 ⟨rfl, hf1⟩)
    | (refine wpL_newArr rfl 69 rfl (crcTab 0) infoT ?_; intro w2 hh2 hf2 hs2; refine wpL_storeArr rfl 69 (.tmp 3) (.tmp 7) rfl w1.heap.size (crcTab 256) (crcTab 0) rfl rfl 69 hh2.out HS.out HO.out HN.out ?_; intro w3 hh3 hf3 hs3)
    | (go_at_call 32; refine (begin_any _).mono ?_; rintro e w4 ⟨rfl, rfl⟩))
  have hf01 : Fr [] w w3 := (hf1.trans hf2 (by simp) (n := []) (by simp)).trans hf3 (by simp) (by have := hf1.size; simp; omega)
  have hh := hh3.out
  have hgl : w.heap.size ≤ w1.heap.size := hf1.size
  clear hh2 hs2 hh3 hs3 hf2 hf3 hf1
  obtain ⟨g, hg⟩ : ∃ g, g = w1.heap.size := ⟨_, rfl⟩
  rw [← hg] at hh hgl ⊢
  clear hg
  go_loopw [4, 11] (OfRel parts g w) (fun _ i _ => parts.length - (intOf i).toNat)
  case atStart => exact ⟨0, 4294967295, Nat.zero_le _, rfl, rfl, rfl, hh, hf01⟩
  case round =>
    obtain ⟨k, x, hk, rfl, rfl, hx, hr, hf⟩ := hrel
    clear hh hf01
    by_cases hkn : k < parts.length
    · have hd : decide (k < parts.length) = true := decide_eq_true hkn
      have hp := h.below hf
      obtain ⟨b, off, v, rfl, hc, hb⟩ := hp.get hkn
      have hxl : x < 4294967296 := by rw [hx]; exact crcS_lt _ _ (by decide)
      have hnext : crcS 4294967295 (parts.take (k + 1)).flatten = crcS x (parts[k]'hkn) := by rw [flat_take_succ parts k hkn, crcS_append, ← hx]
      obtain ⟨p, hpp⟩ : ∃ p, p = parts[k]'hkn := ⟨_, rfl⟩
      rw [← hpp] at hb hnext
      have H1 := Lib.hid hnext
      have H2 := Lib.hid hr
      clear hnext hr hpp hp hx
      go_wp2_with (first
        | (refine wpList_load_row rfl 69 (.tmp 3) rfl g rfl 69 (crcTab 256) (0, 0) _ H2.out Try.underlying69 rfl HS.out ?_)
        | (go_at_call 33; refine (process_any x p v _ hb hxl).mono ?_; rintro e w2 ⟨rfl, hf2⟩))
      refine ⟨⟨k + 1, crcS x p, by omega, by go_num, rfl, H1.out.symm, hf2.heap H2.out (by simp), hf.trans hf2 (by simp) (by simp)⟩, by simp [intOf]; omega⟩
    · obtain rfl : k = parts.length := by omega
      rw [List.take_length] at hx
      have hxl : x < 4294967296 := by rw [hx]; exact crcS_lt _ _ (by decide)
      have HX := Lib.hid hx
      clear hx hkn
      go_wp2_with (go_at_call 34; refine (end_any x _ hxl).mono ?_; rintro e w4 ⟨rfl, rfl⟩)
      go_ret
      exact ⟨by rw [crcOf, ← HX.out]; rfl, hf⟩
end Go.Proofs.Ytijdffpekonklaa
