/- What the statements of layer 8 call beside inode: awake. -/
import Derived.Test.YtgdpecpbcoohkaaInoD
import Derived.Test.YtgdpecpbcoohkaaInoG
import Derived.Test.YtgdpecpbcoohkaaRegion
import Derived.Lib.SlBytesConst
namespace Go.Proofs.Ytgdpecpbcoohkaa
open Go.RowKit

theorem ino_ex1 : crashC [97, 97, 97, 97, 97, 97, 97, 97, 97, 97, 97, 97, 97, 97, 98, 99, 100, 101] 14 4 [15, 16] = [97, 97, 97, 97, 97, 97, 97, 97, 97, 97, 97, 97, 97, 97, 98, 0, 100, 101] := by decide +kernel
theorem ino_ex2 : sizeC 18 14 4 = 4 := by decide +kernel
theorem ino_ex3 : secsC 18 14 = 2 := by decide +kernel
set_option maxRecDepth 100000 in
theorem awake_any (w : World) :
    Calls Try.prog 7 #[] w fun e w' => e = .returned (.bool true) ∧ Fr [] w w' := by
  have kc := fun (w : World) (C : Array Value) (n c : Nat) => Lib.run_convert_bytes_const (P := Try.prog) w 22 5 C n c Try.underlying22 Try.underlying5
  have HN := Lib.hid (fun sv wx (hx : bytesAt wx sv [97, 97, 97, 97, 97, 97, 97, 97, 97, 97, 97, 97, 97, 97]) => inew_any _ sv wx hx (by simp))
  have HA := Lib.hid (fun p g bv wx (h : isF wx p g [97, 97, 97, 97, 97, 97, 97, 97, 97, 97, 97, 97, 97, 97] 14) (hx : bytesAt wx bv [98, 99, 100, 101]) (hb : [98, 99, 100, 101] ≠ [] → ∀ k, bv.ownBlock = some k → k ≠ p) => iappend_yes p g 14 _ [98, 99, 100, 101] bv wx h hx (by simp) hb)
  have HX := Lib.hid ino_ex1
  have HX2 := Lib.hid ino_ex2
  have HX3 := Lib.hid ino_ex3
  go_enter Try.func7, Try.ntmps7
  go_wp2_with fail
  refine (HN.out _ _ (bytesAt_marked w [97, 97, 97, 97, 97, 97, 97, 97, 97, 97, 97, 97, 97, 97] 5 _ 14 rfl (by simp [maxLen]) _ rfl)).mono ?_
  rintro e w1 ⟨p, g, rfl, hF1, hf1, hp1, hg1⟩
  rw [World.size_alloc] at hp1 hg1
  have hf01 : Fr [] w w1 := (Fr.alloc w _).trans hf1 (by simp) (by simp)
  clear hf1 HN
  go_wp2_with fail
  have hlt1 := hF1.lt
  refine (HA.out p g _ _ (hF1.below (Fr.alloc w1 _)) (bytesAt_marked w1 [98, 99, 100, 101] 5 _ 4 rfl (by simp [maxLen]) _ rfl) (fun _ k hk => by have hk' : w1.heap.size = k := Option.some.inj hk; omega)).mono ?_
  rintro e w2 ⟨g2, rfl, hF2, hf2, hg2⟩
  rw [World.size_alloc] at hg2
  have hf12 := (Fr.alloc w1 _).trans hf2 (by simp) (n := [p, g]) (fun i hi _ => hi)
  have hf02 : Fr [] w w2 := hf01.trans hf12 (by simp) (by simp; omega)
  have hg2w : w.heap.size ≤ g2 := by have := hf01.size; rcases hg2 with h | h <;> omega
  have hlt2 := hF2.lt
  have hsec := isectors_any p g2 14 _ w2 hF2 (by simp)
  rw [show ([97, 97, 97, 97, 97, 97, 97, 97, 97, 97, 97, 97, 97, 97] ++ [98, 99, 100, 101] : List UInt8).length = 18 from rfl, HX3.out] at hsec
  have HSE := Lib.hid hsec
  clear hf2 hf12 HA hF1 hsec kc
  go_wp2_with (go_at_call 13; refine HSE.out.mono ?_; rintro e w3 ⟨rfl, rfl⟩)
  have hcu : cellsAt (w2.alloc (.cells #[.int .i64 15, .int .i64 16] 3)) (.slice (some ⟨w2.heap.size, 0, none⟩) 2 2) ([15, 16].map (Value.int .i64)) := cellsAt_new w2 ([15, 16].map (Value.int .i64)) 3 2 rfl (by simp [maxLen])
  have hcr := icrash_any p g2 14 _ 4 [15, 16] _ _ (hF2.below (Fr.alloc w2 _)) hcu (by simp) (by simp) (fun _ k hk => by have hk' : w2.heap.size = k := Option.some.inj hk; omega)
  rw [show ([97, 97, 97, 97, 97, 97, 97, 97, 97, 97, 97, 97, 97, 97] ++ [98, 99, 100, 101] : List UInt8) = [97, 97, 97, 97, 97, 97, 97, 97, 97, 97, 97, 97, 97, 97, 98, 99, 100, 101] from rfl, HX.out, show ([97, 97, 97, 97, 97, 97, 97, 97, 97, 97, 97, 97, 97, 97, 98, 99, 100, 101] : List UInt8).length = 18 from rfl, HX2.out, HX3.out] at hcr
  refine hcr.mono ?_
  rintro e w4 ⟨rfl, hF4, hf4⟩
  have hf24 := (Fr.alloc w2 _).trans hf4 (by simp) (n := [p, g2]) (fun i hi _ => hi)
  have hf04 : Fr [] w w4 := hf02.trans hf24 (by simp) (by simp; omega)
  have HB := Lib.hid (ibytes_any p g2 18 _ w4 hF4 (by simp))
  have HF4 := Lib.hid hF4
  clear hF4 hf4 hf24 hcr hcu hF2 hf02 HSE HX HX2 HX3 hf01
  go_wp2_with (first
    | (go_at_call 10; refine HB.out.mono ?_; rintro e w5 ⟨v5, rfl, hb5, hk5, hf5⟩; have c5 := run_conv_bytes (P := Try.prog) hb5 22 5 9 Try.underlying22 Try.underlying5 Try.underlying9)
    | (go_at_call 12; refine (isafe_any p g2 18 _ w5 (HF4.out.below hf5)).mono ?_; rintro e w6 ⟨rfl, rfl⟩))
  go_ret
  exact ⟨rfl, hf04.trans hf5 (by simp) (by simp)⟩
end Go.Proofs.Ytgdpecpbcoohkaa
