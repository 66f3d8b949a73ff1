/- What the statements of layer 9 call beside dir: awake. -/
import Derived.Test.YtjmkieacaejcgaaDirG
import Derived.Test.YtjmkieacaejcgaaDirF
namespace Go.Proofs.Ytjmkieacaejcgaa
open Go.RowKit Go.Maps

theorem Fr.new {w w1 w2 : World} {B : List Nat} (h : Fr [] w w1) (k : Fr B w1 w2) (hB : ∀ i ∈ B, w.heap.size ≤ i) : Fr [] w w2 := h.trans k (by simp) (fun i hi hlt => by have := hB i hi; omega)
abbrev nA : List UInt8 := [97]
abbrev nB : List UInt8 := [98]
theorem aw_put (p : Nat) (B : List Nat) (w : World) (h : isD w p B [] [] [] 0) : Calls Try.prog 14 #[.pointer (some ⟨p, 0, none⟩), .string ⟨#[97]⟩, .int .i64 7] w (Done p B [(nA, 7)] [] [⟨0, nA, [], 7⟩] 1 w) :=
  dput_yes p 0 B [] [] [] nA 7 w h (by decide) (by decide) rfl (by decide)
theorem aw_sync (p : Nat) (B : List Nat) (w : World) (h : isD w p B [(nA, 7)] [] [⟨0, nA, [], 7⟩] 1) : Calls Try.prog 15 #[.pointer (some ⟨p, 0, none⟩)] w fun e w' => e = .returned (.tuple #[]) ∧ Turned p B [(nA, 7)] [(nA, 7)] [] 1 w w' :=
  dsync_any p 1 B _ _ _ w h (by decide)
theorem aw_move1 (p : Nat) (B : List Nat) (w : World) (h : isD w p B [(nA, 7)] [(nA, 7)] [] 1) : Calls Try.prog 16 #[.pointer (some ⟨p, 0, none⟩), .string ⟨#[97]⟩, .string ⟨#[98]⟩] w (Done p B [(nB, 7)] [(nA, 7)] [⟨2, nA, nB, 0⟩] 2 w) :=
  dmove_yes p 1 B [(nA, 7)] [(nA, 7)] [] nA nB w h (by decide) (by decide) (by decide) rfl (by decide)
theorem aw_move2 (p : Nat) (B : List Nat) (w : World) (h : isD w p B [(nA, 7)] [] [⟨0, nA, [], 7⟩] 1) : Calls Try.prog 16 #[.pointer (some ⟨p, 0, none⟩), .string ⟨#[97]⟩, .string ⟨#[98]⟩] w (Done p B [(nB, 7)] [] [⟨0, nA, [], 7⟩, ⟨2, nA, nB, 0⟩] 2 w) :=
  dmove_yes p 1 B [(nA, 7)] [] [⟨0, nA, [], 7⟩] nA nB w h (by decide) (by decide) (by decide) rfl (by decide)
theorem aw_crash1 (p : Nat) (B : List Nat) (v : Value) (w : World) (h : isD w p B [(nB, 7)] [(nA, 7)] [⟨2, nA, nB, 0⟩] 2) (hv : cellsAt w v [.bool false]) : Calls Try.prog 13 #[.pointer (some ⟨p, 0, none⟩), v] w fun e w' => e = .returned (.tuple #[]) ∧ Turned p B [(nA, 7)] [(nA, 7)] [] 2 w w' :=
  dcrash_any p 2 B _ [(nA, 7)] [⟨2, nA, nB, 0⟩] [false] v w h hv (by decide) (by decide)
theorem aw_crash2 (p : Nat) (B : List Nat) (v : Value) (w : World) (h : isD w p B [(nB, 7)] [] [⟨0, nA, [], 7⟩, ⟨2, nA, nB, 0⟩] 2) (hv : cellsAt w v [.bool false, .bool true]) : Calls Try.prog 13 #[.pointer (some ⟨p, 0, none⟩), v] w fun e w' => e = .returned (.tuple #[]) ∧ Turned p B [] [] [] 2 w w' :=
  dcrash_any p 2 B _ [] [⟨0, nA, [], 7⟩, ⟨2, nA, nB, 0⟩] [false, true] v w h hv (by decide) (by decide)
theorem aw_get (p : Nat) (B : List Nat) (w : World) (h : isD w p B [(nA, 7)] [(nA, 7)] [] 2) : Calls Try.prog 11 #[.pointer (some ⟨p, 0, none⟩), .string ⟨#[97]⟩] w fun e w' => e = .returned (.tuple #[.int .i64 7, .bool true]) ∧ w = w' :=
  dget_any p 2 B _ _ _ nA w h (by decide)
def NamesN (n : Nat) (w : World) (e : Ending) (w' : World) : Prop := ∃ a c, e = .returned (.slice a n c) ∧ Fr [] w w'
theorem names_n {l : List Ent} {w w' : World} {e : Ending} (h : Namesd l w e w') : NamesN l.length w e w' := by
  obtain ⟨v, rfl, ho, hf⟩ := h
  obtain ⟨a, c, rfl, -, -⟩ := owns_slice ho
  exact ⟨a, c, rfl, hf⟩
theorem aw_names1 (p : Nat) (B : List Nat) (w : World) (h : isD w p B [(nA, 7)] [(nA, 7)] [] 2) : Calls Try.prog 9 #[.pointer (some ⟨p, 0, none⟩)] w (NamesN 1 w) :=
  (dnames_any p 2 B _ _ _ w h (by simp [sortedL]) (by decide)).mono (fun _ _ h => names_n h)
theorem aw_names2 (p : Nat) (B : List Nat) (w : World) (h : isD w p B [] [] [] 2) : Calls Try.prog 9 #[.pointer (some ⟨p, 0, none⟩)] w (NamesN 0 w) :=
  (dnames_any p 2 B _ _ _ w h (by simp [sortedL]) (by decide)).mono (fun _ _ h => names_n h)
set_option maxRecDepth 100000 in
set_option maxHeartbeats 1000000 in
theorem awake_any (w : World) : Calls Try.prog 6 #[] w fun e w' => e = .returned (.bool true) ∧ Fr [] w w' := by
  go_enter Try.func6, Try.ntmps6
  go_wp2_with (first
    | (go_at_call 7; clear R5; refine (dnew_any _).mono ?_; rintro e w6 ⟨q, C6, rfl, hE6, hf6, hC6⟩; have hEn := hE6)
    | (go_at_call 7; refine (dnew_any _).mono ?_; rintro e w1 ⟨p, B1, rfl, hD1, hf1, hB1⟩; have D1 := Lib.hid hD1; have F1 := Lib.hid hf1; have R1 := Lib.hid hB1; clear hD1 hf1 hB1)
    | (go_at_call 14; refine (aw_put p B1 _ D1.out).mono ?_; rintro e w2 ⟨rfl, B2, hD2, hf2, hB2⟩; have D2 := Lib.hid hD2; have F2 := Lib.hid (F1.out.new hf2 R1.out); have R2 : Hid (∀ k ∈ B2, w.heap.size ≤ k) := Lib.hid (fun k hk => (hB2 k hk).elim (R1.out k) (fun h => by have := F1.out.size; omega)); clear D1 hD2 hf2 hB2)
    | (go_at_call 15; refine (aw_sync p B2 _ D2.out).mono ?_; rintro e w3 ⟨rfl, B3, hD3, hf3, hB3⟩; have D3 := Lib.hid hD3; have F3 := Lib.hid (F2.out.new hf3 R2.out); have R3 : Hid (∀ k ∈ B3, w.heap.size ≤ k) := Lib.hid (fun k hk => (hB3 k hk).elim (R2.out k) (fun h => by have := F2.out.size; omega)); clear hD3 hf3 hB3)
    | (go_at_call 16; refine (aw_move1 p B3 _ D3.out).mono ?_; rintro e w4 ⟨rfl, B4, hD4, hf4, hB4⟩; have D4 := Lib.hid hD4; have F4 := Lib.hid (F3.out.new hf4 R3.out); have R4 : Hid (∀ k ∈ B4, w.heap.size ≤ k) := Lib.hid (fun k hk => (hB4 k hk).elim (R3.out k) (fun h => by have := F3.out.size; omega)); clear D3 hD4 hf4 hB4)
    | (go_at_call 13; refine (aw_crash1 p B4 _ _ (D4.out.below (Fr.alloc _ _)) (cellsAt_new w4 [.bool false] 4 1 rfl (by decide))).mono ?_; rintro e w5 ⟨rfl, B5, hD5, hf5, hB5⟩; have D5 := Lib.hid hD5; have F5 := Lib.hid ((F4.out.trans (Fr.alloc w4 _) (by simp) (n := []) (by simp)).new hf5 R4.out); have R5 : Hid (∀ k ∈ B5, w.heap.size ≤ k) := Lib.hid (fun k hk => (hB5 k hk).elim (R4.out k) (fun h => by have := F4.out.size; simp at h; omega)); clear D4 hD5 hf5 hB5)
    )
  have hl5 := D5.out.lt
  have N5 : Hid (∀ k ∈ B5, k < w5.heap.size) := Lib.hid hl5
  have S5 : Hid (w.heap.size ≤ w5.heap.size) := Lib.hid F5.out.size
  have E6 := Lib.hid hE6
  have D6 := Lib.hid (D5.out.below hf6)
  have F6 := Lib.hid (F5.out.trans hf6 (by simp) (n := []) (by simp))
  have Q6 : Hid (∀ k ∈ C6, w5.heap.size ≤ k) := Lib.hid hC6
  have Z6 : Hid (w5.heap.size ≤ w6.heap.size) := Lib.hid hf6.size
  clear hl5 hE6 hEn hf6 hC6 D2 F1 F2 F3 F4 R1 R2 R3 R4
  go_wp2_with (first
    | (go_at_call 14; refine (aw_put q C6 _ E6.out).mono ?_; rintro e w7 ⟨rfl, C7, hE7, hf7, hC7⟩; have E7 := Lib.hid hE7; have D7 := Lib.hid (D6.out.kept hf7 (fun k hk hm => by have := N5.out k hk; have := Q6.out k hm; omega)); have F7 := Lib.hid (F6.out.new hf7 (fun k hk => by have := Q6.out k hk; have := S5.out; omega)); have Q7 : Hid (∀ k ∈ C7, w5.heap.size ≤ k) := Lib.hid (fun k hk => (hC7 k hk).elim (Q6.out k) (fun h => by have := Z6.out; omega)); have Z7 : Hid (w5.heap.size ≤ w7.heap.size) := Lib.hid (by have := Z6.out; have := hf7.size; omega); clear hE7 hf7 hC7)
    | (go_at_call 16; refine (aw_move2 q C7 _ E7.out).mono ?_; rintro e w8 ⟨rfl, C8, hE8, hf8, hC8⟩; have E8 := Lib.hid hE8; have D8 := Lib.hid (D7.out.kept hf8 (fun k hk hm => by have := N5.out k hk; have := Q7.out k hm; omega)); have F8 := Lib.hid (F7.out.new hf8 (fun k hk => by have := Q7.out k hk; have := S5.out; omega)); have Q8 : Hid (∀ k ∈ C8, w5.heap.size ≤ k) := Lib.hid (fun k hk => (hC8 k hk).elim (Q7.out k) (fun h => by have := Z7.out; omega)); have Z8 : Hid (w5.heap.size ≤ w8.heap.size) := Lib.hid (by have := Z7.out; have := hf8.size; omega); clear hE8 hf8 hC8)
    | (go_at_call 13; refine (aw_crash2 q C8 _ _ (E8.out.below (Fr.alloc _ _)) (cellsAt_new w8 [.bool false, .bool true] 4 2 rfl (by decide))).mono ?_; rintro e w9 ⟨rfl, C9, hE9, hf9, hC9⟩; have E9 := Lib.hid hE9; have D9 := Lib.hid ((D8.out.below (Fr.alloc w8 _)).kept hf9 (fun k hk hm => by have := N5.out k hk; have := Q8.out k hm; omega)); have F9 := Lib.hid ((F8.out.trans (Fr.alloc w8 _) (by simp) (n := []) (by simp)).new hf9 (fun k hk => by have := Q8.out k hk; have := S5.out; omega)); clear hE9 hf9 hC9)
    | (go_at_call 11; refine (aw_get p B5 _ D9.out).mono ?_; rintro e w10 ⟨rfl, rfl⟩)
    | (go_at_call 9; refine (aw_names2 q C9 _ E10.out).mono ?_; rintro e w11 ⟨a11, c11, rfl, hf11⟩)
    | (go_at_call 9; refine (aw_names1 p B5 _ D9.out).mono ?_; rintro e w10 ⟨a10, c10, rfl, hf10⟩; have E10 := Lib.hid (E9.out.below hf10)))
  go_ret
  exact ⟨rfl, (F9.out.trans hf10 (by simp) (n := []) (by simp)).trans hf11 (by simp) (by simp)⟩
end Go.Proofs.Ytjmkieacaejcgaa
