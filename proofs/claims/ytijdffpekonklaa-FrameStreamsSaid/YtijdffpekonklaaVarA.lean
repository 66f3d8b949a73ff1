/- Contracts of package varint that write, and the document's answer Form. -/
import Derived.Test.YtijdffpekonklaaOctB
import Derived.Test.YtijdffpekonklaaRow
import Derived.Test.YtijdffpekonklaaVarMath
namespace Go.Proofs.Ytijdffpekonklaa
open Go.RowKit

theorem toNat_ofNat_lt {c : Nat} (h : c < 256) : (UInt8.ofNat c).toNat = c := by rw [UInt8.toNat_ofNat']; omega

def FormRel (v : Nat) (w : World) (s o : Value) (wr : World) : Prop :=
  ∃ (x : Nat) (out : List UInt8), s = .int .u64 x ∧ x ≤ 18446744073709551615 ∧ wr.ownsRow w.heap.size 5 1 o out.length (cellsB out) ∧ Fr [] w wr ∧ out ++ form x = form v
set_option maxRecDepth 100000 in
theorem ref_form_any (v : Nat) (w : World) (hv : v ≤ 18446744073709551615) :
    Calls Try.prog 12 #[.int .u64 v] w (Ret (Fresh w (form v))) := by
  obtain ⟨i, hi, hz0, hz1, hz2⟩ := info_parts infoB
  go_enter Try.func12, Try.ntmps12
  go_wp2_with fail
  go_loopw [0, 3] (FormRel v w) (fun s _ _ => (intOf s).toNat)
  case atStart => exact ⟨v, [], rfl, hv, World.ownsRow_nil _ _ _ _, Fr.refl _ _, rfl⟩
  case round =>
    obtain ⟨x, out, rfl, hx, hown, hf, he⟩ := hrel
    have hlen := form_len10 v hv
    rw [← he, List.length_append] at hlen
    have hpos := form_pos x
    have hm : out.length + 1 ≤ maxLen := by simp [maxLen]; omega
    have hsz := hf.size
    have HE := Lib.hid he
    clear he
    by_cases hlt : x < 128
    · have e : form v = out ++ [UInt8.ofNat x] := by rw [← HE.out, form_small hlt]
      have hc1 : cellsB (form v) = cellsB out ++ [.int .u8 x] := by rw [e, cellsB_append]; simp [cellsB, toNat_ofNat_lt (show x < 256 by omega)]
      have H1 := Lib.hid e
      have H2 := Lib.hid hc1
      clear e hc1
      go_wp2_with (at_builtin; refine wpL_append1 rfl (.tmp 15) (.tmp 18) 22 rfl w.heap.size 5 i (.int .u8 0) 1 Try.underlying22 hi hz0 hz1 hz2 rfl _ out.length (cellsB out) rfl hown _ rfl rfl (by omega) hm hsz ?_; intro v' w1 hown1 hf1 hb1)
      go_ret
      refine Ret.mk ⟨?_, hf.own hown hf1⟩
      rw [H2.out, H1.out]
      simpa using hown1
    · go_wp2_with (at_builtin; refine wpL_append1 rfl (.tmp 6) (.tmp 11) 22 rfl w.heap.size 5 i (.int .u8 0) 1 Try.underlying22 hi hz0 hz1 hz2 rfl _ out.length (cellsB out) rfl hown _ rfl rfl (by omega) hm hsz ?_; intro v' w1 hown1 hf1 hb1)
      refine ⟨⟨x / 128, out ++ [UInt8.ofNat (x % 128 + 128)], by go_num, by omega, ?_, hf.own hown hf1, ?_⟩, by simp [intOf]; omega⟩
      · have hc1 : cellsB (out ++ [UInt8.ofNat (x % 128 + 128)]) = cellsB out ++ [.int .u8 ((x : Int) % 128 + 128)] := by
          rw [cellsB_append]; simp [cellsB]; omega
        rw [hc1]
        simpa using hown1
      · rw [← HE.out, form_big (v := x) (by omega)]; simp

/-- A writer's Num of one byte. -/
theorem num_one (p : Nat) (g : Option Nat) (bs : List UInt8) (c : Int) (w : World) (h : isW w p g bs) (h0 : 0 ≤ c) (h1 : c < 256) (hl : bs.length + 8 ≤ 140737488355328) :
    Calls Try.prog 42 #[.pointer (some ⟨p, 0, none⟩), .int .i64 1, .int .u64 c] w (fun e w' => e = .returned (.bool true) ∧ Grew w p g (bs ++ [UInt8.ofNat c.toNat]) w') := by
  obtain ⟨m, rfl⟩ := Int.eq_ofNat_of_zero_le h0
  refine (num_any p g bs 1 m w h (by omega) hl).mono ?_
  rintro e w' ⟨rfl, hg⟩
  have hc : 1 ≤ (1 : Int) ∧ (1 : Int) ≤ 8 ∧ m < 256 ^ (1 : Int).toNat := ⟨by omega, by omega, by simp; omega⟩
  rw [if_pos hc] at hg
  refine ⟨by rw [decide_eq_true hc], ?_⟩
  have e : be (1 : Int).toNat m = [UInt8.ofNat ((m : Int)).toNat] := by
    simp only [be, Int.toNat_natCast, show (1 : Int).toNat = 1 from rfl]
    have : m % 256 = m := Nat.mod_eq_of_lt (by omega)
    simp [this]
  rwa [e] at hg

def PutRel (p : Nat) (g : Option Nat) (bs : List UInt8) (v : Nat) (w : World) (s : Value) (wr : World) : Prop :=
  ∃ (x : Nat) (out : List UInt8), s = .int .u64 x ∧ x ≤ 18446744073709551615 ∧ Grew w p g (bs ++ out) wr ∧ out ++ form x = form v
set_option maxRecDepth 100000 in
theorem put_any (p : Nat) (g : Option Nat) (bs : List UInt8) (v : Nat) (w : World) (h : isW w p g bs) (hv : v ≤ 18446744073709551615) (hl : bs.length ≤ 1000000) :
    Calls Try.prog 29 #[.pointer (some ⟨p, 0, none⟩), .int .u64 v] w (fun e w' => e = .returned (.tuple #[]) ∧ Grew w p g (bs ++ form v) w') := by
  go_enter Try.func29, Try.ntmps29
  go_wp2_with fail
  go_loopw [1] (PutRel p g bs v w) (fun s _ => (intOf s).toNat)
  case atStart => exact ⟨v, [], rfl, hv, by simpa using Grew.same h, rfl⟩
  case round =>
    obtain ⟨x, out, rfl, hx, ⟨g1, hw1, hf1, hg1⟩, he⟩ := hrel
    have hlen := form_len10 v hv
    rw [← he, List.length_append] at hlen
    have hl1 : (bs ++ out).length + 8 ≤ 140737488355328 := by simp; omega
    have HE := Lib.hid he
    clear he
    by_cases hlt : x < 128
    · go_wp2_with (go_at_call 42; refine (num_one p g1 (bs ++ out) _ _ hw1 (by omega) (by omega) hl1).mono ?_; rintro e w2 ⟨rfl, hgr⟩)
      go_end0
      refine ⟨rfl, ?_⟩
      have := Grew.step hf1 hg1 hgr
      rw [Int.toNat_natCast, List.append_assoc] at this
      rw [← HE.out, form_small hlt]
      exact this
    · go_wp2_with (go_at_call 42; refine (num_one p g1 (bs ++ out) _ _ hw1 (by omega) (by omega) hl1).mono ?_; rintro e w2 ⟨rfl, hgr⟩)
      refine ⟨⟨x / 128, out ++ [UInt8.ofNat (x % 128 + 128)], by go_num, by omega, ?_, ?_⟩, by simp [intOf]; omega⟩
      · have := Grew.step hf1 hg1 hgr
        rw [show ((x : Int) % 128 + 128).toNat = x % 128 + 128 from by omega, List.append_assoc] at this
        exact this
      · rw [← HE.out, form_big (v := x) (by omega)]; simp
end Go.Proofs.Ytijdffpekonklaa
