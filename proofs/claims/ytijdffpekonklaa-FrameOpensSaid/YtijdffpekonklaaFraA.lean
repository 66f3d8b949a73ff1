/- Contracts of package frame's small functions: clone, part, sumForm, Len; and of bytes.Equal. -/
import Derived.Test.YtijdffpekonklaaOctA
import Derived.Test.YtijdffpekonklaaFraMath
import Derived.Test.YtijdffpekonklaaVarLen
import Derived.Test.YtijdffpekonklaaCrcTurn
namespace Go.Proofs.Ytijdffpekonklaa
open Go.RowKit

/-- New bytes that the call has made. -/
def Made (w : World) (bs : List UInt8) (v : Value) (w' : World) : Prop := bytesAt w' v bs ∧ (∀ k, v.ownBlock = some k → w.heap.size ≤ k ∧ k < w'.heap.size) ∧ Fr [] w w'

set_option maxRecDepth 100000 in
theorem fclone_any (bs : List UInt8) (v : Value) (w : World) (h : bytesAt w v bs) (hl : bs.length ≤ 140737488355328) :
    Calls Try.prog 27 #[v] w (Ret (Made w bs)) := by
  obtain ⟨i, hi, hz0, hz1, hz2⟩ := info_parts infoB
  have hlen := h.len
  have hb0 := h
  obtain ⟨a, cap, rfl, -, -⟩ := h.form
  go_enter Try.func27, Try.ntmps27
  go_wp2_with (first
    | (at_make; refine wpL_make rfl _ _ 22 rfl 5 i (.int .u8 0) 1 Try.underlying22 hi hz0 hz1 hz2 rfl bs.length rfl rfl (by omega) hlen ?_; intro w1 hh1 hf1 hs1; have hb1 := hb0.below hf1)
    | (refine wpL_copy rfl (.tmp 7) (.tmp 8) 22 22 rfl 5 Try.underlying22 infoB1 _ _ _ _ bs rfl rfl hb1 (Nat.le_refl _) w.heap.size 0 (List.replicate bs.length (.int .u8 0)) 5 hh1.out (fun _ => rfl) (by simp) ?_; intro w2 hh2 hf2 hs2))
  refine bodyPost_ret (v := .slice (some ⟨w.heap.size, 0, none⟩) bs.length bs.length) (by simp [results, Try.results27, go_sem]) rfl (Ret.mk ⟨?_, ?_, ?_⟩)
  · have hh := hh2.out
    rw [splice_all _ _ (by simp [cellsB])] at hh
    exact bytesAt_of_heap hh hlen _ rfl
  · intro k hk; cases hk; exact ⟨Nat.le_refl _, show w.heap.size < w2.heap.size by have := hs1.out; have := hf2.size; omega⟩
  · exact hf1.trans hf2 (by simp) (by simp)

theorem bytesAt.recap {w : World} {a : Option Addr} {n cap : Nat} {bs : List UInt8} (h : bytesAt w (.slice a n cap) bs) : bytesAt w (.slice a n n) bs := by
  have hlen := h.len
  rcases h with ⟨a', c', e, hm, rfl⟩ | ⟨b, off, c, e, h3, h4, h5⟩
  · cases e; exact .inl ⟨_, _, rfl, by simp, rfl⟩
  · cases e; exact .inr ⟨b, off, _, rfl, Nat.le_refl _, hlen, h5⟩
theorem bytesAt.part {w : World} {a : Option Addr} {cap : Nat} {bs : List UInt8} {lo hi : Nat} (h : bytesAt w (.slice a bs.length cap) bs) (h1 : lo < hi) (h2 : hi ≤ bs.length) :
    bytesAt w (.slice (a.map fun x => x.add lo) (hi - lo) (hi - lo)) ((bs.take hi).drop lo) := by
  obtain ⟨_, _, e, hle, -⟩ := h.form
  cases e
  have := h.cut (Nat.le_of_lt h1) h2
  rw [if_neg (by omega), Nat.mul_one] at this
  exact this.recap
theorem ownBlock_len {a : Option Addr} {n c n' c' : Nat} : (Value.slice a n c).ownBlock = (Value.slice a n' c').ownBlock := by cases a <;> rfl
theorem fpart_any (bs : List UInt8) (a : Option Addr) (cap lo hi : Nat) (w : World) (h : bytesAt w (.slice a bs.length cap) bs) (h1 : lo ≤ hi) (h2 : hi ≤ bs.length) :
    Calls Try.prog 40 #[.slice a bs.length cap, .int .i64 lo, .int .i64 hi] w fun e w' => ∃ b, e = .returned (.slice b (hi - lo : Nat) (hi - lo : Nat)) ∧ bytesAt w (.slice b (hi - lo : Nat) (hi - lo : Nat)) ((bs.take hi).drop lo) ∧ (∀ k, (Value.slice b (hi - lo : Nat) (hi - lo : Nat)).ownBlock = some k → (Value.slice a bs.length cap).ownBlock = some k) ∧ w = w' := by
  obtain ⟨_, _, e, hle, hmx⟩ := h.form
  cases e
  simp only [maxLen] at hmx
  have hmb : hi ≤ cap := by omega
  by_cases hlh : lo = hi
  · subst hlh
    have hd : (bs.take lo).drop lo = [] := by simp
    have H := Lib.hid h
    clear h
    rw [Nat.sub_self, hd]
    go_enter Try.func40, Try.ntmps40
    go_wp2_with fail
    go_ret
    exact ⟨a, rfl, .inl ⟨_, _, rfl, by simp, rfl⟩, fun k hk => by rw [← hk]; exact ownBlock_len, rfl⟩
  · have hp := h.part (lo := lo) (hi := hi) (by omega) h2
    have H := Lib.hid h
    clear h
    go_enter Try.func40, Try.ntmps40
    go_wp2_with fail
    go_ret
    exact ⟨_, rfl, hp, fun k hk => by rw [← hk]; exact ownBlock_map.symm, rfl⟩

theorem cells_zeros (n : Nat) : (List.replicate n (Value.int .u8 0)) = cellsB (List.replicate n 0) := by simp [cellsB]
def SumRel (n g : Nat) (w1 : World) (s i : Value) (wr : World) : Prop :=
  ∃ k x : Nat, k ≤ 4 ∧ i = .int .i64 (k : Int) ∧ s = .int .u32 (x : Int) ∧ x = n / 256 ^ k ∧ rowIs wr g ((sum4 n).take k ++ List.replicate (4 - k) 0) ∧ Fr [] w1 wr
theorem sumForm_any (n : Nat) (w : World) (hn : n < 4294967296) :
    Calls Try.prog 21 #[.int .u32 n] w (Ret (Made w (sum4 n))) := by
  obtain ⟨i, hi, hz0, hz1, hz2⟩ := info_parts infoB
  go_enter Try.func21, Try.ntmps21
  go_wp2_with (at_make; refine wpL_make rfl _ _ 22 rfl 5 i (.int .u8 0) 1 Try.underlying22 hi hz0 hz1 hz2 rfl 4 rfl rfl (by omega) (by simp [maxLen]) ?_; intro w1 hh1 hf1 hs1)
  have hrow : rowIs w1 w.heap.size (List.replicate 4 0) := ⟨_, hh1.out, by rw [cells_zeros]; simp [cellsB]⟩
  go_loopw [0, 8] (SumRel n w.heap.size w) (fun _ i _ => 4 - (intOf i).toNat)
  case atStart => exact ⟨0, n, by omega, rfl, rfl, by simp, hrow, hf1⟩
  case round =>
    clear hrow hf1 hs1 hh1
    obtain ⟨k, x, hk, rfl, rfl, hx, hrow, hf⟩ := hrel
    have HX := Lib.hid hx
    have hxl : x < 4294967296 := by rw [hx]; exact Nat.lt_of_le_of_lt (Nat.div_le_self _ _) hn
    clear hx
    by_cases hk4 : k < 4
    · have hd : decide ((k : Int) < 4) = true := decide_eq_true (by omega)
      have hll : ((sum4 n).take k ++ List.replicate (4 - k) (0 : UInt8)).length = 4 := by simp [sum4]; omega
      have hst := sum4_step n k hk4
      rw [← HX.out] at hst
      obtain ⟨l, hl⟩ : ∃ l, l = (sum4 n).take k ++ List.replicate (4 - k) (0 : UInt8) := ⟨_, rfl⟩
      rw [← hl] at hrow hll hst
      have hkl : k < l.length := by omega
      have hc := hrow.cell k hkl
      have hfree := hrow.free k
      have hset := hrow.set k (UInt8.ofNat (x % 256))
      rw [u8n, hst] at hset
      have hdv : x / 256 = n / 256 ^ (k + 1) := by rw [HX.out, Nat.pow_succ, Nat.div_div_eq_div_mul]
      have HD := Lib.hid hdv
      have HS := Lib.hid hset
      obtain ⟨c0, hc0⟩ : ∃ c0, c0 = (l[k]'hkl).toNat := ⟨_, rfl⟩
      rw [← hc0] at hc
      clear hset hst hdv hrow hll hkl hl hc0
      go_wp2_with fail
      refine ⟨⟨k + 1, x / 256, by omega, by go_num, by go_num, HD.out, HS.out, hf.trans (Fr.set0 wr w.heap.size k _) (by simp) (by simp)⟩, by simp [intOf]; omega⟩
    · obtain rfl : k = 4 := by omega
      clear hk4 hk
      have hb := hrow.bytes (cap := 4) (by simp [sum4]) (by simp [maxLen]) 4 (by simp [sum4])
      rw [show (sum4 n).take 4 ++ List.replicate (4 - 4) (0 : UInt8) = sum4 n from by simp [sum4]] at hb
      go_wp2_with fail
      go_ret
      exact Ret.mk ⟨hb, fun k hk => by cases hk; obtain ⟨_, hc, _⟩ := hrow; exact ⟨Nat.le_refl _, (Array.getElem?_eq_some_iff.1 hc).1⟩, hf⟩

theorem flen_yes (n : Nat) (w : World) (h : n ≤ 1048576) :
    Calls Try.prog 10 #[.int .i64 n] w fun e w' => e = .returned (.int .i64 ((5 + (form n).length + n : Nat) : Int)) ∧ w = w' := by
  have hd1 : decide ((n : Int) < 0) = false := decide_eq_false (by omega)
  have hd2 : decide (1048576 < (n : Int)) = false := decide_eq_false (by omega)
  have hfl := form_len10 n (by omega)
  have HL := Lib.hid (len_form_any n w (by omega))
  obtain ⟨d, hd⟩ : ∃ d, d = (form n).length := ⟨_, rfl⟩
  rw [← hd] at HL hfl ⊢
  clear hd
  go_enter Try.func10, Try.ntmps10
  go_wp2_with (go_at_call 25; refine HL.out.mono ?_; rintro e w1 ⟨rfl, rfl⟩)
  go_ret
  refine ⟨congrArg (fun z => Ending.returned (Value.int .i64 z)) ?_, rfl⟩
  omega
theorem flen_no (n : Int) (w : World) (h : n < 0 ∨ 1048576 < n) :
    Calls Try.prog 10 #[.int .i64 n] w fun e w' => e = .returned (.int .i64 0) ∧ w = w' := by
  by_cases h0 : n < 0
  · have hd1 : decide (n < 0) = true := decide_eq_true h0
    clear h
    go_enter Try.func10, Try.ntmps10
    go_wp2_with fail
    go_ret
    exact ⟨rfl, rfl⟩
  · have hd1 : decide (n < 0) = false := decide_eq_false h0
    have hd2 : decide (1048576 < n) = true := decide_eq_true (by omega)
    clear h
    go_enter Try.func10, Try.ntmps10
    go_wp2_with fail
    go_ret
    exact ⟨rfl, rfl⟩

theorem equal_any (a b : List UInt8) (va vb : Value) (w : World) (ha : bytesAt w va a) (hb : bytesAt w vb b) :
    Calls Try.prog 39 #[va, vb] w fun e w' => e = .returned (.bool (a == b)) ∧ w = w' := by
  have c1 := run_conv_bytes (P := Try.prog) ha 22 5 9 Try.underlying22 Try.underlying5 Try.underlying9
  have c2 := run_conv_bytes (P := Try.prog) hb 22 5 9 Try.underlying22 Try.underlying5 Try.underlying9
  obtain ⟨a0, c0, rfl, -, -⟩ := ha.form
  obtain ⟨a1, c1', rfl, -, -⟩ := hb.form
  go_enter Try.func39, Try.ntmps39
  go_wp2_with fail
  go_ret
  exact ⟨rfl, rfl⟩
end Go.Proofs.Ytijdffpekonklaa
