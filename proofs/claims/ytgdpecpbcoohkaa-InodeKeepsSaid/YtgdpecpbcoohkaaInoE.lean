/- Contracts of inode's Flip and of the document's Flip. -/
import Derived.Test.YtgdpecpbcoohkaaInoA
import Derived.Laws.BitsAllLaws
namespace Go.Proofs.Ytgdpecpbcoohkaa
open Go.RowKit

theorem turn_value (c : UInt8) (p : Nat) : bits .xor .u8 (c.toNat : Int) ((2 : Int) ^ (p % 8) % 256) = ((UInt8.ofNat (c.toNat ^^^ 2 ^ (p % 8))).toNat : Int) := by
  have h8 : 2 ^ (p % 8) < 256 := by
    have : (2 : Nat) ^ (p % 8) ≤ 2 ^ 7 := Nat.pow_le_pow_right (by decide) (by omega)
    omega
  have h := u8_xor_nat c.toNat (2 ^ (p % 8)) c.toNat_lt h8
  have e : (2 : Int) ^ (p % 8) % 256 = ((2 ^ (p % 8) : Nat) : Int) := by
    obtain ⟨z, hz⟩ : ∃ z, z = 2 ^ (p % 8) := ⟨_, rfl⟩
    have h2 : (2 : Int) ^ (p % 8) = (z : Int) := by rw [hz]; simp
    rw [h2, ← hz]; rw [← hz] at h8; omega
  rw [e, h, UInt8.toNat_ofNat', Nat.mod_eq_of_lt (Nat.xor_lt_two_pow (n := 8) c.toNat_lt h8)]
theorem flipC_yes (b : List UInt8) (q : Nat) (h : q / 8 < b.length) : flipC b (q : Int) = b.set (q / 8) (UInt8.ofNat ((b[q / 8]'h).toNat ^^^ 2 ^ (q % 8))) := by
  unfold flipC
  rw [dif_pos (by omega)]
  simp
theorem flipC_no (b : List UInt8) (bit : Int) (h : bit < 0 ∨ 8 * (b.length : Int) ≤ bit) : flipC b bit = b := by
  unfold flipC
  rw [dif_neg (by omega)]
theorem set_take {α : Type} (l : List α) (i n : Nat) (v : α) : (l.set i v).take n = (l.take n).set i v := by
  rw [List.take_set]
theorem isF.turn {w : World} {p g s : Nat} {now : List UInt8} (h : isF w p g now s) (i : Nat) (hi : i < now.length) (c : UInt8) : isF (w.setCell ⟨g, i, none⟩ (.int .u8 (c.toNat : Int))) p g (now.set i c) s := by
  obtain ⟨cap, cur, h1, h2, h3, h4, h5, h6, h7, h8⟩ := h
  refine ⟨cap, cur.set i (.int .u8 (c.toNat : Int)), ?_, ?_, by simpa using h3, by simpa using h4, h5, ?_, h7, by simpa using h8⟩
  · rw [List.length_set]; exact (Fr.set0 w g i _).heap h1 (by simpa using Ne.symm h7)
  · rw [heap_setCell_same h2]; simp
  · rw [List.length_set, List.take_set, h6]; simp [cellsB, List.map_set]
theorem isF.cell {w : World} {p g s : Nat} {now : List UInt8} (h : isF w p g now s) (i : Nat) (hi : i < now.length) : w.cell? ⟨g, i, none⟩ = some (.int .u8 ((now[i]'hi).toNat : Int)) ∧ w.frozen? ⟨g, i, none⟩ = false := by
  obtain ⟨cap, cur, h1, h2, h3, h4, h5, h6, h7, h8⟩ := h
  refine ⟨?_, free_of_heap h2 i⟩
  rw [cell_of_heap h2, ← cellsB_get now i hi, ← h6, List.getElem?_take, if_pos hi]; simp

def inB (n : Nat) (bit : Int) : Bool := decide (0 ≤ bit ∧ bit < 8 * (n : Int))
set_option maxRecDepth 100000 in
theorem iflip_no (p g s : Nat) (now : List UInt8) (bit : Int) (w : World) (h : isF w p g now s) (hb : bit < 0 ∨ 8 * (now.length : Int) ≤ bit) (h64 : bit ≤ 9223372036854775807) :
    Calls Try.prog 22 #[.pointer (some ⟨p, 0, none⟩), .int .i64 bit] w fun e w' => e = .returned (.bool false) ∧ w = w' := by
  have HL := Lib.hid (ilen_any p g s now w h)
  by_cases hn : bit < 0
  · have hd : decide (bit < 0) = true := decide_eq_true hn
    clear h hb
    go_enter Try.func22, Try.ntmps22
    go_wp2_with fail
    go_ret
    exact ⟨rfl, rfl⟩
  · obtain ⟨q, rfl⟩ := Int.eq_ofNat_of_zero_le (show 0 ≤ bit by omega)
    have hd : decide ((q : Int) < 0) = false := decide_eq_false hn
    have hd2 : decide ((now.length : Int) ≤ (q : Int) / 8) = true := decide_eq_true (by omega)
    obtain ⟨n, hnn⟩ : ∃ n, n = now.length := ⟨_, rfl⟩
    rw [← hnn] at HL hd2
    clear h hb hn hnn
    go_enter Try.func22, Try.ntmps22
    go_wp2_with (go_at_call 11; refine HL.out.mono ?_; rintro e w2 ⟨rfl, rfl⟩)
    go_ret
    exact ⟨rfl, rfl⟩
set_option maxRecDepth 100000 in
theorem iflip_yes (p g s q : Nat) (now : List UInt8) (w : World) (h : isF w p g now s) (hq : q / 8 < now.length) (hl : now.length ≤ 1048576) :
    Calls Try.prog 22 #[.pointer (some ⟨p, 0, none⟩), .int .i64 (q : Int)] w fun e w' => e = .returned (.bool true) ∧ isF w' p g (flipC now (q : Int)) s ∧ Fr [g] w w' := by
  have HL := Lib.hid (ilen_any p g s now w h)
  have HF := Lib.hid h
  obtain ⟨cap, hle, hmx, hc0, hc1, hf0, hf1, -⟩ := h.open
  obtain ⟨hcq, hfq⟩ := h.cell (q / 8) hq
  have hd : decide ((q : Int) < 0) = false := decide_eq_false (by omega)
  have hd2 : decide (now.length ≤ q / 8) = false := decide_eq_false (by omega)
  have HV := Lib.hid (turn_value (now[q / 8]'hq) q)
  obtain ⟨c, hc⟩ : ∃ c, c = now[q / 8]'hq := ⟨_, rfl⟩
  rw [← hc] at hcq HV
  have HC := Lib.hid hc
  clear h hc
  go_enter Try.func22, Try.ntmps22
  go_wp2_with (go_at_call 11; refine HL.out.mono ?_; rintro e w2 ⟨rfl, rfl⟩)
  go_region
  go_wp2_with fail
  go_ret
  rw [HV.out]
  refine ⟨rfl, ?_, (Fr.set0 w g (q / 8) _).andDrew⟩
  have := (HF.out.turn (q / 8) hq (UInt8.ofNat (c.toNat ^^^ 2 ^ (q % 8)))).below (Fr.drew _)
  rw [flipC_yes now q hq, ← HC.out]
  exact this

theorem hnil_new (w : World) : (w.alloc (.cells (#[] : Array Value) 5)).ownsRow w.heap.size 5 1 (.slice (some ⟨w.heap.size, 0, none⟩) 0 0) ([] : List UInt8).length (cellsB []) :=
  owns_of_heap (cur := []) (heap_alloc_new w _) (Nat.le_refl _) rfl (Nat.zero_le _) (by simp [maxLen]) rfl
theorem bytesd_of_owns {w w' : World} {v : Value} {bs : List UInt8} (h : w'.ownsRow w.heap.size 5 1 v bs.length (cellsB bs)) (hf : Fr [] w w') : Bytesd w bs (.returned v) w' :=
  ⟨v, rfl, bytesAt_of_owns h, fun k hk => (h.lt k hk).1, hf⟩
set_option maxRecDepth 100000 in
theorem ref_flip_no (b : List UInt8) (bit : Int) (sv : Value) (w : World) (h : bytesAt w sv b) (hl : b.length ≤ 1000000) (hb : bit < 0 ∨ 8 * (b.length : Int) ≤ bit) :
    Calls Try.prog 21 #[sv, .int .i64 bit] w (Bytesd w b) := by
  obtain ⟨i, hi, hz0, hz1, hz2⟩ := info_parts infoB
  obtain ⟨a0, c0, rfl, hle, hmx⟩ := h.form
  have hnil := Lib.hid (hnil_new w)
  have hba := Lib.hid (h.below (Fr.alloc w (.cells (#[] : Array Value) 5)))
  by_cases hn : bit < 0
  · have hd : decide (0 ≤ bit) = false := decide_eq_false (by omega)
    clear h hb
    go_enter Try.func21, Try.ntmps21
    go_wp2_with (at_builtin; refine wpL_append rfl (.tmp 6) (.tmp 7) 22 rfl w.heap.size 5 i (.int .u8 0) Try.underlying22 hi hz0 hz1 hz2 rfl _ [] rfl hnil.out _ b rfl hba.out (by simp; omega) (by simp) ?_; intro v1 w1 hown1 hf1 hb1; clear hb1)
    go_ret
    exact bytesd_of_owns hown1 ((Fr.alloc w _).trans (m := [w.heap.size]) hf1 (by simp) (by simp))
  · obtain ⟨q, rfl⟩ := Int.eq_ofNat_of_zero_le (show 0 ≤ bit by omega)
    have hd2 : decide ((q : Int) < 8 * (b.length : Int)) = false := decide_eq_false (by omega)
    clear h hb hn
    go_enter Try.func21, Try.ntmps21
    go_wp2_with (at_builtin; refine wpL_append rfl (.tmp 6) (.tmp 7) 22 rfl w.heap.size 5 i (.int .u8 0) Try.underlying22 hi hz0 hz1 hz2 rfl _ [] rfl hnil.out _ b rfl hba.out (by simp; omega) (by simp) ?_; intro v1 w1 hown1 hf1 hb1; clear hb1; obtain ⟨a1, c1, rfl, -, -⟩ := (bytesAt_of_owns (bs := b) hown1).form)
    go_ret
    exact bytesd_of_owns hown1 ((Fr.alloc w _).trans (m := [w.heap.size]) hf1 (by simp) (by simp))

theorem row_of_owns {w : World} {base : Nat} {v : Value} {l : List UInt8} (h : w.ownsRow base 5 1 v l.length (cellsB l)) (hne : l ≠ []) : ∃ g cap, v = .slice (some ⟨g, 0, none⟩) l.length cap ∧ base ≤ g ∧ l.length ≤ cap ∧ cap ≤ maxLen ∧
    (∀ i (hi : i < l.length), w.cell? ⟨g, i, none⟩ = some (.int .u8 ((l[i]'hi).toNat : Int))) ∧ (∀ i, w.frozen? ⟨g, i, none⟩ = false) ∧
    ∀ i (c : UInt8), i < l.length → (w.setCell ⟨g, i, none⟩ (.int .u8 (c.toNat : Int))).ownsRow base 5 1 (.slice (some ⟨g, 0, none⟩) l.length cap) l.length (cellsB (l.set i c)) := by
  have hb := bytesAt_of_owns h
  rcases h.2 with ⟨_, h0⟩ | ⟨g, cap, cur, rfl, hbg, hg, hn, hm, hs, ht⟩
  · exact (hne (List.eq_nil_of_length_eq_zero h0)).elim
  · refine ⟨g, cap, rfl, hbg, hn, hm, fun i hi => ?_, fun i => free_of_heap hg i, fun i c hi => ?_⟩
    · rw [cell_of_heap hg, ← cellsB_get l i hi]
      have : (cellsB l)[i]? = (cur.toList.take l.length)[i]? := by rw [← ht]; simp
      rw [this, List.getElem?_take, if_pos hi]; simp
    · refine owns_of_heap (cur := (cur.setIfInBounds i (.int .u8 (c.toNat : Int))).toList) ((heap_setCell_same hg _).trans (by rw [Array.toArray_toList])) hbg (by simpa using hs) hn hm ?_
      rw [Array.toList_setIfInBounds, List.take_set]
      have : cur.toList.take l.length = cellsB l := by simpa using ht
      rw [this]; simp [cellsB, List.map_set]
set_option maxRecDepth 100000 in
theorem ref_flip_yes (b : List UInt8) (q : Nat) (sv : Value) (w : World) (h : bytesAt w sv b) (hl : b.length ≤ 1000000) (hq : q / 8 < b.length) :
    Calls Try.prog 21 #[sv, .int .i64 (q : Int)] w (Bytesd w (flipC b (q : Int))) := by
  obtain ⟨i, hi, hz0, hz1, hz2⟩ := info_parts infoB
  obtain ⟨a0, c0, rfl, hle, hmx⟩ := h.form
  have hnil := Lib.hid (hnil_new w)
  have hba := Lib.hid (h.below (Fr.alloc w (.cells (#[] : Array Value) 5)))
  have hd2 : decide ((q : Int) < 8 * (b.length : Int)) = true := decide_eq_true (by omega)
  have hne : b ≠ [] := by rintro rfl; simp at hq
  have HV := Lib.hid (turn_value (b[q / 8]'hq) q)
  obtain ⟨c, hc⟩ : ∃ c, c = b[q / 8]'hq := ⟨_, rfl⟩
  rw [← hc] at HV
  have HC := Lib.hid hc
  clear h hc
  go_enter Try.func21, Try.ntmps21
  go_wp2_with (at_builtin; refine wpL_append rfl (.tmp 6) (.tmp 7) 22 rfl w.heap.size 5 i (.int .u8 0) Try.underlying22 hi hz0 hz1 hz2 rfl _ [] rfl hnil.out _ b rfl hba.out (by simp; omega) (by simp) ?_; intro v1 w1 hown1 hf1 hb1; clear hb1; obtain ⟨g, cap, rfl, hg, hcap, hmax, hcell, hfree, hset⟩ := row_of_owns (l := b) hown1 hne)
  have hfr := (Fr.alloc w _).trans (m := [w.heap.size]) hf1 (by simp) (n := []) (by simp)
  have hcq := hcell (q / 8) hq
  have hfq := hfree (q / 8)
  rw [← HC.out] at hcq
  have HS := Lib.hid (hset (q / 8))
  clear hset hcell hfree hown1 hf1
  go_region
  go_wp2_with fail
  go_ret
  rw [HV.out]
  have ho := HS.out (UInt8.ofNat (c.toNat ^^^ 2 ^ (q % 8))) hq
  rw [flipC_yes b q hq, ← HC.out]
  refine bytesd_of_owns ?_ (((hfr.trans (Fr.set0 w1 g (q / 8) _) (by simp) (n := []) (by simp; omega))).andDrew)
  rw [List.length_set]
  exact owns_kept ho (Fr.drew _) (by simp)
theorem ref_flip_any (b : List UInt8) (bit : Int) (sv : Value) (w : World) (h : bytesAt w sv b) (hl : b.length ≤ 1000000) :
    Calls Try.prog 21 #[sv, .int .i64 bit] w (Bytesd w (flipC b bit)) := by
  by_cases hb : bit < 0 ∨ 8 * (b.length : Int) ≤ bit
  · rw [flipC_no b bit hb]; exact ref_flip_no b bit sv w h hl hb
  · obtain ⟨q, rfl⟩ := Int.eq_ofNat_of_zero_le (show 0 ≤ bit by omega)
    exact ref_flip_yes b q sv w h hl (by omega)
/-- Flip of a file, in one. -/
theorem iflip_any (p g s : Nat) (now : List UInt8) (bit : Int) (w : World) (h : isF w p g now s) (hl : now.length ≤ 1048576) (h64 : bit ≤ 9223372036854775807) :
    Calls Try.prog 22 #[.pointer (some ⟨p, 0, none⟩), .int .i64 bit] w fun e w' => e = .returned (.bool (inB now.length bit)) ∧ isF w' p g (flipC now bit) s ∧ Fr [g] w w' := by
  by_cases hb : bit < 0 ∨ 8 * (now.length : Int) ≤ bit
  · refine (iflip_no p g s now bit w h hb h64).mono ?_
    rintro e w' ⟨rfl, rfl⟩
    rw [flipC_no now bit hb]
    refine ⟨by rw [show inB now.length bit = false from decide_eq_false (by omega)], h, Fr.refl _ _⟩
  · obtain ⟨q, rfl⟩ := Int.eq_ofNat_of_zero_le (show 0 ≤ bit by omega)
    refine (iflip_yes p g s q now w h (by omega) hl).mono ?_
    rintro e w' ⟨rfl, h1, h2⟩
    exact ⟨by rw [show inB now.length (q : Int) = true from decide_eq_true (by omega)], h1, h2⟩
end Go.Proofs.Ytgdpecpbcoohkaa
