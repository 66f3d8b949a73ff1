/- ShaGrows: a Hash that is written to in parts has, at each time, the hash of everything so far. -/
import Derived.Test.YtjiighgabfkmpaaDoorShaHashes
namespace Go.Proofs.YtjiighgabfkmpaaDoor
open Go.RowKit

def GrowsRel (parts : List (List UInt8)) (p : Nat) (w : World) (sa si : Value) (wr : World) : Prop :=
  ∃ k : Nat, k ≤ parts.length ∧ si = .int .i64 (k : Int) ∧ (parts.take k).flatten.length ≤ 200 * k ∧ isH wr p (parts.take k).flatten ∧
    wr.ownsRow w.heap.size 5 1 sa (parts.take k).flatten.length (cellsB (parts.take k).flatten) ∧ (∀ j, sa.ownBlock = some j → j ≠ p) ∧ Fr [] w wr
/-- What is known behind a step. -/
structure GrowsAt (E : Array Value) (m : List UInt8) (p : Nat) (va : Value) (w : World) : Prop where
  len : ∀ W, Fr [] w W → Calls Tryd.prog 19 #[.pointer (some ⟨p, 0, none⟩)] W fun e w' => e = .returned (.int .i64 (m.length : Int)) ∧ W = w'
  sum : ∀ W, Fr [] w W → Calls Tryd.prog 20 #[.pointer (some ⟨p, 0, none⟩)] W fun e w' => e = .returned (.agg E) ∧ Fr [] W w'
  ref : ∀ W, Fr [] w W → Calls Tryd.prog 7 #[va] W fun e w' => e = .returned (.agg E) ∧ Fr [] W w'
  of : ∀ W sv, Fr [] w W → partsAt W sv [m] → Calls Tryd.prog 8 #[sv] W fun e w' => e = .returned (.agg E) ∧ Fr [] W w'
  bytes : ∀ W, Fr [] w W → bytesAt W va m
theorem grows_at (m : List UInt8) (p : Nat) (va : Value) (w : World) (h : isH w p m) (hb : bytesAt w va m) (hr : rootsAt w) (hl : m.length ≤ 5000) : GrowsAt (cellsB (hashN m)).toArray m p va w where
  len := fun W hW => len_any p m W (h.kept hW (by simp))
  sum := fun W hW => sum_any p m W (h.kept hW (by simp)) (hr.below hW) (by omega)
  ref := fun W hW => ref_hash_any m va W (hb.below hW) (by omega)
  of := fun W sv hW hp => by
    have h := of_any [m] sv W hp (hr.below hW) (by simp; omega)
    rwa [show ([m] : List (List UInt8)).flatten = m by simp] at h
  bytes := fun W hW => hb.below hW

set_option maxRecDepth 100000 in
theorem grows_any (parts : List (List UInt8)) (v0 : Value) (w : World) (h0 : partsAt w v0 parts) (hr : rootsAt w) :
    Calls Tryd.prog 5 #[v0] w fun e w' => e = .returned (.bool true) ∧ Fr [] w w' := by
  obtain ⟨a0, c0, rfl, hle, hmx⟩ := h0.form
  by_cases hb : 20 < parts.length
  · have hb1 : decide (20 < (parts.length : Int)) = true := decide_eq_true (by omega)
    go_enter Tryd.func5, Tryd.ntmps5
    go_wp2_with (go_at_call 6; refine (awake_any _ hr).mono ?_; rintro e w' ⟨rfl, hf⟩)
    go_ret
    exact ⟨rfl, hf⟩
  · have hb1 : decide (20 < (parts.length : Int)) = false := decide_eq_false (by omega)
    obtain ⟨i, hi, hz0, hz1, hz2⟩ := info_parts infoB
    simp only [maxLen] at hmx
    have HH0 := Lib.hid h0
    have HR := Lib.hid hr
    clear h0 hr
    go_enter Tryd.func5, Tryd.ntmps5
    go_wp2_with (go_at_call 17; refine (new_any w).mono ?_; rintro e w1 ⟨v, rfl, p, rfl, hp, hH, hf1⟩)
    have hpos := HR.out.pos
    go_loopw [4, 5] (GrowsRel parts p w) (fun _ i _ => parts.length - (intOf i).toNat)
    case atStart => exact ⟨0, by omega, rfl, by simp, by simpa using hH, World.ownsRow_nil _ _ _ _, by simp [Value.ownBlock], hf1⟩
    case round =>
      clear hH hf1
      obtain ⟨k, hk, rfl, hlen, hH, hown, hab, hf⟩ := hrel
      by_cases hkn : k < parts.length
      · have hd : decide (k < parts.length) = true := decide_eq_true hkn
        obtain ⟨b, off, v, rfl, hcw, hpb⟩ := HH0.out.get hkn
        have hc := hf.cell hcw (by simp)
        have hflat := flat_take_succ parts k hkn
        obtain ⟨q, hq⟩ : ∃ q, q = parts[k]'hkn := ⟨_, rfl⟩
        rw [← hq] at hpb hflat
        obtain ⟨m, hm⟩ : ∃ m, m = (parts.take k).flatten := ⟨_, rfl⟩
        rw [← hm] at hlen hown hH hflat
        obtain ⟨ap, cp, rfl, hpl, hpm⟩ := hpb.form
        have hpw := hpb.below hf
        have hplt := hpb.lt
        by_cases hbig : 200 < q.length
        · have hb2 : decide (200 < (q.length : Int)) = true := decide_eq_true (by omega)
          have HW := Lib.hid (awake_any wr (HR.out.below hf))
          clear hflat hq hm hcw hplt hpw hpb hab
          go_wp2_with (go_at_call 6; refine HW.out.mono ?_; rintro e w3 ⟨rfl, hf3⟩)
          go_ret
          exact ⟨rfl, hf.trans hf3 (by simp) (by simp)⟩
        · have hb2 : decide (200 < (q.length : Int)) = false := decide_eq_false (by omega)
          have HFL := Lib.hid hflat
          have HPW := Lib.hid hpw
          have HOWN := Lib.hid hown
          have HWR := Lib.hid (write_any p m q _ wr hH hpw (fun j hj hne => by have := hplt hne j hj; omega) (HR.out.below hf) (by omega) (by omega))
          have hob := Lib.hid hown.lt
          have HAB := Lib.hid hab
          have HPLT := Lib.hid hplt
          have HC := Lib.hid hc
          have hwsz := hf.size
          have hbw : b < w.heap.size := World.block_lt_of_cell? w _ hcw
          clear hflat hq hm hcw hplt hpw hpb hown hH hab
          have heq := fun wx => equal_bytes32 wx (hashN (m ++ q)) (hashN_length _)
          obtain ⟨E, hE⟩ : ∃ E, E = (cellsB (hashN (m ++ q))).toArray := ⟨_, rfl⟩
          rw [← hE] at heq
          have HE := Lib.hid hE
          have hmq : (m ++ q).length ≤ 5000 := by rw [List.length_append]; omega
          have HMQ := Lib.hid hmq
          clear hE hmq
          go_wp2_with (first
            | (go_at_call 18; refine HWR.out.mono ?_; rintro e w3 ⟨rfl, hH3, hf3⟩; have hc3 := hf3.cell HC.out (by simp; omega); have HOWN3 := Lib.hid (owns_kept HOWN.out hf3 (fun j hj => by have := HAB.out j hj; simpa using this)); have HQ3 := Lib.hid (HPW.out.kept hf3 (fun j hj hne _ => by have := HPLT.out hne j hj; simp; omega)); have hsz3 : w.heap.size ≤ w3.heap.size := Nat.le_trans hwsz hf3.size; have HH3 := Lib.hid hH3; have HF3 := Lib.hid hf3; clear hH3 hf3)
            | (at_builtin; refine wpL_append rfl (.tmp 30) (.tmp 34) 22 rfl w.heap.size 5 i (.int .u8 0) Tryd.underlying22 hi hz0 hz1 hz2 rfl _ m rfl HOWN3.out _ q rfl HQ3.out (by omega) hsz3 ?_; intro v' w4 hown4 hf4 hb4; obtain ⟨a4, c4, rfl, hl4, hm4⟩ := (bytesAt_of_owns hown4).form; have HOWN4 := Lib.hid hown4; have HB4 := Lib.hid hb4; have HF4 := Lib.hid hf4; clear hown4 hb4 hf4))
          have hf34 : Fr u4.ownBlock.toList w3 w4 := HF4.out
          have hpn : p ∉ u4.ownBlock.toList := fun hpm => by
            have hk' : u4.ownBlock = some p := by simpa [Option.mem_toList] using hpm
            exact HAB.out p hk' rfl
          have hH4 := HH3.out.kept hf34 hpn
          have hf03 : Fr [] w w3 := hf.trans HF3.out (by simp) (by simp; omega)
          have hf04 : Fr [] w w4 := hf03.trans hf34 (by simp) (fun j hj hlt => by
            have hk' : u4.ownBlock = some j := by simpa [Option.mem_toList] using hj
            have := (HOWN.out.lt j hk').1
            omega)
          have hby4 : bytesAt w4 (.slice a4 (m ++ q).length c4) (m ++ q) := bytesAt_of_owns HOWN4.out
          have hG := grows_at (m ++ q) p _ w4 hH4 hby4 (HR.out.below hf04) HMQ.out
          rw [← HE.out] at hG
          rw [List.length_append] at hG
          have HG := Lib.hid hG
          have hlq : (m ++ q).length = m.length + q.length := List.length_append
          have hlen4 := hG.len w4 (Fr.refl _ _)
          rw [hlq] at hlen4
          have HL4 := Lib.hid hlen4
          have HLQ := Lib.hid hlq
          have hm3 := HF3.out.size
          have hnb : ∀ j, (Value.slice a4 (m.length + q.length) c4).ownBlock = some j → j ≠ p := fun j hj => by
            have hj' : (Value.slice a4 (m ++ q).length c4).ownBlock = some j := by rw [hlq]; exact hj
            rcases HB4.out with h | h
            · exact HAB.out j (h.symm.trans hj')
            · have h5 : some j = some w3.heap.size := hj'.symm.trans h
              have h6 := HH3.out.lt
              have h7 := Option.some.inj h5
              omega
          have HNB := Lib.hid hnb
          clear hG hlen4 hlq hnb hH4 hby4 hpn hf34
          go_wp2_with (first
            | (go_at_call 19; refine HL4.out.mono ?_; rintro e w5 ⟨rfl, rfl⟩)
            | (go_at_call 20; refine (HG.out.sum w4 (Fr.refl _ _)).mono ?_; rintro e wa ⟨rfl, ha⟩)
            | (go_at_call 7; refine (HG.out.ref wa ha).mono ?_; rintro e wb ⟨rfl, hb⟩; have hab4 : Fr [] w4 wb := ha.trans hb (by simp) (by simp))
            | (go_at_call 20; refine (HG.out.sum wb hab4).mono ?_; rintro e wc ⟨rfl, hc⟩; have hac4 : Fr [] w4 wc := hab4.trans hc (by simp) (by simp)))
          have hp1 := partsAt_new1 wc _ (m ++ q) 22 (HG.out.bytes wc hac4)
          have hal : Fr [] w4 (wc.alloc (.cells #[Value.slice a4 (m.length + q.length) c4] 22)) := hac4.trans (Fr.alloc _ _) (by simp) (by simp)
          have HO := Lib.hid (HG.out.of _ _ hal hp1)
          go_wp2_with (go_at_call 8; refine HO.out.mono ?_; rintro e wd ⟨rfl, hd4⟩)
          have had : Fr [] w4 wd := hal.trans hd4 (by simp) (by simp)
          have hf0d : Fr [] w wd := hf04.trans had (by simp) (by simp)
          have hf34 : Fr u4.ownBlock.toList w3 w4 := HF4.out
          have hisd := (HH3.out.kept hf34 (fun hpm => by
            have hk' : u4.ownBlock = some p := by simpa [Option.mem_toList] using hpm
            exact HAB.out p hk' rfl)).kept had (by simp)
          have hownd := owns_kept HOWN4.out had (by simp)
          refine ⟨⟨k + 1, by omega, by go_num, ?_, ?_, ?_, HNB.out, hf0d⟩, by simp [intOf]; omega⟩
          · rw [HFL.out, HLQ.out]; omega
          · rw [HFL.out]; exact hisd
          · rw [HFL.out]
            have hx := hownd
            rw [show (Value.slice a4 (m ++ q).length c4) = Value.slice a4 (m.length + q.length) c4 by rw [HLQ.out]] at hx
            exact hx
      · have hd : decide (k < parts.length) = false := decide_eq_false hkn
        have HW := Lib.hid (awake_any wr (HR.out.below hf))
        go_wp2_with (go_at_call 6; refine HW.out.mono ?_; rintro e w3 ⟨rfl, hf3⟩)
        go_ret
        exact ⟨rfl, hf.trans hf3 (by simp) (by simp)⟩
end Go.Proofs.YtjiighgabfkmpaaDoor
