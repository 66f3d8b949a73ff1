/- Contract of package seven's Pack. -/
import Derived.Test.YtjddagkjgkdbkaaSevB
import Derived.Test.YtjddagkjgkdbkaaCrcTurn
import Derived.Deep.DeepCutAuto
namespace Go.Proofs.Ytjddagkjgkdbkaa
open Go.RowKit

/-- One byte more in the collector. -/
theorem le_put (xs : List UInt8) (c : UInt8) : le xs + c.toNat % 2 ^ 8 * 2 ^ (8 * xs.length) = le (xs ++ [c]) := by
  rw [le_append, le_one, Nat.mod_eq_of_lt c.toNat_lt]
/-- The marks set in the first i. -/
def mix (l : List UInt8) (i : Nat) : List UInt8 := (l.map fun c => c ||| 128).take i ++ l.drop i
theorem mix_length (l : List UInt8) (i : Nat) : (mix l i).length = l.length := by simp [mix]; omega
theorem mix_get (l : List UInt8) (i : Nat) (h : i < l.length) : (mix l i)[i]'(by rw [mix_length]; exact h) = l[i]'h := by
  unfold mix
  rw [List.getElem_append_right (by simp; omega)]
  simp only [List.getElem_drop]
  congr 1
  simp
  omega
theorem mix_set (l : List UInt8) (i : Nat) (h : i < l.length) : (mix l i).set i (l[i]'h ||| 128) = mix l (i + 1) := by
  unfold mix
  have hl : ((l.map fun c => c ||| 128).take i).length = i := by simp; omega
  rw [List.set_append_right _ _ (by omega), hl, Nat.sub_self, List.drop_eq_getElem_cons h, List.set_cons_zero, List.take_succ_eq_append_getElem (by simpa using h)]
  simp
theorem mix_all (l : List UInt8) : mix l l.length = l.map fun c => c ||| 128 := by rw [mix, List.take_of_length_le (by simp), List.drop_length, List.append_nil]
theorem mark_value (c : UInt8) : bits .or .u8 (c.toNat : Int) 128 = ((c ||| 128).toNat : Int) := by
  have h := u8_or_nat c.toNat 128 c.toNat_lt (by decide)
  have e : (c ||| 128).toNat = c.toNat ||| 128 := by rw [UInt8.toNat_or]; rfl
  rw [e, ← h]
  rfl
def MarkRel (w : World) (base g : Nat) (l : List UInt8) (s : Value) (wr : World) : Prop :=
  ∃ i : Nat, i ≤ l.length ∧ s = .int .i64 (i : Int) ∧ rowIs wr g (mix l i) ∧ Below base w wr
def InRel (w : World) (p base : Nat) (pre part : List UInt8) (s : Value) (wr : World) : Prop :=
  ∃ i : Nat, i ≤ part.length ∧ s = .int .i64 (i : Int) ∧ isC wr p 7 (le (pre ++ part.take i)) (8 * (pre ++ part.take i).length) base ∧ Below base w wr
def OutRel (w : World) (p base : Nat) (parts : List (List UInt8)) (s : Value) (wr : World) : Prop :=
  ∃ k : Nat, k ≤ parts.length ∧ s = .int .i64 (k : Int) ∧ isC wr p 7 (le (parts.take k).flatten) (8 * (parts.take k).flatten.length) base ∧ Below base w wr

set_option maxRecDepth 100000 in
theorem pack_any (parts : List (List UInt8)) (sv : Value) (w : World) (h : partsAt w sv parts) (hl : parts.flatten.length ≤ 1000000) :
    Calls Try.prog 9 #[sv] w (Ret fun v w' => bytesAt w' v (packOf parts.flatten) ∧ Fr [] w w') := by
  obtain ⟨i, hi, hz0, hz1, hz2⟩ := info_parts infoB
  obtain ⟨a0, c0, rfl, hle, hmx⟩ := h.form
  simp only [maxLen] at hmx
  have HP := Lib.hid h
  have HCT := Lib.hid (count_any parts _ w h (by omega))
  clear h
  obtain ⟨m, hm⟩ : ∃ m, m = parts.flatten.length := ⟨_, rfl⟩
  rw [← hm] at hl HCT
  have HM := Lib.hid hm
  clear hm
  have hlp : lenP m ≤ 2000000 := by simp only [lenP]; omega
  have HPL := Lib.hid (packedLen_any m w (by omega))
  obtain ⟨q, hq⟩ : ∃ q, q = lenP m := ⟨_, rfl⟩
  rw [← hq] at hlp HPL
  have HQ := Lib.hid hq
  clear hq
  go_enter Try.func9, Try.ntmps9
  go_wp2_with (first
    | (go_at_call 17; refine HCT.out.mono ?_; rintro e w1 ⟨rfl, rfl⟩)
    | (go_at_call 16; refine HPL.out.mono ?_; rintro e w1 ⟨rfl, rfl⟩)
    | (refine wpL_makeCap rfl _ _ 22 rfl 5 i (.int .u8 0) 1 Try.underlying22 hi hz0 hz1 hz2 rfl 0 q rfl rfl (by omega) (by omega) (by simp [maxLen]; omega) ?_; intro w1 hown1 hf1 hs1))
  have hst : isC (w1.alloc (.cells (colC 7 (.slice (some ⟨w.heap.size, 0, none⟩) 0 q) 0 0) 35)) w1.heap.size 7 (le (parts.take 0).flatten) (8 * (parts.take 0).flatten.length) w.heap.size := by
    rw [List.take_zero]
    refine ⟨.slice (some ⟨w.heap.size, 0, none⟩) 0 q, ?_, owns_kept (n := 0) (xs := []) hown1 (Fr.alloc _ _) (by simp), ?_⟩
    · rw [heap_alloc_new]; rfl
    · intro j' hj'
      have e : w.heap.size = j' := Option.some.inj hj'
      have := hs1.out
      omega
  have hbel1 : Below w.heap.size w (w1.alloc (.cells (colC 7 (.slice (some ⟨w.heap.size, 0, none⟩) 0 q) 0 0) 35)) := (hf1.below (Nat.le_refl _) (by simp)).alloc hf1.size _
  have hbp : w.heap.size ≤ w1.heap.size := hf1.size
  obtain ⟨p, hp⟩ : ∃ p, p = w1.heap.size := ⟨_, rfl⟩
  rw [← hp] at hst hbp ⊢
  obtain ⟨base, hbase⟩ : ∃ base, base = w.heap.size := ⟨_, rfl⟩
  rw [← hbase] at hst hbp hbel1 ⊢
  have HB := Lib.hid hbase
  clear hp hown1 hs1 hf1 hbase
  go_loopw [17] (OutRel w p base parts) (fun s _ => parts.length - (intOf s).toNat)
  case atStart => exact ⟨0, Nat.zero_le _, rfl, hst, hbel1⟩
  case round =>
    clear hst hbel1
    obtain ⟨k, hk, rfl, hC, hbel⟩ := hrel
    by_cases hkn : k < parts.length
    · have hd : decide (k < parts.length) = true := decide_eq_true hkn
      obtain ⟨b, off, v, rfl, hc0, hb⟩ := HP.out.get hkn
      have hc := (Fr.of_below (HB.out ▸ hbel)).cell hc0 (by simp)
      clear hc0
      have hnext := flat_take_succ parts k hkn
      have hnl := flat_le parts (k + 1)
      rw [hnext, ← HM.out] at hnl
      obtain ⟨part, hpp⟩ : ∃ p, p = parts[k]'hkn := ⟨_, rfl⟩
      rw [← hpp] at hb hnext hnl
      obtain ⟨pre, hpre⟩ : ∃ l, l = (parts.take k).flatten := ⟨_, rfl⟩
      rw [← hpre] at hnext hnl hC
      obtain ⟨a1, c1, rfl, hle1, hmx1⟩ := hb.form
      have HB1 := Lib.hid hb
      have HN := Lib.hid hnext
      have HC := Lib.hid hC
      simp only [List.length_append] at hnl
      clear hnext hpp hb hpre hC
      go_wp2_with fail
      go_loopw [23] (InRel wr p base pre part) (fun s _ => part.length - (intOf s).toNat)
      case atStart => exact ⟨0, Nat.zero_le _, rfl, by simpa using HC.out, Below.refl _ _⟩
      case round =>
        obtain ⟨i, hi', rfl, hC2, hbel2⟩ := hrel
        have hfr2 := Fr.of_below (HB.out ▸ (hbel.trans hbel2))
        by_cases hin : i < part.length
        · have hd2 : decide (i < part.length) = true := decide_eq_true hin
          obtain ⟨b2, off2, rfl, hc2⟩ := byteAt (HB1.out.below hfr2) i hin
          have hstep : pre ++ part.take (i + 1) = (pre ++ part.take i) ++ [part[i]'hin] := by rw [List.take_succ_eq_append_getElem hin, List.append_assoc]
          obtain ⟨c, hcc⟩ : ∃ c, c = part[i]'hin := ⟨_, rfl⟩
          rw [← hcc] at hstep hc2
          have hxl : (pre ++ part.take i).length ≤ 1000000 := by rw [List.length_append, List.length_take]; omega
          have hput := put_any p 7 (le (pre ++ part.take i)) (8 * (pre ++ part.take i).length) base 8 c _ hC2 hbp (le_lt2 _) (by decide) (by decide) (by decide) (by omega)
          rw [le_put, ← hstep] at hput
          have hlen2 : 8 * (pre ++ part.take i).length + 8 = 8 * (pre ++ part.take (i + 1)).length := by rw [hstep, List.length_append (bs := [c])]; rfl
          rw [hlen2] at hput
          have HPUT := Lib.hid hput
          clear hput hlen2 hxl hstep hcc hC2
          go_wp2_with (go_at_call 15; refine HPUT.out.mono ?_; rintro e w3 ⟨rfl, hC3, hbel3⟩)
          exact ⟨⟨i + 1, by omega, by go_num, hC3, hbel2.trans hbel3⟩, by simp [intOf]; omega⟩
        · have hd2 : decide (i < part.length) = false := decide_eq_false hin
          obtain rfl : i = part.length := by omega
          rw [List.take_length, ← HN.out] at hC2
          have HC2 := Lib.hid hC2
          clear hC2
          go_wp2_with fail
          exact ⟨⟨k + 1, by omega, by go_num, HC2.out, hbel.trans hbel2⟩, by simp [intOf]; omega⟩
    · have hd : decide (k < parts.length) = false := decide_eq_false hkn
      obtain rfl : k = parts.length := by omega
      rw [List.take_length, ← HM.out] at hC
      obtain ⟨v, hh, hown, hvp⟩ := hC
      obtain ⟨M, hMM⟩ : ∃ M, M = le parts.flatten := ⟨_, rfl⟩
      obtain ⟨t, htt⟩ : ∃ t, t = 8 * m := ⟨_, rfl⟩
      have hMt : M < 2 ^ t := by rw [hMM, htt, HM.out]; exact le_lt2 _
      rw [← hMM, ← htt] at hh hown
      have hLt := colL_lt 7 M t (by decide) hMt
      obtain ⟨L, hLL⟩ : ∃ L, L = colL 7 M t := ⟨_, rfl⟩
      obtain ⟨U, hUU⟩ : ∃ U, U = t % 7 := ⟨_, rfl⟩
      rw [← hLL, ← hUU] at hh
      rw [← hLL, ← hUU] at hLt
      have hc1 : wr.cell? ⟨p, 1, none⟩ = some v := by rw [cell_of_heap hh]; rfl
      have hc2 : wr.cell? ⟨p, 2, none⟩ = some (.int .u8 (L : Int)) := by rw [cell_of_heap hh]; rfl
      have hc3 : wr.cell? ⟨p, 3, none⟩ = some (.int .i64 (U : Int)) := by rw [cell_of_heap hh]; rfl
      obtain ⟨a8, c8, rfl⟩ := owns_slice hown
      have hps : p < wr.heap.size := (Array.getElem?_eq_some_iff.1 hh).1
      have HO := Lib.hid hown
      have HMM := Lib.hid hMM
      have HTT := Lib.hid htt
      have HLL := Lib.hid hLL
      have HUU := Lib.hid hUU
      have HLT := Lib.hid hLt
      have HVP := Lib.hid hvp
      have ht7 : t / 7 ≤ 8000000 := by omega
      clear hh hown hMM htt hLL hUU hLt hvp
      go_upto_if 35 with fail
      go_cut [8] (fun s8 wx => wx.ownsRow base 5 1 s8 q (cellsB (grp 7 M q)) ∧ Below base w wx)
      case first =>
        by_cases hU0 : 0 < U
        · have hd3 : decide (0 < U) = true := decide_eq_true hU0
          have hq' : q = t / 7 + 1 := by have := HUU.out; have := HTT.out; have := HQ.out; simp only [lenP] at this; omega
          have HQ' := Lib.hid hq'
          clear hq'
          go_wp2_with (at_builtin; refine wpL_append1 rfl (.tmp 36) (.tmp 39) 22 rfl base 5 i (.int .u8 0) 1 Try.underlying22 hi hz0 hz1 hz2 rfl (.slice a8 (t / 7) c8) (t / 7) (cellsB (colW 7 M t)) rfl HO.out (.int .u8 (L : Int)) rfl rfl (by omega) (by simp [maxLen]; omega) (by omega) ?_; intro v' w5 hown5 hf5 hb5)
          go_meet
          refine ⟨?_, hbel.trans (hf5.below (by omega) (fun g hg => (HO.out.lt g (by simpa [Option.mem_toList] using hg)).1))⟩
          rw [HQ'.out, grp_succ, cellsB_append]
          have hL128 : L < 2 ^ 7 := Nat.lt_of_lt_of_le HLT.out (pow_le2 (by have := HUU.out; omega))
          have hcell : cellsB [UInt8.ofNat (M / 2 ^ (7 * (t / 7)) % 2 ^ 7)] = [.int .u8 (L : Int)] := by
            have e : M / 2 ^ (7 * (t / 7)) = L := HLL.out.symm
            simp only [cellsB, List.map_cons, List.map_nil, UInt8.toNat_ofNat']
            rw [e, Nat.mod_eq_of_lt hL128, Nat.mod_eq_of_lt (Nat.lt_trans hL128 (by decide))]
          rw [hcell]
          exact hown5
        · have hd3 : decide (0 < U) = false := decide_eq_false hU0
          have hq' : q = t / 7 := by have := HUU.out; have := HTT.out; have := HQ.out; simp only [lenP] at this; omega
          have HQ' := Lib.hid hq'
          clear hq'
          go_wp2_with fail
          go_meet
          refine ⟨?_, hbel⟩
          rw [HQ'.out]
          exact HO.out
      case rest =>
        obtain ⟨hown8, hbel8⟩ := hcut
        have hpk : packOf parts.flatten = packN M q := by rw [packOf, ← HMM.out, HQ.out, ← HM.out]
        by_cases hq0 : q = 0
        · subst hq0
          obtain ⟨a9, c9, rfl⟩ := owns_slice hown8
          have hby := bytesAt_of_owns (bs := []) hown8
          rw [show packN M 0 = [] from rfl] at hpk
          have HPK := Lib.hid hpk
          have HBY := Lib.hid hby
          clear hpk hby hown8
          go_wp2_with fail
          go_loopw [43] (fun s wx => s = .int .i64 0 ∧ wx = wc) (fun _ _ => 0)
          case atStart => exact ⟨rfl, rfl⟩
          case round =>
            obtain ⟨rfl, rfl⟩ := hrel
            go_wp2_with fail
            go_ret
            exact Ret.mk ⟨by rw [HPK.out]; exact HBY.out, Fr.of_below (HB.out ▸ hbel8)⟩
        · have hgl := grp_length 7 M q
          have hpm := packN_grp M q
          obtain ⟨l, hlg⟩ : ∃ l, l = grp 7 M q := ⟨_, rfl⟩
          rw [← hlg] at hgl hpm hown8
          have hne : l ≠ [] := by rintro rfl; exact hq0 hgl.symm
          rw [← hgl] at hown8
          obtain ⟨g, cap, rfl, hbg, hcap, hmax, hrow⟩ := rowIs_of_owns hown8 hne
          have HPK := Lib.hid (hpk.trans hpm.symm)
          clear hpk hpm hlg hown8 hne
          have hq0' : q = l.length := hgl.symm
          clear hgl hq0
          subst hq0'
          go_wp2_with fail
          go_loopw [43] (MarkRel w base g l) (fun s _ => l.length - (intOf s).toNat)
          case atStart => exact ⟨0, Nat.zero_le _, rfl, by simpa [mix] using hrow, hbel8⟩
          case round =>
            clear hrow hbel8
            obtain ⟨i, hil, rfl, hrow, hbel9⟩ := hrel
            by_cases hin : i < l.length
            · have hd4 : decide (i < l.length) = true := decide_eq_true hin
              have hcell := hrow.cell i (by rw [mix_length]; exact hin)
              rw [mix_get l i hin] at hcell
              have hfree := hrow.free i
              have hset := hrow.set i (l[i]'hin ||| 128)
              rw [mix_set l i hin] at hset
              have hmv := mark_value (l[i]'hin)
              rw [← hmv] at hset
              have HSET := Lib.hid hset
              clear hset hmv
              go_wp2_with fail
              exact ⟨⟨i + 1, by omega, by go_num, HSET.out, hbel9.setCell hbg _⟩, by simp [intOf]; omega⟩
            · have hd4 : decide (i < l.length) = false := decide_eq_false hin
              obtain rfl : i = l.length := by omega
              rw [mix_all] at hrow
              have hby := hrow.bytes (cap := cap) (by simpa using hcap) hmax l.length (by simp)
              rw [← HPK.out] at hby
              have HBY := Lib.hid hby
              clear hby hrow
              go_wp2_with fail
              go_ret
              exact Ret.mk ⟨HBY.out, Fr.of_below (HB.out ▸ hbel9)⟩
end Go.Proofs.Ytjddagkjgkdbkaa
