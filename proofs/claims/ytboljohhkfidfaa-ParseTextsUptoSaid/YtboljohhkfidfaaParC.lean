/- The statements' text (layer 13). Written by wip/tools/gen_prc.py. -/
import Derived.Test.YtboljohhkfidfaaParDat
import Derived.LoopTactic
import Derived.Deep.DeepCutAuto
import Derived.Laws.Concat
namespace Go.Proofs.Ytboljohhkfidfaa
open Go.RowKit

/-- A concatenation, its result named. -/
theorem cat_run {P : Program} {A B C : Array UInt8} {x y : List UInt8} (hA : A = x.toArray) (hB : B = y.toArray) (hC : C = (x ++ y).toArray) (hl : (x ++ y).length ≤ 9223372036854775807) (w : World) : (Op.stringOp .add { data := A } { data := B }).run P w = .ok (.string { data := C }) w := by
  subst hA hB hC
  rw [List.length_append] at hl
  rw [run_string_add_sum w _ _ (by simp [ByteArray.size]; omega), ByteArray.mk_append_mk]
theorem text_next {l : List LineD} {i : Nat} (h : i < l.length) : textD (l.take (i + 1)) = textD (l.take i) ++ lineT (l[i]'h) := by
  rw [List.take_succ_eq_append_getElem h]; unfold textD; rw [List.flatMap_append, List.flatMap_cons, List.flatMap_nil, List.append_nil]
theorem text_len {l : List LineD} {i : Nat} : (textD (l.take i)).length ≤ (textD l).length := by
  have : textD l = textD (l.take i) ++ textD (l.drop i) := by simp only [textD, ← List.flatMap_append, List.take_append_drop]
  rw [this, List.length_append]; omega
theorem altsT_snoc : ∀ (l : List (List ItemD)) (a : List ItemD), altsT (l ++ [a]) = altsT l ++ (if l = [] then [] else [32, 124]) ++ altT a
  | [], a => by simp [altsT]
  | b :: r, a => by simp [altsT]
theorem alts_next {l : List (List ItemD)} {k : Nat} (h : k < l.length) : altsT (l.take (k + 1)) = altsT (l.take k) ++ (if k = 0 then [] else [32, 124]) ++ altT (l[k]'h) := by
  rw [List.take_succ_eq_append_getElem h, altsT_snoc]
  by_cases hk : k = 0
  · subst hk; simp
  · rw [if_neg hk, if_neg (by intro e; have := congrArg List.length e; rw [List.length_take, List.length_nil] at this; omega)]
theorem alts_len {l : List (List ItemD)} : ∀ (n k : Nat), k + n = l.length → (altsT (l.take k)).length ≤ (altsT l).length
  | 0, k, h => by rw [List.take_of_length_le (by omega)]; exact Nat.le_refl _
  | n + 1, k, h => by
    have h1 := alts_len (l := l) n (k + 1) (by omega)
    have h2 := alts_next (l := l) (k := k) (by omega)
    rw [h2, List.length_append, List.length_append] at h1
    omega
theorem alt_next {a : List ItemD} {n : Nat} (h : n < a.length) : altT (a.take (n + 1)) = altT (a.take n) ++ itemT (a[n]'h) := by
  rw [List.take_succ_eq_append_getElem h]; unfold altT; rw [List.flatMap_append, List.flatMap_cons, List.flatMap_nil, List.append_nil]
theorem alt_len {a : List ItemD} {n : Nat} : (altT (a.take n)).length ≤ (altT a).length := by
  have : altT a = altT (a.take n) ++ altT (a.drop n) := by simp only [altT, ← List.flatMap_append, List.take_append_drop]
  rw [this, List.length_append]; omega
theorem two_of_box2 {w : World} {p : Nat} {a b : Value} {t : TypeId} (h : w.heap[p]? = some (.cells #[a, b] t (0, 0))) : w.cell? ⟨p, 0, none⟩ = some a ∧ w.cell? ⟨p, 1, none⟩ = some b ∧ w.frozen? ⟨p, 0, none⟩ = false ∧ w.frozen? ⟨p, 1, none⟩ = false :=
  ⟨by rw [cell_of_heap h]; rfl, by rw [cell_of_heap h]; rfl, free_of_heap h 0, free_of_heap h 1⟩
def TxRel (w : World) (pre : Nat → List UInt8) (m : Nat) (sv iv : Value) (wx : World) : Prop := ∃ (i : Nat) (X : Array UInt8), i ≤ m ∧ iv = .int .i64 (i : Int) ∧ sv = .string { data := X } ∧ X = (pre i).toArray ∧ Fr [] w wx
set_option maxRecDepth 100000 in
set_option maxHeartbeats 4000000 in
theorem text_any (l : List LineD) (v : Value) (w : World) (h : linesAt w v l) (hs : (textD l).length ≤ 9223372036854775807) : Calls Try.prog 11 #[v] w fun e w' => e = .returned (encStr (textD l)) ∧ Fr [] w w' := by
  obtain ⟨a1, c1, rfl, hc1, hm1⟩ := h.form
  have HL := Lib.hid h
  have HS := Lib.hid hs
  clear h hs
  go_enter Try.func11, Try.ntmps11
  go_wp2_with fail
  go_loopw [3, 4] (TxRel w (fun i => textD (l.take i)) l.length) (fun _ iv _ => l.length - (intOf iv).toNat)
  case atStart => exact ⟨0, #[], Nat.zero_le _, rfl, rfl, rfl, Fr.refl _ _⟩
  case round =>
    obtain ⟨i, X, hi, rfl, rfl, hX, hf⟩ := hrel
    have HX := Lib.hid hX
    have HF := Lib.hid hf
    clear hX
    by_cases hin : i < l.length
    · have hd1 : decide (i < l.length) = true := decide_eq_true hin
      obtain ⟨b1, off1, va, rfl, k0, k1, hal⟩ := line_cells HL.out i hin
      obtain ⟨L, hLe⟩ : ∃ L, L = l[i]'hin := ⟨_, rfl⟩
      rw [← hLe] at k0 hal
      obtain ⟨nm, al⟩ := L
      simp only at k0 hal
      obtain ⟨a2, c2, rfl, hc2, hm2⟩ := hal.form
      have htn := text_next hin
      rw [← hLe] at htn
      have htl := text_len (l := l) (i := i + 1)
      rw [htn] at htl
      have hlt : (textD (l.take i) ++ lineT ⟨nm, al⟩).length ≤ 9223372036854775807 := Nat.le_trans htl HS.out
      have HTN := Lib.hid htn
      obtain ⟨T, hT⟩ : ∃ T, T = textD (l.take i) := ⟨_, rfl⟩
      have hXT : X = T.toArray := by rw [hT]; exact HX.out
      rw [← hT] at hlt HTN
      have hlen : T.length + nm.length + 5 + (altsT al).length ≤ 9223372036854775807 := by
        have := hlt
        simp [lineT] at this
        omega
      have HK0 := Lib.hid k0
      have HK1 := Lib.hid k1
      have r0 := hf.cell k0 (by simp)
      have r1 := hf.cell k1 (by simp)
      obtain ⟨X1, hX1⟩ : ∃ X1, X1 = (T ++ nm).toArray := ⟨_, rfl⟩
      obtain ⟨X2, hX2⟩ : ∃ X2, X2 = (T ++ nm ++ [32, 58]).toArray := ⟨_, rfl⟩
      have ca := fun wx => cat_run (P := Try.prog) (A := X) (B := nm.toArray) (C := X1) hXT rfl hX1 (by simp; omega) wx
      have cb := fun wx => cat_run (P := Try.prog) (A := X1) (B := #[32, 58]) (C := X2) (y := [32, 58]) hX1 rfl hX2 (by simp; omega) wx
      obtain ⟨Q, hQ⟩ : ∃ Q, Q = T ++ nm ++ [32, 58] := ⟨_, rfl⟩
      rw [← hQ] at hX2
      have hQl : Q.length = T.length + nm.length + 2 := by rw [hQ]; simp; omega
      have HX2 := Lib.hid hX2
      have HAL := Lib.hid hal
      have HQ := Lib.hid hQ
      clear hX1 hX2 hXT htn htl hlt hLe hT hf hal hQ k0 k1
      go_upto_region 7 with fail
      clear ca cb r0 r1
      go_loopw [3, 5] (TxRel w (fun k => Q ++ altsT (al.take k)) al.length) (fun _ iv _ => al.length - (intOf iv).toNat)
      case atStart => exact ⟨0, X2, Nat.zero_le _, rfl, rfl, by rw [HX2.out]; simp [altsT], HF.out⟩
      case round =>
        obtain ⟨k, X3, hk, rfl, rfl, hX3, hf3⟩ := hrel
        have HX3 := Lib.hid hX3
        have HF3 := Lib.hid hf3
        clear hX3
        have r1 := hf3.cell HK1.out (by simp)
        by_cases hkn : k < al.length
        · have hd2 : decide (k < al.length) = true := decide_eq_true hkn
          obtain ⟨b2, off2, vk, rfl, k2, hit⟩ := alt_cells HAL.out k hkn
          have han := alts_next hkn
          have hal2 := alts_len (l := al) (al.length - (k + 1)) (k + 1) (by omega)
          obtain ⟨at_, hat⟩ : ∃ a, a = al[k]'hkn := ⟨_, rfl⟩
          rw [← hat] at hit han
          obtain ⟨a3, c3, rfl, hc3, hm3⟩ := hit.form
          have r2 := hf3.cell k2 (by simp)
          rw [han] at hal2
          have HAN := Lib.hid han
          have HIT := Lib.hid hit
          have HK2 := Lib.hid k2
          obtain ⟨S, hS⟩ : ∃ S, S = Q ++ altsT (al.take k) ++ (if k = 0 then [] else [32, 124]) := ⟨_, rfl⟩
          have hSl : S.length + (altT at_).length ≤ Q.length + (altsT al).length := by
            rw [hS]
            simp only [List.length_append] at hal2 ⊢
            omega
          have HS2 := Lib.hid hS
          clear han hit k2 hat hf3 hal2
          by_cases hk0 : k = 0
          · have d0 : decide (0 < k) = false := decide_eq_false (by omega)
            have d0' : decide (0 < (k : Int)) = false := decide_eq_false (by omega)
            have HX4 := Lib.hid (show X3 = S.toArray by rw [HX3.out, HS2.out, if_pos hk0]; simp)
            clear hk0
            go_upto_region 12 with fail
            clear d0 d0'
            go_loopw [3, 6] (TxRel w (fun n => S ++ altT (at_.take n)) at_.length) (fun _ iv _ => at_.length - (intOf iv).toNat)
            case atStart => exact ⟨0, X3, Nat.zero_le _, rfl, rfl, by rw [HX4.out]; simp [altT], HF3.out⟩
            case round =>
              obtain ⟨n, X6, hn, rfl, rfl, hX6, hf6⟩ := hrel
              have HF6 := Lib.hid hf6
              have r1 := hf6.cell HK1.out (by simp)
              have r2 := hf6.cell HK2.out (by simp)
              by_cases hnn : n < at_.length
              · have hd3 : decide (n < at_.length) = true := decide_eq_true hnn
                obtain ⟨b3, off3, rfl, i0, i1⟩ := item_cells HIT.out n hnn
                have hin2 := alt_next hnn
                have hil := alt_len (a := at_) (n := n + 1)
                obtain ⟨it, hite⟩ : ∃ it, it = at_[n]'hnn := ⟨_, rfl⟩
                rw [← hite] at i0 i1 hin2
                obtain ⟨tb, tx⟩ := it
                simp only at i0 i1
                rw [hin2, List.length_append] at hil
                have j0 := hf6.cell i0 (by simp)
                have j1 := hf6.cell i1 (by simp)
                have hfa := Fr.alloc wr (.cells #[.bool tb, encStr tx] 59)
                have hba := heap_alloc_new wr (.cells #[.bool tb, encStr tx] 59)
                obtain ⟨w7, hw7⟩ : ∃ w7, w7 = wr.alloc (.cells #[.bool tb, encStr tx] 59) := ⟨_, rfl⟩
                obtain ⟨q, hq⟩ : ∃ q, q = wr.heap.size := ⟨_, rfl⟩
                rw [← hw7] at hfa hba
                rw [← hq] at hba
                have HW7 := Lib.hid hw7
                have HQ7 := Lib.hid hq
                have HBA := Lib.hid hba
                have HF7 := Lib.hid (hf6.trans hfa (by simp) (n := []) (by simp))
                obtain ⟨U, hU⟩ : ∃ U, U = S ++ altT (at_.take n) := ⟨_, rfl⟩
                have hX66 : X6 = U.toArray := by rw [hU]; exact hX6
                have hUl : U.length + (itemT ⟨tb, tx⟩).length ≤ 9223372036854775804 := by rw [hU, List.length_append]; omega
                have HI2 := Lib.hid hin2
                have HU := Lib.hid hU
                clear hw7 hq hfa hba hf6 hX6 hin2 hil hite i0 i1 hU
                go_upto_region 15 with fail
                rw [← HW7.out, ← HQ7.out]
                obtain ⟨x0, x1, x2, x3⟩ := two_of_box2 HBA.out
                clear HW7 HQ7 j0 j1 r1 r2
                cases tb with
                | true =>
                  have hul2 : U.length + tx.length + 3 ≤ 9223372036854775804 := by simp [itemT] at hUl; omega
                  obtain ⟨Y1, hY1⟩ : ∃ Y, Y = (U ++ [32, 39]).toArray := ⟨_, rfl⟩
                  obtain ⟨Y2, hY2⟩ : ∃ Y, Y = (U ++ [32, 39] ++ tx).toArray := ⟨_, rfl⟩
                  obtain ⟨Y3, hY3⟩ : ∃ Y, Y = (U ++ [32, 39] ++ tx ++ [39]).toArray := ⟨_, rfl⟩
                  have ca := fun wx => cat_run (P := Try.prog) (A := X6) (B := #[32, 39]) (C := Y1) (y := [32, 39]) hX66 rfl hY1 (by simp; omega) wx
                  have cb := fun wx => cat_run (P := Try.prog) (A := Y1) (B := tx.toArray) (C := Y2) hY1 rfl hY2 (by simp; omega) wx
                  have cc := fun wx => cat_run (P := Try.prog) (A := Y2) (B := #[39]) (C := Y3) (y := [39]) hY2 rfl hY3 (by simp; omega) wx
                  have HY3 := Lib.hid hY3
                  clear hY1 hY2 hY3 hX66 hUl
                  go_wp2_with fail
                  refine ⟨⟨n + 1, Y3, by omega, by go_num, rfl, ?_, HF7.out⟩, by simp [intOf]; omega⟩
                  rw [HY3.out]
                  simp only [HI2.out, HU.out]
                  simp [itemT]
                | false =>
                  have hul2 : U.length + tx.length + 1 ≤ 9223372036854775804 := by simp [itemT] at hUl; omega
                  obtain ⟨Y1, hY1⟩ : ∃ Y, Y = (U ++ [32]).toArray := ⟨_, rfl⟩
                  obtain ⟨Y2, hY2⟩ : ∃ Y, Y = (U ++ [32] ++ tx).toArray := ⟨_, rfl⟩
                  have ca := fun wx => cat_run (P := Try.prog) (A := X6) (B := #[32]) (C := Y1) (y := [32]) hX66 rfl hY1 (by simp; omega) wx
                  have cb := fun wx => cat_run (P := Try.prog) (A := Y1) (B := tx.toArray) (C := Y2) hY1 rfl hY2 (by simp; omega) wx
                  have HY2 := Lib.hid hY2
                  clear hY1 hY2 hX66 hUl
                  go_wp2_with fail
                  refine ⟨⟨n + 1, Y2, by omega, by go_num, rfl, ?_, HF7.out⟩, by simp [intOf]; omega⟩
                  rw [HY2.out]
                  simp only [HI2.out, HU.out]
                  simp [itemT]
              · have hd3 : decide (n < at_.length) = false := decide_eq_false hnn
                obtain rfl : n = at_.length := by omega
                have hX66 : X6 = (Q ++ altsT (al.take (k + 1))).toArray := by
                  rw [hX6]
                  simp only [List.take_length, HS2.out, HAN.out, List.append_assoc]
                have HX6 := Lib.hid hX66
                clear hX6 hf6 hX66
                go_wp2_with fail
                exact ⟨⟨k + 1, X6, by omega, by go_num, rfl, HX6.out, HF6.out⟩, by simp [intOf]; omega⟩
          · have d0 : decide (0 < k) = true := decide_eq_true (by omega)
            have d0' : decide (0 < (k : Int)) = true := decide_eq_true (by omega)
            obtain ⟨X4, hX4⟩ : ∃ X4, X4 = (Q ++ altsT (al.take k) ++ [32, 124]).toArray := ⟨_, rfl⟩
            have hlk : (Q ++ altsT (al.take k) ++ [32, 124]).length ≤ 9223372036854775807 := by
              have := HS2.out
              rw [if_neg hk0] at this
              rw [← this]; omega
            have cd := fun wx => cat_run (P := Try.prog) (A := X3) (B := #[32, 124]) (C := X4) (y := [32, 124]) HX3.out rfl hX4 hlk wx
            have HX4 := Lib.hid (show X4 = S.toArray by rw [hX4, HS2.out, if_neg hk0])
            clear hk0 hX4 hlk
            go_upto_region 12 with fail
            clear d0 d0' cd
            go_loopw [3, 6] (TxRel w (fun n => S ++ altT (at_.take n)) at_.length) (fun _ iv _ => at_.length - (intOf iv).toNat)
            case atStart => exact ⟨0, X4, Nat.zero_le _, rfl, rfl, by rw [HX4.out]; simp [altT], HF3.out⟩
            case round =>
              obtain ⟨n, X6, hn, rfl, rfl, hX6, hf6⟩ := hrel
              have HF6 := Lib.hid hf6
              have r1 := hf6.cell HK1.out (by simp)
              have r2 := hf6.cell HK2.out (by simp)
              by_cases hnn : n < at_.length
              · have hd3 : decide (n < at_.length) = true := decide_eq_true hnn
                obtain ⟨b3, off3, rfl, i0, i1⟩ := item_cells HIT.out n hnn
                have hin2 := alt_next hnn
                have hil := alt_len (a := at_) (n := n + 1)
                obtain ⟨it, hite⟩ : ∃ it, it = at_[n]'hnn := ⟨_, rfl⟩
                rw [← hite] at i0 i1 hin2
                obtain ⟨tb, tx⟩ := it
                simp only at i0 i1
                rw [hin2, List.length_append] at hil
                have j0 := hf6.cell i0 (by simp)
                have j1 := hf6.cell i1 (by simp)
                have hfa := Fr.alloc wr (.cells #[.bool tb, encStr tx] 59)
                have hba := heap_alloc_new wr (.cells #[.bool tb, encStr tx] 59)
                obtain ⟨w7, hw7⟩ : ∃ w7, w7 = wr.alloc (.cells #[.bool tb, encStr tx] 59) := ⟨_, rfl⟩
                obtain ⟨q, hq⟩ : ∃ q, q = wr.heap.size := ⟨_, rfl⟩
                rw [← hw7] at hfa hba
                rw [← hq] at hba
                have HW7 := Lib.hid hw7
                have HQ7 := Lib.hid hq
                have HBA := Lib.hid hba
                have HF7 := Lib.hid (hf6.trans hfa (by simp) (n := []) (by simp))
                obtain ⟨U, hU⟩ : ∃ U, U = S ++ altT (at_.take n) := ⟨_, rfl⟩
                have hX66 : X6 = U.toArray := by rw [hU]; exact hX6
                have hUl : U.length + (itemT ⟨tb, tx⟩).length ≤ 9223372036854775804 := by rw [hU, List.length_append]; omega
                have HI2 := Lib.hid hin2
                have HU := Lib.hid hU
                clear hw7 hq hfa hba hf6 hX6 hin2 hil hite i0 i1 hU
                go_upto_region 15 with fail
                rw [← HW7.out, ← HQ7.out]
                obtain ⟨x0, x1, x2, x3⟩ := two_of_box2 HBA.out
                clear HW7 HQ7 j0 j1 r1 r2
                cases tb with
                | true =>
                  have hul2 : U.length + tx.length + 3 ≤ 9223372036854775804 := by simp [itemT] at hUl; omega
                  obtain ⟨Y1, hY1⟩ : ∃ Y, Y = (U ++ [32, 39]).toArray := ⟨_, rfl⟩
                  obtain ⟨Y2, hY2⟩ : ∃ Y, Y = (U ++ [32, 39] ++ tx).toArray := ⟨_, rfl⟩
                  obtain ⟨Y3, hY3⟩ : ∃ Y, Y = (U ++ [32, 39] ++ tx ++ [39]).toArray := ⟨_, rfl⟩
                  have ca := fun wx => cat_run (P := Try.prog) (A := X6) (B := #[32, 39]) (C := Y1) (y := [32, 39]) hX66 rfl hY1 (by simp; omega) wx
                  have cb := fun wx => cat_run (P := Try.prog) (A := Y1) (B := tx.toArray) (C := Y2) hY1 rfl hY2 (by simp; omega) wx
                  have cc := fun wx => cat_run (P := Try.prog) (A := Y2) (B := #[39]) (C := Y3) (y := [39]) hY2 rfl hY3 (by simp; omega) wx
                  have HY3 := Lib.hid hY3
                  clear hY1 hY2 hY3 hX66 hUl
                  go_wp2_with fail
                  refine ⟨⟨n + 1, Y3, by omega, by go_num, rfl, ?_, HF7.out⟩, by simp [intOf]; omega⟩
                  rw [HY3.out]
                  simp only [HI2.out, HU.out]
                  simp [itemT]
                | false =>
                  have hul2 : U.length + tx.length + 1 ≤ 9223372036854775804 := by simp [itemT] at hUl; omega
                  obtain ⟨Y1, hY1⟩ : ∃ Y, Y = (U ++ [32]).toArray := ⟨_, rfl⟩
                  obtain ⟨Y2, hY2⟩ : ∃ Y, Y = (U ++ [32] ++ tx).toArray := ⟨_, rfl⟩
                  have ca := fun wx => cat_run (P := Try.prog) (A := X6) (B := #[32]) (C := Y1) (y := [32]) hX66 rfl hY1 (by simp; omega) wx
                  have cb := fun wx => cat_run (P := Try.prog) (A := Y1) (B := tx.toArray) (C := Y2) hY1 rfl hY2 (by simp; omega) wx
                  have HY2 := Lib.hid hY2
                  clear hY1 hY2 hX66 hUl
                  go_wp2_with fail
                  refine ⟨⟨n + 1, Y2, by omega, by go_num, rfl, ?_, HF7.out⟩, by simp [intOf]; omega⟩
                  rw [HY2.out]
                  simp only [HI2.out, HU.out]
                  simp [itemT]
              · have hd3 : decide (n < at_.length) = false := decide_eq_false hnn
                obtain rfl : n = at_.length := by omega
                have hX66 : X6 = (Q ++ altsT (al.take (k + 1))).toArray := by
                  rw [hX6]
                  simp only [List.take_length, HS2.out, HAN.out, List.append_assoc]
                have HX6 := Lib.hid hX66
                clear hX6 hf6 hX66
                go_wp2_with fail
                exact ⟨⟨k + 1, X6, by omega, by go_num, rfl, HX6.out, HF6.out⟩, by simp [intOf]; omega⟩
        · have hd2 : decide (k < al.length) = false := decide_eq_false hkn
          obtain rfl : k = al.length := by omega
          obtain ⟨X5, hX5⟩ : ∃ X5, X5 = (Q ++ altsT al ++ [32, 59, 10]).toArray := ⟨_, rfl⟩
          have hX33 : X3 = (Q ++ altsT al).toArray := by rw [HX3.out]; simp only [List.take_length]
          have cc := fun wx => cat_run (P := Try.prog) (A := X3) (B := #[32, 59, 10]) (C := X5) (y := [32, 59, 10]) hX33 rfl hX5 (by simp; omega) wx
          have HX5 := Lib.hid hX5
          clear hf3 hX5 hX33
          go_wp2_with fail
          refine ⟨⟨i + 1, X5, by omega, by go_num, rfl, ?_, HF3.out⟩, by simp [intOf]; omega⟩
          rw [HX5.out]
          simp only [HTN.out, HQ.out]
          simp [lineT]
    · have hd1 : decide (i < l.length) = false := decide_eq_false hin
      obtain rfl : i = l.length := by omega
      clear hf
      go_wp2_with fail
      go_ret
      refine ⟨?_, HF.out⟩
      rw [HX.out, List.take_length]
      rfl
end Go.Proofs.Ytboljohhkfidfaa
