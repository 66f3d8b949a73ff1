/- The document's lexer (layer 12): next. Written by wip/tools/gen_lc.py. -/
import Derived.Test.YtgfpkmnmdehkpaaGreatLy
import Derived.Test.YtgfpkmnmdehkpaaGreatBs
import Derived.Laws.Slices
import Derived.Laws.ResultCell
import Derived.Deep.DeepCutAuto
set_option linter.unusedVariables false
set_option linter.unusedSimpArgs false
namespace Go.Proofs.YtgfpkmnmdehkpaaGreat
open Go.RowKit
theorem sizeTok : (Tryz.prog.info? 73).map (·.size) = some 3 := by kernel_rfl
set_option maxRecDepth 100000 in
set_option maxHeartbeats 2000000 in
theorem rnext_one (m : List UInt8) (hm : m.length ≤ 1000000) (a : Nat) (ha : a < m.length) (c : UInt8) (hc : m[a]? = some c) (hw : c.toNat = 58 ∨ c.toNat = 124 ∨ c.toNat = 59) (w : World) (N : NextD) (hN : N = nextD c (m.drop (a + 1))) : Calls Tryz.prog 79 #[encStr m, .int .i64 (a : Int)] w (RNext m a N w) := by
  have hix := fun wx => run_index_str (P := Tryz.prog) wx 9 m (a : Int) a c Tryz.underlying9 rfl hc
  have hle := rletter_any c
  have hb := heap_alloc_new w (.cells #[.int .i64 0, .string { data := #[] }, .int .i64 0] 73)
  have hf := Fr.alloc w (.cells #[.int .i64 0, .string { data := #[] }, .int .i64 0] 73)
  obtain ⟨w0, hw0⟩ : ∃ w0, w0 = w.alloc (.cells #[.int .i64 0, .string { data := #[] }, .int .i64 0] 73) := ⟨_, rfl⟩
  obtain ⟨q, hq⟩ : ∃ q, q = w.heap.size := ⟨_, rfl⟩
  rw [← hw0] at hb hf
  rw [← hq] at hb
  obtain ⟨y0, y1, y2, z0, z1, z2⟩ := three_of_heap hb
  have HB := Lib.hid hb
  have HF := Lib.hid hf
  have HW := Lib.hid hw0
  have HQ := Lib.hid hq
  have hqw : w.heap.size ≤ q := by omega
  clear hb hf hw0 hq
  obtain ⟨n, hn⟩ : ∃ n, n = c.toNat := ⟨_, rfl⟩
  rw [← hn] at hix hle
  have HNN := Lib.hid hn
  have HNX := Lib.hid hN
  clear hN
  have hN1 : N = ⟨if n = 58 then 3 else if n = 124 then 4 else 5, [c], 1, 0⟩ := by
    rw [HNX.out]
    rcases hw with h | h | h
    · rw [HNN.out, h, toNat_eq h]; rfl
    · rw [HNN.out, h, toNat_eq h]; rfl
    · rw [HNN.out, h, toNat_eq h]; rfl
  have HC := Lib.hid (show c = UInt8.ofNat n by rw [HNN.out]; simp)
  rw [← hn] at hw
  clear hn hle hc
  rcases hw with hw | hw | hw

  · have u58 : ((n : Int) == 58) = true := by rw [hw]; rfl
    have hN2 : N = ⟨3, [58], 1, 0⟩ := by rw [hN1, HC.out, hw]; rfl
    have HN2 := Lib.hid hN2
    clear hN1 hN2 hw
    go_enter Tryz.func79, Tryz.ntmps79
    go_upto_region 1 with fail
    rw [← HW.out, ← HQ.out]
    clear HW HQ
    go_wp2_with fail
    refine bodyPost_ret (results_cell3 rfl _ _ q 73 _ _ rfl (tok_set HB.out) Tryz.underlying73 rfl sizeTok (.int .i64 ((a : Int) + 1)) (.int .i64 0) rfl rfl) rfl ⟨?_, HF.out.new ((Fr.set0 _ q 0 _).trans ((Fr.set0 _ q 1 _).trans (Fr.set0 _ q 2 _) (fun _ z _ => z) (fun _ z _ => z)) (fun _ z _ => z) (fun _ z _ => z)) (fun i hi => by have : i = q := (by simpa using hi); omega)⟩
    rw [HN2.out]; rfl

  · have u58 : ((n : Int) == 58) = false := by rw [beq_eq_false_iff_ne]; omega
    have u124 : ((n : Int) == 124) = true := by rw [hw]; rfl
    have hN2 : N = ⟨4, [124], 1, 0⟩ := by rw [hN1, HC.out, hw]; rfl
    have HN2 := Lib.hid hN2
    clear hN1 hN2 hw
    go_enter Tryz.func79, Tryz.ntmps79
    go_upto_region 1 with fail
    rw [← HW.out, ← HQ.out]
    clear HW HQ
    go_wp2_with fail
    refine bodyPost_ret (results_cell3 rfl _ _ q 73 _ _ rfl (tok_set HB.out) Tryz.underlying73 rfl sizeTok (.int .i64 ((a : Int) + 1)) (.int .i64 0) rfl rfl) rfl ⟨?_, HF.out.new ((Fr.set0 _ q 0 _).trans ((Fr.set0 _ q 1 _).trans (Fr.set0 _ q 2 _) (fun _ z _ => z) (fun _ z _ => z)) (fun _ z _ => z) (fun _ z _ => z)) (fun i hi => by have : i = q := (by simpa using hi); omega)⟩
    rw [HN2.out]; rfl

  · have u58 : ((n : Int) == 58) = false := by rw [beq_eq_false_iff_ne]; omega
    have u124 : ((n : Int) == 124) = false := by rw [beq_eq_false_iff_ne]; omega
    have u59 : ((n : Int) == 59) = true := by rw [hw]; rfl
    have hN2 : N = ⟨5, [59], 1, 0⟩ := by rw [hN1, HC.out, hw]; rfl
    have HN2 := Lib.hid hN2
    clear hN1 hN2 hw
    go_enter Tryz.func79, Tryz.ntmps79
    go_upto_region 1 with fail
    rw [← HW.out, ← HQ.out]
    clear HW HQ
    go_wp2_with fail
    refine bodyPost_ret (results_cell3 rfl _ _ q 73 _ _ rfl (tok_set HB.out) Tryz.underlying73 rfl sizeTok (.int .i64 ((a : Int) + 1)) (.int .i64 0) rfl rfl) rfl ⟨?_, HF.out.new ((Fr.set0 _ q 0 _).trans ((Fr.set0 _ q 1 _).trans (Fr.set0 _ q 2 _) (fun _ z _ => z) (fun _ z _ => z)) (fun _ z _ => z) (fun _ z _ => z)) (fun i hi => by have : i = q := (by simpa using hi); omega)⟩
    rw [HN2.out]; rfl

set_option maxRecDepth 100000 in
set_option maxHeartbeats 2000000 in
theorem rnext_none (m : List UInt8) (hm : m.length ≤ 1000000) (a : Nat) (ha : a < m.length) (c : UInt8) (hc : m[a]? = some c) (h1 : c.toNat ≠ 58) (h2 : c.toNat ≠ 124) (h3 : c.toNat ≠ 59) (h4 : letterB c = false) (h5 : c.toNat ≠ 39) (w : World) (N : NextD) (hN : N = nextD c (m.drop (a + 1))) : Calls Tryz.prog 79 #[encStr m, .int .i64 (a : Int)] w (RNext m a N w) := by
  have hix := fun wx => run_index_str (P := Tryz.prog) wx 9 m (a : Int) a c Tryz.underlying9 rfl hc
  have hle := rletter_any c
  have hb := heap_alloc_new w (.cells #[.int .i64 0, .string { data := #[] }, .int .i64 0] 73)
  have hf := Fr.alloc w (.cells #[.int .i64 0, .string { data := #[] }, .int .i64 0] 73)
  obtain ⟨w0, hw0⟩ : ∃ w0, w0 = w.alloc (.cells #[.int .i64 0, .string { data := #[] }, .int .i64 0] 73) := ⟨_, rfl⟩
  obtain ⟨q, hq⟩ : ∃ q, q = w.heap.size := ⟨_, rfl⟩
  rw [← hw0] at hb hf
  rw [← hq] at hb
  obtain ⟨y0, y1, y2, z0, z1, z2⟩ := three_of_heap hb
  have HB := Lib.hid hb
  have HF := Lib.hid hf
  have HW := Lib.hid hw0
  have HQ := Lib.hid hq
  have hqw : w.heap.size ≤ q := by omega
  clear hb hf hw0 hq
  obtain ⟨n, hn⟩ : ∃ n, n = c.toNat := ⟨_, rfl⟩
  rw [← hn] at hix hle
  have HNN := Lib.hid hn
  have HNX := Lib.hid hN
  clear hN
  have hN1 : N = noneD 13 := by
    rw [HNX.out]
    unfold nextD
    rw [if_neg (fun e => h1 (by rw [e]; rfl)), if_neg (fun e => h2 (by rw [e]; rfl)), if_neg (fun e => h3 (by rw [e]; rfl)), if_neg (by rw [h4]; simp), if_neg (fun e => h5 (by rw [e]; rfl))]
  rw [h4] at hle
  have HLE := Lib.hid hle
  have HN2 := Lib.hid hN1
  rw [← hn] at h1 h2 h3 h5
  have u58 : ((n : Int) == 58) = false := by rw [beq_eq_false_iff_ne]; omega
  have u124 : ((n : Int) == 124) = false := by rw [beq_eq_false_iff_ne]; omega
  have u59 : ((n : Int) == 59) = false := by rw [beq_eq_false_iff_ne]; omega
  have u39 : ((n : Int) == 39) = false := by rw [beq_eq_false_iff_ne]; omega
  clear hn hle hc hN1 h1 h2 h3 h4 h5
  go_enter Tryz.func79, Tryz.ntmps79
  go_upto_region 1 with fail
  rw [← HW.out, ← HQ.out]
  clear HW HQ
  go_upto_region 9 with (go_at_call 66; refine (HLE.out _).mono ?_; rintro e w1 ⟨rfl, rfl⟩)
  go_wp2_with fail
  refine bodyPost_ret (results_cell3 rfl _ _ q 73 _ _ rfl (tok_set HB.out) Tryz.underlying73 rfl sizeTok (.int .i64 ((a : Int))) (.int .i64 13) rfl rfl) rfl ⟨?_, HF.out.new ((Fr.set0 _ q 0 _).trans ((Fr.set0 _ q 1 _).trans (Fr.set0 _ q 2 _) (fun _ z _ => z) (fun _ z _ => z)) (fun _ z _ => z) (fun _ z _ => z)) (fun i hi => by have : i = q := (by simpa using hi); omega)⟩
  rw [HN2.out]; rfl

set_option maxRecDepth 100000 in
set_option maxHeartbeats 2000000 in
theorem rnext_name (m : List UInt8) (hm : m.length ≤ 1000000) (a : Nat) (ha : a < m.length) (c : UInt8) (hc : m[a]? = some c) (h4 : letterB c = true) (w : World) (N : NextD) (hN : N = nextD c (m.drop (a + 1))) : Calls Tryz.prog 79 #[encStr m, .int .i64 (a : Int)] w (RNext m a N w) := by
  have hix := fun wx => run_index_str (P := Tryz.prog) wx 9 m (a : Int) a c Tryz.underlying9 rfl hc
  have hle := rletter_any c
  have hb := heap_alloc_new w (.cells #[.int .i64 0, .string { data := #[] }, .int .i64 0] 73)
  have hf := Fr.alloc w (.cells #[.int .i64 0, .string { data := #[] }, .int .i64 0] 73)
  obtain ⟨w0, hw0⟩ : ∃ w0, w0 = w.alloc (.cells #[.int .i64 0, .string { data := #[] }, .int .i64 0] 73) := ⟨_, rfl⟩
  obtain ⟨q, hq⟩ : ∃ q, q = w.heap.size := ⟨_, rfl⟩
  rw [← hw0] at hb hf
  rw [← hq] at hb
  obtain ⟨y0, y1, y2, z0, z1, z2⟩ := three_of_heap hb
  have HB := Lib.hid hb
  have HF := Lib.hid hf
  have HW := Lib.hid hw0
  have HQ := Lib.hid hq
  have hqw : w.heap.size ≤ q := by omega
  clear hb hf hw0 hq
  obtain ⟨n, hn⟩ : ∃ n, n = c.toNat := ⟨_, rfl⟩
  rw [← hn] at hix hle
  have HNN := Lib.hid hn
  have HNX := Lib.hid hN
  clear hN
  have hN1 : N = if 32 < ((m.drop a).takeWhile moreB).length then noneD 19 else ⟨1, (m.drop a).takeWhile moreB, ((m.drop a).takeWhile moreB).length, 0⟩ := by
    have e : c :: m.drop (a + 1) = m.drop a := by
      rw [List.drop_eq_getElem_cons ha]
      rw [List.getElem?_eq_getElem ha] at hc
      rw [Option.some.inj hc]
    rw [HNX.out, next_letter _ h4, e]
  obtain ⟨e1, e2, e3, -, -, -⟩ := letter_num h4
  have h1 : c.toNat ≠ 58 := fun h => e1 (toNat_eq h)
  have h2 : c.toNat ≠ 124 := fun h => e2 (toNat_eq h)
  have h3 : c.toNat ≠ 59 := fun h => e3 (toNat_eq h)
  rw [h4] at hle
  have HLE := Lib.hid hle
  have HN1 := Lib.hid hN1
  rw [← hn] at h1 h2 h3
  have u58 : ((n : Int) == 58) = false := by rw [beq_eq_false_iff_ne]; omega
  have u124 : ((n : Int) == 124) = false := by rw [beq_eq_false_iff_ne]; omega
  have u59 : ((n : Int) == 59) = false := by rw [beq_eq_false_iff_ne]; omega
  clear hn hle hc hN1 h1 h2 h3 h4 e1 e2 e3
  go_enter Tryz.func79, Tryz.ntmps79
  go_upto_region 1 with fail
  rw [← HW.out, ← HQ.out]
  clear HW HQ
  go_upto_region 10 with (go_at_call 66; refine (HLE.out _).mono ?_; rintro e w1 ⟨rfl, rfl⟩)
  have hfin : ∀ k, a ≤ k → k ≤ m.length → (∀ j, a ≤ j → j < k → ∀ h : j < m.length, moreB (m[j]'h) = true) → (∀ h : k < m.length, moreB (m[k]'h) = false) → N = if 32 < k - a then noneD 19 else ⟨1, (m.take k).drop a, k - a, 0⟩ := fun k g1 g2 g3 g4 => by
    have hl : ((m.take k).drop a).length = k - a := by rw [List.length_drop, List.length_take]; omega
    rw [HN1.out, run_at g1 g2 g3 g4, hl]
  have HFIN := Lib.hid hfin
  clear hfin hix
  go_wp2_with fail
  go_loopw [8] (RunRel moreB _ m a) (fun iv _ => m.length - (intOf iv).toNat)
  case atStart => exact ⟨a, Nat.le_refl _, by omega, rfl, fun j h1 h2 => by omega, rfl⟩
  case round =>
    obtain ⟨k, hak, hk, rfl, hall, rfl⟩ := hrel
    have HA := Lib.hid hall
    clear hall
    by_cases hkn : k < m.length
    · have hd3 : decide (k < m.length) = true := decide_eq_true hkn
      obtain ⟨d, hd⟩ : ∃ d, d = m[k]'hkn := ⟨_, rfl⟩
      have hix := fun wx => run_index_str (P := Tryz.prog) wx 9 m (k : Int) k d Tryz.underlying9 rfl (by rw [hd, List.getElem?_eq_getElem])
      have HC := Lib.hid hd
      have hin := rmore_any d
      clear hd
      cases ho : moreB d with
      | true =>
        rw [ho] at hin
        have HI := Lib.hid hin
        have HO := Lib.hid ho
        clear ho hin
        go_wp2_with (go_at_call 67; refine (HI.out _).mono ?_; rintro e w1 ⟨rfl, rfl⟩)
        exact ⟨⟨k + 1, by omega, by omega, by go_num, run_next HA.out hkn (by rw [← HC.out]; exact HO.out), rfl⟩, by simp [intOf]; omega⟩
      | false =>
        rw [ho] at hin
        have HI := Lib.hid hin
        have HFN := Lib.hid (HFIN.out k hak hk HA.out (fun h => by rw [← HC.out]; exact ho))
        clear ho hin
        by_cases hlong : 32 < k - a
        · have hdl : decide (32 < (k : Int) - (a : Int)) = true := decide_eq_true (by omega)
          have HN2 := Lib.hid (show N = noneD 19 by rw [HFN.out, if_pos hlong])
          clear hlong
          go_upto_region 12 with (go_at_call 67; refine (HI.out _).mono ?_; rintro e w1 ⟨rfl, rfl⟩)
          go_wp2_with fail
          refine bodyPost_ret (results_cell3 rfl _ _ q 73 _ _ rfl (tok_set HB.out) Tryz.underlying73 rfl sizeTok (.int .i64 ((a : Int))) (.int .i64 19) rfl rfl) rfl ⟨?_, HF.out.new ((Fr.set0 _ q 0 _).trans ((Fr.set0 _ q 1 _).trans (Fr.set0 _ q 2 _) (fun _ z _ => z) (fun _ z _ => z)) (fun _ z _ => z) (fun _ z _ => z)) (fun i hi => by have : i = q := (by simpa using hi); omega)⟩
          rw [HN2.out]; rfl
        · have hdl : decide (32 < (k : Int) - (a : Int)) = false := decide_eq_false (by omega)
          have HN2 := Lib.hid (show N = ⟨1, (m.take k).drop a, k - a, 0⟩ by rw [HFN.out, if_neg hlong])
          clear hlong
          have hsl := fun wx => run_slice_str (P := Tryz.prog) wx 9 m .i64 .i64 a k Tryz.underlying9 hak hk
          have HAK := Lib.hid (show a + (k - a) = k by omega)
          go_upto_region 12 with (go_at_call 67; refine (HI.out _).mono ?_; rintro e w1 ⟨rfl, rfl⟩)
          go_wp2_with fail
          refine bodyPost_ret (results_cell3 rfl _ _ q 73 _ _ rfl (tok_set HB.out) Tryz.underlying73 rfl sizeTok (.int .i64 ((k : Int))) (.int .i64 0) rfl rfl) rfl ⟨?_, HF.out.new ((Fr.set0 _ q 0 _).trans ((Fr.set0 _ q 1 _).trans (Fr.set0 _ q 2 _) (fun _ z _ => z) (fun _ z _ => z)) (fun _ z _ => z) (fun _ z _ => z)) (fun i hi => by have : i = q := (by simpa using hi); omega)⟩
          rw [HN2.out]; unfold nextV; simp only [HAK.out]; rfl
    · have hd3 : decide (k < m.length) = false := decide_eq_false hkn
      obtain rfl : k = m.length := by omega
      have HFN := Lib.hid (HFIN.out _ hak hk HA.out (fun h => absurd h hkn))
      by_cases hlong : 32 < m.length - a
      · have hdl : decide (32 < (m.length : Int) - (a : Int)) = true := decide_eq_true (by omega)
        have HN2 := Lib.hid (show N = noneD 19 by rw [HFN.out, if_pos hlong])
        clear hlong
        go_upto_region 12 with fail
        go_wp2_with fail
        refine bodyPost_ret (results_cell3 rfl _ _ q 73 _ _ rfl (tok_set HB.out) Tryz.underlying73 rfl sizeTok (.int .i64 ((a : Int))) (.int .i64 19) rfl rfl) rfl ⟨?_, HF.out.new ((Fr.set0 _ q 0 _).trans ((Fr.set0 _ q 1 _).trans (Fr.set0 _ q 2 _) (fun _ z _ => z) (fun _ z _ => z)) (fun _ z _ => z) (fun _ z _ => z)) (fun i hi => by have : i = q := (by simpa using hi); omega)⟩
        rw [HN2.out]; rfl
      · have hdl : decide (32 < (m.length : Int) - (a : Int)) = false := decide_eq_false (by omega)
        have HN2 := Lib.hid (show N = ⟨1, m.drop a, m.length - a, 0⟩ by rw [HFN.out, if_neg hlong, List.take_length])
        clear hlong
        have hsl := fun wx => run_slice_str (P := Tryz.prog) wx 9 m .i64 .i64 a m.length Tryz.underlying9 hak hk
        have HAK := Lib.hid (show a + (m.length - a) = m.length by omega)
        go_upto_region 12 with fail
        go_wp2_with fail
        refine bodyPost_ret (results_cell3 rfl _ _ q 73 _ _ rfl (tok_set HB.out) Tryz.underlying73 rfl sizeTok (.int .i64 ((m.length : Int))) (.int .i64 0) rfl rfl) rfl ⟨?_, HF.out.new ((Fr.set0 _ q 0 _).trans ((Fr.set0 _ q 1 _).trans (Fr.set0 _ q 2 _) (fun _ z _ => z) (fun _ z _ => z)) (fun _ z _ => z) (fun _ z _ => z)) (fun i hi => by have : i = q := (by simpa using hi); omega)⟩
        rw [HN2.out]; unfold nextV; simp only [HAK.out]; rfl
end Go.Proofs.YtgfpkmnmdehkpaaGreat
