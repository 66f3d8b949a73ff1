/- The program's lexer (layer 12): first. Written by wip/tools/gen_lq.py. -/
import Derived.Test.YtcmgnhjffhaajaaLexO
namespace Go.Proofs.Ytcmgnhjffhaajaa
open Go.RowKit

/-- A call that hands a token back, its parts told. -/
def TokIs (K : Int) (T : List UInt8) (L : Nat) (E : Int) (w : World) (e : Ending) (w' : World) : Prop := e = .returned (.tuple #[.agg #[.int .i64 K, encStr T, .int .i64 0], .int .i64 (L : Int), .int .i64 E]) ∧ Fr [] w w'
set_option maxRecDepth 100000 in
set_option maxHeartbeats 4000000 in
theorem pfirst_any (c : UInt8) (t : List UInt8) (hm : (c :: t).length ≤ 1000000) (w : World) : Calls Try.prog 59 #[encStr (c :: t)] w (FirstOf (nextD c t) w) := by
  have hix := fun wx => run_index_str (P := Try.prog) wx 9 (c :: t) 0 0 c Try.underlying9 rfl rfl
  have hle := pletter_any c
  have hmk := fun K wx => pmark_any K (c :: t) (by simp) wx
  have hnm := fun wx => pname_at (c :: t) hm wx
  have htm := fun wx => pterm_at c t hm wx
  rw [show (c :: t).take 1 = [c] from rfl] at hmk
  obtain ⟨n, hn⟩ : ∃ n, n = c.toNat := ⟨_, rfl⟩
  rw [← hn] at hix hle
  have HN := Lib.hid hn
  obtain ⟨N, hN⟩ : ∃ N, N = nextD c t := ⟨_, rfl⟩
  rw [← hN]
  have HNX := Lib.hid hN
  obtain ⟨m, hmm⟩ : ∃ m, m = c :: t := ⟨_, rfl⟩
  rw [← hmm] at hix hmk hnm htm ⊢
  have HM := Lib.hid hmm
  have HMK := Lib.hid hmk
  have HNM := Lib.hid hnm
  have HTM := Lib.hid htm
  have HLE := Lib.hid hle
  clear hn hN hmm hmk hnm htm hle hm
  have hb := heap_alloc_new w (.cells #[.int .i64 0, .string { data := #[] }, .int .i64 0] 78)
  have hf := Fr.alloc w (.cells #[.int .i64 0, .string { data := #[] }, .int .i64 0] 78)
  obtain ⟨w0, hw0⟩ : ∃ w0, w0 = w.alloc (.cells #[.int .i64 0, .string { data := #[] }, .int .i64 0] 78) := ⟨_, rfl⟩
  obtain ⟨q, hq⟩ : ∃ q, q = w.heap.size := ⟨_, rfl⟩
  rw [← hw0] at hb hf
  rw [← hq] at hb
  obtain ⟨y0, y1, y2, z0, z1, z2⟩ := three_of_heap hb
  have HB := Lib.hid hb
  have HF := Lib.hid hf
  have HW := Lib.hid hw0
  have HQ := Lib.hid hq
  have hqw : w.heap.size ≤ q := by omega
  clear hb hf hw0 hq
  by_cases hw58 : n = 58
  · have hw := hw58
    have u58 : ((n : Int) == 58) = true := by rw [hw]; rfl
    have hc : c = 58 := toNat_eq (show c.toNat = 58 by rw [← HN.out]; exact hw)
    have hN2 : N = ⟨3, [c], 1, 0⟩ := by rw [HNX.out, hc]; rfl
    have hk0 := fun wx => HMK.out 3 wx
    rw [← hN2] at hk0
    clear hc hN2 hw HNX hw58
    obtain ⟨K, T, L, E⟩ := N
    have HK := Lib.hid (show ∀ wx, Calls Try.prog 73 #[.int .i64 3, encStr m] wx (TokIs K T L E wx) from hk0)
    clear hk0
    go_enter Try.func59, Try.ntmps59
    go_upto_region 1 with fail
    rw [← HW.out, ← HQ.out]
    clear HW HQ
    go_wp2_with (go_at_call 73; refine (HK.out _).mono ?_; rintro e w1 ⟨rfl, hf1⟩; have hb1 := hf1.heap HB.out (by simp); obtain ⟨y0, y1, y2, z0, z1, z2⟩ := three_of_heap hb1; have HB1 := Lib.hid hb1; have HF1 := Lib.hid (HF.out.trans hf1 (by simp) (n := []) (by simp)); clear hb1 hf1)
    refine bodyPost_ret (results_cell3 rfl _ _ q 78 _ _ rfl (tok_set HB1.out) Try.underlying78 rfl sizePTok (.int .i64 (L : Int)) (.int .i64 E) rfl rfl) rfl ⟨?_, HF1.out.new ((Fr.set0 _ q 0 _).trans ((Fr.set0 _ q 1 _).trans (Fr.set0 _ q 2 _) (fun _ z _ => z) (fun _ z _ => z)) (fun _ z _ => z) (fun _ z _ => z)) (fun i hi => by have : i = q := (by simpa using hi); omega)⟩
    rfl
  · have HX58 := Lib.hid hw58
    by_cases hw124 : n = 124
    · have hw := hw124
      have u58 : ((n : Int) == 58) = false := by rw [beq_eq_false_iff_ne]; omega
      have u124 : ((n : Int) == 124) = true := by rw [hw]; rfl
      have hc : c = 124 := toNat_eq (show c.toNat = 124 by rw [← HN.out]; exact hw)
      have hN2 : N = ⟨4, [c], 1, 0⟩ := by rw [HNX.out, hc]; rfl
      have hk0 := fun wx => HMK.out 4 wx
      rw [← hN2] at hk0
      clear hc hN2 hw HNX hw58 hw124
      obtain ⟨K, T, L, E⟩ := N
      have HK := Lib.hid (show ∀ wx, Calls Try.prog 73 #[.int .i64 4, encStr m] wx (TokIs K T L E wx) from hk0)
      clear hk0
      go_enter Try.func59, Try.ntmps59
      go_upto_region 1 with fail
      rw [← HW.out, ← HQ.out]
      clear HW HQ
      go_wp2_with (go_at_call 73; refine (HK.out _).mono ?_; rintro e w1 ⟨rfl, hf1⟩; have hb1 := hf1.heap HB.out (by simp); obtain ⟨y0, y1, y2, z0, z1, z2⟩ := three_of_heap hb1; have HB1 := Lib.hid hb1; have HF1 := Lib.hid (HF.out.trans hf1 (by simp) (n := []) (by simp)); clear hb1 hf1)
      refine bodyPost_ret (results_cell3 rfl _ _ q 78 _ _ rfl (tok_set HB1.out) Try.underlying78 rfl sizePTok (.int .i64 (L : Int)) (.int .i64 E) rfl rfl) rfl ⟨?_, HF1.out.new ((Fr.set0 _ q 0 _).trans ((Fr.set0 _ q 1 _).trans (Fr.set0 _ q 2 _) (fun _ z _ => z) (fun _ z _ => z)) (fun _ z _ => z) (fun _ z _ => z)) (fun i hi => by have : i = q := (by simpa using hi); omega)⟩
      rfl
    · have HX124 := Lib.hid hw124
      by_cases hw59 : n = 59
      · have hw := hw59
        have u58 : ((n : Int) == 58) = false := by rw [beq_eq_false_iff_ne]; omega
        have u124 : ((n : Int) == 124) = false := by rw [beq_eq_false_iff_ne]; omega
        have u59 : ((n : Int) == 59) = true := by rw [hw]; rfl
        have hc : c = 59 := toNat_eq (show c.toNat = 59 by rw [← HN.out]; exact hw)
        have hN2 : N = ⟨5, [c], 1, 0⟩ := by rw [HNX.out, hc]; rfl
        have hk0 := fun wx => HMK.out 5 wx
        rw [← hN2] at hk0
        clear hc hN2 hw HNX hw58 hw124 hw59
        obtain ⟨K, T, L, E⟩ := N
        have HK := Lib.hid (show ∀ wx, Calls Try.prog 73 #[.int .i64 5, encStr m] wx (TokIs K T L E wx) from hk0)
        clear hk0
        go_enter Try.func59, Try.ntmps59
        go_upto_region 1 with fail
        rw [← HW.out, ← HQ.out]
        clear HW HQ
        go_wp2_with (go_at_call 73; refine (HK.out _).mono ?_; rintro e w1 ⟨rfl, hf1⟩; have hb1 := hf1.heap HB.out (by simp); obtain ⟨y0, y1, y2, z0, z1, z2⟩ := three_of_heap hb1; have HB1 := Lib.hid hb1; have HF1 := Lib.hid (HF.out.trans hf1 (by simp) (n := []) (by simp)); clear hb1 hf1)
        refine bodyPost_ret (results_cell3 rfl _ _ q 78 _ _ rfl (tok_set HB1.out) Try.underlying78 rfl sizePTok (.int .i64 (L : Int)) (.int .i64 E) rfl rfl) rfl ⟨?_, HF1.out.new ((Fr.set0 _ q 0 _).trans ((Fr.set0 _ q 1 _).trans (Fr.set0 _ q 2 _) (fun _ z _ => z) (fun _ z _ => z)) (fun _ z _ => z) (fun _ z _ => z)) (fun i hi => by have : i = q := (by simpa using hi); omega)⟩
        rfl
      · have HX59 := Lib.hid hw59
        by_cases hw : n = 39
        · have u58 : ((n : Int) == 58) = false := by rw [beq_eq_false_iff_ne]; omega
          have u124 : ((n : Int) == 124) = false := by rw [beq_eq_false_iff_ne]; omega
          have u59 : ((n : Int) == 59) = false := by rw [beq_eq_false_iff_ne]; omega
          have u39 : ((n : Int) == 39) = true := by rw [hw]; rfl
          have hc : c = 39 := toNat_eq (show c.toNat = 39 by rw [← HN.out]; exact hw)
          have hN2 : N = termD t := by rw [HNX.out, hc]; rfl
          have hk0 := fun wx => HTM.out wx
          rw [← hN2] at hk0
          clear hc hN2 hw HNX hw58 hw124 hw59
          obtain ⟨K, T, L, E⟩ := N
          have HK := Lib.hid (show ∀ wx, Calls Try.prog 74 #[encStr m] wx (TokIs K T L E wx) from hk0)
          clear hk0
          go_enter Try.func59, Try.ntmps59
          go_upto_region 1 with fail
          rw [← HW.out, ← HQ.out]
          clear HW HQ
          go_wp2_with (go_at_call 74; refine (HK.out _).mono ?_; rintro e w1 ⟨rfl, hf1⟩; have hb1 := hf1.heap HB.out (by simp); obtain ⟨y0, y1, y2, z0, z1, z2⟩ := three_of_heap hb1; have HB1 := Lib.hid hb1; have HF1 := Lib.hid (HF.out.trans hf1 (by simp) (n := []) (by simp)); clear hb1 hf1)
          refine bodyPost_ret (results_cell3 rfl _ _ q 78 _ _ rfl (tok_set HB1.out) Try.underlying78 rfl sizePTok (.int .i64 (L : Int)) (.int .i64 E) rfl rfl) rfl ⟨?_, HF1.out.new ((Fr.set0 _ q 0 _).trans ((Fr.set0 _ q 1 _).trans (Fr.set0 _ q 2 _) (fun _ z _ => z) (fun _ z _ => z)) (fun _ z _ => z) (fun _ z _ => z)) (fun i hi => by have : i = q := (by simpa using hi); omega)⟩
          rfl
        · have u58 : ((n : Int) == 58) = false := by rw [beq_eq_false_iff_ne]; omega
          have u124 : ((n : Int) == 124) = false := by rw [beq_eq_false_iff_ne]; omega
          have u59 : ((n : Int) == 59) = false := by rw [beq_eq_false_iff_ne]; omega
          have u39 : ((n : Int) == 39) = false := by rw [beq_eq_false_iff_ne]; omega
          obtain ⟨l, hl⟩ : ∃ l, l = letterB c := ⟨_, rfl⟩
          rw [← hl] at HLE
          cases l with
          | true =>
            have hN2 : N = (if 32 < (m.takeWhile moreB).length then noneD 19 else ⟨1, m.takeWhile moreB, (m.takeWhile moreB).length, 0⟩) := by rw [HNX.out, HM.out]; exact next_letter t hl.symm
            have hk0 := fun wx => HNM.out wx
            rw [← hN2] at hk0
            have HL := Lib.hid hl
            clear hN2 hw HNX hl hw58 hw124 hw59
            obtain ⟨K, T, L, E⟩ := N
            have HK := Lib.hid (show ∀ wx, Calls Try.prog 75 #[encStr m] wx (TokIs K T L E wx) from hk0)
            clear hk0
            go_enter Try.func59, Try.ntmps59
            go_upto_region 1 with fail
            rw [← HW.out, ← HQ.out]
            clear HW HQ
            go_wp2_with (first | (go_at_call 43; refine (HLE.out _).mono ?_; rintro e w2 ⟨rfl, rfl⟩) | (go_at_call 75; refine (HK.out _).mono ?_; rintro e w1 ⟨rfl, hf1⟩; have hb1 := hf1.heap HB.out (by simp); obtain ⟨y0, y1, y2, z0, z1, z2⟩ := three_of_heap hb1; have HB1 := Lib.hid hb1; have HF1 := Lib.hid (HF.out.trans hf1 (by simp) (n := []) (by simp)); clear hb1 hf1))
            refine bodyPost_ret (results_cell3 rfl _ _ q 78 _ _ rfl (tok_set HB1.out) Try.underlying78 rfl sizePTok (.int .i64 (L : Int)) (.int .i64 E) rfl rfl) rfl ⟨?_, HF1.out.new ((Fr.set0 _ q 0 _).trans ((Fr.set0 _ q 1 _).trans (Fr.set0 _ q 2 _) (fun _ z _ => z) (fun _ z _ => z)) (fun _ z _ => z) (fun _ z _ => z)) (fun i hi => by have : i = q := (by simpa using hi); omega)⟩
            rfl
          | false =>
            have hN2 : N = noneD 13 := by
              rw [HNX.out]
              unfold nextD
              have g : ∀ k : Nat, k < 256 → n ≠ k → c ≠ UInt8.ofNat k := fun k hk h e => h (by rw [HN.out, e]; simp; omega)
              rw [if_neg (show ¬ c = 58 from g 58 (by omega) (by omega)), if_neg (show ¬ c = 124 from g 124 (by omega) (by omega)), if_neg (show ¬ c = 59 from g 59 (by omega) (by omega)), if_neg (by rw [← hl]; simp), if_neg (show ¬ c = 39 from g 39 (by omega) hw)]
            have HN2 := Lib.hid hN2
            have HL := Lib.hid hl
            clear hN2 hw HNX hl hw58 hw124 hw59
            go_enter Try.func59, Try.ntmps59
            go_upto_region 1 with fail
            rw [← HW.out, ← HQ.out]
            clear HW HQ
            go_wp2_with (go_at_call 43; refine (HLE.out _).mono ?_; rintro e w2 ⟨rfl, rfl⟩)
            refine bodyPost_ret (results_cell3 rfl _ _ q 78 _ _ rfl (tok_set HB.out) Try.underlying78 rfl sizePTok (.int .i64 0) (.int .i64 13) rfl rfl) rfl ⟨?_, HF.out.new ((Fr.set0 _ q 0 _).trans ((Fr.set0 _ q 1 _).trans (Fr.set0 _ q 2 _) (fun _ z _ => z) (fun _ z _ => z)) (fun _ z _ => z) (fun _ z _ => z)) (fun i hi => by have : i = q := (by simpa using hi); omega)⟩
            rw [HN2.out]; rfl
end Go.Proofs.Ytcmgnhjffhaajaa
