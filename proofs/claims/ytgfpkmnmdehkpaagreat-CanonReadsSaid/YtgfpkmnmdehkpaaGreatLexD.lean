/- The document's lexer (layer 12): next at a quote; next as one. Written by wip/tools/gen_ld.py. -/
import Derived.Test.YtgfpkmnmdehkpaaGreatLexC
import Derived.Test.YtgfpkmnmdehkpaaGreatLs
set_option linter.unusedVariables false
set_option linter.unusedSimpArgs false
namespace Go.Proofs.YtgfpkmnmdehkpaaGreat
open Go.RowKit
set_option maxRecDepth 100000 in
set_option maxHeartbeats 2000000 in
theorem rnext_term (m : List UInt8) (hm : m.length ≤ 1000000) (a : Nat) (ha : a < m.length) (c : UInt8) (hc : m[a]? = some c) (h39 : c.toNat = 39) (w : World) (N : NextD) (hN : N = nextD c (m.drop (a + 1))) : Calls Tryz.prog 79 #[encStr m, .int .i64 (a : Int)] w (RNext m a N w) := by
  have hix := fun wx => run_index_str (P := Tryz.prog) wx 9 m (a : Int) a c Tryz.underlying9 rfl hc
  have hle := rletter_any c
  have hb := heap_alloc_new w (.cells #[.int .i64 0, .string { data := #[] }, .int .i64 0] 73)
  have hf := Fr.alloc w (.cells #[.int .i64 0, .string { data := #[] }, .int .i64 0] 73)
  obtain ⟨w0, hw0⟩ : ∃ w0, w0 = w.alloc (.cells #[.int .i64 0, .string { data := #[] }, .int .i64 0] 73) := ⟨_, rfl⟩
  obtain ⟨q, hq⟩ : ∃ q, q = w.heap.size := ⟨_, rfl⟩
  rw [← hw0] at hb hf
  rw [← hq] at hb
  obtain ⟨y0, y1, y2, z0, z1, z2⟩ := three_of_heap hb
  have HB := Lib.hid hb
  have HF := Lib.hid hf
  have HW := Lib.hid hw0
  have HQ := Lib.hid hq
  have hqw : w.heap.size ≤ q := by omega
  clear hb hf hw0 hq
  obtain ⟨n, hn⟩ : ∃ n, n = c.toNat := ⟨_, rfl⟩
  rw [← hn] at hix hle
  have HNN := Lib.hid hn
  have HNX := Lib.hid hN
  clear hN
  have hl0 : letterB c = false := by rw [toNat_eq h39]; decide
  rw [hl0] at hle
  have HLE := Lib.hid hle
  have hN1 : N = termD (m.drop (a + 1)) := by
    rw [HNX.out, toNat_eq h39]; rfl
  have hfin : ∀ k, a + 1 ≤ k → k ≤ m.length → (∀ j, a + 1 ≤ j → j < k → ∀ h : j < m.length, termC (m[j]'h) = true) → (∀ h : k < m.length, termC (m[k]'h) = false) → N = if m[k]? = some 39 ∧ k ≠ a + 1 then (if 32 < k - (a + 1) then noneD 19 else ⟨2, (m.take k).drop (a + 1), k - (a + 1) + 2, 0⟩) else noneD 13 := fun k g1 g2 g3 g4 => by
    have hl : ((m.take k).drop (a + 1)).length = k - (a + 1) := by rw [List.length_drop, List.length_take]; omega
    have hd : (m.drop (a + 1)).drop (k - (a + 1)) = m.drop k := by rw [List.drop_drop, show a + 1 + (k - (a + 1)) = k from by omega]
    rw [hN1]
    unfold termD
    rw [run_at g1 g2 g3 g4, hl, hd, head_drop]
    have hne : (m.take k).drop (a + 1) ≠ [] ↔ k ≠ a + 1 := by
      constructor
      · intro h e
        apply h
        rw [← List.length_eq_zero_iff, hl]; omega
      · intro h e
        have := congrArg List.length e
        rw [hl, List.length_nil] at this; omega
    by_cases hq : m[k]? = some 39 ∧ k ≠ a + 1
    · rw [if_pos hq, if_pos ⟨hq.1, hne.2 hq.2⟩]
    · rw [if_neg hq, if_neg (fun z => hq ⟨z.1, hne.1 z.2⟩)]
  have HFIN := Lib.hid hfin
  have hnw : n = 39 := by rw [HNN.out]; exact h39
  have u58 : ((n : Int) == 58) = false := by rw [beq_eq_false_iff_ne]; omega
  have u124 : ((n : Int) == 124) = false := by rw [beq_eq_false_iff_ne]; omega
  have u59 : ((n : Int) == 59) = false := by rw [beq_eq_false_iff_ne]; omega
  have u39 : ((n : Int) == 39) = true := by rw [hnw]; rfl
  have v39 : ((n : Int) != 39) = false := by rw [hnw]; rfl
  clear hn hle hc hN1 hfin hl0 h39 hnw
  go_enter Tryz.func79, Tryz.ntmps79
  go_upto_region 1 with fail
  rw [← HW.out, ← HQ.out]
  clear HW HQ
  go_upto_region 18 with (go_at_call 66; refine (HLE.out _).mono ?_; rintro e w1 ⟨rfl, rfl⟩)
  clear hix
  go_loopw [9] (RunRel termC _ m (a + 1)) (fun iv _ => m.length - (intOf iv).toNat)
  case atStart => exact ⟨a + 1, Nat.le_refl _, by omega, rfl, fun j h1 h2 => by omega, rfl⟩
  case round =>
    obtain ⟨k, hak, hk, rfl, hall, rfl⟩ := hrel
    have HA := Lib.hid hall
    clear hall
    by_cases hkn : k < m.length
    · have hd3 : decide (k < m.length) = true := decide_eq_true hkn
      have hd4 : decide (m.length ≤ k) = false := decide_eq_false (by omega)
      obtain ⟨d, hd⟩ : ∃ d, d = m[k]'hkn := ⟨_, rfl⟩
      have hix := fun wx => run_index_str (P := Tryz.prog) wx 9 m (k : Int) k d Tryz.underlying9 rfl (by rw [hd, List.getElem?_eq_getElem])
      have HC := Lib.hid hd
      have hgk : m[k]? = some d := by rw [hd]; exact List.getElem?_eq_getElem hkn
      have HGK := Lib.hid hgk
      clear hd hgk
      obtain ⟨x, hx⟩ : ∃ x, x = d.toNat := ⟨_, rfl⟩
      rw [← hx] at hix
      have HX := Lib.hid hx
      clear hx
      rcases (show (x < 32) ∨ (32 ≤ x ∧ x < 39) ∨ (x = 39) ∨ (40 ≤ x ∧ x < 92) ∨ (x = 92) ∨ (93 ≤ x ∧ x < 127) ∨ (127 ≤ x) by omega) with hw | hw | hw | hw | hw | hw | hw
      · -- x < 32
        have q0 : decide (32 ≤ (x : Int)) = false := decide_eq_false (by omega)
        have q1 : decide ((x : Int) ≤ 126) = true := decide_eq_true (by omega)
        have r0 : ((x : Int) == 39) = false := by rw [beq_eq_false_iff_ne]; omega
        have r1 : ((x : Int) == 92) = false := by rw [beq_eq_false_iff_ne]; omega
        have s0 : ((x : Int) != 39) = true := by rw [bne_iff_ne]; omega
        have s1 : ((x : Int) != 92) = true := by rw [bne_iff_ne]; omega
        have ho : termC d = false := by unfold termC; rw [← HX.out]; simp; omega
        have HN2 := Lib.hid (show N = noneD 13 by rw [HFIN.out k hak hk HA.out (fun h => by rw [← HC.out]; exact ho), HGK.out, if_neg (fun z => by have := Option.some.inj z.1; rw [this] at HX; have := HX.out; simp at this; omega)])
        clear ho hw
        go_upto_region 20 with fail
        go_wp2_with fail
        refine bodyPost_ret (results_cell3 rfl _ _ q 73 _ _ rfl (tok_set HB.out) Tryz.underlying73 rfl sizeTok (.int .i64 ((a : Int))) (.int .i64 13) rfl rfl) rfl ⟨?_, HF.out.new ((Fr.set0 _ q 0 _).trans ((Fr.set0 _ q 1 _).trans (Fr.set0 _ q 2 _) (fun _ z _ => z) (fun _ z _ => z)) (fun _ z _ => z) (fun _ z _ => z)) (fun i hi => by have : i = q := (by simpa using hi); omega)⟩
        rw [HN2.out]; rfl
      · -- 32 ≤ x ∧ x < 39
        have q0 : decide (32 ≤ (x : Int)) = true := decide_eq_true (by omega)
        have q1 : decide ((x : Int) ≤ 126) = true := decide_eq_true (by omega)
        have r0 : ((x : Int) == 39) = false := by rw [beq_eq_false_iff_ne]; omega
        have r1 : ((x : Int) == 92) = false := by rw [beq_eq_false_iff_ne]; omega
        have s0 : ((x : Int) != 39) = true := by rw [bne_iff_ne]; omega
        have s1 : ((x : Int) != 92) = true := by rw [bne_iff_ne]; omega
        have ho : termC d = true := by unfold termC; rw [← HX.out]; simp; omega
        have HO := Lib.hid ho
        clear ho hw
        go_wp2_with fail
        exact ⟨⟨k + 1, by omega, by omega, by go_num, run_next HA.out hkn (by rw [← HC.out]; exact HO.out), rfl⟩, by simp [intOf]; omega⟩
      · -- x = 39
        have q0 : decide (32 ≤ (x : Int)) = true := decide_eq_true (by omega)
        have q1 : decide ((x : Int) ≤ 126) = true := decide_eq_true (by omega)
        have r0 : ((x : Int) == 39) = true := by rw [hw]; rfl
        have r1 : ((x : Int) == 92) = false := by rw [beq_eq_false_iff_ne]; omega
        have s0 : ((x : Int) != 39) = false := by rw [hw]; rfl
        have s1 : ((x : Int) != 92) = true := by rw [bne_iff_ne]; omega
        have ho : termC d = false := by unfold termC; rw [← HX.out]; simp; omega
        have hd39 : d = 39 := toNat_eq (show d.toNat = 39 by rw [← HX.out]; exact hw)
        have HFN := Lib.hid (HFIN.out k hak hk HA.out (fun h => by rw [← HC.out]; exact ho))
        have HGQ := Lib.hid (show m[k]? = some 39 by rw [HGK.out, hd39])
        clear ho hw hd39
        by_cases hka : k = a + 1
        · have hke : ((k : Int) == (a : Int) + 1) = true := by rw [hka]; simp
          have HN2 := Lib.hid (show N = noneD 13 by rw [HFN.out, if_neg (fun z => z.2 hka)])
          clear hka
          go_upto_region 20 with fail
          go_wp2_with fail
          refine bodyPost_ret (results_cell3 rfl _ _ q 73 _ _ rfl (tok_set HB.out) Tryz.underlying73 rfl sizeTok (.int .i64 ((a : Int))) (.int .i64 13) rfl rfl) rfl ⟨?_, HF.out.new ((Fr.set0 _ q 0 _).trans ((Fr.set0 _ q 1 _).trans (Fr.set0 _ q 2 _) (fun _ z _ => z) (fun _ z _ => z)) (fun _ z _ => z) (fun _ z _ => z)) (fun i hi => by have : i = q := (by simpa using hi); omega)⟩
          rw [HN2.out]; rfl
        · have hke : ((k : Int) == (a : Int) + 1) = false := by rw [beq_eq_false_iff_ne]; omega
          by_cases hlong : 32 < k - (a + 1)
          · have hdl : decide (32 < (k : Int) - (a : Int) - 1) = true := decide_eq_true (by omega)
            have HN2 := Lib.hid (show N = noneD 19 by rw [HFN.out, if_pos ⟨HGQ.out, hka⟩, if_pos hlong])
            clear hka hlong
            go_upto_region 20 with fail
            go_wp2_with fail
            refine bodyPost_ret (results_cell3 rfl _ _ q 73 _ _ rfl (tok_set HB.out) Tryz.underlying73 rfl sizeTok (.int .i64 ((a : Int))) (.int .i64 19) rfl rfl) rfl ⟨?_, HF.out.new ((Fr.set0 _ q 0 _).trans ((Fr.set0 _ q 1 _).trans (Fr.set0 _ q 2 _) (fun _ z _ => z) (fun _ z _ => z)) (fun _ z _ => z) (fun _ z _ => z)) (fun i hi => by have : i = q := (by simpa using hi); omega)⟩
            rw [HN2.out]; rfl
          · have hdl : decide (32 < (k : Int) - (a : Int) - 1) = false := decide_eq_false (by omega)
            have HN2 := Lib.hid (show N = ⟨2, (m.take k).drop (a + 1), k - (a + 1) + 2, 0⟩ by rw [HFN.out, if_pos ⟨HGQ.out, hka⟩, if_neg hlong])
            have hsl : ∀ wx, (Instr.slice 9 (.string ⟨m.toArray⟩) (some (.int .i64 ((a : Int) + 1))) (some (.int .i64 (k : Int))) none).run Tryz.prog wx = .ok (.string ⟨((m.take k).drop (a + 1)).toArray⟩) wx := fun wx => run_slice_str (P := Tryz.prog) wx 9 m .i64 .i64 (a + 1) k Tryz.underlying9 hak hk
            have HAK := Lib.hid (show a + (k - (a + 1) + 2) = k + 1 by omega)
            clear hka hlong
            go_upto_region 20 with fail
            go_wp2_with fail
            refine bodyPost_ret (results_cell3 rfl _ _ q 73 _ _ rfl (tok_set HB.out) Tryz.underlying73 rfl sizeTok (.int .i64 ((k : Int) + 1)) (.int .i64 0) rfl rfl) rfl ⟨?_, HF.out.new ((Fr.set0 _ q 0 _).trans ((Fr.set0 _ q 1 _).trans (Fr.set0 _ q 2 _) (fun _ z _ => z) (fun _ z _ => z)) (fun _ z _ => z) (fun _ z _ => z)) (fun i hi => by have : i = q := (by simpa using hi); omega)⟩
            rw [HN2.out]; unfold nextV; simp only [HAK.out]; rfl
      · -- 40 ≤ x ∧ x < 92
        have q0 : decide (32 ≤ (x : Int)) = true := decide_eq_true (by omega)
        have q1 : decide ((x : Int) ≤ 126) = true := decide_eq_true (by omega)
        have r0 : ((x : Int) == 39) = false := by rw [beq_eq_false_iff_ne]; omega
        have r1 : ((x : Int) == 92) = false := by rw [beq_eq_false_iff_ne]; omega
        have s0 : ((x : Int) != 39) = true := by rw [bne_iff_ne]; omega
        have s1 : ((x : Int) != 92) = true := by rw [bne_iff_ne]; omega
        have ho : termC d = true := by unfold termC; rw [← HX.out]; simp; omega
        have HO := Lib.hid ho
        clear ho hw
        go_wp2_with fail
        exact ⟨⟨k + 1, by omega, by omega, by go_num, run_next HA.out hkn (by rw [← HC.out]; exact HO.out), rfl⟩, by simp [intOf]; omega⟩
      · -- x = 92
        have q0 : decide (32 ≤ (x : Int)) = true := decide_eq_true (by omega)
        have q1 : decide ((x : Int) ≤ 126) = true := decide_eq_true (by omega)
        have r0 : ((x : Int) == 39) = false := by rw [beq_eq_false_iff_ne]; omega
        have r1 : ((x : Int) == 92) = true := by rw [hw]; rfl
        have s0 : ((x : Int) != 39) = true := by rw [bne_iff_ne]; omega
        have s1 : ((x : Int) != 92) = false := by rw [hw]; rfl
        have ho : termC d = false := by unfold termC; rw [← HX.out]; simp; omega
        have HN2 := Lib.hid (show N = noneD 13 by rw [HFIN.out k hak hk HA.out (fun h => by rw [← HC.out]; exact ho), HGK.out, if_neg (fun z => by have := Option.some.inj z.1; rw [this] at HX; have := HX.out; simp at this; omega)])
        clear ho hw
        go_upto_region 20 with fail
        go_wp2_with fail
        refine bodyPost_ret (results_cell3 rfl _ _ q 73 _ _ rfl (tok_set HB.out) Tryz.underlying73 rfl sizeTok (.int .i64 ((a : Int))) (.int .i64 13) rfl rfl) rfl ⟨?_, HF.out.new ((Fr.set0 _ q 0 _).trans ((Fr.set0 _ q 1 _).trans (Fr.set0 _ q 2 _) (fun _ z _ => z) (fun _ z _ => z)) (fun _ z _ => z) (fun _ z _ => z)) (fun i hi => by have : i = q := (by simpa using hi); omega)⟩
        rw [HN2.out]; rfl
      · -- 93 ≤ x ∧ x < 127
        have q0 : decide (32 ≤ (x : Int)) = true := decide_eq_true (by omega)
        have q1 : decide ((x : Int) ≤ 126) = true := decide_eq_true (by omega)
        have r0 : ((x : Int) == 39) = false := by rw [beq_eq_false_iff_ne]; omega
        have r1 : ((x : Int) == 92) = false := by rw [beq_eq_false_iff_ne]; omega
        have s0 : ((x : Int) != 39) = true := by rw [bne_iff_ne]; omega
        have s1 : ((x : Int) != 92) = true := by rw [bne_iff_ne]; omega
        have ho : termC d = true := by unfold termC; rw [← HX.out]; simp; omega
        have HO := Lib.hid ho
        clear ho hw
        go_wp2_with fail
        exact ⟨⟨k + 1, by omega, by omega, by go_num, run_next HA.out hkn (by rw [← HC.out]; exact HO.out), rfl⟩, by simp [intOf]; omega⟩
      · -- 127 ≤ x
        have q0 : decide (32 ≤ (x : Int)) = true := decide_eq_true (by omega)
        have q1 : decide ((x : Int) ≤ 126) = false := decide_eq_false (by omega)
        have r0 : ((x : Int) == 39) = false := by rw [beq_eq_false_iff_ne]; omega
        have r1 : ((x : Int) == 92) = false := by rw [beq_eq_false_iff_ne]; omega
        have s0 : ((x : Int) != 39) = true := by rw [bne_iff_ne]; omega
        have s1 : ((x : Int) != 92) = true := by rw [bne_iff_ne]; omega
        have ho : termC d = false := by unfold termC; rw [← HX.out]; simp; omega
        have HN2 := Lib.hid (show N = noneD 13 by rw [HFIN.out k hak hk HA.out (fun h => by rw [← HC.out]; exact ho), HGK.out, if_neg (fun z => by have := Option.some.inj z.1; rw [this] at HX; have := HX.out; simp at this; omega)])
        clear ho hw
        go_upto_region 20 with fail
        go_wp2_with fail
        refine bodyPost_ret (results_cell3 rfl _ _ q 73 _ _ rfl (tok_set HB.out) Tryz.underlying73 rfl sizeTok (.int .i64 ((a : Int))) (.int .i64 13) rfl rfl) rfl ⟨?_, HF.out.new ((Fr.set0 _ q 0 _).trans ((Fr.set0 _ q 1 _).trans (Fr.set0 _ q 2 _) (fun _ z _ => z) (fun _ z _ => z)) (fun _ z _ => z) (fun _ z _ => z)) (fun i hi => by have : i = q := (by simpa using hi); omega)⟩
        rw [HN2.out]; rfl
    · have hd3 : decide (k < m.length) = false := decide_eq_false hkn
      have hd4 : decide (m.length ≤ k) = true := decide_eq_true (by omega)
      have HN2 := Lib.hid (show N = noneD 13 by rw [HFIN.out k hak hk HA.out (fun h => absurd h hkn), if_neg (fun z => by have := z.1; rw [List.getElem?_eq_none (by omega)] at this; cases this)])
      go_upto_region 20 with fail
      go_wp2_with fail
      refine bodyPost_ret (results_cell3 rfl _ _ q 73 _ _ rfl (tok_set HB.out) Tryz.underlying73 rfl sizeTok (.int .i64 ((a : Int))) (.int .i64 13) rfl rfl) rfl ⟨?_, HF.out.new ((Fr.set0 _ q 0 _).trans ((Fr.set0 _ q 1 _).trans (Fr.set0 _ q 2 _) (fun _ z _ => z) (fun _ z _ => z)) (fun _ z _ => z) (fun _ z _ => z)) (fun i hi => by have : i = q := (by simpa using hi); omega)⟩
      rw [HN2.out]; rfl

/-- next, whatever begins there. -/
theorem rnext_any (m : List UInt8) (hm : m.length ≤ 1000000) (a : Nat) (ha : a < m.length) (c : UInt8) (hc : m[a]? = some c) (w : World) : Calls Tryz.prog 79 #[encStr m, .int .i64 (a : Int)] w (RNext m a (nextD c (m.drop (a + 1))) w) := by
  by_cases h1 : c.toNat = 58 ∨ c.toNat = 124 ∨ c.toNat = 59
  · exact rnext_one m hm a ha c hc h1 w _ rfl
  · by_cases h2 : letterB c = true
    · exact rnext_name m hm a ha c hc h2 w _ rfl
    · by_cases h3 : c.toNat = 39
      · exact rnext_term m hm a ha c hc h3 w _ rfl
      · exact rnext_none m hm a ha c hc (fun h => h1 (.inl h)) (fun h => h1 (.inr (.inl h))) (fun h => h1 (.inr (.inr h))) (by simpa using h2) h3 w _ rfl
end Go.Proofs.YtgfpkmnmdehkpaaGreat
