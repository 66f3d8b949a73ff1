/- The document's lexer (layer 12): All. Written by wip/tools/gen_le.py. -/
import Derived.Test.YtgfpkmnmdehkpaaGreatLexD
import Derived.Test.YtgfpkmnmdehkpaaGreatBs
import Derived.Test.YtgfpkmnmdehkpaaGreatLs
set_option linter.unusedVariables false
set_option linter.unusedSimpArgs false
namespace Go.Proofs.YtgfpkmnmdehkpaaGreat
open Go.RowKit
theorem infoTok : (Tryz.prog.info? 73).map (fun i => (i.zero, i.size, i.bytes)) = some (some (.agg #[.int .i64 0, .string ⟨#[]⟩, .int .i64 0]), 3, 32) := by kernel_rfl
def RAllRel (w : World) (m : List UInt8) (R : LexD) (ov iv : Value) (wx : World) : Prop :=
  ∃ (k : Nat) (acc : List TokD), k ≤ m.length ∧ acc.length ≤ k ∧ iv = .int .i64 (k : Int) ∧ wx.ownsRow w.heap.size 73 3 ov acc.length (acc.map TokD.cells).flatten ∧ behindD acc (lexD (m.drop k) k) = R ∧ Fr [] w wx
set_option maxRecDepth 100000 in
set_option maxHeartbeats 4000000 in
theorem rall_any (m : List UInt8) (hm : m.length ≤ 1000000) (w : World) : Calls Tryz.prog 43 #[encStr m] w (RAll (allD m) w) := by
  obtain ⟨i0, hi, hz0, hz1, hz2⟩ := info_parts infoTok
  obtain ⟨R, hR⟩ : ∃ R, R = allD m := ⟨_, rfl⟩
  rw [← hR]
  by_cases hbig : 65536 < m.length
  · have hdb : decide (65536 < (m.length : Int)) = true := decide_eq_true (by omega)
    have HR := Lib.hid (show R = ⟨[], 0, 19⟩ by rw [hR]; unfold allD; rw [if_pos hbig])
    clear hR hbig
    go_enter Tryz.func43, Tryz.ntmps43
    go_wp2_with fail
    go_ret3
    refine ⟨.slice none 0 0, by rw [HR.out]; rfl, ?_, Fr.refl _ _⟩
    rw [HR.out]
    exact .inl ⟨_, _, rfl, by simp, rfl⟩
  · have hdb : decide (65536 < (m.length : Int)) = false := decide_eq_false (by omega)
    have hR2 : R = lexD m 0 := by rw [hR]; unfold allD; rw [if_neg hbig]
    have hstart : behindD [] (lexD (m.drop 0) 0) = R := by
      rw [hR2, List.drop_zero]
      unfold behindD
      split
      · next h => rw [List.nil_append]; have := lex_ok h; cases hx : lexD m 0; rw [hx] at h this; simp at h this; rw [h, this]
      · rfl
    have HST := Lib.hid hstart
    clear hR hbig hR2 hstart
    go_enter Tryz.func43, Tryz.ntmps43
    go_wp2_with fail
    go_loopw [5, 6] (RAllRel w m R) (fun _ iv _ => m.length - (intOf iv).toNat)
    case atStart => exact ⟨0, [], Nat.zero_le _, Nat.le_refl _, rfl, World.ownsRow_nil _ _ _ _, HST.out, Fr.refl _ _⟩
    case round =>
      obtain ⟨k, acc, hk, hac, rfl, hrow, hbh, hf⟩ := hrel
      have HROW := Lib.hid hrow
      have HBH := Lib.hid hbh
      have HF := Lib.hid hf
      clear hrow hbh hf
      by_cases hkn : k < m.length
      · have hd3 : decide (k < m.length) = true := decide_eq_true hkn
        obtain ⟨c, hc⟩ : ∃ c, m[k]? = some c := ⟨m[k]'hkn, List.getElem?_eq_getElem _⟩
        have hdr : m.drop k = c :: m.drop (k + 1) := by
          rw [List.drop_eq_getElem_cons hkn]
          rw [List.getElem?_eq_getElem hkn] at hc
          rw [Option.some.inj hc]
        have hix := fun wx => run_index_str (P := Tryz.prog) wx 9 m (k : Int) k c Tryz.underlying9 rfl hc
        have HDR := Lib.hid hdr
        have HC := Lib.hid hc
        clear hdr hc
        obtain ⟨n, hn⟩ : ∃ n, n = c.toNat := ⟨_, rfl⟩
        rw [← hn] at hix
        have HN := Lib.hid hn
        clear hn
        by_cases hbl : blankB c = true
        · have HBL := Lib.hid hbl
          have hnx : behindD acc (lexD (m.drop (k + 1)) (k + 1)) = R := by rw [← HBH.out, HDR.out, lex_blank _ _ HBL.out]
          have HNX := Lib.hid hnx
          have hw : n = 32 ∨ n = 9 ∨ n = 10 ∨ n = 13 := by
            rw [HN.out]
            unfold blankB at hbl
            simpa [or_assoc] using hbl
          clear hbl hnx
          rcases hw with hw | hw | hw | hw
          · have b32 : ((n : Int) == 32) = true := by rw [hw]; rfl
            clear hw
            go_wp2_with fail
            exact ⟨⟨k + 1, acc, by omega, by omega, by go_num, HROW.out, HNX.out, HF.out⟩, by simp [intOf]; omega⟩
          · have b32 : ((n : Int) == 32) = false := by rw [beq_eq_false_iff_ne]; omega
            have b9 : ((n : Int) == 9) = true := by rw [hw]; rfl
            clear hw
            go_wp2_with fail
            exact ⟨⟨k + 1, acc, by omega, by omega, by go_num, HROW.out, HNX.out, HF.out⟩, by simp [intOf]; omega⟩
          · have b32 : ((n : Int) == 32) = false := by rw [beq_eq_false_iff_ne]; omega
            have b9 : ((n : Int) == 9) = false := by rw [beq_eq_false_iff_ne]; omega
            have b10 : ((n : Int) == 10) = true := by rw [hw]; rfl
            clear hw
            go_wp2_with fail
            exact ⟨⟨k + 1, acc, by omega, by omega, by go_num, HROW.out, HNX.out, HF.out⟩, by simp [intOf]; omega⟩
          · have b32 : ((n : Int) == 32) = false := by rw [beq_eq_false_iff_ne]; omega
            have b9 : ((n : Int) == 9) = false := by rw [beq_eq_false_iff_ne]; omega
            have b10 : ((n : Int) == 10) = false := by rw [beq_eq_false_iff_ne]; omega
            have b13 : ((n : Int) == 13) = true := by rw [hw]; rfl
            clear hw
            go_wp2_with fail
            exact ⟨⟨k + 1, acc, by omega, by omega, by go_num, HROW.out, HNX.out, HF.out⟩, by simp [intOf]; omega⟩
        · have HBL := Lib.hid (show blankB c = false by simpa using hbl)
          have hnb : n ≠ 32 ∧ n ≠ 9 ∧ n ≠ 10 ∧ n ≠ 13 := by
            have := HBL.out
            unfold blankB at this
            rw [← HN.out] at this
            simp at this
            omega
          have b32 : ((n : Int) == 32) = false := by rw [beq_eq_false_iff_ne]; omega
          have b9 : ((n : Int) == 9) = false := by rw [beq_eq_false_iff_ne]; omega
          have b10 : ((n : Int) == 10) = false := by rw [beq_eq_false_iff_ne]; omega
          have b13 : ((n : Int) == 13) = false := by rw [beq_eq_false_iff_ne]; omega
          clear hbl hnb
          by_cases h35 : n = 35
          · have b35 : ((n : Int) == 35) = true := by rw [h35]; rfl
            have hc35 : c = 35 := toNat_eq (show c.toNat = 35 by rw [← HN.out]; exact h35)
            have hfin : ∀ j, k + 1 ≤ j → j ≤ m.length → (∀ i, k + 1 ≤ i → i < j → ∀ h : i < m.length, (!decide (m[i]'h = 10)) = true) → (∀ h : j < m.length, (!decide (m[j]'h = 10)) = false) → behindD acc (lexD (m.drop j) j) = R := fun j g1 g2 g3 g4 => by
              have hr := restC_at g1 g2 g3 g4
              have hb := HBH.out
              rw [HDR.out, hc35, lex_note, hr, List.length_drop, List.length_drop, show k + 1 + (m.length - (k + 1) - (m.length - j)) = j from by omega] at hb
              exact hb
            have hk0 : ∀ h : k < m.length, (!decide (m[k]'h = 10)) = true := fun h => by
              have hcc := HC.out
              rw [List.getElem?_eq_getElem h] at hcc
              rw [Option.some.inj hcc, hc35]; rfl
            have HFIN := Lib.hid hfin
            have HK0 := Lib.hid hk0
            clear h35 hc35 hfin hk0
            go_upto_region 10 with fail
            clear hix
            go_loopw [6] (RunRel (fun c => !decide (c = 10)) wr m k) (fun iv _ => m.length - (intOf iv).toNat)
            case atStart => exact ⟨k, Nat.le_refl _, by omega, rfl, fun j h1 h2 => by omega, rfl⟩
            case round =>
              obtain ⟨j, hkj, hj, rfl, hall, rfl⟩ := hrel
              have HA := Lib.hid hall
              clear hall
              by_cases hjn : j < m.length
              · have hd5 : decide (j < m.length) = true := decide_eq_true hjn
                obtain ⟨d, hd⟩ : ∃ d, d = m[j]'hjn := ⟨_, rfl⟩
                have hix := fun wx => run_index_str (P := Tryz.prog) wx 9 m (j : Int) j d Tryz.underlying9 rfl (by rw [hd, List.getElem?_eq_getElem])
                have HD := Lib.hid hd
                clear hd
                obtain ⟨x, hx⟩ : ∃ x, x = d.toNat := ⟨_, rfl⟩
                rw [← hx] at hix
                have HX := Lib.hid hx
                clear hx
                by_cases h10 : x = 10
                · have b1 : ((x : Int) != 10) = false := by rw [h10]; rfl
                  have b2 : ((x : Int) == 10) = true := by rw [h10]; rfl
                  have hd10 : d = 10 := toNat_eq (show d.toNat = 10 by rw [← HX.out]; exact h10)
                  have hjk : k ≠ j := fun e => by
                    subst e
                    have := HK0.out hjn
                    rw [← HD.out, hd10] at this
                    simp at this
                  have HNX := Lib.hid (HFIN.out j (by omega) hj (fun i g1 g2 h => HA.out i (by omega) g2 h) (fun h => by rw [← HD.out, hd10]; rfl))
                  clear h10 hd10
                  go_wp2_with fail
                  exact ⟨⟨j, acc, by omega, by omega, rfl, HROW.out, HNX.out, HF.out⟩, by simp [intOf]; omega⟩
                · have b1 : ((x : Int) != 10) = true := by rw [bne_iff_ne]; omega
                  have b2 : ((x : Int) == 10) = false := by rw [beq_eq_false_iff_ne]; omega
                  have hd10 : (!decide (d = 10)) = true := by
                    have : d ≠ 10 := fun e => h10 (by rw [HX.out, e]; rfl)
                    simp [this]
                  have HDN := Lib.hid hd10
                  clear h10 hd10
                  go_wp2_with fail
                  exact ⟨⟨j + 1, by omega, by omega, by go_num, run_next (p := fun c => !decide (c = 10)) HA.out hjn (show (!decide (m[j]'hjn = 10)) = true by rw [← HD.out]; exact HDN.out), rfl⟩, by simp [intOf]; omega⟩
              · have hd5 : decide (j < m.length) = false := decide_eq_false hjn
                have HNX := Lib.hid (HFIN.out j (by omega) hj (fun i g1 g2 h => HA.out i (by omega) g2 h) (fun h => absurd h hjn))
                go_wp2_with fail
                exact ⟨⟨j, acc, by omega, by omega, rfl, HROW.out, HNX.out, HF.out⟩, by simp [intOf]; omega⟩
          · have b35 : ((n : Int) == 35) = false := by rw [beq_eq_false_iff_ne]; omega
            have hc35 : c ≠ 35 := fun e => h35 (by rw [HN.out, e]; rfl)
            have hnx := fun wx => rnext_any m hm k hkn c HC.out wx
            obtain ⟨N, hN⟩ : ∃ N, N = nextD c (m.drop (k + 1)) := ⟨_, rfl⟩
            rw [← hN] at hnx
            unfold RNext at hnx
            by_cases he : N.err = 0
            · rw [nextV_ok he] at hnx
              have HNX := Lib.hid hnx
              have hps := next_pos (c := c) (t := m.drop (k + 1)) (by rw [← hN]; exact he)
              rw [← hN, List.length_cons, List.length_drop] at hps
              have hbb : behindD (acc ++ [⟨N.kind, N.text, k⟩]) (lexD (m.drop (k + N.n)) (k + N.n)) = R := by
                rw [← HBH.out, HDR.out, lex_tok _ _ HBL.out hc35 (by rw [← hN]; exact he), behind_cons, ← hN, ← HDR.out, List.drop_drop]
              have HBB := Lib.hid hbb
              obtain ⟨s, hs⟩ : ∃ s, s = N.n := ⟨_, rfl⟩
              rw [← hs] at hps HBB HNX
              obtain ⟨hp1, hp2⟩ := hps
              clear h35 hc35 hnx he hN hbb hs
              go_upto_region 13 with (go_at_call 79; refine (HNX.out _).mono ?_; rintro e w1 ⟨rfl, hf1⟩; have HF1 := Lib.hid (HF.out.trans hf1 (by simp) (n := []) (by simp)); have HR1 := Lib.hid (owns_kept HROW.out hf1 (by simp)); clear hf1)
              have hfa := Fr.alloc w1 (.cells #[.int .i64 N.kind, .string { data := N.text.toArray }, .int .i64 (k : Int)] 73)
              have hba := heap_alloc_new w1 (.cells #[.int .i64 N.kind, .string { data := N.text.toArray }, .int .i64 (k : Int)] 73)
              obtain ⟨w2, hw2⟩ : ∃ w2, w2 = w1.alloc (.cells #[.int .i64 N.kind, .string { data := N.text.toArray }, .int .i64 (k : Int)] 73) := ⟨_, rfl⟩
              obtain ⟨q, hq⟩ : ∃ q, q = w1.heap.size := ⟨_, rfl⟩
              rw [← hw2] at hfa hba ⊢
              rw [← hq] at hba ⊢
              obtain ⟨y0, y1, y2, -, -, -⟩ := three_of_heap hba
              have HR2 : Hid (w2.ownsRow w.heap.size 73 3 _ acc.length (acc.map TokD.cells).flatten) := Lib.hid (owns_kept HR1.out hfa (by simp))
              have HF2 := Lib.hid (HF1.out.trans hfa (by simp) (n := []) (by simp))
              have hws := HF2.out.size
              clear hw2 hq hfa hba
              go_wp2_with (at_builtin; refine wpL_appendS rfl _ _ 64 rfl w.heap.size 73 i0 _ 3 32 Tryz.underlying64 hi hz0 hz1 hz2 (by rfl) (by decide) _ _ _ rfl HR2.out (TokD.cells ⟨N.kind, N.text, k⟩) rfl (by intro u hu; simp [TokD.cells] at hu; rcases hu with rfl | rfl | rfl <;> rfl) rfl (by omega) (by simp [maxLen]; omega) hws ?_; intro v5 w5 hown5 hf5 hb5)
              have hf3 := (Fr.alloc w2 (.cells (TokD.cells ⟨N.kind, N.text, k⟩).toArray 73)).trans hf5 (by simp) (fun _ hk _ => hk)
              have hf6 : Fr [] w w5 := HF2.out.own HR2.out hf3
              refine ⟨⟨k + s, acc ++ [⟨N.kind, N.text, k⟩], by omega, by simp; omega, by go_num, by simpa using hown5, HBB.out, hf6⟩, by simp [intOf]; omega⟩
            · rw [nextV_no he] at hnx
              have HNX := Lib.hid hnx
              have hbb : R = ⟨[], k, N.err⟩ := by rw [← HBH.out, HDR.out, lex_err _ _ HBL.out hc35 (by rw [← hN]; exact he), ← hN, behind_err he]
              have HBB := Lib.hid hbb
              obtain ⟨er, her⟩ : ∃ er, er = N.err := ⟨_, rfl⟩
              rw [← her] at he HNX HBB
              have hee : (er == 0) = false := by rw [beq_eq_false_iff_ne]; exact he
              have hen : (er != 0) = true := by rw [bne_iff_ne]; exact he
              clear h35 hc35 hnx he hN hbb her
              go_wp2_with (go_at_call 79; refine (HNX.out _).mono ?_; rintro e w1 ⟨rfl, hf1⟩)
              go_ret3
              refine ⟨.slice none 0 0, by rw [HBB.out]; rfl, ?_, (HF.out.trans hf1 (by simp) (n := []) (by simp)).trans (Fr.alloc _ _) (by simp) (by simp)⟩
              rw [HBB.out]
              exact .inl ⟨_, _, rfl, by simp, rfl⟩
      · have hd3 : decide (k < m.length) = false := decide_eq_false hkn
        obtain rfl : k = m.length := by omega
        have HRR := Lib.hid (show R = ⟨acc, 0, 0⟩ by rw [← HBH.out, List.drop_length, lex_nil]; simp [behindD])
        obtain ⟨a0, c0, rfl, -, -⟩ := owns_slice HROW.out
        go_wp2_with fail
        go_ret3
        refine ⟨.slice a0 acc.length c0, by rw [HRR.out]; rfl, ?_, HF.out⟩
        rw [HRR.out]
        exact elems_of_owns (xs := acc.map TokD.cells) (by rw [List.length_map]; exact HROW.out) (fun x hx => by obtain ⟨f, _, rfl⟩ := List.mem_map.1 hx; rfl)
end Go.Proofs.YtgfpkmnmdehkpaaGreat
