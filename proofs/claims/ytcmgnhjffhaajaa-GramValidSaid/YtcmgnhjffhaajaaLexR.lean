/- The program's lexer (layer 12): All does what the document's does. -/
import Derived.Test.YtcmgnhjffhaajaaLexQ
import Derived.Test.YtcmgnhjffhaajaaLexPa
import Derived.Maps.AppendAt
namespace Go.Proofs.Ytcmgnhjffhaajaa
open Go.RowKit

theorem infoPTok : (Try.prog.info? 78).map (fun i => (i.zero, i.size, i.bytes)) = some (some (.agg #[.int .i64 0, .string { data := #[] }, .int .i64 0]), 3, 32) := by kernel_rfl
def PAllRel (w : World) (m : List UInt8) (R : LexD) (ov iv : Value) (wx : World) : Prop :=
  ∃ (k : Nat) (acc : List TokD), k ≤ m.length ∧ acc.length ≤ k ∧ iv = .int .i64 (k : Int) ∧ wx.ownsRow w.heap.size 78 3 ov acc.length (acc.map TokD.cells).flatten ∧ behindD acc (lexD (m.drop k) k) = R ∧ (∀ c, m[k]? = some c → blankB c = false ∧ c ≠ 35) ∧ Fr [] w wx
set_option maxRecDepth 100000 in
set_option maxHeartbeats 4000000 in
theorem pall_any (m : List UInt8) (hm : m.length ≤ 1000000) (w : World) : Calls Try.prog 40 #[encStr m] w (RAll (allD m) w) := by
  obtain ⟨i0, hi, hz0, hz1, hz2⟩ := info_parts infoPTok
  obtain ⟨R, hR⟩ : ∃ R, R = allD m := ⟨_, rfl⟩
  rw [← hR]
  by_cases hbig : 65536 < m.length
  · have hdb : decide (65536 < (m.length : Int)) = true := decide_eq_true (by omega)
    have HR := Lib.hid (show R = ⟨[], 0, 19⟩ by rw [hR]; unfold allD; rw [if_pos hbig])
    clear hR hbig
    go_enter Try.func40, Try.ntmps40
    go_wp2_with fail
    go_ret3
    refine ⟨.slice none 0 0, by rw [HR.out]; rfl, ?_, Fr.refl _ _⟩
    rw [HR.out]
    exact .inl ⟨_, _, rfl, by simp, rfl⟩
  · have hdb : decide (65536 < (m.length : Int)) = false := decide_eq_false (by omega)
    have hR2 : R = lexD m 0 := by rw [hR]; unfold allD; rw [if_neg hbig]
    have hstart : behindD [] (lexD (m.drop 0) 0) = R := by
      rw [hR2, List.drop_zero]
      unfold behindD
      split
      · next h => rw [List.nil_append]; have := lex_ok h; cases hx : lexD m 0; rw [hx] at h this; simp at h this; rw [h, this]
      · rfl
    have HST := Lib.hid hstart
    have HSK := Lib.hid (fun wx => pskip_any m hm 0 (Nat.zero_le _) wx)
    clear hR hbig hR2 hstart
    go_enter Try.func40, Try.ntmps40
    go_wp2_with (go_at_call 58; refine (HSK.out _).mono ?_; rintro e w1 ⟨k0, rfl, hs0, hn0, rfl⟩)
    have HS0 := Lib.hid hs0
    have HN0 := Lib.hid hn0
    clear hs0 hn0
    go_loopw [5, 6] (PAllRel _ m R) (fun _ iv _ => m.length - (intOf iv).toNat)
    case atStart => exact ⟨k0, [], HS0.out.2.1, Nat.zero_le _, rfl, World.ownsRow_nil _ _ _ _, by rw [HS0.out.2.2]; exact HST.out, HN0.out, Fr.refl _ _⟩
    case round =>
      clear HS0 HN0
      obtain ⟨k, acc, hk, hac, rfl, hrow, hbh, hfree, hf⟩ := hrel
      have HROW := Lib.hid hrow
      have HBH := Lib.hid hbh
      have HF := Lib.hid hf
      have HFR := Lib.hid hfree
      clear hrow hbh hf hfree
      by_cases hkn : k < m.length
      · have hd3 : decide (k < m.length) = true := decide_eq_true hkn
        obtain ⟨c, hc⟩ : ∃ c, m[k]? = some c := ⟨m[k]'hkn, List.getElem?_eq_getElem _⟩
        have hdr : m.drop k = c :: m.drop (k + 1) := by
          rw [List.drop_eq_getElem_cons hkn]
          rw [List.getElem?_eq_getElem hkn] at hc
          rw [Option.some.inj hc]
        obtain ⟨hbl, hc35⟩ := HFR.out c hc
        have hnx := fun wx => pfirst_any c (m.drop (k + 1)) (by rw [← hdr, List.length_drop]; omega) wx
        have hsl := fun wx => run_slice_from (P := Try.prog) wx 9 m .i64 k Try.underlying9 hk
        rw [← hdr] at hnx
        have HDR := Lib.hid hdr
        obtain ⟨N, hN⟩ : ∃ N, N = nextD c (m.drop (k + 1)) := ⟨_, rfl⟩
        rw [← hN] at hnx
        by_cases he : N.err = 0
        · have hps := next_pos (c := c) (t := m.drop (k + 1)) (by rw [← hN]; exact he)
          rw [← hN, List.length_cons, List.length_drop] at hps
          have hbb : behindD (acc ++ [⟨N.kind, N.text, k⟩]) (lexD (m.drop (k + N.n)) (k + N.n)) = R := by
            rw [← HBH.out, HDR.out, lex_tok _ _ hbl hc35 (by rw [← hN]; exact he), behind_cons, ← hN, ← HDR.out, List.drop_drop]
          have HBB := Lib.hid hbb
          obtain ⟨K, T, s, E⟩ := N
          obtain rfl : E = 0 := he
          have HNX := Lib.hid (show ∀ wx, Calls Try.prog 59 #[encStr (m.drop k)] wx (TokIs K T s 0 wx) from hnx)
          obtain ⟨hp1, hp2⟩ := hps
          have HP1 := Lib.hid hp1
          have hp3 : k + s ≤ m.length := by simp only at hp2; omega
          have HP3 := Lib.hid hp3
          have hsk2 : ∀ wx, Calls Try.prog 58 #[encStr m, .int .i64 ((k : Int) + (s : Int))] wx (Skipped m (k + s) wx) := fun wx => by
            have h := pskip_any m hm (k + s) hp3 wx
            rw [show ((k + s : Nat) : Int) = (k : Int) + (s : Int) from by omega] at h
            exact h
          have HSK2 := Lib.hid hsk2
          clear hsk2
          clear hc35 hnx hN hbb hbl hdr hc hp1 hp2
          go_upto_region 7 with (go_at_call 59; refine (HNX.out _).mono ?_; rintro e w1 ⟨rfl, hf1⟩; have HF1 := Lib.hid (HF.out.trans hf1 (by simp) (n := []) (by simp)); have HR1 := Lib.hid (owns_kept HROW.out hf1 (by simp)); clear hf1)
          have hfa := Fr.alloc w1 (.cells #[.int .i64 K, .string { data := T.toArray }, .int .i64 0] 78)
          have hba := heap_alloc_new w1 (.cells #[.int .i64 K, .string { data := T.toArray }, .int .i64 0] 78)
          obtain ⟨w2, hw2⟩ : ∃ w2, w2 = w1.alloc (.cells #[.int .i64 K, .string { data := T.toArray }, .int .i64 0] 78) := ⟨_, rfl⟩
          obtain ⟨q, hq⟩ : ∃ q, q = w1.heap.size := ⟨_, rfl⟩
          rw [← hw2] at hfa hba ⊢
          rw [← hq] at hba ⊢
          obtain ⟨y0, y1, y2, z0, z1, z2⟩ := three_of_heap hba
          have HR2 : Hid (w2.ownsRow w.heap.size 78 3 _ acc.length (acc.map TokD.cells).flatten) := Lib.hid (owns_kept HR1.out hfa (by simp))
          have HF2 := Lib.hid (HF1.out.trans hfa (by simp) (n := []) (by simp))
          have hqw : w.heap.size ≤ q := by rw [hq]; exact HF1.out.size
          have hnq : ∀ i, Value.ownBlock _ = some i → i ∉ [q] := fun i h => by have := (HR1.out.lt i h).2; simp; omega
          have HNQ := Lib.hid hnq
          have HBA := Lib.hid hba
          clear hw2 hq hfa hba hnq
          go_upto_region 10 with fail
          have hfs := Fr.set0 w2 q 2 (.int .i64 (k : Int))
          have hbs : (w2.setCell ⟨q, 2, none⟩ (.int .i64 (k : Int))).heap[q]? = some (.cells #[.int .i64 K, .string { data := T.toArray }, .int .i64 (k : Int)] 78 (0, 0)) := heap_setCell_same HBA.out (i := 2) _
          obtain ⟨w3, hw3⟩ : ∃ w3, w3 = w2.setCell ⟨q, 2, none⟩ (.int .i64 (k : Int)) := ⟨_, rfl⟩
          rw [← hw3] at hfs hbs ⊢
          have HR3 : Hid (w3.ownsRow w.heap.size 78 3 _ acc.length (acc.map TokD.cells).flatten) := Lib.hid (owns_kept HR2.out hfs HNQ.out)
          have HF3 := Lib.hid (HF2.out.new hfs (fun i hi => by have : i = q := (by simpa using hi); omega))
          have hws := HF3.out.size
          clear y0 y1 y2 z0 z1 z2 HBA hfs
          obtain ⟨y0, y1, y2, z0, z1, z2⟩ := three_of_heap hbs
          clear hw3 hbs
          go_upto_region 11 with (at_builtin; refine wpL_appendS rfl _ _ 70 rfl w.heap.size 78 i0 _ 3 32 Try.underlying70 hi hz0 hz1 hz2 (by rfl) (by decide) _ _ _ rfl HR3.out (TokD.cells ⟨K, T, k⟩) rfl (by intro u hu; simp [TokD.cells] at hu; rcases hu with rfl | rfl | rfl <;> rfl) rfl (by omega) (by simp [maxLen]; omega) hws ?_; intro v5 w5 hown5 hf5 hb5)
          have hf3 := (Fr.alloc w3 (.cells (TokD.cells ⟨K, T, k⟩).toArray 78)).trans hf5 (by simp) (fun _ hk _ => hk)
          have HF6 := Lib.hid (HF3.out.own HR3.out hf3)
          have HOWN := Lib.hid hown5
          clear hf3 hf5 hb5 hown5
          go_wp2_with (go_at_call 58; refine (HSK2.out _).mono ?_; rintro e w6 ⟨k2, rfl, hs2, hn2, rfl⟩)
          refine ⟨⟨k2, acc ++ [⟨K, T, k⟩], hs2.2.1, by simp; have := hs2.1; have := HP1.out; omega, rfl, by simpa using HOWN.out, by rw [hs2.2.2]; exact HBB.out, hn2, HF6.out⟩, by have := hs2.1; have := HP1.out; have := hs2.2.1; simp [intOf]; omega⟩
        · have hbb : R = ⟨[], k, N.err⟩ := by rw [← HBH.out, HDR.out, lex_err _ _ hbl hc35 (by rw [← hN]; exact he), ← hN, behind_err he]
          have HBB := Lib.hid hbb
          obtain ⟨K, T, s, E⟩ := N
          have HNX := Lib.hid (show ∀ wx, Calls Try.prog 59 #[encStr (m.drop k)] wx (TokIs K T s E wx) from hnx)
          have he' : E ≠ 0 := he
          have hee : (E == 0) = false := by rw [beq_eq_false_iff_ne]; exact he'
          have hen : (E != 0) = true := by rw [bne_iff_ne]; exact he'
          clear hc35 hnx he he' hN hbb hbl hdr hc
          go_wp2_with (go_at_call 59; refine (HNX.out _).mono ?_; rintro e w1 ⟨rfl, hf1⟩)
          go_ret3
          refine ⟨.slice none 0 0, by rw [HBB.out]; rfl, ?_, (HF.out.trans hf1 (by simp) (n := []) (by simp)).trans (Fr.alloc _ _) (by simp) (by simp)⟩
          rw [HBB.out]
          exact .inl ⟨_, _, rfl, by simp, rfl⟩
      · have hd3 : decide (k < m.length) = false := decide_eq_false hkn
        obtain rfl : k = m.length := by omega
        have HRR := Lib.hid (show R = ⟨acc, 0, 0⟩ by rw [← HBH.out, List.drop_length, lex_nil]; simp [behindD])
        obtain ⟨a0, c0, rfl, -, -⟩ := owns_slice HROW.out
        go_wp2_with fail
        go_ret3
        refine ⟨.slice a0 acc.length c0, by rw [HRR.out]; rfl, ?_, HF.out⟩
        rw [HRR.out]
        exact elems_of_owns (xs := acc.map TokD.cells) (by rw [List.length_map]; exact HROW.out) (fun x hx => by obtain ⟨f, _, rfl⟩ := List.mem_map.1 hx; rfl)
theorem prog_all : ProgAll := fun m w hm => pall_any m hm w
end Go.Proofs.Ytcmgnhjffhaajaa
