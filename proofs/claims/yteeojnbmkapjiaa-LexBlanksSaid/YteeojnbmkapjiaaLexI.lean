/- LexBlanks (layer 12), whatever the program's lexer is, so long as it does what the document's does. Written by wip/tools/gen_li.py. -/
import Derived.Test.YteeojnbmkapjiaaLexG
import Derived.Test.YteeojnbmkapjiaaLexB
import Derived.Laws.Concat
namespace Go.Proofs.Yteeojnbmkapjiaa
open Go.RowKit

theorem all_ne {m : List UInt8} {x : UInt8} (h : ∀ j (h : j < m.length), (!decide (m[j]'h = x)) = true) : x ∉ m := by
  intro hm
  obtain ⟨j, hj, e⟩ := List.getElem_of_mem hm
  have := h j hj
  rw [e] at this
  simp at this
theorem all_small {m : List UInt8} (h : m.length ≤ 500) : allD m = lexD m 0 := by unfold allD; rw [if_neg (by omega)]
set_option maxRecDepth 100000 in
set_option maxHeartbeats 4000000 in
theorem lexblanks_any (hA : ProgAll) (a b r : List UInt8) (hma : a.length ≤ maxLen) (hmb : b.length ≤ maxLen) (hmr : r.length ≤ maxLen) (w : World) : Calls Try.prog 5 #[encStr a, encStr b, encStr r] w fun e w' => e = .returned (.bool true) ∧ Fr [] w w' := by
  have HAW := Lib.hid (fun wx => lexawake_any hA wx)
  have hma' : a.length ≤ 9223372036854775807 := by simpa [maxLen] using hma
  have hmb' : b.length ≤ 9223372036854775807 := by simpa [maxLen] using hmb
  have hmr' : r.length ≤ 9223372036854775807 := by simpa [maxLen] using hmr
  have HPA := Lib.hid hA
  clear hA hma hmb hmr
  by_cases hla : a.length ≤ 500
  · have hda : decide (500 < (a.length : Int)) = false := decide_eq_false (by omega)
    by_cases hlb : b.length ≤ 500
    · have hdb : decide (500 < (b.length : Int)) = false := decide_eq_false (by omega)
      by_cases hlr : r.length ≤ 500
      · have hdr : decide (500 < (r.length : Int)) = false := decide_eq_false (by omega)
        have hpa := fun wx => HPA.out a wx (by omega)
        have hpb := fun wx => HPA.out b wx (by omega)
        have hpz := fun wx => HPA.out (a ++ 32 :: 35 :: (r ++ 10 :: 9 :: 13 :: b)) wx (by simp; omega)
        have hzs : (a ++ 32 :: 35 :: (r ++ 10 :: 9 :: 13 :: b)).length ≤ 65536 := by simp; omega
        have hza : allD (a ++ 32 :: 35 :: (r ++ 10 :: 9 :: 13 :: b)) = lexD (a ++ 32 :: 35 :: (r ++ 10 :: 9 :: 13 :: b)) 0 := by unfold allD; rw [if_neg (by omega)]
        rw [all_small hla] at hpa
        rw [all_small hlb] at hpb
        rw [hza] at hpz
        have hbl := lex_blanks a r b
        have hc1 : ∀ wx : World, (Op.stringOp .add { data := a.toArray } { data := #[32, 35] }).run Try.prog wx = .ok (.string { data := (a ++ [32, 35]).toArray }) wx := fun wx => run_string_add_lists wx a [32, 35] (by omega) (by simp)
        have hc2 : ∀ wx : World, (Op.stringOp .add { data := (a ++ [32, 35]).toArray } { data := r.toArray }).run Try.prog wx = .ok (.string { data := (a ++ [32, 35] ++ r).toArray }) wx := fun wx => run_string_add_lists wx (a ++ [32, 35]) r (by simp; omega) (by omega)
        have hc3 : ∀ wx : World, (Op.stringOp .add { data := (a ++ [32, 35] ++ r).toArray } { data := #[10, 9, 13] }).run Try.prog wx = .ok (.string { data := (a ++ [32, 35] ++ r ++ [10, 9, 13]).toArray }) wx := fun wx => run_string_add_lists wx (a ++ [32, 35] ++ r) [10, 9, 13] (by simp; omega) (by simp)
        have hc4 : ∀ wx : World, (Op.stringOp .add { data := (a ++ [32, 35] ++ r ++ [10, 9, 13]).toArray } { data := b.toArray }).run Try.prog wx = .ok (.string { data := (a ++ 32 :: 35 :: (r ++ 10 :: 9 :: 13 :: b)).toArray }) wx := fun wx => by
          have h := run_string_add_lists (P := Try.prog) wx (a ++ [32, 35] ++ r ++ [10, 9, 13]) b (by simp; omega) (by omega)
          rw [show a ++ [32, 35] ++ r ++ [10, 9, 13] ++ b = a ++ 32 :: 35 :: (r ++ 10 :: 9 :: 13 :: b) by simp] at h
          exact h
        have HC1 := Lib.hid hc1
        have HC2 := Lib.hid hc2
        have HC3 := Lib.hid hc3
        have HC4 := Lib.hid hc4
        have HA := Lib.hid hpa
        have HB := Lib.hid hpb
        have HZ := Lib.hid hpz
        have HBL := Lib.hid hbl
        clear hpa hpb hpz hzs hza hbl hc1 hc2 hc3 hc4
        go_enter Try.func5, Try.ntmps5
        go_wp2_with fail
        go_loopw [7] (AllRel (fun c => !decide (c = 10)) w r) (fun iv _ => r.length - (intOf iv).toNat)
        case atStart => exact ⟨0, Nat.zero_le _, rfl, fun j hj => by omega, rfl⟩
        case round =>
          obtain ⟨k, hk, rfl, hall, rfl⟩ := hrel
          have HAL := Lib.hid hall
          clear hall
          by_cases hkn : k < r.length
          · have hd3 : decide (k < r.length) = true := decide_eq_true hkn
            obtain ⟨d, hd⟩ : ∃ d, d = r[k]'hkn := ⟨_, rfl⟩
            have hix := fun wx => run_index_str (P := Try.prog) wx 9 r (k : Int) k d Try.underlying9 rfl (by rw [hd, List.getElem?_eq_getElem])
            have HD := Lib.hid hd
            clear hd
            obtain ⟨n, hn⟩ : ∃ n, n = d.toNat := ⟨_, rfl⟩
            rw [← hn] at hix
            have HN := Lib.hid hn
            clear hn
            by_cases h10 : n = 10
            · have b10 : ((n : Int) == 10) = true := by rw [h10]; rfl
              clear h10
              go_wp2_with (go_at_call 6; refine (HAW.out _).mono ?_; rintro e wz ⟨rfl, hfz⟩)
              go_ret
              exact ⟨rfl, hfz⟩
            · have b10 : ((n : Int) == 10) = false := by rw [beq_eq_false_iff_ne]; omega
              have HDN := Lib.hid (show (!decide (d = 10)) = true by
                have : d ≠ 10 := fun e => h10 (by rw [HN.out, e]; rfl)
                simp [this])
              clear h10
              go_wp2_with fail
              exact ⟨⟨k + 1, by omega, by go_num, all_next (p := fun c => !decide (c = 10)) HAL.out hkn (show (!decide (r[k]'hkn = 10)) = true by rw [← HD.out]; exact HDN.out), rfl⟩, by simp [intOf]; omega⟩
          · have hd3 : decide (k < r.length) = false := decide_eq_false hkn
            have HN10 := Lib.hid (all_ne (x := 10) (fun j hj => HAL.out j (by omega) hj))
            clear hkn
            go_upto_region 9 with (go_at_call 7; refine (HA.out _).mono ?_; rintro e w1 ⟨v1, rfl, ht1, hf1⟩)
            obtain ⟨a1, c1, rfl, hc1, hm1⟩ := ht1.form
            have HT1 := Lib.hid ht1
            clear ht1
            go_upto_region 10 with (go_at_call 7; refine (HB.out _).mono ?_; rintro e w2 ⟨v2, rfl, ht2, hf2⟩)
            obtain ⟨a2, c2, rfl, hc2, hm2⟩ := ht2.form
            have HT2 := Lib.hid ht2
            have HT12 := Lib.hid (HT1.out.below hf2)
            have HF2 := Lib.hid (hf1.trans hf2 (by simp) (n := []) (by simp))
            clear ht2 hf1 hf2 HT1 HA HB
            obtain ⟨E1, hE1⟩ : ∃ E1, E1 = (lexD a 0).err := ⟨_, rfl⟩
            obtain ⟨E2, hE2⟩ : ∃ E2, E2 = (lexD b 0).err := ⟨_, rfl⟩
            obtain ⟨l1, hl1⟩ : ∃ l1, l1 = (lexD a 0).toks := ⟨_, rfl⟩
            obtain ⟨l2, hl2⟩ : ∃ l2, l2 = (lexD b 0).toks := ⟨_, rfl⟩
            rw [← hl1] at HT12 hc1 ⊢
            rw [← hl2] at HT2 hc2 ⊢
            rw [← hE1]
            rw [← hE2]
            have HE1 := Lib.hid hE1
            have HE2 := Lib.hid hE2
            have HL1 := Lib.hid hl1
            have HL2 := Lib.hid hl2
            clear hE1 hE2 hl1 hl2
            go_wp2_with fail
            go_loopw [14] (AllRel (fun c => !decide (c = 35)) w2 a) (fun iv _ => a.length - (intOf iv).toNat)
            case atStart => exact ⟨0, Nat.zero_le _, rfl, fun j hj => by omega, rfl⟩
            case round =>
              obtain ⟨k2, hk2, rfl, hall, rfl⟩ := hrel
              have HAL2 := Lib.hid hall
              clear hall
              by_cases hkn : k2 < a.length
              · have hd4 : decide (k2 < a.length) = true := decide_eq_true hkn
                obtain ⟨d, hd⟩ : ∃ d, d = a[k2]'hkn := ⟨_, rfl⟩
                have hix := fun wx => run_index_str (P := Try.prog) wx 9 a (k2 : Int) k2 d Try.underlying9 rfl (by rw [hd, List.getElem?_eq_getElem])
                have HD := Lib.hid hd
                clear hd
                obtain ⟨n, hn⟩ : ∃ n, n = d.toNat := ⟨_, rfl⟩
                rw [← hn] at hix
                have HN := Lib.hid hn
                clear hn
                by_cases h35 : n = 35
                · have b35 : ((n : Int) == 35) = true := by rw [h35]; rfl
                  clear h35
                  go_wp2_with (go_at_call 6; refine (HAW.out _).mono ?_; rintro e wz ⟨rfl, hfz⟩)
                  go_ret
                  exact ⟨rfl, HF2.out.trans hfz (by simp) (by simp)⟩
                · have b35 : ((n : Int) == 35) = false := by rw [beq_eq_false_iff_ne]; omega
                  have HDN := Lib.hid (show (!decide (d = 35)) = true by
                    have : d ≠ 35 := fun e => h35 (by rw [HN.out, e]; rfl)
                    simp [this])
                  clear h35
                  go_wp2_with fail
                  exact ⟨⟨k2 + 1, by omega, by go_num, all_next (p := fun c => !decide (c = 35)) HAL2.out hkn (show (!decide (a[k2]'hkn = 35)) = true by rw [← HD.out]; exact HDN.out), rfl⟩, by simp [intOf]; omega⟩
              · have hd4 : decide (k2 < a.length) = false := decide_eq_false hkn
                have HN35 := Lib.hid (all_ne (x := 35) (fun j hj => HAL2.out j (by omega) hj))
                clear hkn
                by_cases he1 : E1 = 0
                · have q1 : (E1 == 0) = true := by rw [he1]; rfl
                  have r1 : (E1 != 0) = false := by rw [he1]; rfl
                  by_cases he2 : E2 = 0
                  · have q2 : (E2 == 0) = true := by rw [he2]; rfl
                    have r2 : (E2 != 0) = false := by rw [he2]; rfl
                    have hz := HZ.out
                    rw [HBL.out (by rw [← HE1.out]; exact he1) (by rw [← HE2.out]; exact he2) HN35.out HN10.out, ← HL1.out, ← HL2.out] at hz
                    have hcc1 := HC1.out
                    have hcc2 := HC2.out
                    have hcc3 := HC3.out
                    have hcc4 := HC4.out
                    unfold encStr at hz
                    obtain ⟨z1, hz1⟩ : ∃ z1, z1 = (a ++ [32, 35]).toArray := ⟨_, rfl⟩
                    obtain ⟨z2, hz2⟩ : ∃ z2, z2 = (a ++ [32, 35] ++ r).toArray := ⟨_, rfl⟩
                    obtain ⟨z3, hz3⟩ : ∃ z3, z3 = (a ++ [32, 35] ++ r ++ [10, 9, 13]).toArray := ⟨_, rfl⟩
                    obtain ⟨z4, hz4⟩ : ∃ z4, z4 = (a ++ 32 :: 35 :: (r ++ 10 :: 9 :: 13 :: b)).toArray := ⟨_, rfl⟩
                    rw [← hz1] at hcc1 hcc2
                    rw [← hz2] at hcc2 hcc3
                    rw [← hz3] at hcc3 hcc4
                    rw [← hz4] at hcc4 hz
                    have HZZ := Lib.hid hz
                    clear hz he1 he2 HZ HBL hz1 hz2 hz3 hz4 HC1 HC2 HC3 HC4
                    go_upto_region 18 with (first
                      | (go_at_call 7; refine (HZZ.out _).mono ?_; rintro e w3 ⟨v3, rfl, ht3, hf3⟩))
                    have hlen1 := lex_len (r := a) (p := 0)
                    have hlen2 := lex_len (r := b) (p := 0)
                    rw [← HL1.out] at hlen1
                    rw [← HL2.out] at hlen2
                    have hat2 := hlen2.2
                    have hn1 := hlen1.1
                    have hn2 := hlen2.1
                    have HAT2 := Lib.hid hat2
                    obtain ⟨S, hS⟩ : ∃ S, S = a.length + r.length + 5 := ⟨_, rfl⟩
                    have hLL : (l1 ++ l2.map (shiftT S)).length = l1.length + l2.length := by simp
                    rw [← hS] at ht3
                    obtain ⟨a3, c3, rfl, hc3, hm3⟩ := ht3.form
                    rw [hLL] at ht3 hc3
                    simp only [← hS, hLL]
                    have HT3 := Lib.hid ht3
                    have HT13 := Lib.hid (HT12.out.below hf3)
                    have HT23 := Lib.hid (HT2.out.below hf3)
                    have HF3 := Lib.hid (HF2.out.trans hf3 (by simp) (n := []) (by simp))
                    have HS := Lib.hid hS
                    obtain ⟨n1, hn1e⟩ : ∃ n1, n1 = l1.length := ⟨_, rfl⟩
                    obtain ⟨n2, hn2e⟩ : ∃ n2, n2 = l2.length := ⟨_, rfl⟩
                    have HN1 := Lib.hid hn1e
                    have HN2 := Lib.hid hn2e
                    rw [← hn1e, ← hn2e] at HT3
                    rw [← hn1e] at HT13 hc1 hn1
                    rw [← hn2e] at HT23 hc2 hn2
                    rw [← hn1e, ← hn2e] at hc3 ⊢
                    have x1 : (((n1 + n2 : Nat) : Int) != (n1 : Int) + (n2 : Int)) = false := by simp
                    have x2 : ((n1 : Int) + (n2 : Int) != (n1 : Int) + (n2 : Int)) = false := by simp
                    clear hlen1 hlen2 hat2 hS hLL ht3 hf3 hcc1 hcc2 hcc3 hcc4 hn1e hn2e HF2 HT2 HT12 q1 q2 r1 r2
                    go_wp2_with fail
                    go_loopw [18] (LxRel w3 (n1 + n2)) (fun iv _ => (n1 + n2) - (intOf iv).toNat)
                    case atStart => exact ⟨0, Nat.zero_le _, rfl, Fr.refl _ _⟩
                    case round =>
                      obtain ⟨x, hx, rfl, hf⟩ := hrel
                      have HF := Lib.hid hf
                      by_cases hxn : x < n1 + n2
                      · have hd5 : decide (x < n1 + n2) = true := decide_eq_true hxn
                        have hd5' : decide ((x : Int) < (n1 : Int) + (n2 : Int)) = true := decide_eq_true (by omega)
                        obtain ⟨b3, off3, rfl, k0, k1, k2⟩ := tok_cells (HT3.out.below hf) x (by rw [List.length_append, List.length_map, ← HN1.out, ← HN2.out]; exact hxn)
                        obtain ⟨⟨tk, tt, ta⟩, hte⟩ : ∃ t, t = (l1 ++ l2.map (shiftT S))[x]'(by rw [List.length_append, List.length_map, ← HN1.out, ← HN2.out]; exact hxn) := ⟨_, rfl⟩
                        rw [← hte] at k0 k1 k2
                        simp only at k0 k1 k2
                        have HTE := Lib.hid hte
                        clear hte
                        have hfa := Fr.alloc wr (.cells #[.int .i64 tk, encStr tt, .int .i64 (ta : Int)] 31)
                        have hba := heap_alloc_new wr (.cells #[.int .i64 tk, encStr tt, .int .i64 (ta : Int)] 31)
                        obtain ⟨w6, hw6⟩ : ∃ w6, w6 = wr.alloc (.cells #[.int .i64 tk, encStr tt, .int .i64 (ta : Int)] 31) := ⟨_, rfl⟩
                        obtain ⟨q, hq⟩ : ∃ q, q = wr.heap.size := ⟨_, rfl⟩
                        rw [← hw6] at hfa hba
                        rw [← hq] at hba
                        have HW6 := Lib.hid hw6
                        have HQ := Lib.hid hq
                        have HFA := Lib.hid hfa
                        have HBA := Lib.hid hba
                        clear hw6 hq hfa hba
                        go_upto_region 24 with fail
                        rw [← HW6.out, ← HQ.out]
                        obtain ⟨y0, y1, y2, -, -, -⟩ := three_of_heap HBA.out
                        have hf6 := hf.trans HFA.out (by simp) (n := []) (by simp)
                        have HF6 := Lib.hid hf6
                        clear k0 k1 k2 HW6 HQ hf
                        by_cases hx1 : x < n1
                        · have hd6 : decide (x < n1) = true := decide_eq_true hx1
                          have hd7 : decide (n1 ≤ x) = false := decide_eq_false (by omega)
                          obtain ⟨b1, off1, rfl, m0, m1, m2⟩ := tok_cells (HT13.out.below hf6) x (by rw [← HN1.out]; exact hx1)
                          have hte := HTE.out
                          rw [List.getElem_append_left (by rw [← HN1.out]; exact hx1)] at hte
                          rw [← hte] at m0 m1 m2
                          simp only at m0 m1 m2
                          have z1 : ((tk : Int) != tk) = false := by simp
                          have z2 : ((ta : Int) != (ta : Int)) = false := by simp
                          clear hte hf6
                          go_quiet (fail)
                          go_upto_region 26 with fail
                          go_quiet (fail)
                          go_wp2_with fail
                          exact ⟨⟨x + 1, by omega, by go_num, HF6.out.andDrewN _⟩, by simp [intOf]; omega⟩
                        · obtain ⟨j, hj⟩ : ∃ j, x = n1 + j := ⟨x - n1, by omega⟩
                          have hd6 : decide (x < n1) = false := decide_eq_false hx1
                          have hd7 : decide (n1 ≤ x) = true := decide_eq_true (by omega)
                          have hjl : j < l2.length := by rw [← HN2.out]; omega
                          have hix : (x : Int) - (n1 : Int) = (j : Int) := by omega
                          obtain ⟨b2, off2, rfl, m0, m1, m2⟩ := tok_cells (HT23.out.below hf6) j hjl
                          have hte := HTE.out
                          rw [List.getElem_append_right (by rw [← HN1.out]; omega), List.getElem_map] at hte
                          have hxj : x - l1.length = j := by rw [← HN1.out]; omega
                          simp only [hxj] at hte
                          obtain ⟨⟨uk, ut, ua⟩, hue⟩ : ∃ t, t = l2[j]'hjl := ⟨_, rfl⟩
                          have hual := HAT2.out _ (List.getElem_mem hjl)
                          rw [← hue] at hte m0 m1 m2 hual
                          simp only [shiftT, TokD.mk.injEq] at hte m0 m1 m2 hual
                          obtain ⟨rfl, rfl, hta⟩ := hte
                          have z1 : ((tk : Int) != tk) = false := by simp
                          have z2 : ((ta : Int) != (ua : Int) + (a.length : Int) + (r.length : Int) + 5) = false := by
                            rw [hta, HS.out]
                            simp
                            omega
                          have hjn : j < n2 := by omega
                          clear hta hue hf6 hx1 hxj hj
                          go_quiet (fail)
                          go_upto_region 26 with fail
                          go_quiet (fail)
                          go_wp2_with fail
                          exact ⟨⟨x + 1, by omega, by go_num, HF6.out.andDrewN _⟩, by simp [intOf]; omega⟩
                      · have hd5 : decide (x < n1 + n2) = false := decide_eq_false hxn
                        have hd5' : decide ((x : Int) < (n1 : Int) + (n2 : Int)) = false := decide_eq_false (by omega)
                        clear hf
                        go_wp2_with (go_at_call 6; refine (HAW.out _).mono ?_; rintro e wz ⟨rfl, hfz⟩)
                        go_ret
                        exact ⟨rfl, (HF3.out.trans HF.out (by simp) (n := []) (by simp)).trans hfz (by simp) (by simp)⟩
                  · have q2 : (E2 == 0) = false := by rw [beq_eq_false_iff_ne]; exact he2
                    have r2 : (E2 != 0) = true := by rw [bne_iff_ne]; exact he2
                    clear he1 he2
                    go_wp2_with (go_at_call 6; refine (HAW.out _).mono ?_; rintro e wz ⟨rfl, hfz⟩)
                    go_ret
                    exact ⟨rfl, HF2.out.trans hfz (by simp) (by simp)⟩
                · have q1 : (E1 == 0) = false := by rw [beq_eq_false_iff_ne]; exact he1
                  have r1 : (E1 != 0) = true := by rw [bne_iff_ne]; exact he1
                  clear he1
                  go_wp2_with (go_at_call 6; refine (HAW.out _).mono ?_; rintro e wz ⟨rfl, hfz⟩)
                  go_ret
                  exact ⟨rfl, HF2.out.trans hfz (by simp) (by simp)⟩
      · have hdr : decide (500 < (r.length : Int)) = true := decide_eq_true (by omega)
        clear HPA
        go_enter Try.func5, Try.ntmps5
        go_wp2_with (go_at_call 6; refine (HAW.out _).mono ?_; rintro e wz ⟨rfl, hfz⟩)
        go_ret
        exact ⟨rfl, hfz⟩
    · have hdb : decide (500 < (b.length : Int)) = true := decide_eq_true (by omega)
      clear HPA
      go_enter Try.func5, Try.ntmps5
      go_wp2_with (go_at_call 6; refine (HAW.out _).mono ?_; rintro e wz ⟨rfl, hfz⟩)
      go_ret
      exact ⟨rfl, hfz⟩
  · have hda : decide (500 < (a.length : Int)) = true := decide_eq_true (by omega)
    clear HPA
    go_enter Try.func5, Try.ntmps5
    go_wp2_with (go_at_call 6; refine (HAW.out _).mono ?_; rintro e wz ⟨rfl, hfz⟩)
    go_ret
    exact ⟨rfl, hfz⟩
end Go.Proofs.Yteeojnbmkapjiaa
