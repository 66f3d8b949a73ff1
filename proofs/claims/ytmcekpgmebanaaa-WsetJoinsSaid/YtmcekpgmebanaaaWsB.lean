/- Layer 19, the document's: Put, Of, Cat. Written by wip/tools/gen_wsb.py. -/
import Derived.Test.YtmcekpgmebanaaaWs
import Derived.Test.YtmcekpgmebanaaaDirLs
import Derived.Test.YtmcekpgmebanaaaDt
set_option linter.unusedVariables false
set_option linter.unusedSimpArgs false
namespace Go.Proofs.Ytmcekpgmebanaaa
open Go.RowKit

theorem infoStrS : (Try.prog.info? 9).map (fun i => (i.zero, i.size, i.bytes)) = some (some (.string ⟨#[]⟩), 1, 16) := by kernel_rfl
theorem strs_of_owns {w : World} {base n : Nat} {e : TypeId} {v : Value} {cs : List Value} {l : Words} (h : w.ownsRow base e 1 v n cs) (hcs : cs = l.map encStr) : strsAt w v l := by
  have h1 : cs.length = n := by have := h.1; omega
  subst hcs
  subst h1
  exact cellsAt_of_owns h
def PutRel (w : World) (l : Words) (x : List UInt8) (n : Nat) (iv : Value) (wx : World) : Prop := ∃ p : Nat, p ≤ n ∧ iv = .int .i64 (p : Int) ∧ placeW l x n = placeW l x p ∧ Fr [] w wx
set_option maxRecDepth 100000 in
set_option maxHeartbeats 4000000 in
theorem rput_any (l : Words) (x : List UInt8) (v : Value) (w : World) (h : strsAt w v l) (hl : l.length ≤ 1000000) (hs : ∀ y ∈ l, y.length ≤ maxLen) (hx : x.length ≤ maxLen) :
    Calls Try.prog 26 #[v, encStr x] w (GotS (putW l x) w) := by
  obtain ⟨iS, hiS, hS0, hS1, hS2⟩ := info_parts infoStrS
  have HHAS := Lib.hid (rhas_any l x v w h)
  by_cases hm : x ∈ l
  · rw [decide_eq_true hm] at HHAS
    rw [show putW l x = l from if_pos hm]
    have HL := Lib.hid h
    clear h hs hx hm
    go_enter Try.func26, Try.ntmps26
    go_wp2_with (go_at_call 16; refine HHAS.out.mono ?_; rintro e w1 ⟨rfl, rfl⟩)
    go_ret
    exact ⟨_, rfl, HL.out, Fr.refl _ _⟩
  · rw [decide_eq_false hm] at HHAS
    obtain ⟨a0, c0, rfl, hle, hmx⟩ := h.form
    have HL := Lib.hid h
    have HS := Lib.hid hs
    have HPUT := Lib.hid (show putW l x = l.take (placeW l x l.length) ++ [x] ++ l.drop (placeW l x l.length) from if_neg hm)
    have hxm : x.length ≤ maxLen := hx
    have HXM := Lib.hid hxm
    obtain ⟨n, hn⟩ : ∃ n, n = l.length := ⟨_, rfl⟩
    rw [← hn] at hle HL HPUT HHAS hl ⊢
    have HN := Lib.hid hn
    clear h hs hx hm hxm hn
    go_enter Try.func26, Try.ntmps26
    go_wp2_with (go_at_call 16; refine HHAS.out.mono ?_; rintro e w1 ⟨rfl, rfl⟩)
    go_loopw [5] (PutRel w l x n) (fun i _ => (intOf i).toNat)
    case atStart => exact ⟨n, Nat.le_refl _, rfl, rfl, Fr.refl _ _⟩
    case round =>
      obtain ⟨p, hp, rfl, hpl, hfr⟩ := hrel
      have HFR := Lib.hid hfr
      have HPL0 := Lib.hid hpl
      clear hpl
      by_cases hp0 : p = 0
      · have hd : decide (0 < p) = false := decide_eq_false (by omega)
        have HFX := Lib.hid HFR.out
        have HP0 := Lib.hid (show placeW l x n = p by rw [HPL0.out, hp0]; rfl)
        have HPN := Lib.hid hp
        clear hp0 hfr hp HPL0
        have HPL := Lib.hid (show (l.take p) ++ [x] ++ l.drop p = putW l x by rw [HPUT.out, HP0.out])
        go_upto_region 6 with fail
        have hown0 : (wr.alloc (.cells #[] 9)).ownsRow w.heap.size 9 1 (.slice (some ⟨wr.heap.size, 0, none⟩) 0 0) 0 [] := owns_of_heap (cur := []) (heap_alloc_new _ _) HFX.out.size rfl (Nat.le_refl _) (by decide) rfl
        have HO0 := Lib.hid hown0
        have HZA := Lib.hid (HFX.out.trans (Fr.alloc wr (.cells #[] 9)) (by simp) (n := []) (by simp))
        clear hown0
        have HSA := Lib.hid (fun wx (hf : Fr [] w wx) => cellsAt.take (n := p) (HL.out.below hf) (by rw [List.length_map]; have := HPN.out; have := HN.out; omega))
        have HSB := Lib.hid (fun wx (hf : Fr [] w wx) (hcp : ¬ c0 = p) => cellsAt.drop (n := p) (HL.out.below hf) (by rw [List.length_map]; have := HPN.out; have := HN.out; omega))
        have HL1 := Lib.hid (show ((l.map encStr).take p).length = p by rw [List.length_take, List.length_map]; have := HPN.out; have := HN.out; omega)
        have HL2 := Lib.hid (show ((l.map encStr).drop p).length = n - p by rw [List.length_drop, List.length_map]; have := HN.out; omega)
        have HU1 := Lib.hid (show ∀ u ∈ (l.map encStr).take p, u.oneCell' = true from fun u hu => by obtain ⟨y, -, rfl⟩ := List.mem_map.1 (List.mem_of_mem_take hu); rfl)
        have HU2 := Lib.hid (show ∀ u ∈ (l.map encStr).drop p, u.oneCell' = true from fun u hu => by obtain ⟨y, -, rfl⟩ := List.mem_map.1 (List.mem_of_mem_drop hu); rfl)
        have hpn' : p ≤ n := HPN.out
        go_upto_region 7 with (at_builtin; refine wpL_appendC rfl _ _ 22 rfl w.heap.size 9 iS (.string ⟨#[]⟩) 16 Try.underlying22 hiS hS0 hS1 hS2 rfl _ 0 _ rfl HO0.out (.slice a0 p c0) _ rfl (HSA.out _ HZA.out) HU1.out (by rw [HL1.out]; omega) (by rw [HL1.out]; simp only [maxLen]; omega) HZA.out.size ?_; intro v8 w8 hown8 hf8; have HF8 := Lib.hid (Fr.own HZA.out HO0.out hf8); rw [HL1.out, Nat.zero_add] at hown8; have HO8 := Lib.hid hown8; obtain ⟨a8, c8, rfl, hc8, hm8⟩ := owns_slice hown8; clear hown8 hf8)
        go_upto_region 8 with (at_builtin; refine wpL_append1 rfl _ _ 22 rfl w.heap.size 9 iS (.string ⟨#[]⟩) 16 Try.underlying22 hiS hS0 hS1 hS2 rfl _ p _ rfl HO8.out (encStr x) rfl rfl (by omega) (by simp only [maxLen]; omega) HF8.out.size ?_; intro v9 w9 hown9 hf9 _; have HF9 := Lib.hid (Fr.own HF8.out HO8.out hf9); have HO9 := Lib.hid hown9; obtain ⟨a9, c9, rfl, hc9, hm9⟩ := owns_slice hown9; clear hown9 hf9)
        by_cases hcp : c0 = p
        · have hnp : n = p := by omega
          subst hcp
          have HSB2 := Lib.hid (show ∀ wx, cellsAt wx (.slice a0 0 0) [] from fun wx => cellsAt.none a0)
          have HD0 := Lib.hid (show (l.map encStr).drop c0 = [] from List.drop_eq_nil_of_le (by rw [List.length_map]; have := HN.out; omega))
          have hn' := hnp
          subst hnp
          go_wp2_with (at_builtin; refine wpL_appendC rfl _ _ 22 rfl w.heap.size 9 iS (.string ⟨#[]⟩) 16 Try.underlying22 hiS hS0 hS1 hS2 rfl _ (n + 1) _ rfl HO9.out (.slice a0 0 0) [] rfl (HSB2.out _) (by simp) (by simp only [List.length_nil]; omega) (by simp only [List.length_nil, maxLen]; omega) HF9.out.size ?_; intro v10 w10 hown10 hf10; have HF10 := Lib.hid (Fr.own HF9.out HO9.out hf10); have HO10 := Lib.hid hown10; clear hown10 hf10)
          go_ret
          refine ⟨_, rfl, strs_of_owns HO10.out ?_, HF10.out⟩
          rw [← HPL.out]
          have hd0 : l.drop n = [] := List.drop_eq_nil_of_le (by rw [HN.out]; exact Nat.le_refl _)
          rw [hd0]
          simp
        · go_wp2_with (at_builtin; refine wpL_appendC rfl _ _ 22 rfl w.heap.size 9 iS (.string ⟨#[]⟩) 16 Try.underlying22 hiS hS0 hS1 hS2 rfl _ (p + 1) _ rfl HO9.out (.slice (a0.map fun x => x.add p) (n - p) (c0 - p)) _ rfl (by rw [HN.out, ← List.length_map (f := encStr)]; exact HSB.out _ HF9.out hcp) HU2.out (by rw [HL2.out]; omega) (by rw [HL2.out]; simp only [maxLen]; omega) HF9.out.size ?_; intro v10 w10 hown10 hf10; have HF10 := Lib.hid (Fr.own HF9.out HO9.out hf10); have HO10 := Lib.hid hown10; clear hown10 hf10)
          go_ret
          refine ⟨_, rfl, strs_of_owns HO10.out ?_, HF10.out⟩
          rw [← HPL.out]
          simp

      · obtain ⟨q, hq⟩ : ∃ q, p = q + 1 := ⟨p - 1, by omega⟩
        have hd : decide (0 < p) = true := decide_eq_true (by omega)
        have hql : q < l.length := by rw [← HN.out]; omega
        obtain ⟨b, off, rfl, hc⟩ := str_cell (HL.out.below hfr) q hql
        have hym := HS.out _ (List.getElem_mem hql)
        have hgd : l.getD q [] = l[q]'hql := by rw [List.getD_eq_getElem?_getD, List.getElem?_eq_getElem hql]; rfl
        obtain ⟨y, hy⟩ : ∃ y, y = l[q]'hql := ⟨_, rfl⟩
        rw [← hy] at hc hym hgd
        have hstep : placeW l x (q + 1) = if lessB x y = true then placeW l x q else q + 1 := by rw [← hgd]; rfl
        obtain ⟨L, hL⟩ : ∃ L, L = lessB x y := ⟨_, rfl⟩
        have HLE := Lib.hid (fun wx => rless_any x y wx HXM.out hym)
        rw [← hL] at HLE hstep
        have HPQ := Lib.hid hq
        have HST := Lib.hid hstep
        have hpq : (p : Int) - 1 = (q : Int) := by omega
        have hp1 : 1 ≤ p := by omega
        have hqn : q < n := by omega
        clear hy hL hym hgd hstep hql hfr hp0 hq
        cases L with
        | true =>
          go_wp2_with (go_at_call 27; refine (HLE.out _).mono ?_; rintro e w7 ⟨rfl, hf7⟩)
          go_roundw
          case rel => exact ⟨q, by omega, rfl, by rw [HPL0.out, HPQ.out, HST.out]; rfl, HFR.out.trans hf7 (by simp) (by simp)⟩
          case measure => have := HPQ.out; simp [intOf]; omega
        | false =>
          have HP0 := Lib.hid (show placeW l x n = p by rw [HPL0.out, HPQ.out, HST.out, if_neg (by decide)])
          go_upto_region 6 with (go_at_call 27; refine (HLE.out _).mono ?_; rintro e w7 ⟨rfl, hf7⟩)
          have HFX := Lib.hid (HFR.out.trans hf7 (by simp) (n := []) (by simp))
          have HPN := Lib.hid hp
          clear hf7 hpq hp HPL0
          have HPL := Lib.hid (show (l.take p) ++ [x] ++ l.drop p = putW l x by rw [HPUT.out, HP0.out])
          have hown0 : (w7.alloc (.cells #[] 9)).ownsRow w.heap.size 9 1 (.slice (some ⟨w7.heap.size, 0, none⟩) 0 0) 0 [] := owns_of_heap (cur := []) (heap_alloc_new _ _) HFX.out.size rfl (Nat.le_refl _) (by decide) rfl
          have HO0 := Lib.hid hown0
          have HZA := Lib.hid (HFX.out.trans (Fr.alloc w7 (.cells #[] 9)) (by simp) (n := []) (by simp))
          clear hown0
          have HSA := Lib.hid (fun wx (hf : Fr [] w wx) => cellsAt.take (n := p) (HL.out.below hf) (by rw [List.length_map]; have := HPN.out; have := HN.out; omega))
          have HSB := Lib.hid (fun wx (hf : Fr [] w wx) (hcp : ¬ c0 = p) => cellsAt.drop (n := p) (HL.out.below hf) (by rw [List.length_map]; have := HPN.out; have := HN.out; omega))
          have HL1 := Lib.hid (show ((l.map encStr).take p).length = p by rw [List.length_take, List.length_map]; have := HPN.out; have := HN.out; omega)
          have HL2 := Lib.hid (show ((l.map encStr).drop p).length = n - p by rw [List.length_drop, List.length_map]; have := HN.out; omega)
          have HU1 := Lib.hid (show ∀ u ∈ (l.map encStr).take p, u.oneCell' = true from fun u hu => by obtain ⟨y, -, rfl⟩ := List.mem_map.1 (List.mem_of_mem_take hu); rfl)
          have HU2 := Lib.hid (show ∀ u ∈ (l.map encStr).drop p, u.oneCell' = true from fun u hu => by obtain ⟨y, -, rfl⟩ := List.mem_map.1 (List.mem_of_mem_drop hu); rfl)
          have hpn' : p ≤ n := HPN.out
          go_upto_region 7 with (at_builtin; refine wpL_appendC rfl _ _ 22 rfl w.heap.size 9 iS (.string ⟨#[]⟩) 16 Try.underlying22 hiS hS0 hS1 hS2 rfl _ 0 _ rfl HO0.out (.slice (some ⟨b, off, none⟩) p c0) _ rfl (HSA.out _ HZA.out) HU1.out (by rw [HL1.out]; omega) (by rw [HL1.out]; simp only [maxLen]; omega) HZA.out.size ?_; intro v8 w8 hown8 hf8; have HF8 := Lib.hid (Fr.own HZA.out HO0.out hf8); rw [HL1.out, Nat.zero_add] at hown8; have HO8 := Lib.hid hown8; obtain ⟨a8, c8, rfl, hc8, hm8⟩ := owns_slice hown8; clear hown8 hf8)
          go_upto_region 8 with (at_builtin; refine wpL_append1 rfl _ _ 22 rfl w.heap.size 9 iS (.string ⟨#[]⟩) 16 Try.underlying22 hiS hS0 hS1 hS2 rfl _ p _ rfl HO8.out (encStr x) rfl rfl (by omega) (by simp only [maxLen]; omega) HF8.out.size ?_; intro v9 w9 hown9 hf9 _; have HF9 := Lib.hid (Fr.own HF8.out HO8.out hf9); have HO9 := Lib.hid hown9; obtain ⟨a9, c9, rfl, hc9, hm9⟩ := owns_slice hown9; clear hown9 hf9)
          by_cases hcp : c0 = p
          · have hnp : n = p := by omega
            subst hcp
            have HSB2 := Lib.hid (show ∀ wx, cellsAt wx (.slice (some ⟨b, off, none⟩) 0 0) [] from fun wx => cellsAt.none (some ⟨b, off, none⟩))
            have HD0 := Lib.hid (show (l.map encStr).drop c0 = [] from List.drop_eq_nil_of_le (by rw [List.length_map]; have := HN.out; omega))
            have hn' := hnp
            subst hnp
            go_wp2_with (at_builtin; refine wpL_appendC rfl _ _ 22 rfl w.heap.size 9 iS (.string ⟨#[]⟩) 16 Try.underlying22 hiS hS0 hS1 hS2 rfl _ (n + 1) _ rfl HO9.out (.slice (some ⟨b, off, none⟩) 0 0) [] rfl (HSB2.out _) (by simp) (by simp only [List.length_nil]; omega) (by simp only [List.length_nil, maxLen]; omega) HF9.out.size ?_; intro v10 w10 hown10 hf10; have HF10 := Lib.hid (Fr.own HF9.out HO9.out hf10); have HO10 := Lib.hid hown10; clear hown10 hf10)
            go_ret
            refine ⟨_, rfl, strs_of_owns HO10.out ?_, HF10.out⟩
            rw [← HPL.out]
            have hd0 : l.drop n = [] := List.drop_eq_nil_of_le (by rw [HN.out]; exact Nat.le_refl _)
            rw [hd0]
            simp
          · have HSB3 := Lib.hid (show ∀ wx, Fr [] w wx → ¬ c0 = p → cellsAt wx (.slice (some ⟨b, off + p, none⟩) (n - p) (c0 - p)) ((l.map encStr).drop p) from fun wx hf hc => by
              have h := HSB.out wx hf hc
              rw [List.length_map, ← HN.out] at h
              rw [show (some (⟨b, off, none⟩ : Addr)).map (fun x => x.add p) = some ⟨b, off + p, none⟩ from congrArg some (by unfold Addr.add; split <;> simp_all)] at h
              exact h)
            go_wp2_with (at_builtin; refine wpL_appendC rfl _ _ 22 rfl w.heap.size 9 iS (.string ⟨#[]⟩) 16 Try.underlying22 hiS hS0 hS1 hS2 rfl _ (p + 1) _ rfl HO9.out (.slice (some ⟨b, off + p, none⟩) (n - p) (c0 - p)) _ rfl (by exact HSB3.out _ HF9.out hcp) HU2.out (by rw [HL2.out]; omega) (by rw [HL2.out]; simp only [maxLen]; omega) HF9.out.size ?_; intro v10 w10 hown10 hf10; have HF10 := Lib.hid (Fr.own HF9.out HO9.out hf10); have HO10 := Lib.hid hown10; clear hown10 hf10)
            go_ret
            refine ⟨_, rfl, strs_of_owns HO10.out ?_, HF10.out⟩
            rw [← HPL.out]
            simp

end Go.Proofs.Ytmcekpgmebanaaa
