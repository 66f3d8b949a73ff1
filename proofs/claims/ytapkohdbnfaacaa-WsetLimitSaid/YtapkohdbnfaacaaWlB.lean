/- The program's sets of words (layer 19): the tally counts the words of a list. -/
import Derived.Test.YtapkohdbnfaacaaWlA
import Derived.Test.YtapkohdbnfaacaaRowStr
import Derived.Deep.DeepCutAuto
set_option linter.unusedVariables false
set_option linter.unusedSimpArgs false
namespace Go.Proofs.Ytapkohdbnfaacaa
open Go.RowKit Go.Maps

def AddRel (w : World) (base p mb t : Nat) (ws l : Words) (fv : Value) (iv : Value) (wx : World) : Prop :=
  ∃ k : Nat, k ≤ l.length ∧ iv = .int .i64 (k : Int) ∧ TyGot w base p mb t (ws ++ l.take k) fv wx
theorem tyB_sub {p mb : Nat} {fv fv' : Value} {n : Nat} (h : fv'.ownBlock = fv.ownBlock ∨ ∃ k, fv'.ownBlock = some k ∧ n ≤ k) : ∀ i ∈ tyB p mb fv', i ∈ tyB p mb fv ∨ n ≤ i := by
  intro i hi
  unfold tyB at hi ⊢
  rcases List.mem_cons.1 hi with rfl | hi
  · exact .inl (by simp)
  rcases List.mem_cons.1 hi with rfl | hi
  · exact .inl (by simp)
  rcases h with h | ⟨k, h, hk⟩
  · rw [h] at hi; exact .inl (by simp [hi])
  · rw [h] at hi
    simp at hi
    exact .inr (by omega)
set_option maxRecDepth 100000 in
set_option maxHeartbeats 4000000 in
theorem padd_any (base p mb t : Nat) (ws l : Words) (fv v : Value) (w : World) (ht : 0 < t) (ht2 : t ≤ 1000) (h : TyAt w base p mb t ws fv) (hst : ∀ w', Fr (tyB p mb fv) w w' → strsAt w' v l) (hb : base ≤ w.heap.size) (hn : ws.length + l.length ≤ 2000000000) (hx : ∀ x ∈ l, x.length ≤ maxLen) :
    Calls Try.prog 31 #[.pointer (some ⟨p, 0, none⟩), v] w fun e w' => e = .returned (.tuple #[]) ∧ TyGot w base p mb t (ws ++ l) fv w' := by
  obtain ⟨iS, hiS, hS0, hS1, hS2⟩ := info_parts infoStrW
  obtain ⟨a0, c0, rfl, hc0, hm0⟩ := (hst w (Fr.refl _ _)).form
  have HST := Lib.hid hst
  have HX := Lib.hid hx
  have H0 := Lib.hid (TyGot.refl h)
  clear h hst hx
  go_enter Try.func31, Try.ntmps31
  go_wp2_with fail
  go_loopw [8] (AddRel w base p mb t ws l fv) (fun iv _ => l.length - (intOf iv).toNat)
  case atStart => exact ⟨0, Nat.zero_le _, rfl, by rw [List.take_zero, List.append_nil]; exact H0.out⟩
  case round =>
    obtain ⟨k, hk, rfl, hgot⟩ := hrel
    by_cases hkn : k < l.length
    · have hd1 : decide (k < l.length) = true := decide_eq_true hkn
      obtain ⟨fr, hT, hF, hsub⟩ := hgot
      obtain ⟨b, off, rfl, hc⟩ := str_cell (HST.out wr hF) k hkn
      have hxl := HX.out _ (List.getElem_mem hkn)
      have hkey := keyOfS (l[k]'hkn) hxl
      have htk : l.take (k + 1) = l.take k ++ [l[k]'hkn] := List.take_succ_eq_append_getElem hkn
      obtain ⟨x, hxe⟩ : ∃ x, x = l[k]'hkn := ⟨_, rfl⟩
      rw [← hxe] at hc hkey hxl htk
      obtain ⟨us, hus⟩ : ∃ us, us = ws ++ l.take k := ⟨_, rfl⟩
      have hul : us.length ≤ 1999999999 := by rw [hus, List.length_append, List.length_take]; omega
      have hnx : ws ++ l.take (k + 1) = us ++ [x] := by rw [htk, ← List.append_assoc, hus]
      rw [← hus] at hT
      obtain ⟨C, hC⟩ : ∃ C, C = us.count x := ⟨_, rfl⟩
      have hCl : C ≤ 1999999999 := by rw [hC]; exact Nat.le_trans List.count_le_length hul
      have hat := cntD_at us x
      have hat2 : ((cntD us).put (.string x) (.lit (.int .i64 ((C : Int) + 1)))).atKey (.string x) (.lit (.int .i64 0)) = .lit (.int .i64 ((C : Int) + 1)) := atKey_put_same (cntR_tidy us.reverse).isMap (show WideAt.IsKeyLit (.string x) from trivial) _ _
      have hsn : cntD (us ++ [x]) = (cntD us).put (.string x) (.lit (.int .i64 ((C : Int) + 1))) := by rw [cntD_snoc, ← hC]; rfl
      have hwf : (Lit.int .i64 ((C : Int) + 1)).wf = true := wf_nat (k := C + 1) (by omega)
      rw [← hC] at hat
      obtain ⟨c1, c2, c3, f1, f2, f3⟩ := three_of_heap hT.obj
      have hbr : base ≤ wr.heap.size := by have := hF.size; omega
      have HKY := Lib.hid hkey
      have HXL := Lib.hid hxl
      have HNX := Lib.hid hnx
      have HC := Lib.hid hC
      have HAT := Lib.hid hat
      have HAT2 := Lib.hid hat2
      have HSN := Lib.hid hsn
      have HWF := Lib.hid hwf
      have HT := Lib.hid hT
      have HF := Lib.hid hF
      have HSUB := Lib.hid hsub
      have HPM := Lib.hid hT.pm
      have HPF := Lib.hid hT.pf
      have HMF := Lib.hid hT.mf
      have HM := Lib.hid hT.map
      have HUL := Lib.hid hul
      have hdt : (((C : Int) + 1) == (t : Int)) = true ∨ (((C : Int) + 1) == (t : Int)) = false := by cases h : (((C : Int) + 1) == (t : Int)) <;> simp
      clear hkey htk hxe hus hnx hC hat hat2 hsn hwf hT hF hsub hul hxl
      go_upto_region 4 with (first
        | (at_lookup; refine wpL_lookN rfl _ _ 51 rfl 9 3 lawKS Try.underlying51 Try.underlying3 (zeroKI _) mb _ _ rfl HM.out _ _ rfl HKY.out _ HAT.out ?_)
        | (at_mapUpdate; refine wpList_mapUpdate_own _ rfl _ _ _ 51 rfl 9 3 lawKS Try.underlying51 (plainElem Try.prog 3) mb us.length _ rfl HM.out (by have := HUL.out; unfold maxLen; omega) _ _ _ rfl rfl HKY.out _ [] (plainElem_int Try.underlying3 HWF.out) ?_; intro w1 hown1 hgrow1))
      have hgr := Fr.of_grown hgrow1
      have hob := hgr.heap HT.out.obj (by simp; exact HPM.out)
      have hrw := owns_kept HT.out.row hgr (fun i hi q => HMF.out (by rw [Option.mem_toList, hi]; simp at q; rw [q]))
      rw [← HSN.out] at hown1
      refine wp_region_G [] [(0, false), (1, false), (2, false), (3, false), (4, false), (5, false), (6, false), (7, false), (8, false), (9, false), (10, false)] 41 rfl (by kernel_rfl) (by kernel_rfl) (by kernel_rfl) (fun c a d v w h => by cases d <;> exact h) (fun wd hfd => ?_)
      simp only [List.map_cons, List.map_nil, List.getElem?_toArray, List.getElem?_cons_succ, List.getElem?_cons_zero, Option.getD_some]
      have L1 : Hid (Later [] wd (fun w' => w'.heap[p]? = some (.cells #[.int .i64 (t : Int), .map (some mb), fr] 53 (0, 0)))) := Lib.hid (fun w' hf' => hf'.heap (hfd.heap hob (by simp)) (by simp))
      have L2 : Hid (Later [] wd (fun w' => (Instr.lookup 51 (.map (some mb)) (encStr x) false).run Try.prog w' = .ok (.int .i64 ((C : Int) + 1)) w')) := Lib.hid (fun w' hf' => look_cnt (ownsMap_kept (ownsMap_kept hown1 hfd (by simp)) hf' (by simp)) HXL.out (by rw [HSN.out]; exact HAT2.out))
      have HMD := Lib.hid (ownsMap_kept hown1 hfd (by simp))
      have HRD := Lib.hid (owns_kept hrw hfd (by simp))
      have HFD := Lib.hid (hgr.trans hfd (fun i hi _ => by simpa using hi) (n := [mb]) (by simp))
      clear hfd hob hrw hown1 hgrow1 hgr c1 c2 c3 f1 f2 f3 hc
      repeat (apply wpG_t; · (intro w' hf'; obtain ⟨c1, c2, c3, f1, f2, f3⟩ := three_of_heap (L1.out w' hf'); have lk := L2.out w' hf'; go_wp2_with fail; exact ⟨rfl, rfl⟩))
      refine wpG_end ?_
      have hwd : wr.heap.size ≤ wd.heap.size := HFD.out.size
      rcases hdt with hdt | hdt
      · have hCt : C + 1 = t := by have := eq_of_beq hdt; omega
        have hcount : us.count x + 1 = t := by rw [← HC.out]; exact hCt
        have hfn := fndW_yes hcount
        have HFN := Lib.hid hfn
        have hfl : (fndW t us).length ≤ 1999999999 := Nat.le_trans (fndW_len ht us) HUL.out
        have HFL := Lib.hid hfl
        obtain ⟨a2, ca, rfl, hca, hma⟩ := owns_slice HRD.out
        obtain ⟨nf, hnf⟩ : ∃ n, n = (fndW t us).length := ⟨_, rfl⟩
        have HRD2 := Lib.hid HRD.out
        rw [← hnf] at HRD2 HFL hca
        have L1' := L1
        rw [← hnf] at L1'
        obtain ⟨c1, c2, c3, f1, f2, f3⟩ := three_of_heap (L1'.out wd (Fr.refl _ _))
        have HNF := Lib.hid hnf
        rw [← hnf] at HPF HMF HSUB
        rw [hdt]
        clear hcount hfn hfl hnf L1 HRD hdt hCt
        go_wp2_with (at_builtin; refine wpL_append1 rfl _ _ 22 rfl base 9 iS (.string ⟨#[]⟩) 16 Try.underlying22 hiS hS0 hS1 hS2 rfl (.slice a2 nf ca) nf _ rfl HRD2.out (encStr x) rfl rfl (by have := HFL.out; omega) (by have := HFL.out; simp only [maxLen]; omega) (by omega) ?_; intro v9 w9 hown9 hf9 hb9; obtain ⟨c1, c2, c3, f1, f2, f3⟩ := three_of_heap (hf9.heap (L1'.out wd (Fr.refl _ _)) HPF.out); obtain ⟨a9, c9, rfl, hc9, hm9⟩ := owns_slice hown9)
        have hob9 := hf9.heap (L1'.out wd (Fr.refl _ _)) HPF.out
        have hs := Fr.set0 w9 p 2 (.slice a9 (nf + 1) c9)
        have hob2 := heap_setCell_same (i := 2) hob9 (.slice a9 (nf + 1) c9)
        have hmm := ownsMap_kept (ownsMap_kept HMD.out hf9 HMF.out) hs (by simp; exact fun e => HPM.out e.symm)
        have hfl9 : ((us ++ [x]).length) = us.length + 1 := by simp
        have hrow9 : w9.ownsRow base 9 1 (.slice a9 (nf + 1) c9) (fndW t (us ++ [x])).length ((fndW t (us ++ [x])).map encStr) := by
          rw [HFN.out, List.length_append, List.map_append, ← HNF.out]
          exact hown9
        refine ⟨⟨k + 1, hkn, by go_num, .slice a9 (nf + 1) c9, ⟨hob2, ?_, ?_, HT.out.hp, HT.out.hm⟩, ?_, ?_⟩, by simp [intOf]; omega⟩
        · rw [HNX.out, hfl9]; exact hmm
        · rw [HNX.out]
          refine owns_kept hrow9 hs (fun i hi q => ?_)
          simp at q
          subst q
          rcases hb9 with e | ⟨g, e, hg⟩
          · exact HPF.out (by rw [Option.mem_toList, ← e]; exact hi)
          · rw [e] at hi
            injection hi with hi
            have := (Array.getElem?_eq_some_iff.1 (L1'.out wd (Fr.refl _ _))).1
            omega
        · refine ((HF.out.trans HFD.out (fun _ hi _ => hi) (fun i hi _ => by simp at hi; rw [hi]; simp [tyB])).trans (hf9.trans hs (fun i hi _ => List.mem_append.2 (.inl hi)) (n := (Value.slice a2 nf ca).ownBlock.toList ++ [p]) (fun i hi _ => List.mem_append.2 (.inr hi))) (fun _ hi _ => hi) (n := tyB p mb fv) (fun i hi hlt => ?_))
          have hm : i ∈ tyB p mb (Value.slice a2 nf ca) := by
            unfold tyB
            rcases List.mem_append.1 hi with q | q
            · simp only [List.mem_cons, q, or_true]
            · simp at q; rw [q]; simp
          rcases HSUB.out i hm with q | q
          · exact q
          · omega
        · intro i hi
          have hwr : w.heap.size ≤ wr.heap.size := HF.out.size
          rcases tyB_sub (p := p) (mb := mb) hb9 i hi with q | q
          · exact HSUB.out i q
          · exact .inr (by omega)
      · have hcount : ¬ us.count x + 1 = t := fun e => by rw [← HC.out] at e; have := ne_of_beq_false hdt; omega
        have HFN := Lib.hid (fndW_no hcount)
        clear hcount
        rw [hdt]
        clear hdt
        go_wp2_with fail
        refine ⟨⟨k + 1, hkn, by go_num, fr, ⟨L1.out wd (Fr.refl _ _), ?_, ?_, HT.out.hp, HT.out.hm⟩, ?_, HSUB.out⟩, by simp [intOf]; omega⟩
        · rw [HNX.out, List.length_append]; exact HMD.out
        · rw [HNX.out, HFN.out]; exact HRD.out
        · exact HF.out.trans HFD.out (fun _ hi _ => hi) (fun i hi _ => by simp at hi; rw [hi]; simp [tyB])
    · have hd1 : decide (k < l.length) = false := decide_eq_false hkn
      obtain rfl : k = l.length := by omega
      rw [List.take_length] at hgot
      have HG := Lib.hid hgot
      clear hgot
      go_wp2_with fail
      go_end0
      exact ⟨rfl, HG.out⟩
end Go.Proofs.Ytapkohdbnfaacaa
