/- FirstLimit (layer 20), over any program that does what it must. Written by wip/tools/gen_limb.py. -/
import Derived.Test.YtnaamjpiaekmeaaGreatLimA
import Derived.Test.YtnaamjpiaekmeaaGreatFrsA
import Derived.Test.YtnaamjpiaekmeaaGreatWd
import Derived.Test.YtnaamjpiaekmeaaGreatBs
import Derived.Laws.Concat
set_option linter.unusedVariables false
set_option linter.unusedSimpArgs false
namespace Go.Proofs.YtnaamjpiaekmeaaGreat
open Go.RowKit
theorem infoIntL : (Tryz.prog.info? 3).map (fun i => (i.zero, i.size, i.bytes)) = some (some (.int .i64 0), 1, 8) := by kernel_rfl
theorem infoRuleL : (Tryz.prog.info? 46).map (fun i => (i.zero, i.size, i.bytes)) = some (some (.agg #[.int .i64 0, .slice none 0 0]), 2, 32) := by kernel_rfl
def LT (p : Nat) : List Obj := [.cells #[.string ⟨#[83]⟩, .string ⟨#[65]⟩] 9, .cells #[.int .i64 1, .int .i64 1] 3, .cells #[.int .i64 0, .slice (some ⟨p + 4, 0, none⟩) 3 3] 46, .cells #[.slice (some ⟨p, 0, none⟩) 2 2, .slice none 0 0, .slice (some ⟨p + 2, 0, none⟩) 1 1] 25, .cells #[.int .i64 1, .int .i64 1, .int .i64 1] 3]
def LF (p : Nat) : List Obj := [.cells #[.string ⟨#[83]⟩, .string ⟨#[65]⟩] 9, .cells #[.int .i64 1, .int .i64 1] 3, .cells #[.int .i64 0, .slice (some ⟨p + 1, 0, none⟩) 2 2] 46, .cells #[.slice (some ⟨p, 0, none⟩) 2 2, .slice none 0 0, .slice (some ⟨p + 2, 0, none⟩) 1 1] 25]
def nmL : List (List UInt8) := [[83], [65]]
theorem start_true (w : World) : LBv w (w.heap.size + 3) nmL [] [⟨0, frlR true⟩] (.slice none 0 0) (.slice (some ⟨w.heap.size + 2, 0, none⟩) 1 1) [.slice (some ⟨w.heap.size + 4, 0, none⟩) 3 3] (allocL w (LT w.heap.size)) := by
 have hh := fun i o (h : (LT w.heap.size)[i]? = some o) => allocL_heap (LT w.heap.size) w i o h
 refine ⟨hh 3 _ rfl, hh 0 _ rfl, World.ownsRow_nil _ _ _ _, ⟨⟨rfl, .inr ⟨w.heap.size + 2, 1, _, rfl, by omega, hh 2 _ rfl, Nat.le_refl _, by decide, rfl, rfl⟩⟩, rfl, fun i a b => ?_⟩, by omega, allocL_fr _ _⟩
 match i, a with
 | 0, _ => exact ⟨rfl, .inr ⟨w.heap.size + 4, 3, _, rfl, by omega, hh 4 _ rfl, Nat.le_refl _, by decide, rfl, rfl⟩⟩
theorem start_false (w : World) : LBv w (w.heap.size + 3) nmL [] [⟨0, frlR false⟩] (.slice none 0 0) (.slice (some ⟨w.heap.size + 2, 0, none⟩) 1 1) [.slice (some ⟨w.heap.size + 1, 0, none⟩) 2 2] (allocL w (LF w.heap.size)) := by
 have hh := fun i o (h : (LF w.heap.size)[i]? = some o) => allocL_heap (LF w.heap.size) w i o h
 refine ⟨hh 3 _ rfl, hh 0 _ rfl, World.ownsRow_nil _ _ _ _, ⟨⟨rfl, .inr ⟨w.heap.size + 2, 1, _, rfl, by omega, hh 2 _ rfl, Nat.le_refl _, by decide, rfl, rfl⟩⟩, rfl, fun i a b => ?_⟩, by omega, allocL_fr _ _⟩
 match i, a with
 | 0, _ => exact ⟨rfl, .inr ⟨w.heap.size + 1, 2, _, rfl, by omega, hh 1 _ rfl, Nat.le_refl _, by decide, rfl, rfl⟩⟩
def LbL (w : World) (q : Nat) (T : Bool) (N : Nat) (iv : Value) (wx : World) : Prop := ∃ (k : Nat) (tv rv : Value) (vs : List Value), k ≤ N ∧ iv = .int .i64 (k : Int) ∧ LBv w q nmL (ltms k) (⟨0, frlR T⟩ :: oneOf 1 0 k) tv rv vs wx
def FsOver (w : World) (e : Ending) (w' : World) : Prop := ∃ a c, e = .returned (.tuple #[.slice a 0 c, .int .i64 21]) ∧ Fr [] w w'
def FsTwo (M N : Nat) (w : World) (e : Ending) (w' : World) : Prop := ∃ b o c a1 c1 a2 c2, e = .returned (.tuple #[.slice (some ⟨b, o, none⟩) 2 c, .int .i64 0]) ∧ 2 ≤ c ∧ c ≤ 9223372036854775807 ∧ w'.cell? ⟨b, o, none⟩ = some (.slice a1 M c1) ∧ w'.cell? ⟨b, o + 1, none⟩ = some (.slice a2 N c2) ∧ Fr [] w w'
theorem fs_over {N : Nat} {T : Bool} {w w' : World} {e : Ending} (h1 : 1 ≤ N) (hn : N ≤ 200) (h64 : 64 < N) (h : FirstGot (frlG N T) 2 w e w') : FsOver w e w' := by
 obtain ⟨v, ls, c, rfl, hs, ho, hf⟩ := h
 rcases frl_out h1 hn ho with ⟨-, rfl, rfl⟩ | ⟨h, -⟩
 ·obtain ⟨a, c, rfl, -, -⟩ := hs.form
  exact ⟨a, c, rfl, hf⟩
 ·omega
theorem fs_two {N : Nat} {T : Bool} {w w' : World} {e : Ending} (h1 : 1 ≤ N) (hn : N ≤ 200) (h64 : N ≤ 64) (h : FirstGot (frlG N T) 2 w e w') : FsTwo (N * N) N w e w' := by
 obtain ⟨v, ls, c, rfl, hs, ho, hf⟩ := h
 rcases frl_out h1 hn ho with ⟨h, -⟩ | ⟨-, rfl, x, y, rfl, hx, hy⟩
 ·omega
 ·obtain ⟨a, c, rfl, hc, hm⟩ := hs.form
  obtain ⟨b, o, u, rfl, c0, s0⟩ := set_cell hs 0 (by simp)
  obtain ⟨b', o', u', e, c1, s1⟩ := set_cell hs 1 (by simp)
  cases e
  obtain ⟨a1, k1, rfl, -, -⟩ := s0.form
  obtain ⟨a2, k2, rfl, -, -⟩ := s1.form
  simp only [List.getElem_cons_zero, List.getElem_cons_succ] at c0 c1
  rw [hx] at c0
  rw [hy] at c1
  exact ⟨b, o, c, a1, k1, a2, k2, rfl, hc, hm, c0, c1, hf⟩
set_option maxRecDepth 100000 in
theorem lfl_low (hC : ProgFirst) (n : Int) (tail : Bool) (w : World) (h : decide (n < 1) = true) : Calls Tryz.prog 5 #[.int .i64 n, .bool tail] w fun e w' => e = .returned (.bool true) ∧ Fr [] w w' := by
 have HAW := Lib.hid (fun wx => lfawake_any hC wx)
 clear hC
 go_enter Tryz.func5, Tryz.ntmps5
 go_wp2_with (go_at_call 10; refine (HAW.out _).mono ?_; rintro e w4 ⟨rfl, hf4⟩)
 go_ret
 exact ⟨rfl, hf4⟩
set_option maxRecDepth 100000 in
theorem lfl_high (hC : ProgFirst) (n : Int) (tail : Bool) (w : World) (h1 : decide (n < 1) = false) (h : decide (200 < n) = true) : Calls Tryz.prog 5 #[.int .i64 n, .bool tail] w fun e w' => e = .returned (.bool true) ∧ Fr [] w w' := by
 have HAW := Lib.hid (fun wx => lfawake_any hC wx)
 clear hC
 go_enter Tryz.func5, Tryz.ntmps5
 go_wp2_with (go_at_call 10; refine (HAW.out _).mono ?_; rintro e w4 ⟨rfl, hf4⟩)
 go_ret
 exact ⟨rfl, hf4⟩
set_option maxRecDepth 100000 in
set_option maxHeartbeats 8000000 in
theorem lfl_true (hC : ProgFirst) (N : Nat) (w : World) (hN1 : 1 ≤ N) (hN2 : N ≤ 200) : Calls Tryz.prog 5 #[.int .i64 (N : Int), .bool true] w fun e w' => e = .returned (.bool true) ∧ Fr [] w w' := by
 obtain ⟨iS, hiS, hS0, hS1, hS2⟩ := info_parts infoStrW
 obtain ⟨iI, hiI, hI0, hI1, hI2⟩ := info_parts infoIntL
 obtain ⟨iR, hiR, hR0', hR1', hR2'⟩ := info_parts infoRuleL
 have HAW := Lib.hid (fun wx => lfawake_any hC wx)
 have HFS := Lib.hid (fun gv wx (hg : gramAt wx gv (frlG N true)) => hC (frlG N true) gv 2 wx hg (frl_size hN2 true) (frl_int N hN2 true))
 have HOUT := Lib.hid (fun ls c (h : FirstOut (frlG N true) 2 ls c) => frl_out hN1 hN2 h)
 clear hC
 have d1 : decide ((N : Int) < 1) = false := decide_eq_false (by omega)
 have d2 : decide (200 < (N : Int)) = false := decide_eq_false (by omega)
 go_enter Tryz.func5, Tryz.ntmps5
 go_upto_region 6 with fail
 change Code.wp Tryz.prog _ _ _ (allocL w (LT w.heap.size))
 have HST0 := Lib.hid (start_true w)
 obtain ⟨wa, hwa⟩ : ∃ x, x = allocL w (LT w.heap.size) := ⟨_, rfl⟩
 rw [← hwa] at HST0 ⊢
 clear hwa
 obtain ⟨q, hq⟩ : ∃ q, q = w.heap.size + 3 := ⟨_, rfl⟩
 rw [← hq] at HST0
 rw [show w.heap.size + 1 + 1 + 1 = q from hq.symm]
 clear hq
 go_wp2_with fail
 go_loopw [6] (LbL w q true N) (fun iv _ => N - (intOf iv).toNat)
 case atStart => exact ⟨0, _, _, _, Nat.zero_le _, rfl, HST0.out⟩
 case round =>
  obtain ⟨k, tv, rv, vs, hk, rfl, hst⟩ := hrel
  have HST := Lib.hid hst
  by_cases hkn : k < N
  ·have hd1 : decide (k < N) = true := decide_eq_true hkn
   obtain ⟨a1, c1, rfl, hc1, hm1⟩ := owns_slice hst.terms
   obtain ⟨a2, c2, rfl, hc2, hm2⟩ := owns_slice hst.rules.rules
   rw [ltms_len] at hst hc1 HST
   obtain ⟨nr, hnr⟩ : ∃ nr, nr = ((⟨0, frlR true⟩ : RuleG) :: oneOf 1 0 k).length := ⟨_, rfl⟩
   rw [← hnr] at hst hc2 HST
   have hnr2 : nr = k + 1 := by rw [hnr, List.length_cons, oneOf_len]
   have HNR := Lib.hid hnr
   have HNR2 := Lib.hid hnr2
   clear hnr hnr2
   obtain ⟨x0, x1, x2, s0, s1, s2⟩ := three_of_heap hst.box
   have hcl : (#[.int .u8 (97 + (k : Int) / 20), .int .u8 (97 + (k : Int) % 20)] : Array Value) = (cellsB (ltm k)).toArray := by
    have e1 : ((UInt8.ofNat (97 + k / 20)).toNat : Int) = 97 + (k : Int) / 20 := by rw [UInt8.toNat_ofNat_of_lt' (by show 97 + k / 20 < 256; omega)]; omega
    have e2 : ((UInt8.ofNat (97 + k % 20)).toNat : Int) = 97 + (k : Int) % 20 := by rw [UInt8.toNat_ofNat_of_lt' (by show 97 + k % 20 < 256; omega)]; omega
    show _ = (#[Value.int .u8 ((UInt8.ofNat (97 + k / 20)).toNat : Int), Value.int .u8 ((UInt8.ofNat (97 + k % 20)).toNat : Int)] : Array Value)
    rw [e1, e2]
   have hby := bytesAt_new wr (ltm k) 5 2 rfl (by simp [maxLen, ltm]) _ hcl
   have hcv := run_conv_bytes (P := Tryz.prog) hby 47 5 9 Tryz.underlying47 Tryz.underlying5 Tryz.underlying9
   obtain ⟨C, hC⟩ : ∃ C, C = (ltm k).toArray := ⟨_, rfl⟩
   rw [← hC] at hcv
   have HC := Lib.hid (show Value.string { data := C } = encStr (ltm k) by rw [hC])
   have hfA := Fr.alloc wr (.cells #[.int .u8 (97 + (k : Int) / 20), .int .u8 (97 + (k : Int) % 20)] 5)
   have HFA := Lib.hid hfA
   have hownA := (hst.below hfA).terms
   rw [ltms_len] at hownA
   have hge : w.heap.size + 1 ≤ (wr.alloc (.cells #[.int .u8 (97 + (k : Int) / 20), .int .u8 (97 + (k : Int) % 20)] 5)).heap.size := by rw [World.size_alloc]; have := hst.fr.size; omega
   have hboxA := hfA.heap hst.box (by simp)
   have HBA := Lib.hid hboxA
   have HQN := Lib.hid hst.qt
   clear hcl hby hC hst hfA hboxA
   go_upto_region 10 with (at_builtin; refine wpL_append1 rfl _ _ 22 rfl (w.heap.size + 1) 9 iS (.string ⟨#[]⟩) 16 Tryz.underlying22 hiS hS0 hS1 hS2 rfl (.slice a1 k c1) k ((ltms k).map encStr) rfl hownA (.string { data := C }) rfl (by rw [World.size_alloc]; rfl) (by omega) (by simp only [maxLen]; omega) hge ?_; intro v5 w5 hown5 hf5 hb5; obtain ⟨a3, c3, rfl, hc3, hm3⟩ := owns_slice hown5; obtain ⟨x0, x1, x2, s0, s1, s2⟩ := three_of_heap (hf5.heap HBA.out HQN.out))
   rw [HC.out] at hown5
   have hg1 := LBv.term (nm := ltm k) HST.out HFA.out (by rw [ltms_len]; exact hown5) hf5
   rw [← ltms_next] at hg1
   obtain ⟨w6, hw6⟩ : ∃ w6, w6 = w5.setCell ⟨q, 1, none⟩ (.slice a3 (k + 1) c3) := ⟨_, rfl⟩
   rw [← hw6] at hg1
   rw [← hw6]
   obtain ⟨b6, hb6⟩ : ∃ b, b = w6.heap.size := ⟨_, rfl⟩
   have hfB := Fr.alloc w6 (.cells #[.int .i64 (-1 - (k : Int))] 3)
   have hbB := heap_alloc_new w6 (.cells #[.int .i64 (-1 - (k : Int))] 3)
   obtain ⟨wB, hwB⟩ : ∃ wB, wB = w6.alloc (.cells #[.int .i64 (-1 - (k : Int))] 3) := ⟨_, rfl⟩
   rw [← hwB] at hfB hbB
   rw [← hb6] at hbB
   have hgB := hg1.below hfB
   have hfE := Fr.alloc wB (.cells #[.int .i64 1, .slice (some ⟨b6, 0, none⟩) 1 1] 46)
   have hk6 : wB.ownsRow w.heap.size 3 1 (.slice (some ⟨b6, 0, none⟩) 1 1) 1 [.int .i64 (-1 - (k : Int))] := owns_of_heap (cur := [.int .i64 (-1 - (k : Int))]) hbB (by have := hg1.fr.size; omega) rfl (Nat.le_refl _) (by decide) rfl
   have hrow6 := hgB.rules.rules
   rw [← HNR.out] at hrow6
   have hge6 : w.heap.size ≤ wB.heap.size := hgB.fr.size
   have HGB := Lib.hid hgB
   have HFE := Lib.hid hfE
   have HK6 := Lib.hid hk6
   have HWB := Lib.hid hwB
   have HB6 := Lib.hid hb6
   have hb6s : wB.heap.size = b6 + 1 := by rw [hwB, World.size_alloc, hb6]
   have HB6S := Lib.hid hb6s
   have HQR := Lib.hid hgB.qr
   clear x0 x1 x2 s0 s1 s2 hown5 hf5 hb5 hw6 hownA hge hcv hfB hbB hwB hb6 hfE hk6 hb6s HST
   obtain ⟨x0, x1, x2, s0, s1, s2⟩ := three_of_heap hg1.box
   have HB1 := Lib.hid hg1.box
   clear hg1 hgB
   have HRE := Lib.hid (show (⟨((1 : Nat) : Int), [-1 - ((0 : Nat) : Int) - (k : Int)]⟩ : RuleG) = ⟨1, [-1 - (k : Int)]⟩ by congr 2)
   have HON := Lib.hid (oneOf_next 1 0 k)
   go_wp2_with (at_builtin; rw [← HWB.out, ← HB6.out]; refine wpL_appendS rfl _ _ 23 rfl w.heap.size 46 iR _ 2 32 Tryz.underlying23 hiR hR0' hR1' hR2' (by rfl) (by decide) (.slice a2 nr c2) nr _ rfl hrow6 [.int .i64 1, .slice (some ⟨b6, 0, none⟩) 1 1] rfl (by intro u hu; simp at hu; rcases hu with rfl | rfl <;> rfl) (by rw [HB6S.out]; rfl) (by have := HNR2.out; omega) (by have := HNR2.out; simp only [maxLen]; omega) hge6 ?_; intro v7 w7 hown7 hf7 hb7; obtain ⟨a4, c4, rfl, hc4, hm4⟩ := owns_slice hown7; obtain ⟨x0, x1, x2, s0, s1, s2⟩ := three_of_heap ((HFE.out.trans hf7 (by simp) (n := (Value.slice a2 nr c2).ownBlock.toList) (fun _ z _ => z)).heap HGB.out.box HQR.out))
   have hg2 := LBv.rule HGB.out HFE.out ⟨((1 : Nat) : Int), [-1 - ((0 : Nat) : Int) - (k : Int)]⟩ (kv := .slice (some ⟨b6, 0, none⟩) 1 1) (by rw [HRE.out, ← HNR.out]; exact hown7) (by rw [HRE.out]; exact owns_kept HK6.out HFE.out (by simp)) hf7
   rw [List.cons_append, ← HON.out] at hg2
   exact ⟨⟨k + 1, _, _, _, by omega, by go_num, hg2⟩, by simp [intOf]; omega⟩
  ·have hd1 : decide (k < N) = false := decide_eq_false hkn
   obtain rfl : k = N := by omega
   obtain ⟨a1, c1, rfl, hc1, hm1⟩ := owns_slice hst.terms
   obtain ⟨a2, c2, rfl, hc2, hm2⟩ := owns_slice hst.rules.rules
   have hgr := hst.gram (by decide)
   have hbox := hst.box
   have HFR := Lib.hid hst.fr
   obtain ⟨n1, hn1⟩ : ∃ n, n = (ltms k).length := ⟨_, rfl⟩
   obtain ⟨nr, hnr⟩ : ∃ nr, nr = ((⟨0, frlR true⟩ : RuleG) :: oneOf 1 0 k).length := ⟨_, rfl⟩
   have hcall := HFS.out _ wr hgr
   rw [← hn1, ← hnr] at hcall hbox
   obtain ⟨x0, x1, x2, s0, s1, s2⟩ := three_of_heap hbox
   by_cases h64 : 64 < k
   ·have HCA := Lib.hid (hcall.mono fun e w' h => fs_over hN1 hN2 h64 h)
    have d3 : decide ((64 : Int) < (k : Int)) = true := decide_eq_true (by omega)
    clear hcall hgr hbox hst HST HFS HOUT HST0 hn1 hnr h64
    go_wp2_with (first
     | (go_at_call 11; refine HCA.out.mono ?_; rintro e w5 ⟨a5, c5, rfl, hf5⟩; have HF5 := Lib.hid (HFR.out.tr0 hf5); clear hf5)
     | (go_at_call 10; refine (HAW.out _).mono ?_; rintro e w9 ⟨rfl, hf9⟩))
    go_ret
    exact ⟨rfl, HF5.out.tr0 hf9⟩
   ·have HCA := Lib.hid (hcall.mono fun e w' h => fs_two hN1 hN2 (by omega) h)
    have d3 : decide ((64 : Int) < (k : Int)) = false := decide_eq_false (by omega)
    obtain ⟨M, hM⟩ : ∃ M, M = k * k := ⟨_, rfl⟩
    rw [← hM] at HCA
    have hMc : (M : Int) = (k : Int) * (k : Int) := by rw [hM]; push_cast; rfl
    have hMb : (k : Int) * (k : Int) ≤ 5000 := by
     have := Nat.mul_le_mul (show k ≤ 64 by omega) (show k ≤ 64 by omega)
     rw [← hMc]
     omega
    have hM0 : (0 : Int) ≤ (k : Int) * (k : Int) := by rw [← hMc]; omega
    have e1 : ((M : Int) == (k : Int) * (k : Int)) = true := by rw [hMc]; exact beq_self_eq_true _
    have e2 : ((k : Int) == (k : Int)) = true := beq_self_eq_true _
    clear hcall hgr hbox hst HST HFS HOUT HST0 hn1 hnr h64 hM hMc
    go_wp2_with (first
     | (go_at_call 11; refine HCA.out.mono ?_; rintro e w5 ⟨b5, o5, k5, a5, c5, a6, c6, rfl, hk5, hm5, y0, y1, hf5⟩; have HF5 := Lib.hid (HFR.out.tr0 hf5); clear hf5)
     | (go_at_call 10; refine (HAW.out _).mono ?_; rintro e w9 ⟨rfl, hf9⟩))
    go_ret
    exact ⟨rfl, HF5.out.tr0 hf9⟩
set_option maxRecDepth 100000 in
set_option maxHeartbeats 8000000 in
theorem lfl_false (hC : ProgFirst) (N : Nat) (w : World) (hN1 : 1 ≤ N) (hN2 : N ≤ 200) : Calls Tryz.prog 5 #[.int .i64 (N : Int), .bool false] w fun e w' => e = .returned (.bool true) ∧ Fr [] w w' := by
 obtain ⟨iS, hiS, hS0, hS1, hS2⟩ := info_parts infoStrW
 obtain ⟨iI, hiI, hI0, hI1, hI2⟩ := info_parts infoIntL
 obtain ⟨iR, hiR, hR0', hR1', hR2'⟩ := info_parts infoRuleL
 have HAW := Lib.hid (fun wx => lfawake_any hC wx)
 have HFS := Lib.hid (fun gv wx (hg : gramAt wx gv (frlG N false)) => hC (frlG N false) gv 2 wx hg (frl_size hN2 false) (frl_int N hN2 false))
 have HOUT := Lib.hid (fun ls c (h : FirstOut (frlG N false) 2 ls c) => frl_out hN1 hN2 h)
 clear hC
 have d1 : decide ((N : Int) < 1) = false := decide_eq_false (by omega)
 have d2 : decide (200 < (N : Int)) = false := decide_eq_false (by omega)
 go_enter Tryz.func5, Tryz.ntmps5
 go_upto_region 6 with fail
 change Code.wp Tryz.prog _ _ _ (allocL w (LF w.heap.size))
 have HST0 := Lib.hid (start_false w)
 obtain ⟨wa, hwa⟩ : ∃ x, x = allocL w (LF w.heap.size) := ⟨_, rfl⟩
 rw [← hwa] at HST0 ⊢
 clear hwa
 obtain ⟨q, hq⟩ : ∃ q, q = w.heap.size + 3 := ⟨_, rfl⟩
 rw [← hq] at HST0
 rw [show w.heap.size + 1 + 1 + 1 = q from hq.symm]
 clear hq
 go_wp2_with fail
 go_loopw [6] (LbL w q false N) (fun iv _ => N - (intOf iv).toNat)
 case atStart => exact ⟨0, _, _, _, Nat.zero_le _, rfl, HST0.out⟩
 case round =>
  obtain ⟨k, tv, rv, vs, hk, rfl, hst⟩ := hrel
  have HST := Lib.hid hst
  by_cases hkn : k < N
  ·have hd1 : decide (k < N) = true := decide_eq_true hkn
   obtain ⟨a1, c1, rfl, hc1, hm1⟩ := owns_slice hst.terms
   obtain ⟨a2, c2, rfl, hc2, hm2⟩ := owns_slice hst.rules.rules
   rw [ltms_len] at hst hc1 HST
   obtain ⟨nr, hnr⟩ : ∃ nr, nr = ((⟨0, frlR false⟩ : RuleG) :: oneOf 1 0 k).length := ⟨_, rfl⟩
   rw [← hnr] at hst hc2 HST
   have hnr2 : nr = k + 1 := by rw [hnr, List.length_cons, oneOf_len]
   have HNR := Lib.hid hnr
   have HNR2 := Lib.hid hnr2
   clear hnr hnr2
   obtain ⟨x0, x1, x2, s0, s1, s2⟩ := three_of_heap hst.box
   have hcl : (#[.int .u8 (97 + (k : Int) / 20), .int .u8 (97 + (k : Int) % 20)] : Array Value) = (cellsB (ltm k)).toArray := by
    have e1 : ((UInt8.ofNat (97 + k / 20)).toNat : Int) = 97 + (k : Int) / 20 := by rw [UInt8.toNat_ofNat_of_lt' (by show 97 + k / 20 < 256; omega)]; omega
    have e2 : ((UInt8.ofNat (97 + k % 20)).toNat : Int) = 97 + (k : Int) % 20 := by rw [UInt8.toNat_ofNat_of_lt' (by show 97 + k % 20 < 256; omega)]; omega
    show _ = (#[Value.int .u8 ((UInt8.ofNat (97 + k / 20)).toNat : Int), Value.int .u8 ((UInt8.ofNat (97 + k % 20)).toNat : Int)] : Array Value)
    rw [e1, e2]
   have hby := bytesAt_new wr (ltm k) 5 2 rfl (by simp [maxLen, ltm]) _ hcl
   have hcv := run_conv_bytes (P := Tryz.prog) hby 47 5 9 Tryz.underlying47 Tryz.underlying5 Tryz.underlying9
   obtain ⟨C, hC⟩ : ∃ C, C = (ltm k).toArray := ⟨_, rfl⟩
   rw [← hC] at hcv
   have HC := Lib.hid (show Value.string { data := C } = encStr (ltm k) by rw [hC])
   have hfA := Fr.alloc wr (.cells #[.int .u8 (97 + (k : Int) / 20), .int .u8 (97 + (k : Int) % 20)] 5)
   have HFA := Lib.hid hfA
   have hownA := (hst.below hfA).terms
   rw [ltms_len] at hownA
   have hge : w.heap.size + 1 ≤ (wr.alloc (.cells #[.int .u8 (97 + (k : Int) / 20), .int .u8 (97 + (k : Int) % 20)] 5)).heap.size := by rw [World.size_alloc]; have := hst.fr.size; omega
   have hboxA := hfA.heap hst.box (by simp)
   have HBA := Lib.hid hboxA
   have HQN := Lib.hid hst.qt
   clear hcl hby hC hst hfA hboxA
   go_upto_region 10 with (at_builtin; refine wpL_append1 rfl _ _ 22 rfl (w.heap.size + 1) 9 iS (.string ⟨#[]⟩) 16 Tryz.underlying22 hiS hS0 hS1 hS2 rfl (.slice a1 k c1) k ((ltms k).map encStr) rfl hownA (.string { data := C }) rfl (by rw [World.size_alloc]; rfl) (by omega) (by simp only [maxLen]; omega) hge ?_; intro v5 w5 hown5 hf5 hb5; obtain ⟨a3, c3, rfl, hc3, hm3⟩ := owns_slice hown5; obtain ⟨x0, x1, x2, s0, s1, s2⟩ := three_of_heap (hf5.heap HBA.out HQN.out))
   rw [HC.out] at hown5
   have hg1 := LBv.term (nm := ltm k) HST.out HFA.out (by rw [ltms_len]; exact hown5) hf5
   rw [← ltms_next] at hg1
   obtain ⟨w6, hw6⟩ : ∃ w6, w6 = w5.setCell ⟨q, 1, none⟩ (.slice a3 (k + 1) c3) := ⟨_, rfl⟩
   rw [← hw6] at hg1
   rw [← hw6]
   obtain ⟨b6, hb6⟩ : ∃ b, b = w6.heap.size := ⟨_, rfl⟩
   have hfB := Fr.alloc w6 (.cells #[.int .i64 (-1 - (k : Int))] 3)
   have hbB := heap_alloc_new w6 (.cells #[.int .i64 (-1 - (k : Int))] 3)
   obtain ⟨wB, hwB⟩ : ∃ wB, wB = w6.alloc (.cells #[.int .i64 (-1 - (k : Int))] 3) := ⟨_, rfl⟩
   rw [← hwB] at hfB hbB
   rw [← hb6] at hbB
   have hgB := hg1.below hfB
   have hfE := Fr.alloc wB (.cells #[.int .i64 1, .slice (some ⟨b6, 0, none⟩) 1 1] 46)
   have hk6 : wB.ownsRow w.heap.size 3 1 (.slice (some ⟨b6, 0, none⟩) 1 1) 1 [.int .i64 (-1 - (k : Int))] := owns_of_heap (cur := [.int .i64 (-1 - (k : Int))]) hbB (by have := hg1.fr.size; omega) rfl (Nat.le_refl _) (by decide) rfl
   have hrow6 := hgB.rules.rules
   rw [← HNR.out] at hrow6
   have hge6 : w.heap.size ≤ wB.heap.size := hgB.fr.size
   have HGB := Lib.hid hgB
   have HFE := Lib.hid hfE
   have HK6 := Lib.hid hk6
   have HWB := Lib.hid hwB
   have HB6 := Lib.hid hb6
   have hb6s : wB.heap.size = b6 + 1 := by rw [hwB, World.size_alloc, hb6]
   have HB6S := Lib.hid hb6s
   have HQR := Lib.hid hgB.qr
   clear x0 x1 x2 s0 s1 s2 hown5 hf5 hb5 hw6 hownA hge hcv hfB hbB hwB hb6 hfE hk6 hb6s HST
   obtain ⟨x0, x1, x2, s0, s1, s2⟩ := three_of_heap hg1.box
   have HB1 := Lib.hid hg1.box
   clear hg1 hgB
   have HRE := Lib.hid (show (⟨((1 : Nat) : Int), [-1 - ((0 : Nat) : Int) - (k : Int)]⟩ : RuleG) = ⟨1, [-1 - (k : Int)]⟩ by congr 2)
   have HON := Lib.hid (oneOf_next 1 0 k)
   go_wp2_with (at_builtin; rw [← HWB.out, ← HB6.out]; refine wpL_appendS rfl _ _ 23 rfl w.heap.size 46 iR _ 2 32 Tryz.underlying23 hiR hR0' hR1' hR2' (by rfl) (by decide) (.slice a2 nr c2) nr _ rfl hrow6 [.int .i64 1, .slice (some ⟨b6, 0, none⟩) 1 1] rfl (by intro u hu; simp at hu; rcases hu with rfl | rfl <;> rfl) (by rw [HB6S.out]; rfl) (by have := HNR2.out; omega) (by have := HNR2.out; simp only [maxLen]; omega) hge6 ?_; intro v7 w7 hown7 hf7 hb7; obtain ⟨a4, c4, rfl, hc4, hm4⟩ := owns_slice hown7; obtain ⟨x0, x1, x2, s0, s1, s2⟩ := three_of_heap ((HFE.out.trans hf7 (by simp) (n := (Value.slice a2 nr c2).ownBlock.toList) (fun _ z _ => z)).heap HGB.out.box HQR.out))
   have hg2 := LBv.rule HGB.out HFE.out ⟨((1 : Nat) : Int), [-1 - ((0 : Nat) : Int) - (k : Int)]⟩ (kv := .slice (some ⟨b6, 0, none⟩) 1 1) (by rw [HRE.out, ← HNR.out]; exact hown7) (by rw [HRE.out]; exact owns_kept HK6.out HFE.out (by simp)) hf7
   rw [List.cons_append, ← HON.out] at hg2
   exact ⟨⟨k + 1, _, _, _, by omega, by go_num, hg2⟩, by simp [intOf]; omega⟩
  ·have hd1 : decide (k < N) = false := decide_eq_false hkn
   obtain rfl : k = N := by omega
   obtain ⟨a1, c1, rfl, hc1, hm1⟩ := owns_slice hst.terms
   obtain ⟨a2, c2, rfl, hc2, hm2⟩ := owns_slice hst.rules.rules
   have hgr := hst.gram (by decide)
   have hbox := hst.box
   have HFR := Lib.hid hst.fr
   obtain ⟨n1, hn1⟩ : ∃ n, n = (ltms k).length := ⟨_, rfl⟩
   obtain ⟨nr, hnr⟩ : ∃ nr, nr = ((⟨0, frlR false⟩ : RuleG) :: oneOf 1 0 k).length := ⟨_, rfl⟩
   have hcall := HFS.out _ wr hgr
   rw [← hn1, ← hnr] at hcall hbox
   obtain ⟨x0, x1, x2, s0, s1, s2⟩ := three_of_heap hbox
   by_cases h64 : 64 < k
   ·have HCA := Lib.hid (hcall.mono fun e w' h => fs_over hN1 hN2 h64 h)
    have d3 : decide ((64 : Int) < (k : Int)) = true := decide_eq_true (by omega)
    clear hcall hgr hbox hst HST HFS HOUT HST0 hn1 hnr h64
    go_wp2_with (first
     | (go_at_call 11; refine HCA.out.mono ?_; rintro e w5 ⟨a5, c5, rfl, hf5⟩; have HF5 := Lib.hid (HFR.out.tr0 hf5); clear hf5)
     | (go_at_call 10; refine (HAW.out _).mono ?_; rintro e w9 ⟨rfl, hf9⟩))
    go_ret
    exact ⟨rfl, HF5.out.tr0 hf9⟩
   ·have HCA := Lib.hid (hcall.mono fun e w' h => fs_two hN1 hN2 (by omega) h)
    have d3 : decide ((64 : Int) < (k : Int)) = false := decide_eq_false (by omega)
    obtain ⟨M, hM⟩ : ∃ M, M = k * k := ⟨_, rfl⟩
    rw [← hM] at HCA
    have hMc : (M : Int) = (k : Int) * (k : Int) := by rw [hM]; push_cast; rfl
    have hMb : (k : Int) * (k : Int) ≤ 5000 := by
     have := Nat.mul_le_mul (show k ≤ 64 by omega) (show k ≤ 64 by omega)
     rw [← hMc]
     omega
    have hM0 : (0 : Int) ≤ (k : Int) * (k : Int) := by rw [← hMc]; omega
    have e1 : ((M : Int) == (k : Int) * (k : Int)) = true := by rw [hMc]; exact beq_self_eq_true _
    have e2 : ((k : Int) == (k : Int)) = true := beq_self_eq_true _
    clear hcall hgr hbox hst HST HFS HOUT HST0 hn1 hnr h64 hM hMc
    go_wp2_with (first
     | (go_at_call 11; refine HCA.out.mono ?_; rintro e w5 ⟨b5, o5, k5, a5, c5, a6, c6, rfl, hk5, hm5, y0, y1, hf5⟩; have HF5 := Lib.hid (HFR.out.tr0 hf5); clear hf5)
     | (go_at_call 10; refine (HAW.out _).mono ?_; rintro e w9 ⟨rfl, hf9⟩))
    go_ret
    exact ⟨rfl, HF5.out.tr0 hf9⟩
theorem lfirstlimit_any (hC : ProgFirst) (n : Int) (tail : Bool) (w : World) : Calls Tryz.prog 5 #[.int .i64 n, .bool tail] w fun e w' => e = .returned (.bool true) ∧ Fr [] w w' := by
 by_cases h1 : n < 1
 ·exact lfl_low hC n tail w (decide_eq_true h1)
 by_cases h2 : 200 < n
 ·exact lfl_high hC n tail w (decide_eq_false h1) (decide_eq_true h2)
 obtain ⟨N, rfl⟩ := Int.eq_ofNat_of_zero_le (show 0 ≤ n by omega)
 cases tail with
 | true => exact lfl_true hC N w (by omega) (by omega)
 | false => exact lfl_false hC N w (by omega) (by omega)
end Go.Proofs.YtnaamjpiaekmeaaGreat
