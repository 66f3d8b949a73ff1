/- Several texts in one: FsA, FsB, FsM, FsQ, FsE, FsF, FsR. -/
import Derived.WalkMore
import Derived.Test.YtnaamjpiaekmeaaGreatUg
import Derived.Test.YtnaamjpiaekmeaaGreatBs
import Derived.Test.YtnaamjpiaekmeaaGreatSm
import Derived.Test.YtnaamjpiaekmeaaGreatMn
import Derived.Test.YtnaamjpiaekmeaaGreatUa
import Derived.Test.YtnaamjpiaekmeaaGreatDt
set_option linter.unusedVariables false
set_option linter.unusedSimpArgs false
namespace Go.Proofs.YtnaamjpiaekmeaaGreat
open Go.RowKit Go.Maps
set_option maxRecDepth 100000 in
set_option maxHeartbeats 2000000 in
theorem pfirst_sym (p q : Nat) (k : Int) (T : List Words) (nv tv : Value) (xs ts : List (List Value)) (ls : List Words) (M : Nat) (w : World) (s : Int) (m : Words) (hO : SymO w p q k T nv tv xs ts ls M) (h1 : -(M : Int) ≤ s) (h2 : s < (ls.length : Int)) (hM : M ≤ 256) (hm : symW ls s = some m) :
  Calls Tryz.prog 98 #[.pointer (some ⟨p, 0, none⟩), .int .i64 s] w (SyGot k T m w) := by
 have HIT := Lib.hid (fun w => isTerm_f s w)
 have hf0 := Fr.alloc w (.cells #[.int .i64 0, .slice none 0 0, .bool false] 93)
 have hb0 := heap_alloc_new w (.cells #[.int .i64 0, .slice none 0 0, .bool false] 93)
 obtain ⟨w0, hw0⟩ : ∃ w0, w0 = w.alloc (.cells #[.int .i64 0, .slice none 0 0, .bool false] 93) := ⟨_, rfl⟩
 obtain ⟨r, hr⟩ : ∃ r, r = w.heap.size := ⟨_, rfl⟩
 rw [← hw0] at hf0 hb0
 rw [← hr] at hb0
 have hO0 := hO.later hf0
 have HF0 := Lib.hid hf0
 have HB0 := Lib.hid hb0
 have HW0 := Lib.hid hw0
 have HR := Lib.hid hr
 have HO0 := Lib.hid hO0
 clear hf0 hb0 hw0 hr hO
 by_cases hneg : s < 0
 ·have hd2 : decide (s < 0) = true := decide_eq_true hneg
  rw [hd2] at HIT
  obtain ⟨i, hi⟩ : ∃ i : Nat, -1 - s = (i : Int) := ⟨(-1 - s).toNat, by omega⟩
  have hiM : i < M := by omega
  have hit : i < ts.length := by rw [hO0.ss.len, termsW_len]; exact hiM
  have hme : m = [[UInt8.ofNat i]] := by
   rw [sym_term hneg (by omega), hi] at hm
   simpa using hm.symm
  have hset := hO0.ss.at_ i hit (by rw [termsW_len]; exact hiM)
  rw [termsW_get, ← hme] at hset
  obtain ⟨n, a, c, b, hx, hS⟩ := hset
  obtain ⟨av, cv, rfl, hcv, hmv⟩ := hO0.te.form
  obtain ⟨bl, off, rfl, -, e0, e1, e2⟩ := elem3 hO0.te hit hx
  obtain ⟨c1, c2, c3⟩ := (⟨hO0.c1, hO0.c2, hO0.c3⟩ : _ ∧ _ ∧ _)
  obtain ⟨nt, hnt⟩ : ∃ nt, nt = ts.length := ⟨_, rfl⟩
  rw [← hnt] at c3 hit hcv
  have HI := Lib.hid hi
  have HS := Lib.hid hS
  have hs3 := set3_fr w0 r (.int .i64 (n : Int)) (.slice a m.length c) (.bool b)
  have HR8 := Lib.hid (set3_heap HB0.out (.int .i64 (n : Int)) (.slice a m.length c) (.bool b))
  have HF8 := Lib.hid (HF0.out.trans hs3 (n := []) (by simp) (fun i hi hlt => by have := HR.out; simp at hi; omega))
  have HS8 := Lib.hid (hS.keep hs3 (fun b hb => by rw [List.mem_singleton.1 hb]; exact NotStr.cells HB0.out (fun z hz x e => by subst e; simp at hz)))
  obtain ⟨t0, t1, t2, o0, o1, o2⟩ := three_of_heap HB0.out
  clear hO0 hx hS hs3 hme hm hnt hneg hd2 hi
  have hi2 : (-1 : Int) - s = (i : Int) := HI.out
  have hs1 : -256 ≤ s := by omega
  have hs2 : s ≤ -1 := by omega
  have hdi : decide (i < nt) = true := decide_eq_true hit
  go_enter Tryz.func98, Tryz.ntmps98
  go_upto_region 1 with fail
  rw [← HW0.out, ← HR.out]
  go_wp2_with (go_at_call 55; refine (HIT.out w0).mono ?_; rintro e w1 ⟨rfl, rfl⟩)
  refine bodyPost_ret (results_cell_row rfl _ _ r 93 #[.int .i64 (n : Int), .slice a m.length c, .bool b] (0, 0) _ rfl HR8.out Tryz.underlying93 rfl sizeSet) rfl ⟨_, rfl, ⟨n, _, _, rfl, HS8.out⟩, HF8.out⟩
 ·have hd2 : decide (s < 0) = false := decide_eq_false hneg
  rw [hd2] at HIT
  obtain ⟨i, rfl⟩ := Int.eq_ofNat_of_zero_le (show 0 ≤ s by omega)
  have hil : i < ls.length := by omega
  have hit : i < xs.length := by rw [hO0.ns.len]; exact hil
  have hme : m = ls[i]'hil := by
   rw [sym_nont hil] at hm
   exact (Option.some.inj hm).symm
  have hset := hO0.ns.at_ i hit hil
  rw [← hme] at hset
  obtain ⟨n, a, c, b, hx, hS⟩ := hset
  obtain ⟨av, cv, rfl, hcv, hmv⟩ := hO0.ne.form
  obtain ⟨bl, off, rfl, -, e0, e1, e2⟩ := elem3 hO0.ne hit hx
  obtain ⟨c1, c2, c3⟩ := (⟨hO0.c1, hO0.c2, hO0.c3⟩ : _ ∧ _ ∧ _)
  obtain ⟨nt, hnt⟩ : ∃ nt, nt = xs.length := ⟨_, rfl⟩
  rw [← hnt] at c2 hit hcv
  have hs3 := set3_fr w0 r (.int .i64 (n : Int)) (.slice a m.length c) (.bool b)
  have HR8 := Lib.hid (set3_heap HB0.out (.int .i64 (n : Int)) (.slice a m.length c) (.bool b))
  have HF8 := Lib.hid (HF0.out.trans hs3 (n := []) (by simp) (fun i hi hlt => by have := HR.out; simp at hi; omega))
  have HS8 := Lib.hid (hS.keep hs3 (fun b hb => by rw [List.mem_singleton.1 hb]; exact NotStr.cells HB0.out (fun z hz x e => by subst e; simp at hz)))
  obtain ⟨t0, t1, t2, o0, o1, o2⟩ := three_of_heap HB0.out
  have hdi : decide (i < nt) = true := decide_eq_true hit
  clear hO0 hx hS hs3 hme hm hnt hneg hd2
  go_enter Tryz.func98, Tryz.ntmps98
  go_upto_region 1 with fail
  rw [← HW0.out, ← HR.out]
  go_wp2_with (go_at_call 55; refine (HIT.out w0).mono ?_; rintro e w1 ⟨rfl, rfl⟩)
  refine bodyPost_ret (results_cell_row rfl _ _ r 93 #[.int .i64 (n : Int), .slice a m.length c, .bool b] (0, 0) _ rfl HR8.out Tryz.underlying93 rfl sizeSet) rfl ⟨_, rfl, ⟨n, _, _, rfl, HS8.out⟩, HF8.out⟩
def givenR (w : World) (q r6 : Nat) (k : Int) (T : List Words) (m : Nat) (ls : List Words) (right : List Int) (ov iv : Value) (wx : World) : Prop :=
 ∃ (i : Nat) (U : List Words) (acc : Words) (n : Nat) (a : Option Addr) (c : Nat) (b : Bool), i ≤ right.length ∧ ov = .bool true ∧ iv = .int .i64 (i : Int) ∧ wx.heap[r6]? = some (.cells #[.int .i64 (n : Int), .slice a acc.length c, .bool b] 93 (0, 0)) ∧ SetP wx k (T ++ U) n (.slice a acc.length c) b acc ∧ OfS ls k right i acc ∧ PoolAt wx q k (T ++ U) (m + 2 + 4 * i) ∧ Fr (plB q) w wx
def GvGot (q : Nat) (k : Int) (T : List Words) (m : Nat) (ls : List Words) (right : List Int) (w : World) (e : Ending) (w' : World) : Prop :=
 ∃ (n : Nat) (a : Option Addr) (z c : Nat) (b : Bool) (U : List Words), e = .returned (.tuple #[.agg #[.int .i64 (n : Int), .slice a z c, .bool b], .bool (fofG ls k right).isSome]) ∧ (∀ l, fofG ls k right = some l → SetAt w' k (T ++ U) (.agg #[.int .i64 (n : Int), .slice a z c, .bool b]) l) ∧ PoolAt w' q k (T ++ U) (m + 4 * right.length + 4) ∧ Fr (plB q) w w'
set_option maxRecDepth 100000 in
set_option maxHeartbeats 8000000 in
theorem pgiven (hW : ProgWCat) (p q m : Nat) (k : Int) (T : List Words) (nv tv : Value) (xs ts : List (List Value)) (ls : List Words) (M : Nat) (w : World) (right : List Int) (rv : Value) (hO : SymO w p q k T nv tv xs ts ls M) (hA : PoolAt w q k T m) (hst : ∀ b ∈ plB q, b ≠ p ∧ nv.ownBlock ≠ some b ∧ tv.ownBlock ≠ some b) (hint : ∀ wx, Fr (plB q) w wx → intsAt wx rv right) (hsym : ∀ s ∈ right, -(M : Int) ≤ s ∧ s < (ls.length : Int)) (hlen : right.length ≤ 64) (hM : M ≤ 256) (hk1 : 1 ≤ k) (hk : k ≤ 4) (hm : m ≤ 8000000000000000) :
  Calls Tryz.prog 56 #[.pointer (some ⟨p, 0, none⟩), rv] w (GvGot q k T m ls right w) := by
 have HIT := Lib.hid hint
 obtain ⟨ar, cr, rfl, hcr, hmr⟩ := (hint w (Fr.refl _ _)).form
 have HSYM := Lib.hid hsym
 have HQL := Lib.hid (show q + 2 < w.heap.size from by obtain ⟨c, _, _, h⟩ := hA.obj; exact (Array.getElem?_eq_some_iff.1 h).1)
 have HQU := Lib.hid hA.quiet
 have HA := Lib.hid hA
 have HO := Lib.hid hO
 have HST := Lib.hid hst
 have HPR := Lib.hid (fun (q m : Nat) (k : Int) (T : List Words) (x y : Value) (la lb : Words) (w : World) hA hx hy hk1 hk hm => pprod hW q m k T x y la lb w hA hx hy hk1 hk hm)
 obtain ⟨NR, hNR⟩ : ∃ NR, NR = right.length := ⟨_, rfl⟩
 rw [← hNR] at HIT hcr ⊢
 have HNR := Lib.hid hNR
 have hr64 : NR ≤ 64 := by rw [hNR]; exact hlen
 clear hA hO hint hsym hst hNR hlen hW
 go_enter Tryz.func56, Tryz.ntmps56
 go_upto_region 1 with fail
 have hf0 := Fr.alloc w (.cells #[.int .i64 0, .slice none 0 0, .bool false] 93)
 have hb0 := heap_alloc_new w (.cells #[.int .i64 0, .slice none 0 0, .bool false] 93)
 obtain ⟨w0, hw0⟩ : ∃ w0, w0 = w.alloc (.cells #[.int .i64 0, .slice none 0 0, .bool false] 93) := ⟨_, rfl⟩
 obtain ⟨r4, hr4⟩ : ∃ r4, r4 = w.heap.size := ⟨_, rfl⟩
 rw [← hw0] at hf0 hb0 ⊢
 rw [← hr4] at hb0 ⊢
 have HF0 := Lib.hid hf0
 have HB0 := Lib.hid hb0
 have HR4 := Lib.hid hr4
 clear hf0 hb0 hw0 hr4
 have hg1 := Fr.alloc w0 (.cells #[.string ⟨#[]⟩] 9)
 have hst1 : strsAt (w0.alloc (.cells #[.string ⟨#[]⟩] 9)) (.slice (some ⟨w0.heap.size, 0, none⟩) 1 1) [[]] := strs_one w0 []
 obtain ⟨w1, hw1⟩ : ∃ w1, w0.alloc (.cells #[.string ⟨#[]⟩] 9) = w1 := ⟨_, rfl⟩
 rw [hw1] at hg1 hst1
 have HOF := Lib.hid (pof q m k T [[]] _ w1 (HA.out.later (HF0.out.tr0 hg1)) hst1 (GoodW.empty (by omega)) hk (by omega))
 have HG01 := Lib.hid hg1
 have HIT0 := Lib.hid (fun (wx : World) (hf : Fr (plB q) w0 wx) => HIT.out wx (HF0.out.trans hf (by simp) (fun _ h _ => h)))
 have HO0 := Lib.hid (HO.out.later HF0.out)
 have HQU0 := Lib.hid (HA.out.later HF0.out).quiet
 obtain ⟨c1, c2, c3⟩ := (⟨(HO.out.later HF0.out).c1, (HO.out.later (HF0.out.tr0 hg1)).c2, True.intro⟩ : _ ∧ _ ∧ True)
 clear hg1 hst1 c3
 go_upto_region 2 with (go_at_call 79; refine HOF.out.mono ?_; rintro e w2 ⟨x2, U2, rfl, hx2, hP2, hf2⟩; obtain ⟨n2, a2, c2', b2, rfl, hS2⟩ := hx2.form; have HS2 := Lib.hid hS2; have HP2 := Lib.hid hP2; have HF2 := Lib.hid (HG01.out.trans hf2 (n := plB q) (by simp) (fun _ h _ => h)); have HF12 := Lib.hid hf2; clear hx2 hS2 hP2 hf2)
 have hf6 := Fr.alloc w2 (.cells #[.int .i64 (n2 : Int), .slice a2 1 c2', .bool b2] 93)
 have hb6 := heap_alloc_new w2 (.cells #[.int .i64 (n2 : Int), .slice a2 1 c2', .bool b2] 93)
 obtain ⟨w3, hw3⟩ : ∃ w3, w3 = w2.alloc (.cells #[.int .i64 (n2 : Int), .slice a2 1 c2', .bool b2] 93) := ⟨_, rfl⟩
 obtain ⟨r6, hr6⟩ : ∃ r6, r6 = w2.heap.size := ⟨_, rfl⟩
 rw [← hw3, ← hr6]
 rw [← hw3] at hf6 hb6
 rw [← hr6] at hb6
 have HR6 := Lib.hid (show w0.heap.size ≤ r6 by rw [hr6]; exact HF2.out.size)
 have HBR6 := Lib.hid hb6
 have HF3 := Lib.hid (HF2.out.trans hf6 (n := plB q) (fun _ h _ => h) (by simp))
 have HP3 := Lib.hid (HP2.out.later hf6)
 have HS3 := Lib.hid (HS2.out.keep hf6 (by simp))
 clear hw1 hw3 hr6 hf6 hb6 c1 c2
 go_wp2_with fail
 go_loopw [7, 18] (givenR w0 q r6 k T m ls right) (fun _ iv _ => NR - (intOf iv).toNat)
 case atStart => exact ⟨0, U2, [[]], n2, a2, c2', b2, Nat.zero_le _, rfl, rfl, HBR6.out, HS3.out, OfS.start ls hk1 right, HP3.out.mono (by omega), HF3.out⟩
 case round =>
  obtain ⟨i, U, acc, n, a, c, b, hi, rfl, rfl, hb6, hS, hof, hpool, hfr⟩ := hrel
  rw [← HNR.out] at hi
  obtain ⟨NA, hNA⟩ : ∃ NA, NA = acc.length := ⟨_, rfl⟩
  rw [← hNA] at hb6
  have HNA := Lib.hid hNA
  have HB6 := Lib.hid hb6
  have HS := Lib.hid hS
  have HOF' := Lib.hid hof
  have HPOOL := Lib.hid hpool
  have HFR := Lib.hid hfr
  have HOR := Lib.hid (HO0.out.keep hfr (fun b hb => ⟨HQU0.out b hb, HST.out b hb⟩) U)
  by_cases hin : i < NR
  ·have hd1 : decide (i < NR) = true := decide_eq_true hin
   have hil : i < right.length := by rw [← HNR.out]; exact hin
   obtain ⟨bi, oi, rfl, hci⟩ := int_cell (HIT0.out wr hfr) i hil
   have hsy := HSYM.out _ (List.getElem_mem hil)
   obtain ⟨s, hs⟩ : ∃ s, s = right[i]'hil := ⟨_, rfl⟩
   rw [← hs] at hci hsy
   obtain ⟨hs1, hs2⟩ := hsy
   obtain ⟨ms, hms⟩ : ∃ ms, symW ls s = some ms := by
    by_cases hneg : s < 0
    ·exact ⟨_, sym_term hneg (by omega)⟩
    ·obtain ⟨j, rfl⟩ := Int.eq_ofNat_of_zero_le (show 0 ≤ s by omega)
     exact ⟨_, sym_nont (by omega)⟩
   have HMS := Lib.hid hms
   have HSS := Lib.hid (show symW ls (right[i]'hil) = some ms from by rw [← hs]; exact hms)
   clear hms hs hb6 hS hof hpool hfr hNA
   go_upto_region 5 with fail
   have hr6q : r6 ∉ plB q := by have := HQL.out; have := HR6.out; have := HF0.out.size; simp [plB]; omega
   refine wp_region_X (plB q) 12 [(0, 0), (1, 0), (2, 0), (3, 0), (4, 0), (5, 0), (6, 0), (7, 1), (8, 1), (9, 3), (10, 3), (11, 3), (12, 2), (13, 2)] 39 rfl (by kernel_rfl) (by kernel_rfl) (by kernel_rfl) (fun c a d v w h => by cases d <;> exact h) (fun w2 hf2 => ?_)
   simp only [List.map_cons, List.map_nil, List.getElem?_toArray, List.getElem?_cons_succ, List.getElem?_cons_zero, Option.getD_some]
   have LA : Hid (Later (plB q) w2 (fun w' => w'.heap[r6]? = some (.cells #[.int .i64 (n : Int), .slice a NA c, .bool b] 93 (0, 0)) ∧ w'.cell? ⟨p, 3, none⟩ = some (.pointer (some ⟨q + 2, 0, none⟩)))) := Lib.hid (fun w' hf' => ⟨hf'.heap (hf2.heap HB6.out (by simp)) hr6q, hf'.cell ((HOR.out.later hf2).c1) (fun hm => (HST.out p hm).1 rfl)⟩)
   have HF2 := Lib.hid (HFR.out.trans hf2 (n := plB q) (fun _ h _ => h) (by simp))
   have HP2 := Lib.hid (HPOOL.out.later hf2)
   have HS2 := Lib.hid (HS.out.keep hf2 (by simp))
   have HO2 := Lib.hid (HOR.out.later hf2)
   have HBR2 := Lib.hid (hf2.heap HB6.out (by simp))
   clear hf2
   repeat (apply walkX_t; · (intro w' hf'; obtain ⟨l1, c1⟩ := LA.out w' hf'; obtain ⟨x0, x1, x2, y0, y1, y2⟩ := three_of_set l1; go_wp2_with fail; exact ⟨rfl, rfl⟩))
   refine walkX_x ?_
   have HFS := Lib.hid (pfirst_sym p q k (T ++ U) nv tv xs ts ls M w2 s ms HO2.out hs1 hs2 hM HMS.out)
   go_wp2_with (go_at_call 98; refine HFS.out.mono ?_; rintro e w3 ⟨x3, rfl, hx3, hf3⟩; obtain ⟨n3, a3, c3, b3, rfl, hS3⟩ := hx3.form; have HX3 := Lib.hid hx3; have HF3 := Lib.hid hf3; clear hx3 hf3 hS3)
   refine ⟨HF3.out.mono (fun i hi _ => by simp at hi), rfl, ?_⟩
   have HPG := Lib.hid (HPR.out q (m + 2 + 4 * i) k (T ++ U) (.agg #[.int .i64 (n : Int), .slice a acc.length c, .bool b]) (.agg #[.int .i64 (n3 : Int), .slice a3 ms.length c3, .bool b3]) acc ms w3 (HP2.out.later HF3.out) ⟨n, _, _, rfl, HS2.out.keep HF3.out (by simp)⟩ HX3.out hk1 hk (by omega))
   rw [← HNA.out] at HPG
   refine walkX_x ?_
   go_wp2_with (go_at_call 97; refine HPG.out.mono ?_; rintro e w4 ⟨n4, a4, z4, c4, b4, V, rfl, hs4, hp4, hf4⟩; have HS4 := Lib.hid hs4; have HP4 := Lib.hid hp4; have HF4 := Lib.hid hf4; clear hs4 hp4 hf4)
   refine ⟨HF4.out, rfl, ?_⟩
   have HF24 := Lib.hid (show Fr (plB q) w2 w4 from HF3.out.trans HF4.out (by simp) (fun _ h _ => h))
   obtain ⟨CT, hCT⟩ : ∃ CT, CT = catW k acc ms := ⟨_, rfl⟩
   obtain ⟨B, hB⟩ : ∃ B, B = decide (CT.length ≤ 4096) := ⟨_, rfl⟩
   rw [← hCT] at HS4
   rw [← hCT, ← hB]
   have HCT := Lib.hid hCT
   have HB := Lib.hid hB
   clear hCT hB
   repeat (apply walkX_p; · (intro w'; go_wp2_with fail; exact ⟨rfl, rfl⟩))
   refine walkX_z ?_
   have hb4 := (LA.out w4 HF24.out).1
   obtain ⟨x0, x1, x2, y0, y1, y2⟩ := three_of_heap hb4
   go_wp2_with fail
   refine ⟨rfl, ?_⟩
   refine walkX_z ?_
   go_wp2_with fail
   refine ⟨rfl, walkX_end ?_⟩
   have hf5 := set3_fr w4 r6 (.int .i64 (n4 : Int)) (.slice a4 z4 c4) (.bool b4)
   have hb5 := set3_heap hb4 (.int .i64 (n4 : Int)) (.slice a4 z4 c4) (.bool b4)
   have hq5 : ∀ b ∈ [r6], NotStr w4 b ∧ b ∉ plB q := fun b hb => by
    rw [List.mem_singleton.1 hb]
    exact ⟨NotStr.cells hb4 (fun z hz x e => by subst e; simp at hz), hr6q⟩
   have hSS5 : CT.length ≤ 4096 → SetAt (((w4.setCell ⟨r6, 0, none⟩ (.int .i64 (n4 : Int))).setCell ⟨r6, 1, none⟩ (.slice a4 z4 c4)).setCell ⟨r6, 2, none⟩ (.bool b4)) k (T ++ U ++ V) (.agg #[.int .i64 (n4 : Int), .slice a4 z4 c4, .bool b4]) CT := fun h => (HS4.out h).keep hf5 (fun b hb => (hq5 b hb).1)
   have hPP5 := HP4.out.keep hf5 hq5
   have hFF5 := (HF2.out.trans HF24.out (n := plB q) (fun _ h _ => h) (fun _ h _ => h)).trans hf5 (fun _ h _ => h) (fun i hi hlt => by simp at hi; have := HR6.out; omega)
   obtain ⟨w5, hw5⟩ : ∃ w5, w5 = ((w4.setCell ⟨r6, 0, none⟩ (.int .i64 (n4 : Int))).setCell ⟨r6, 1, none⟩ (.slice a4 z4 c4)).setCell ⟨r6, 2, none⟩ (.bool b4) := ⟨_, rfl⟩
   rw [← hw5] at hb5 hSS5 hPP5 hFF5 ⊢
   have HB5 := Lib.hid hb5
   have HS5 := Lib.hid hSS5
   have HP5 := Lib.hid hPP5
   have HF5 := Lib.hid hFF5
   clear hw5 hb5 hSS5 hPP5 hFF5 hf5 hq5 hb4 x0 x1 x2 y0 y1 y2 LA
   cases B with
   | true =>
     have hlim : CT.length ≤ 4096 := of_decide_eq_true HB.out.symm
     obtain ⟨n5, a5, c5, b5, he5, hS5⟩ := (HS5.out hlim).form
     have hz : z4 = CT.length := by simp at he5; omega
     have HNX := Lib.hid (HOF'.out.next hk1 hk hil HSS.out (by rw [← HCT.out]; exact hlim))
     rw [← HCT.out] at HNX
     subst hz
     have HSN := Lib.hid (HS5.out hlim).inv
     clear hS5 he5
     go_wp2_with fail
     refine ⟨⟨i + 1, U ++ V, CT, n4, a4, c4, b4, by rw [← HNR.out]; omega, rfl, by go_num, HB5.out, by rw [← List.append_assoc]; exact HSN.out, HNX.out, by rw [← List.append_assoc]; exact HP5.out.mono (by omega), HF5.out⟩, by simp [intOf]; omega⟩
   | false =>
     have hlim : ¬ CT.length ≤ 4096 := of_decide_eq_false HB.out.symm
     have HNONE := Lib.hid (HOF'.out.over hil HSS.out (by rw [← HCT.out]; omega))
     have hb4' : w5.heap[r4]? = some (.cells #[.int .i64 0, .slice none 0 0, .bool false] 93 (0, 0)) := HF5.out.heap HB0.out (by have := HQL.out; have := HR4.out; simp [plB]; omega)
     obtain ⟨x0, x1, x2, y0, y1, y2⟩ := three_of_heap HB5.out
     obtain ⟨t0, t1, t2, o0, o1, o2⟩ := three_of_heap hb4'
     have hs8 := set3_fr w5 r4 (.int .i64 (n4 : Int)) (.slice a4 z4 c4) (.bool b4)
     have HR8 := Lib.hid (set3_heap hb4' (.int .i64 (n4 : Int)) (.slice a4 z4 c4) (.bool b4))
     have hq8 : ∀ b ∈ [r4], NotStr w5 b ∧ b ∉ plB q := fun b hb => by
      rw [List.mem_singleton.1 hb]
      refine ⟨NotStr.cells hb4' (fun z hz x e => by subst e; simp at hz), ?_⟩
      have := HQL.out; have := HR4.out; simp [plB]; omega
     have HF8 := Lib.hid ((HF0.out.trans HF5.out (n := plB q) (by simp) (fun _ h _ => h)).trans hs8 (fun _ h _ => h) (fun i hi hlt => by simp at hi; have := HR4.out; omega))
     have HP8 := Lib.hid (HP5.out.keep hs8 hq8)
     clear hs8 hq8 hb4'
     go_wp2_with fail
     refine bodyPost_ret (results_k rfl _ _ r4 93 #[.int .i64 (n4 : Int), .slice a4 z4 c4, .bool b4] _ rfl HR8.out Tryz.underlying93 rfl sizeSet _ rfl) rfl ?_
     refine ⟨n4, a4, z4, c4, b4, U ++ V, by rw [HNONE.out]; rfl, fun l hl => (by rw [HNONE.out] at hl; cases hl), ?_, HF8.out⟩
     rw [← List.append_assoc, ← HNR.out]
     exact HP8.out.mono (by omega)
  ·have hd1 : decide (i < NR) = false := decide_eq_false hin
   have hie : i = right.length := by rw [← HNR.out]; omega
   have hdone := HOF'.out
   rw [hie] at hdone
   have HDONE := Lib.hid hdone.done
   clear hdone hie hb6 hS hof hpool hfr hNA
   have hb4' : wr.heap[r4]? = some (.cells #[.int .i64 0, .slice none 0 0, .bool false] 93 (0, 0)) := HFR.out.heap HB0.out (by have := HQL.out; have := HR4.out; simp [plB]; omega)
   obtain ⟨x0, x1, x2, y0, y1, y2⟩ := three_of_heap HB6.out
   obtain ⟨t0, t1, t2, o0, o1, o2⟩ := three_of_heap hb4'
   have hs8 := set3_fr wr r4 (.int .i64 (n : Int)) (.slice a NA c) (.bool b)
   have HR8 := Lib.hid (set3_heap hb4' (.int .i64 (n : Int)) (.slice a NA c) (.bool b))
   have hq8 : ∀ b ∈ [r4], NotStr wr b ∧ b ∉ plB q := fun b hb => by
    rw [List.mem_singleton.1 hb]
    refine ⟨NotStr.cells hb4' (fun z hz x e => by subst e; simp at hz), ?_⟩
    have := HQL.out; have := HR4.out; simp [plB]; omega
   have HF8 := Lib.hid ((HF0.out.trans HFR.out (n := plB q) (by simp) (fun _ h _ => h)).trans hs8 (fun _ h _ => h) (fun i hi hlt => by simp at hi; have := HR4.out; omega))
   have HP8 := Lib.hid (HPOOL.out.keep hs8 hq8)
   have HS8 := Lib.hid (HS.out.keep hs8 (fun b hb => (hq8 b hb).1))
   clear hs8 hq8 hb4'
   go_wp2_with fail
   refine bodyPost_ret (results_k rfl _ _ r4 93 #[.int .i64 (n : Int), .slice a NA c, .bool b] _ rfl HR8.out Tryz.underlying93 rfl sizeSet _ rfl) rfl ?_
   refine ⟨n, a, NA, c, b, U, by rw [HDONE.out]; rfl, fun l hl => ?_, HP8.out.mono (by rw [← HNR.out]; omega), HF8.out⟩
   rw [HDONE.out] at hl
   obtain rfl := Option.some.inj hl
   have h := HS8.out
   rw [← HNA.out] at h
   exact ⟨n, _, _, rfl, h⟩
end Go.Proofs.YtnaamjpiaekmeaaGreat
namespace Go.Proofs.YtnaamjpiaekmeaaGreat
open Go.RowKit Go.Maps
def ptrU (u : Nat) : Value := .pointer (some ⟨u + 2, 0, none⟩)
structure SeaC where
 (p q bn bd br bu N R M : Nat)
 (x1 x2 x3 tv wv : Value)
 (k : Int)
 (rv uv : List Value)
 (rl ul : List (List Int))
 (us : List Nat)
 (ts : List (List Value))
def SeaC.wb (c : SeaC) : List Nat := c.bn :: c.bd :: coreB c.q c.us
structure SeaAt (w : World) (c : SeaC) (T : List Words) (m : Nat) (Ks : List Words) (xs : List (List Value)) (ls : List Words) (D : List Bool) : Prop where
 obj : w.heap[c.p]? = some (.cells #[c.x1, c.x2, c.x3, .pointer (some ⟨c.q + 2, 0, none⟩), .slice (some ⟨c.bn, 0, none⟩) c.N c.N, c.tv, c.wv, .slice (some ⟨c.br, 0, none⟩) c.N c.N, .slice (some ⟨c.bu, 0, none⟩) c.N c.N, .slice (some ⟨c.bd, 0, none⟩) c.R c.R] 66 (0, 0))
 core : CoreAt w c.q c.k T m c.us Ks
 names : w.heap[c.bn]? = some (.cells xs.flatten.toArray 93 (0, 0))
 sets : SetsL w c.k T xs ls
 trow : ownsS w 0 93 3 c.tv c.ts.length c.ts.flatten
 tsets : SetsL w c.k T c.ts (termsW c.M)
 tne : ∀ b, c.tv.ownBlock = some b → b ≠ c.bn
 wrow : w.ownsRow 0 89 1 c.wv c.us.length (c.us.map ptrU)
 rules : RowI w 0 c.br c.rv c.rl
 uses : RowI w 0 c.bu c.uv c.ul
 due : boolRow w c.bd D
 num : xs.length = c.N
 small : c.N ≤ 256
section
variable {w w' : World} {c : SeaC} {T : List Words} {m : Nat} {Ks : List Words} {xs : List (List Value)} {ls : List Words} {D : List Bool}
theorem SeaAt.notW (h : SeaAt w c T m Ks xs ls D) {b : Nat} {cs : Array Value} {t : TypeId} {fr : Nat × Nat} (ht : w.heap[b]? = some (.cells cs t fr)) (h1 : t ≠ 132) (h2 : t ≠ 139) (h3 : t = 93 → b ≠ c.bn) (h4 : t ≠ 4) : b ∉ c.wb := fun hm => by
 unfold SeaC.wb at hm
 rcases List.mem_cons.1 hm with rfl | hm
 ·by_cases e : t = 93
  ·exact h3 e rfl
  ·rw [h.names] at ht
   injection ht with ht
   injection ht with _ e2 _
   exact e e2.symm
 rcases List.mem_cons.1 hm with rfl | hm
 ·have h5 := h.due
  unfold boolRow at h5
  rw [h5] at ht
  injection ht with ht
  injection ht with _ e2 _
  exact h4 e2.symm
 ·exact h.core.notB ht h1 h2 hm
theorem SeaAt.quietW (h : SeaAt w c T m Ks xs ls D) : ∀ b ∈ c.wb, NotStr w b := fun b hm => by
 unfold SeaC.wb at hm
 rcases List.mem_cons.1 hm with rfl | hm
 ·refine NotStr.cells h.names (fun z hz x e => ?_)
  subst e
  simp only at hz
  obtain ⟨l, hl, hz⟩ := List.mem_flatten.1 hz
  obtain ⟨i, hi, rfl⟩ := List.getElem_of_mem hl
  obtain ⟨n, a, c', b', hx, _⟩ := h.sets.at_ i hi (by rw [← h.sets.len]; exact hi)
  rw [hx] at hz
  simp at hz
 rcases List.mem_cons.1 hm with rfl | hm
 ·have h5 := h.due
  unfold boolRow at h5
  refine NotStr.cells h5 (fun z hz x e => ?_)
  subst e
  simp at hz
 ·exact h.core.quietB b hm
theorem SeaAt.rowN {t : TypeId} {sz : Nat} {v : Value} {n : Nat} {ys : List Value} (h : SeaAt w c T m Ks xs ls D) (ho : w.ownsRow 0 t sz v n ys) (h1 : t ≠ 132) (h2 : t ≠ 139) (h3 : t = 93 → ∀ b, v.ownBlock = some b → b ≠ c.bn) (h4 : t ≠ 4) : ∀ b, v.ownBlock = some b → b ∉ c.wb := fun b hb => by
 rcases ho.2 with ⟨rfl, _⟩ | ⟨g, cap, cur, rfl, _, hg, _⟩
 ·cases hb
 ·cases hb
  exact h.notW hg h1 h2 (fun e => h3 e g rfl) h4
theorem SeaAt.step {L : List Nat} (h : SeaAt w c T m Ks xs ls D) (hf : Fr L w w') (hL : ∀ b ∈ L, b ∈ c.wb) {U : List Words} {m' : Nat} {Ks' : List Words} {xs' : List (List Value)} {ls' : List Words} {D' : List Bool}
  (hcore : CoreAt w' c.q c.k (T ++ U) m' c.us Ks') (hnames : w'.heap[c.bn]? = some (.cells xs'.flatten.toArray 93 (0, 0))) (hsets : SetsL w' c.k (T ++ U) xs' ls') (hdue : boolRow w' c.bd D') (hnum : xs'.length = c.N) : SeaAt w' c (T ++ U) m' Ks' xs' ls' D' := by
 have hq : ∀ b ∈ L, NotStr w b := fun b hb => h.quietW b (hL b hb)
 have hb : ∀ {b : Nat}, b ∉ c.wb → b ∉ L := fun hn hm => hn (hL _ hm)
 refine ⟨hf.heap h.obj (hb (h.notW h.obj (by decide) (by decide) (fun e => absurd e (by decide)) (by decide))), hcore, hnames, hsets, h.trow.kept hf (fun b hbb => hb (h.rowN h.trow.owns (by decide) (by decide) (fun _ => h.tne) (by decide) b hbb)), h.tsets.keep hf hq U, h.tne, owns_kept h.wrow hf (fun b hbb => hb (h.rowN h.wrow (by decide) (by decide) (fun e => absurd e (by decide)) (by decide) b hbb)), ?_, ?_, hdue, hnum, h.small⟩
 ·exact ⟨hf.heap h.rules.row (hb (h.notW h.rules.row (by decide) (by decide) (fun e => absurd e (by decide)) (by decide))), h.rules.len, fun i h1 h2 => owns_kept (h.rules.own i h1 h2) hf (fun b hbb => hb (h.rowN (h.rules.own i h1 h2) (by decide) (by decide) (fun e => absurd e (by decide)) (by decide) b hbb))⟩
 ·exact ⟨hf.heap h.uses.row (hb (h.notW h.uses.row (by decide) (by decide) (fun e => absurd e (by decide)) (by decide))), h.uses.len, fun i h1 h2 => owns_kept (h.uses.own i h1 h2) hf (fun b hbb => hb (h.rowN (h.uses.own i h1 h2) (by decide) (by decide) (fun e => absurd e (by decide)) (by decide) b hbb))⟩
theorem SeaAt.ne_nd (h : SeaAt w c T m Ks xs ls D) : c.bn ≠ c.bd := fun e => by
 have h1 := h.names
 have h2 := h.due
 unfold boolRow at h2
 rw [e, h2] at h1
 injection h1 with h1
 injection h1 with _ h1 _
 exact absurd h1 (by decide)
theorem SeaAt.bn_core (h : SeaAt w c T m Ks xs ls D) : c.bn ∉ coreB c.q c.us := h.core.notB h.names (by decide) (by decide)
theorem SeaAt.bd_core (h : SeaAt w c T m Ks xs ls D) : c.bd ∉ coreB c.q c.us := by
 have h2 := h.due
 unfold boolRow at h2
 exact h.core.notB h2 (by decide) (by decide)
theorem SeaAt.later (h : SeaAt w c T m Ks xs ls D) (hf : Fr [] w w') : SeaAt w' c T m Ks xs ls D := by
 have hd : boolRow w' c.bd D := h.due.below hf
 have := h.step (U := []) hf (by simp) (by rw [List.append_nil]; exact h.core.later hf) (hf.heap h.names (by simp)) (h.sets.keep hf (by simp) []) hd h.num
 rwa [List.append_nil] at this
theorem SeaAt.mono (h : SeaAt w c T m Ks xs ls D) {m' : Nat} (hm : m ≤ m') : SeaAt w c T m' Ks xs ls D := ⟨h.obj, h.core.mono hm, h.names, h.sets, h.trow, h.tsets, h.tne, h.wrow, h.rules, h.uses, h.due, h.num, h.small⟩
theorem SeaAt.stepC (h : SeaAt w c T m Ks xs ls D) {L : List Nat} (hf : Fr L w w') (hL : ∀ b ∈ L, b ∈ coreB c.q c.us) {U : List Words} {m' : Nat} {Ks' : List Words} (hcore : CoreAt w' c.q c.k (T ++ U) m' c.us Ks') : SeaAt w' c (T ++ U) m' Ks' xs ls D := by
 have hq : ∀ b ∈ L, NotStr w b := fun b hb => h.core.quietB b (hL b hb)
 have h2 := h.due
 unfold boolRow at h2
 have hd : boolRow w' c.bd D := by
  unfold boolRow
  exact hf.heap h2 (fun hm => h.bd_core (hL _ hm))
 exact h.step hf (fun b hb => by unfold SeaC.wb; simp [hL b hb]) hcore (hf.heap h.names (fun hm => h.bn_core (hL _ hm))) (h.sets.keep hf hq U) hd h.num
theorem SeaAt.mark (h : SeaAt w c T m Ks xs ls D) (j : Nat) (b : Bool) : SeaAt (w.setCell ⟨c.bd, j, none⟩ (.bool b)) c T m Ks xs ls (D.set j b) := by
 have hf := Fr.set0 w c.bd j (.bool b)
 have hq : ∀ b ∈ [c.bd], NotStr w b := fun b hb => by rw [List.mem_singleton.1 hb]; exact h.quietW _ (by unfold SeaC.wb; simp)
 have hc := h.core.keep hf (fun b hb => by
  refine ⟨hq b hb, ?_⟩
  rw [List.mem_singleton.1 hb]
  have h2 := h.due
  unfold boolRow at h2
  exact h.core.apart h2 (by decide) (by decide))
 have := h.step (U := []) hf (fun b hb => by unfold SeaC.wb; simp [List.mem_singleton.1 hb]) (by rw [List.append_nil]; exact hc) (hf.heap h.names (by simpa using h.ne_nd)) (h.sets.keep hf hq []) (h.due.set j b) h.num
 rwa [List.append_nil] at this
theorem SeaAt.syms (h : SeaAt w c T m Ks xs ls D) : SymO w c.p c.q c.k T (.slice (some ⟨c.bn, 0, none⟩) c.N c.N) c.tv xs c.ts ls c.M := by
 have ho := h.obj
 have hl3 : xs.flatten.length = c.N * 3 := by
  have : ∀ ys : List (List Value), (∀ x ∈ ys, x.length = 3) → ys.flatten.length = ys.length * 3 := by
   intro ys
   induction ys with
   | nil => intro _; rfl
   | cons y r ih =>
     intro hy
     rw [List.flatten_cons, List.length_append, hy y (by simp), ih (fun x hx => hy x (by simp [hx])), List.length_cons]
     omega
  rw [this xs h.sets.three, h.num]
 have hn : w.ownsRow 0 93 3 (.slice (some ⟨c.bn, 0, none⟩) c.N c.N) xs.length xs.flatten := by
  rw [h.num]
  exact ⟨hl3, .inr ⟨c.bn, c.N, xs.flatten.toArray, rfl, Nat.zero_le _, h.names, Nat.le_refl _, by have := h.small; simp only [maxLen]; omega, by simp [hl3], by simp [hl3, List.take_of_length_le]⟩⟩
 exact ⟨by rw [cell_of_heap ho]; rfl, by rw [cell_of_heap ho]; rfl, by rw [cell_of_heap ho]; rfl, elems_of_owns hn h.sets.three, elems_of_owns h.trow.owns h.tsets.three, h.sets, h.tsets⟩
end
end Go.Proofs.YtnaamjpiaekmeaaGreat
namespace Go.Proofs.YtnaamjpiaekmeaaGreat
open Go.RowKit Go.Maps
def IntB (w : World) (b : Nat) : Prop := ∃ cs t fr, w.heap[b]? = some (.cells cs t fr) ∧ (t = 3 ∨ t = 39) ∧ NotStr w b
structure NwT (w : World) (p q bn bd : Nat) (O : Array Value) (tv wv : Value) (k : Int) (N R M : Nat) (T : List Words) (m : Nat) (us : List Nat) (Ks : List Words) (xs ts : List (List Value)) (ls : List Words) : Prop where
 obj : w.heap[p]? = some (.cells O 66 (0, 0))
 core : CoreAt w q k T m us Ks
 names : w.heap[bn]? = some (.cells xs.flatten.toArray 93 (0, 0))
 sets : SetsL w k T xs ls
 trow : ownsS w 0 93 3 tv ts.length ts.flatten
 tsets : SetsL w k T ts (termsW M)
 wrow : w.ownsRow 0 89 1 wv us.length (us.map ptrU)
 due : boolRow w bd (List.replicate R true)
section
variable {w w' : World} {p q bn bd : Nat} {O : Array Value} {tv wv : Value} {k : Int} {N R M : Nat} {T : List Words} {m : Nat} {us : List Nat} {Ks : List Words} {xs ts : List (List Value)} {ls : List Words}
theorem IntB.ne {b c : Nat} {cs : Array Value} {t : TypeId} {fr : Nat × Nat} (h : IntB w b) (hc : w.heap[c]? = some (.cells cs t fr)) (h1 : t ≠ 3) (h2 : t ≠ 39) : c ≠ b := fun e => by
 subst e
 obtain ⟨cs', t', fr', hb, ht, _⟩ := h
 rw [hb] at hc
 injection hc with hc
 injection hc with _ e2 _
 rcases ht with ht | ht
 ·exact h1 (by rw [← e2, ht])
 ·exact h2 (by rw [← e2, ht])
theorem IntB.own {b : Nat} {sz n base : Nat} {v : Value} {ys : List Value} {t : TypeId} (h : IntB w b) (ho : w.ownsRow base t sz v n ys) (h1 : t ≠ 3) (h2 : t ≠ 39) : v.ownBlock ≠ some b := fun e => by
 rcases ho.2 with ⟨rfl, _⟩ | ⟨g, cap, cur, rfl, _, hg, _⟩
 ·cases e
 ·injection e with e
  exact h.ne hg h1 h2 e
theorem NwT.keep {L : List Nat} (h : NwT w p q bn bd O tv wv k N R M T m us Ks xs ts ls) (hf : Fr L w w') (hL : ∀ b ∈ L, IntB w b) : NwT w' p q bn bd O tv wv k N R M T m us Ks xs ts ls := by
 have hq : ∀ b ∈ L, NotStr w b := fun b hb => by obtain ⟨_, _, _, _, _, h⟩ := hL b hb; exact h
 have hn : ∀ {c : Nat} {cs : Array Value} {t : TypeId} {fr : Nat × Nat}, w.heap[c]? = some (.cells cs t fr) → t ≠ 3 → t ≠ 39 → c ∉ L := fun hc h1 h2 hm => (hL _ hm).ne hc h1 h2 rfl
 have hs := h.sets.keep hf hq []
 have ht := h.tsets.keep hf hq []
 rw [List.append_nil] at hs ht
 have hd := h.due
 unfold boolRow at hd
 refine ⟨hf.heap h.obj (hn h.obj (by decide) (by decide)), h.core.keep hf (fun b hb => ?_), hf.heap h.names (hn h.names (by decide) (by decide)), hs, h.trow.kept hf (fun b hb hm => (hL b hm).own h.trow.owns (by decide) (by decide) hb), ht, owns_kept h.wrow hf (fun b hb hm => (hL b hm).own h.wrow (by decide) (by decide) hb), ?_⟩
 ·obtain ⟨cs, t, fr, hbb, ht, hq⟩ := hL b hb
  refine ⟨hq, h.core.apart hbb ?_ ?_⟩
  ·rcases ht with rfl | rfl <;> decide
  ·rcases ht with rfl | rfl <;> decide
 ·unfold boolRow
  exact hf.heap hd (hn hd (by decide) (by decide))
theorem NwT.later (h : NwT w p q bn bd O tv wv k N R M T m us Ks xs ts ls) (hf : Fr [] w w') : NwT w' p q bn bd O tv wv k N R M T m us Ks xs ts ls := h.keep hf (by simp)
def QuI (w : World) (rv : List Value) : Prop := ∀ i (h : i < rv.length), ∀ b ∈ (rv[i]'h).ownBlock.toList, NotStr w b
theorem NotStr.same {w w' : World} {b : Nat} (h : NotStr w b) (e : w'.heap[b]? = w.heap[b]?) : NotStr w' b := fun i x q => h i x (by
 rw [← q]
 simp only [World.cell?, e])
theorem rowI_quiet {base b : Nat} {vs : List Value} {ls : List (List Int)} (h : RowI w base b vs ls) : NotStr w b := by
 refine NotStr.cells h.row (fun z hz x e => ?_)
 subst e
 obtain ⟨i, hi, hz⟩ := List.getElem_of_mem hz
 have ho := h.own i hi (by rw [← h.len]; exact hi)
 simp only at hz
 obtain ⟨a, c, e2, _, _⟩ := owns_slice ho
 have hz' : vs[i]'hi = .string x := hz
 rw [e2] at hz'
 cases hz'
theorem QuI.int {base b : Nat} {vs : List Value} {ls : List (List Int)} (hq : QuI w vs) (h : RowI w base b vs ls) {i : Nat} (hi : i < vs.length) : ∀ c ∈ (vs[i]'hi).ownBlock.toList, IntB w c := fun c hc => by
 have ho := h.own i hi (by rw [← h.len]; exact hi)
 rcases ho.2 with ⟨e, _⟩ | ⟨g, cap, cur, e, _, hg, _⟩
 ·rw [e] at hc; simp [Value.ownBlock] at hc
 ·have hc2 := hc
  rw [e] at hc2
  have e2 : c = g := by simpa [Value.ownBlock] using hc2
  subst e2
  exact ⟨cur, _, _, hg, .inl rfl, hq i hi c hc⟩
theorem QuI.later {l : List Value} (hq : QuI w l) {base b : Nat} {ls : List (List Int)} (h : RowI w base b l ls) (hf : Fr [] w w') : QuI w' l := fun i hi c hc => by
 have ho := h.own i hi (by rw [← h.len]; exact hi)
 have hlt := (ho.lt c (by simpa [Option.mem_toList] using hc)).2
 exact (hq i hi c hc).same (hf.block c hlt (by simp))
theorem QuI.push {base br bu i n : Nat} {rv uv : List Value} {rl ul : List (List Int)} {v' : Value} {ys : List Value} (h : GrI w base br bu rv uv rl ul) (hr : QuI w rv) (hu : QuI w uv) (hi : i < rv.length) (hf : Fr (rv[i]'hi).ownBlock.toList w w') (h' : ownsS w' base 3 1 v' n ys) :
  QuI (w'.setCell ⟨br, i, none⟩ v') (rv.set i v') ∧ QuI (w'.setCell ⟨br, i, none⟩ v') uv := by
 have hbr7 : w'.heap[br]? = some (.cells rv.toArray 39 (0, 0)) := hf.heap h.r.row (own_ne (h.r.own i hi (by rw [← h.r.len]; exact hi)) h.r.row (by decide))
 have hs := Fr.set0 w' br i v'
 have stay : ∀ c, c < w.heap.size → c ∉ (rv[i]'hi).ownBlock.toList → c ≠ br → NotStr w c → NotStr (w'.setCell ⟨br, i, none⟩ v') c := fun c h1 h2 h3 h4 =>
  (h4.same (hf.block c h1 h2)).same (hs.block c (Nat.lt_of_lt_of_le h1 hf.size) (by simpa using h3))
 have other : ∀ (v : Value) (m : Nat) (zs : List Value), w.ownsRow base 3 1 v m zs → (∀ k, v.ownBlock = some k → (rv[i]'hi).ownBlock ≠ some k) → ∀ c ∈ v.ownBlock.toList, NotStr w c → NotStr (w'.setCell ⟨br, i, none⟩ v') c := fun v m zs ho hne c hc hq => by
  have hc' : v.ownBlock = some c := by simpa [Option.mem_toList] using hc
  refine stay c (ho.lt c hc').2 (fun hm => hne c hc' (by simpa [Option.mem_toList] using hm)) (fun e => ?_) hq
  subst e
  exact own_ne ho h.r.row (by decide) hc
 refine ⟨fun j hj c hc => ?_, fun j hj c hc => ?_⟩
 ·rw [List.length_set] at hj
  rw [List.getElem_set] at hc
  by_cases e : i = j
  ·rw [if_pos e] at hc
   have h5 := h'.quiet c hc
   refine NotStr.same (w := w') h5 (hs.block c (h'.lt c (by simpa [Option.mem_toList] using hc)).2 (fun hm => ?_))
   have e2 : c = br := by simpa using hm
   subst e2
   exact own_ne h'.owns hbr7 (by decide) hc
  ·rw [if_neg e] at hc
   exact other _ _ _ (h.r.own j hj (by rw [← h.r.len]; exact hj)) (fun k hk => h.ar j i hj hi (fun q => e q.symm) k hk) c hc (hr j hj c hc)
 ·exact other _ _ _ (h.u.own j hj (by rw [← h.u.len]; exact hj)) (fun k hk q => h.x i j hi hj k q hk) c hc (hu j hj c hc)
end
theorem madeCells3 (a b c : Value) (n : Nat) : madeCells #[a, b, c] (n * 3) = (List.replicate n [a, b, c]).flatten.toArray := by
 have hl : ∀ n : Nat, (List.replicate n [a, b, c]).flatten.length = n * 3 := fun n => by
  induction n with
  | zero => rfl
  | succ n ih => rw [List.replicate_succ, List.flatten_cons, List.length_append, ih]; simp; omega
 have hg : ∀ (n i : Nat) (h : i < n * 3), (List.replicate n [a, b, c]).flatten[i]? = some (#[a, b, c][i % 3]!) := fun n => by
  induction n with
  | zero => intro i h; omega
  | succ n ih =>
    intro i h
    rw [List.replicate_succ, List.flatten_cons]
    by_cases e : i < 3
    ·rw [List.getElem?_append_left (by simpa using e), Nat.mod_eq_of_lt e]
     match i, e with
     | 0, _ => rfl
     | 1, _ => rfl
     | 2, _ => rfl
    ·rw [List.getElem?_append_right (by simp; omega)]
     show (List.replicate n [a, b, c]).flatten[i - 3]? = _
     rw [ih (i - 3) (by omega)]
     congr 2
     omega
 apply Array.ext
 ·simp [madeCells, hl]
 ·intro i h1 h2
  have h3 : i < n * 3 := by simpa [madeCells] using h1
  have h4 := hg n i h3
  have h5 : i < (List.replicate n [a, b, c]).flatten.length := by rw [hl]; exact h3
  rw [List.getElem?_eq_getElem h5] at h4
  simp only [madeCells, Array.getElem_map, Array.getElem_range, List.getElem_toArray]
  exact (Option.some.inj h4).symm
theorem wpL_make3 {P : Program} {w : World} {ops : Array Oper} {rest : List Oper} {o : Oper} {a : Act} {Q : Exit → Act → World → Prop} (hg : o.guard = none) (l c : Operand) (t : TypeId) (hop : o.op = Op.makeSlice t l c)
  (e : TypeId) (i : TypeInfo) (z0 z1 z2 : Value) (bytes : Nat) (h1 : P.underlying t = some (.slice e)) (h2 : P.info? e = some i) (h3 : i.zero = some (.agg #[z0, z1, z2])) (h4 : i.size = 3) (h5 : i.bytes = bytes)
  (n : Nat) (hl : a.eval l = .int .i64 n) (hc : a.eval c = .int .i64 n) (hb : bytes * n ≤ 281474976710656) (hm : n ≤ maxLen)
  (hK : ∀ w', Hid (w'.heap[w.heap.size]? = some (.cells (List.replicate n [z0, z1, z2]).flatten.toArray e (0, 0))) → Fr [] w w' → wpList P ops Q rest (a.put o.dst (.slice (some ⟨w.heap.size, 0, none⟩) n n)) w') :
  wpList P ops Q (o :: rest) a w := by
 refine wpList_plain hg fun K hK' => ?_
 have h63 : (n : Int) ≤ 9223372036854775807 := by have h := hm; simp [maxLen] at h; omega
 have hb' : (i.bytes : Int) * (n : Int) ≤ 281474976710656 := by
  have h : ((i.bytes * n : Nat) : Int) ≤ 281474976710656 := by rw [h5]; omega
  rwa [Int.natCast_mul] at h
 have hr := run_make (P := P) w t e i (.agg #[z0, z1, z2]) h1 h2 h3 .i64 .i64 n n (by omega) (Int.le_refl _) hb' h63
 have hz : (Value.agg #[z0, z1, z2]).cells = #[z0, z1, z2] := rfl
 simp only [Int.toNat_natCast, h4, hz, madeCells3] at hr
 have hK2 := hK' _ _ (hK (w.alloc (.cells (List.replicate n [z0, z1, z2]).flatten.toArray e)) (heap_alloc_new w _) (Fr.alloc w _))
 obtain ⟨X, hX⟩ : ∃ X, X = (List.replicate n [z0, z1, z2]).flatten.toArray := ⟨_, rfl⟩
 rw [← hX] at hr hK2
 clear hX
 unfold Oper.wp
 simp [execOp, hop, hl, hc, hr, Result.andThen]
 exact hK2
theorem SetsL.zeros (w : World) (k : Int) (T : List Words) (n : Nat) : SetsL w k T (List.replicate n [.int .i64 0, .slice none 0 0, .bool false]) (List.replicate n []) := by
 refine ⟨by simp, fun i h1 h2 => ?_⟩
 rw [List.getElem_replicate, List.getElem_replicate]
 exact ⟨0, none, 0, false, rfl, rfl, cellsAt.nil _, fun h => (by cases h), .nil k⟩
end Go.Proofs.YtnaamjpiaekmeaaGreat
namespace Go.Proofs.YtnaamjpiaekmeaaGreat
open Go.RowKit Go.Maps
def nwObj (x1 x2 x3 : Value) (q bn br bu bd N R : Nat) (tv wv : Value) : Array Value := #[x1, x2, x3, .pointer (some ⟨q + 2, 0, none⟩), .slice (some ⟨bn, 0, none⟩) N N, tv, wv, .slice (some ⟨br, 0, none⟩) N N, .slice (some ⟨bu, 0, none⟩) N N, .slice (some ⟨bd, 0, none⟩) R R]
theorem owns_block {w : World} {base sz n b : Nat} {t : TypeId} {v : Value} {ys : List Value} (ho : w.ownsRow base t sz v n ys) (hb : b ∈ v.ownBlock.toList) : ∃ cs, w.heap[b]? = some (.cells cs t (0, 0)) := by
 rcases ho.2 with ⟨rfl, _⟩ | ⟨g, cap, cur, rfl, _, hg, _⟩
 ·simp [Value.ownBlock] at hb
 ·have e : b = g := by simpa [Value.ownBlock] using hb
  subst e
  exact ⟨cur, hg⟩
theorem ownsS.base {w : World} {base base' sz n : Nat} {t : TypeId} {v : Value} {ys : List Value} (h : ownsS w base t sz v n ys) (hb : base' ≤ base) : ownsS w base' t sz v n ys :=
 ownsS_of (owns_base h.owns (fun k hk => Nat.le_trans hb (h.lt k hk).1)) h.quiet
theorem ne_type {w : World} {b c : Nat} {cs cs' : Array Value} {t t' : TypeId} {fr fr' : Nat × Nat} (hb : w.heap[b]? = some (.cells cs t fr)) (hc : w.heap[c]? = some (.cells cs' t' fr')) (h : t ≠ t') : b ≠ c := fun e => by
 subst e
 rw [hb] at hc
 injection hc with hc
 injection hc with _ e _
 exact h e
structure NwB (w : World) (bn br bu bd N R : Nat) : Prop where
 names : w.heap[bn]? = some (.cells (List.replicate N [Value.int .i64 0, Value.slice none 0 0, Value.bool false]).flatten.toArray 93 (0, 0))
 rules : w.heap[br]? = some (.cells (List.replicate N (Value.slice none 0 0)).toArray 39 (0, 0))
 uses : w.heap[bu]? = some (.cells (List.replicate N (Value.slice none 0 0)).toArray 39 (0, 0))
 due : boolRow w bd (List.replicate R true)
theorem NwB.keep {w w' : World} {bn br bu bd N R : Nat} {L : List Nat} (h : NwB w bn br bu bd N R) (hf : Fr L w w') (hL : ∀ b ∈ L, ∀ cs t fr, w.heap[b]? = some (.cells cs t fr) → t ≠ 93 ∧ t ≠ 39 ∧ t ≠ 4) : NwB w' bn br bu bd N R := by
 have hd := h.due
 unfold boolRow at hd
 refine ⟨hf.heap h.names (fun hm => (hL _ hm _ _ _ h.names).1 rfl), hf.heap h.rules (fun hm => (hL _ hm _ _ _ h.rules).2.1 rfl), hf.heap h.uses (fun hm => (hL _ hm _ _ _ h.uses).2.1 rfl), ?_⟩
 unfold boolRow
 exact hf.heap hd (fun hm => (hL _ hm _ _ _ hd).2.2 rfl)
structure NwW (w0 w : World) (p q bn br bu bd N R : Nat) (k : Int) (x1 x2 x3 : Value) (us : List Nat) (v : Value) : Prop where
 obj : w.heap[p]? = some (.cells (nwObj x1 x2 x3 q bn br bu bd N R (.slice none 0 0) v) 66 (0, 0))
 row : ownsS w w0.heap.size 89 1 v us.length (us.map ptrU)
 core : CoreAt w q k [] 0 us (List.replicate us.length [])
 big : ∀ u ∈ us, w0.heap.size ≤ u
 made : NwB w bn br bu bd N R
 fr : Fr [] w0 w
section
variable {w0 w w' w5 w8 : World} {p q bn br bu bd N R : Nat} {k : Int} {x1 x2 x3 v v8 : Value} {us : List Nat}
theorem NwW.later (h : NwW w0 w p q bn br bu bd N R k x1 x2 x3 us v) (hf : Fr [] w w') : NwW w0 w' p q bn br bu bd N R k x1 x2 x3 us v :=
 ⟨hf.heap h.obj (by simp), h.row.kept hf (by simp), h.core.later hf, h.big, h.made.keep hf (by simp), h.fr.tr0 hf⟩
theorem quiet_obj {tv wv : Value} {w : World} (h1 : notS x1) (h2 : notS x2) (h3 : notS x3) (h4 : notS tv) (h5 : notS wv) (h : w.heap[p]? = some (.cells (nwObj x1 x2 x3 q bn br bu bd N R tv wv) 66 (0, 0))) : NotStr w p := by
 refine NotStr.cells h (fun z hz x e => ?_)
 subst e
 simp only [nwObj, List.mem_cons, List.not_mem_nil, or_false, reduceCtorEq, false_or] at hz
 rcases hz with e | e | e | e | e
 ·exact h1 x e.symm
 ·exact h2 x e.symm
 ·exact h3 x e.symm
 ·exact h4 x e.symm
 ·exact h5 x e.symm
theorem notS_slice (a : Option Addr) (n c : Nat) : notS (.slice a n c) := fun _ e => by cases e
theorem ownsS.notS {base sz n : Nat} {t : TypeId} {ys : List Value} (h : ownsS w base t sz v n ys) : notS v := by
 obtain ⟨a, c, rfl, _⟩ := owns_slice h.owns
 exact notS_slice _ _ _
theorem NwW.next (h : NwW w0 w p q bn br bu bd N R k x1 x2 x3 us v) (hp : w0.heap.size ≤ p) (h1 : notS x1) (h2 : notS x2) (h3 : notS x3) (hf5 : Fr [] w w5) (hu : UniAt w5 w.heap.size q k [] [])
  (hown : ownsS w8 w0.heap.size 89 1 v8 (us.length + 1) (us.map ptrU ++ [ptrU w.heap.size])) (hf8 : Fr v.ownBlock.toList w5 w8) : NwW w0 (w8.setCell ⟨p, 6, none⟩ v8) p q bn br bu bd N R k x1 x2 x3 (us ++ [w.heap.size]) v8 := by
 have h5 := h.later hf5
 have c5 : CoreAt w5 q k [] 0 (us ++ [w.heap.size]) (List.replicate (us ++ [w.heap.size]).length []) := by
  have := h.core.push hf5 hu (fun i hi => by
   obtain ⟨n, y, b, V, h9, _⟩ := (h.core.unis i hi (by simpa using hi)).obj
   have := (Array.getElem?_eq_some_iff.1 h9).1
   omega) (by
   obtain ⟨c, _, _, h9⟩ := h.core.pool.obj
   have := (Array.getElem?_eq_some_iff.1 h9).1
   omega)
  rwa [List.length_append, List.length_singleton, List.replicate_succ']
 have hob := fun b hb => owns_block (b := b) h5.row.owns hb
 have c8 := c5.keep hf8 (fun b hb => by
  obtain ⟨cs, hc⟩ := hob b hb
  exact ⟨h5.row.quiet b hb, c5.apart hc (by decide) (by decide)⟩)
 have o8 := hf8.heap h5.obj (fun hm => by
  obtain ⟨cs, hc⟩ := hob _ hm
  exact ne_type hc h5.obj (by decide) rfl)
 have m8 := h5.made.keep hf8 (fun b hb cs t fr hc => by
  obtain ⟨cs', hc'⟩ := hob b hb
  rw [hc'] at hc
  cases hc
  decide)
 have f8 : Fr [] w0 w8 := h5.fr.trans hf8 (by simp) (fun b hb hlt => by
  have := (h5.row.lt b (by simpa [Option.mem_toList] using hb)).1
  omega)
 have hs := Fr.set0 w8 p 6 v8
 have hq8 := quiet_obj h1 h2 h3 (notS_slice none 0 0) h.row.notS o8
 refine ⟨?_, ?_, ?_, ?_, ?_, ?_⟩
 ·rw [heap_setCell_same o8]; rfl
 ·have := hown.kept hs (fun c hc hm => by
   have e : c = p := by simpa using hm
   subst e
   obtain ⟨cs, hc'⟩ := owns_block hown.owns (b := c) (by rw [hc]; simp)
   exact ne_type hc' o8 (by decide) rfl)
  rw [List.length_append, List.map_append]
  exact this
 ·exact c8.keep hs (fun b hb => by
   rw [List.mem_singleton.1 hb]
   exact ⟨hq8, c8.apart o8 (by decide) (by decide)⟩)
 ·intro u hm
  rcases List.mem_append.1 hm with hm | hm
  ·exact h.big u hm
  ·rw [List.mem_singleton.1 hm]; exact h.fr.size
 ·exact m8.keep hs (fun b hb cs t fr hc => by
   rw [List.mem_singleton.1 hb, o8] at hc
   cases hc
   decide)
 ·exact f8.trans hs (by simp) (fun b hb hlt => by
   rw [List.mem_singleton.1 hb] at hlt
   omega)
def NwTz (w : World) (p q bn bd : Nat) (O : Array Value) (tv wv : Value) (k : Int) (N R M : Nat) (T : List Words) (m : Nat) (us : List Nat) (ts : List (List Value)) : Prop := NwT w p q bn bd O tv wv k N R M T m us (List.replicate N []) (List.replicate N [.int .i64 0, .slice none 0 0, .bool false]) ts (List.replicate N [])
theorem NwW.terms (h : NwW w0 w p q bn br bu bd N R k x1 x2 x3 us v) (hl : us.length = N) (hne : br ≠ bu) (hp : w0.heap.size ≤ p) (hq : w0.heap.size ≤ q) (hbn : w0.heap.size ≤ bn) (h1 : notS x1) (h2 : notS x2) (h3 : notS x3) {M m : Nat} {U : List Words} {tv : Value} {ts : List (List Value)}
  (hrow : ownsS w5 w.heap.size 93 3 tv ts.length ts.flatten) (hset : SetsL w5 k ([] ++ U) ts (termsW M)) (hP : PoolAt w5 q k ([] ++ U) m) (hf : Fr (plB q) w w5) (hm : m ≤ 1000) :
  NwTz (w5.setCell ⟨p, 5, none⟩ tv) p q bn bd (nwObj x1 x2 x3 q bn br bu bd N R tv v) tv v k N R M ([] ++ U) 1000 us ts ∧ GrI (w5.setCell ⟨p, 5, none⟩ tv) w0.heap.size br bu (List.replicate N (.slice none 0 0)) (List.replicate N (.slice none 0 0)) (List.replicate N []) (List.replicate N []) ∧ Fr [] w0 (w5.setCell ⟨p, 5, none⟩ tv) ∧ ∀ b, tv.ownBlock = some b → b ≠ bn := by
 have c5 := h.core.stepP hP hf
 have hT : ∀ b ∈ plB q, ∀ cs t fr, w.heap[b]? = some (.cells cs t fr) → t = 132 := fun b hb cs t fr hc => h.core.pool.notT hb hc
 have o5 := hf.heap h.obj (fun hm => absurd (hT _ hm _ _ _ h.obj) (by decide))
 have m5 := h.made.keep hf (fun b hb cs t fr hc => by rw [hT b hb cs t fr hc]; decide)
 have r5 : ownsS w5 w0.heap.size 89 1 v us.length (us.map ptrU) := h.row.kept hf (fun b hb hm => by
  obtain ⟨cs, hc⟩ := owns_block h.row.owns (b := b) (by rw [hb]; simp)
  exact absurd (hT b hm _ _ _ hc) (by decide))
 have f5 : Fr [] w0 w5 := h.fr.trans hf (by simp) (fun b hb hlt => by
  rw [mem_plB] at hb
  omega)
 have hs := Fr.set0 w5 p 5 tv
 have hq5 := quiet_obj h1 h2 h3 (notS_slice none 0 0) h.row.notS o5
 have hL : ∀ b ∈ [p], NotStr w5 b ∧ b ∉ plB q ∧ ∀ i (h : i < us.length), b ∉ plB (us[i]'h) := fun b hb => by
  rw [List.mem_singleton.1 hb]
  exact ⟨hq5, c5.apart o5 (by decide) (by decide)⟩
 have m6 := m5.keep hs (fun b hb cs t fr hc => by
   rw [List.mem_singleton.1 hb, o5] at hc
   cases hc
   decide)
 have f6 := f5.trans hs (n := []) (by simp) (fun b hb hlt => by
   rw [List.mem_singleton.1 hb] at hlt
   omega)
 have hset6 := hset.keep hs (fun b hb => (hL b hb).1) []
 rw [List.append_nil] at hset6
 have hrow6 : ownsS (w5.setCell ⟨p, 5, none⟩ tv) w.heap.size 93 3 tv ts.length ts.flatten := hrow.kept hs (fun b hb hm => by
  have e : b = p := by simpa using hm
  subst e
  obtain ⟨cs, hc'⟩ := owns_block hrow.owns (b := b) (by rw [hb]; simp)
  exact ne_type hc' o5 (by decide) rfl)
 have hr6 : ownsS (w5.setCell ⟨p, 5, none⟩ tv) w0.heap.size 89 1 v us.length (us.map ptrU) := r5.kept hs (fun b hb hm => by
  have e : b = p := by simpa using hm
  subst e
  obtain ⟨cs, hc'⟩ := owns_block r5.owns (b := b) (by rw [hb]; simp)
  exact ne_type hc' o5 (by decide) rfl)
 refine ⟨⟨?_, ?_, m6.names, .zeros _ _ _ _, hrow6.base (Nat.zero_le _), hset6, (hr6.base (Nat.zero_le _)).owns, m6.due⟩, .start m6.rules m6.uses hne, f6, fun b hb e => ?_⟩
 ·rw [heap_setCell_same o5]; rfl
 ·rw [← hl]
  exact (c5.keep hs hL).mono hm
 ·have h5 := (hrow.lt b hb).1
  have h6 := (Array.getElem?_eq_some_iff.1 h.made.names).1
  omega
theorem NwT.push {base i M m : Nat} {O : Array Value} {tv wv : Value} {T : List Words} {Ks ls : List Words} {xs ts : List (List Value)} {rv uv : List Value} {rl ul : List (List Int)} {w9 : World} (h : NwT w p q bn bd O tv wv k N R M T m us Ks xs ts ls) (hg : GrI w base br bu rv uv rl ul) (hr : QuI w rv) (hi : i < rv.length) (hf : Fr (rv[i]'hi).ownBlock.toList w w9) (v' : Value) : NwT (w9.setCell ⟨br, i, none⟩ v') p q bn bd O tv wv k N R M T m us Ks xs ts ls := by
 have h9 := h.keep hf (hr.int hg.r hi)
 have hn := own_ne (hg.r.own i hi (by rw [← hg.r.len]; exact hi)) hg.r.row (by decide)
 have hb9 := hf.heap hg.r.row hn
 have hq9 : NotStr w9 br := (rowI_quiet hg.r).same (hf.block br (Array.getElem?_eq_some_iff.1 hg.r.row).1 hn)
 exact h9.keep (Fr.set0 w9 br i v') (fun b hb => by
  rw [List.mem_singleton.1 hb]
  exact ⟨_, _, _, hb9, .inr rfl, hq9⟩)
theorem NwTz.done {M : Nat} {x1 x2 x3 tv wv : Value} {T : List Words} {ts : List (List Value)} {base : Nat} {rv uv : List Value} {rl ul : List (List Int)} (h : NwTz w p q bn bd (nwObj x1 x2 x3 q bn br bu bd N R tv wv) tv wv k N R M T 1000 us ts) (hg : GrI w base br bu rv uv rl ul) (ht : ∀ b, tv.ownBlock = some b → b ≠ bn) (hN : N ≤ 256) :
  SeaAt w ⟨p, q, bn, bd, br, bu, N, R, M, x1, x2, x3, tv, wv, k, rv, uv, rl, ul, us, ts⟩ T 1000 (List.replicate N []) (List.replicate N [.int .i64 0, .slice none 0 0, .bool false]) (List.replicate N []) (List.replicate R true) := by
 have low : ∀ {b : Nat} {vs : List Value} {ls : List (List Int)}, RowI w base b vs ls → RowI w 0 b vs ls := fun h => ⟨h.row, h.len, fun i h1 h2 => owns_base (h.own i h1 h2) (fun _ _ => Nat.zero_le _)⟩
 exact ⟨h.obj, h.core, h.names, h.sets, h.trow, h.tsets, ht, h.wrow, low hg.r, low hg.u, h.due, by simp, hN⟩
end
theorem NwTz.later {w w' : World} {p q bn bd : Nat} {O : Array Value} {tv wv : Value} {k : Int} {N R M : Nat} {T : List Words} {m : Nat} {us : List Nat} {ts : List (List Value)} (h : NwTz w p q bn bd O tv wv k N R M T m us ts) (hf : Fr [] w w') : NwTz w' p q bn bd O tv wv k N R M T m us ts := NwT.later h hf
theorem quI_later {w w' : World} {base br bu : Nat} {rv uv : List Value} {rl ul : List (List Int)} (h : QuI w rv ∧ QuI w uv) (hg : GrI w base br bu rv uv rl ul) (hf : Fr [] w w') : QuI w' rv ∧ QuI w' uv := ⟨h.1.later hg.r hf, h.2.later hg.u hf⟩
theorem quI_start (w : World) (n : Nat) : QuI w (List.replicate n (.slice none 0 0)) := fun i hi c hc => by
 rw [List.getElem_replicate] at hc
 simp [Value.ownBlock] at hc
theorem zeroInt : ∀ y ∈ (Value.int .i64 0).cells.toList, notS y := fun y hy x e => by subst e; simp [Value.cells] at hy
section
variable {P : Program}
theorem wpL_appendSA {w : World} {ops : Array Oper} {rest : List Oper} {o : Oper} {a : Act} {Q : Exit → Act → World → Prop} (hgd : o.guard = none) (s x : Operand) (t : TypeId)
  (ho : o.op = .call { callee := .builtin .append, args := #[s, x], argTypes := #[t, t] }) (base : Nat) (e : TypeId) (i : TypeInfo) (z : Value) (sz bytes : Nat) (ht : P.underlying t = some (.slice e)) (hi : P.info? e = some i) (hz : i.zero = some z) (h4 : i.size = sz) (h5 : i.bytes = bytes) (hzc : z.cells.size = sz) (hsz : 0 < sz) (hqz : ∀ y ∈ z.cells.toList, notS y)
  (v : Value) (n : Nat) (xs : List Value) (hs : a.eval s = v) (hown : ownsS w base e sz v n xs) (us : List Value) (hl : us.length = sz) (hu : ∀ u ∈ us, u.oneCell' = true) (hqu : ∀ u ∈ us, notS u) (hx : a.eval x = .slice (some ⟨w.heap.size, 0, none⟩) 1 1) (hsum : (n + 1) * bytes ≤ 140737488355328) (hm : n + 1 ≤ maxLen) (hbase : base ≤ w.heap.size)
  (h : ∀ v' w', ownsS w' base e sz v' (n + 1) (xs ++ us) → Fr v.ownBlock.toList (w.alloc (.cells us.toArray e)) w' → (v'.ownBlock = v.ownBlock ∨ ∃ k, v'.ownBlock = some k ∧ w.heap.size ≤ k) → wpList P ops Q rest (a.put o.dst v') w') : wpList P ops Q (o :: rest) a (w.alloc (.cells us.toArray e)) := by
 refine wpList_plain hgd fun K hK => ?_
 obtain ⟨v', w', hr, h2, h3, h4⟩ := run_append_s (P := P) (w := w.alloc (.cells us.toArray e)) base t o.type e i z sz bytes ht hi hz h4 h5 hzc hsz hqz v n xs (hown.kept (Fr.alloc _ _) (by simp)) ⟨w.heap.size, 0, none⟩ us hl (by
  intro j y hj
  have hadd : (⟨w.heap.size, 0, none⟩ : Addr).add j = ⟨w.heap.size, j, none⟩ := by unfold Addr.add; split <;> simp_all
  rw [hadd, cell_of_heap (heap_alloc_new w _)]
  simpa using hj) hu hqu hm hsum (by simp; omega)
 unfold Oper.wp execOp
 simp only [ho, resolve, invoke, builtin, Sem.run_bind, Sem.run_pure, Result.andThen_ok, List.map_toArray, List.map_cons, List.map_nil, hs, hx, hr]
 exact hK _ _ (h v' w' h2 (Fr.of_grown h3) (h4.imp id (fun e => ⟨_, e, by simp⟩)))
end
end Go.Proofs.YtnaamjpiaekmeaaGreat
namespace Go.Proofs.YtnaamjpiaekmeaaGreat
open Go.RowKit Go.Maps
theorem flat_set3 : ∀ (xs : List (List Value)) (n : Nat) (a b c : Value), (∀ x ∈ xs, x.length = 3) → n < xs.length → (xs.set n [a, b, c]).flatten = ((xs.flatten.set (n * 3) a).set (n * 3 + 1) b).set (n * 3 + 2) c
 | [], n, _, _, _, _, h => by simp at h
 | y :: r, 0, a, b, c, h, _ => by
   have hy := h y (by simp)
   match y, hy with
   | [y0, y1, y2], _ => simp
 | y :: r, n + 1, a, b, c, h, hn => by
   have hy := h y (by simp)
   have ih := flat_set3 r n a b c (fun x hx => h x (by simp [hx])) (by simpa using hn)
   match y, hy with
   | [y0, y1, y2], _ =>
     rw [List.set_cons_succ, List.flatten_cons, ih, List.flatten_cons]
     have e0 : (n + 1) * 3 = n * 3 + 3 := by omega
     simp only [List.cons_append, List.nil_append]
     rw [show (n + 1) * 3 = n * 3 + 2 + 1 by omega, show n * 3 + 2 + 1 + 1 = n * 3 + 1 + 2 + 1 by omega, show n * 3 + 2 + 1 + 2 = n * 3 + 2 + 2 + 1 by omega]
     simp [List.set_cons_succ]
theorem names_put {w : World} {b n : Nat} {xs : List (List Value)} {t : TypeId} (h : w.heap[b]? = some (.cells xs.flatten.toArray t (0, 0))) (h3 : ∀ x ∈ xs, x.length = 3) (hn : n < xs.length) (x y z : Value) :
  (((w.setCell ⟨b, n * 3, none⟩ x).setCell ⟨b, n * 3 + 1, none⟩ y).setCell ⟨b, n * 3 + 2, none⟩ z).heap[b]? = some (.cells (xs.set n [x, y, z]).flatten.toArray t (0, 0)) := by
 rw [heap_setCell_same (heap_setCell_same (heap_setCell_same h x) y) z, flat_set3 xs n x y z h3 hn]
 simp
theorem names_fr (w : World) (b n : Nat) (x y z : Value) : Fr [b] w (((w.setCell ⟨b, n * 3, none⟩ x).setCell ⟨b, n * 3 + 1, none⟩ y).setCell ⟨b, n * 3 + 2, none⟩ z) :=
 ((Fr.set0 w b (n * 3) x).trans (Fr.set0 _ b (n * 3 + 1) y) (fun _ h _ => h) (fun _ h _ => h)).trans (Fr.set0 _ b (n * 3 + 2) z) (fun _ h _ => h) (fun _ h _ => h)
theorem names_cells {w : World} {b n : Nat} {xs : List (List Value)} {t : TypeId} (h : w.heap[b]? = some (.cells xs.flatten.toArray t (0, 0))) (h3 : ∀ x ∈ xs, x.length = 3) (hn : n < xs.length) {x y z : Value} (he : xs[n]'hn = [x, y, z]) :
  w.cell? ⟨b, n * 3, none⟩ = some x ∧ w.cell? ⟨b, n * 3 + 1, none⟩ = some y ∧ w.cell? ⟨b, n * 3 + 2, none⟩ = some z := by
 have key : ∀ (ys : List (List Value)) (k : Nat) (hk : k < ys.length), (∀ x ∈ ys, x.length = 3) → ∀ j, j < 3 → ys.flatten[k * 3 + j]? = (ys[k]'hk)[j]? := by
  intro ys
  induction ys with
  | nil => intro k hk; simp at hk
  | cons y r ih =>
    intro k hk hall j hj
    have hy := hall y (by simp)
    match k, hk with
    | 0, _ => simp only [List.flatten_cons, Nat.zero_mul, Nat.zero_add, List.getElem_cons_zero]; rw [List.getElem?_append_left (by omega)]
    | k + 1, hk =>
      rw [List.flatten_cons, List.getElem?_append_right (by rw [hy]; omega)]
      simp only [List.getElem_cons_succ]
      rw [← ih k (by simpa using hk) (fun x hx => hall x (by simp [hx])) j hj]
      congr 1
      rw [hy]; omega
 refine ⟨?_, ?_, ?_⟩
 ·rw [cell_of_heap h]; have := key xs n hn h3 0 (by decide); rw [he] at this; simpa using this
 ·rw [cell_of_heap h]; have := key xs n hn h3 1 (by decide); rw [he] at this; simpa using this
 ·rw [cell_of_heap h]; have := key xs n hn h3 2 (by decide); rw [he] at this; simpa using this
theorem ten_of_heap {w : World} {p : Nat} {a b c d e f g h i j : Value} {t : TypeId} (hh : w.heap[p]? = some (.cells #[a, b, c, d, e, f, g, h, i, j] t (0, 0))) :
  w.cell? ⟨p, 0, none⟩ = some a ∧ w.cell? ⟨p, 1, none⟩ = some b ∧ w.cell? ⟨p, 2, none⟩ = some c ∧ w.cell? ⟨p, 3, none⟩ = some d ∧ w.cell? ⟨p, 4, none⟩ = some e ∧ w.cell? ⟨p, 5, none⟩ = some f ∧ w.cell? ⟨p, 6, none⟩ = some g ∧ w.cell? ⟨p, 7, none⟩ = some h ∧ w.cell? ⟨p, 8, none⟩ = some i ∧ w.cell? ⟨p, 9, none⟩ = some j := by
 refine ⟨?_, ?_, ?_, ?_, ?_, ?_, ?_, ?_, ?_, ?_⟩ <;> (rw [cell_of_heap hh]; rfl)
def RulesK (w : World) (L : List Nat) (a3 : Option Addr) (rs : List RuleG) : Prop := ∀ (j : Nat) (hj : j < rs.length), ∃ b o a7 c7, a3 = some ⟨b, o, none⟩ ∧ ∀ wx, Fr L w wx → wx.cell? ⟨b, o + j * 2, none⟩ = some (intV (rs[j]'hj).left) ∧ wx.cell? ⟨b, o + j * 2 + 1, none⟩ = some (.slice a7 (rs[j]'hj).right.length c7) ∧ intsAt wx (.slice a7 (rs[j]'hj).right.length c7) (rs[j]'hj).right
theorem RulesK.next {w w' : World} {L : List Nat} {a3 : Option Addr} {rs : List RuleG} (h : RulesK w L a3 rs) (hf : Fr L w w') : RulesK w' L a3 rs := fun j hj => by
 obtain ⟨b, o, a7, c7, e, h1⟩ := h j hj
 exact ⟨b, o, a7, c7, e, fun wx hx => h1 wx (hf.trans hx (fun _ h _ => h) (fun _ h _ => h))⟩
theorem RulesK.of {w0 w : World} {L : List Nat} {a3 : Option Addr} {n3 c3 : Nat} {rs : List RuleG} (h : rulesAt w0 (.slice a3 n3 c3) rs) (hf : Fr [] w0 w) (hL : ∀ b ∈ L, w0.heap.size ≤ b) : RulesK w L a3 rs := fun j hj => by
 obtain ⟨b, o, v3, e, k0, k1, hi⟩ := rule_cells h j hj
 obtain ⟨a7, c7, rfl, _, _⟩ := hi.form
 refine ⟨b, o, a7, c7, e, fun wx hx => ?_⟩
 have hfx : Fr [] w0 wx := hf.trans hx (by simp) (fun i hi hlt => by have := hL i hi; omega)
 exact ⟨hfx.cell k0 (by simp), hfx.cell k1 (by simp), hi.below hfx⟩
section
variable {w : World} {c : SeaC} {T : List Words} {m : Nat} {Ks : List Words} {xs : List (List Value)} {ls : List Words} {D : List Bool} {g : GramG} {n : Nat}
theorem SeaAt.given_st (h : SeaAt w c T m Ks xs ls D) : ∀ b ∈ plB c.q, b ≠ c.p ∧ (Value.slice (some ⟨c.bn, 0, none⟩) c.N c.N).ownBlock ≠ some b ∧ c.tv.ownBlock ≠ some b := fun b hb => by
 have hw : b ∈ c.wb := by unfold SeaC.wb; simp [coreB_q hb]
 refine ⟨fun e => ?_, fun e => ?_, fun e => h.rowN h.trow.owns (by decide) (by decide) (fun _ => h.tne) (by decide) b e hw⟩
 ·subst e
  exact h.notW h.obj (by decide) (by decide) (fun e => absurd e (by decide)) (by decide) hw
 ·injection e with e
  exact h.bn_core (by show c.bn ∈ _; rw [show c.bn = b from e]; exact coreB_q hb)
theorem SeaAt.rints (h : SeaAt w c T m Ks xs ls D) (hrl : c.rl = RLs g.rules c.N c.R) (hR : c.R = g.rules.length) (hnN : n < c.N) (hnr : n < c.rv.length) : intsAt w (c.rv[n]'hnr) (rIdx g.rules n g.rules.length) := by
 have h1 := h.rules.re.at_ n hnr (by rw [hrl, RLs_len]; exact hnN)
 have h2 : c.rl[n]'(by rw [hrl, RLs_len]; exact hnN) = rIdx g.rules n g.rules.length := by simp only [hrl]; rw [RLs_get, hR]
 rwa [h2] at h1
theorem SeaAt.uints (h : SeaAt w c T m Ks xs ls D) (hul : c.ul = ULs g.rules c.N c.R) (hR : c.R = g.rules.length) (hnN : n < c.N) (hnv : n < c.uv.length) : intsAt w (c.uv[n]'hnv) (uIdx g.rules n g.rules.length) := by
 have h1 := h.uses.re.at_ n hnv (by rw [hul, ULs_len]; exact hnN)
 have h2 : c.ul[n]'(by rw [hul, ULs_len]; exact hnN) = uIdx g.rules n g.rules.length := by simp only [hul]; rw [ULs_get, hR]
 rwa [h2] at h1
theorem SeaAt.wcell (h : SeaAt w c T m Ks xs ls D) (hn : n < c.us.length) : ∃ b off cap, c.wv = .slice (some ⟨b, off, none⟩) c.us.length cap ∧ w.cell? ⟨b, off + n, none⟩ = some (ptrU (c.us[n]'hn)) := by
 have h1 : w.ownsRow 0 89 1 c.wv (c.us.map ptrU).length (c.us.map ptrU) := by rw [List.length_map]; exact h.wrow
 have h2 := cellsAt_of_owns h1
 obtain ⟨a, cap, e, _, _⟩ := owns_slice h.wrow
 rw [e] at h2
 obtain ⟨b, off, rfl, _, hx⟩ := cellsAt.get h2 (i := n) (by rw [List.length_map]; exact hn)
 refine ⟨b, off, cap, e, ?_⟩
 have := hx n (by rw [List.length_map]; exact hn)
 rwa [List.getElem_map] at this
end
theorem SetsL.set {w : World} {k : Int} {T : List Words} {xs : List (List Value)} {ls : List Words} (h : SetsL w k T xs ls) (n : Nat) {x : List Value} {l : Words} (hx : SetC w k T x l) : SetsL w k T (xs.set n x) (ls.set n l) := by
 refine ⟨by rw [List.length_set, List.length_set]; exact h.len, fun i h1 h2 => ?_⟩
 rw [List.getElem_set, List.getElem_set]
 by_cases e : n = i
 ·rw [if_pos e, if_pos e]; exact hx
 ·rw [if_neg e, if_neg e]; exact h.at_ i _ _
def ExGot (g : GramG) (c : SeaC) (T : List Words) (m : Nat) (ls : List Words) (D0 : List Bool) (n : Nat) (w : World) (e : Ending) (w' : World) : Prop :=
 ∃ b, e = .returned (.bool b) ∧ Fr c.wb w w' ∧ ((b = false ∧ OverG g c.k) ∨ (b = true ∧ ∃ U Ks' xs' ls' D', SeaAt w' c (T ++ U) (m + 1100000) Ks' xs' ls' D' ∧ SchS g c.k ls' D' ∧ RestU Ks' ls' ∧ ∀ ls0, RndK g ls0 ls D0 (n + 1) → RndK g ls0 ls' D' n))
def ExL (g : GramG) (c : SeaC) (T : List Words) (m : Nat) (Ks : List Words) (xs : List (List Value)) (ls : List Words) (D0 : List Bool) (n : Nat) (hn : n < ls.length) (w : World) (iv : Value) (wx : World) : Prop :=
 ∃ (i : Nat) (U : List Words) (D : List Bool) (K : Words), i ≤ (rIdx g.rules n g.rules.length).length ∧ iv = .int .i64 (i : Int) ∧ SeaAt wx c (T ++ U) (m + 260 * i) (Ks.set n K) xs ls D ∧ GivU g c.k ls n hn D0 D i K ∧ Fr c.wb w wx
def ExM (g : GramG) (c : SeaC) (T : List Words) (m : Nat) (Ks : List Words) (xs : List (List Value)) (ls : List Words) (D : List Bool) (n : Nat) (w2 : World) (iv : Value) (wx : World) : Prop :=
 ∃ (i : Nat) (D2 : List Bool), i ≤ (uIdx g.rules n g.rules.length).length ∧ iv = .int .i64 (i : Int) ∧ SeaAt wx c T m Ks xs ls D2 ∧ D2.length = D.length ∧
   (∀ a (h : a < (uIdx g.rules n g.rules.length).length), a < i → ∀ j : Nat, (uIdx g.rules n g.rules.length)[a]'h = (j : Int) → D2[j]? = some true) ∧ (∀ j : Nat, D2[j]? = some false → D[j]? = some false) ∧ Fr c.wb w2 wx
set_option maxRecDepth 100000 in
set_option maxHeartbeats 8000000 in
theorem pextend (hW : ProgWCat) (g : GramG) (c : SeaC) (T : List Words) (m : Nat) (Ks : List Words) (xs : List (List Value)) (ls : List Words) (D0 : List Bool) (n : Nat) (hn : n < ls.length) (a3 : Option Addr) (c3 : Nat) (w : World) (hv : ValidG g) (hk1 : 1 ≤ c.k) (hk4 : c.k ≤ 4) (hN : c.N = g.names.length) (hR : c.R = g.rules.length) (hM : c.M = g.terms.length) (hrl : c.rl = RLs g.rules c.N c.R) (hul : c.ul = ULs g.rules c.N c.R) (hx3 : c.x3 = .slice a3 c.R c3) (hg : RulesK w c.wb a3 g.rules)
  (hA : SeaAt w c T m Ks xs ls D0) (hS : SchS g c.k ls D0) (hK : RestU Ks ls) (hm : m ≤ 7000000000000000) :
  Calls Tryz.prog 27 #[.pointer (some ⟨c.p, 0, none⟩), .int .i64 (n : Int)] w (ExGot g c T m ls D0 n w) := by
 have hlN : ls.length = c.N := by rw [hS.sound.len, hN]
 have hnN : n < c.N := by omega
 have hN256 : c.N ≤ 256 := hA.small
 have hM256 : c.M ≤ 256 := by have := hv.syms; omega
 have hR4 : c.R ≤ 4096 := by rw [hR]; exact hv.few
 have hul' : c.us.length = c.N := by rw [hA.core.len, hK.1, hlN]
 have hnu : n < c.us.length := by omega
 have hnr : n < c.rv.length := by rw [hA.rules.len, hrl, RLs_len]; exact hnN
 have hnv : n < c.uv.length := by rw [hA.uses.len, hul, ULs_len]; exact hnN
 obtain ⟨ra, rc, hrv, hrc, hrm⟩ := (hA.rints hrl hR hnN hnr).form
 obtain ⟨bw, ow, cw, hwv, hwc⟩ := hA.wcell hnu
 obtain ⟨u, hu⟩ : ∃ u, u = c.us[n]'hnu := ⟨_, rfl⟩
 rw [← hu] at hwc
 obtain ⟨M, hMM⟩ : ∃ M, M = (rIdx g.rules n g.rules.length).length := ⟨_, rfl⟩
 rw [← hMM] at hrv hrc
 have hM4 : M ≤ 4096 := by rw [hMM]; have := rIdx_len g.rules n g.rules.length; omega
 have hKn : n < Ks.length := by rw [hK.1]; exact hn
 have hKe : ofW (Ks[n]'hKn) = ls[n]'hn := hK.2 n hKn hn
 have HA := Lib.hid hA
 have HS := Lib.hid hS
 have HV := Lib.hid hv
 have HG := Lib.hid hg
 have HK := Lib.hid hK
 have HU := Lib.hid hu
 have HRV := Lib.hid hrv
 have HWV := Lib.hid hwv
 have HMM := Lib.hid hMM
 have HRL := Lib.hid hrl
 have HUL := Lib.hid hul
 have HR := Lib.hid hR
 have HN := Lib.hid hN
 have HTM := Lib.hid hM
 have HX3 := Lib.hid hx3
 have HKE := Lib.hid hKe
 have HUS := Lib.hid hul'
 have HLN := Lib.hid hlN
 obtain ⟨l0, l1, l2, l3, l4, l5, l6, l7, l8, l9⟩ := ten_of_heap hA.obj
 have hrcell := hA.rules.cell hnr
 rw [hrv] at hrcell
 rw [hwv] at l6
 rw [hul'] at l6
 clear hA hS hv hg hK hu hrv hwv hMM hrl hul hR hN hM hx3 hKe hul' hlN
 unfold ptrU at hwc
 go_enter Tryz.func27, Tryz.ntmps27
 go_wp2_with fail
 clear l0 l1 l2 l3 l4 l5 l6 l7 l8 l9 hrcell hwc
 go_loopw [27] (ExL g c T m Ks xs ls D0 n hn w) (fun iv _ => M - (intOf iv).toNat)
 case atStart =>
  refine ⟨0, [], D0, Ks[n]'hKn, Nat.zero_le _, rfl, ?_, GivU.start HS.out HKE.out, Fr.refl _ _⟩
  rw [List.append_nil, List.set_getElem_self]
  exact HA.out.mono (by omega)
 case round =>
  obtain ⟨i, U, D, K, hi, rfl, hsc, hgv, hfr⟩ := hrel
  rw [← HMM.out] at hi
  have HSC := Lib.hid hsc
  have HGV := Lib.hid hgv
  have HFR := Lib.hid hfr
  obtain ⟨l0, l1, l2, l3, l4, l5, l6, l7, l8, l9⟩ := ten_of_heap hsc.obj
  have hri := hsc.rints HRL.out HR.out hnN hnr
  rw [HRV.out] at hri
  by_cases hiM : i < M
  ·have hd1 : decide (i < M) = true := decide_eq_true hiM
   have hcl : i < (rIdx g.rules n g.rules.length).length := by rw [← HMM.out]; exact hiM
   obtain ⟨b9, o9, e9, hcell⟩ := int_cell hri i hcl
   subst e9
   obtain ⟨j, hj, hjR, r, hr, hl⟩ := mem_rIdx.1 (List.getElem_mem hcl)
   rw [hj] at hcell
   have hjl : j < g.rules.length := (List.getElem?_eq_some_iff.1 hr).1
   have hjR' : j < c.R := by rw [HR.out]; exact hjl
   have hjD : j < D.length := by rw [hgv.len, HS.out.due.len]; exact hjl
   have hdcell := hsc.due.cell hjD
   have hdfree := hsc.due.free j
   have hdR : decide (j < c.R) = true := decide_eq_true hjR'
   cases hDj : D[j]'hjD with
   | false =>
     rw [hDj] at hdcell
     have hDq : D[j]? = some false := by rw [List.getElem?_eq_getElem hjD, hDj]
     have HNX := Lib.hid (hgv.skip hcl hj hDq)
     clear hsc hgv hfr hri hDq hj hl hr hDj
     go_wp2_with fail
     go_roundw
     case rel => exact ⟨i + 1, U, D, K, by rw [← HMM.out]; omega, by go_num, HSC.out.mono (by omega), HNX.out, HFR.out⟩
     case measure => simp [intOf]; omega
   | true =>
     rw [hDj] at hdcell
     have HCL := Lib.hid hcl
     have HJ := Lib.hid hj
     have HJD := Lib.hid hjD
     have HRR := Lib.hid hr
     have HLL := Lib.hid hl
     have hrm' := List.mem_of_getElem? hr
     have HRM := Lib.hid hrm'
     have hsc2 := hsc.mark j false
     have hf2 := Fr.set0 wr c.bd j (.bool false)
     obtain ⟨w2, hw2⟩ : ∃ w2, w2 = wr.setCell ⟨c.bd, j, none⟩ (.bool false) := ⟨_, rfl⟩
     rw [← hw2] at hsc2 hf2
     have HW2 := Lib.hid hw2
     have HSC2 := Lib.hid hsc2
     have HF2 := Lib.hid (show Fr c.wb w w2 from hfr.trans hf2 (fun _ h _ => h) (fun b hb _ => by unfold SeaC.wb; simp at hb; simp [hb]))
     clear hsc hgv hfr hri hj hl hr hDj hrm' hsc2 hf2 hw2
     go_upto_region 7 with fail
     rw [← HW2.out]
     clear l0 l1 l2 l3 l4 l5 l6 l7 l8 l9 hdcell hdfree hcell
     obtain ⟨b3, o3, a7, c7, e3, hgw⟩ := HG.out j hjl
     subst e3
     obtain ⟨k0, k1, hiv⟩ := hgw w2 HF2.out
     have hre : g.rules[j]'hjl = r := by
      have := HRR.out
      rw [List.getElem?_eq_getElem hjl] at this
      exact Option.some.inj this
     rw [hre] at k1 hiv hgw
     obtain ⟨nr, hnr'⟩ : ∃ nr, nr = r.right.length := ⟨_, rfl⟩
     have hsyr : ∀ s ∈ r.right, -(c.M : Int) ≤ s ∧ s < (ls.length : Int) := fun s hs => by
      have h1 := (HV.out.rules r HRM.out).2.2.2 s hs
      rw [HTM.out, HLN.out, HN.out]
      exact h1
     have hsyr2 : ∀ s ∈ r.right, -256 ≤ s ∧ s < (g.names.length : Int) := fun s hs => by
      have h1 := (HV.out.rules r HRM.out).2.2.2 s hs
      have h2 := HV.out.syms
      omega
     have hr64 := (HV.out.rules r HRM.out).2.2.1
     have HGV' := Lib.hid (pgiven hW c.p c.q (m + 260 * i) c.k (T ++ U) _ _ xs c.ts ls c.M w2 r.right (.slice a7 r.right.length c7) HSC2.out.syms HSC2.out.core.pool HSC2.out.given_st (fun wx hf => (hgw wx (HF2.out.trans hf (fun _ h _ => h) (fun b hb _ => by unfold SeaC.wb; simp [coreB_q hb]))).2.2) hsyr hr64 hM256 hk1 hk4 (by omega))
     have HSD := Lib.hid (sound_fof hk1 HS.out.sound hsyr2)
     rw [← hnr'] at HGV' k1
     have HNR' := Lib.hid hnr'
     have hnr64 : nr ≤ 64 := by rw [hnr']; exact hr64
     obtain ⟨l0, l1, l2, l3, l4, l5, l6, l7, l8, l9⟩ := ten_of_heap HSC2.out.obj
     rw [HX3.out] at l2
     obtain ⟨FR, hFR⟩ : ∃ x, x = fofG ls c.k r.right := ⟨_, rfl⟩
     have HFRE := Lib.hid hFR
     clear hgw hiv hre hnr' hsyr hsyr2 hr64 hFR k0
     go_upto_region 8 with (go_at_call 56; refine HGV'.out.mono ?_; rintro e w5 ⟨n5, a5, z5, c5, b5, V, rfl, hs5, hp5, hf5⟩; have HS5 := Lib.hid hs5; have HP5 := Lib.hid hp5; have HF5 := Lib.hid hf5; clear hs5 hp5 hf5)
     rw [← HFRE.out]
     have hf6 := Fr.alloc w5 (.cells #[.int .i64 (n5 : Int), .slice a5 z5 c5, .bool b5] 93)
     have hb6 := heap_alloc_new w5 (.cells #[.int .i64 (n5 : Int), .slice a5 z5 c5, .bool b5] 93)
     obtain ⟨w6, hw6⟩ : ∃ w6, w6 = w5.alloc (.cells #[.int .i64 (n5 : Int), .slice a5 z5 c5, .bool b5] 93) := ⟨_, rfl⟩
     obtain ⟨r8, hr8⟩ : ∃ r8, r8 = w5.heap.size := ⟨_, rfl⟩
     rw [← hw6] at hf6 hb6 ⊢
     rw [← hr8] at hb6 ⊢
     have hc5 := HSC2.out.core.stepP HP5.out HF5.out
     have HC6 := Lib.hid (hc5.later hf6)
     have HF26 := Lib.hid (show Fr (coreB c.q c.us) w2 w6 from HF5.out.trans hf6 (fun b hb _ => coreB_q hb) (by simp))
     have HF6 := Lib.hid (show Fr c.wb w w6 from HF2.out.trans HF26.out (fun _ h _ => h) (fun b hb _ => by unfold SeaC.wb; simp [hb]))
     have HB6 := Lib.hid hb6
     have HS6 := Lib.hid (fun l hl => (HS5.out l hl).keep hf6 (by simp))
     clear hw6 hr8 hf6 hb6 hc5 l0 l1 l2 l3 l4 l5 l6 l7 l8 l9 k1
     have hKn' : n < (Ks.set n K).length := by rw [List.length_set]; exact hKn
     have hu6 : UniAt w6 u c.q c.k (T ++ U ++ V) K := by
      have h := HC6.out.unis n hnu hKn'
      rw [← HU.out, List.getElem_set_self] at h
      exact h
     have HU6 := Lib.hid hu6
     have hKlen : K.length ≤ 4096 := by
      have h := HGV.out.few
      rwa [ofW_nodup_len hu6.nodup] at h
     have hTl : (T ++ U ++ V).length ≤ 90000000000000000 := by have := HC6.out.pool.few; have := HNR'.out; omega
     obtain ⟨x0, x1, x2, y0, y1, y2⟩ := three_of_heap HB6.out
     cases hFR : FR with
     | none =>
       have HOV := Lib.hid (show OverG g c.k from by
        rcases HSD.out with ⟨⟨m, h1, h2, h3⟩, h4⟩ | ⟨l, h4, h5⟩
        ·exact .inr ⟨r, HRM.out, m, h2, h3⟩
        ·rw [← HFRE.out, hFR] at h4; cases h4)
       clear hFR hu6
       go_wp2_with fail
       go_ret
       exact ⟨false, rfl, HF6.out, .inl ⟨rfl, HOV.out⟩⟩
     | some mm =>
       have hmm : fofG ls c.k r.right = some mm := by rw [← HFRE.out, hFR]
       have hfirst : ∀ v ∈ mm, firstP g c.k r.right v := by
        rcases HSD.out with ⟨_, h4⟩ | ⟨l, h4, h5⟩
        ·rw [hmm] at h4; cases h4
        ·rw [hmm] at h4
         rw [Option.some.inj h4]
         exact h5
       have HAD := Lib.hid (puadd u c.q c.k (T ++ U ++ V) K _ mm w6 hu6 (HS6.out mm hmm) hk4 hKlen hTl)
       obtain ⟨B, hB⟩ : ∃ B, B = decide ((addK K mm).length ≤ 4096) := ⟨_, rfl⟩
       rw [← hB] at HAD
       have HB := Lib.hid hB
       have HMM' := Lib.hid hmm
       have HFI := Lib.hid hfirst
       have hnd : (addK K mm).Nodup := addK_nodup hu6.nodup
       have HND := Lib.hid hnd
       clear hFR hu6 hB hmm hfirst hnd
       cases B with
       | false =>
         have hlim : ¬ (addK K mm).length ≤ 4096 := of_decide_eq_false HB.out.symm
         have HOV := Lib.hid (HGV.out.over HS.out HRR.out HLL.out HFI.out (K' := addK K mm) (fun v => mem_addK) (by rw [ofW_nodup_len HND.out]; omega))
         go_wp2_with (go_at_call 57; refine HAD.out.mono ?_; rintro e w7 ⟨rfl, hu7, hf7⟩; have HF7 := Lib.hid hf7; clear hu7 hf7)
         go_ret
         refine ⟨false, rfl, HF6.out.trans HF7.out (fun _ h _ => h) (fun b hb _ => ?_), .inl ⟨rfl, HOV.out⟩⟩
         unfold SeaC.wb
         have hb2 : b ∈ plB (c.us[n]'hnu) := by rw [← HU.out, mem_plB]; simp at hb; omega
         simp [coreB_u hnu hb2]
       | true =>
         have hlim : (addK K mm).length ≤ 4096 := of_decide_eq_true HB.out.symm
         have HNX := Lib.hid (HGV.out.give HCL.out HJ.out HJD.out HRR.out HLL.out HMM'.out HFI.out (K' := addK K mm) (fun v => mem_addK) (by rw [ofW_nodup_len HND.out]; exact hlim))
         go_wp2_with (go_at_call 57; refine HAD.out.mono ?_; rintro e w7 ⟨rfl, hu7, hf7⟩; have HU7 := Lib.hid hu7; have HF7 := Lib.hid hf7; clear hu7 hf7)
         have hb2 : ∀ b ∈ [u, u + 1], b ∈ plB (c.us[n]'hnu) := fun b hb => by rw [← HU.out, mem_plB]; simp at hb; omega
         have hc7 := HC6.out.stepV (w' := w7) (K := addK K mm) hnu (by rw [← HU.out]; exact HU7.out) (HF7.out.mono (fun b hb _ => hb2 b hb))
         rw [List.set_set] at hc7
         have hf27 : Fr (coreB c.q c.us) w2 w7 := HF26.out.trans HF7.out (fun _ h _ => h) (fun b hb _ => coreB_u hnu (hb2 b hb))
         have hs7 := HSC2.out.stepC (U := V) hf27 (fun _ h => h) hc7
         refine ⟨⟨i + 1, U ++ V, D.set j false, addK K mm, by rw [← HMM.out]; omega, by go_num, ?_, HNX.out, HF2.out.trans hf27 (fun _ h _ => h) (fun b hb _ => by unfold SeaC.wb; simp [hb])⟩, by simp [intOf]; omega⟩
         rw [← List.append_assoc]
         exact hs7.mono (by have := HNR'.out; omega)
  ·have hd1 : decide (i < M) = false := decide_eq_false hiM
   have hie : i = (rIdx g.rules n g.rules.length).length := by rw [← HMM.out]; omega
   rw [hie] at hgv
   have hout := hgv.out
   have hKn' : n < (Ks.set n K).length := by rw [List.length_set]; exact hKn
   have hu1 : UniAt wr u c.q c.k (T ++ U) K := by
    have h := hsc.core.unis n hnu hKn'
    rw [← HU.out, List.getElem_set_self] at h
    exact h
   have HOUT := Lib.hid hout
   have HU1 := Lib.hid hu1
   have hxn : n < xs.length := by rw [hsc.num]; exact hnN
   obtain ⟨nx, ax, cx, bx, hxe, hSx⟩ := hsc.sets.at_ n hxn hn
   have hKlen : K.length ≤ 4096 := by
    have h := hgv.few
    rwa [ofW_nodup_len hu1.nodup] at h
   have hol : (ofW K).length = K.length := ofW_nodup_len hu1.nodup
   obtain ⟨NK, hNK⟩ : ∃ NK, NK = K.length := ⟨_, rfl⟩
   obtain ⟨NL, hNL⟩ : ∃ NL, NL = (ls[n]'hn).length := ⟨_, rfl⟩
   have HNK := Lib.hid hNK
   have HNL := Lib.hid hNL
   have HOL := Lib.hid hol
   have HXE := Lib.hid hxe
   have HSX := Lib.hid hSx
   clear hgv hout hu1 hri hie hxe hSx hol hNK hNL hfr
   go_upto_region 11 with fail
   refine wp_region_G [] [(0, false), (2, false), (3, false), (4, false), (5, false), (6, false), (7, false), (8, false), (1, true), (9, true), (10, false)] 106 rfl (by kernel_rfl) (by kernel_rfl) (by kernel_rfl) (fun c a d v w h => by cases d <;> exact h) (fun wd hfd => ?_)
   simp only [List.map_cons, List.map_nil, List.getElem?_toArray, List.getElem?_cons_succ, List.getElem?_cons_zero, Option.getD_some]
   have HFD := Lib.hid hfd
   have hdn : decide (n < c.N) = true := decide_eq_true hnN
   clear hfd l0 l1 l2 l3 l4 l5 l6 l7 l8 l9
   have L1 : Hid (Later [] wd (fun w' => w'.heap[c.p]? = some (.cells #[c.x1, c.x2, c.x3, .pointer (some ⟨c.q + 2, 0, none⟩), .slice (some ⟨c.bn, 0, none⟩) c.N c.N, c.tv, c.wv, .slice (some ⟨c.br, 0, none⟩) c.N c.N, .slice (some ⟨c.bu, 0, none⟩) c.N c.N, .slice (some ⟨c.bd, 0, none⟩) c.R c.R] 66 (0, 0)) ∧ (w'.cell? ⟨c.bn, n * 3, none⟩ = some (.int .i64 (nx : Int)) ∧ w'.cell? ⟨c.bn, n * 3 + 1, none⟩ = some (.slice ax (ls[n]'hn).length cx) ∧ w'.cell? ⟨c.bn, n * 3 + 2, none⟩ = some (.bool bx)))) := Lib.hid (fun w' hf' => ⟨((HSC.out.later HFD.out).later hf').obj, names_cells ((HSC.out.later HFD.out).later hf').names HSC.out.sets.three hxn HXE.out⟩)
   rw [← HNL.out] at L1
   repeat (apply wpG_t; · (intro w' hf'; obtain ⟨hob, k0, k1, k2⟩ := L1.out w' hf'; obtain ⟨l0, l1, l2, l3, l4, l5, l6, l7, l8, l9⟩ := ten_of_heap hob; go_wp2_with fail; exact ⟨rfl, rfl⟩))
   have HUL' := Lib.hid (pulen u c.q c.k (T ++ U) K wd (HU1.out.later HFD.out))
   rw [← HNK.out] at HUL'
   refine wpG_x ?_
   go_wp2_with (go_at_call 58; refine HUL'.out.mono ?_; rintro e w1 ⟨rfl, rfl⟩)
   refine ⟨Fr.refl _ _, rfl, ?_⟩
   have HLV := Lib.hid (plen c.k (T ++ U) (.agg #[.int .i64 (nx : Int), .slice ax (ls[n]'hn).length cx, .bool bx]) (ls[n]'hn) w1 ⟨nx, _, _, rfl, HSX.out.keep HFD.out (by simp)⟩)
   rw [← HNL.out] at HLV
   refine wpG_x ?_
   go_wp2_with (go_at_call 59; refine HLV.out.mono ?_; rintro e w2 ⟨rfl, hf2⟩; have HF2 := Lib.hid hf2; clear hf2)
   refine ⟨HF2.out, rfl, ?_⟩
   have HF12 := Lib.hid (HFD.out.tr0 HF2.out)
   have HSC2 := Lib.hid (HSC.out.later HF12.out)
   have HU2 := Lib.hid (HU1.out.later HF12.out)
   have HFR2 := Lib.hid (HFR.out.trans HF12.out (n := c.wb) (fun _ h _ => h) (by simp))
   clear L1
   by_cases hlt : NL < NK
   ·have hdl : decide (NL < NK) = true := decide_eq_true hlt
    have hdl2 : decide ((NL : Int) < (NK : Int)) = true := decide_eq_true (by omega)
    repeat (apply wpG_t; · (intro w' hf'; go_wp2_with fail; exact ⟨rfl, rfl⟩))
    refine wpG_end ?_
    go_upto_region 12 with fail
    have hgr : (ls[n]'hn).length < (ofW K).length := by rw [HOL.out, ← HNK.out, ← HNL.out]; exact hlt
    have HGR := Lib.hid hgr
    have hqu : c.q + 3 ≤ u := by rw [HU.out]; exact HSC.out.core.first n hnu
    have hu2w : u + 2 ∈ coreB c.q c.us := coreB_u hnu (by rw [← HU.out, mem_plB]; omega)
    have hLL : ∀ b ∈ plB c.q ++ [u + 2], b ∈ coreB c.q c.us := fun b hb => by
     rcases List.mem_append.1 hb with hb | hb
     ·exact coreB_q hb
     ·rw [List.mem_singleton.1 hb]; exact hu2w
    have HLL := Lib.hid hLL
    have hpL : c.p ∉ plB c.q ++ [u + 2] ++ [c.bn] := fun hm => by
     have hpw := HSC.out.notW HSC.out.obj (by decide) (by decide) (fun e => absurd e (by decide)) (by decide)
     refine hpw ?_
     unfold SeaC.wb
     rcases List.mem_append.1 hm with hm | hm
     ·simp [hLL _ hm]
     ·simp [List.mem_singleton.1 hm]
    refine wp_region_G (plB c.q ++ [u + 2] ++ [c.bn]) [(0, false), (1, false), (2, false), (3, false), (4, false), (5, false), (6, true), (7, false), (8, true)] 106 rfl (by kernel_rfl) (by kernel_rfl) (by kernel_rfl) (fun c a d v w h => by cases d <;> exact h) (fun w3 hf3 => ?_)
    simp only [List.map_cons, List.map_nil, List.getElem?_toArray, List.getElem?_cons_succ, List.getElem?_cons_zero, Option.getD_some]
    have HSC3 := Lib.hid (HSC2.out.later hf3)
    have HU3 := Lib.hid (HU2.out.later hf3)
    have HFR3 := Lib.hid (HFR2.out.trans hf3 (n := c.wb) (fun _ h _ => h) (by simp))
    clear hf3
    have L1 : Hid (Later (plB c.q ++ [u + 2] ++ [c.bn]) w3 (fun w' => w'.heap[c.p]? = some (.cells #[c.x1, c.x2, c.x3, .pointer (some ⟨c.q + 2, 0, none⟩), .slice (some ⟨c.bn, 0, none⟩) c.N c.N, c.tv, c.wv, .slice (some ⟨c.br, 0, none⟩) c.N c.N, .slice (some ⟨c.bu, 0, none⟩) c.N c.N, .slice (some ⟨c.bd, 0, none⟩) c.R c.R] 66 (0, 0)))) := Lib.hid (fun w' hf' => hf'.heap HSC3.out.obj hpL)
    repeat (apply wpG_t; · (intro w' hf'; obtain ⟨l0, l1, l2, l3, l4, l5, l6, l7, l8, l9⟩ := ten_of_heap (L1.out w' hf'); go_wp2_with fail; exact ⟨rfl, rfl⟩))
    have HUS2 := Lib.hid (puset u c.q (m + 260 * i) c.k (T ++ U) K w3 HSC3.out.core.pool HU3.out hqu hKlen (by omega) hk4 (by omega))
    refine wpG_x ?_
    go_wp2_with (go_at_call 60; refine HUS2.out.mono ?_; rintro e w4 ⟨x4, V, rfl, hx4, hp4, hu4, hf4⟩; obtain ⟨n4, a4, c4, b4, rfl, hS4⟩ := hx4.form; have HS4 := Lib.hid hS4; have HP4 := Lib.hid hp4; have HU4 := Lib.hid hu4; have HF4 := Lib.hid hf4; clear hx4 hp4 hu4 hf4 hS4)
    refine ⟨HF4.out.mono (fun b hb _ => List.mem_append.2 (.inl hb)), rfl, ?_⟩
    have hc4 := HSC3.out.core.stepU (w' := w4) (U := V) (K := K) hnu HP4.out (by rw [← HU.out]; exact HU4.out) (HF4.out.mono (fun b hb _ => by
     rcases List.mem_append.1 hb with hb | hb
     ·exact List.mem_append.2 (.inl hb)
     ·refine List.mem_append.2 (.inr ?_)
      rw [← HU.out, mem_plB]; simp at hb; omega))
    rw [List.set_set] at hc4
    have HSC4 := Lib.hid (HSC3.out.stepC (U := V) HF4.out HLL.out hc4)
    clear hc4
    obtain ⟨NN, hNN⟩ : ∃ NN, NN = (ofW K).length := ⟨_, rfl⟩
    rw [← hNN]
    have HNN := Lib.hid hNN
    clear hNN
    repeat (apply wpG_t; · (intro w' hf'; obtain ⟨l0, l1, l2, l3, l4, l5, l6, l7, l8, l9⟩ := ten_of_heap (L1.out w3 (Fr.refl _ _)); go_wp2_with fail; exact ⟨rfl, rfl⟩))
    refine wpG_x ?_
    obtain ⟨k0, k1, k2⟩ := names_cells HSC4.out.names HSC4.out.sets.three hxn HXE.out
    have g0 := free_of_heap HSC4.out.names (n * 3)
    have g1 := free_of_heap HSC4.out.names (n * 3 + 1)
    have g2 := free_of_heap HSC4.out.names (n * 3 + 2)
    go_wp2_with fail
    refine ⟨(names_fr w4 c.bn n _ _ _).mono (fun b hb _ => by simp at hb ⊢; simp [hb]), rfl, ?_⟩
    refine wpG_end ?_
    have hf5 := names_fr w4 c.bn n (.int .i64 (n4 : Int)) (.slice a4 NN c4) (.bool b4)
    have hn5 := names_put HSC4.out.names HSC4.out.sets.three hxn (.int .i64 (n4 : Int)) (.slice a4 NN c4) (.bool b4)
    obtain ⟨w5, hw5⟩ : ∃ w5, w5 = ((w4.setCell ⟨c.bn, n * 3, none⟩ (.int .i64 (n4 : Int))).setCell ⟨c.bn, n * 3 + 1, none⟩ (.slice a4 NN c4)).setCell ⟨c.bn, n * 3 + 2, none⟩ (.bool b4) := ⟨_, rfl⟩
    rw [← hw5] at hf5 hn5 ⊢
    clear hw5 k0 k1 k2 g0 g1 g2 L1
    have hbq : ∀ b ∈ [c.bn], NotStr w4 b := fun b hb => by rw [List.mem_singleton.1 hb]; exact HSC4.out.quietW _ (by unfold SeaC.wb; simp)
    have hc5 := HSC4.out.core.keep hf5 (fun b hb => ⟨hbq b hb, by rw [List.mem_singleton.1 hb]; exact HSC4.out.core.apart HSC4.out.names (by decide) (by decide)⟩)
    have hd4 := HSC4.out.due
    unfold boolRow at hd4
    have hS5 := ((HS4.out.more []).keep hf5 hbq)
    rw [← HNN.out] at hS5
    have hsl := (HSC4.out.sets.keep hf5 hbq []).set n (x := [.int .i64 (n4 : Int), .slice a4 NN c4, .bool b4]) (l := ofW K) ⟨n4, a4, c4, b4, by rw [← HNN.out], by rw [← HNN.out]; exact hS5⟩
    have hSEA := HSC4.out.step (U := []) hf5 (fun b hb => by unfold SeaC.wb; simp [List.mem_singleton.1 hb]) (by rw [List.append_nil]; exact hc5) hn5 hsl (by unfold boolRow; exact hf5.heap hd4 (by simpa using HSC4.out.ne_nd.symm)) (by rw [List.length_set]; exact HSC4.out.num)
    rw [List.append_nil] at hSEA
    have HSEA := Lib.hid hSEA
    have HF5 := Lib.hid (show Fr c.wb w w5 from (HFR3.out.trans HF4.out (fun _ h _ => h) (fun b hb _ => by unfold SeaC.wb; simp [HLL.out b hb])).trans hf5 (fun _ h _ => h) (fun b hb _ => by unfold SeaC.wb; simp at hb; simp [hb]))
    clear hf5 hn5 hbq hc5 hd4 hS5 hsl hSEA hgr hLL
    obtain ⟨l0, l1, l2, l3, l4, l5, l6, l7, l8, l9⟩ := ten_of_heap HSEA.out.obj
    obtain ⟨rau, rcu, hrvu, hrcu, hrmu⟩ := (HSEA.out.uints HUL.out HR.out hnN hnv).form
    have hcu := HSEA.out.uses.cell hnv
    obtain ⟨MU, hMU⟩ : ∃ MU, MU = (uIdx g.rules n g.rules.length).length := ⟨_, rfl⟩
    rw [← hMU] at hrvu hrcu
    rw [hrvu] at hcu
    have hMU4 : MU ≤ 262144 := by
     have h5 := uIdx_len g.rules n (fun r hr => (HV.out.rules r hr).2.2.1) g.rules.length
     have h6 := HV.out.few
     rw [hMU]; omega
    have HMU := Lib.hid hMU
    have HRVU := Lib.hid hrvu
    clear hMU hrvu
    go_wp2_with fail
    clear l0 l1 l2 l3 l4 l5 l6 l7 l8 l9 hcu
    go_loopw [95] (ExM g c (T ++ U ++ V) (m + 260 * i + 2) (Ks.set n K) (xs.set n [.int .i64 (n4 : Int), .slice a4 NN c4, .bool b4]) (ls.set n (ofW K)) D n w5) (fun iv _ => MU - (intOf iv).toNat)
    case atStart => exact ⟨0, D, Nat.zero_le _, rfl, HSEA.out, rfl, fun a h hi => by omega, fun j h => h, Fr.refl _ _⟩
    case round =>
     obtain ⟨cc, D2, hc, rfl, hsc, hDl, hpast, hless, hfr⟩ := hrel
     rw [← HMU.out] at hc
     have HSCM := Lib.hid hsc
     have HPAST := Lib.hid hpast
     have HLESS := Lib.hid hless
     have HFRM := Lib.hid hfr
     have HDL := Lib.hid hDl
     by_cases hcM : cc < MU
     ·have hd2 : decide (cc < MU) = true := decide_eq_true hcM
      have hcl : cc < (uIdx g.rules n g.rules.length).length := by rw [← HMU.out]; exact hcM
      have hui := hsc.uints HUL.out HR.out hnN hnv
      rw [HRVU.out] at hui
      obtain ⟨b9, o9, e9, hcell⟩ := int_cell hui cc hcl
      subst e9
      obtain ⟨j, hj, hjR, r, hr, hmem⟩ := mem_uIdx.1 (List.getElem_mem hcl)
      rw [hj] at hcell
      have hjl : j < g.rules.length := (List.getElem?_eq_some_iff.1 hr).1
      have hjD : j < D2.length := by rw [hDl, HOUT.out.len, HS.out.due.len]; exact hjl
      have hjR' : j < c.R := by rw [HR.out]; exact hjl
      have hdR : decide (j < c.R) = true := decide_eq_true hjR'
      have hdc := hsc.due.cell hjD
      have hdf := hsc.due.free j
      obtain ⟨l0, l1, l2, l3, l4, l5, l6, l7, l8, l9⟩ := ten_of_heap hsc.obj
      have HNX := Lib.hid (hsc.mark j true)
      have HNF := Lib.hid (show Fr c.wb w5 (wr.setCell ⟨c.bd, j, none⟩ (.bool true)) from hfr.trans (Fr.set0 wr c.bd j (.bool true)) (fun _ h _ => h) (fun b hb _ => by unfold SeaC.wb; simp at hb; simp [hb]))
      have HNP := Lib.hid (show ∀ a (h : a < (uIdx g.rules n g.rules.length).length), a < cc + 1 → ∀ q : Nat, (uIdx g.rules n g.rules.length)[a]'h = (q : Int) → (D2.set j true)[q]? = some true from fun a h hi q hq => by
       by_cases e : a = cc
       ·subst e
        rw [hj] at hq
        obtain rfl : j = q := by omega
        simp [hjD]
       ·by_cases e2 : j = q
        ·subst e2; simp [hjD]
        ·rw [List.getElem?_set_ne e2]
         exact hpast a h (by omega) q hq)
      have HNL2 := Lib.hid (show ∀ q : Nat, (D2.set j true)[q]? = some false → D[q]? = some false from fun q hq => by
       by_cases e2 : j = q
       ·subst e2; simp [hjD] at hq
       ·rw [List.getElem?_set_ne e2] at hq
        exact hless q hq)
      clear hsc hDl hpast hless hfr hui hj hr hmem
      go_wp2_with fail
      go_roundw
      case rel => exact ⟨cc + 1, D2.set j true, by rw [← HMU.out]; omega, by go_num, HNX.out, by rw [List.length_set]; exact HDL.out, HNP.out, HNL2.out, HNF.out⟩
      case measure => simp [intOf]; omega
     ·have hd2 : decide (cc < MU) = false := decide_eq_false hcM
      have HUSD := Lib.hid (show ∀ (j : Nat) (r : RuleG), g.rules[j]? = some r → (n : Int) ∈ r.right → D2[j]? = some true from fun j r hr hm => by
       have h5 : (j : Int) ∈ uIdx g.rules n g.rules.length := mem_uIdx.2 ⟨j, rfl, (List.getElem?_eq_some_iff.1 hr).1, r, hr, hm⟩
       obtain ⟨a, ha, e⟩ := List.getElem_of_mem h5
       exact hpast a ha (by have := HMU.out; omega) j e)
      have HFIN := Lib.hid (HOUT.out.grow HS.out hDl HUSD.out hless)
      clear hsc hDl hpast hless hfr
      go_wp2_with fail
      go_ret
      refine ⟨true, rfl, HF5.out.trans HFRM.out (fun _ h _ => h) (fun _ h _ => h), .inr ⟨rfl, U ++ V, Ks.set n K, xs.set n [.int .i64 (n4 : Int), .slice a4 NN c4, .bool b4], ls.set n (ofW K), D2, ?_, HFIN.out, HK.out.set n K, fun ls0 h => RndK.grow hn h HGR.out n⟩⟩
      rw [← List.append_assoc]
      exact HSCM.out.mono (by omega)
   ·have hdl : decide (NL < NK) = false := decide_eq_false hlt
    have hdl2 : decide ((NL : Int) < (NK : Int)) = false := decide_eq_false (by omega)
    have hno : ¬ (ls[n]'hn).length < (ofW K).length := by rw [HOL.out, ← HNK.out, ← HNL.out]; exact hlt
    have hsame := HOUT.out.same HS.out hno
    have hke : ofW K = ls[n]'hn := (set_eq (HS.out.sound.set _ (List.getElem_mem hn)) (set_ofW K) (fun v hv => HOUT.out.own v hv) hno).symm
    have HSAME := Lib.hid hsame
    have HKE2 := Lib.hid hke
    repeat (apply wpG_t; · (intro w' hf'; go_wp2_with fail; exact ⟨rfl, rfl⟩))
    refine wpG_end ?_
    clear hno hsame hke
    go_wp2_with fail
    go_ret
    refine ⟨true, rfl, HFR2.out, .inr ⟨rfl, U, Ks.set n K, xs, ls, D, HSC2.out.mono (by omega), HSAME.out, HK.out.same hn HKE2.out, fun ls0 h => h.same HOUT.out HS.out.due⟩⟩
end Go.Proofs.YtnaamjpiaekmeaaGreat
namespace Go.Proofs.YtnaamjpiaekmeaaGreat
open Go.RowKit Go.Maps
theorem infoSl : (Tryz.prog.info? 22).map (fun i => (i.zero, i.size, i.bytes)) = some (some (.slice none 0 0), 1, 24) := by kernel_rfl
def FdRow (w0 wx : World) (v : Value) (vs : List Value) (ls : List Words) : Prop := ownsS wx w0.heap.size 22 1 v vs.length vs ∧ vs.length ≤ ls.length ∧ (∀ i (h : i < vs.length) (h' : i < ls.length), strsAt wx (vs[i]'h) (ls[i]'h')) ∧ Fr [] w0 wx
theorem FdRow.sets {w0 wx : World} {v : Value} {vs : List Value} {ls : List Words} (h : FdRow w0 wx v vs ls) (hl : vs.length = ls.length) : setsAt wx v ls :=
 ⟨vs, hl, cellsAt_of_owns h.1.owns, h.2.2.1⟩
theorem FdRow.push {w0 w1 w2 w3 : World} {v v' u : Value} {vs : List Value} {ls : List Words} (h : FdRow w0 w1 v vs ls) (hn : vs.length < ls.length) (hf : Fr [] w1 w2) (hu : strsAt w2 u (ls[vs.length]'hn)) (h3 : ownsS w3 w0.heap.size 22 1 v' (vs.length + 1) (vs ++ [u])) (hf3 : Fr v.ownBlock.toList w2 w3) : FdRow w0 w3 v' (vs ++ [u]) ls := by
 have h2 : ownsS w2 w0.heap.size 22 1 v vs.length vs := h.1.kept hf (by simp)
 have hq : ∀ b ∈ v.ownBlock.toList, NotStr w2 b := h2.quiet
 refine ⟨by rw [List.length_append]; exact h3, by rw [List.length_append]; exact hn, fun i h1 h4 => ?_, (h.2.2.2.tr0 hf).trans hf3 (by simp) (fun b hb hlt => by have := (h2.lt b (by simpa [Option.mem_toList] using hb)).1; omega)⟩
 by_cases e : i < vs.length
 ·rw [List.getElem_append_left e]
  exact strs_keepN ((h.2.2.1 i e h4).below hf) hf3 hq
 ·have hi : i = vs.length := by rw [List.length_append] at h1; simp at h1; omega
  subst hi
  rw [List.getElem_append_right (Nat.le_refl _)]
  simpa using strs_keepN hu hf3 hq
def FdR (w0 : World) (ls : List Words) (v iv : Value) (wx : World) : Prop := ∃ vs, FdRow w0 wx v vs ls ∧ iv = .int .i64 (vs.length : Int)
set_option maxRecDepth 100000 in
set_option maxHeartbeats 4000000 in
theorem pfound (c : SeaC) (T : List Words) (m : Nat) (Ks : List Words) (xs : List (List Value)) (ls : List Words) (D : List Bool) (w : World) (hA : SeaAt w c T m Ks xs ls D) :
  Calls Tryz.prog 29 #[.pointer (some ⟨c.p, 0, none⟩)] w fun e w' => ∃ v, e = .returned v ∧ setsAt w' v ls ∧ Fr [] w w' := by
 obtain ⟨iS, hiS, hS0, hS1, hS2⟩ := info_parts infoSl
 have hlN : ls.length = c.N := by rw [← hA.sets.len, hA.num]
 have hN256 := hA.small
 obtain ⟨l0, l1, l2, l3, l4, l5, l6, l7, l8, l9⟩ := ten_of_heap hA.obj
 have HA := Lib.hid hA
 have HLN := Lib.hid hlN
 clear hA hlN
 go_enter Tryz.func29, Tryz.ntmps29
 go_wp2_with fail
 clear l0 l1 l2 l3 l4 l5 l6 l7 l8 l9
 go_loopw [3, 11] (FdR w ls) (fun _ iv _ => c.N - (intOf iv).toNat)
 case atStart => exact ⟨[], ⟨ownsS.nil _ _ _ _, Nat.zero_le _, fun i h => by simp at h, Fr.refl _ _⟩, rfl⟩
 case round =>
  obtain ⟨vs, hrow, rfl⟩ := hrel
  obtain ⟨a3, c3, rfl, hc3, hm3⟩ := owns_slice hrow.1.owns
  have hvl := hrow.2.1
  obtain ⟨n, hn⟩ : ∃ n, n = vs.length := ⟨_, rfl⟩
  have HROW := Lib.hid hrow
  have HNN := Lib.hid hn
  rw [← hn] at hvl hc3 ⊢
  have hsz : w.heap.size ≤ wr.heap.size := hrow.2.2.2.size
  have HSC := Lib.hid (HA.out.later hrow.2.2.2)
  clear hrow hn
  by_cases hin : n < c.N
  ·have hd1 : decide (n < c.N) = true := decide_eq_true hin
   have hil : n < ls.length := by rw [HLN.out]; exact hin
   have hxn : n < xs.length := by rw [HSC.out.num]; exact hin
   obtain ⟨nx, ax, cx, bx, hxe, hSx⟩ := HSC.out.sets.at_ n hxn hil
   obtain ⟨k0, k1, k2⟩ := names_cells HSC.out.names HSC.out.sets.three hxn hxe
   have HSX := Lib.hid hSx
   have hf8 := Fr.alloc wr (.cells #[.int .i64 (nx : Int), .slice ax (ls[n]'hil).length cx, .bool bx] 93)
   have hb8 := heap_alloc_new wr (.cells #[.int .i64 (nx : Int), .slice ax (ls[n]'hil).length cx, .bool bx] 93)
   obtain ⟨NX, hNX⟩ : ∃ NX, NX = (ls[n]'hil).length := ⟨_, rfl⟩
   rw [← hNX] at hf8 hb8 k1
   have HNX := Lib.hid hNX
   obtain ⟨w8, hw8⟩ : ∃ w8, w8 = wr.alloc (.cells #[.int .i64 (nx : Int), .slice ax NX cx, .bool bx] 93) := ⟨_, rfl⟩
   obtain ⟨r8, hr8⟩ : ∃ r8, r8 = wr.heap.size := ⟨_, rfl⟩
   rw [← hw8] at hf8 hb8
   rw [← hr8] at hb8
   have HW8 := Lib.hid hw8
   have HR8 := Lib.hid hr8
   have HF8 := Lib.hid hf8
   have HB8 := Lib.hid hb8
   have HWD := Lib.hid (pwords c.k T (.agg #[.int .i64 (nx : Int), .slice ax (ls[n]'hil).length cx, .bool bx]) (ls[n]'hil) w8 ⟨nx, _, _, rfl, hSx.keep hf8 (by simp)⟩)
   rw [← HNX.out] at HWD
   have hzs : ∀ z ∈ (Value.slice none 0 0).cells.toList, notS z := fun z hz x e => by subst e; simp [Value.cells] at hz
   have HZS := Lib.hid hzs
   clear hxe hSx hNX hw8 hr8 hf8 hb8 hzs
   go_upto_region 5 with fail
   rw [← HW8.out, ← HR8.out]
   clear k0 k1 k2
   obtain ⟨x0, x1, x2, y0, y1, y2⟩ := three_of_set HB8.out
   go_wp2_with (first
    | (go_at_call 62; refine HWD.out.mono ?_; rintro e w9 ⟨v9, rfl, hs9, hf9⟩; obtain ⟨a9, c9, rfl, _, _⟩ := hs9.form; have HS9 := Lib.hid hs9; have HF9 := Lib.hid (HF8.out.tr0 hf9); have HR9 := Lib.hid (HROW.out.1.kept HF9.out (by simp)); rw [← HNN.out] at HR9; rw [← HNX.out]; have hsz9 : w.heap.size ≤ w9.heap.size := Nat.le_trans hsz HF9.out.size; clear hs9 hf9)
    | (at_builtin; refine wpL_appendSS rfl _ _ 28 rfl w.heap.size 22 iS (.slice none 0 0) 1 24 Tryz.underlying28 hiS hS0 hS1 hS2 rfl (by decide) HZS.out (.slice a3 n c3) n _ rfl HR9.out [.slice a9 NX c9] rfl (by simp [Value.oneCell']) (by simp [notS]) rfl (by omega) (by simp only [maxLen]; omega) hsz9 ?_; intro v7 w7 hown7 hf7 hb7))
   have hvn : vs.length < ls.length := by rw [← HNN.out]; exact hil
   have hpu := HROW.out.push (u := .slice a9 NX c9) (v' := v7) (w2 := w9) (w3 := w7) hvn HF9.out (by
    have h := HS9.out
    rw [← HNX.out] at h
    have e : ls[vs.length]'hvn = ls[n]'hil := by congr 1; exact HNN.out.symm
    rw [e]; exact h) (by rw [← HNN.out]; exact hown7) (by rw [← HNN.out]; exact hf7)
   exact ⟨⟨_, hpu, by rw [List.length_append, ← HNN.out]; rfl⟩, by simp [intOf]; omega⟩
  ·have hd1 : decide (n < c.N) = false := decide_eq_false hin
   have HFIN := Lib.hid (HROW.out.sets (by rw [HLN.out, ← HNN.out]; rw [HLN.out] at hvl; omega))
   rw [← HNN.out] at HFIN
   have HFRR := Lib.hid HROW.out.2.2.2
   go_wp2_with fail
   go_ret
   exact ⟨_, rfl, HFIN.out, HFRR.out⟩
end Go.Proofs.YtnaamjpiaekmeaaGreat
namespace Go.Proofs.YtnaamjpiaekmeaaGreat
open Go.RowKit Go.Maps
structure SeaG (g : GramG) (c : SeaC) : Prop where
 valid : ValidG g
 k1 : 1 ≤ c.k
 k4 : c.k ≤ 4
 n : c.N = g.names.length
 r : c.R = g.rules.length
 t : c.M = g.terms.length
 rl : c.rl = RLs g.rules c.N c.R
 ul : c.ul = ULs g.rules c.N c.R
def SeaR (g : GramG) (c : SeaC) (T : List Words) (m : Nat) (wx : World) (ls' : List Words) (D' : List Bool) : Prop :=
 ∃ U Ks' xs', SeaAt wx c (T ++ U) m Ks' xs' ls' D' ∧ SchS g c.k ls' D' ∧ RestU Ks' ls'
def RdGot (g : GramG) (c : SeaC) (T : List Words) (m : Nat) (ls : List Words) (w : World) (e : Ending) (w' : World) : Prop :=
 ∃ z, e = .returned (.int .i64 z) ∧ Fr c.wb w w' ∧ ((z = 21 ∧ OverG g c.k) ∨ (z = 0 ∧ ∃ ls' D', SeaR g c T (m + 281600000) w' ls' D' ∧ RndK g ls ls' D' 0))
def RdR (g : GramG) (c : SeaC) (T : List Words) (m : Nat) (ls : List Words) (w : World) (iv : Value) (wx : World) : Prop :=
 ∃ (z : Int) (ls' : List Words) (D' : List Bool), iv = .int .i64 z ∧ -1 ≤ z ∧ z < (c.N : Int) ∧ SeaR g c T (m + 1100000 * (c.N - (z + 1).toNat)) wx ls' D' ∧ RndK g ls ls' D' (z + 1).toNat ∧ Fr c.wb w wx
set_option maxRecDepth 100000 in
set_option maxHeartbeats 8000000 in
theorem pround (hW : ProgWCat) (g : GramG) (c : SeaC) (T : List Words) (m : Nat) (ls : List Words) (D0 : List Bool) (q0 q6 : Nat) (a1 : Option Addr) (c1 : Nat) (a3 : Option Addr) (c3 : Nat) (w : World) (hG : SeaG g c) (hx3 : c.x3 = .slice a3 c.R c3) (hg : RulesK w c.wb a3 g.rules)
  (hq0 : w.cell? ⟨q0, 0, none⟩ = some (.slice a1 c.N c1)) (hq6 : w.cell? ⟨q6, 0, none⟩ = some (.pointer (some ⟨c.p, 0, none⟩))) (hq6n : q6 ∉ c.wb)
  (hA : SeaR g c T m w ls D0) (hN : c.N ≤ 256) (hm : m ≤ 6000000000000000) :
  Calls Tryz.prog 26 #[.pointer (some ⟨q0, 0, none⟩), .pointer (some ⟨q6, 0, none⟩)] w (RdGot g c T m ls w) := by
 have HEX := Lib.hid (fun (n : Nat) (m' : Nat) (ls' : List Words) (D' : List Bool) (wx : World) (hn : n < ls'.length) (hf : Fr c.wb w wx) (hA' : SeaR g c T m' wx ls' D') (hm' : m' ≤ 7000000000000000) =>
  (show Calls Tryz.prog 27 #[.pointer (some ⟨c.p, 0, none⟩), .int .i64 (n : Int)] wx fun e w' => ∃ b, e = .returned (.bool b) ∧ Fr c.wb wx w' ∧ ((b = false ∧ OverG g c.k) ∨ (b = true ∧ ∃ ls2 D2, SeaR g c T (m' + 1100000) w' ls2 D2 ∧ ∀ ls0, RndK g ls0 ls' D' (n + 1) → RndK g ls0 ls2 D2 n)) from by
   obtain ⟨U, Ks', xs', h1, h2, h3⟩ := hA'
   refine (pextend hW g c (T ++ U) m' Ks' xs' ls' D' n hn a3 c3 wx hG.valid hG.k1 hG.k4 hG.n hG.r hG.t hG.rl hG.ul hx3 (hg.next hf) h1 h2 h3 hm').mono ?_
   rintro e w' ⟨b, rfl, hfr, hor⟩
   refine ⟨b, rfl, hfr, hor.imp id ?_⟩
   rintro ⟨rfl, V, Ks2, xs2, ls2, D2, g1, g2, g3, g4⟩
   exact ⟨rfl, ls2, D2, ⟨U ++ V, Ks2, xs2, by rw [← List.append_assoc]; exact g1, g2, g3⟩, g4⟩))
 have HA := Lib.hid hA
 have HQ6 := Lib.hid (fun wx (hf : Fr c.wb w wx) => hf.cell hq6 hq6n)
 have HNE := Lib.hid hG.n
 have hN1 : 1 ≤ c.N := by rw [hG.n]; exact hG.valid.one
 have HST := Lib.hid (show RndK g ls ls D0 c.N from RndK.start (fun r hr => by rw [hG.n]; exact (hG.valid.rules r hr).2.1))
 have e1 : ((c.N : Int) - 1 + 1).toNat = c.N := by omega
 have HE1 := Lib.hid e1
 clear hW hG hx3 hg hq6 hq6n hA e1
 go_enter Tryz.func26, Tryz.ntmps26
 go_wp2_with fail
 clear hq0
 go_loopw [3] (RdR g c T m ls w) (fun iv _ => (intOf iv + 1).toNat)
 case atStart => exact ⟨(c.N : Int) - 1, ls, D0, rfl, by omega, by omega, by rw [HE1.out]; have h := HA.out; simpa using h, by rw [HE1.out]; exact HST.out, Fr.refl _ _⟩
 case round =>
  obtain ⟨z, ls', D', rfl, hz1, hz2, hsc, hrk, hfr⟩ := hrel
  have HSC := Lib.hid hsc
  have HRK := Lib.hid hrk
  have HFR := Lib.hid hfr
  by_cases hneg : z < 0
  ·have d1 : decide (z < 0) = true := decide_eq_true hneg
   have d1b : decide (0 ≤ z) = false := decide_eq_false (by omega)
   have HZ := Lib.hid (show (z + 1).toNat = 0 by omega)
   have HFIN := Lib.hid (show SeaR g c T (m + 281600000) wr ls' D' from by
    obtain ⟨U, Ks', xs', h1, h2, h3⟩ := hsc
    exact ⟨U, Ks', xs', h1.mono (by rw [HZ.out]; omega), h2, h3⟩)
   clear hsc hrk hfr hneg
   go_wp2_with fail
   go_ret
   exact ⟨0, rfl, HFR.out, .inr ⟨rfl, ls', D', HFIN.out, by have := HRK.out; rwa [HZ.out] at this⟩⟩
  ·obtain ⟨n, rfl⟩ := Int.eq_ofNat_of_zero_le (show 0 ≤ z by omega)
   have d1 : decide ((n : Int) < 0) = false := decide_eq_false (by omega)
   have d1b : decide (0 ≤ (n : Int)) = true := decide_eq_true (by omega)
   have hnl : n < ls'.length := by
    obtain ⟨U, Ks', xs', h1, h2, h3⟩ := hsc
    rw [h2.sound.len, ← HNE.out]; omega
   have hrk2 := hrk
   rw [show ((n : Int) + 1).toNat = n + 1 by omega] at hrk2 hsc
   have HC := Lib.hid (HEX.out n _ ls' D' wr hnl hfr hsc (by
    have : 1100000 * (c.N - (n + 1)) ≤ 1100000 * 256 := Nat.mul_le_mul_left _ (by omega)
    omega))
   have c6 := HQ6.out wr hfr
   have HRK2 := Lib.hid hrk2
   have hnb : n ≤ 256 := by omega
   clear hsc hrk hfr hneg hrk2
   go_upto_if 15 with (go_at_call 27; refine HC.out.mono ?_; rintro e w1 ⟨b, rfl, hf1, hor⟩; have HF1 := Lib.hid hf1; have HOR := Lib.hid hor; clear hf1 hor)
   rcases HOR.out with ⟨rfl, hov⟩ | ⟨rfl, ls2, D2, hsc2, hrk2⟩
   ·have HOV := Lib.hid hov
    clear hov HOR c6
    go_wp2_with fail
    go_ret
    exact ⟨21, rfl, HFR.out.trans HF1.out (fun _ h _ => h) (fun _ h _ => h), .inl ⟨rfl, HOV.out⟩⟩
   ·have HSC2 := Lib.hid hsc2
    have HRKN := Lib.hid (hrk2 ls HRK2.out)
    have HEN := Lib.hid (show ((n : Int) - 1 + 1).toNat = n by omega)
    clear hsc2 hrk2 HOR c6
    go_wp2_with fail
    refine ⟨⟨(n : Int) - 1, ls2, D2, rfl, by omega, by omega, ?_, by rw [HEN.out]; exact HRKN.out, HFR.out.trans HF1.out (fun _ h _ => h) (fun _ h _ => h)⟩, by simp [intOf] <;> omega⟩
    rw [HEN.out]
    obtain ⟨U, Ks', xs', h1, h2, h3⟩ := HSC2.out
    exact ⟨U, Ks', xs', h1.mono (by omega), h2, h3⟩
end Go.Proofs.YtnaamjpiaekmeaaGreat
