/- Package dir: perform. -/
import Derived.Test.YtmchnaojlnjmjaaGreatDirB
import Derived.Test.YtmchnaojlnjmjaaGreatBs
namespace Go.Proofs.YtmchnaojlnjmjaaGreat
open Go.RowKit Go.Maps

theorem infoOp : (Tryz.prog.info? 122).map (fun i => (i.zero, i.size, i.bytes)) = some (some (.agg #[.int .i64 0, .string ⟨#[]⟩, .string ⟨#[]⟩, .int .i64 0]), 4, 48) := by kernel_rfl
def Turned (p : Nat) (B : List Nat) (now safe : List Ent) (ops : List OpD) (m : Nat) (w w' : World) : Prop := ∃ B', isD w' p B' now safe ops m ∧ Fr B w w' ∧ ∀ k ∈ B', k ∈ B ∨ w.heap.size ≤ k
set_option maxRecDepth 100000 in
theorem dperform_any (p m : Nat) (B : List Nat) (now safe : List Ent) (ops : List OpD) (o : OpD) (w : World) (h : isD w p B now safe ops m) (ho : okOp now o) (hm : m + 1 ≤ 1000000) :
    Calls Tryz.prog 77 #[.pointer (some ⟨p, 0, none⟩), o.pval] w fun e w' => e = .returned (.tuple #[]) ∧ Turned p B (applyL now o) safe (ops ++ [o]) (m + 1) w w' := by
  obtain ⟨i, hi, hz0, hz1, hz2⟩ := info_parts infoOp
  have hB := h.lt
  have hD := h
  obtain ⟨bN, bS, pv, m2, rfl, hp, hN, hS, hm2, hrow, hne, hseq, hnow⟩ := h
  obtain ⟨a0, cap, rfl, hcap, hcm⟩ := owns_slice hrow
  have HD := Lib.hid hD
  have HS := Lib.hid hS
  have HR := Lib.hid hrow
  have HP := Lib.hid hp
  have HN := Lib.hid hN
  have HB := Lib.hid hB
  have HAP := Lib.hid (fun wx (hx : mapIs wx bN m now) => opapply_any o bN m now wx hx ho (by simp [maxLen]; omega))
  have HSEQ := Lib.hid (seqOk_snoc safe ops o hseq (by rw [← hnow]; exact ho))
  have HNOW := Lib.hid (show applyL now o = (ops ++ [o]).foldl applyL safe by rw [List.foldl_append, ← hnow]; rfl)
  have HNE := Lib.hid hne
  obtain ⟨n, hn⟩ : ∃ n, n = ops.length := ⟨_, rfl⟩
  have HLN := Lib.hid hn
  rw [← hn] at HP HR HB hm2 hcap HD ⊢
  unfold OpD.pval at HAP ⊢
  clear hD hp hN hS hrow hne hseq hnow hB hn ho
  go_enter Tryz.func77, Tryz.ntmps77
  go_wp2_with fail
  obtain ⟨A, hA⟩ : ∃ A : Array Value, A = #[.int .i64 o.kind, encStr o.a, encStr o.b, .int .i64 o.n] := ⟨_, rfl⟩
  have hb1 := heap_alloc_new w (.cells #[.int .i64 o.kind, encStr o.a, encStr o.b, .int .i64 o.n] 122)
  have hf1 := Fr.alloc w (.cells #[.int .i64 o.kind, encStr o.a, encStr o.b, .int .i64 o.n] 122)
  have hs1 : (w.alloc (.cells #[.int .i64 o.kind, encStr o.a, encStr o.b, .int .i64 o.n] 122)).heap.size = w.heap.size + 1 := World.size_alloc _ _
  obtain ⟨w1, hw1⟩ : ∃ w1, w1 = w.alloc (.cells #[.int .i64 o.kind, encStr o.a, encStr o.b, .int .i64 o.n] 122) := ⟨_, rfl⟩
  obtain ⟨q, hq⟩ : ∃ q, q = w.heap.size := ⟨_, rfl⟩
  rw [← hw1] at hb1 hf1 hs1 ⊢
  rw [← hq] at hb1 hs1 ⊢
  have hpq : p < q := by rw [hq]; exact HB.out p (by simp)
  have hNq : bN < q := by rw [hq]; exact HB.out bN (by simp)
  have HB1 := Lib.hid hb1
  have HF1 := Lib.hid hf1
  have HS1 := Lib.hid hs1
  have HQ := Lib.hid hq
  clear hb1 hf1 hs1 hw1 hq hA A
  have hpN : p ≠ bN := by
    rintro rfl
    obtain ⟨es, c, hh⟩ := HN.out.heap
    rw [HP.out] at hh; cases hh
  refine wp_region_G [bN] [(0, false), (1, false), (2, false), (3, false), (4, false), (5, true)] 20 rfl (by kernel_rfl) (by kernel_rfl) (by kernel_rfl) (fun c a d v w h => by cases d <;> exact h) (fun w2 hf2 => ?_)
  simp only [List.map_cons, List.map_nil, List.getElem?_toArray, List.getElem?_cons_succ, List.getElem?_cons_zero, Option.getD_some]
  have HF2 := Lib.hid hf2
  have LB : Hid (Later [bN] w2 (fun w' => w'.heap[q]? = some (.cells #[.int .i64 o.kind, encStr o.a, encStr o.b, .int .i64 o.n] 122 (0, 0)))) := Lib.hid (fun w' hf' => hf'.heap (hf2.heap HB1.out (by simp)) (by simp; omega))
  have LP : Hid (Later [bN] w2 (fun w' => w'.heap[p]? = some (.cells #[.map (some bN), .map (some bS), .slice a0 n cap] 101 (0, 0)))) := Lib.hid (fun w' hf' => hf'.heap (hf2.heap (HF1.out.heap HP.out (by simp)) (by simp)) (by simp; omega))
  repeat (apply wpG_t; · (intro w' hf'; obtain ⟨c0, c1, c2, f0, f1, f2⟩ := three_of_heap (LP.out w' hf'); obtain ⟨d0, d1, d2, d3⟩ := four_of_heap (LB.out w' hf'); go_wp2_with fail; exact ⟨rfl, rfl⟩))
  refine wpG_x ?_
  have hap := HAP.out w2 (HN.out.below (HF1.out.trans hf2 (by simp) (by simp)))
  have HAP2 := Lib.hid hap
  clear hap hf2
  go_wp2_with (go_at_call 91; refine HAP2.out.mono ?_; rintro e w3 ⟨rfl, hM3, hf3⟩)
  refine ⟨hf3, rfl, ?_⟩
  refine wpG_end ?_
  go_wp2_with fail
  have hf13 : Fr [bN] w w3 := (HF1.out.trans HF2.out (by simp) (n := []) (by simp)).trans hf3 (by simp) (fun _ hk _ => hk)
  have hrk : ∀ k, (Value.slice a0 n cap).ownBlock = some k → k ∈ p :: bN :: bS :: (Value.slice a0 n cap).ownBlock.toList := fun k hk => by simp [hk]
  have hrp : ∀ k, (Value.slice a0 n cap).ownBlock = some k → k ≠ p ∧ k ≠ bN ∧ k ≠ bS := by
    intro k hk
    rcases HR.out.2 with ⟨e, _⟩ | ⟨g, cap', cur, e, _, hg, _⟩
    · rw [e] at hk; cases hk
    · rw [e] at hk
      have hk' : g = k := by simpa [Value.ownBlock] using hk
      subst hk'
      refine ⟨?_, ?_, ?_⟩
      · rintro rfl; rw [HP.out] at hg; simp at hg
      · rintro rfl; obtain ⟨es, c, hh⟩ := HN.out.heap; rw [hh] at hg; cases hg
      · rintro rfl; obtain ⟨es, c, hh⟩ := HS.out.heap; rw [hh] at hg; cases hg
  have hrow3 := owns_kept HR.out hf13 (fun k hk => by have := hrp k hk; simp; omega)
  have hp3 := hf13.heap HP.out (by simpa using hpN)
  have hb3 := hf3.heap (HF2.out.heap HB1.out (by simp)) (by simp; omega)
  have hq3 : q < w3.heap.size := (Array.getElem?_eq_some_iff.1 hb3).1
  have HF13 := Lib.hid hf13
  have HF3 := Lib.hid hf3
  have HM3 := Lib.hid hM3
  clear hf13 hf3 hM3
  refine wp_region_Z (Value.slice a0 n cap).ownBlock.toList 10 [(0, false), (1, false), (2, false), (3, false), (4, false), (5, false), (6, true), (7, true), (8, true), (9, true), (10, true)] 20 rfl (by kernel_rfl) (by kernel_rfl) (by kernel_rfl) (fun c a d v w h => by cases d <;> exact h) (fun w4 hf4 => ?_)
  simp only [List.map_cons, List.map_nil, List.getElem?_toArray, List.getElem?_cons_succ, List.getElem?_cons_zero, Option.getD_some]
  have LB4 : Hid (Later (Value.slice a0 n cap).ownBlock.toList w4 (fun w' => w'.heap[q]? = some (.cells #[.int .i64 o.kind, encStr o.a, encStr o.b, .int .i64 o.n] 122 (0, 0)))) := Lib.hid (fun w' hf' => hf'.heap (hf4.heap hb3 (by simp)) (fun hm => by have h1 := Option.mem_toList.1 hm; have := HB.out q (hrk q h1); have := HQ.out; omega))
  have LP4 : Hid (Later (Value.slice a0 n cap).ownBlock.toList w4 (fun w' => w'.heap[p]? = some (.cells #[.map (some bN), .map (some bS), .slice a0 n cap] 101 (0, 0)))) := Lib.hid (fun w' hf' => hf'.heap (hf4.heap hp3 (by simp)) (fun hm => (hrp p (Option.mem_toList.1 hm)).1 rfl))
  have hrow4 := owns_kept hrow3 hf4 (by simp)
  have HR4 := Lib.hid hrow4
  have HF4 := Lib.hid hf4
  have HRP := Lib.hid hrp
  have hq4 : q < w4.heap.size := by have := hf4.size; omega
  clear hrow3 hp3 hb3 hrow4 hf4 hrp
  repeat (apply walkZ_t; · (intro w' hf'; obtain ⟨c0, c1, c2, f0, f1, f2⟩ := three_of_heap (LP4.out w' hf'); obtain ⟨d0, d1, d2, d3⟩ := four_of_heap (LB4.out w' hf'); go_wp2_with fail; exact ⟨rfl, rfl⟩))
  refine walkZ_x ?_
  go_wp2_with fail
  have hfe := Fr.alloc w4 (.cells #[.int .i64 o.kind, encStr o.a, encStr o.b, .int .i64 o.n] 122)
  refine ⟨hfe.mono (by simp), rfl, ?_⟩
  refine walkZ_x ?_
  go_wp2_with (at_builtin; refine wpL_appendS rfl (.tmp 14) (.tmp 16) 99 rfl 0 122 i _ 4 48 Tryz.underlying99 hi hz0 hz1 hz2 (by rfl) (by decide) (.slice a0 n cap) n _ rfl HR4.out o.pcells rfl (by intro u hu; simp [OpD.pcells] at hu; rcases hu with rfl | rfl | rfl | rfl <;> rfl) rfl (by have := HLN.out; omega) (by simp [maxLen]; omega) (Nat.zero_le _) ?_; intro v5 w5 hown5 hf5 hb5)
  obtain ⟨a5, c5, rfl, hc5, hm5⟩ := owns_slice hown5
  refine ⟨hf5, rfl, ?_⟩
  have hf45 : Fr (Value.slice a0 n cap).ownBlock.toList w4 w5 := hfe.trans hf5 (by simp) (fun _ hk _ => hk)
  have HF45 := Lib.hid hf45
  have HO5 := Lib.hid hown5
  have HB5 := Lib.hid hb5
  obtain ⟨e0, e1, e2, g0, g1, g2⟩ := three_of_heap (LP4.out w5 hf45)
  clear hf45 hown5 hb5 hf5 hfe
  refine walkZ_x ?_
  go_wp2_with fail
  refine ⟨Fr.refl _ _, rfl, ?_⟩
  refine walkZ_x ?_
  go_wp2_with fail
  refine ⟨Fr.refl _ _, rfl, ?_⟩
  refine walkZ_x ?_
  go_wp2_with fail
  refine ⟨rfl, walkZ_end ?_⟩
  go_wp2_with fail
  go_end0
  have hfs := Fr.set0 w5 p 2 (.slice a5 (n + 1) c5)
  have hpB := HB.out p (by simp)
  have hw4 : w.heap.size ≤ w4.heap.size := by have := HQ.out; omega
  have hS3 := HS.out.kept HF13.out (fun hm => HNE.out (List.mem_singleton.1 hm).symm)
  have hS5 : mapIs w5 bS m2 safe := (hS3.below HF4.out).kept HF45.out (fun hm => (HRP.out bS (Option.mem_toList.1 hm)).2.2 rfl)
  have hN5 : mapIs w5 bN (m + 1) (applyL now o) := (HM3.out.below HF4.out).kept HF45.out (fun hm => (HRP.out bN (Option.mem_toList.1 hm)).2.1 rfl)
  have hSp : p ≠ bS := by
    rintro rfl
    obtain ⟨es, c, hh⟩ := HS.out.heap
    rw [HP.out] at hh; cases hh
  have hk5 : ∀ k, (Value.slice a5 (n + 1) c5).ownBlock = some k → k ≠ p ∧ ((Value.slice a0 n cap).ownBlock = some k ∨ w.heap.size ≤ k) := by
    intro k hk
    rcases HB5.out with h5 | ⟨k', h5, h6⟩
    · rw [h5] at hk
      exact ⟨(HRP.out k hk).1, .inl hk⟩
    · rw [hk] at h5
      have h7 : k = k' := Option.some.inj h5
      subst h7
      exact ⟨by omega, .inr (by omega)⟩
  have hlen : n + 1 = (ops ++ [o]).length := by rw [List.length_append, ← HLN.out]; rfl
  have hfl : ((ops ++ [o]).map OpD.pcells).flatten = (ops.map OpD.pcells).flatten ++ o.pcells := by simp
  refine ⟨rfl, p :: bN :: bS :: (Value.slice a5 (n + 1) c5).ownBlock.toList, ⟨bN, bS, _, m2, rfl, ?_, hN5.kept hfs (by simpa using Ne.symm hpN), hS5.kept hfs (by simpa using Ne.symm hSp), by omega, ?_, HNE.out, HSEQ.out, HNOW.out⟩, ?_, ?_⟩
  · have := heap_setCell_same (i := 2) (LP4.out w5 HF45.out) (.slice a5 (n + 1) c5)
    simpa using this
  · rw [← hlen, hfl]
    exact owns_kept HO5.out hfs (fun k hk => by simpa using (hk5 k hk).1)
  · refine (((HF13.out.trans HF4.out (n := [bN]) (fun _ hk _ => hk) (by simp)).trans HF45.out (n := bN :: (Value.slice a0 n cap).ownBlock.toList) (by simp) (fun k hk _ => by simp [Option.mem_toList.1 hk])).trans hfs (fun k hk _ => ?_) (by simp))
    rcases List.mem_cons.1 hk with rfl | hk
    · simp
    · simp [Option.mem_toList.1 hk]
  · intro k hk
    simp only [List.mem_cons, Option.mem_toList] at hk
    rcases hk with rfl | rfl | rfl | hk
    · left; simp
    · left; simp
    · left; simp
    · rcases (hk5 k hk).2 with h | h
      · left; exact hrk k h
      · exact .inr h
end Go.Proofs.YtmchnaojlnjmjaaGreat
