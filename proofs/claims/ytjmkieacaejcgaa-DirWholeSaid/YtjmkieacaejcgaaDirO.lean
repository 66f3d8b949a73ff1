/- What the statements of layer 9 do with an act: Sync, Crash; an act as one. -/
import Derived.Test.YtjmkieacaejcgaaDirN
namespace Go.Proofs.Ytjmkieacaejcgaa
open Go.RowKit Go.Maps

set_option maxRecDepth 100000 in
theorem do_sync (p m : Nat) (B : List Nat) (s : StD) (nv sv ov : Value) (A : ADat) (w : World) (hD : isD w p B s.now s.safe (s.ops.map normO) m) (hR : RD w nv sv ov s.now s.safe s.ops) (hm : m ≤ 500) (hA : A.ok w) (hk : A.kind = 3) :
    Calls Try.prog 8 #[.pointer (some ⟨p, 0, none⟩), .agg #[nv, sv, ov], A.val] w (ActD p B (stepD s A) (m + 1) w) := by
  rw [show stepD s A = ⟨s.now, s.now, []⟩ from by unfold stepD; rw [if_pos hk]]
  obtain ⟨now, safe, ops⟩ := s
  obtain ⟨kind, a, b, n, kv, keep⟩ := A
  simp only at *
  have hBl := hD.lt
  obtain ⟨hkv, hnw⟩ := hA
  simp only at hkv
  obtain ⟨x3, c3, rfl, -, -⟩ := hkv.form
  rw [List.length_map] at hkv ⊢
  unfold ADat.val
  simp only
  obtain ⟨a0, c0, a1, c1, a2, c2, rfl, rfl, rfl⟩ := hR.slices
  subst hk
  obtain ⟨hfw, hB1, hB2, hB3, -⟩ := dirs_boxes w #[.slice a0 now.length c0, .slice a1 safe.length c1, .slice a2 ops.length c2] #[.int .i64 3, encStr a, encStr b, .int .i64 n, .slice x3 keep.length c3] #[.slice none 0 0, .slice none 0 0, .slice none 0 0] 30 35
  obtain ⟨w4, hw4⟩ : ∃ w4, w4 = ((w.alloc (.cells #[.slice a0 now.length c0, .slice a1 safe.length c1, .slice a2 ops.length c2] 30)).alloc (.cells #[.int .i64 3, encStr a, encStr b, .int .i64 n, .slice x3 keep.length c3] 35)).alloc (.cells #[.slice none 0 0, .slice none 0 0, .slice none 0 0] 30) := ⟨_, rfl⟩
  rw [← hw4] at hfw hB1 hB2 hB3
  have HC := Lib.hid (dsync_any p m B now safe _ w4 (hD.below hfw) (by omega))
  have HB1 := Lib.hid hB1
  have HB2 := Lib.hid hB2
  have HB3 := Lib.hid hB3
  have HFW := Lib.hid hfw
  have HW := Lib.hid hw4
  have HD4 := Lib.hid (hD.below hfw)
  have HR4 := Lib.hid (hR.below hfw)
  have hn0 : ∀ j, w.heap.size ≤ j → j ∉ B := fun j hj hm => by have := hBl j hm; omega
  have HN0 := Lib.hid hn0
  clear hD hR hkv hB1 hB2 hB3 hfw hw4 hBl hn0 hnw
  go_enter Try.func8, Try.ntmps8
  go_upto_region 1 with fail
  rw [← HW.out]
  obtain ⟨e0, e1, e2, e3, e4⟩ := five_of_heap HB2.out
  go_wp2_with (go_at_call 15; refine HC.out.mono ?_; rintro e w5 ⟨rfl, B5, hD5, hf5, hB5⟩; have HD5 := Lib.hid hD5; have HF5 := Lib.hid hf5; have HBB := Lib.hid hB5; have j1 := hf5.heap HB1.out (HN0.out _ (by omega)); have j3 := hf5.heap HB3.out (HN0.out _ (by omega)); have J3 := Lib.hid j3; obtain ⟨g0, g1, g2, -, -, -⟩ := three_of_heap j1; obtain ⟨r0, r1, r2, s0, s1, s2⟩ := three_of_heap j3; clear hD5 hf5 hB5 j1 j3)
  have hRR : RD w5 (.slice a0 now.length c0) (.slice a0 now.length c0) (.slice none 0 0) now now [] := ⟨(HR4.out.keptD HD4.out HF5.out).1, (HR4.out.keptD HD4.out HF5.out).1, World.ownsRow_nil _ _ _ _⟩
  have key := fun tm h1 h2 => act_end (s := ⟨now, now, []⟩) (m2 := m) (m := m + 1) (B' := B5) HFW.out HF5.out HD5.out (by omega) hRR (fun k hk => (HBB.out k hk).imp id (fun h => by have := HFW.out.size; omega)) (by omega) J3.out tm h1 h2
  exact key _ rfl rfl
set_option maxRecDepth 100000 in
theorem do_crash (p m : Nat) (B : List Nat) (s : StD) (nv sv ov : Value) (A : ADat) (w : World) (hD : isD w p B s.now s.safe (s.ops.map normO) m) (hR : RD w nv sv ov s.now s.safe s.ops) (hok : okS s m) (hm : m ≤ 500) (hA : A.ok w) (hfe : fewA A) (hap : ∀ k, A.kv.ownBlock = some k → A.keep ≠ [] → k ∉ B) (hk : A.kind = 4) :
    Calls Try.prog 8 #[.pointer (some ⟨p, 0, none⟩), .agg #[nv, sv, ov], A.val] w (ActD p B (stepD s A) (m + 1) w) := by
  rw [show stepD s A = ⟨crashL s.safe s.ops A.keep, crashL s.safe s.ops A.keep, []⟩ from by unfold stepD; rw [if_neg (by omega), if_pos hk]]
  obtain ⟨now, safe, ops⟩ := s
  obtain ⟨kind, a, b, n, kv, keep⟩ := A
  simp only at *
  have hBl := hD.lt
  obtain ⟨hkv, hnw⟩ := hA
  simp only at hkv
  obtain ⟨x3, c3, rfl, -, -⟩ := hkv.form
  rw [List.length_map] at *
  unfold ADat.val
  simp only
  obtain ⟨a0, c0, a1, c1, a2, c2, rfl, rfl, rfl⟩ := hR.slices
  subst hk
  obtain ⟨hfw, hB1, hB2, hB3, -⟩ := dirs_boxes w #[.slice a0 now.length c0, .slice a1 safe.length c1, .slice a2 ops.length c2] #[.int .i64 4, encStr a, encStr b, .int .i64 n, .slice x3 keep.length c3] #[.slice none 0 0, .slice none 0 0, .slice none 0 0] 30 35
  obtain ⟨w4, hw4⟩ : ∃ w4, w4 = ((w.alloc (.cells #[.slice a0 now.length c0, .slice a1 safe.length c1, .slice a2 ops.length c2] 30)).alloc (.cells #[.int .i64 4, encStr a, encStr b, .int .i64 n, .slice x3 keep.length c3] 35)).alloc (.cells #[.slice none 0 0, .slice none 0 0, .slice none 0 0] 30) := ⟨_, rfl⟩
  rw [← hw4] at hfw hB1 hB2 hB3
  have hcr := dcrash_any p m B now safe _ keep _ w4 (hD.below hfw) (hkv.below hfw) (by have := hfe.2.2; simp only at this; omega) (by omega)
  rw [crash_norm] at hcr
  have HRC := Lib.hid (fun wx (hx : RD wx (.slice a0 now.length c0) (.slice a1 safe.length c1) (.slice a2 ops.length c2) now safe ops) (hkx : cellsAt wx (.slice x3 keep.length c3) (keep.map Value.bool)) => rcrash_any now safe ops keep _ _ _ _ wx hx.1 hx.2.1 hx.2.2 hkx (by have := hok.ls; simp only at this; omega) (by have := hok.ls; simp only at this; omega) (by have := hfe.2.2; simp only at this; omega) hok.ks hok.ko)
  obtain ⟨C, hC⟩ : ∃ C, C = crashL safe ops keep := ⟨_, rfl⟩
  rw [← hC] at hcr HRC ⊢
  have HC := Lib.hid hcr
  have HB1 := Lib.hid hB1
  have HB2 := Lib.hid hB2
  have HB3 := Lib.hid hB3
  have HFW := Lib.hid hfw
  have HW := Lib.hid hw4
  have HD4 := Lib.hid (hD.below hfw)
  have HR4 := Lib.hid (hR.below hfw)
  have HKV := Lib.hid (hkv.below hfw)
  have HAP := Lib.hid hap
  have hn0 : ∀ j, w.heap.size ≤ j → j ∉ B := fun j hj hm => by have := hBl j hm; omega
  have HN0 := Lib.hid hn0
  clear hD hR hok hfe hkv hB1 hB2 hB3 hfw hw4 hBl hn0 hnw hcr hC hap
  go_enter Try.func8, Try.ntmps8
  go_upto_region 1 with fail
  rw [← HW.out]
  obtain ⟨e0, e1, e2, e3, e4⟩ := five_of_heap HB2.out
  go_wp2_with (first
    | (go_at_call 13; refine HC.out.mono ?_; rintro e w5 ⟨rfl, B5, hD5, hf5, hB5⟩; have HR5 := Lib.hid (HR4.out.keptD HD4.out hf5); have HKV5 := Lib.hid (HKV.out.kept hf5 (fun k hk hne _ => HAP.out k hk (by simpa using hne))); have HD5 := Lib.hid hD5; have HF5 := Lib.hid hf5; have HBB := Lib.hid hB5; have j1 := hf5.heap HB1.out (HN0.out _ (by omega)); have j2 := hf5.heap HB2.out (HN0.out _ (by omega)); have j3 := hf5.heap HB3.out (HN0.out _ (by omega)); have J3 := Lib.hid j3; obtain ⟨g0, g1, g2, -, -, -⟩ := three_of_heap j1; obtain ⟨e0, e1, e2, e3, e4⟩ := five_of_heap j2; clear hD5 hf5 hB5 j1 j2 j3)
    | (go_at_call 17; refine (HRC.out _ HR5.out HKV5.out).mono ?_; rintro e w6 ⟨v6, rfl, hn6, hf6⟩; have hk6 := hf6.heap J3.out (by simp); have K6 := Lib.hid hk6; obtain ⟨r0, r1, r2, s0, s1, s2⟩ := three_of_heap hk6; obtain ⟨x6, y6, rfl, -, -⟩ := owns_slice' hn6; have HN6 := Lib.hid hn6; have HF6 := Lib.hid hf6; clear hk6 hn6 hf6))
  have hRR : RD w6 (.slice x6 C.length y6) (.slice x6 C.length y6) (.slice none 0 0) C C [] := ⟨HN6.out, HN6.out, World.ownsRow_nil _ _ _ _⟩
  have key := fun tm h1 h2 => act_end (s := ⟨C, C, []⟩) (m2 := m) (m := m + 1) (B' := B5) HFW.out (HF5.out.trans HF6.out (n := B) (fun _ hk _ => hk) (by simp)) (HD5.out.below HF6.out) (by omega) hRR (fun k hk => (HBB.out k hk).imp id (fun h => by have := HFW.out.size; omega)) (by omega) K6.out tm h1 h2
  exact key _ rfl rfl

theorem do_any (p m : Nat) (B : List Nat) (s : StD) (nv sv ov : Value) (A : ADat) (w : World) (hD : isD w p B s.now s.safe (s.ops.map normO) m) (hR : RD w nv sv ov s.now s.safe s.ops) (hok : okS s m) (hm : m ≤ 500) (hA : A.ok w) (hfe : fewA A) (hap : ∀ k, A.kv.ownBlock = some k → A.keep ≠ [] → k ∉ B) :
    Calls Try.prog 8 #[.pointer (some ⟨p, 0, none⟩), .agg #[nv, sv, ov], A.val] w (ActD p B (stepD s A) (m + 1) w) := by
  by_cases k3 : A.kind = 3
  · exact do_sync p m B s nv sv ov A w hD hR hm hA k3
  · by_cases k4 : A.kind = 4
    · exact do_crash p m B s nv sv ov A w hD hR hok hm hA hfe hap k4
    · cases hl : (lookL s.now A.a).isSome with
      | true =>
        by_cases k0 : A.kind = 0
        · exact do_put_no p m B s nv sv ov A w hD hR hok hm hA hfe k0 hl
        · by_cases k1 : A.kind = 1
          · exact do_drop_yes p m B s nv sv ov A w hD hR hok hm hA hfe k1 hl
          · by_cases hab : A.a = A.b
            · exact do_move_same p m B s nv sv ov A w hD hR hok hm hA hfe k0 k1 k3 k4 hl hab
            · exact do_move_yes p m B s nv sv ov A w hD hR hok hm hA hfe k0 k1 k3 k4 hl hab
      | false =>
        by_cases k0 : A.kind = 0
        · exact do_put_yes p m B s nv sv ov A w hD hR hok hm hA hfe k0 hl
        · by_cases k1 : A.kind = 1
          · exact do_drop_no p m B s nv sv ov A w hD hR hok hm hA hfe k1 hl
          · exact do_move_no p m B s nv sv ov A w hD hR hok hm hA hfe k0 k1 k3 k4 hl
end Go.Proofs.Ytjmkieacaejcgaa
