/- The document's Apply and May (layer 9). -/
import Derived.Test.YtmchnaojlnjmjaaGreatDirI
namespace Go.Proofs.YtmchnaojlnjmjaaGreat
open Go.RowKit Go.Maps

theorem findI_of_look {l : List Ent} {m : List UInt8} {v : Int} (h : lookL l m = some v) : ∃ i : Nat, findI l m = (i : Int) ∧ ∃ hi : i < l.length, (l[i]'hi).2 = v := by
  cases hf : findL l m with
  | none => rw [(findL_none l m).1 hf] at h; cases h
  | some i =>
    obtain ⟨h1, _, h3⟩ := findL_some l m i hf
    rw [h] at h3
    exact ⟨i, by unfold findI; rw [hf], h1, (Option.some.inj h3).symm⟩
theorem findI_none {l : List Ent} {m : List UInt8} (h : lookL l m = none) : findI l m = -1 := by
  unfold findI
  rw [(findL_none l m).2 h]
theorem withL_ok {l : List Ent} {m : List UInt8} {n : Int} (hl : ∀ e ∈ l, e.1.length ≤ maxLen) (hm : m.length ≤ maxLen) : ∀ e ∈ withL l m n, e.1.length ≤ maxLen := by
  intro e he
  rcases mem_ins _ _ _ he with rfl | h
  · exact hm
  · exact hl e (List.mem_filter.1 h).1
theorem withoutL_ok {l : List Ent} {m : List UInt8} (hl : ∀ e ∈ l, e.1.length ≤ maxLen) : ∀ e ∈ withoutL l m, e.1.length ≤ maxLen := fun e he => hl e (List.mem_filter.1 he).1
theorem applyL_ok {l : List Ent} {o : OpD} (hl : ∀ e ∈ l, e.1.length ≤ maxLen) (ha : o.a.length ≤ maxLen) (hb : o.b.length ≤ maxLen) : ∀ e ∈ applyL l o, e.1.length ≤ maxLen := by
  unfold applyL
  split
  · exact withL_ok hl ha
  · split
    · exact withoutL_ok hl
    · split
      · exact hl
      · exact withL_ok (withoutL_ok hl) hb

/-- Names behind something that was done. -/
def Appl (l : List Ent) (w : World) (e : Ending) (w' : World) : Prop := ∃ v, e = .returned v ∧ namesR w' 0 v l ∧ Fr [] w w'
theorem owns_slice' {w : World} {v : Value} {l : List Ent} (h : namesR w 0 v l) : ∃ a cap, v = .slice a l.length cap ∧ l.length ≤ cap ∧ cap ≤ 9223372036854775807 := by
  obtain ⟨a, c, rfl, h1, h2⟩ := owns_slice h
  exact ⟨a, c, rfl, h1, by simpa [maxLen] using h2⟩
set_option maxRecDepth 100000 in
theorem rapply_any (l : List Ent) (o : OpD) (v : Value) (w : World) (h : namesR w 0 v l) (hl : l.length ≤ 10000) (hok : ∀ e ∈ l, e.1.length ≤ maxLen) (ha : o.a.length ≤ maxLen) (hb : o.b.length ≤ maxLen) :
    Calls Tryz.prog 85 #[v, o.pval] w (Appl (applyL l o) w) := by
  obtain ⟨kind, a, b, n⟩ := o
  simp only at ha hb
  unfold OpD.pval
  simp only
  have hel := h.elems
  have HWI := Lib.hid (fun wx (hx : Fr [] w wx) => rwith_any l a n v wx (hel.below hx) (by omega) ha hok)
  have HWO := Lib.hid (fun wx (hx : Fr [] w wx) => rwithout_any l a v wx (hel.below hx) (by omega))
  have HFI := Lib.hid (fun wx (hx : Fr [] w wx) => rfind_any l a v wx (hel.below hx))
  have HN := Lib.hid h
  have HE := Lib.hid hel
  obtain ⟨a0, c0, rfl, hle, hmx⟩ := owns_slice' h
  have hfa := Fr.alloc w (.cells #[.int .i64 kind, encStr a, encStr b, .int .i64 n] 105)
  have HFA := Lib.hid hfa
  by_cases k0 : kind = 0
  · subst k0
    rw [show applyL l ⟨0, a, b, n⟩ = withL l a n from rfl]
    clear h hel hfa
    go_enter Tryz.func85, Tryz.ntmps85
    go_wp2_with (go_at_call 95; refine (HWI.out _ HFA.out).mono ?_; rintro e w1 ⟨v1, rfl, hn1, hf1⟩)
    go_ret
    exact ⟨_, rfl, hn1.to0, HFA.out.trans hf1 (by simp) (by simp)⟩
  · by_cases k1 : kind = 1
    · subst k1
      rw [show applyL l ⟨1, a, b, n⟩ = withoutL l a from rfl]
      clear h hel hfa k0
      go_enter Tryz.func85, Tryz.ntmps85
      go_wp2_with (go_at_call 96; refine (HWO.out _ HFA.out).mono ?_; rintro e w1 ⟨v1, rfl, hn1, hf1⟩)
      go_ret
      exact ⟨_, rfl, hn1.to0, HFA.out.trans hf1 (by simp) (by simp)⟩
    · have e0 : (kind == 0) = false := by rw [beq_eq_false_iff_ne]; exact k0
      have e1 : (kind == 1) = false := by rw [beq_eq_false_iff_ne]; exact k1
      cases hv : lookL l a with
      | none =>
        have hA : applyL l ⟨kind, a, b, n⟩ = l := by unfold applyL; rw [if_neg k0, if_neg k1]; simp only [hv]
        rw [hA]
        rw [findI_none hv] at HFI
        clear h hel hfa k0 k1 hv hA
        go_enter Tryz.func85, Tryz.ntmps85
        go_wp2_with (go_at_call 12; refine (HFI.out _ HFA.out).mono ?_; rintro e w1 ⟨rfl, rfl⟩)
        go_ret
        exact ⟨_, rfl, HN.out.below HFA.out, HFA.out⟩
      | some x =>
        have hA : applyL l ⟨kind, a, b, n⟩ = withL (withoutL l a) b x := by unfold applyL; rw [if_neg k0, if_neg k1]; simp only [hv]
        rw [hA]
        obtain ⟨i, hi, hil, hix⟩ := findI_of_look hv
        rw [hi] at HFI
        have hneg : decide ((i : Int) < 0) = false := decide_eq_false (by omega)
        have hwl : (withoutL l a).length ≤ 100000 := by have := withoutL_le l a; omega
        have hwok : ∀ e ∈ withoutL l a, e.1.length ≤ maxLen := withoutL_ok hok
        obtain ⟨b1, off, rfl, -, -, hc0, hc1⟩ := duo_cells HE.out i hil
        have HC1 := Lib.hid hc1
        rw [hix] at HC1
        have HWI2 := Lib.hid (fun v2 wx (hx : namesR wx 0 v2 (withoutL l a)) => rwith_any (withoutL l a) b x v2 wx hx.elems hwl hb hwok)
        have hb1 := heap_alloc_new w (.cells #[.int .i64 kind, encStr a, encStr b, .int .i64 n] 105)
        have HB1 := Lib.hid hb1
        clear h hel k0 k1 hv hA hi hix hc0 hc1 hb1 hok hwok
        go_enter Tryz.func85, Tryz.ntmps85
        go_wp2_with (go_at_call 12; refine (HFI.out _ HFA.out).mono ?_; rintro e w1 ⟨rfl, rfl⟩)
        obtain ⟨w1, hw1⟩ : ∃ w1, w1 = w.alloc (.cells #[.int .i64 kind, encStr a, encStr b, .int .i64 n] 105) := ⟨_, rfl⟩
        obtain ⟨q, hq⟩ : ∃ q, q = w.heap.size := ⟨_, rfl⟩
        rw [← hw1] at HB1 HFA ⊢
        rw [← hq] at HB1 ⊢
        clear hw1 hfa hq
        refine wp_region_G [] [(0, false), (1, false), (2, false), (4, false), (5, false), (6, false), (7, false), (8, false), (9, false), (10, false), (3, true), (11, true), (12, false)] 41 rfl (by kernel_rfl) (by kernel_rfl) (by kernel_rfl) (fun c a d v w h => by cases d <;> exact h) (fun w2 hf2 => ?_)
        simp only [List.map_cons, List.map_nil, List.getElem?_toArray, List.getElem?_cons_succ, List.getElem?_cons_zero, Option.getD_some]
        have HF2 := Lib.hid (HFA.out.trans hf2 (by simp) (n := []) (by simp))
        have LB : Hid (Later [] w2 (fun w' => w'.heap[q]? = some (.cells #[.int .i64 kind, encStr a, encStr b, .int .i64 n] 105 (0, 0)))) := Lib.hid (fun w' hf' => hf'.heap (hf2.heap HB1.out (by simp)) (by simp))
        have LC : Hid (Later [] w2 (fun w' => w'.cell? ⟨b1, off + i * 2 + 1, none⟩ = some (.int .i64 x))) := Lib.hid (fun w' hf' => hf'.cell (HF2.out.cell HC1.out (by simp)) (by simp))
        clear hf2
        repeat (apply wpG_t; · (intro w' hf'; obtain ⟨d0, d1, d2, d3⟩ := four_of_heap (LB.out w' hf'); have e1 := LC.out w' hf'; go_wp2_with fail; exact ⟨rfl, rfl⟩))
        refine wpG_x ?_
        go_wp2_with (go_at_call 96; refine (HWO.out _ HF2.out).mono ?_; rintro e w3 ⟨v3, rfl, hn3, hf3⟩; obtain ⟨a3, c3, rfl, -, -⟩ := owns_slice' hn3.to0)
        refine ⟨hf3, rfl, ?_⟩
        refine wpG_x ?_
        go_wp2_with (go_at_call 95; refine (HWI2.out _ _ hn3.to0).mono ?_; rintro e w4 ⟨v4, rfl, hn4, hf4⟩; obtain ⟨a4, c4, rfl, -, -⟩ := owns_slice' hn4.to0)
        refine ⟨hf4, rfl, ?_⟩
        repeat (apply wpG_t; · (intro w' hf'; go_wp2_with fail; exact ⟨rfl, rfl⟩))
        refine wpG_end ?_
        go_wp2_with fail
        go_ret
        exact ⟨_, rfl, hn4.to0, (HF2.out.trans hf3 (by simp) (n := []) (by simp)).trans hf4 (by simp) (by simp)⟩
end Go.Proofs.YtmchnaojlnjmjaaGreat
