/- What the statements of layer 8 call beside inode: do, the acts that append. -/
import Derived.Test.YtgdpecpbcoohkaaInoJ
namespace Go.Proofs.Ytgdpecpbcoohkaa
open Go.RowKit

theorem owns_apart {w : World} {base p g g' : Nat} {v : Value} {bs : List UInt8} (h : w.ownsRow base 5 1 v bs.length (cellsB bs)) (hp : p < base) (hg : g < base) (hg' : g' = g ∨ w.heap.size ≤ g') : apartV p g' v bs := by
  intro _ k hk
  have := h.lt k hk
  rcases hg' with rfl | hg' <;> omega
set_option maxRecDepth 100000 in
theorem do_append (p g s : Nat) (now : List UInt8) (nv sv : Value) (a : ADat) (w : World) (hF : isF w p g now s) (hD : isDA w p g nv sv now s) (ha : a.ok w) (hap : apartV p g a.bv a.b) (hk : a.kind = 0) (hl : now.length + a.b.length ≤ 1000000) :
    Calls Try.prog 9 #[.pointer (some ⟨p, 0, none⟩), .agg #[nv, sv], a.val] w (Did w p g (now ++ a.b) s) := by
  obtain ⟨i, hi, hz0, hz1, hz2⟩ := info_parts infoB
  obtain ⟨⟨h1, h2, h3⟩, hap1, hap2⟩ := hD
  obtain ⟨ha1, ha2, ha3⟩ := ha
  obtain ⟨a0, c0, rfl, -, -⟩ := h1.form
  obtain ⟨a1, c1, rfl, -, -⟩ := h2.form
  unfold ADat.val
  obtain ⟨kind, bv, b, n, cv, cuts⟩ := a
  simp only at ha1 ha2 hk hl hap ⊢
  subst hk
  obtain ⟨a2, c2, rfl, -, -⟩ := ha1.form
  obtain ⟨a3, c3, rfl, -, -⟩ := ha2.form
  rw [List.length_map] at ha2 ⊢
  have hplt := hF.lt
  rw [List.length_take, Nat.min_eq_left h3]
  obtain ⟨hf3, hB1, hB2, hB3, hs3⟩ := do_boxes w #[.slice a0 now.length c0, .slice a1 s c1] #[.int .i64 0, .slice a2 b.length c2, .int .i64 n, .slice a3 cuts.length c3] #[.slice none 0 0, .slice none 0 0] 29 34
  obtain ⟨w3, hw3⟩ : ∃ w3, w3 = ((w.alloc (.cells #[.slice a0 now.length c0, .slice a1 s c1] 29)).alloc (.cells #[.int .i64 0, .slice a2 b.length c2, .int .i64 n, .slice a3 cuts.length c3] 34)).alloc (.cells #[.slice none 0 0, .slice none 0 0] 29) := ⟨_, rfl⟩
  rw [← hw3] at hf3 hB1 hB2 hB3 hs3
  have HW := Lib.hid hw3
  have HB1 := Lib.hid hB1
  have HB2 := Lib.hid hB2
  have HB3 := Lib.hid hB3
  have HS3 := Lib.hid hs3
  have HF3 := Lib.hid hf3
  have H1 := Lib.hid h1
  have H2 := Lib.hid (show bytesAt w (.slice a1 s c1) (now.take s) by simpa [Nat.min_eq_left h3] using h2)
  have H3 := Lib.hid h3
  have HA1 := Lib.hid ha1
  have HAP := Lib.hid hap
  have HAP1 := Lib.hid hap1
  have HAP2 := Lib.hid (show apartV p g (.slice a1 s c1) (now.take s) by simpa [Nat.min_eq_left h3] using hap2)
  have HF := Lib.hid hF
  clear h1 h2 h3 hap hap1 hap2 ha1 ha2 hw3 hf3 hB1 hB2 hB3 hs3 hF
  go_enter Try.func9, Try.ntmps9
  go_wp2_with fail
  rw [← HW.out]
  refine wp_region_W [p, g, w.heap.size + 1 + 1, w3.heap.size, w3.heap.size + 1] [(1, false), (2, false), (4, false), (5, false), (7, false), (8, false), (10, false), (11, false), (12, false), (0, true), (3, true), (6, true), (9, false), (13, true), (14, true), (15, false)] 90 rfl (by kernel_rfl) (by kernel_rfl) (by kernel_rfl) (fun c a d v w h => by cases d <;> exact h) ?_
  simp only [List.map_cons, List.map_nil, List.getElem?_toArray, List.getElem?_cons_succ, List.getElem?_cons_zero, Option.getD_some]
  have hfd : Fr [] w3 w3.drew := Fr.drew w3
  have hsd : w3.drew.heap.size = w3.heap.size := rfl
  have HFD := Lib.hid hfd
  have HSD := Lib.hid hsd
  obtain ⟨wd, hwd⟩ : ∃ wd, wd = w3.drew := ⟨_, rfl⟩
  rw [← hwd] at HFD HSD ⊢
  clear hfd hsd hwd
  have LB1 : Hid (Later [p, g, w.heap.size + 1 + 1, w3.heap.size, w3.heap.size + 1] wd (fun w' => w'.heap[w.heap.size]? = some (.cells #[.slice a0 now.length c0, .slice a1 s c1] 29 (0, 0)))) := Lib.hid (fun w' hf' => hf'.heap (HFD.out.heap HB1.out (by simp)) (by have := HS3.out; simp; omega))
  have LB2 : Hid (Later [p, g, w.heap.size + 1 + 1, w3.heap.size, w3.heap.size + 1] wd (fun w' => w'.heap[w.heap.size + 1]? = some (.cells #[.int .i64 0, .slice a2 b.length c2, .int .i64 n, .slice a3 cuts.length c3] 34 (0, 0)))) := Lib.hid (fun w' hf' => hf'.heap (HFD.out.heap HB2.out (by simp)) (by have := HS3.out; simp; omega))
  repeat (apply wpG_t; · (intro w' hf'; have c1 : w'.cell? ⟨w.heap.size, 0, none⟩ = _ := cell_of_heap (LB1.out w' hf') 0; have c2 : w'.cell? ⟨w.heap.size, 1, none⟩ = _ := cell_of_heap (LB1.out w' hf') 1; have c3 : w'.cell? ⟨w.heap.size + 1, 1, none⟩ = _ := cell_of_heap (LB2.out w' hf') 1; go_wp2_with fail; exact ⟨rfl, rfl⟩))
  refine wpG_x ?_
  go_wp2_with fail
  refine ⟨(Fr.alloc wd _).mono (by simp), rfl, ?_⟩
  have hfa := Fr.alloc wd (.cells (#[] : Array Value) 5)
  have hn0 := owns_base (hnil_new wd) (base' := w3.heap.size) (fun k hk => by have hk' : wd.heap.size = k := Option.some.inj hk; rw [← hk', HSD.out]; exact Nat.le_refl _)
  have hba := (((H1.out.below HF3.out).below HFD.out).below hfa)
  have hsa : (wd.alloc (.cells (#[] : Array Value) 5)).heap.size = w3.heap.size + 1 := by rw [World.size_alloc, HSD.out]
  have HSA := Lib.hid hsa
  have HFA := Lib.hid hfa
  obtain ⟨wa, hwa⟩ : ∃ wa, wa = wd.alloc (.cells (#[] : Array Value) 5) := ⟨_, rfl⟩
  rw [← hwa] at HSA HFA hn0 hba ⊢
  rw [show wd.heap.size = w3.heap.size from HSD.out] at hn0 ⊢
  clear hwa hsa hfa
  have hbl0 : now.length ≤ 1000000 := by omega
  have hbs0 : w3.heap.size ≤ wa.heap.size := by have := HSA.out; omega
  refine wpG_x ?_
  go_wp2_with (at_builtin; refine wpL_append rfl (.tmp 14) (.tmp 16) 22 rfl w3.heap.size 5 i (.int .u8 0) Try.underlying22 hi hz0 hz1 hz2 rfl _ [] rfl hn0 _ now rfl hba (by simp; omega) hbs0 ?_; intro v1 w1 hown1 hf1 hb1; clear hn0 hba)
  have hf1' : Fr [w3.heap.size] wa w1 := hf1
  have hown1' : w1.ownsRow w3.heap.size 5 1 v1 now.length (cellsB now) := hown1
  have hv1 : ∀ k, v1.ownBlock = some k → k = w3.heap.size ∨ k = w3.heap.size + 1 := by
    intro k hk
    rcases hb1 with hb1 | hb1
    · rw [hb1] at hk; exact .inl (Option.some.inj hk).symm
    · rw [hb1, HSA.out] at hk; exact .inr (Option.some.inj hk).symm
  refine ⟨hf1'.mono (by simp), rfl, ?_⟩
  clear hf1 hown1 hb1
  have hbb := ((((HA1.out.below HF3.out).below HFD.out).below HFA.out).kept hf1' (fun k hk hne hlt => by
    have := HA1.out.lt hne k hk
    have := HF3.out.size
    simp; omega))
  have hbs1 : w3.heap.size ≤ w1.heap.size := by have := hf1'.size; omega
  refine wpG_x ?_
  go_wp2_with (at_builtin; refine wpL_append rfl (.tmp 17) (.tmp 19) 22 rfl w3.heap.size 5 i (.int .u8 0) Try.underlying22 hi hz0 hz1 hz2 rfl v1 now rfl hown1' _ b rfl hbb (by omega) hbs1 ?_; intro v2 w2 hown2 hf2 hb2; clear hown1' hbb hb2)
  obtain ⟨x2, n2, y2, rfl⟩ := (bytesAt_of_owns hown2).slice
  have hf2' : Fr [w3.heap.size, w3.heap.size + 1] w1 w2 := hf2.mono (fun k hk _ => by
    have := hv1 k (by simpa [Option.mem_toList] using hk)
    simp; omega)
  refine ⟨hf2'.mono (by simp), rfl, ?_⟩
  clear hf2 hv1
  apply wpG_t
  · intro w' hf'
    go_wp2_with fail
    exact ⟨rfl, rfl⟩
  have hfa2 : Fr [w3.heap.size, w3.heap.size + 1] wa w2 := hf1'.trans hf2' (by simp) (fun _ hk _ => hk)
  have hf02 : Fr [] w w2 := ((HF3.out.trans HFD.out (by simp) (n := []) (by simp)).trans HFA.out (by simp) (n := []) (by simp)).trans hfa2 (by simp) (fun k hk hlt => by have := HF3.out.size; simp at hk; omega)
  have hF2 := HF.out.below hf02
  have hap2 := iappend_yes p g s now b (.slice a2 b.length c2) w2 hF2 (HA1.out.below hf02) (by omega) (fun hne k hk => (HAP.out hne k hk).1)
  have HA2 := Lib.hid hap2
  have HOWN2 := Lib.hid hown2
  have HF02 := Lib.hid hf02
  have HFA2 := Lib.hid hfa2
  clear hap2 hown2 hf02 hf1' hf2' hF2 hfa2
  have hg2 : w.heap.size + 3 ≤ w2.heap.size := by have := HS3.out; have := hbs1; have := HFA2.out.size; have := HSA.out; omega
  refine wpG_x ?_
  go_wp2_with (go_at_call 15; refine HA2.out.mono ?_; rintro e w4 ⟨g4, rfl, hF4, hf4, hg4⟩)
  refine ⟨hf4.mono (by simp), rfl, ?_⟩
  have hh4 : w4.heap[w.heap.size + 1 + 1]? = _ := hf4.heap (HFA2.out.heap (HFA.out.heap (HFD.out.heap HB3.out (by simp)) (by simp)) (by have := HS3.out; simp; omega)) (by simp; omega)
  obtain ⟨hr0, hr1, hz0', hz1'⟩ := two_of_heap hh4
  refine wpG_x ?_
  go_wp2_with fail
  have hfs := Fr.set2 w4 (w.heap.size + 1 + 1) (.slice x2 n2 y2) (.slice a1 s c1)
  refine ⟨hfs.mono (by simp), rfl, ?_⟩
  clear hr0 hr1 hz0' hz1'
  apply wpG_t
  · intro w' hf'
    go_wp2_with fail
    exact ⟨rfl, rfl⟩
  refine wpG_end ?_
  go_wp2_with fail
  refine bodyPost_ret (results_cell2 rfl _ _ (w.heap.size + 1 + 1) 29 #[.slice x2 n2 y2, .slice a1 s c1] _ rfl (heap_set2 hh4) Try.underlying29 rfl sizeFile _ rfl) rfl ?_
  have hf04 : Fr [p, g] w w4 := HF02.out.trans hf4 (by simp) (fun _ hk _ => hk)
  have hfz := hf04.trans hfs (n := [p, g]) (fun _ hk _ => hk) (by simp; omega)
  have hown4 := owns_kept (owns_kept HOWN2.out hf4 (fun k hk => by have := (HOWN2.out.lt k hk).1; have := HS3.out; simp; omega)) hfs (fun k hk => by have := (HOWN2.out.lt k hk).1; have := HS3.out; simp; omega)
  have hb4 := bytesAt_of_owns hown4
  have hbs := H2.out.keptV hfz HAP2.out
  have htk : (now ++ b).take s = now.take s := by rw [List.take_append_of_le_length H3.out]
  have hg4n : g4 ≠ w.heap.size + 1 + 1 := by rcases hg4 with h | h <;> omega
  refine ⟨g4, _, _, rfl, hF4.kept hfs (by simp; omega) (by simpa using hg4n), ⟨⟨hb4, by rw [htk]; exact hbs, by have := H3.out; simp; omega⟩, owns_apart HOWN2.out (by have := HS3.out; omega) (by have := HS3.out; omega) hg4, ?_⟩, hfz, by rcases hg4 with h | h <;> omega⟩
  rw [htk]
  intro hne k hk
  obtain ⟨hk1, hk2⟩ := HAP2.out hne k hk
  have hlt := H2.out.lt hne k hk
  refine ⟨hk1, ?_⟩
  rcases hg4 with h | h <;> omega
end Go.Proofs.Ytgdpecpbcoohkaa
