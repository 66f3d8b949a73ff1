/- What the statements of layer 8 call beside inode: do, the acts that crash. -/
import Derived.Test.YtgdpecpbcoohkaaInoJ
namespace Go.Proofs.Ytgdpecpbcoohkaa
open Go.RowKit

/-- The cuts lie in no block of a file's. -/
def apartC (p g : Nat) (a : ADat) : Prop := a.cuts ≠ [] → ∀ k, a.cv.ownBlock = some k → k ≠ p ∧ k ≠ g
theorem ADat.ok.keptV {w w' : World} {p g : Nat} {a : ADat} (h : a.ok w) (hf : Fr [p, g] w w') (h1 : apartV p g a.bv a.b) (h2 : apartC p g a) : a.ok w' :=
  ⟨h.1.keptV hf h1, h.2.1.kept hf (fun k hk hne _ => by have := h2 (by intro e; rw [e] at hne; exact hne rfl) k hk; simp; omega), h.2.2⟩
theorem isDA.keptV {w w' : World} {p g : Nat} {nv sv : Value} {now : List UInt8} {s : Nat} (h : isDA w p g nv sv now s) (hf : Fr [p, g] w w') : isDA w' p g nv sv now s :=
  ⟨⟨h.1.1.keptV hf h.2.1, h.1.2.1.keptV hf h.2.2, h.1.2.2⟩, h.2.1, h.2.2⟩
set_option maxHeartbeats 1000000 in
set_option maxRecDepth 100000 in
theorem do_crash (p g s : Nat) (now : List UInt8) (nv sv : Value) (a : ADat) (w : World) (hF : isF w p g now s) (hD : isDA w p g nv sv now s) (ha : a.ok w) (hap : apartV p g a.bv a.b) (hapc : apartC p g a) (hk : a.kind = 2) (hl : now.length ≤ 1000000) (hcl : a.cuts.length ≤ 1000) :
    Calls Try.prog 9 #[.pointer (some ⟨p, 0, none⟩), .agg #[nv, sv], a.val] w (Did w p g (crashC now s a.n a.cuts) (s + sizeC now.length s a.n)) := by
  have hs := hD.1.2.2
  have hplt := hF.lt
  have hsl : (now.take s).length = s := by simp; omega
  have HTA := Lib.hid (fun wx (hx : isD wx nv sv now s) (ho : a.ok wx) => taken_any now s nv sv a wx hx ho hl (by omega))
  have hcr := fun wx (hx : isD wx nv sv now s) (ho : a.ok wx) => ref_crash_any now (now.take s) nv sv a.n a.cuts a.cv wx hx.1 hx.2.1 (by rw [hsl]) hl ho.2.1 (by omega)
  rw [hsl] at hcr
  have HCR := Lib.hid hcr
  have HIC := Lib.hid (fun wx (hx : isF wx p g now s) (ho : a.ok wx) => icrash_any p g s now a.n a.cuts a.cv wx hx ho.2.1 (by omega) (by omega) hapc)
  have hlen := crashC_length now s a.n a.cuts hs
  obtain ⟨C, hC⟩ : ∃ C, C = crashC now s a.n a.cuts := ⟨_, rfl⟩
  obtain ⟨T, hT⟩ : ∃ T, T = takenN now s a := ⟨_, rfl⟩
  rw [show min (secsC (s + sizeC now.length s a.n) s) a.cuts.length = takenN now s a from rfl] at HIC
  obtain ⟨s2, hs2⟩ : ∃ s2, s2 = s + sizeC now.length s a.n := ⟨_, rfl⟩
  rw [← hC, ← hs2] at hlen HIC ⊢
  rw [← hC] at HCR
  rw [← hT] at HIC HTA
  have HAK := Lib.hid ha
  have HAL := Lib.hid (fun wx wy (ho : a.ok wx) (hf : Fr [p, g] wx wy) => ho.keptV hf hap hapc)
  have HDA := Lib.hid hD
  have HF := Lib.hid hF
  have HLEN := Lib.hid hlen
  have hTn : T ≤ 1000 := by rw [hT]; unfold takenN; omega
  obtain ⟨⟨h1, h2, h3⟩, hap1, hap2⟩ := hD
  obtain ⟨ha1, ha2, ha3⟩ := ha
  obtain ⟨a0, c0, rfl, -, -⟩ := h1.form
  obtain ⟨a1, c1, rfl, -, -⟩ := h2.form
  unfold ADat.val at HTA ⊢
  obtain ⟨kind, bv, b, n, cv, cuts⟩ := a
  simp only at ha1 ha2 hk HTA HCR HIC ⊢
  subst hk
  obtain ⟨a2, c2, rfl, -, -⟩ := ha1.form
  obtain ⟨a3, c3, rfl, -, -⟩ := ha2.form
  rw [List.length_map] at *
  rw [List.length_take, Nat.min_eq_left h3] at *
  obtain ⟨hf3, hB1, hB2, hB3, hs3⟩ := do_boxes w #[.slice a0 now.length c0, .slice a1 s c1] #[.int .i64 2, .slice a2 b.length c2, .int .i64 n, .slice a3 cuts.length c3] #[.slice none 0 0, .slice none 0 0] 29 34
  obtain ⟨w3, hw3⟩ : ∃ w3, w3 = ((w.alloc (.cells #[.slice a0 now.length c0, .slice a1 s c1] 29)).alloc (.cells #[.int .i64 2, .slice a2 b.length c2, .int .i64 n, .slice a3 cuts.length c3] 34)).alloc (.cells #[.slice none 0 0, .slice none 0 0] 29) := ⟨_, rfl⟩
  rw [← hw3] at hf3 hB1 hB2 hB3 hs3
  have hcr3 := HCR.out w3 (HDA.out.1.below hf3) (HAK.out.below hf3)
  rw [hw3] at hcr3
  have HCR3 := Lib.hid hcr3
  have HW := Lib.hid hw3
  have HB1 := Lib.hid hB1
  have HB2 := Lib.hid hB2
  have HB3 := Lib.hid hB3
  have HS3 := Lib.hid hs3
  have HF3 := Lib.hid hf3
  clear h1 h2 h3 hap hap1 hap2 ha1 ha2 hw3 hf3 hB1 hB2 hB3 hs3 hcr hcr3 HCR hC hT hs2 hlen hapc hs hsl
  go_enter Try.func9, Try.ntmps9
  go_wp2_with (go_at_call 19; refine HCR3.out.mono ?_; rintro e w4 ⟨v4, rfl, hb4, hk4, hf4⟩; rw [← HW.out] at hk4 hf4; obtain ⟨x4, n4, y4, rfl⟩ := hb4.slice)
  refine wp_region_W [p, g, w.heap.size + 1 + 1] [(0, false), (1, false), (2, false), (3, false), (4, false), (5, false), (6, false), (7, false), (9, false), (10, false), (8, true), (11, true), (12, false), (13, true), (14, false)] 90 rfl (by kernel_rfl) (by kernel_rfl) (by kernel_rfl) (fun c a d v w h => by cases d <;> exact h) ?_
  simp only [List.map_cons, List.map_nil, List.getElem?_toArray, List.getElem?_cons_succ, List.getElem?_cons_zero, Option.getD_some]
  have hf34 : Fr [] w3 w4.drew := hf4.andDrew
  have hb4d := hb4.below (Fr.drew w4)
  obtain ⟨wd, hwd⟩ : ∃ wd, wd = w4.drew := ⟨_, rfl⟩
  rw [← hwd] at hf34 hb4d ⊢
  clear hb4 hf4 hwd
  have HF34 := Lib.hid hf34
  have LB1 : Hid (Later [p, g, w.heap.size + 1 + 1] wd (fun w' => w'.heap[w.heap.size]? = some (.cells #[.slice a0 now.length c0, .slice a1 s c1] 29 (0, 0)))) := Lib.hid (fun w' hf' => hf'.heap (HF34.out.heap HB1.out (by simp)) (by simp; omega))
  have LB2 : Hid (Later [p, g, w.heap.size + 1 + 1] wd (fun w' => w'.heap[w.heap.size + 1]? = some (.cells #[.int .i64 2, .slice a2 b.length c2, .int .i64 n, .slice a3 cuts.length c3] 34 (0, 0)))) := Lib.hid (fun w' hf' => hf'.heap (HF34.out.heap HB2.out (by simp)) (by simp; omega))
  have HK4 := Lib.hid hk4
  have HB4 := Lib.hid hb4d
  clear hf34 hk4 hb4d
  repeat (apply wpG_t; · (intro w' hf'; have c1 : w'.cell? ⟨w.heap.size, 0, none⟩ = _ := cell_of_heap (LB1.out w' hf') 0; have c2 : w'.cell? ⟨w.heap.size, 1, none⟩ = _ := cell_of_heap (LB1.out w' hf') 1; have c3 : w'.cell? ⟨w.heap.size + 1, 0, none⟩ = _ := cell_of_heap (LB2.out w' hf') 0; have c4 : w'.cell? ⟨w.heap.size + 1, 1, none⟩ = _ := cell_of_heap (LB2.out w' hf') 1; have c5 : w'.cell? ⟨w.heap.size + 1, 2, none⟩ = _ := cell_of_heap (LB2.out w' hf') 2; have c6 : w'.cell? ⟨w.heap.size + 1, 3, none⟩ = _ := cell_of_heap (LB2.out w' hf') 3; go_wp2_with fail; exact ⟨rfl, rfl⟩))
  have hf0d : Fr [] w wd := HF3.out.trans HF34.out (by simp) (by simp)
  have hic := HIC.out wd (HF.out.below hf0d) (HAK.out.below hf0d)
  have HIC2 := Lib.hid hic
  have HF0D := Lib.hid hf0d
  clear hic hf0d
  refine wpG_x ?_
  go_wp2_with (go_at_call 16; refine HIC2.out.mono ?_; rintro e w5 ⟨rfl, hF5, hf5⟩)
  refine ⟨hf5.mono (by simp), rfl, ?_⟩
  have hf05 : Fr [p, g] w w5 := HF0D.out.trans hf5 (by simp) (fun _ hk _ => hk)
  have hta := HTA.out w5 (HDA.out.keptV hf05).1 (HAL.out _ _ HAK.out hf05)
  have HTA2 := Lib.hid hta
  clear hta
  refine wpG_x ?_
  go_wp2_with (go_at_call 20; refine HTA2.out.mono ?_; rintro e w6 ⟨rfl, hf6⟩)
  refine ⟨hf6.mono (by simp), rfl, ?_⟩
  repeat (apply wpG_t; · (intro w' hf'; go_wp2_with fail; exact ⟨rfl, rfl⟩))
  have hh6 : w6.heap[w.heap.size + 1 + 1]? = _ := hf6.heap (hf5.heap (HF34.out.heap HB3.out (by simp)) (by simp; omega)) (by simp)
  obtain ⟨hr0, hr1, hz0', hz1'⟩ := two_of_heap hh6
  refine wpG_x ?_
  go_wp2_with fail
  have hfs := Fr.set2 w6 (w.heap.size + 1 + 1) (.slice x4 n4 y4) (.slice x4 n4 y4)
  refine ⟨hfs.mono (by simp), rfl, ?_⟩
  clear hr0 hr1 hz0' hz1'
  repeat (apply wpG_t; · (intro w' hf'; go_wp2_with fail; exact ⟨rfl, rfl⟩))
  refine wpG_end ?_
  go_wp2_with fail
  refine bodyPost_ret (results_cell2 rfl _ _ (w.heap.size + 1 + 1) 29 #[.slice x4 n4 y4, .slice x4 n4 y4] _ rfl (heap_set2 hh6) Try.underlying29 rfl sizeFile _ rfl) rfl ?_
  have hfz := (hf05.trans hf6 (fun _ hk _ => hk) (n := [p, g]) (by simp)).trans hfs (n := [p, g]) (fun _ hk _ => hk) (by simp; omega)
  have hav : apartV p g (.slice x4 n4 y4) C := fun _ k hk => by have := HK4.out k hk; have := HS3.out; omega
  have hb5 := ((HB4.out.keptV hf5 hav).below hf6).kept hfs (fun k hk _ _ => by have := HK4.out k hk; have := HS3.out; simp; omega)
  have htk : C.take s2 = C := by rw [← HLEN.out]; exact List.take_length
  exact ⟨g, _, _, rfl, (hF5.below hf6).kept hfs (by simp; omega) (by simp; omega), ⟨⟨hb5, by rw [htk]; exact hb5, by rw [HLEN.out]; exact Nat.le_refl _⟩, hav, by rw [htk]; exact hav⟩, hfz, .inl rfl⟩
end Go.Proofs.Ytgdpecpbcoohkaa
