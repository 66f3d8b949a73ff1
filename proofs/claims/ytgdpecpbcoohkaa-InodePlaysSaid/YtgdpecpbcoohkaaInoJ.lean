/- What the statements of layer 8 call beside inode: do, the acts that sync. -/
import Derived.Test.YtgdpecpbcoohkaaInoI
import Derived.Laws.ResultCell
import Derived.Laws.Rows
namespace Go.Proofs.Ytgdpecpbcoohkaa
open Go.RowKit

theorem two_of_heap {w : World} {p : Nat} {a b : Value} {t : TypeId} (h : w.heap[p]? = some (.cells #[a, b] t (0, 0))) :
    w.cell? ⟨p, 0, none⟩ = some a ∧ w.cell? ⟨p, 1, none⟩ = some b ∧ w.frozen? ⟨p, 0, none⟩ = false ∧ w.frozen? ⟨p, 1, none⟩ = false :=
  ⟨cell_of_heap h 0, cell_of_heap h 1, free_of_heap h 0, free_of_heap h 1⟩
theorem heap_set2 {w : World} {p : Nat} {a b x y : Value} {t : TypeId} (h : w.heap[p]? = some (.cells #[a, b] t (0, 0))) :
    ((w.setCell ⟨p, 0, none⟩ x).setCell ⟨p, 1, none⟩ y).heap[p]? = some (.cells #[x, y] t (0, 0)) := by
  rw [heap_setCell_same (heap_setCell_same h _)]
  rfl
theorem Fr.set2 (w : World) (p : Nat) (x y : Value) : Fr [p] w ((w.setCell ⟨p, 0, none⟩ x).setCell ⟨p, 1, none⟩ y) :=
  (Fr.set0 w p 0 x).trans (Fr.set0 _ p 1 y) (by simp) (by simp)
theorem results_cell2 {P : Program} {fn : Func} {p u : Tmp} {ty : TypeId} (h : fn.results = #[.cell p ty, .tmp u]) (tmps : Array Value) (w : World) (g : Nat) (t : TypeId) (cs : Array Value) (d : TypeDesc)
    (hp : tmps.getD p undef = .pointer (some ⟨g, 0, none⟩)) (hg : w.heap[g]? = some (.cells cs t (0, 0)))
    (hu : P.underlying ty = some d) (hd : (match d with | .struct _ | .array _ _ => true | _ => false) = true) (hi : (P.info? ty).map (·.size) = some cs.size) (v : Value) (hv : tmps.getD u undef = v) :
    (results fn tmps).run P w = .ok (.tuple #[.agg cs, v]) w := by
  rw [results_cell_tmp h, hp]
  subst hv
  simp [asAddr, run_loadVar_row w g t ty cs (0, 0) d hg hu hd hi]
theorem do_boxes (w : World) (F A R : Array Value) (tF tA : TypeId) : Fr [] w (((w.alloc (.cells F tF)).alloc (.cells A tA)).alloc (.cells R tF)) ∧ (((w.alloc (.cells F tF)).alloc (.cells A tA)).alloc (.cells R tF)).heap[w.heap.size]? = some (.cells F tF (0, 0)) ∧
    (((w.alloc (.cells F tF)).alloc (.cells A tA)).alloc (.cells R tF)).heap[w.heap.size + 1]? = some (.cells A tA (0, 0)) ∧ (((w.alloc (.cells F tF)).alloc (.cells A tA)).alloc (.cells R tF)).heap[w.heap.size + 1 + 1]? = some (.cells R tF (0, 0)) ∧
    (((w.alloc (.cells F tF)).alloc (.cells A tA)).alloc (.cells R tF)).heap.size = w.heap.size + 3 := by
  have h1 := heap_alloc_new w (.cells F tF)
  have h2 := heap_alloc_new (w.alloc (.cells F tF)) (.cells A tA)
  have h3 := heap_alloc_new ((w.alloc (.cells F tF)).alloc (.cells A tA)) (.cells R tF)
  rw [World.size_alloc] at h2
  rw [World.size_alloc, World.size_alloc] at h3
  have f1 := Fr.alloc w (.cells F tF)
  have f2 := Fr.alloc (w.alloc (.cells F tF)) (.cells A tA)
  have f3 := Fr.alloc ((w.alloc (.cells F tF)).alloc (.cells A tA)) (.cells R tF)
  exact ⟨(f1.trans f2 (by simp) (n := []) (by simp)).trans f3 (by simp) (by simp), f3.heap (f2.heap h1 (by simp)) (by simp), f3.heap h2 (by simp), h3, by simp⟩
theorem sizeFile : (Try.prog.info? 29).map (·.size) = some 2 := by kernel_rfl
/-- The bytes of a slice lie in no block of a file's. -/
def apartV (p g : Nat) (v : Value) (bs : List UInt8) : Prop := bs ≠ [] → ∀ k, v.ownBlock = some k → k ≠ p ∧ k ≠ g
theorem bytesAt.keptV {w w' : World} {p g : Nat} {v : Value} {bs : List UInt8} (h : bytesAt w v bs) (hf : Fr [p, g] w w') (ha : apartV p g v bs) : bytesAt w' v bs :=
  h.kept hf (fun k hk hne _ => by have := ha hne k hk; simp; omega)
/-- The document's file beside a file of the program. -/
def isDA (w : World) (p g : Nat) (nv sv : Value) (now : List UInt8) (s : Nat) : Prop := isD w nv sv now s ∧ apartV p g nv now ∧ apartV p g sv (now.take s)
/-- What do leaves: both files have turned into the same. -/
def Did (w : World) (p g : Nat) (now' : List UInt8) (s' : Nat) (e : Ending) (w' : World) : Prop :=
  ∃ g' nv' sv', e = .returned (.tuple #[.agg #[nv', sv'], .bool true]) ∧ isF w' p g' now' s' ∧ isDA w' p g' nv' sv' now' s' ∧ Fr [p, g] w w' ∧ (g' = g ∨ w.heap.size ≤ g')

set_option maxRecDepth 100000 in
theorem do_sync (p g s : Nat) (now : List UInt8) (nv sv : Value) (a : ADat) (w : World) (hF : isF w p g now s) (hD : isDA w p g nv sv now s) (ha : a.ok w) (hk : a.kind = 1) :
    Calls Try.prog 9 #[.pointer (some ⟨p, 0, none⟩), .agg #[nv, sv], a.val] w (Did w p g now now.length) := by
  obtain ⟨⟨h1, h2, h3⟩, hap1, hap2⟩ := hD
  obtain ⟨ha1, ha2, ha3⟩ := ha
  obtain ⟨a0, c0, rfl, -, -⟩ := h1.form
  obtain ⟨a1, c1, rfl, -, -⟩ := h2.form
  unfold ADat.val
  obtain ⟨kind, bv, b, n, cv, cuts⟩ := a
  simp only at ha1 ha2 hk ⊢
  subst hk
  obtain ⟨a2, c2, rfl, -, -⟩ := ha1.form
  obtain ⟨a3, c3, rfl, -, -⟩ := ha2.form
  rw [List.length_map] at ha2 ⊢
  have hplt := hF.lt
  have HSY := Lib.hid (fun wx (hx : Fr [] w wx) => isync_any p g s now wx (hF.below hx))
  have H1 := Lib.hid h1
  have HAP := Lib.hid hap1
  rw [List.length_take, Nat.min_eq_left h3]
  obtain ⟨hf3, hB1, hB2, hB3, hs3⟩ := do_boxes w #[.slice a0 now.length c0, .slice a1 s c1] #[.int .i64 1, .slice a2 b.length c2, .int .i64 n, .slice a3 cuts.length c3] #[.slice none 0 0, .slice none 0 0] 29 34
  obtain ⟨w3, hw3⟩ : ∃ w3, w3 = ((w.alloc (.cells #[.slice a0 now.length c0, .slice a1 s c1] 29)).alloc (.cells #[.int .i64 1, .slice a2 b.length c2, .int .i64 n, .slice a3 cuts.length c3] 34)).alloc (.cells #[.slice none 0 0, .slice none 0 0] 29) := ⟨_, rfl⟩
  rw [← hw3] at hf3 hB1 hB2 hB3 hs3
  have HS := Lib.hid (HSY.out w3 hf3)
  rw [hw3] at HS
  have HW := Lib.hid hw3
  have HB1 := Lib.hid hB1
  have HB3 := Lib.hid hB3
  have HS3 := Lib.hid hs3
  have HF3 := Lib.hid hf3
  clear h1 h2 h3 hap1 hap2 ha1 ha2 hw3 hf3 hB1 hB2 hB3 hs3
  go_enter Try.func9, Try.ntmps9
  go_wp2_with (go_at_call 18; refine HS.out.mono ?_; rintro e w4 ⟨rfl, hF4, hf4⟩; rw [← HW.out] at hf4; obtain ⟨hc0, hc1, -, -⟩ := two_of_heap (hf4.heap HB1.out (by simp; omega)); obtain ⟨hr0, hr1, hz0, hz1⟩ := two_of_heap (hf4.heap HB3.out (by simp; omega)))
  have hh4 := hf4.heap HB3.out (by simp; omega)
  refine bodyPost_ret (results_cell2 rfl _ _ (w.heap.size + 1 + 1) 29 #[.slice a0 now.length c0, .slice a0 now.length c0] _ rfl (heap_set2 hh4) Try.underlying29 rfl sizeFile _ rfl) rfl ?_
  have hfs := Fr.set2 w4 (w.heap.size + 1 + 1) (.slice a0 now.length c0) (.slice a0 now.length c0)
  have hf04 : Fr [p] w w4 := HF3.out.trans hf4 (by simp) (by simp)
  have hfz := hf04.trans hfs (n := [p, g]) (by simp) (by simp; omega)
  have hb := (H1.out.keptV hfz HAP.out)
  refine ⟨g, _, _, rfl, hF4.kept hfs (by simp; omega) (by simp; omega), ⟨⟨hb, by rw [List.take_length]; exact hb, Nat.le_refl _⟩, HAP.out, by rw [List.take_length]; exact HAP.out⟩, hfz, .inl rfl⟩
end Go.Proofs.Ytgdpecpbcoohkaa
