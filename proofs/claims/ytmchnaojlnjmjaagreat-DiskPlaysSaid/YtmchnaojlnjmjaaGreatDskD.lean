/- The document's disk (layer 11): step. -/
import Derived.Test.YtmchnaojlnjmjaaGreatDskB
import Derived.Test.YtmchnaojlnjmjaaGreatDskC
import Derived.Test.YtmchnaojlnjmjaaGreatBs
import Derived.Deep.DeepCutAuto
namespace Go.Proofs.YtmchnaojlnjmjaaGreat
open Go.RowKit Go.Maps

theorem heap_set8 {w : World} {q : Nat} {a b c d e f g h : Value} {t : TypeId} (hp : w.heap[q]? = some (.cells #[a, b, c, d, e, f, g, h] t (0, 0))) (x0 x1 x2 x3 x4 x5 x6 x7 : Value) :
    ((((((((w.setCell ⟨q, 0, none⟩ x0).setCell ⟨q, 1, none⟩ x1).setCell ⟨q, 2, none⟩ x2).setCell ⟨q, 3, none⟩ x3).setCell ⟨q, 4, none⟩ x4).setCell ⟨q, 5, none⟩ x5).setCell ⟨q, 6, none⟩ x6).setCell ⟨q, 7, none⟩ x7).heap[q]? = some (.cells #[x0, x1, x2, x3, x4, x5, x6, x7] t (0, 0)) := by
  have h0 : (w.setCell ⟨q, 0, none⟩ x0).heap[q]? = some (.cells #[x0, b, c, d, e, f, g, h] t (0, 0)) := heap_setCell_same hp x0
  have h1 : ((w.setCell ⟨q, 0, none⟩ x0).setCell ⟨q, 1, none⟩ x1).heap[q]? = some (.cells #[x0, x1, c, d, e, f, g, h] t (0, 0)) := heap_setCell_same h0 x1
  have h2 : (((w.setCell ⟨q, 0, none⟩ x0).setCell ⟨q, 1, none⟩ x1).setCell ⟨q, 2, none⟩ x2).heap[q]? = some (.cells #[x0, x1, x2, d, e, f, g, h] t (0, 0)) := heap_setCell_same h1 x2
  have h3 : ((((w.setCell ⟨q, 0, none⟩ x0).setCell ⟨q, 1, none⟩ x1).setCell ⟨q, 2, none⟩ x2).setCell ⟨q, 3, none⟩ x3).heap[q]? = some (.cells #[x0, x1, x2, x3, e, f, g, h] t (0, 0)) := heap_setCell_same h2 x3
  have h4 : (((((w.setCell ⟨q, 0, none⟩ x0).setCell ⟨q, 1, none⟩ x1).setCell ⟨q, 2, none⟩ x2).setCell ⟨q, 3, none⟩ x3).setCell ⟨q, 4, none⟩ x4).heap[q]? = some (.cells #[x0, x1, x2, x3, x4, f, g, h] t (0, 0)) := heap_setCell_same h3 x4
  have h5 : ((((((w.setCell ⟨q, 0, none⟩ x0).setCell ⟨q, 1, none⟩ x1).setCell ⟨q, 2, none⟩ x2).setCell ⟨q, 3, none⟩ x3).setCell ⟨q, 4, none⟩ x4).setCell ⟨q, 5, none⟩ x5).heap[q]? = some (.cells #[x0, x1, x2, x3, x4, x5, g, h] t (0, 0)) := heap_setCell_same h4 x5
  have h6 : (((((((w.setCell ⟨q, 0, none⟩ x0).setCell ⟨q, 1, none⟩ x1).setCell ⟨q, 2, none⟩ x2).setCell ⟨q, 3, none⟩ x3).setCell ⟨q, 4, none⟩ x4).setCell ⟨q, 5, none⟩ x5).setCell ⟨q, 6, none⟩ x6).heap[q]? = some (.cells #[x0, x1, x2, x3, x4, x5, x6, h] t (0, 0)) := heap_setCell_same h5 x6
  have h7 : ((((((((w.setCell ⟨q, 0, none⟩ x0).setCell ⟨q, 1, none⟩ x1).setCell ⟨q, 2, none⟩ x2).setCell ⟨q, 3, none⟩ x3).setCell ⟨q, 4, none⟩ x4).setCell ⟨q, 5, none⟩ x5).setCell ⟨q, 6, none⟩ x6).setCell ⟨q, 7, none⟩ x7).heap[q]? = some (.cells #[x0, x1, x2, x3, x4, x5, x6, x7] t (0, 0)) := heap_setCell_same h6 x7
  exact h7
theorem Fr.set8 (w : World) (q : Nat) (x0 x1 x2 x3 x4 x5 x6 x7 : Value) :
    Fr [q] w ((((((((w.setCell ⟨q, 0, none⟩ x0).setCell ⟨q, 1, none⟩ x1).setCell ⟨q, 2, none⟩ x2).setCell ⟨q, 3, none⟩ x3).setCell ⟨q, 4, none⟩ x4).setCell ⟨q, 5, none⟩ x5).setCell ⟨q, 6, none⟩ x6).setCell ⟨q, 7, none⟩ x7) := by
  have t : ∀ {a b c : World}, Fr [q] a b → Fr [q] b c → Fr [q] a c := fun h k => h.trans k (fun _ h _ => h) (fun _ h _ => h)
  exact t (t (t (t (t (t (t (Fr.set0 w q 0 x0) (Fr.set0 _ q 1 x1)) (Fr.set0 _ q 2 x2)) (Fr.set0 _ q 3 x3)) (Fr.set0 _ q 4 x4)) (Fr.set0 _ q 5 x5)) (Fr.set0 _ q 6 x6)) (Fr.set0 _ q 7 x7)
/-- What is told of two boxes, the disk's and the result's. -/
structure Boxes (w : World) (q0 q1 : Nat) (cs0 : Array Value) (wx : World) : Prop where
  ne : q0 ≠ q1
  n0 : w.heap.size ≤ q0
  n1 : w.heap.size ≤ q1
  b0 : wx.heap[q0]? = some (.cells cs0 34 (0, 0))
  b1 : ∃ x0 x1 x2 x3 x4 x5 x6 x7, wx.heap[q1]? = some (.cells #[x0, x1, x2, x3, x4, x5, x6, x7] 34 (0, 0))
  fr : Fr [] w wx
def zeroK : Array Value := #[.slice none 0 0, .slice none 0 0, .slice none 0 0, .slice none 0 0, .int .i64 0, .int .i64 0, .bool false, .slice none 0 0]
theorem boxes_at (w : World) (cs : Array Value) : Boxes w w.heap.size (w.heap.size + 1) cs ((w.alloc (.cells cs 34)).alloc (.cells zeroK 34)) := by
  have h0 := Fr.alloc w (.cells cs 34)
  have h1 := Fr.alloc (w.alloc (.cells cs 34)) (.cells zeroK 34)
  have e := heap_alloc_new (w.alloc (.cells cs 34)) (.cells zeroK 34)
  rw [World.size_alloc] at e
  exact ⟨by omega, by omega, by omega, h1.heap (heap_alloc_new _ _) (by simp), ⟨_, _, _, _, _, _, _, _, e⟩, h0.trans h1 (by simp) (by simp)⟩
theorem Boxes.below {w : World} {q0 q1 : Nat} {cs : Array Value} {wx wy : World} (h : Boxes w q0 q1 cs wx) (hf : Fr [] wx wy) : Boxes w q0 q1 cs wy := by
  obtain ⟨x0, x1, x2, x3, x4, x5, x6, x7, hb⟩ := h.b1
  exact ⟨h.ne, h.n0, h.n1, hf.heap h.b0 (by simp), ⟨_, _, _, _, _, _, _, _, hf.heap hb (by simp)⟩, h.fr.trans hf (by simp) (by simp)⟩
/-- The disk's box is written. -/
theorem Boxes.write {w : World} {q0 q1 : Nat} {cs cs' : Array Value} {wx wy : World} (h : Boxes w q0 q1 cs wx) (hf : Fr [q0] wx wy) (hb : wy.heap[q0]? = some (.cells cs' 34 (0, 0))) : Boxes w q0 q1 cs' wy := by
  obtain ⟨x0, x1, x2, x3, x4, x5, x6, x7, hb1⟩ := h.b1
  exact ⟨h.ne, h.n0, h.n1, hb, ⟨_, _, _, _, _, _, _, _, hf.heap hb1 (by simpa using Ne.symm h.ne)⟩, h.fr.trans hf (by simp) (fun i hi hlt => by
    have := h.n0
    have e : i = q0 := by simpa using hi
    omega)⟩
theorem Boxes.free1 {w : World} {q0 q1 : Nat} {cs : Array Value} {wx : World} (h : Boxes w q0 q1 cs wx) : wx.frozen? ⟨q1, 0, none⟩ = false ∧ wx.frozen? ⟨q1, 1, none⟩ = false ∧ wx.frozen? ⟨q1, 2, none⟩ = false ∧ wx.frozen? ⟨q1, 3, none⟩ = false ∧ wx.frozen? ⟨q1, 4, none⟩ = false ∧ wx.frozen? ⟨q1, 5, none⟩ = false ∧ wx.frozen? ⟨q1, 6, none⟩ = false ∧ wx.frozen? ⟨q1, 7, none⟩ = false := by
  obtain ⟨x0, x1, x2, x3, x4, x5, x6, x7, hb1⟩ := h.b1
  exact eight_free hb1
/-- The result's box has been written: it reads so, and nothing that was there has changed. -/
theorem Boxes.result {w : World} {q0 q1 : Nat} {cs : Array Value} {wx : World} (h : Boxes w q0 q1 cs wx) (x0 x1 x2 x3 x4 x5 x6 x7 : Value) :
    ((((((((wx.setCell ⟨q1, 0, none⟩ x0).setCell ⟨q1, 1, none⟩ x1).setCell ⟨q1, 2, none⟩ x2).setCell ⟨q1, 3, none⟩ x3).setCell ⟨q1, 4, none⟩ x4).setCell ⟨q1, 5, none⟩ x5).setCell ⟨q1, 6, none⟩ x6).setCell ⟨q1, 7, none⟩ x7).heap[q1]? = some (.cells #[x0, x1, x2, x3, x4, x5, x6, x7] 34 (0, 0)) ∧
    Fr [] w ((((((((wx.setCell ⟨q1, 0, none⟩ x0).setCell ⟨q1, 1, none⟩ x1).setCell ⟨q1, 2, none⟩ x2).setCell ⟨q1, 3, none⟩ x3).setCell ⟨q1, 4, none⟩ x4).setCell ⟨q1, 5, none⟩ x5).setCell ⟨q1, 6, none⟩ x6).setCell ⟨q1, 7, none⟩ x7) := by
  obtain ⟨y0, y1, y2, y3, y4, y5, y6, y7, hb1⟩ := h.b1
  refine ⟨heap_set8 hb1 _ _ _ _ _ _ _ _, h.fr.trans (Fr.set8 wx q1 x0 x1 x2 x3 x4 x5 x6 x7) (by simp) (fun i hi hlt => ?_)⟩
  have := h.n1
  have e : i = q1 := by simpa using hi
  omega
theorem results_cell2 {P : Program} {fn : Func} {p u : Tmp} {ty : TypeId} (h : fn.results = #[.cell p ty, .tmp u]) (tmps : Array Value) (w : World) (g : Nat) (t : TypeId) (cs : Array Value) (d : TypeDesc)
    (hp : tmps.getD p undef = .pointer (some ⟨g, 0, none⟩)) (hg : w.heap[g]? = some (.cells cs t (0, 0)))
    (hu : P.underlying ty = some d) (hd : (match d with | .struct _ | .array _ _ => true | _ => false) = true) (hi : (P.info? ty).map (·.size) = some cs.size) (v : Value) (hv : tmps.getD u undef = v) :
    (results fn tmps).run P w = .ok (.tuple #[.agg cs, v]) w := by
  rw [results_cell_tmp h, hp]
  subst hv
  simp [asAddr, run_loadVar_row w g t ty cs (0, 0) d hg hu hd hi]
set_option maxRecDepth 100000 in
theorem kstep_down (nv sv ov fv av : Value) (d : DskD) (D : List Nat) (w : World) (h : RK w nv sv ov fv av d D) (hd : d.down = true) :
    Calls Tryz.prog 56 #[kval nv sv ov fv av d] w fun e w' => e = .returned (.tuple #[kval nv sv ov fv av (stepK d), .int .i64 (codeK d)]) ∧ Fr [] w w' := by
  have hc : codeK d = 11 := by unfold codeK; rw [hd]; rfl
  have hs : stepK d = d := by unfold stepK; rw [hc, hd]; cases d; simp at hd; simp [hd]
  rw [hs, hc]
  obtain ⟨a0, c0, a1, c1, a2, c2, a3, c3, a4, c4, rfl, rfl, rfl, rfl, rfl⟩ := h.slices
  have hB := boxes_at w (kcells (.slice a0 d.dn.length c0) (.slice a1 d.ds.length c1) (.slice a2 d.ops.length c2) (.slice a3 d.files.length c3) (.slice a4 d.armed.length c4) d)
  unfold kval kcells at *
  rw [hd] at hB ⊢
  clear h hc hs hd
  go_enter Tryz.func56, Tryz.ntmps56
  go_upto_region 1 with fail
  unfold zeroK at hB
  obtain ⟨w2, hw2⟩ : ∃ w2, w2 = (w.alloc (.cells #[.slice a0 d.dn.length c0, .slice a1 d.ds.length c1, .slice a2 d.ops.length c2, .slice a3 d.files.length c3, .int .i64 d.room, .int .i64 d.steps, .bool true, .slice a4 d.armed.length c4] 34)).alloc (.cells #[.slice none 0 0, .slice none 0 0, .slice none 0 0, .slice none 0 0, .int .i64 0, .int .i64 0, .bool false, .slice none 0 0] 34) := ⟨_, rfl⟩
  rw [← hw2] at hB ⊢
  obtain ⟨q0, hq0⟩ : ∃ q, q = w.heap.size := ⟨_, rfl⟩
  obtain ⟨q1, hq1⟩ : ∃ q, q = w.heap.size + 1 := ⟨_, rfl⟩
  rw [← hq1, ← hq0] at hB
  rw [← hq1, ← hq0]
  clear hw2 hq0 hq1
  have HB := Lib.hid hB
  obtain ⟨y0, y1, y2, y3, y4, y5, y6, y7⟩ := eight_of_heap hB.b0
  obtain ⟨x0, x1, x2, x3, x4, x5, x6, x7, hb1⟩ := hB.b1
  obtain ⟨z0, z1, z2, z3, z4, z5, z6, z7⟩ := eight_of_heap hb1
  obtain ⟨f0, f1, f2, f3, f4, f5, f6, f7⟩ := eight_free hb1
  clear hB hb1
  go_wp2_with fail
  have hr := HB.out.result (.slice a0 d.dn.length c0) (.slice a1 d.ds.length c1) (.slice a2 d.ops.length c2) (.slice a3 d.files.length c3) (.int .i64 d.room) (.int .i64 d.steps) (.bool true) (.slice a4 d.armed.length c4)
  exact bodyPost_ret (results_cell2 rfl _ _ q1 34 _ _ rfl hr.1 Tryz.underlying34 rfl sizeK (.int .i64 11) rfl) rfl ⟨rfl, hr.2⟩
def KStepRel (d : DskD) (w3 : World) (iv : Value) (wx : World) : Prop := ∃ i : Nat, i ≤ d.armed.length ∧ iv = .int .i64 (i : Int) ∧ hitF d.armed (d.steps + 1) = hitF (d.armed.drop i) (d.steps + 1) ∧ Fr [] w3 wx
/-- The armed faults in a slice. -/
theorem armed_get {w : World} {a0 : Option Addr} {n cap : Nat} {l : List FltD} (h : armedR w (.slice a0 n cap) l) (k : Nat) (hk : k < l.length) : ∃ b off, a0 = some ⟨b, off, none⟩ ∧ n = l.length ∧
    w.cell? ⟨b, off + k * 2, none⟩ = some (.int .i64 (l[k]'hk).at_) ∧ w.cell? ⟨b, off + k * 2 + 1, none⟩ = some (.int .i64 (l[k]'hk).kind) := by
  have hel : faultsAt w (.slice a0 n cap) l := elems_of_owns (xs := l.map FltD.cells) (by rw [List.length_map]; exact h) (fun x hx => by obtain ⟨f, _, rfl⟩ := List.mem_map.1 hx; rfl)
  obtain ⟨b, off, e1, e2, _, e3, e4⟩ := hel.get k hk
  exact ⟨b, off, e1, e2, e3, e4⟩
set_option maxRecDepth 100000 in
set_option maxHeartbeats 2000000 in
theorem kstep_up (nv sv ov fv av : Value) (d : DskD) (D : List Nat) (w : World) (h : RK w nv sv ov fv av d D) (hd : d.down = false) (hst : 0 ≤ d.steps ∧ d.steps ≤ 1000000) (hk : kindsOk d.armed) :
    Calls Tryz.prog 56 #[kval nv sv ov fv av d] w fun e w' => e = .returned (.tuple #[kval nv sv ov fv av (stepK d), .int .i64 (codeK d)]) ∧ Fr [] w w' := by
  obtain ⟨hst0, hst1⟩ := hst
  obtain ⟨c, hc⟩ : ∃ c, c = codeK d := ⟨_, rfl⟩
  have hs : stepK d = { d with steps := d.steps + 1, down := decide (c = 11) } := by unfold stepK; rw [← hc, hd]; rfl
  rw [← hc, hs]
  have hc' : c = codeF 11 (hitF d.armed (d.steps + 1)) := by rw [hc]; unfold codeK; rw [hd]; rfl
  have HAR := Lib.hid h.armed
  have hal : d.armed.length ≤ 9223372036854775807 := by obtain ⟨_, _, _, h1, h2⟩ := owns_slice h.armed; simp only [maxLen] at h2; omega
  obtain ⟨a0, c0, a1, c1, a2, c2, a3, c3, a4, c4, rfl, rfl, rfl, rfl, rfl⟩ := h.slices
  have hB := boxes_at w (kcells (.slice a0 d.dn.length c0) (.slice a1 d.ds.length c1) (.slice a2 d.ops.length c2) (.slice a3 d.files.length c3) (.slice a4 d.armed.length c4) d)
  unfold kval kcells at *
  rw [hd] at hB ⊢
  have HC := Lib.hid hc'
  have HK := Lib.hid hk
  clear h hc hc' hs hd hk
  go_enter Tryz.func56, Tryz.ntmps56
  go_upto_region 1 with fail
  unfold zeroK at hB
  obtain ⟨w2, hw2⟩ : ∃ w2, w2 = (w.alloc (.cells #[.slice a0 d.dn.length c0, .slice a1 d.ds.length c1, .slice a2 d.ops.length c2, .slice a3 d.files.length c3, .int .i64 d.room, .int .i64 d.steps, .bool false, .slice a4 d.armed.length c4] 34)).alloc (.cells #[.slice none 0 0, .slice none 0 0, .slice none 0 0, .slice none 0 0, .int .i64 0, .int .i64 0, .bool false, .slice none 0 0] 34) := ⟨_, rfl⟩
  rw [← hw2] at hB ⊢
  obtain ⟨q0, hq0⟩ : ∃ q, q = w.heap.size := ⟨_, rfl⟩
  obtain ⟨q1, hq1⟩ : ∃ q, q = w.heap.size + 1 := ⟨_, rfl⟩
  rw [← hq1, ← hq0] at hB
  rw [← hq1, ← hq0]
  clear hw2 hq0 hq1
  obtain ⟨y0, y1, y2, y3, y4, y5, y6, y7⟩ := eight_of_heap hB.b0
  obtain ⟨g0, g1, g2, g3, g4, g5, g6, g7⟩ := eight_free hB.b0
  have hB3 : Boxes w q0 q1 #[.slice a0 d.dn.length c0, .slice a1 d.ds.length c1, .slice a2 d.ops.length c2, .slice a3 d.files.length c3, .int .i64 d.room, .int .i64 (d.steps + 1), .bool false, .slice a4 d.armed.length c4] (w2.setCell ⟨q0, 5, none⟩ (.int .i64 (d.steps + 1))) :=
    hB.write (Fr.set0 w2 q0 5 _) (heap_setCell_same hB.b0 _)
  have HB3 := Lib.hid hB3
  clear hB hB3
  go_wp2_with fail
  obtain ⟨w3, hw3⟩ : ∃ w3, w3 = w2.setCell ⟨q0, 5, none⟩ (.int .i64 (d.steps + 1)) := ⟨_, rfl⟩
  rw [← hw3] at HB3 ⊢
  clear hw3 y0 y1 y2 y3 y4 y5 y6 y7 g0 g1 g2 g3 g4 g5 g6 g7
  go_loopw [4] (KStepRel d w3) (fun iv _ => d.armed.length - (intOf iv).toNat)
  case atStart => exact ⟨0, Nat.zero_le _, rfl, rfl, Fr.refl _ _⟩
  case round =>
    obtain ⟨i, hi, rfl, hh, hf⟩ := hrel
    have hB := HB3.out.below hf
    have HH := Lib.hid hh
    by_cases hin : i < d.armed.length
    · have hd2 : decide (i < d.armed.length) = true := decide_eq_true hin
      obtain ⟨b, off, rfl, -, hc0, hc1⟩ := armed_get (owns_kept HAR.out hB.fr (by simp)) i hin
      have hdr := hitF_drop d.armed (d.steps + 1) i hin
      have hki := HK.out _ (List.getElem_mem hin)
      obtain ⟨f, hfe⟩ : ∃ f, f = d.armed[i]'hin := ⟨_, rfl⟩
      obtain ⟨b', off', e', -, -, hc1w⟩ := armed_get HAR.out i hin
      cases e'
      rw [← hfe] at hc0 hc1 hdr hki hc1w
      have HC1W := Lib.hid hc1w
      clear hc1w
      obtain ⟨hk0, hk1⟩ := hki
      obtain ⟨y0, y1, y2, y3, y4, y5, y6, y7⟩ := eight_of_heap hB.b0
      obtain ⟨g0, g1, g2, g3, g4, g5, g6, g7⟩ := eight_free hB.b0
      by_cases ha : f.at_ = d.steps + 1
      · have hd5 : (f.at_ == d.steps + 1) = true := by simp [ha]
        rw [if_pos ha] at hdr
        by_cases hk1 : f.kind = 1
        · have hd6 : (f.kind == 1) = true := by simp [hk1]
          have hcd : c = 11 := by rw [HC.out, hh, hdr]; show (if f.kind = 1 then (11 : Int) else f.kind + 7) = 11; rw [if_pos hk1]
          have HCD := Lib.hid hcd
          have HBB := Lib.hid hB
          clear hdr hf hh ha hfe hk1 hcd hB
          go_wp2_with fail
          go_quiet (fail)
          obtain ⟨wq, hwq⟩ : ∃ wq, wq = wr.drewN nq := ⟨_, rfl⟩
          have hBq := HBB.out.below ((Fr.refl [] wr).andDrewN nq)
          have hcq1 : (wr.drewN nq).cell? ⟨b, off + i * 2 + 1, none⟩ = some (.int .i64 f.kind) := ((Fr.refl [] wr).andDrewN nq).cell hc1 (by simp)
          have hcq0 : (wr.drewN nq).cell? ⟨b, off + i * 2, none⟩ = some (.int .i64 f.at_) := ((Fr.refl [] wr).andDrewN nq).cell hc0 (by simp)
          rw [← hwq] at hBq hcq0 hcq1 ⊢
          clear hwq y0 y1 y2 y3 y4 y5 y6 y7 g0 g1 g2 g3 g4 g5 g6 g7 hc0 hc1
          obtain ⟨y0, y1, y2, y3, y4, y5, y6, y7⟩ := eight_of_heap hBq.b0
          obtain ⟨g0, g1, g2, g3, g4, g5, g6, g7⟩ := eight_free hBq.b0
          have hB4 := hBq.write (Fr.set0 wq q0 6 (.bool true)) (heap_setCell_same hBq.b0 _)
          obtain ⟨z0, z1, z2, z3, z4, z5, z6, z7⟩ := hB4.free1
          obtain ⟨v0, v1, v2, v3, v4, v5, v6, v7⟩ := eight_of_heap (show (wq.setCell ⟨q0, 6, none⟩ (.bool true)).heap[q0]? = some (.cells #[.slice a0 d.dn.length c0, .slice a1 d.ds.length c1, .slice a2 d.ops.length c2, .slice a3 d.files.length c3, .int .i64 d.room, .int .i64 (d.steps + 1), .bool true, .slice (some ⟨b, off, none⟩) d.armed.length c4] 34 (0, 0)) from hB4.b0)
          obtain ⟨r0, r1, r2, r3, r4, r5, r6, r7, hr1⟩ := hB4.b1
          obtain ⟨t0, t1, t2, t3, t4, t5, t6, t7⟩ := eight_of_heap hr1
          have HB4 := Lib.hid hB4
          clear hB4 hBq hr1
          go_wp2_with fail
          have hr := HB4.out.result (.slice a0 d.dn.length c0) (.slice a1 d.ds.length c1) (.slice a2 d.ops.length c2) (.slice a3 d.files.length c3) (.int .i64 d.room) (.int .i64 (d.steps + 1)) (.bool true) (.slice (some ⟨b, off, none⟩) d.armed.length c4)
          refine bodyPost_ret (results_cell2 rfl _ _ q1 34 _ _ rfl hr.1 Tryz.underlying34 rfl sizeK (.int .i64 11) rfl) rfl ⟨?_, hr.2⟩
          rw [HCD.out]
          rfl
        · have hd6 : (f.kind == 1) = false := by simp [hk1]
          have hcd : c = f.kind + 7 := by rw [HC.out, hh, hdr]; show (if f.kind = 1 then (11 : Int) else f.kind + 7) = _; rw [if_neg hk1]
          have hne : f.kind + 7 ≠ 11 := by omega
          have HNE := Lib.hid hne
          have HCD := Lib.hid hcd
          have HBB := Lib.hid hB
          clear hdr hf hh ha hfe hk1 hcd hB hne
          go_wp2_with fail
          go_quiet (fail)
          obtain ⟨wq, hwq⟩ : ∃ wq, wq = wr.drewN nq := ⟨_, rfl⟩
          have hBq := HBB.out.below ((Fr.refl [] wr).andDrewN nq)
          have hcq1 : (wr.drewN nq).cell? ⟨b, off + i * 2 + 1, none⟩ = some (.int .i64 f.kind) := ((Fr.refl [] wr).andDrewN nq).cell hc1 (by simp)
          have hcq0 : (wr.drewN nq).cell? ⟨b, off + i * 2, none⟩ = some (.int .i64 f.at_) := ((Fr.refl [] wr).andDrewN nq).cell hc0 (by simp)
          rw [← hwq] at hBq hcq0 hcq1 ⊢
          clear hwq y0 y1 y2 y3 y4 y5 y6 y7 g0 g1 g2 g3 g4 g5 g6 g7 hc0 hc1
          obtain ⟨y0, y1, y2, y3, y4, y5, y6, y7⟩ := eight_of_heap hBq.b0
          go_wp2_with fail
          have HBQ := Lib.hid hBq
          clear y0 y1 y2 y3 y4 y5 y6 y7 hBq
          refine wp_region_G [q1] [(0, false), (1, false), (2, false), (3, false), (4, false), (5, false), (6, false), (7, false), (8, true), (9, false)] 46 rfl (by kernel_rfl) (by kernel_rfl) (by kernel_rfl) (fun c a d v w h => by cases d <;> exact h) (fun wd hfd => ?_)
          simp only [List.map_cons, List.map_nil, List.getElem?_toArray, List.getElem?_cons_succ, List.getElem?_cons_zero, Option.getD_some]
          have hB4 := HBQ.out.below hfd
          have hd1 := hfd.cell hcq1 (by simp)
          have hb1 : b ≠ q1 := fun e => by
            have h1 := World.block_lt_of_cell? w _ HC1W.out
            have h2 := HBQ.out.n1
            simp only at h1
            omega
          have LB : Hid (Later [q1] wd (fun w' => w'.heap[q0]? = some (.cells #[.slice a0 d.dn.length c0, .slice a1 d.ds.length c1, .slice a2 d.ops.length c2, .slice a3 d.files.length c3, .int .i64 d.room, .int .i64 (d.steps + 1), .bool false, .slice (some ⟨b, off, none⟩) d.armed.length c4] 34 (0, 0)))) := Lib.hid (fun w' hf' => hf'.heap hB4.b0 (by simpa using hB4.ne))
          have LC : Hid (Later [q1] wd (fun w' => w'.cell? ⟨b, off + i * 2 + 1, none⟩ = some (.int .i64 f.kind))) := Lib.hid (fun w' hf' => hf'.cell hd1 (by simpa using hb1))
          have HB4 := Lib.hid hB4
          clear hd1 hb1 hcq0 hcq1 hB4 hfd
          repeat (apply wpG_t; · (intro w' hf'; obtain ⟨y0, y1, y2, y3, y4, y5, y6, y7⟩ := eight_of_heap (LB.out w' hf'); have k1 := LC.out w' hf'; go_wp2_with fail; exact ⟨rfl, rfl⟩))
          refine wpG_x ?_
          obtain ⟨z0, z1, z2, z3, z4, z5, z6, z7⟩ := HB4.out.free1
          obtain ⟨r0, r1, r2, r3, r4, r5, r6, r7, hr1⟩ := HB4.out.b1
          obtain ⟨t0, t1, t2, t3, t4, t5, t6, t7⟩ := eight_of_heap hr1
          clear hr1
          go_wp2_with fail
          refine ⟨Fr.set8 wd q1 _ _ _ _ _ _ _ _, rfl, ?_⟩
          clear t0 t1 t2 t3 t4 t5 t6 t7 z0 z1 z2 z3 z4 z5 z6 z7
          repeat (apply wpG_t; · (intro w' hf'; go_wp2_with fail; exact ⟨rfl, rfl⟩))
          refine wpG_end ?_
          go_wp2_with fail
          have hr := HB4.out.result (.slice a0 d.dn.length c0) (.slice a1 d.ds.length c1) (.slice a2 d.ops.length c2) (.slice a3 d.files.length c3) (.int .i64 d.room) (.int .i64 (d.steps + 1)) (.bool false) (.slice (some ⟨b, off, none⟩) d.armed.length c4)
          refine bodyPost_ret (results_cell2 rfl _ _ q1 34 _ _ rfl hr.1 Tryz.underlying34 rfl sizeK (.int .i64 (f.kind + 7)) rfl) rfl ⟨?_, hr.2⟩
          rw [HCD.out, decide_eq_false HNE.out]
      · have hd5 : (f.at_ == d.steps + 1) = false := by simp [ha]
        rw [if_neg ha] at hdr
        have HDR := Lib.hid hdr
        have HF := Lib.hid hf
        clear hdr hf hh ha hfe
        go_wp2_with fail
        go_quiet (fail)
        go_wp2_with fail
        exact ⟨⟨i + 1, by omega, by go_num, by rw [HH.out, HDR.out], HF.out.andDrewN _⟩, by simp [intOf]; omega⟩
    · have hd2 : decide (i < d.armed.length) = false := decide_eq_false hin
      obtain rfl : i = d.armed.length := by omega
      rw [List.drop_length] at hh
      have hcd : c = 0 := by rw [HC.out, hh]; rfl
      have HCD := Lib.hid hcd
      obtain ⟨y0, y1, y2, y3, y4, y5, y6, y7⟩ := eight_of_heap hB.b0
      obtain ⟨z0, z1, z2, z3, z4, z5, z6, z7⟩ := hB.free1
      obtain ⟨r0, r1, r2, r3, r4, r5, r6, r7, hr1⟩ := hB.b1
      obtain ⟨t0, t1, t2, t3, t4, t5, t6, t7⟩ := eight_of_heap hr1
      have HB4 := Lib.hid hB
      clear hr1 hB hh hcd hf
      go_wp2_with fail
      have hr := HB4.out.result (.slice a0 d.dn.length c0) (.slice a1 d.ds.length c1) (.slice a2 d.ops.length c2) (.slice a3 d.files.length c3) (.int .i64 d.room) (.int .i64 (d.steps + 1)) (.bool false) (.slice a4 d.armed.length c4)
      refine bodyPost_ret (results_cell2 rfl _ _ q1 34 _ _ rfl hr.1 Tryz.underlying34 rfl sizeK (.int .i64 0) rfl) rfl ⟨?_, hr.2⟩
      rw [HCD.out]
      rfl
/-- step, whatever is. -/
theorem kstep_any (nv sv ov fv av : Value) (d : DskD) (D : List Nat) (w : World) (h : RK w nv sv ov fv av d D) (hst : 0 ≤ d.steps ∧ d.steps ≤ 1000000) (hk : kindsOk d.armed) :
    Calls Tryz.prog 56 #[kval nv sv ov fv av d] w fun e w' => e = .returned (.tuple #[kval nv sv ov fv av (stepK d), .int .i64 (codeK d)]) ∧ Fr [] w w' := by
  cases hd : d.down with
  | true => exact kstep_down nv sv ov fv av d D w h hd
  | false => exact kstep_up nv sv ov fv av d D w h hd hst hk
end Go.Proofs.YtmchnaojlnjmjaaGreat
