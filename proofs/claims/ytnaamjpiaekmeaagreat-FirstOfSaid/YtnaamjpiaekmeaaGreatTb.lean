/- Several texts in one: BoolsD, BoolR, InfB, TabD, WelO, WelCk. -/
import Derived.Test.YtnaamjpiaekmeaaGreatBs
import Derived.Test.YtnaamjpiaekmeaaGreatProg
import Derived.Test.YtnaamjpiaekmeaaGreatMm
import Derived.Test.YtnaamjpiaekmeaaGreatDt
set_option linter.unusedVariables false
set_option linter.unusedSimpArgs false
namespace Go.Proofs.YtnaamjpiaekmeaaGreat
open Go.RowKit
def boolsAt (w : World) (v : Value) (l : List Bool) : Prop := cellsAt w v (l.map Value.bool)
theorem boolsAt.below {w w' : World} {v : Value} {l : List Bool} (h : boolsAt w v l) (hf : Fr [] w w') : boolsAt w' v l := cellsAt.below h hf
theorem boolsAt.form {w : World} {v : Value} {l : List Bool} (h : boolsAt w v l) : ∃ a cap, v = .slice a l.length cap ∧ l.length ≤ cap ∧ cap ≤ 9223372036854775807 := by
 obtain ⟨a, c, rfl, h1, h2⟩ := cellsAt.form h
 rw [List.length_map] at h1 ⊢
 exact ⟨a, c, rfl, h1, by simpa [maxLen] using h2⟩
theorem bool_cell {w : World} {a0 : Option Addr} {n cap : Nat} {l : List Bool} (h : boolsAt w (.slice a0 n cap) l) (k : Nat) (hk : k < l.length) : ∃ b off, a0 = some ⟨b, off, none⟩ ∧ w.cell? ⟨b, off + k, none⟩ = some (.bool (l[k]'hk)) := by
 obtain ⟨b, off, rfl, -, hx⟩ := cellsAt.get h (i := k) (by rw [List.length_map]; exact hk)
 exact ⟨b, off, rfl, by have := hx k (by rw [List.length_map]; exact hk); rwa [List.getElem_map] at this⟩
end Go.Proofs.YtnaamjpiaekmeaaGreat
namespace Go.Proofs.YtnaamjpiaekmeaaGreat
open Go.RowKit
def boolRow (w : World) (g : Nat) (l : List Bool) : Prop := w.heap[g]? = some (.cells (l.map Value.bool).toArray 4 (0, 0))
theorem boolRow.below {w w' : World} {g : Nat} {l : List Bool} (h : boolRow w g l) (hf : Fr [] w w') : boolRow w' g l := hf.heap h (by simp)
theorem boolRow.at {w : World} {g : Nat} {l : List Bool} (h : boolRow w g l) (hm : l.length ≤ maxLen) (n : Nat) (hn : n = l.length) : boolsAt w (.slice (some ⟨g, 0, none⟩) n n) l := by
 subst hn
 refine .inr ⟨g, 0, l.length, by rw [List.length_map], by rw [List.length_map]; exact Nat.le_refl _, hm, fun i hi => ?_⟩
 rw [cell_of_heap h]
 simp only [List.length_map] at hi
 simp [hi]
theorem boolRow.set {w : World} {g : Nat} {l : List Bool} (h : boolRow w g l) (k : Nat) (v : Bool) : boolRow (w.setCell ⟨g, k, none⟩ (.bool v)) g (l.set k v) := by
 unfold boolRow at h ⊢
 rw [heap_setCell_same h]
 simp [List.map_set]
theorem boolRow.free {w : World} {g : Nat} {l : List Bool} (h : boolRow w g l) (i : Nat) : w.frozen? ⟨g, i, none⟩ = false := free_of_heap h i
theorem boolRow.cell {w : World} {g : Nat} {l : List Bool} (h : boolRow w g l) {i : Nat} (hi : i < l.length) : w.cell? ⟨g, i, none⟩ = some (.bool (l[i]'hi)) := by
 rw [cell_of_heap h]
 simp [hi]
end Go.Proofs.YtnaamjpiaekmeaaGreat
namespace Go.Proofs.YtnaamjpiaekmeaaGreat
open Go.RowKit
theorem infoBool : (Tryz.prog.info? 4).map (fun i => (i.zero, i.size, i.bytes)) = some (some (.bool false), 1, 1) := by kernel_rfl
end Go.Proofs.YtnaamjpiaekmeaaGreat
namespace Go.Proofs.YtnaamjpiaekmeaaGreat
open Go.RowKit
abbrev tBool : TypeId := 4
abbrev tTab : TypeId := 36
def boolF (m : Nat) (f : Nat → Bool) : List Bool := (List.range m).map f
theorem boolF_len (m : Nat) (f : Nat → Bool) : (boolF m f).length = m := by simp [boolF]
theorem boolF_get {m : Nat} {f : Nat → Bool} {i : Nat} (h : i < (boolF m f).length) : (boolF m f)[i]'h = f i := by simp [boolF]
theorem boolF_congr {m : Nat} {f g : Nat → Bool} (h : ∀ j, j < m → f j = g j) : boolF m f = boolF m g := by
 unfold boolF
 exact List.map_congr_left (fun j hj => h j (List.mem_range.1 hj))
def rowF (w : World) (r m : Nat) (f : Nat → Bool) : Prop := w.heap[r]? = some (.cells ((boolF m f).map Value.bool).toArray tBool (0, 0))
theorem rowF.congr {w : World} {r m : Nat} {f g : Nat → Bool} (h : rowF w r m f) (e : ∀ j, j < m → f j = g j) : rowF w r m g := by unfold rowF at h ⊢; rw [h, boolF_congr e]
theorem rowF.cell {w : World} {r m : Nat} {f : Nat → Bool} (h : rowF w r m f) {i : Nat} (hi : i < m) : w.cell? ⟨r, i, none⟩ = some (.bool (f i)) := by
 rw [cell_of_heap h]
 simp [boolF, hi]
theorem rowF.free {w : World} {r m : Nat} {f : Nat → Bool} (h : rowF w r m f) (i : Nat) : w.frozen? ⟨r, i, none⟩ = false := free_of_heap h i
theorem rowF.kept {w w' : World} {r m : Nat} {f : Nat → Bool} {L : List Nat} (h : rowF w r m f) (hf : Fr L w w') (hr : r ∉ L) : rowF w' r m f := hf.heap h hr
theorem rowF.set {w : World} {r m : Nat} {f : Nat → Bool} (h : rowF w r m f) {i : Nat} (hi : i < m) : rowF (w.setCell ⟨r, i, none⟩ (.bool true)) r m (fun j => f j || decide (j = i)) := by
 unfold rowF at h ⊢
 rw [heap_setCell_same h]
 congr 2
 apply Array.ext'
 simp only [List.setIfInBounds_toArray]
 apply List.ext_getElem
 ·simp [boolF]
 ·intro j h1 h2
  rw [List.getElem_set]
  simp only [boolF, List.getElem_map, List.getElem_range]
  by_cases e : i = j
  ·rw [if_pos e, decide_eq_true e.symm, Bool.or_true]
  ·rw [if_neg e, decide_eq_false (fun x => e x.symm), Bool.or_false]
theorem rowF.new {w : World} {r m : Nat} (h : w.heap[r]? = some (.cells (List.replicate m (Value.bool false)).toArray tBool (0, 0))) : rowF w r m (fun _ => false) := by
 unfold rowF
 rw [h]
 congr 3
 apply List.ext_getElem
 ·simp [boolF]
 ·intro j h1 h2
  simp [boolF]
theorem rowF.bools {w : World} {r m : Nat} {f : Nat → Bool} (h : rowF w r m f) (hm : m ≤ maxLen) : boolsAt w (.slice (some ⟨r, 0, none⟩) m m) (boolF m f) := by
 refine .inr ⟨r, 0, m, by simp [boolF], by simp [boolF], hm, fun i hi => ?_⟩
 rw [Nat.zero_add]
 have hi' : i < m := by simpa [boolF] using hi
 rw [rowF.cell h hi']
 simp [boolF]
theorem rowF.lt {w : World} {r m : Nat} {f : Nat → Bool} (h : rowF w r m f) : r < w.heap.size := (Array.getElem?_eq_some_iff.1 h).1
theorem Fr.newer {W w : World} {r i : Nat} {v : Value} (h : Fr [] W w) (hr : W.heap.size ≤ r) : Fr [] W (w.setCell ⟨r, i, none⟩ v) :=
 h.trans (Fr.set0 w r i v) (by simp) (fun k hk hlt => by have : k = r := (by simpa using hk); omega)
structure ReadsT (w : World) (ex fr : Value) (N m : Nat) (T : TabT) (F : TabF) : Prop where
 ex : ∃ vs : List Value, vs.length = N ∧ cellsAt w ex vs ∧ ∀ a (h : a < vs.length), ∃ us : List Value, us.length = m ∧ cellsAt w (vs[a]'h) us ∧ ∀ p (h' : p < us.length), boolsAt w (us[p]'h') (boolF m (T (a : Int) p))
 fr : ∃ vs : List Value, vs.length = N ∧ cellsAt w fr vs ∧ ∀ a (h : a < vs.length), boolsAt w (vs[a]'h) (boolF m (F (a : Int)))
theorem ReadsT.below {w w' : World} {ex fr : Value} {N m : Nat} {T : TabT} {F : TabF} (h : ReadsT w ex fr N m T F) (hf : Fr [] w w') : ReadsT w' ex fr N m T F := by
 obtain ⟨⟨vs, h1, h2, h3⟩, us, k1, k2, k3⟩ := h
 refine ⟨⟨vs, h1, h2.below hf, fun a ha => ?_⟩, us, k1, k2.below hf, fun a ha => (k3 a ha).below hf⟩
 obtain ⟨ys, q1, q2, q3⟩ := h3 a ha
 exact ⟨ys, q1, q2.below hf, fun p hp => (q3 p hp).below hf⟩
theorem ReadsT.way {w : World} {ex fr : Value} {N m : Nat} {T : TabT} {F : TabF} (h : ReadsT w ex fr N m T F) {a p q : Nat} (ha : a < N) (hp : p < m) (hq : q < m) :
  ∃ b0 o0 c0 b1 o1 c1 b2 o2 c2, ex = .slice (some ⟨b0, o0, none⟩) N c0 ∧ N ≤ c0 ∧ c0 ≤ maxLen ∧ w.cell? ⟨b0, o0 + a, none⟩ = some (.slice (some ⟨b1, o1, none⟩) m c1) ∧ m ≤ c1 ∧ c1 ≤ maxLen ∧ w.cell? ⟨b1, o1 + p, none⟩ = some (.slice (some ⟨b2, o2, none⟩) m c2) ∧ m ≤ c2 ∧ c2 ≤ maxLen ∧ w.cell? ⟨b2, o2 + q, none⟩ = some (.bool (T (a : Int) p q)) := by
 obtain ⟨vs, h1, h2, h3⟩ := h.ex
 subst h1
 obtain ⟨us, q1, q2, q3⟩ := h3 a ha
 subst q1
 obtain ⟨x0, c0, rfl, hc0, hm0⟩ := h2.form
 obtain ⟨b0, o0, rfl, -, e0⟩ := h2.get ha
 obtain ⟨x1, c1, e1, hc1, hm1⟩ := q2.form
 have q2' := q2
 rw [e1] at q2'
 obtain ⟨b1, o1, rfl, -, e2⟩ := q2'.get hp
 have hb := q3 p hp
 obtain ⟨x2, c2, e3, hc2, hm2⟩ := hb.form
 have hb' := hb
 rw [e3, boolF_len] at hb'
 obtain ⟨b2, o2, rfl, e4⟩ := bool_cell hb' q (by rw [boolF_len]; exact hq)
 rw [boolF_len] at e3 hc2
 refine ⟨b0, o0, c0, b1, o1, c1, b2, o2, c2, rfl, hc0, hm0, ?_, hc1, hm1, ?_, hc2, by simpa [maxLen] using hm2, ?_⟩
 ·rw [e0 a ha, e1]
 ·rw [e2 p hp, e3]
 ·rw [e4, boolF_get]
theorem ReadsT.wayF {w : World} {ex fr : Value} {N m : Nat} {T : TabT} {F : TabF} (h : ReadsT w ex fr N m T F) {a p : Nat} (ha : a < N) (hp : p < m) :
  ∃ b0 o0 c0 b1 o1 c1, fr = .slice (some ⟨b0, o0, none⟩) N c0 ∧ N ≤ c0 ∧ c0 ≤ maxLen ∧ w.cell? ⟨b0, o0 + a, none⟩ = some (.slice (some ⟨b1, o1, none⟩) m c1) ∧ m ≤ c1 ∧ c1 ≤ maxLen ∧ w.cell? ⟨b1, o1 + p, none⟩ = some (.bool (F (a : Int) p)) := by
 obtain ⟨vs, h1, h2, h3⟩ := h.fr
 subst h1
 obtain ⟨x0, c0, rfl, hc0, hm0⟩ := h2.form
 obtain ⟨b0, o0, rfl, -, e0⟩ := h2.get ha
 have hb := h3 a ha
 obtain ⟨x2, c2, e3, hc2, hm2⟩ := hb.form
 have hb' := hb
 rw [e3, boolF_len] at hb'
 obtain ⟨b2, o2, rfl, e4⟩ := bool_cell hb' p (by rw [boolF_len]; exact hp)
 rw [boolF_len] at e3 hc2
 refine ⟨b0, o0, c0, b2, o2, c2, rfl, hc0, hm0, ?_, hc2, by simpa [maxLen] using hm2, ?_⟩
 ·rw [e0 a ha, e3]
 ·rw [e4, boolF_get]
def tabV (g0 g1 g2 : Value) (W : List UInt8) (ex fr : Value) : Value := .agg #[g0, g1, g2, encStr W, ex, fr]
theorem six_of_heap {w : World} {p : Nat} {a b c d e f : Value} {t : TypeId} {fz : Nat × Nat} (h : w.heap[p]? = some (.cells #[a, b, c, d, e, f] t fz)) :
  w.cell? ⟨p, 0, none⟩ = some a ∧ w.cell? ⟨p, 1, none⟩ = some b ∧ w.cell? ⟨p, 2, none⟩ = some c ∧ w.cell? ⟨p, 3, none⟩ = some d ∧ w.cell? ⟨p, 4, none⟩ = some e ∧ w.cell? ⟨p, 5, none⟩ = some f :=
 ⟨by rw [cell_of_heap h]; rfl, by rw [cell_of_heap h]; rfl, by rw [cell_of_heap h]; rfl, by rw [cell_of_heap h]; rfl, by rw [cell_of_heap h]; rfl, by rw [cell_of_heap h]; rfl⟩
def RBoolsN (l : List Bool) (w : World) (e : Ending) (w' : World) : Prop := ∃ v, e = .returned v ∧ boolsAt w' v l ∧ Fr [] w w' ∧ ∀ k, v.ownBlock = some k → w.heap.size ≤ k
end Go.Proofs.YtnaamjpiaekmeaaGreat
namespace Go.Proofs.YtnaamjpiaekmeaaGreat
open Go.RowKit
end Go.Proofs.YtnaamjpiaekmeaaGreat
namespace Go.Proofs.YtnaamjpiaekmeaaGreat
open Go.RowKit
def ProgCheck : Prop := ∀ (g : GramG) (gv : Value) (w : World), gramAt w gv g → SizeG g → IntG g → Calls Tryz.prog 24 #[gv] w fun e w' => e = .returned (.int .i64 (checkG g)) ∧ Fr [] w w'
end Go.Proofs.YtnaamjpiaekmeaaGreat
