/- What the document's disk (layer 11) reads as; its File, at. -/
import Derived.Test.YtmchnaojlnjmjaaGreatEight
import Derived.Test.YtmchnaojlnjmjaaGreatDskMath
import Derived.Test.YtmchnaojlnjmjaaGreatDirRD
import Derived.Test.YtmchnaojlnjmjaaGreatFt
import Derived.Test.YtmchnaojlnjmjaaGreatIn
namespace Go.Proofs.YtmchnaojlnjmjaaGreat
open Go.RowKit Go.Maps

/-- A file of the document's: its two slices of bytes, in blocks of D. -/
def fileR (w : World) (p : Value × Value) (f : FileD) (D : List Nat) : Prop := bytesAt w p.1 f.now ∧ bytesAt w p.2 f.safe ∧ (∀ k, p.1.ownBlock = some k → f.now ≠ [] → k ∈ D) ∧ ∀ k, p.2.ownBlock = some k → f.safe ≠ [] → k ∈ D
def pairC (p : Value × Value) : List Value := [p.1, p.2]
def filesR (w : World) (fv : Value) (fs : List FileD) (D : List Nat) : Prop :=
  ∃ ps : List (Value × Value), ps.length = fs.length ∧ w.ownsRow 0 85 2 fv fs.length (ps.map pairC).flatten ∧ ∀ i (h : i < ps.length) (h' : i < fs.length), fileR w (ps[i]'h) (fs[i]'h') D
def armedR (w : World) (av : Value) (l : List FltD) : Prop := w.ownsRow 0 107 2 av l.length (fcells l)
/-- The document's disk. -/
structure RK (w : World) (nv sv ov fv av : Value) (d : DskD) (D : List Nat) : Prop where
  dir : RD w nv sv ov d.dn d.ds d.ops
  files : filesR w fv d.files D
  armed : armedR w av d.armed
  lt : ∀ k ∈ D, k < w.heap.size
def kval (nv sv ov fv av : Value) (d : DskD) : Value := .agg #[nv, sv, ov, fv, .int .i64 d.room, .int .i64 d.steps, .bool d.down, av]
def kcells (nv sv ov fv av : Value) (d : DskD) : Array Value := #[nv, sv, ov, fv, .int .i64 d.room, .int .i64 d.steps, .bool d.down, av]
/-- What a block holds is none of the document's. -/
def clean (w : World) (L : List Nat) : Prop := ∀ k ∈ L, ∀ cs t fr, w.heap[k]? = some (.cells cs t fr) → t ≠ 83 ∧ t ≠ 105 ∧ t ≠ 85 ∧ t ≠ 107
theorem owns_clean {w w' : World} {base sz n : Nat} {e : TypeId} {v : Value} {xs : List Value} {L : List Nat} (h : w.ownsRow base e sz v n xs) (hL : clean w L) (he : e = 83 ∨ e = 105 ∨ e = 85 ∨ e = 107) (hf : Fr L w w') : w'.ownsRow base e sz v n xs := by
  refine owns_kept h hf (fun k hk hm => ?_)
  rcases h.2 with ⟨rfl, _⟩ | ⟨g, cap, cur, rfl, _, hg, _⟩
  · cases hk
  · obtain rfl : g = k := by simpa [Value.ownBlock] using hk
    obtain ⟨h1, h2, h3, h4⟩ := hL _ hm _ _ _ hg
    rcases he with rfl | rfl | rfl | rfl
    · exact h1 rfl
    · exact h2 rfl
    · exact h3 rfl
    · exact h4 rfl
theorem fileR.kept {w w' : World} {p : Value × Value} {f : FileD} {D L : List Nat} (h : fileR w p f D) (hf : Fr L w w') (hd : ∀ k ∈ D, k ∉ L) : fileR w' p f D :=
  ⟨h.1.kept hf (fun k hk hne _ => hd k (h.2.2.1 k hk hne)), h.2.1.kept hf (fun k hk hne _ => hd k (h.2.2.2 k hk hne)), h.2.2⟩
theorem fileR.mono {w : World} {p : Value × Value} {f : FileD} {D D' : List Nat} (h : fileR w p f D) (hd : ∀ k ∈ D, k ∈ D') : fileR w p f D' := ⟨h.1, h.2.1, fun k hk hne => hd k (h.2.2.1 k hk hne), fun k hk hne => hd k (h.2.2.2 k hk hne)⟩
theorem filesR.kept {w w' : World} {fv : Value} {fs : List FileD} {D L : List Nat} (h : filesR w fv fs D) (hf : Fr L w w') (hL : clean w L) (hd : ∀ k ∈ D, k ∉ L) : filesR w' fv fs D := by
  obtain ⟨ps, h1, h2, h3⟩ := h
  exact ⟨ps, h1, owns_clean h2 hL (.inr (.inr (.inl rfl))) hf, fun i a b => (h3 i a b).kept hf hd⟩
theorem filesR.below {w w' : World} {fv : Value} {fs : List FileD} {D : List Nat} (h : filesR w fv fs D) (hf : Fr [] w w') : filesR w' fv fs D := h.kept hf (by simp [clean]) (by simp)
theorem RK.kept {w w' : World} {nv sv ov fv av : Value} {d : DskD} {D L : List Nat} (h : RK w nv sv ov fv av d D) (hf : Fr L w w') (hL : clean w L) (hd : ∀ k ∈ D, k ∉ L) : RK w' nv sv ov fv av d D :=
  ⟨⟨owns_clean h.dir.1 hL (.inl rfl) hf, owns_clean h.dir.2.1 hL (.inl rfl) hf, owns_clean h.dir.2.2 hL (.inr (.inl rfl)) hf⟩, h.files.kept hf hL hd, owns_clean h.armed hL (.inr (.inr (.inr rfl))) hf, fun k hk => Nat.lt_of_lt_of_le (h.lt k hk) hf.size⟩
theorem RK.below {w w' : World} {nv sv ov fv av : Value} {d : DskD} {D : List Nat} (h : RK w nv sv ov fv av d D) (hf : Fr [] w w') : RK w' nv sv ov fv av d D := h.kept hf (by simp [clean]) (by simp)
theorem RK.slices {w : World} {nv sv ov fv av : Value} {d : DskD} {D : List Nat} (h : RK w nv sv ov fv av d D) : ∃ a0 c0 a1 c1 a2 c2 a3 c3 a4 c4, nv = .slice a0 d.dn.length c0 ∧ sv = .slice a1 d.ds.length c1 ∧ ov = .slice a2 d.ops.length c2 ∧ fv = .slice a3 d.files.length c3 ∧ av = .slice a4 d.armed.length c4 := by
  obtain ⟨a0, c0, a1, c1, a2, c2, h0, h1, h2⟩ := h.dir.slices
  obtain ⟨ps, e1, e2, -⟩ := h.files
  obtain ⟨a3, c3, h3, -, -⟩ := owns_slice e2
  obtain ⟨a4, c4, h4, -, -⟩ := owns_slice h.armed
  exact ⟨a0, c0, a1, c1, a2, c2, a3, c3, a4, c4, h0, h1, h2, h3, h4⟩
/-- The cells of one file. -/
theorem filesR.get {w : World} {a0 : Option Addr} {n cap : Nat} {fs : List FileD} {D : List Nat} (h : filesR w (.slice a0 n cap) fs D) (k : Nat) (hk : k < fs.length) : ∃ b off p, a0 = some ⟨b, off, none⟩ ∧ n = fs.length ∧ b < w.heap.size ∧
    w.cell? ⟨b, off + k * 2, none⟩ = some p.1 ∧ w.cell? ⟨b, off + k * 2 + 1, none⟩ = some p.2 ∧ fileR w p (fs[k]'hk) D := by
  obtain ⟨ps, h1, h2, h3⟩ := h
  have hel : elemsAt w (.slice a0 n cap) 2 (ps.map pairC) := elems_of_owns (xs := ps.map pairC) (by rw [List.length_map, h1]; exact h2) (fun x hx => by obtain ⟨f, _, rfl⟩ := List.mem_map.1 hx; rfl)
  rcases hel with ⟨_, _, _, _, e⟩ | ⟨b, off, cap', e, _, _, hb, hcell⟩
  · rw [List.map_eq_nil_iff] at e; subst e; simp at h1; omega
  · simp only [Value.slice.injEq, List.length_map] at e
    obtain ⟨rfl, hn, rfl⟩ := e
    have hk' : k < ps.length := by omega
    obtain ⟨-, h4⟩ := hcell k (by simpa using hk')
    rw [List.getElem_map] at h4
    exact ⟨b, off, ps[k]'hk', rfl, by omega, hb, by simpa using h4 0 _ rfl, h4 1 _ rfl, h3 k hk' hk⟩

theorem sizeK : (Tryz.prog.info? 34).map (·.size) = some 8 := by kernel_rfl
set_option maxRecDepth 100000 in
theorem kat_any (l : List Int) (i : Int) (v : Value) (w : World) (h : cellsAt w v (l.map (Value.int .i64))) (hi : 0 ≤ i) :
    Calls Tryz.prog 63 #[v, .int .i64 i] w fun e w' => e = .returned (.int .i64 (l.getD i.toNat 0)) ∧ w = w' := by
  obtain ⟨j, rfl⟩ : ∃ j : Nat, i = (j : Int) := ⟨i.toNat, by omega⟩
  obtain ⟨a0, c0, rfl, hle, hmx⟩ := h.form
  rw [List.length_map] at h hle ⊢
  rw [Int.toNat_natCast]
  have hd0 : decide ((j : Int) < 0) = false := decide_eq_false (by omega)
  by_cases hj : j < l.length
  · have hd : decide (l.length ≤ j) = false := decide_eq_false (by omega)
    obtain ⟨b, off, rfl, -, hc⟩ := h.get (i := j) (by simpa using hj)
    have hcj := hc j (by simpa using hj)
    rw [List.getElem_map] at hcj
    obtain ⟨x, hx⟩ : ∃ x, x = l[j]'hj := ⟨_, rfl⟩
    have hgd : l.getD j 0 = x := by rw [hx]; simp [List.getD, hj]
    rw [← hx] at hcj
    rw [hgd]
    clear h hc hx hgd
    go_enter Tryz.func63, Tryz.ntmps63
    go_wp2_with fail
    go_ret
    exact ⟨rfl, rfl⟩
  · have hd : decide (l.length ≤ j) = true := decide_eq_true (by omega)
    have hgd : l.getD j 0 = 0 := by simp [List.getD, hj]
    rw [hgd]
    clear h hgd
    go_enter Tryz.func63, Tryz.ntmps63
    go_wp2_with fail
    go_ret
    exact ⟨rfl, rfl⟩
end Go.Proofs.YtmchnaojlnjmjaaGreat
