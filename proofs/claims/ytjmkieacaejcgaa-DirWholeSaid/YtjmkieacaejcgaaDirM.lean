/- What the statements of layer 9 call beside dir: few; the acts; the document's Do where nothing happens. -/
import Derived.Test.YtjmkieacaejcgaaDirL
import Derived.Test.YtjmkieacaejcgaaDirG
namespace Go.Proofs.Ytjmkieacaejcgaa
open Go.RowKit Go.Maps

/-- An act. -/
structure ADat where
  kind : Int
  a : List UInt8
  b : List UInt8
  n : Int
  kv : Value
  keep : List Bool
def ADat.cells (d : ADat) : List Value := [.int .i64 d.kind, encStr d.a, encStr d.b, .int .i64 d.n, d.kv]
def ADat.val (d : ADat) : Value := .agg #[.int .i64 d.kind, encStr d.a, encStr d.b, .int .i64 d.n, d.kv]
def ADat.ok (d : ADat) (w : World) : Prop := cellsAt w d.kv (d.keep.map Value.bool) ∧ (Lit.int .i64 d.n).wf = true
theorem ADat.ok.below {d : ADat} {w w' : World} (h : d.ok w) (hf : Fr [] w w') : d.ok w' := ⟨h.1.below hf, h.2⟩
def fewA (d : ADat) : Prop := d.a.length ≤ 20 ∧ d.b.length ≤ 20 ∧ d.keep.length ≤ 40
instance (d : ADat) : Decidable (fewA d) := by unfold fewA; infer_instance
def fewB (l : List ADat) : Bool := decide (l.length ≤ 40 ∧ ∀ a ∈ l, fewA a)
/-- The cells of one act of a list. -/
theorem act_cells {w : World} {a0 : Option Addr} {n cap : Nat} {l : List ADat} (h : elemsAt w (.slice a0 n cap) 5 (l.map ADat.cells)) (k : Nat) (hk : k < l.length) : ∃ b off, a0 = some ⟨b, off, none⟩ ∧ n = l.length ∧ b < w.heap.size ∧
    w.cell? ⟨b, off + k * 5, none⟩ = some (.int .i64 (l[k]'hk).kind) ∧ w.cell? ⟨b, off + k * 5 + 1, none⟩ = some (encStr (l[k]'hk).a) ∧ w.cell? ⟨b, off + k * 5 + 2, none⟩ = some (encStr (l[k]'hk).b) ∧ w.cell? ⟨b, off + k * 5 + 3, none⟩ = some (.int .i64 (l[k]'hk).n) ∧ w.cell? ⟨b, off + k * 5 + 4, none⟩ = some (l[k]'hk).kv := by
  rcases h with ⟨_, _, _, _, e⟩ | ⟨b, off, cap', e, _, _, hb, hcell⟩
  · rw [List.map_eq_nil_iff] at e; subst e; simp at hk
  · simp only [Value.slice.injEq, List.length_map] at e
    obtain ⟨rfl, hn, rfl⟩ := e
    obtain ⟨-, h1⟩ := hcell k (by simpa using hk)
    rw [List.getElem_map] at h1
    exact ⟨b, off, rfl, hn, hb, by simpa using h1 0 _ rfl, h1 1 _ rfl, h1 2 _ rfl, h1 3 _ rfl, h1 4 _ rfl⟩
def FewRel (l : List ADat) (iv : Value) : Prop := ∃ k : Nat, k ≤ l.length ∧ iv = .int .i64 (k : Int) ∧ ∀ j, j < k → ∀ h : j < l.length, fewA (l[j]'h)
set_option maxRecDepth 100000 in
theorem few_any (l : List ADat) (lv : Value) (w : World) (h : elemsAt w lv 5 (l.map ADat.cells)) (hok : ∀ a ∈ l, a.ok w) :
    Calls Try.prog 5 #[lv] w fun e w' => e = .returned (.bool (fewB l)) ∧ w = w' := by
  obtain ⟨a0, c0, rfl, hle, hmx⟩ := h.form
  rw [List.length_map] at h hle ⊢
  have hm' : c0 ≤ 9223372036854775807 := by simpa [maxLen] using hmx
  have HE := Lib.hid h
  have HOK := Lib.hid hok
  clear h hok
  by_cases hl : l.length ≤ 40
  · have hd : decide (40 < (l.length : Int)) = false := decide_eq_false (by omega)
    go_enter Try.func5, Try.ntmps5
    go_wp2_with fail
    go_loop [3] (FewRel l) (fun i => l.length - (intOf i).toNat)
    case atStart => exact ⟨0, Nat.zero_le _, rfl, fun j hj => by omega⟩
    case round =>
      obtain ⟨k, hk, rfl, hall⟩ := hrel
      have HA := Lib.hid hall
      clear hall
      by_cases hkn : k < l.length
      · have hd2 : decide (k < l.length) = true := decide_eq_true hkn
        obtain ⟨b, off, rfl, -, -, hc0, hc1, hc2, hc3, hc4⟩ := act_cells HE.out k hkn
        have hak := HOK.out _ (List.getElem_mem hkn)
        obtain ⟨x1, y1, hkv, -, -⟩ := hak.1.form
        rw [List.length_map] at hkv
        rw [hkv] at hc4
        obtain ⟨A, hA⟩ : ∃ A, A = l[k] := ⟨_, rfl⟩
        rw [← hA] at hc0 hc1 hc2 hc3 hc4
        have HAA := Lib.hid hA
        clear hak hkv hA
        by_cases hb : A.a.length ≤ 20
        · have hd3 : decide (20 < (A.a.length : Int)) = false := decide_eq_false (by omega)
          by_cases hb2 : A.b.length ≤ 20
          · have hd4 : decide (20 < (A.b.length : Int)) = false := decide_eq_false (by omega)
            by_cases hcu : A.keep.length ≤ 40
            · have hd5 : decide (40 < (A.keep.length : Int)) = false := decide_eq_false (by omega)
              have hfa := Lib.hid (show fewA A from ⟨hb, hb2, hcu⟩)
              clear hb hb2 hcu
              go_wp2_with fail
              refine ⟨⟨k + 1, by omega, by go_num, fun j hj hjl => ?_⟩, by simp [intOf]; omega⟩
              by_cases e : j = k
              · subst e; rw [← HAA.out]; exact hfa.out
              · exact HA.out j (by omega) hjl
            · have hd5 : decide (40 < (A.keep.length : Int)) = true := decide_eq_true (by omega)
              have HF := Lib.hid (show fewB l = false from decide_eq_false (fun h => hcu ((h.2 A (HAA.out ▸ List.getElem_mem hkn)).2.2)))
              clear hb hb2 hcu
              go_wp2_with fail
              go_ret
              exact ⟨by rw [HF.out]; rfl, rfl⟩
          · have hd4 : decide (20 < (A.b.length : Int)) = true := decide_eq_true (by omega)
            have HF := Lib.hid (show fewB l = false from decide_eq_false (fun h => hb2 ((h.2 A (HAA.out ▸ List.getElem_mem hkn)).2.1)))
            clear hb hb2
            go_wp2_with fail
            go_ret
            exact ⟨by rw [HF.out]; rfl, rfl⟩
        · have hd3 : decide (20 < (A.a.length : Int)) = true := decide_eq_true (by omega)
          have HF := Lib.hid (show fewB l = false from decide_eq_false (fun h => hb ((h.2 A (HAA.out ▸ List.getElem_mem hkn)).1)))
          clear hb
          go_wp2_with fail
          go_ret
          exact ⟨by rw [HF.out]; rfl, rfl⟩
      · have hd2 : decide (k < l.length) = false := decide_eq_false hkn
        obtain rfl : k = l.length := by omega
        have HF := Lib.hid (show fewB l = true from decide_eq_true ⟨hl, fun a ha => by
          obtain ⟨i, hi, rfl⟩ := List.getElem_of_mem ha
          exact HA.out i hi hi⟩)
        go_wp2_with fail
        go_ret
        exact ⟨by rw [HF.out]; rfl, rfl⟩
  · have hd : decide (40 < (l.length : Int)) = true := decide_eq_true (by omega)
    have HF := Lib.hid (show fewB l = false from decide_eq_false (fun h => hl h.1))
    clear hl
    go_enter Try.func5, Try.ntmps5
    go_wp2_with fail
    go_ret
    exact ⟨by rw [HF.out]; rfl, rfl⟩

/-- The document's Do, where a name is moved to itself. -/
theorem rdo_same (a : List UInt8) (n : Int) (a0 a1 a2 : Option Addr) (n0 c0 n1 c1 n2 c2 : Nat) (w : World) :
    Calls Try.prog 20 #[.agg #[.slice a0 n0 c0, .slice a1 n1 c1, .slice a2 n2 c2], .agg #[.int .i64 2, encStr a, encStr a, .int .i64 n]] w fun e w' => e = .returned (.agg #[.slice a0 n0 c0, .slice a1 n1 c1, .slice a2 n2 c2]) ∧ Fr [] w w' := by
  obtain ⟨hfw, hB1, hB2, hB3, hsz⟩ := dirs_boxes w #[.slice a0 n0 c0, .slice a1 n1 c1, .slice a2 n2 c2] #[.int .i64 2, encStr a, encStr a, .int .i64 n] #[.slice none 0 0, .slice none 0 0, .slice none 0 0] 30 54
  obtain ⟨w0, hw0⟩ : ∃ w0, w0 = ((w.alloc (.cells #[.slice a0 n0 c0, .slice a1 n1 c1, .slice a2 n2 c2] 30)).alloc (.cells #[.int .i64 2, encStr a, encStr a, .int .i64 n] 54)).alloc (.cells #[.slice none 0 0, .slice none 0 0, .slice none 0 0] 30) := ⟨_, rfl⟩
  rw [← hw0] at hfw hB1 hB2 hB3 hsz
  have HFW := Lib.hid hfw
  have HB1 := Lib.hid hB1
  have HB2 := Lib.hid hB2
  have HB3 := Lib.hid hB3
  have HW0 := Lib.hid hw0
  clear hfw hB1 hB2 hB3 hsz hw0
  go_enter Try.func20, Try.ntmps20
  go_upto_region 1 with fail
  rw [← HW0.out]
  have hab : (a == a) = true := by simp
  obtain ⟨d0, d1, d2, d3⟩ := four_of_heap HB2.out
  obtain ⟨g0, g1, g2, -, -, -⟩ := three_of_heap HB1.out
  obtain ⟨x0, x1, x2, y0, y1, y2⟩ := three_of_heap HB3.out
  go_wp2_with fail
  have hh := heap_set3 (x := .slice a0 n0 c0) (y := .slice a1 n1 c1) (z := .slice a2 n2 c2) HB3.out
  refine bodyPost_ret (results_cell_row rfl _ _ (w.heap.size + 1 + 1) 30 #[.slice a0 n0 c0, .slice a1 n1 c1, .slice a2 n2 c2] (0, 0) _ rfl hh Try.underlying30 rfl sizeDir) rfl ⟨rfl, ?_⟩
  exact HFW.out.trans (Fr.set3 _ _ _ _ _) (by simp) (by simp; omega)

/-- What the document's directory reads as. -/
def RD (w : World) (nv sv ov : Value) (now safe : List Ent) (ops : List OpD) : Prop := namesR w 0 nv now ∧ namesR w 0 sv safe ∧ opsR w ov ops
theorem RD.below {w w' : World} {nv sv ov : Value} {now safe : List Ent} {ops : List OpD} (h : RD w nv sv ov now safe ops) (hf : Fr [] w w') : RD w' nv sv ov now safe ops := ⟨h.1.below hf, h.2.1.below hf, h.2.2.below hf⟩
theorem owns_keptD {w w' : World} {base sz n p m : Nat} {e : TypeId} {v : Value} {xs : List Value} {B : List Nat} {now safe : List Ent} {ops : List OpD} (h : w.ownsRow base e sz v n xs) (hD : isD w p B now safe ops m) (h1 : e ≠ 51) (h2 : e ≠ 64) (hf : Fr B w w') : w'.ownsRow base e sz v n xs := by
  refine owns_kept h hf (fun k hk => ?_)
  rcases h.2 with ⟨rfl, _⟩ | ⟨g, cap, cur, rfl, _, hg, _⟩
  · cases hk
  · obtain rfl : g = k := by simpa [Value.ownBlock] using hk
    exact hD.apart hg h1 h2
theorem RD.keptD {w w' : World} {p m : Nat} {nv sv ov : Value} {now safe n2 s2 : List Ent} {ops o2 : List OpD} {B : List Nat} (h : RD w nv sv ov now safe ops) (hD : isD w p B n2 s2 o2 m) (hf : Fr B w w') : RD w' nv sv ov now safe ops :=
  ⟨owns_keptD h.1 hD (by decide) (by decide) hf, owns_keptD h.2.1 hD (by decide) (by decide) hf, owns_keptD h.2.2 hD (by decide) (by decide) hf⟩
theorem RD.slices {w : World} {nv sv ov : Value} {now safe : List Ent} {ops : List OpD} (h : RD w nv sv ov now safe ops) : ∃ a0 c0 a1 c1 a2 c2, nv = .slice a0 now.length c0 ∧ sv = .slice a1 safe.length c1 ∧ ov = .slice a2 ops.length c2 := by
  obtain ⟨a0, c0, h0, -, -⟩ := owns_slice' h.1
  obtain ⟨a1, c1, h1, -, -⟩ := owns_slice' h.2.1
  obtain ⟨a2, c2, h2, -, -⟩ := owns_slice h.2.2
  exact ⟨a0, c0, a1, c1, a2, c2, h0, h1, h2⟩
end Go.Proofs.Ytjmkieacaejcgaa
