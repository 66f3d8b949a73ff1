/- The document's disk (layer 11): File, set, Used, Right. -/
import Derived.Test.YtmchnaojlnjmjaaGreatDskA
import Derived.LoopTactic
import Derived.BigQuiet
import Derived.Test.YtmchnaojlnjmjaaGreatUs
namespace Go.Proofs.YtmchnaojlnjmjaaGreat
open Go.RowKit Go.Maps

def noK (d : DskD) (m : List UInt8) : Int := (lookL d.dn m).getD (-1)
set_option maxRecDepth 100000 in
theorem kfile_any (nv sv ov fv av : Value) (d : DskD) (D : List Nat) (m : List UInt8) (w : World) (h : RK w nv sv ov fv av d D) :
    Calls Tryz.prog 58 #[kval nv sv ov fv av d, encStr m] w fun e w' => e = .returned (.int .i64 (noK d m)) ∧ Fr [] w w' := by
  have hfa := Fr.alloc w (.cells (kcells nv sv ov fv av d) 34)
  have hel : elemsAt (w.alloc (.cells (kcells nv sv ov fv av d) 34)) nv 2 (d.dn.map entC) := (elems_of_owns (xs := d.dn.map entC) (by rw [List.length_map]; exact h.dir.1) (fun x hx => by obtain ⟨f, _, rfl⟩ := List.mem_map.1 hx; rfl)).below hfa
  have hfi := rfind_any d.dn m nv _ hel
  obtain ⟨a0, c0, a1, c1, a2, c2, a3, c3, a4, c4, rfl, rfl, rfl, rfl, rfl⟩ := h.slices
  obtain ⟨y0, y1, y2, y3, y4, y5, y6, y7⟩ := eight_of_heap (heap_alloc_new w (.cells (kcells (.slice a0 d.dn.length c0) (.slice a1 d.ds.length c1) (.slice a2 d.ops.length c2) (.slice a3 d.files.length c3) (.slice a4 d.armed.length c4) d) 34))
  have HFA := Lib.hid hfa
  unfold kcells at hfi hel y0 y1 y2 y3 y4 y5 y6 y7 HFA
  unfold kval
  cases hl : lookL d.dn m with
  | none =>
    have hno : noK d m = -1 := by unfold noK; rw [hl]; rfl
    rw [hno]
    rw [findI_none hl] at hfi
    have HFI := Lib.hid hfi
    clear h hfa hel hfi hl hno
    go_enter Tryz.func58, Tryz.ntmps58
    go_wp2_with (go_at_call 12; refine HFI.out.mono ?_; rintro e w1 ⟨rfl, rfl⟩)
    go_ret
    exact ⟨rfl, HFA.out⟩
  | some n =>
    have hno : noK d m = n := by unfold noK; rw [hl]; rfl
    rw [hno]
    obtain ⟨i, hi, hil, hin⟩ := findI_of_look hl
    rw [hi] at hfi
    obtain ⟨b, off, rfl, -, -, -, hc⟩ := duo_cells hel i hil
    rw [hin] at hc
    have hi0 : decide ((i : Int) < 0) = false := decide_eq_false (by omega)
    have HFI := Lib.hid hfi
    have hil' : i < d.dn.length := hil
    clear h hfa hel hfi hl hno hi hin
    go_enter Tryz.func58, Tryz.ntmps58
    go_wp2_with (go_at_call 12; refine HFI.out.mono ?_; rintro e w1 ⟨rfl, rfl⟩)
    go_ret
    exact ⟨rfl, HFA.out⟩

/-- Rows of pairs. -/
def pcs (ps : List (Value × Value)) : List Value := (ps.map pairC).flatten
theorem pcs_cons (p : Value × Value) (r : List (Value × Value)) : pcs (p :: r) = p.1 :: p.2 :: pcs r := rfl
theorem pcs_append (a b : List (Value × Value)) : pcs (a ++ b) = pcs a ++ pcs b := by simp [pcs]
theorem pcs_length (l : List (Value × Value)) : (pcs l).length = l.length * 2 := by
  induction l with
  | nil => rfl
  | cons f r ih => rw [pcs_cons]; simp [ih]; omega
theorem pcs_get (tail : List Value) : ∀ (l : List (Value × Value)) (k : Nat) (hk : k < l.length), (pcs l ++ tail)[k * 2]? = some (l[k]'hk).1 ∧ (pcs l ++ tail)[k * 2 + 1]? = some (l[k]'hk).2
  | [], k, hk => by simp at hk
  | f :: r, 0, _ => by simp [pcs_cons]
  | f :: r, k + 1, hk => by
    rw [pcs_cons, show (k + 1) * 2 = k * 2 + 1 + 1 from by omega]
    have := pcs_get tail r k (by simpa using hk)
    simpa using this
theorem pcs_set (tail : List Value) (x y : Value) : ∀ (l : List (Value × Value)) (k : Nat), k < l.length → ((pcs l ++ tail).set (k * 2) x).set (k * 2 + 1) y = pcs (l.set k (x, y)) ++ tail
  | [], k, hk => by simp at hk
  | f :: r, 0, _ => by simp [pcs_cons]
  | f :: r, k + 1, hk => by
    rw [pcs_cons, show (k + 1) * 2 = k * 2 + 1 + 1 from by omega, List.set_cons_succ, pcs_cons]
    have := pcs_set tail x y r k (by simpa using hk)
    simpa using this
theorem owns_set2 {w : World} {base g n c : Nat} {e : TypeId} {ps : List (Value × Value)} (h : w.ownsRow base e 2 (.slice (some ⟨g, 0, none⟩) n c) n (pcs ps)) (hn : ps.length = n) (k : Nat) (hk : k < ps.length) :
    w.cell? ⟨g, k * 2, none⟩ = some (ps[k]'hk).1 ∧ w.cell? ⟨g, k * 2 + 1, none⟩ = some (ps[k]'hk).2 ∧ w.frozen? ⟨g, k * 2, none⟩ = false ∧ w.frozen? ⟨g, k * 2 + 1, none⟩ = false ∧
      ∀ x y, ((w.setCell ⟨g, k * 2, none⟩ x).setCell ⟨g, k * 2 + 1, none⟩ y).ownsRow base e 2 (.slice (some ⟨g, 0, none⟩) n c) n (pcs (ps.set k (x, y))) := by
  rcases h.2 with ⟨e1, _⟩ | ⟨g', cap', cur, e1, hb, hg, h1, h2, hs, ht⟩
  · cases e1
  · simp only [Value.slice.injEq, Option.some.injEq, Addr.mk.injEq] at e1
    obtain ⟨⟨rfl, -⟩, -, rfl⟩ := e1
    have hx : pcs ps ++ cur.toList.drop (n * 2) = cur.toList := by rw [← ht, List.take_append_drop]
    obtain ⟨g1, g2⟩ := pcs_get (cur.toList.drop (n * 2)) ps k hk
    rw [hx] at g1 g2
    refine ⟨by rw [cell_of_heap hg]; simpa using g1, by rw [cell_of_heap hg]; simpa using g2, free_of_heap hg _, free_of_heap hg _, fun x y => ?_⟩
    have q1 := heap_setCell_same (i := k * 2) hg x
    have q2 := heap_setCell_same (i := k * 2 + 1) q1 y
    refine ⟨by rw [pcs_length, List.length_set, hn], .inr ⟨g, c, _, rfl, hb, q2, h1, h2, by simpa using hs, ?_⟩⟩
    have : ((cur.setIfInBounds (k * 2) x).setIfInBounds (k * 2 + 1) y).toList = pcs (ps.set k (x, y)) ++ cur.toList.drop (n * 2) := by
      rw [← pcs_set _ x y ps k hk, hx]; simp
    rw [this, List.take_append_of_le_length (by rw [pcs_length, List.length_set]; omega), List.take_of_length_le (by rw [pcs_length, List.length_set]; omega)]

theorem owns_some {w : World} {base sz n : Nat} {e : TypeId} {v : Value} {xs : List Value} (h : w.ownsRow base e sz v n xs) (hn : 0 < n) : ∃ g c, v = .slice (some ⟨g, 0, none⟩) n c ∧ n ≤ c ∧ c ≤ maxLen ∧ base ≤ g ∧ g < w.heap.size := by
  rcases h.2 with ⟨rfl, h0⟩ | ⟨g, cap, cur, rfl, hb, hg, h1, h2, _⟩
  · omega
  · exact ⟨g, cap, rfl, h1, h2, hb, (Array.getElem?_eq_some_iff.1 hg).1⟩
theorem owns_empty (w : World) (base : Nat) (e : TypeId) (sz : Nat) (hb : base ≤ w.heap.size) : (w.alloc (.cells #[] e)).ownsRow base e sz (.slice (some ⟨w.heap.size, 0, none⟩) 0 0) 0 [] :=
  ⟨by simp, .inr ⟨_, 0, #[], rfl, hb, heap_alloc_new _ _, Nat.le_refl _, by simp, by simp, by simp⟩⟩
/-- What a row hands to an append. -/
theorem owns_src {w : World} {base sz n : Nat} {e : TypeId} {v : Value} {xs : List Value} (h : w.ownsRow base e sz v n xs) : (v = .slice none 0 0 ∧ n = 0) ∨ ∃ ad c, v = .slice (some ad) n c ∧ ∀ j u, xs[j]? = some u → w.cell? (ad.add j) = some u := by
  have hc := fun g hg => h.cells (g := g) hg
  rcases h.2 with ⟨rfl, h0⟩ | ⟨g, cap, cur, rfl, hb, hg, h1, h2, _⟩
  · exact .inl ⟨rfl, h0⟩
  · exact .inr ⟨_, cap, rfl, hc g rfl⟩
theorem infoFi : (Tryz.prog.info? 85).map (fun i => (i.zero, i.size, i.bytes)) = some (some (.agg #[.slice none 0 0, .slice none 0 0]), 2, 48) := by kernel_rfl
def Setd (fs : List FileD) (D : List Nat) (w : World) (e : Ending) (w' : World) : Prop := ∃ v, e = .returned v ∧ filesR w' v fs D ∧ Fr [] w w'
theorem one_pairs {ps : List (Value × Value)} {w : World} {fs : List FileD} {D : List Nat} (h1 : ps.length = fs.length) (h3 : ∀ i (h : i < ps.length) (h' : i < fs.length), fileR w (ps[i]'h) (fs[i]'h') D) : ∀ u ∈ pcs ps, u.oneCell' = true := by
  intro u hu
  obtain ⟨l, hl, hu⟩ := List.mem_flatten.1 hu
  obtain ⟨p, hp, rfl⟩ := List.mem_map.1 hl
  obtain ⟨i, hi, rfl⟩ := List.getElem_of_mem hp
  have := h3 i hi (by omega)
  obtain ⟨_, _, e1, -, -⟩ := this.1.form
  obtain ⟨_, _, e2, -, -⟩ := this.2.1.form
  simp only [pairC, List.mem_cons, List.not_mem_nil, or_false] at hu
  rcases hu with rfl | rfl
  · rw [e1]; rfl
  · rw [e2]; rfl
set_option maxRecDepth 100000 in
theorem kset_any (fs : List FileD) (D : List Nat) (fv : Value) (i : Nat) (x y : Value) (f : FileD) (w : World) (h : filesR w fv fs D) (hi : i < fs.length) (hl : fs.length ≤ 1000) (hf : fileR w (x, y) f D) :
    Calls Tryz.prog 60 #[fv, .int .i64 (i : Int), .agg #[x, y]] w (Setd (fs.set i f) D w) := by
  obtain ⟨ti, hti, hz0, hz1, hz2⟩ := info_parts infoFi
  obtain ⟨ax, cx, hx, hlx, hmx⟩ := hf.1.form
  obtain ⟨ay, cy, hy, hly, hmy⟩ := hf.2.1.form
  simp only at hx hy
  subst hx
  subst hy
  obtain ⟨ps, h1, h2, h3⟩ := h
  obtain ⟨a0, c0, rfl, hc0, hm0⟩ := owns_slice h2
  have hone := one_pairs h1 h3
  have H1 := Lib.hid h1
  have H2 := Lib.hid h2
  have H3 := Lib.hid h3
  have HF := Lib.hid hf
  have HO := Lib.hid hone
  have hfa := Fr.alloc w (.cells #[.slice ax f.now.length cx, .slice ay f.safe.length cy] 85)
  have hba := heap_alloc_new w (.cells #[.slice ax f.now.length cx, .slice ay f.safe.length cy] 85)
  obtain ⟨w1, hw1⟩ : ∃ w1, w1 = w.alloc (.cells #[.slice ax f.now.length cx, .slice ay f.safe.length cy] 85) := ⟨_, rfl⟩
  have hsz : w1.heap.size = w.heap.size + 1 := by rw [hw1]; simp
  rw [← hw1] at hfa hba
  have hfb := Fr.alloc w1 (.cells #[] 85)
  have hem := owns_empty w1 w1.heap.size 85 2 (Nat.le_refl _)
  have hsr := owns_src (owns_kept (owns_kept h2 hfa (by simp)) hfb (by simp))
  have HFA := Lib.hid (hfa.trans hfb (by simp) (n := []) (by simp))
  have HB1 := Lib.hid (hfb.heap hba (by simp))
  have hszb : (w1.alloc (.cells #[] 85)).heap.size = w.heap.size + 2 := by simp [hsz]
  have HSB := Lib.hid hszb
  rw [hsz] at hem
  rw [hw1] at hem hsr HFA HB1 HSB
  have HEM := Lib.hid hem
  have HSR := Lib.hid hsr
  have hpl : (pcs ps).length = fs.length * 2 := by rw [pcs_length, h1]
  have HPL := Lib.hid hpl
  have hi' : i < ps.length := by omega
  clear h1 h2 h3 hf hone hfa hba hfb hem hsr hw1 hsz hszb hpl
  go_enter Tryz.func60, Tryz.ntmps60
  go_wp2_with (at_builtin; refine wpL_appendE rfl (.tmp 8) (.tmp 9) 31 rfl (w.heap.size + 1) 85 ti _ 2 48 Tryz.underlying31 hti hz0 hz1 hz2 (by rfl) (by decide) (.slice (some ⟨w.heap.size + 1, 0, none⟩) 0 0) 0 [] rfl HEM.out _ fs.length (pcs ps) rfl HPL.out HO.out HSR.out (by omega) (by simp [maxLen]; omega) (by rw [HSB.out]; omega) ?_; intro v5 w5 hown5 hf5; rw [Nat.zero_add, List.nil_append] at hown5; obtain ⟨g5, c5, rfl, hc5, hm5, hg5, hg5'⟩ := owns_some hown5 (by omega); obtain ⟨e0, e1, e2, e3, hset⟩ := owns_set2 hown5 H1.out i hi'; obtain ⟨e4, e5⟩ := two_of_heap (hf5.heap HB1.out (by simp [Value.ownBlock])); have HST := Lib.hid (hset (.slice ax f.now.length cx) (.slice ay f.safe.length cy)); have HF5 := Lib.hid hf5; clear hset hown5 hf5)
  go_ret
  have hfr : Fr [] w ((w5.setCell ⟨g5, i * 2, none⟩ (.slice ax f.now.length cx)).setCell ⟨g5, i * 2 + 1, none⟩ (.slice ay f.safe.length cy)) := by
    have h5 : Fr [] w w5 := HFA.out.trans HF5.out (by simp) (by simp [Value.ownBlock])
    exact h5.trans ((Fr.setCell w5 ⟨g5, i * 2, none⟩ _).trans (Fr.setCell _ ⟨g5, i * 2 + 1, none⟩ _) (n := [g5]) (by simp) (by simp)) (by simp) (by simp; omega)
  refine ⟨_, rfl, ⟨ps.set i (.slice ax f.now.length cx, .slice ay f.safe.length cy), by rw [List.length_set, List.length_set, H1.out], ?_, ?_⟩, hfr⟩
  · rw [List.length_set]
    exact owns_base HST.out (fun _ _ => Nat.zero_le _)
  · intro j hj hj'
    by_cases e : j = i
    · subst e
      rw [List.getElem_set_self, List.getElem_set_self]
      exact HF.out.kept hfr (by simp)
    · rw [List.getElem_set_ne (Ne.symm e), List.getElem_set_ne (Ne.symm e)]
      exact (H3.out j (by simpa using hj) (by simpa using hj')).kept hfr (by simp)
/-- Used's sum so far. -/
def UsedRel (w : World) (d : DskD) (nv iv : Value) (wx : World) : Prop := ∃ k : Nat, k ≤ d.dn.length ∧ nv = .int .i64 ((usedTo d k : Nat) : Int) ∧ iv = .int .i64 (k : Int) ∧ Fr [] w wx
set_option maxRecDepth 100000 in
theorem kused_any (nv sv ov fv av : Value) (d : DskD) (D : List Nat) (w : World) (h : RK w nv sv ov fv av d D) (hn : ∀ e ∈ d.dn, 0 ≤ e.2 ∧ e.2.toNat < d.files.length) (hdl : d.dn.length ≤ 1000) (hM : ∀ f ∈ d.files, f.now.length ≤ 1000000) :
    Calls Tryz.prog 39 #[kval nv sv ov fv av d] w fun e w' => e = .returned (.int .i64 ((usedK d : Nat) : Int)) ∧ Fr [] w w' := by
  have hfa := Fr.alloc w (.cells (kcells nv sv ov fv av d) 34)
  have hba := heap_alloc_new w (.cells (kcells nv sv ov fv av d) 34)
  have hel : elemsAt w nv 2 (d.dn.map entC) := elems_of_owns (xs := d.dn.map entC) (by rw [List.length_map]; exact h.dir.1) (fun x hx => by obtain ⟨f, _, rfl⟩ := List.mem_map.1 hx; rfl)
  have HEL := Lib.hid hel
  have HFI := Lib.hid h.files
  have HUL := Lib.hid (usedTo_le d 1000000 hM)
  obtain ⟨a0, c0, a1, c1, a2, c2, a3, c3, a4, c4, rfl, rfl, rfl, rfl, rfl⟩ := h.slices
  have HFA := Lib.hid hfa
  have HBA := Lib.hid hba
  have HN := Lib.hid hn
  unfold kcells at HFA HBA
  unfold kval
  have y := eight_of_heap HBA.out
  obtain ⟨y0, y1, y2, y3, y4, y5, y6, y7⟩ := y
  rw [← usedTo_all]
  clear h hfa hba hel hn hM
  go_enter Tryz.func39, Tryz.ntmps39
  go_wp2_with fail
  obtain ⟨w1, hw1⟩ : ∃ w1, w1 = w.alloc (.cells #[.slice a0 d.dn.length c0, .slice a1 d.ds.length c1, .slice a2 d.ops.length c2, .slice a3 d.files.length c3, .int .i64 d.room, .int .i64 d.steps, .bool d.down, .slice a4 d.armed.length c4] 34) := ⟨_, rfl⟩
  obtain ⟨q, hq⟩ : ∃ q, q = w.heap.size := ⟨_, rfl⟩
  rw [← hw1] at HFA HBA y0 y1 y2 y3 y4 y5 y6 y7 ⊢
  rw [← hq] at HBA y0 y1 y2 y3 y4 y5 y6 y7 ⊢
  clear hw1 hq y0 y1 y2 y3 y4 y5 y6 y7
  go_loopw [3, 4] (UsedRel w1 d) (fun _ iv _ => d.dn.length - (intOf iv).toNat)
  case atStart => exact ⟨0, Nat.zero_le _, rfl, rfl, Fr.refl _ _⟩
  case round =>
    obtain ⟨k, hk, rfl, rfl, hf⟩ := hrel
    obtain ⟨y0, y1, y2, y3, y4, y5, y6, y7⟩ := eight_of_heap (hf.heap HBA.out (by simp))
    by_cases hkn : k < d.dn.length
    · have hd2 : decide (k < d.dn.length) = true := decide_eq_true hkn
      have hfw : Fr [] w wr := HFA.out.trans hf (by simp) (by simp)
      obtain ⟨b, off, rfl, -, -, -, hc⟩ := duo_cells (HEL.out.below hfw) k hkn
      have hun := usedTo_next d k hkn
      have hul := HUL.out k (by omega)
      have hen := HN.out _ (List.getElem_mem hkn)
      obtain ⟨e, he⟩ : ∃ e, e = d.dn[k]'hkn := ⟨_, rfl⟩
      rw [← he] at hc hun hen
      obtain ⟨i, hi⟩ : ∃ i : Nat, e.2 = (i : Int) := ⟨e.2.toNat, by omega⟩
      have hil : i < d.files.length := by rw [hi] at hen; simpa using hen.2
      have hfk : fileK d e.2 = d.files[i]'hil := by unfold fileK; rw [hi, Int.toNat_natCast]; simp only [List.getD, List.getElem?_eq_getElem hil, Option.getD_some]
      rw [hfk] at hun
      rw [hi] at hc
      obtain ⟨b2, off2, p, rfl, -, -, hp0, hp1, hpr⟩ := (HFI.out.below hfw).get i hil
      obtain ⟨f, hfe⟩ : ∃ f, f = d.files[i]'hil := ⟨_, rfl⟩
      rw [← hfe] at hun hpr
      obtain ⟨p0, p1⟩ := p
      obtain ⟨ax, cx, hax, hlx, hmx⟩ := hpr.1.form
      simp only at hax hp0 hp1
      subst hax
      have hfl : f.now.length ≤ 140737488355328 := by have := hpr.1.len; have h2 := HUL.out (k + 1) (by omega); rw [hun] at h2; omega
      have HUN := Lib.hid hun
      have HF := Lib.hid hf
      clear hun hf hfw hpr hfe hfk hen he hi hp1 y1 y2 y4 y5 y6 y7
      obtain ⟨u, hu⟩ : ∃ u, u = usedTo d k := ⟨_, rfl⟩
      rw [← hu] at hul HUN ⊢
      clear hu
      go_wp2_with fail
      go_quiet (fail)
      go_wp2_with fail
      refine ⟨⟨k + 1, by omega, by rw [HUN.out]; rfl, by go_num, HF.out.andDrewN _⟩, by simp [intOf]; omega⟩
    · have hd2 : decide (k < d.dn.length) = false := decide_eq_false hkn
      obtain rfl : k = d.dn.length := by omega
      have HF := Lib.hid hf
      clear hf
      go_wp2_with fail
      go_ret
      exact ⟨rfl, HFA.out.trans HF.out (by simp) (by simp)⟩
end Go.Proofs.YtmchnaojlnjmjaaGreat
