/- The document's Crash (layer 9). -/
import Derived.Test.YtmchnaojlnjmjaaGreatDirJ
import Derived.Test.YtmchnaojlnjmjaaGreatDirF
namespace Go.Proofs.YtmchnaojlnjmjaaGreat
open Go.RowKit Go.Maps

theorem heap_set3 {w : World} {p : Nat} {a b c x y z : Value} {t : TypeId} (h : w.heap[p]? = some (.cells #[a, b, c] t (0, 0))) :
    (((w.setCell ⟨p, 0, none⟩ x).setCell ⟨p, 1, none⟩ y).setCell ⟨p, 2, none⟩ z).heap[p]? = some (.cells #[x, y, z] t (0, 0)) := by
  rw [heap_setCell_same (heap_setCell_same (heap_setCell_same h _) _)]
  rfl
theorem Fr.set3 (w : World) (p : Nat) (x y z : Value) : Fr [p] w (((w.setCell ⟨p, 0, none⟩ x).setCell ⟨p, 1, none⟩ y).setCell ⟨p, 2, none⟩ z) :=
  ((Fr.set0 w p 0 x).trans (Fr.set0 _ p 1 y) (by simp) (n := [p]) (by simp)).trans (Fr.set0 _ p 2 z) (by simp) (by simp)
theorem owns_ne {w : World} {base sz n g : Nat} {e t : TypeId} {v : Value} {xs : List Value} {cs : Array Value} {fr : Nat × Nat} (h : w.ownsRow base e sz v n xs) (hg : w.heap[g]? = some (.cells cs t fr)) (hne : e ≠ t) : ∀ k, v.ownBlock = some k → k ≠ g := by
  intro k hk
  rcases h.2 with ⟨rfl, _⟩ | ⟨g', cap, cur, rfl, _, hh, _⟩
  · cases hk
  · obtain rfl : g' = k := by simpa [Value.ownBlock] using hk
    rintro rfl
    rw [hg] at hh
    simp only [Option.some.injEq, Obj.cells.injEq] at hh
    exact hne hh.2.1.symm
theorem sizeDir : (Tryz.prog.info? 30).map (·.size) = some 3 := by kernel_rfl

/-- What was done, as the document has it. -/
def opsR (w : World) (v : Value) (ops : List OpD) : Prop := w.ownsRow 0 105 4 v ops.length (ops.map OpD.pcells).flatten
theorem opsR.elems {w : World} {v : Value} {l : List OpD} (h : opsR w v l) : elemsAt w v 4 (l.map OpD.pcells) := elems_of_owns (by rw [List.length_map]; exact h) (by intro x hx; obtain ⟨o, _, rfl⟩ := List.mem_map.1 hx; rfl)
theorem opsR.below {w w' : World} {v : Value} {l : List OpD} (h : opsR w v l) (hf : Fr [] w w') : opsR w' v l := owns_kept h hf (by simp)
theorem fold_ok : ∀ (r : List OpD) (l : List Ent), okNames l → okOps r → okNames (r.foldl applyL l)
  | [], _, h, _ => h
  | o :: r, l, h, hr => fold_ok r (applyL l o) (applyL_ok h (hr o (by simp)).1 (hr o (by simp)).2) (fun p hp => hr p (by simp [hp]))
theorem fold_le : ∀ (r : List OpD) (l : List Ent), (r.foldl applyL l).length ≤ l.length + r.length
  | [], _ => Nat.le_refl _
  | o :: r, l => by
    have := fold_le r (applyL l o)
    have := applyL_le l o
    simp only [List.foldl_cons, List.length_cons]; omega
/-- The document's directory, as a value. -/
def dirV (nv sv ov : Value) : Value := .agg #[nv, sv, ov]
def Crashed (l : List Ent) (w : World) (e : Ending) (w' : World) : Prop := ∃ v, e = .returned (.agg #[v, v, .slice none 0 0]) ∧ namesR w' 0 v l ∧ Fr [] w w'
def CrRel (w1 : World) (safe : List Ent) (ops : List OpD) (m : Nat) (v i : Value) (wx : World) : Prop := ∃ k : Nat, k ≤ m ∧ i = .int .i64 (k : Int) ∧ namesR wx 0 v ((ops.take k).foldl applyL safe) ∧ Fr [] w1 wx
set_option maxRecDepth 100000 in
theorem rcrash_any (now safe : List Ent) (ops : List OpD) (ks : List Bool) (nv sv ov kv : Value) (w : World) (hN : namesR w 0 nv now) (hS : namesR w 0 sv safe) (hO : opsR w ov ops) (hk : cellsAt w kv (ks.map Value.bool))
    (hsl : safe.length ≤ 1000) (hol : ops.length ≤ 1000) (hkl : ks.length ≤ 1000000) (hsok : okNames safe) (hook : okOps ops) :
    Calls Tryz.prog 61 #[.agg #[nv, sv, ov], kv] w (Crashed (crashL safe ops ks) w) := by
  obtain ⟨a0, c0, rfl, -, -⟩ := owns_slice' hN
  obtain ⟨a1, c1, rfl, -, -⟩ := owns_slice' hS
  have hoe := hO.elems
  obtain ⟨a2, c2, rfl, ho2, ho3⟩ := owns_slice hO
  have ho3' : c2 ≤ 9223372036854775807 := by simpa [maxLen] using ho3
  obtain ⟨a3, c3, rfl, hk2, hk3⟩ := hk.form
  rw [List.length_map] at hk hk2
  have hk3' : c3 ≤ 9223372036854775807 := by simpa [maxLen] using hk3
  rw [List.length_map]
  have hle := keptL_le ks
  have HT := Lib.hid (keptL_true ks)
  have HFa := Lib.hid (keptL_false ks)
  have HCT := Lib.hid (crash_take safe ops ks)
  obtain ⟨q, hq⟩ : ∃ q, q = keptL ks := ⟨_, rfl⟩
  rw [← hq] at hle HT HFa HCT
  obtain ⟨C, hC⟩ : ∃ C, C = crashL safe ops ks := ⟨_, rfl⟩
  rw [← hC] at HCT ⊢
  have HE := Lib.hid hoe
  have HK := Lib.hid hk
  have HSR := Lib.hid hS
  have HSOK := Lib.hid hsok
  have HOOK := Lib.hid hook
  obtain ⟨n, hn⟩ : ∃ n, n = ops.length := ⟨_, rfl⟩
  obtain ⟨t, ht⟩ : ∃ t, t = ks.length := ⟨_, rfl⟩
  rw [← hn] at HE ho2 hol ⊢
  rw [← ht] at HK hk2 hkl hle HFa ⊢
  have HN := Lib.hid hn
  have HTL := Lib.hid ht
  have hb1 := heap_alloc_new w (.cells #[.slice a0 now.length c0, .slice a1 safe.length c1, .slice a2 n c2] 30)
  have hf1 := Fr.alloc w (.cells #[.slice a0 now.length c0, .slice a1 safe.length c1, .slice a2 n c2] 30)
  clear hN hS hO hk hoe hq hC hsok hook hn ht ho3 hk3
  go_enter Tryz.func61, Tryz.ntmps61
  go_wp2_with fail
  obtain ⟨w1, hw1⟩ : ∃ w1, w1 = w.alloc (.cells #[.slice a0 now.length c0, .slice a1 safe.length c1, .slice a2 n c2] 30) := ⟨_, rfl⟩
  rw [← hw1] at hb1 hf1 ⊢
  obtain ⟨p0, hp0⟩ : ∃ p0, p0 = w.heap.size := ⟨_, rfl⟩
  have hpw : w.heap.size ≤ p0 := by omega
  rw [← hp0] at hb1 ⊢
  have hs1 : w1.heap.size = p0 + 1 := by rw [hw1, hp0]; exact World.size_alloc _ _
  have hb2 := heap_alloc_new w1 (.cells #[.slice none 0 0, .slice none 0 0, .slice none 0 0] 30)
  have hf2 := Fr.alloc w1 (.cells #[.slice none 0 0, .slice none 0 0, .slice none 0 0] 30)
  obtain ⟨w2, hw2⟩ : ∃ w2, w2 = w1.alloc (.cells #[.slice none 0 0, .slice none 0 0, .slice none 0 0] 30) := ⟨_, rfl⟩
  rw [← hw2] at hb2 hf2 ⊢
  rw [hs1] at hb2
  have hf12 : Fr [] w w2 := hf1.trans hf2 (by simp) (by simp)
  have hb12 := hf2.heap hb1 (by simp)
  have hstart : CrRel w2 safe ops (min q n) (.slice a1 safe.length c1) (.int .i64 0) w2 := ⟨0, Nat.zero_le _, rfl, HSR.out.below hf12, Fr.refl _ _⟩
  have HF := Lib.hid hf12
  have HB := Lib.hid hb12
  have HB2 := Lib.hid hb2
  clear hw1 hp0 hs1 hw2 hb1 hb2 hf1 hf2 hf12 hb12
  go_loopw [5, 6] (CrRel w2 safe ops (min q n)) (fun _ i _ => n - (intOf i).toNat)
  case atStart => exact hstart
  case round =>
    clear hstart
    obtain ⟨k, hkm, rfl, hrow, hf⟩ := hrel
    have hkq : k ≤ q := by omega
    have hkn : k ≤ n := by omega
    obtain ⟨c0', c1', c2', -, -, -⟩ := three_of_heap (hf.heap HB.out (by simp))
    have hlen := fold_le (ops.take k) safe
    have hlen2 : ((ops.take k).foldl applyL safe).length ≤ 2000 := by rw [List.length_take] at hlen; omega
    have hnok : okNames ((ops.take k).foldl applyL safe) := fold_ok _ _ HSOK.out (fun o ho => HOOK.out o (List.mem_of_mem_take ho))
    by_cases h1 : k < n
    · have hd1 : decide (k < n) = true := decide_eq_true h1
      by_cases h2 : k < t
      · have hd2 : decide (k < t) = true := decide_eq_true h2
        obtain ⟨b3, off3, rfl, -, hc3⟩ := (HK.out.below (HF.out.trans hf (by simp) (by simp))).get (i := k) (by simpa [← HTL.out] using h2)
        have hck := hc3 k (by simpa [← HTL.out] using h2)
        by_cases h3 : k < q
        · have hbk : (ks.map Value.bool)[k]'(by simpa [← HTL.out] using h2) = .bool true := by
            have := HT.out k h3
            rw [List.getElem_map]
            rw [List.getElem?_eq_getElem (by rw [← HTL.out]; exact h2)] at this
            rw [Option.some.inj this]
          rw [hbk] at hck
          have hko : k < ops.length := by have := HN.out; omega
          obtain ⟨b2, off2, rfl, -, o0, o1, o2, o3⟩ := quad_cells (HE.out.below (HF.out.trans hf (by simp) (by simp))) k hko (rfl : OpD.pcells (ops[k]'hko) = [_, _, _, _])
          have htk : (ops.take (k + 1)).foldl applyL safe = applyL ((ops.take k).foldl applyL safe) (ops[k]'hko) := by
            rw [List.take_succ_eq_append_getElem hko, List.foldl_append]; rfl
          have hoo := HOOK.out _ (List.getElem_mem hko)
          obtain ⟨o, ho⟩ : ∃ o, o = ops[k]'hko := ⟨_, rfl⟩
          rw [← ho] at o0 o1 o2 o3 htk hoo
          have HAP := Lib.hid (rapply_any _ o _ wr hrow (by omega) hnok hoo.1 hoo.2)
          unfold OpD.pval at HAP
          have HTK := Lib.hid htk
          have HFr := Lib.hid hf
          clear hc3 hbk hrow hf hlen hnok htk ho hoo
          go_wp2_with (go_at_call 85; refine HAP.out.mono ?_; rintro e w3 ⟨v3, rfl, hn3, hf3⟩)
          go_roundw
          case rel => exact ⟨k + 1, by omega, by simp, by rw [HTK.out]; exact hn3, HFr.out.trans hf3 (by simp) (by simp)⟩
          case measure => simp [intOf]; omega
        · obtain rfl : k = q := by omega
          have hbk : (ks.map Value.bool)[k]'(by simpa [← HTL.out] using h2) = .bool false := by
            have := HFa.out h2
            rw [List.getElem_map]
            rw [List.getElem?_eq_getElem (by rw [← HTL.out]; exact h2)] at this
            rw [Option.some.inj this]
          rw [hbk] at hck
          have HC2 := Lib.hid (show (ops.take k).foldl applyL safe = C from HCT.out.symm)
          have hrow2 := hrow
          rw [HC2.out] at hrow2
          obtain ⟨x0, x1, rfl, -, -⟩ := owns_slice' hrow2
          have HR2 := Lib.hid hrow2
          have hh := heap_set3 (x := .slice x0 C.length x1) (y := .slice x0 C.length x1) (z := .slice none 0 0) (hf.heap HB2.out (by simp))
          have HH := Lib.hid hh
          have hne := owns_ne hrow2 (hf.heap HB2.out (by simp)) (by decide)
          have HNE := Lib.hid hne
          obtain ⟨g0, g1, g2, r0, r1, r2⟩ := three_of_heap (hf.heap HB2.out (by simp))
          have HFr := Lib.hid hf
          clear hc3 hbk hrow hrow2 hh hf hlen hnok hlen2 hne
          go_wp2_with fail
          refine bodyPost_ret (results_cell_row rfl _ _ (p0 + 1) 30 #[.slice x0 C.length x1, .slice x0 C.length x1, .slice none 0 0] (0, 0) _ rfl HH.out Tryz.underlying30 rfl sizeDir) rfl ⟨_, rfl, ?_, ?_⟩
          · exact owns_kept HR2.out (Fr.set3 _ _ _ _ _) (fun k hk => by simpa using HNE.out k hk)
          · exact (HF.out.trans HFr.out (by simp) (n := []) (by simp)).trans (Fr.set3 _ _ _ _ _) (by simp) (by simp; omega)
      · have hd2 : decide (k < t) = false := decide_eq_false h2
        have HC2 := Lib.hid (show (ops.take k).foldl applyL safe = C by rw [HCT.out, show k = q by omega])
        have hrow2 := hrow
        rw [HC2.out] at hrow2
        obtain ⟨x0, x1, rfl, -, -⟩ := owns_slice' hrow2
        have HR2 := Lib.hid hrow2
        have hh := heap_set3 (x := .slice x0 C.length x1) (y := .slice x0 C.length x1) (z := .slice none 0 0) (hf.heap HB2.out (by simp))
        have HH := Lib.hid hh
        have hne := owns_ne hrow2 (hf.heap HB2.out (by simp)) (by decide)
        have HNE := Lib.hid hne
        obtain ⟨g0, g1, g2, r0, r1, r2⟩ := three_of_heap (hf.heap HB2.out (by simp))
        have HFr := Lib.hid hf
        clear hrow hrow2 hh hf hlen hnok hlen2 hne
        go_wp2_with fail
        refine bodyPost_ret (results_cell_row rfl _ _ (p0 + 1) 30 #[.slice x0 C.length x1, .slice x0 C.length x1, .slice none 0 0] (0, 0) _ rfl HH.out Tryz.underlying30 rfl sizeDir) rfl ⟨_, rfl, ?_, ?_⟩
        · exact owns_kept HR2.out (Fr.set3 _ _ _ _ _) (fun k hk => by simpa using HNE.out k hk)
        · exact (HF.out.trans HFr.out (by simp) (n := []) (by simp)).trans (Fr.set3 _ _ _ _ _) (by simp) (by simp; omega)
    · have hd1 : decide (k < n) = false := decide_eq_false h1
      have HC2 := Lib.hid (show (ops.take k).foldl applyL safe = C by rw [HCT.out, List.take_of_length_le (i := k) (by have := HN.out; omega), List.take_of_length_le (i := q) (by have := HN.out; omega)])
      have hrow2 := hrow
      rw [HC2.out] at hrow2
      obtain ⟨x0, x1, rfl, -, -⟩ := owns_slice' hrow2
      have HR2 := Lib.hid hrow2
      have hh := heap_set3 (x := .slice x0 C.length x1) (y := .slice x0 C.length x1) (z := .slice none 0 0) (hf.heap HB2.out (by simp))
      have HH := Lib.hid hh
      have hne := owns_ne hrow2 (hf.heap HB2.out (by simp)) (by decide)
      have HNE := Lib.hid hne
      obtain ⟨g0, g1, g2, r0, r1, r2⟩ := three_of_heap (hf.heap HB2.out (by simp))
      have HFr := Lib.hid hf
      clear hrow hrow2 hh hf hlen hnok hlen2 hne
      go_wp2_with fail
      refine bodyPost_ret (results_cell_row rfl _ _ (p0 + 1) 30 #[.slice x0 C.length x1, .slice x0 C.length x1, .slice none 0 0] (0, 0) _ rfl HH.out Tryz.underlying30 rfl sizeDir) rfl ⟨_, rfl, ?_, ?_⟩
      · exact owns_kept HR2.out (Fr.set3 _ _ _ _ _) (fun k hk => by simpa using HNE.out k hk)
      · exact (HF.out.trans HFr.out (by simp) (n := []) (by simp)).trans (Fr.set3 _ _ _ _ _) (by simp) (by simp; omega)
end Go.Proofs.YtmchnaojlnjmjaaGreat
