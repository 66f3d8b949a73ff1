/- Several texts in one: GpR, GpS, GpT, GpU, GpV. -/
import Derived.Laws.ResultCell
import Derived.Test.YtgfpkmnmdehkpaaGreatGz
import Derived.Test.YtgfpkmnmdehkpaaGreatGa
import Derived.Test.YtgfpkmnmdehkpaaGreatGb
import Derived.Test.YtgfpkmnmdehkpaaGreatGd
import Derived.Test.YtgfpkmnmdehkpaaGreatDt
set_option linter.unusedVariables false
set_option linter.unusedSimpArgs false
/-! The program's grammars (layer 14): linesFit, namesOf. -/
namespace Go.Proofs.YtgfpkmnmdehkpaaGreat
open Go.RowKit

def altsFit (l : LineD) : Bool := l.alts.all fun a => decide (a.length ≤ 64)
def sumA (ls : List LineD) : Nat := (ls.map fun l => l.alts.length).sum
def FitRel (w : World) (ls : List LineD) (sv iv : Value) (wx : World) : Prop := ∃ k : Nat, k ≤ ls.length ∧ iv = .int .i64 (k : Int) ∧ sv = .int .i64 (sumA (ls.take k) : Int) ∧ (∀ j (_ : j < k) (h : j < ls.length), altsFit (ls[j]'h) = true) ∧ Fr [] w wx
theorem sumA_next {ls : List LineD} {k : Nat} (hk : k < ls.length) : sumA (ls.take (k + 1)) = sumA (ls.take k) + (ls[k]'hk).alts.length := by
  unfold sumA
  rw [List.take_succ_eq_append_getElem hk, List.map_append, List.sum_append]
  simp
theorem sumA_le {ls : List LineD} (h : ∀ l ∈ ls, l.alts.length ≤ 100000) : ∀ k, k ≤ ls.length → sumA (ls.take k) ≤ k * 100000
  | 0, _ => by simp [sumA]
  | k + 1, hk => by
    have := sumA_le h k (by omega)
    have h2 := h _ (List.getElem_mem (show k < ls.length by omega))
    rw [sumA_next (show k < ls.length by omega)]
    omega
/-- What linesFit tells. -/
def lfitB (ls : List LineD) : Bool := ls.all altsFit && (decide (sumA ls ≤ 4096) && decide (ls.length ≤ 256))
theorem lfit_bound (ls : List LineD) : boolOf (BoundL ls) = !lfitB ls := by
  have h : lfitB ls = true ↔ ¬ BoundL ls := by
    unfold lfitB BoundL altsFit
    simp only [Bool.and_eq_true, List.all_eq_true, decide_eq_true_eq]
    constructor
    · rintro ⟨h1, h2, h3⟩ (⟨l, hl, a, ha, q⟩ | q | q)
      · have := h1 l hl a ha; omega
      · unfold sumA at h2; omega
      · omega
    · intro h
      refine ⟨fun l hl a ha => ?_, ?_, ?_⟩
      · exact Nat.le_of_not_lt fun q => h (.inl ⟨l, hl, a, ha, q⟩)
      · exact Nat.le_of_not_lt fun q => h (.inr (.inl q))
      · exact Nat.le_of_not_lt fun q => h (.inr (.inr q))
  cases hb : lfitB ls with
  | true => rw [boolOf_false (h.1 hb)]; rfl
  | false => rw [boolOf_true (Classical.byContradiction fun q => by rw [h.2 q] at hb; cases hb)]; rfl
set_option maxRecDepth 100000 in
set_option maxHeartbeats 2000000 in
theorem plinesfit_any (ls : List LineD) (lv : Value) (w : World) (h : linesAt w lv ls) (hz : SizeL ls) : Calls Tryz.prog 74 #[lv] w fun e w' => e = .returned (.bool (lfitB ls)) ∧ Fr [] w w' := by
  obtain ⟨a0, c0, rfl, hle, hmx⟩ := h.form
  obtain ⟨R, hR⟩ : ∃ R, R = lfitB ls := ⟨_, rfl⟩
  rw [← hR]
  unfold lfitB at hR
  obtain ⟨n, hn⟩ : ∃ n, n = ls.length := ⟨_, rfl⟩
  have hzl := hz.lines
  rw [← hn] at hR hle hzl
  have HE := Lib.hid h
  rw [← hn] at HE ⊢
  have HR := Lib.hid hR
  have HN := Lib.hid hn
  have HZ := Lib.hid hz
  clear h hz hR hn
  go_enter Tryz.func74, Tryz.ntmps74
  go_wp2_with fail
  go_loopw [3, 8] (FitRel w ls) (fun _ iv _ => n - (intOf iv).toNat)
  case atStart => exact ⟨0, Nat.zero_le _, rfl, by simp [sumA], fun j hj => by omega, Fr.refl _ _⟩
  case round =>
    obtain ⟨k, hk, rfl, rfl, hall, hf⟩ := hrel
    have hk' : k ≤ n := by have := HN.out; omega
    have hsum := sumA_le HZ.out.alts k hk
    have HA := Lib.hid hall
    have HF := Lib.hid hf
    clear hall
    by_cases hkn : k < n
    · have hd1 : decide (k < n) = true := decide_eq_true hkn
      have hkr : k < ls.length := by have := HN.out; omega
      obtain ⟨p, off, v, rfl, k0, k1, hv⟩ := line_cells (HE.out.below hf) k hkr
      have hzx := HZ.out.alts _ (List.getElem_mem hkr)
      have hsn := sumA_next hkr
      obtain ⟨x, hx⟩ : ∃ x, x = ls[k]'hkr := ⟨_, rfl⟩
      rw [← hx] at k0 hv hzx hsn
      have hal := fun wx (hfx : Fr [] wr wx) => pall_alt x.alts (fun a => decide (a.length ≤ 64)) v wx (hv.below hfx) (fun a _ av wy _ hav => pfit1_any a av wy hav)
      unfold FV_alt at hal
      obtain ⟨B, hB⟩ : ∃ B, B = altsFit x := ⟨_, rfl⟩
      rw [show (x.alts.all fun a => decide (a.length ≤ 64)) = B from hB.symm] at hal
      obtain ⟨a2, c2, rfl, hle2, hmx2⟩ := hv.form
      obtain ⟨m, hm⟩ : ∃ m, m = x.alts.length := ⟨_, rfl⟩
      obtain ⟨nv, hnv⟩ : ∃ nv, nv = encStr x.name := ⟨_, rfl⟩
      obtain ⟨s, hs⟩ : ∃ s, s = sumA (ls.take k) := ⟨_, rfl⟩
      rw [← hm] at hal k1 hzx hsn hle2
      rw [← hnv] at k0
      rw [← hs] at hsn hsum ⊢
      have HX := Lib.hid hx
      have HB := Lib.hid hB
      have HSN := Lib.hid hsn
      have HAL := Lib.hid hal
      have hb0 := heap_alloc_new wr (.cells #[encStr x.name, .slice a2 m c2] 92)
      have hf0 := Fr.alloc wr (.cells #[encStr x.name, .slice a2 m c2] 92)
      rw [hnv] at k0
      obtain ⟨w0, hw0⟩ : ∃ w0, w0 = wr.alloc (.cells #[encStr x.name, .slice a2 m c2] 92) := ⟨_, rfl⟩
      obtain ⟨q0, hq0⟩ : ∃ q0, q0 = wr.heap.size := ⟨_, rfl⟩
      rw [← hw0] at hb0 hf0
      rw [← hq0] at hb0
      have HB0 := Lib.hid hb0
      have HF0 := Lib.hid hf0
      have HW0 := Lib.hid hw0
      have HQ0 := Lib.hid hq0
      clear hx hB hsn hal hm hnv hs hb0 hf0 hw0 hq0 hv hf
      go_upto_region 5 with fail
      rw [show (Obj.cells #[.string { data := x.name.toArray }, .slice a2 m c2] 92) = (Obj.cells #[encStr x.name, .slice a2 m c2] 92) from rfl, ← HW0.out, ← HQ0.out]
      clear k0 k1
      have y1 : w0.cell? ⟨q0, 1, none⟩ = some (.slice a2 m c2) := by rw [cell_of_heap HB0.out]; rfl
      cases B with
      | true =>
        go_wp2_with (go_at_call 98; refine (HAL.out _ HF0.out).mono ?_; rintro e w2 ⟨rfl, hf2⟩)
        refine ⟨⟨k + 1, by have := HN.out; omega, by go_num, by rw [HSN.out]; go_num, fun j hj hjl => ?_, (HF.out.trans HF0.out (by simp) (n := []) (by simp)).trans hf2 (by simp) (by simp)⟩, by simp [intOf]; omega⟩
        by_cases e : j = k
        · subst e; rw [← HX.out]; exact HB.out.symm
        · exact HA.out j (by omega) hjl
      | false =>
        have HRF := Lib.hid (show R = false by
          rw [HR.out, all_false (l := ls) (p := altsFit) hkr (by rw [← HX.out]; exact HB.out.symm)]; rfl)
        go_wp2_with (go_at_call 98; refine (HAL.out _ HF0.out).mono ?_; rintro e w2 ⟨rfl, hf2⟩)
        go_ret
        exact ⟨by rw [HRF.out]; rfl, (HF.out.trans HF0.out (by simp) (n := []) (by simp)).trans hf2 (by simp) (by simp)⟩
    · have hd1 : decide (k < n) = false := decide_eq_false hkn
      have hkl : k = ls.length := by have := HN.out; omega
      have hR2 : R = (decide (sumA (ls.take k) ≤ 4096) && decide (n ≤ 256)) := by
        rw [HR.out, all_true (l := ls) (p := altsFit) (fun j hj => HA.out j (by omega) hj), hkl, List.take_length]; rfl
      obtain ⟨s, hs⟩ : ∃ s, s = sumA (ls.take k) := ⟨_, rfl⟩
      rw [← hs] at hR2 hsum ⊢
      clear hf hkl hs
      by_cases c1 : s ≤ 4096
      · have e1 : decide ((s : Int) ≤ 4096) = true := decide_eq_true (by omega)
        rw [decide_eq_true c1] at hR2
        by_cases c2 : n ≤ 256
        · have e2 : decide ((n : Int) ≤ 256) = true := decide_eq_true (by omega)
          rw [decide_eq_true c2] at hR2
          have HR2 := Lib.hid hR2
          clear hR2 c1 c2
          go_wp2_with fail
          go_ret
          exact ⟨by rw [HR2.out]; rfl, HF.out⟩
        · have e2 : decide ((n : Int) ≤ 256) = false := decide_eq_false (by omega)
          rw [decide_eq_false c2] at hR2
          have HR2 := Lib.hid hR2
          clear hR2 c1 c2
          go_wp2_with fail
          go_ret
          exact ⟨by rw [HR2.out]; rfl, HF.out⟩
      · have e1 : decide ((s : Int) ≤ 4096) = false := decide_eq_false (by omega)
        rw [decide_eq_false c1] at hR2
        have HR2 := Lib.hid hR2
        clear hR2 c1
        go_wp2_with fail
        go_ret
        exact ⟨by rw [HR2.out]; rfl, HF.out⟩
def PNmRel (w : World) (b : Nat) (T : List (List UInt8)) (iv : Value) (wx : World) : Prop := ∃ k : Nat, k ≤ T.length ∧ iv = .int .i64 (k : Int) ∧ fillAt wx b 9 (.string ⟨#[]⟩) (T.map encStr) k ∧ Fr [] w wx
def RNames (T : List (List UInt8)) (w : World) (e : Ending) (w' : World) : Prop := ∃ v, e = .returned v ∧ w'.ownsRow w.heap.size 9 1 v T.length (T.map encStr) ∧ Fr [] w w'
set_option maxRecDepth 100000 in
set_option maxHeartbeats 2000000 in
theorem pnames_any (ls : List LineD) (lv : Value) (w : World) (h : linesAt w lv ls) (hz : SizeL ls) : Calls Tryz.prog 75 #[lv] w (RNames (ls.map (·.name)) w) := by
  obtain ⟨iS, hiS, hz0, hz1, hz2⟩ := info_parts infoStr
  obtain ⟨a0, c0, rfl, hle, hmx⟩ := h.form
  obtain ⟨T, hT⟩ : ∃ T, T = ls.map (·.name) := ⟨_, rfl⟩
  rw [← hT]
  have hlen : T.length = ls.length := by rw [hT, List.length_map]
  have hget : ∀ k (h1 : k < ls.length) (h2 : k < T.length), T[k]'h2 = (ls[k]'h1).name := fun k h1 h2 => by simp [hT]
  obtain ⟨n, hn⟩ : ∃ n, n = ls.length := ⟨_, rfl⟩
  have hzl := hz.lines
  have HE := Lib.hid h
  rw [← hn] at hlen hle hzl
  rw [← hn] at HE ⊢
  have HN := Lib.hid hn
  have HLEN := Lib.hid hlen
  have HGET := Lib.hid hget
  clear h hz hT hget hlen hn
  go_enter Tryz.func75, Tryz.ntmps75
  go_upto_region 2 with (refine wpL_make rfl _ _ 22 rfl 9 iS (.string ⟨#[]⟩) 16 Tryz.underlying22 hiS hz0 hz1 hz2 rfl n rfl rfl (by omega) (by simp [maxLen]; omega) ?_; intro w1 hh1 hf1 hs1)
  have HM0 := Lib.hid (fill_zero (l := T.map encStr) (by rw [List.length_map, HLEN.out]) hh1.out)
  obtain ⟨b, hb⟩ : ∃ b, b = w.heap.size := ⟨_, rfl⟩
  have HB := Lib.hid (show w.heap.size ≤ b by omega)
  rw [← hb] at HM0
  rw [← hb]
  have HF1 := Lib.hid hf1
  clear hh1 hf1 hs1 hb
  go_wp2_with fail
  go_loopw [11] (PNmRel w b T) (fun iv _ => n - (intOf iv).toNat)
  case atStart => exact ⟨0, Nat.zero_le _, rfl, HM0.out, HF1.out⟩
  case round =>
    obtain ⟨k, hk, rfl, hm, hf⟩ := hrel
    have hk' : k ≤ n := by have := HLEN.out; omega
    have HF := Lib.hid hf
    have HM := Lib.hid hm
    by_cases hkn : k < n
    · have hd1 : decide (k < n) = true := decide_eq_true hkn
      have hkr : k < ls.length := by have := HN.out; omega
      have hkT : k < T.length := by have := HLEN.out; omega
      obtain ⟨p, off, v, rfl, k0, k1, hv⟩ := line_cells (HE.out.below hf) k hkr
      have hgt := HGET.out k hkr hkT
      obtain ⟨t, ht⟩ : ∃ t, t = (ls[k]'hkr).name := ⟨_, rfl⟩
      rw [← ht] at k0 hgt
      have HT := Lib.hid hgt
      obtain ⟨a2, c2, rfl, hle2, hmx2⟩ := hv.form
      obtain ⟨m, hm'⟩ : ∃ m, m = (ls[k]'hkr).alts.length := ⟨_, rfl⟩
      rw [← hm'] at k1
      have hb0 := heap_alloc_new wr (.cells #[encStr t, .slice a2 m c2] 92)
      have hf0 := Fr.alloc wr (.cells #[encStr t, .slice a2 m c2] 92)
      obtain ⟨w0, hw0⟩ : ∃ w0, w0 = wr.alloc (.cells #[encStr t, .slice a2 m c2] 92) := ⟨_, rfl⟩
      obtain ⟨q0, hq0⟩ : ∃ q0, q0 = wr.heap.size := ⟨_, rfl⟩
      rw [← hw0] at hb0 hf0
      rw [← hq0] at hb0
      have HB0 := Lib.hid hb0
      have HF0 := Lib.hid hf0
      have HW0 := Lib.hid hw0
      have HQ0 := Lib.hid hq0
      clear hgt ht hm' hm hb0 hf0 hw0 hq0 hv hf hle2 hmx2
      go_upto_region 5 with fail
      rw [show (Obj.cells #[.string { data := t.toArray }, .slice a2 m c2] 92) = (Obj.cells #[encStr t, .slice a2 m c2] 92) from rfl, ← HW0.out, ← HQ0.out]
      clear k0 k1
      have y0 : w0.cell? ⟨q0, 0, none⟩ = some (encStr t) := by rw [cell_of_heap HB0.out]; rfl
      have hfl := fill_below HM.out HF0.out
      have hfr2 := fill_free hfl k
      have hcl := fill_cell hfl (by rw [List.length_map]; exact hkT)
      go_wp2_with fail
      refine ⟨⟨k + 1, by have := HLEN.out; omega, by go_num, fill_next hfl (by rw [List.length_map]; exact hkT) (by rw [List.getElem_map, HT.out]), ?_⟩, by simp [intOf]; omega⟩
      exact (HF.out.trans HF0.out (by simp) (n := []) (by simp)).trans (Fr.set0 _ _ _ _) (by simp) (fun i hi hlt => by have := HB.out; simp at hi; omega)
    · have hd1 : decide (k < n) = false := decide_eq_false hkn
      have hkl : k = (T.map encStr).length := by rw [List.length_map, HLEN.out]; omega
      have hst := fill_owns (base := w.heap.size) hm hkl (by rw [List.length_map, HLEN.out]; simp [maxLen]; omega) HB.out
      rw [List.length_map, HLEN.out] at hst
      have HST := Lib.hid hst
      clear hm hf hkl hst
      go_wp2_with fail
      go_ret
      exact ⟨_, rfl, by rw [HLEN.out]; exact HST.out, HF.out⟩
end Go.Proofs.YtgfpkmnmdehkpaaGreat

/-! The program's grammars (layer 14): what stands in memory while Resolve makes its grammar; term. -/
namespace Go.Proofs.YtgfpkmnmdehkpaaGreat
open Go.RowKit Go.Maps

abbrev pRes : TypeId := 121
structure RSt (wA : World) (p bn bt : Nat) (nv tv rv : Value) (T : List (List UInt8)) (R : List RuleG) (vs : List Value) (wx : World) : Prop where
  obj : wx.heap[p]? = some (.cells #[nv, tv, rv, .map (some bn), .map (some bt)] pRes (0, 0))
  pge : wA.heap.size ≤ p
  bge : wA.heap.size ≤ bt
  bne : bn < wA.heap.size
  terms : wx.ownsRow wA.heap.size 9 1 tv T.length (T.map encStr)
  tmap : smapAt wx bt T
  nodup : T.Nodup
  rules : wx.ownsRow wA.heap.size 49 2 rv R.length ((R.zip vs).map fun x => [intV x.1.left, x.2]).flatten
  vlen : vs.length = R.length
  right : ∀ i (h : i < vs.length) (h' : i < R.length), wx.ownsRow wA.heap.size 3 1 (vs[i]'h) (R[i]'h').right.length ((R[i]'h').right.map intV)
  fr : Fr [] wA wx
/-- What is neither the resolver nor a text stands. -/
structure Stand (w w' : World) : Prop where
  size : w.heap.size ≤ w'.heap.size
  cells : ∀ (b : Nat) (cs : Array Value) (t : TypeId) (fr : Nat × Nat), w.heap[b]? = some (.cells cs t fr) → t ≠ pRes → t ≠ 9 → w'.heap[b]? = some (.cells cs t fr)
theorem Stand.trans {a b c : World} (h : Stand a b) (k : Stand b c) : Stand a c := ⟨Nat.le_trans h.size k.size, fun i cs t fr hh h1 h2 => k.cells i cs t fr (h.cells i cs t fr hh h1 h2) h1 h2⟩
theorem Stand.fr {w w' : World} (h : Fr [] w w') : Stand w w' := ⟨h.size, fun _ _ _ _ hh _ _ => h.heap hh (by simp)⟩
theorem Stand.of {w w' : World} {L : List Nat} (h : Fr L w w') (hL : ∀ b ∈ L, ∀ cs t fr, w.heap[b]? = some (.cells cs t fr) → t = pRes ∨ t = 9) : Stand w w' :=
  ⟨h.size, fun b cs t fr hh h1 h2 => h.heap hh (fun hm => (hL b hm cs t fr hh).elim h1 h2)⟩
theorem smapAt.below {w w' : World} {b : Nat} {l : List (List UInt8)} (h : smapAt w b l) (hf : Fr [] w w') : smapAt w' b l := h.kept hf (by simp)
theorem RSt.below {wA : World} {p bn bt : Nat} {nv tv rv : Value} {T : List (List UInt8)} {R : List RuleG} {vs : List Value} {wx wy : World} (h : RSt wA p bn bt nv tv rv T R vs wx) (hf : Fr [] wx wy) : RSt wA p bn bt nv tv rv T R vs wy :=
  ⟨hf.heap h.obj (by simp), h.pge, h.bge, h.bne, owns_kept h.terms hf (by simp), h.tmap.below hf, h.nodup, owns_kept h.rules hf (by simp), h.vlen, fun i a b => owns_kept (h.right i a b) hf (by simp), h.fr.trans hf (by simp) (by simp)⟩
theorem five_of_heap {w : World} {p : Nat} {a b c d e : Value} {t : TypeId} (h : w.heap[p]? = some (.cells #[a, b, c, d, e] t (0, 0))) :
    w.cell? ⟨p, 0, none⟩ = some a ∧ w.cell? ⟨p, 1, none⟩ = some b ∧ w.cell? ⟨p, 2, none⟩ = some c ∧ w.cell? ⟨p, 3, none⟩ = some d ∧ w.cell? ⟨p, 4, none⟩ = some e ∧ w.frozen? ⟨p, 1, none⟩ = false ∧ w.frozen? ⟨p, 2, none⟩ = false :=
  ⟨by rw [cell_of_heap h]; rfl, by rw [cell_of_heap h]; rfl, by rw [cell_of_heap h]; rfl, by rw [cell_of_heap h]; rfl, by rw [cell_of_heap h]; rfl, free_of_heap h 1, free_of_heap h 2⟩
theorem notT_map {w : World} {b : Nat} {l : List (List UInt8)} (h : smapAt w b l) (t : TypeId) : notT w [b] t := by
  intro k hk cs t' fr hh
  obtain rfl : k = b := by simpa using hk
  obtain ⟨es, c, hm⟩ := h.heap
  rw [hm] at hh
  cases hh
/-- The map has one more. -/
theorem RSt.put {wA : World} {p bn bt : Nat} {nv tv rv : Value} {T : List (List UInt8)} {R : List RuleG} {vs : List Value} {wx w1 : World} (h : RSt wA p bn bt nv tv rv T R vs wx) (hf : Fr [bt] wx w1) :
    w1.heap[p]? = some (.cells #[nv, tv, rv, .map (some bn), .map (some bt)] pRes (0, 0)) ∧ w1.ownsRow wA.heap.size 9 1 tv T.length (T.map encStr) ∧ w1.ownsRow wA.heap.size 49 2 rv R.length ((R.zip vs).map fun x => [intV x.1.left, x.2]).flatten ∧
    (∀ i (h : i < vs.length) (h' : i < R.length), w1.ownsRow wA.heap.size 3 1 (vs[i]'h) (R[i]'h').right.length ((R[i]'h').right.map intV)) ∧ Fr [] wA w1 := by
  have hp : p ∉ [bt] := fun hm => by
    obtain ⟨es, c, hmm⟩ := h.tmap.heap
    obtain rfl : p = bt := by simpa using hm
    rw [h.obj] at hmm; cases hmm
  refine ⟨hf.heap h.obj hp, owns_keptT h.terms (notT_map h.tmap _) hf, owns_keptT h.rules (notT_map h.tmap _) hf, fun i a b => owns_keptT (h.right i a b) (notT_map h.tmap _) hf, h.fr.trans hf (by simp) (fun i hi hlt => ?_)⟩
  have := h.bge
  simp at hi
  omega
theorem RSt.term {wA : World} {p bn bt : Nat} {nv tv rv tv' : Value} {T : List (List UInt8)} {R : List RuleG} {vs : List Value} {w1 w2 : World} {t : List UInt8} (obj : w1.heap[p]? = some (.cells #[nv, tv, rv, .map (some bn), .map (some bt)] pRes (0, 0))) (pge : wA.heap.size ≤ p) (bge : wA.heap.size ≤ bt) (bne : bn < wA.heap.size)
    (terms : w1.ownsRow wA.heap.size 9 1 tv T.length (T.map encStr)) (rules : w1.ownsRow wA.heap.size 49 2 rv R.length ((R.zip vs).map fun x => [intV x.1.left, x.2]).flatten) (vlen : vs.length = R.length)
    (right : ∀ i (h : i < vs.length) (h' : i < R.length), w1.ownsRow wA.heap.size 3 1 (vs[i]'h) (R[i]'h').right.length ((R[i]'h').right.map intV)) (fr : Fr [] wA w1) (tmap : smapAt w1 bt (T ++ [t])) (nodup : (T ++ [t]).Nodup)
    (hown : w2.ownsRow wA.heap.size 9 1 tv' (T.length + 1) (T.map encStr ++ [encStr t])) (hf : Fr tv.ownBlock.toList w1 w2) : RSt wA p bn bt nv tv' rv (T ++ [t]) R vs (w2.setCell ⟨p, 1, none⟩ tv') := by
  have hpn : p ∉ tv.ownBlock.toList := fun hm => notT_row terms (t := pRes) (by decide) p hm _ _ _ obj rfl
  have hbn : bt ∉ tv.ownBlock.toList := fun hm => by
    obtain ⟨es, c, hmm⟩ := tmap.heap
    have hk : tv.ownBlock = some bt := by simpa [Option.mem_toList] using hm
    rcases terms.2 with ⟨rfl, _⟩ | ⟨g, cap, cur, rfl, _, hg, _⟩
    · cases hk
    · obtain rfl : g = bt := by simpa [Value.ownBlock] using hk
      rw [hg] at hmm; cases hmm
  have hs := Fr.set0 w2 p 1 tv'
  have ho2 := hf.heap obj hpn
  have np : ∀ t, pRes ≠ t → notT w2 [p] t := fun t ht => notT_box ho2 ht
  have hpb : bt ∉ [p] := fun hm => by
    obtain ⟨es, c, hmm⟩ := tmap.heap
    obtain rfl : bt = p := by simpa using hm
    rw [obj] at hmm; cases hmm
  refine ⟨heap_setCell_same ho2 (i := 1) tv', pge, bge, bne, ?_, (tmap.kept hf hbn).kept hs hpb, nodup, ?_, vlen, fun i a b => ?_, ?_⟩
  · rw [List.length_append, List.map_append]
    exact owns_keptT hown (np _ (by decide)) hs
  · exact owns_keptT (owns_keptT rules (notT_row terms (by decide)) hf) (np _ (by decide)) hs
  · exact owns_keptT (owns_keptT (right i a b) (notT_row terms (by decide)) hf) (np _ (by decide)) hs
  · have h2 := fr.trans hf (by simp) (n := []) (fun i hi hlt => by
      have hk : tv.ownBlock = some i := by simpa [Option.mem_toList] using hi
      have := (terms.lt i hk).1
      omega)
    exact h2.trans hs (by simp) (fun i hi hlt => by simp at hi; omega)
/-- What the map says of a text. -/
theorem smap_has {l : List (List UInt8)} {x : List UInt8} : has (plD (l.map Lit.string)) (.string x) = true ↔ x ∈ l := by rw [plD_has (keyS l), memS]
theorem smap_find {l : List (List UInt8)} (hn : l.Nodup) {x : List UInt8} (hx : x ∈ l) (z : DataW Unit) : (plD (l.map Lit.string)).atKey (.string x) z = .lit (.int .i64 (findG l x)) := by
  obtain ⟨k, hk, h1, h2, -⟩ := find_yes hx
  have := plD_at (keyS l) (nodupS.2 hn) (i := k) (by rw [List.length_map]; exact hk) z
  rw [List.getElem_map, h2] at this
  rw [this, h1]
theorem find_prefix {T S : List (List UInt8)} {x : List UInt8} (hx : x ∈ T) : findG (T ++ S) x = findG T x := by
  obtain ⟨k, hk, h1, h2, h3⟩ := find_yes hx
  rw [h1]
  refine find_at (by rw [List.length_append]; omega) (by rw [List.getElem_append_left hk]; exact h2) (fun j hj => ?_)
  rw [List.getElem_append_left (by omega)]
  exact h3 j hj
theorem find_new {T : List (List UInt8)} {x : List UInt8} (hx : x ∉ T) : findG (T ++ [x]) x = (T.length : Int) := by
  refine find_at (by simp) (by simp) (fun j hj => ?_)
  rw [List.getElem_append_left hj]
  exact fun e => hx (e ▸ List.getElem_mem hj)
def RTerm (w : World) (wA : World) (p bn bt : Nat) (nv rv : Value) (T' : List (List UInt8)) (R : List RuleG) (vs : List Value) (x : List UInt8) (e : Ending) (w' : World) : Prop :=
  ∃ tv', e = .returned (.int .i64 (findG T' x)) ∧ RSt wA p bn bt nv tv' rv T' R vs w' ∧ Stand w w'
noncomputable def addX (T : List (List UInt8)) (x : List UInt8) : List (List UInt8) := @ite _ (x ∈ T) (Classical.propDecidable _) T (T ++ [x])
set_option maxRecDepth 100000 in
set_option maxHeartbeats 4000000 in
theorem prterm_any (wA : World) (p bn bt : Nat) (nv tv rv : Value) (T : List (List UInt8)) (R : List RuleG) (vs : List Value) (x : List UInt8) (w : World) (h : RSt wA p bn bt nv tv rv T R vs w) (hT : T.length ≤ 1000000) (hx : x.length ≤ maxLen) :
    Calls Tryz.prog 137 #[.pointer (some ⟨p, 0, none⟩), encStr x] w (RTerm w wA p bn bt nv rv (addX T x) R vs x) := by
  obtain ⟨iS, hiS, hz0, hz1, hz2⟩ := info_parts infoStr
  obtain ⟨y0, y1, y2, y3, y4, z1, z2⟩ := five_of_heap h.obj
  obtain ⟨a1, c1, rfl, hc1, hm1⟩ := owns_slice h.terms
  have hmap := h.tmap
  unfold smapAt at hmap
  have hkey := keyOfS x hx
  have H := Lib.hid h
  obtain ⟨X, hX⟩ : ∃ X, X = addX T x := ⟨_, rfl⟩
  rw [← hX]
  unfold RTerm
  unfold addX at hX
  by_cases hm : x ∈ T
  · have hhas : has (plD (T.map Lit.string)) (.string x) = true := smap_has.2 hm
    have hat := smap_find h.nodup hm (.lit (.int .i64 0))
    obtain ⟨f, hf⟩ : ∃ f, f = findG T x := ⟨_, rfl⟩
    rw [← hf] at hat
    rw [if_pos hm] at hX
    subst hX
    rw [← hf]
    have HAT := Lib.hid hat
    have HKY := Lib.hid hkey
    have HM := Lib.hid hmap
    have HH := Lib.hid hhas
    clear hat hkey hmap hm hf h hhas
    go_enter Tryz.func137, Tryz.ntmps137
    go_wp2_with (at_lookup; refine wpList_lookup_own_ok_int _ rfl _ _ 118 rfl 9 3 .i64 lawKS Tryz.underlying118 Tryz.underlying3 (zeroKI _) bt X.length _ rfl HM.out _ _ rfl HKY.out ?_; intro c hc hwc; rw [HH.out]; obtain rfl : c = f := (by have := HAT.out.symm.trans hc; simp only [DataW.lit.injEq, Lit.int.injEq, true_and] at this; exact this.symm))
    go_ret
    exact ⟨_, rfl, H.out, Stand.fr (Fr.refl _ _)⟩
  · have hhas : has (plD (T.map Lit.string)) (.string x) = false := by
      cases hb : has (plD (T.map Lit.string)) (.string x) with
      | false => rfl
      | true => exact (hm (smap_has.1 hb)).elim
    rw [if_neg hm] at hX
    subst hX
    rw [find_new hm]
    have hnd : (T ++ [x]).Nodup := by
      rw [List.nodup_append]
      exact ⟨h.nodup, by simp, fun a ha b hb => by have hb' : b = x := (by simpa using hb); subst hb'; exact fun e => hm (e ▸ ha)⟩
    have hnx : ∀ w1 : World, w1.ownsMap Tryz.prog 9 (plainElem Tryz.prog 3) bt (T.length + 1) ((plD (T.map Lit.string)).put (.string x) (.lit (.int .i64 (T.length : Int)))) → smapAt w1 bt (T ++ [x]) := fun w1 hw => by
      unfold smapAt
      rw [List.map_append, List.map_singleton, plD_snoc, List.length_append, List.length_map]
      exact hw
    have HNX := Lib.hid hnx
    have HND := Lib.hid hnd
    have HKY := Lib.hid hkey
    have HM := Lib.hid hmap
    have HH := Lib.hid hhas
    clear hkey hmap hm h hhas hnd hnx
    go_enter Tryz.func137, Tryz.ntmps137
    go_upto_region 4 with (at_lookup; refine wpList_lookup_own_ok_int _ rfl _ _ 118 rfl 9 3 .i64 lawKS Tryz.underlying118 Tryz.underlying3 (zeroKI _) bt T.length _ rfl HM.out _ _ rfl HKY.out ?_; intro c hc hwc; rw [HH.out])
    go_upto_region 5 with (at_mapUpdate; refine wpList_mapUpdate_own _ rfl _ _ _ 118 rfl 9 3 lawKS Tryz.underlying118 (plainElem Tryz.prog 3) bt T.length _ rfl HM.out (by unfold maxLen; omega) _ _ _ rfl rfl HKY.out _ [] (plainElem_int Tryz.underlying3 (wf_nat (by omega))) ?_; intro w1 hown1 hgrow1)
    have hb1 := Fr.of_grown hgrow1
    obtain ⟨k1, k2, k3, k4, k5⟩ := H.out.put (w1 := w1) hb1
    have hs1 : Stand w w1 := Stand.of hb1 (fun b hb cs t fr hh => by
      obtain ⟨es, c, hmm⟩ := H.out.tmap.heap
      obtain rfl : b = bt := by simpa using hb
      rw [hmm] at hh; cases hh)
    have HK := Lib.hid (RSt.term (tv' := .slice none 0 0) (w2 := w1) (t := x) k1 H.out.pge H.out.bge H.out.bne k2 k3 H.out.vlen k4 k5 (HNX.out w1 hown1) HND.out)
    have HRS := Lib.hid (fun tv' w2 => RSt.term (tv' := tv') (w2 := w2) (t := x) k1 H.out.pge H.out.bge H.out.bne k2 k3 H.out.vlen k4 k5 (HNX.out w1 hown1) HND.out)
    clear HK
    have HP := Lib.hid k1
    have HO := Lib.hid k2
    have HS := Lib.hid hs1
    have hge : wA.heap.size ≤ w1.heap.size := k5.size
    clear k2 k3 k4 k5 hown1 hgrow1 hb1 hs1 y0 y1 y2 y3 y4 z1 z2
    obtain ⟨y0, y1, y2, y3, y4, z1, z2⟩ := five_of_heap k1
    have hpn : p ∉ (Value.slice a1 T.length c1).ownBlock.toList := fun hm => notT_row HO.out (t := pRes) (by decide) p hm _ _ _ HP.out rfl
    have HPN := Lib.hid hpn
    have hob := HO.out
    clear k1 hpn
    go_wp2_with (at_builtin; refine wpL_append1 rfl _ _ 22 rfl wA.heap.size 9 iS (.string ⟨#[]⟩) 16 Tryz.underlying22 hiS hz0 hz1 hz2 rfl (.slice a1 T.length c1) T.length (T.map encStr) rfl hob (encStr x) rfl rfl (by omega) (by simp [maxLen]; omega) hge ?_; intro v' w3 hown3 hf3 hb3; obtain ⟨a2, c2, rfl, hc2, hm2⟩ := owns_slice hown3; obtain ⟨u0, u1, u2, u3, u4, s1, s2⟩ := five_of_heap (hf3.heap HP.out HPN.out))
    go_ret
    refine ⟨_, rfl, HRS.out _ _ hown3 hf3, ?_⟩
    refine (HS.out.trans (Stand.of hf3 (fun b hb cs t fr hh => ?_))).trans (Stand.of (Fr.set0 _ _ _ _) (fun b hb cs t fr hh => ?_))
    · right
      exact Classical.byContradiction fun q => notT_row HO.out (t := t) (fun e => q e.symm) b hb _ _ _ hh rfl
    · left
      obtain rfl : b = p := by simpa using hb
      have := hf3.heap HP.out HPN.out
      rw [this] at hh
      simp only [Option.some.injEq, Obj.cells.injEq] at hh
      exact hh.2.1.symm
end Go.Proofs.YtgfpkmnmdehkpaaGreat

/-! The program's grammars (layer 14): right. -/
namespace Go.Proofs.YtgfpkmnmdehkpaaGreat
open Go.RowKit Go.Maps

def goodA (names : List (List UInt8)) (alt : List ItemD) : Prop := ∀ i ∈ alt, i.term = false → i.text ∈ names
theorem addT_term {T : List (List UInt8)} {i : ItemD} (h : i.term = true) : addT T i = addX T i.text := by
  unfold addT addX
  by_cases q : i.text ∈ T
  · rw [if_neg (fun c => c.2 q), if_pos q]
  · rw [if_pos ⟨h, q⟩, if_neg q]
theorem addT_name {T : List (List UInt8)} {i : ItemD} (h : i.term = false) : addT T i = T := by
  unfold addT
  rw [if_neg (fun c => by rw [h] at c; cases c.1)]
theorem addT_pre (T : List (List UInt8)) (i : ItemD) : ∃ S, addT T i = T ++ S := by
  unfold addT
  split
  · exact ⟨_, rfl⟩
  · exact ⟨[], by simp⟩
theorem acc_pre : ∀ (l : List ItemD) (T : List (List UInt8)), ∃ S, l.foldl addT T = T ++ S
  | [], T => ⟨[], by simp⟩
  | i :: l, T => by
    obtain ⟨S, h⟩ := addT_pre T i
    obtain ⟨S', h'⟩ := acc_pre l (addT T i)
    exact ⟨S ++ S', by rw [List.foldl_cons, h', h, List.append_assoc]⟩
theorem addX_mem (T : List (List UInt8)) (x : List UInt8) : x ∈ addX T x := by
  unfold addX
  split
  · assumption
  · simp
theorem acc_len : ∀ (l : List ItemD) (T : List (List UInt8)), (l.foldl addT T).length ≤ T.length + l.length
  | [], T => by simp
  | i :: l, T => by
    have h := acc_len l (addT T i)
    have h2 : (addT T i).length ≤ T.length + 1 := by unfold addT; split <;> simp
    rw [List.foldl_cons, List.length_cons]
    omega
theorem acc_next {l : List ItemD} {T : List (List UInt8)} {k : Nat} (hk : k < l.length) : (l.take (k + 1)).foldl addT T = addT ((l.take k).foldl addT T) (l[k]'hk) := by
  rw [List.take_succ_eq_append_getElem hk, List.foldl_append]
  rfl
/-- The list of all terminals goes on from what has been found so far. -/
theorem acc_later {l : List ItemD} {T Tf : List (List UInt8)} (h : ∃ S, Tf = l.foldl addT T ++ S) (k : Nat) : ∃ S, Tf = (l.take k).foldl addT T ++ S := by
  obtain ⟨S, hS⟩ := h
  obtain ⟨S', h'⟩ := acc_pre (l.drop k) ((l.take k).foldl addT T)
  rw [← List.foldl_append, List.take_append_drop] at h'
  exact ⟨S' ++ S, by rw [hS, h', List.append_assoc]⟩
theorem find_range {l : List (List UInt8)} {x : List UInt8} (h : x ∈ l) : 0 ≤ findG l x ∧ findG l x < (l.length : Int) := by
  obtain ⟨k, hk, h1, -, -⟩ := find_yes h
  omega
/-- Another row of the call's own has been written. -/
theorem RSt.other {wA wx wy : World} {p bn bt b : Nat} {nv tv rv : Value} {T : List (List UInt8)} {R : List RuleG} {vs : List Value} (h : RSt wA p bn bt nv tv rv T R vs wx) {cs : Array Value} (hb : wx.heap[b]? = some (.cells cs 3 (0, 0))) (hge : wA.heap.size ≤ b)
    (hv : ∀ i (h : i < vs.length) k, (vs[i]'h).ownBlock = some k → k ≠ b) (hf : Fr [b] wx wy) : RSt wA p bn bt nv tv rv T R vs wy := by
  have n : ∀ t, 3 ≠ t → notT wx [b] t := fun t ht => notT_box hb ht
  have hp : p ∉ [b] := fun hm => by
    obtain rfl : p = b := by simpa using hm
    rw [h.obj] at hb
    simp only [Option.some.injEq, Obj.cells.injEq] at hb
    exact absurd hb.2.1 (by decide)
  have hbt : bt ∉ [b] := fun hm => by
    obtain rfl : bt = b := by simpa using hm
    obtain ⟨es, c, hmm⟩ := h.tmap.heap
    rw [hmm] at hb; cases hb
  exact ⟨hf.heap h.obj hp, h.pge, h.bge, h.bne, owns_keptT h.terms (n _ (by decide)) hf, h.tmap.kept hf hbt, h.nodup, owns_keptT h.rules (n _ (by decide)) hf, h.vlen, fun i a c => owns_kept (h.right i a c) hf (fun k hk hm => hv i a k hk (by simpa using hm)), h.fr.trans hf (by simp) (fun i hi hlt => by simp at hi; omega)⟩
theorem fill_stand {w w' : World} {b : Nat} {z : Value} {l : List Value} {k : Nat} (h : fillAt w b 3 z l k) (hs : Stand w w') : fillAt w' b 3 z l k := hs.cells _ _ _ _ h (by decide) (by decide)
def RRight (w wA : World) (p bn bt : Nat) (nv rv : Value) (T' : List (List UInt8)) (R : List RuleG) (vs : List Value) (names : List (List UInt8)) (L : List Int) (alt : List ItemD) (e : Ending) (w' : World) : Prop :=
  (goodA names alt ∧ ∃ v tv', e = .returned (.tuple #[v, .bool true]) ∧ w'.ownsRow wA.heap.size 3 1 v alt.length (L.map intV) ∧ RSt wA p bn bt nv tv' rv T' R vs w') ∨
  (¬ goodA names alt ∧ e = .returned (.tuple #[.slice none 0 0, .bool false]) ∧ Fr [] wA w')
def PRtRel (w wA : World) (p bn bt b : Nat) (nv rv : Value) (T : List (List UInt8)) (R : List RuleG) (vs : List Value) (names : List (List UInt8)) (L : List Int) (alt : List ItemD) (iv : Value) (wx : World) : Prop :=
  ∃ (k : Nat) (tv : Value), k ≤ alt.length ∧ iv = .int .i64 (k : Int) ∧ RSt wA p bn bt nv tv rv ((alt.take k).foldl addT T) R vs wx ∧ fillAt wx b 3 (.int .i64 0) (L.map intV) k ∧ goodA names (alt.take k)
theorem smap_yes {w : World} {b : Nat} {l : List (List UInt8)} {x : List UInt8} (h : smapAt w b l) (hn : l.Nodup) (hx : x.length ≤ maxLen) (hm : x ∈ l) : (Instr.lookup 118 (.map (some b)) (encStr x) true).run Tryz.prog w = .ok (.tuple #[.int .i64 (findG l x), .bool true]) w := by
  obtain ⟨v, ps, hr, hv⟩ := World.ownsMap.look_ok h lawKS Tryz.underlying118 (zeroKI w) (plainElem_int Tryz.underlying3 (by decide)) (keyOfS x hx)
  rw [smap_has.2 hm] at hr
  rw [smap_find hn hm] at hv
  obtain ⟨c, rfl, hc, -⟩ := plainElem_int_inv Tryz.underlying3 hv
  simp only [Prod.mk.injEq, DataW.lit.injEq, Lit.int.injEq, true_and] at hc
  rw [hr, hc.1]
theorem smap_no {w : World} {b : Nat} {l : List (List UInt8)} {x : List UInt8} (h : smapAt w b l) (hx : x.length ≤ maxLen) (hm : x ∉ l) : (Instr.lookup 118 (.map (some b)) (encStr x) true).run Tryz.prog w = .ok (.tuple #[.int .i64 0, .bool false]) w := by
  obtain ⟨v, ps, hr, hv⟩ := World.ownsMap.look_ok h lawKS Tryz.underlying118 (zeroKI w) (plainElem_int Tryz.underlying3 (by decide)) (keyOfS x hx)
  have hf : has (plD (l.map Lit.string)) (.string x) = false := by
    cases hb : has (plD (l.map Lit.string)) (.string x) with
    | false => rfl
    | true => exact (hm (smap_has.1 hb)).elim
  rw [hf] at hr
  rw [atKey_of_not_has hf] at hv
  obtain ⟨c, rfl, hc, -⟩ := plainElem_int_inv Tryz.underlying3 hv
  simp only [Prod.mk.injEq, DataW.lit.injEq, Lit.int.injEq, true_and] at hc
  rw [hr, ← hc.1]
set_option maxRecDepth 100000 in
set_option maxHeartbeats 8000000 in
theorem prright_any (wA : World) (p bn bt : Nat) (nv tv rv av : Value) (T Tf names : List (List UInt8)) (R : List RuleG) (vs : List Value) (alt : List ItemD) (w : World) (h : RSt wA p bn bt nv tv rv T R vs w) (hal : itemsAt wA av alt) (hnm : smapAt wA bn names) (hnd : names.Nodup) (hnl : names.length ≤ 100000)
    (hT : T.length + alt.length ≤ 900000) (hl : alt.length ≤ 100000) (hx : ∀ i ∈ alt, i.text.length ≤ maxLen) (hTf : ∃ S, Tf = alt.foldl addT T ++ S) :
    Calls Tryz.prog 100 #[.pointer (some ⟨p, 0, none⟩), av] w (RRight w wA p bn bt nv rv (alt.foldl addT T) R vs names (alt.map (symG names Tf)) alt) := by
  obtain ⟨iI, hiI, hz0, hz1, hz2⟩ := info_parts infoInt
  obtain ⟨a4, c4, rfl, hle4, hmx4⟩ := hal.form
  obtain ⟨L, hL⟩ : ∃ L, L = alt.map (symG names Tf) := ⟨_, rfl⟩
  rw [← hL]
  have hlen : L.length = alt.length := by rw [hL, List.length_map]
  have hget : ∀ k (h1 : k < alt.length) (h2 : k < L.length), L[k]'h2 = symG names Tf (alt[k]'h1) := fun k h1 h2 => by simp [hL]
  have hvl : ∀ i (hi : i < vs.length) k, (vs[i]'hi).ownBlock = some k → k < w.heap.size := fun i hi k hk => ((h.right i hi (by have := h.vlen; omega)).lt k hk).2
  obtain ⟨n, hn⟩ : ∃ n, n = alt.length := ⟨_, rfl⟩
  have HE := Lib.hid hal
  rw [← hn] at HE hlen hle4 hl ⊢
  have HVL := Lib.hid hvl
  have HNM := Lib.hid hnm
  have HND := Lib.hid hnd
  have HX := Lib.hid hx
  have HTF := Lib.hid hTf
  have HH := Lib.hid h
  have HN := Lib.hid hn
  have HLEN := Lib.hid hlen
  have HGET := Lib.hid hget
  clear hal hnm hnd hx hTf h hL hlen hget hvl hn
  go_enter Tryz.func100, Tryz.ntmps100
  go_upto_region 2 with (refine wpL_make rfl _ _ 47 rfl 3 iI (.int .i64 0) 8 Tryz.underlying47 hiI hz0 hz1 hz2 rfl n rfl rfl (by omega) (by simp [maxLen]; omega) ?_; intro w1 hh1 hf1 hs1)
  have HM0 := Lib.hid (fill_zero (l := L.map intV) (by rw [List.length_map, HLEN.out]) hh1.out)
  have HR1 := Lib.hid (HH.out.below hf1)
  obtain ⟨b, hb⟩ : ∃ b, b = w.heap.size := ⟨_, rfl⟩
  have HBW := Lib.hid (show wA.heap.size ≤ b by rw [hb]; exact HH.out.fr.size)
  have HVB := Lib.hid (fun i hi k hk => show k ≠ b by have := HVL.out i hi k hk; omega)
  rw [← hb] at HM0
  rw [← hb]
  clear hh1 hf1 hs1 hb
  go_wp2_with fail
  go_loopw [16] (PRtRel w wA p bn bt b nv rv T R vs names L alt) (fun iv _ => n - (intOf iv).toNat)
  case atStart => exact ⟨0, tv, Nat.zero_le _, rfl, HR1.out, HM0.out, fun i hi => by simp at hi⟩
  case round =>
    obtain ⟨k, tvk, hk, rfl, hst, hm, hgd⟩ := hrel
    have hk' : k ≤ n := by have := HN.out; omega
    have HST := Lib.hid hst
    have HM := Lib.hid hm
    have HGD := Lib.hid hgd
    by_cases hkn : k < n
    · have hd1 : decide (k < n) = true := decide_eq_true hkn
      have hkr : k < alt.length := by have := HN.out; omega
      have hkT : k < L.length := by have := HLEN.out; omega
      obtain ⟨q, off, rfl, k0, k1⟩ := item_cells (HE.out.below hst.fr) k hkr
      have hgt := HGET.out k hkr hkT
      have hnx := acc_next (T := T) hkr
      have hlt := acc_later HTF.out (k + 1)
      have htl : ((alt.take k).foldl addT T).length ≤ 1000000 := by
        have := acc_len (alt.take k) T
        rw [List.length_take] at this
        omega
      have hxl := HX.out _ (List.getElem_mem hkr)
      have hgn : goodA names (alt.take (k + 1)) ↔ ((alt[k]'hkr).term = false → (alt[k]'hkr).text ∈ names) := by
        rw [List.take_succ_eq_append_getElem hkr]
        exact ⟨fun q => q _ (List.mem_append_right _ (List.mem_singleton.2 rfl)), fun q i hi => by
          rcases List.mem_append.1 hi with hi | hi
          · exact HGD.out i hi
          · rw [List.mem_singleton.1 hi]; exact q⟩
      have hbad : ¬ ((alt[k]'hkr).term = false → (alt[k]'hkr).text ∈ names) → ¬ goodA names alt := fun q hg => q (hg _ (List.getElem_mem hkr))
      obtain ⟨x, hxe⟩ : ∃ x, x = alt[k]'hkr := ⟨_, rfl⟩
      rw [← hxe] at k0 k1 hgt hnx hxl hgn hbad
      obtain ⟨Tk, hTk⟩ : ∃ Tk, Tk = (alt.take k).foldl addT T := ⟨_, rfl⟩
      rw [← hTk] at hnx htl hst
      obtain ⟨tm, tx⟩ := x
      simp only at k0 k1 hxl hgn hbad
      obtain ⟨Tn, hTn⟩ : ∃ Tn, Tn = (alt.take (k + 1)).foldl addT T := ⟨_, rfl⟩
      rw [← hTn] at hnx hlt
      have HGT := Lib.hid hgt
      have HNX := Lib.hid hnx
      have HLT := Lib.hid hlt
      have HGN := Lib.hid hgn
      have HBAD := Lib.hid hbad
      have HTN := Lib.hid hTn
      have HSTK := Lib.hid hst
      have hb0 := two_of_new wr (.bool tm) (encStr tx) 98
      have hf0 := Fr.alloc wr (.cells #[.bool tm, encStr tx] 98)
      obtain ⟨w0, hw0⟩ : ∃ w0, w0 = wr.alloc (.cells #[.bool tm, encStr tx] 98) := ⟨_, rfl⟩
      obtain ⟨q0, hq0⟩ : ∃ q0, q0 = wr.heap.size := ⟨_, rfl⟩
      rw [← hw0] at hb0 hf0
      rw [← hq0] at hb0
      have HB0 := Lib.hid hb0
      have HF0 := Lib.hid hf0
      have HW0 := Lib.hid hw0
      have HQ0 := Lib.hid hq0
      clear hgt hnx hlt hgn hbad hTn hTk hxe hst hm hgd hb0 hf0 hw0 hq0 HST
      go_upto_region 5 with fail
      rw [show (Obj.cells #[.bool tm, .string { data := tx.toArray }] 98) = (Obj.cells #[.bool tm, encStr tx] 98) from rfl, ← HW0.out, ← HQ0.out]
      clear k0 k1
      obtain ⟨y0, y1, -⟩ := two_cells HB0.out
      cases tm with
      | true =>
        have htm := prterm_any wA p bn bt nv tvk rv Tk R vs tx w0 (HSTK.out.below HF0.out) htl hxl
        rw [← addT_term (i := ⟨true, tx⟩) rfl, ← HNX.out] at htm
        have hmem : tx ∈ Tn := by rw [HNX.out, addT_term (i := ⟨true, tx⟩) rfl]; exact addX_mem _ _
        obtain ⟨hr0, hr1⟩ := find_range hmem
        have htl2 : Tn.length ≤ 1000001 := by
          have h2 : (addT Tk ⟨true, tx⟩).length ≤ Tk.length + 1 := by unfold addT; split <;> simp
          rw [← HNX.out] at h2
          omega
        have hsym : L[k]'hkT = -1 - findG Tn tx := by
          obtain ⟨S, hS⟩ := HLT.out
          rw [HGT.out]
          unfold symG
          rw [if_pos rfl, hS, find_prefix hmem]
        obtain ⟨f, hf⟩ : ∃ f, f = findG Tn tx := ⟨_, rfl⟩
        unfold RTerm at htm
        rw [← hf] at htm hsym hr0 hr1
        have HTM := Lib.hid htm
        have HSY := Lib.hid hsym
        clear htm hmem hsym hf
        go_wp2_with (go_at_call 137; refine HTM.out.mono ?_; rintro e w2 ⟨tv2, rfl, hs2, hst2⟩; have hfl := fill_stand (fill_below HM.out HF0.out) hst2; have hfr2 := fill_free hfl k; have hcl := fill_cell hfl (by rw [List.length_map]; exact hkT))
        refine ⟨⟨k + 1, tv2, by have := HN.out; omega, by go_num, ?_, fill_next hfl (by rw [List.length_map]; exact hkT) (by rw [List.getElem_map, HSY.out]; rfl), ?_⟩, by simp [intOf]; omega⟩
        · rw [← HTN.out]
          exact hs2.other hfl HBW.out HVB.out (Fr.set0 _ _ _ _)
        · exact HGN.out.2 (fun q => by cases q)
      | false =>
        by_cases hm : tx ∈ names
        · have hsym : L[k]'hkT = findG names tx := by rw [HGT.out]; unfold symG; rw [if_neg (by simp)]
          have hTT : Tn = Tk := by rw [HNX.out, addT_name rfl]
          obtain ⟨f, hf⟩ : ∃ f, f = findG names tx := ⟨_, rfl⟩
          have HLK := Lib.hid (fun wx (hfx : Fr [] wA wx) => smap_yes (HNM.out.below hfx) HND.out hxl hm)
          rw [← hf] at hsym HLK
          have HSY := Lib.hid hsym
          have HTT := Lib.hid hTT
          have HGG := Lib.hid (HGN.out.2 (fun _ => hm))
          clear hsym hTT hf hm HGN HBAD
          go_upto_region 7 with fail
          clear y0 y1
          refine wp_region_G [] [(0, false), (1, false), (2, false), (3, false), (4, false), (5, false), (6, false), (7, false), (8, false), (9, false), (10, false), (11, false)] 49 rfl (by kernel_rfl) (by kernel_rfl) (by kernel_rfl) (fun c a d v w h => by cases d <;> exact h) (fun w6 hf6 => ?_)
          simp only [List.map_cons, List.map_nil, List.getElem?_toArray, List.getElem?_cons_succ, List.getElem?_cons_zero, Option.getD_some]
          have HF6 := Lib.hid hf6
          clear hf6
          repeat (apply wpG_t; · (intro w' hf'; have hfa := HF0.out.trans (HF6.out.trans hf' (by simp) (n := []) (by simp)) (by simp) (n := []) (by simp); obtain ⟨u0, u1, u2, u3, u4, -⟩ := five_of_heap (hfa.heap HSTK.out.obj (by simp)); obtain ⟨y0, y1, -⟩ := two_cells ((HF6.out.trans hf' (by simp) (n := []) (by simp)).heap HB0.out (by simp)); have hlk := HLK.out w' (HSTK.out.fr.trans hfa (by simp) (by simp)); clear hfa; go_wp2_with fail; exact ⟨rfl, rfl⟩))
          refine wpG_end ?_
          have hfa := HF0.out.trans HF6.out (by simp) (n := []) (by simp)
          have HFA := Lib.hid hfa
          have hfl := fill_below (fill_below HM.out HF0.out) HF6.out
          have hfr2 := fill_free hfl k
          have hcl := fill_cell hfl (by rw [List.length_map]; exact hkT)
          clear hfa
          go_wp2_with fail
          refine ⟨⟨k + 1, tvk, by have := HN.out; omega, by go_num, ?_, fill_next hfl (by rw [List.length_map]; exact hkT) (by rw [List.getElem_map, HSY.out]; rfl), HGG.out⟩, by simp [intOf]; omega⟩
          rw [← HTN.out, HTT.out]
          exact (HSTK.out.below HFA.out).other hfl HBW.out HVB.out (Fr.set0 _ _ _ _)
        · have HLK := Lib.hid (fun wx (hfx : Fr [] wA wx) => smap_no (HNM.out.below hfx) hxl hm)
          have HBB := Lib.hid (HBAD.out (fun q => hm (q rfl)))
          clear hm HGN HBAD
          go_upto_region 7 with fail
          clear y0 y1
          refine wp_region_G [] [(0, false), (1, false), (2, false), (3, false), (4, false), (5, false), (6, false), (7, false), (8, false), (9, false), (10, false), (11, false)] 49 rfl (by kernel_rfl) (by kernel_rfl) (by kernel_rfl) (fun c a d v w h => by cases d <;> exact h) (fun w6 hf6 => ?_)
          simp only [List.map_cons, List.map_nil, List.getElem?_toArray, List.getElem?_cons_succ, List.getElem?_cons_zero, Option.getD_some]
          have HF6 := Lib.hid hf6
          clear hf6
          repeat (apply wpG_t; · (intro w' hf'; have hfa := HF0.out.trans (HF6.out.trans hf' (by simp) (n := []) (by simp)) (by simp) (n := []) (by simp); obtain ⟨u0, u1, u2, u3, u4, -⟩ := five_of_heap (hfa.heap HSTK.out.obj (by simp)); obtain ⟨y0, y1, -⟩ := two_cells ((HF6.out.trans hf' (by simp) (n := []) (by simp)).heap HB0.out (by simp)); have hlk := HLK.out w' (HSTK.out.fr.trans hfa (by simp) (by simp)); clear hfa; go_wp2_with fail; exact ⟨rfl, rfl⟩))
          refine wpG_end ?_
          have hfa := HF0.out.trans HF6.out (by simp) (n := []) (by simp)
          have HFA := Lib.hid hfa
          clear hfa
          go_wp2_with fail
          go_ret2
          exact .inr ⟨HBB.out, rfl, HSTK.out.fr.trans HFA.out (by simp) (by simp)⟩
    · have hd1 : decide (k < n) = false := decide_eq_false hkn
      have hkl : k = (L.map intV).length := by rw [List.length_map, HLEN.out]; omega
      have hka : alt.take k = alt := by rw [hkl, List.length_map, HLEN.out, HN.out, List.take_length]
      rw [hka] at hst hgd
      have hown := fill_owns (base := wA.heap.size) hm hkl (by rw [List.length_map, HLEN.out]; simp [maxLen]; omega) HBW.out
      rw [List.length_map, HLEN.out] at hown
      have HOW := Lib.hid hown
      have HS2 := Lib.hid hst
      have HG2 := Lib.hid hgd
      clear hm hst hgd hkl hka hown
      go_wp2_with fail
      go_ret2
      exact .inl ⟨HG2.out, _, _, rfl, by rw [← HN.out]; exact HOW.out, HS2.out⟩
end Go.Proofs.YtgfpkmnmdehkpaaGreat

/-! The program's grammars (layer 14): add. -/
namespace Go.Proofs.YtgfpkmnmdehkpaaGreat
open Go.RowKit Go.Maps

theorem itemsOf_append (a b : List LineD) : itemsOf (a ++ b) = itemsOf a ++ itemsOf b := by unfold itemsOf; rw [List.flatMap_append]
theorem itemsOf_next {ls : List LineD} {k : Nat} (hk : k < ls.length) : itemsOf (ls.take (k + 1)) = itemsOf (ls.take k) ++ (ls[k]'hk).alts.flatten := by
  rw [List.take_succ_eq_append_getElem hk, itemsOf_append]
  congr 1
  unfold itemsOf
  simp
theorem rulesOf_next (names T : List (List UInt8)) {ls : List LineD} {k : Nat} (hk : k < ls.length) : rulesOf names T (ls.take (k + 1)) = rulesOf names T (ls.take k) ++ (ls[k]'hk).alts.map fun a => ⟨(k : Int), a.map (symG names T)⟩ := by
  unfold rulesOf
  have hl : (ls.take k).length = k := by rw [List.length_take]; omega
  rw [List.take_succ_eq_append_getElem hk, List.zipIdx_append, List.flatMap_append, hl]
  simp
theorem flat_next {α : Type} {l : List (List α)} {m : Nat} (hm : m < l.length) : (l.take (m + 1)).flatten = (l.take m).flatten ++ l[m]'hm := by
  rw [List.take_succ_eq_append_getElem hm, List.flatten_append]
  simp
theorem items_pre {ls : List LineD} {k : Nat} (hk : k < ls.length) (m : Nat) : ∃ S, itemsOf ls = (itemsOf (ls.take k) ++ ((ls[k]'hk).alts.take m).flatten) ++ S := by
  refine ⟨((ls[k]'hk).alts.drop m).flatten ++ itemsOf (ls.drop (k + 1)), ?_⟩
  have h1 : itemsOf ls = itemsOf (ls.take (k + 1)) ++ itemsOf (ls.drop (k + 1)) := by rw [← itemsOf_append, List.take_append_drop]
  have h2 : (ls[k]'hk).alts.flatten = ((ls[k]'hk).alts.take m).flatten ++ ((ls[k]'hk).alts.drop m).flatten := by rw [← List.flatten_append, List.take_append_drop]
  rw [h1, itemsOf_next hk, h2]
  simp [List.append_assoc]
theorem items_len : ∀ {ls : List LineD}, (∀ l ∈ ls, ∀ a ∈ l.alts, a.length ≤ 64) → (itemsOf ls).length ≤ 64 * sumA ls
  | [], _ => by simp [itemsOf, sumA]
  | l :: ls, h => by
    have h1 := items_len (ls := ls) (fun x hx => h x (by simp [hx]))
    have h2 : ∀ al : List (List ItemD), (∀ a ∈ al, a.length ≤ 64) → al.flatten.length ≤ 64 * al.length := fun al => by
      induction al with
      | nil => intro _; simp
      | cons a r ih =>
        intro hr
        have := ih (fun x hx => hr x (by simp [hx]))
        have := hr a (by simp)
        simp only [List.flatten_cons, List.length_append, List.length_cons]
        omega
    have h3 := h2 l.alts (h l (by simp))
    unfold itemsOf sumA at h1 ⊢
    simp only [List.flatMap_cons, List.length_append, List.map_cons, List.sum_cons]
    omega
theorem rulesUp_len (names T : List (List UInt8)) (ls : List LineD) (k : Nat) (hk : k ≤ ls.length) : (rulesOf names T (ls.take k)).length = sumA (ls.take k) := by
  induction k with
  | zero => simp [rulesOf, sumA]
  | succ k ih =>
    rw [rulesOf_next names T (show k < ls.length by omega), List.length_append, List.length_map, ih (by omega), sumA_next (show k < ls.length by omega)]
theorem sumA_mono {ls : List LineD} : ∀ k, sumA (ls.take k) ≤ sumA ls := fun k => by
  have : sumA ls = sumA (ls.take k) + sumA (ls.drop k) := by
    unfold sumA
    rw [← List.sum_append, ← List.map_append, List.take_append_drop]
  omega
/-- One rule more. -/
theorem RSt.rule {wA w1 w2 : World} {p bn bt : Nat} {nv tv rv rv' kv : Value} {T : List (List UInt8)} {R : List RuleG} {vs : List Value} {l : Int} {r : List Int} (h : RSt wA p bn bt nv tv rv T R vs w1)
    (hk : w1.ownsRow wA.heap.size 3 1 kv r.length (r.map intV)) (hr : w2.ownsRow wA.heap.size 49 2 rv' (R.length + 1) (((R.zip vs).map fun x => [intV x.1.left, x.2]).flatten ++ [intV l, kv])) (hf : Fr rv.ownBlock.toList w1 w2) :
    RSt wA p bn bt nv tv rv' T (R ++ [⟨l, r⟩]) (vs ++ [kv]) (w2.setCell ⟨p, 2, none⟩ rv') := by
  have hpn : p ∉ rv.ownBlock.toList := fun hm => notT_row h.rules (t := pRes) (by decide) p hm _ _ _ h.obj rfl
  have hbn : bt ∉ rv.ownBlock.toList := fun hm => by
    obtain ⟨es, c, hmm⟩ := h.tmap.heap
    have hk : rv.ownBlock = some bt := by simpa [Option.mem_toList] using hm
    rcases h.rules.2 with ⟨e, _⟩ | ⟨g, cap, cur, e, _, hg, _⟩
    · rw [e] at hk; cases hk
    · rw [e] at hk
      obtain rfl : g = bt := by simpa [Value.ownBlock] using hk
      rw [hg] at hmm; cases hmm
  have hs := Fr.set0 w2 p 2 rv'
  have ho2 := hf.heap h.obj hpn
  have np : ∀ t, pRes ≠ t → notT w2 [p] t := fun t ht => notT_box ho2 ht
  have hpb : bt ∉ [p] := fun hm => by
    obtain ⟨es, c, hmm⟩ := h.tmap.heap
    obtain rfl : bt = p := by simpa using hm
    rw [h.obj] at hmm; cases hmm
  have hlen := h.vlen
  refine ⟨heap_setCell_same ho2 (i := 2) rv', h.pge, h.bge, h.bne, ?_, (h.tmap.kept hf hbn).kept hs hpb, h.nodup, ?_, by simp [hlen], fun i a b => ?_, ?_⟩
  · exact owns_keptT (owns_keptT h.terms (notT_row h.rules (by decide)) hf) (np _ (by decide)) hs
  · have h1 := owns_keptT hr (np _ (by decide)) hs
    rw [List.zip_append hlen.symm, List.length_append]
    simpa using h1
  · by_cases hi : i < vs.length
    · have hi' : i < R.length := by omega
      have h1 := owns_keptT (owns_keptT (h.right i hi hi') (notT_row h.rules (by decide)) hf) (np _ (by decide)) hs
      rw [List.getElem_append_left hi, List.getElem_append_left hi']
      exact h1
    · have hi' : i = vs.length := by simp at a; omega
      subst hi'
      have h1 := owns_keptT (owns_keptT hk (notT_row h.rules (by decide)) hf) (np _ (by decide)) hs
      have e1 : (vs ++ [kv])[vs.length]'a = kv := by simp
      have e2 : (R ++ [(⟨l, r⟩ : RuleG)])[vs.length]'b = ⟨l, r⟩ := by simp [hlen]
      rw [e1, e2]
      exact h1
  · have h2 := h.fr.trans hf (by simp) (n := []) (fun i hi hlt => by
      have hk : rv.ownBlock = some i := by simpa [Option.mem_toList] using hi
      have := (h.rules.lt i hk).1
      omega)
    have := h.pge
    exact h2.trans hs (by simp) (fun i hi hlt => by simp at hi; omega)
def AddO (wA : World) (p bn bt : Nat) (nv : Value) (ls : List LineD) (names Tf : List (List UInt8)) (iv : Value) (wx : World) : Prop :=
  ∃ (k : Nat) (tv rv : Value) (vs : List Value), k ≤ ls.length ∧ iv = .int .i64 (k : Int) ∧ RSt wA p bn bt nv tv rv (termsOf (itemsOf (ls.take k))) (rulesOf names Tf (ls.take k)) vs wx ∧ goodA names (itemsOf (ls.take k))
def AddI (wA : World) (p bn bt : Nat) (nv : Value) (T0 : List (List UInt8)) (R0 : List RuleG) (k : Nat) (al : List (List ItemD)) (names Tf : List (List UInt8)) (iv : Value) (wx : World) : Prop :=
  ∃ (m : Nat) (tv rv : Value) (vs : List Value), m ≤ al.length ∧ iv = .int .i64 (m : Int) ∧ RSt wA p bn bt nv tv rv ((al.take m).flatten.foldl addT T0) (R0 ++ (al.take m).map fun a => ⟨(k : Int), a.map (symG names Tf)⟩) vs wx ∧ goodA names (al.take m).flatten
def RAdd (wA : World) (p bn bt : Nat) (nv : Value) (ls : List LineD) (names Tf : List (List UInt8)) (e : Ending) (w' : World) : Prop :=
  (¬ UndefL ls ∧ ∃ tv rv vs, e = .returned (.bool true) ∧ RSt wA p bn bt nv tv rv Tf (rulesOf names Tf ls) vs w') ∨ (UndefL ls ∧ e = .returned (.bool false) ∧ Fr [] wA w')
theorem rright_good {w wA : World} {p bn bt : Nat} {nv rv : Value} {T' names : List (List UInt8)} {R : List RuleG} {vs : List Value} {L : List Int} {alt : List ItemD} {P : Program} {f : FuncId} {args : Array Value} (hg : goodA names alt) (h : Calls P f args w (RRight w wA p bn bt nv rv T' R vs names L alt)) :
    Calls P f args w fun e w' => ∃ v tv', e = .returned (.tuple #[v, .bool true]) ∧ w'.ownsRow wA.heap.size 3 1 v alt.length (L.map intV) ∧ RSt wA p bn bt nv tv' rv T' R vs w' :=
  h.mono (by
    rintro e w' (⟨-, q⟩ | ⟨hn, -⟩)
    · exact q
    · exact (hn hg).elim)
theorem rright_bad {w wA : World} {p bn bt : Nat} {nv rv : Value} {T' names : List (List UInt8)} {R : List RuleG} {vs : List Value} {L : List Int} {alt : List ItemD} {P : Program} {f : FuncId} {args : Array Value} (hg : ¬ goodA names alt) (h : Calls P f args w (RRight w wA p bn bt nv rv T' R vs names L alt)) :
    Calls P f args w fun e w' => e = .returned (.tuple #[.slice none 0 0, .bool false]) ∧ Fr [] wA w' :=
  h.mono (by
    rintro e w' (⟨hn, -⟩ | ⟨-, q⟩)
    · exact (hg hn).elim
    · exact q)
theorem infoRule : (Tryz.prog.info? 49).map (fun i => (i.zero, i.size, i.bytes)) = some (some (.agg #[.int .i64 0, .slice none 0 0]), 2, 32) := by kernel_rfl
set_option maxRecDepth 100000 in
set_option maxHeartbeats 8000000 in
theorem pradd_any (wA : World) (p bn bt : Nat) (nv tv rv lv : Value) (names Tf : List (List UInt8)) (vs : List Value) (ls : List LineD) (w : World) (h : RSt wA p bn bt nv tv rv [] [] vs w) (hls : linesAt wA lv ls) (hne : names = ls.map (·.name)) (hTf : Tf = termsOf (itemsOf ls)) (hnm : smapAt wA bn names) (hnd : names.Nodup)
    (hz : SizeL ls) (hfit : ∀ l ∈ ls, ∀ a ∈ l.alts, a.length ≤ 64) (hsum : sumA ls ≤ 4096) (hlen : ls.length ≤ 256) : Calls Tryz.prog 77 #[.pointer (some ⟨p, 0, none⟩), lv] w (RAdd wA p bn bt nv ls names Tf) := by
  obtain ⟨iR, hiR, hz0, hz1, hz2⟩ := info_parts infoRule
  obtain ⟨a0, c0, rfl, hle, hmx⟩ := hls.form
  obtain ⟨n, hn⟩ : ∃ n, n = ls.length := ⟨_, rfl⟩
  rw [← hn] at hle hlen
  have HLS := Lib.hid hls
  rw [← hn] at HLS ⊢
  have HN := Lib.hid hn
  have HNE := Lib.hid hne
  have HTF := Lib.hid hTf
  have HNM := Lib.hid hnm
  have HND := Lib.hid hnd
  have HZ := Lib.hid hz
  have HFIT := Lib.hid hfit
  have HSUM := Lib.hid hsum
  have HH := Lib.hid h
  have HIL := Lib.hid (items_len hfit)
  clear hls hn hne hTf hnm hnd hz hfit hsum h
  go_enter Tryz.func77, Tryz.ntmps77
  go_wp2_with fail
  go_loopw [13] (AddO wA p bn bt nv ls names Tf) (fun iv _ => n - (intOf iv).toNat)
  case atStart => exact ⟨0, tv, rv, vs, Nat.zero_le _, rfl, HH.out, fun i hi => by simp [itemsOf] at hi⟩
  case round =>
    obtain ⟨k, tvk, rvk, vsk, hk, rfl, hst, hgd⟩ := hrel
    have hk' : k ≤ n := by have := HN.out; omega
    by_cases hkn : k < n
    · have hd1 : decide (k < n) = true := decide_eq_true hkn
      have hkr : k < ls.length := by have := HN.out; omega
      obtain ⟨q, off, v, rfl, k0, k1, hv⟩ := line_cells HLS.out k hkr
      have k0' := hst.fr.cell k0 (by simp)
      have k1' := hst.fr.cell k1 (by simp)
      have hpre := items_pre hkr
      have hin := itemsOf_next hkr
      have hrn := rulesOf_next names Tf hkr
      have hrl := rulesUp_len names Tf ls k hk
      have hsn := sumA_next hkr
      have hsm := sumA_mono (ls := ls) (k + 1)
      have hil := HIL.out
      have hxt := HZ.out.text _ (List.getElem_mem hkr)
      have hxf := HFIT.out _ (List.getElem_mem hkr)
      obtain ⟨al, hal⟩ : ∃ al, al = (ls[k]'hkr).alts := ⟨_, rfl⟩
      obtain ⟨nm, hnm⟩ : ∃ nm, nm = (ls[k]'hkr).name := ⟨_, rfl⟩
      rw [← hal] at hv hpre hin hrn hsn hxt hxf
      rw [← hnm] at k0'
      obtain ⟨T0, hT0⟩ : ∃ T0, T0 = termsOf (itemsOf (ls.take k)) := ⟨_, rfl⟩
      obtain ⟨R0, hR0⟩ : ∃ R0, R0 = rulesOf names Tf (ls.take k) := ⟨_, rfl⟩
      obtain ⟨I0, hI0⟩ : ∃ I0, I0 = itemsOf (ls.take k) := ⟨_, rfl⟩
      rw [← hT0, ← hR0] at hst
      rw [← hR0] at hrn hrl
      rw [← hI0] at hT0 hpre hin hgd
      obtain ⟨a2, c2, rfl, hle2, hmx2⟩ := hv.form
      obtain ⟨m2, hm2⟩ : ∃ m2, m2 = al.length := ⟨_, rfl⟩
      have HV := Lib.hid hv
      rw [← hm2] at k1' hle2 HV
      have HM2 := Lib.hid hm2
      have HPRE := Lib.hid hpre
      have HIN := Lib.hid hin
      have HRN := Lib.hid hrn
      have HXT := Lib.hid hxt
      have HXF := Lib.hid hxf
      have HT0 := Lib.hid hT0
      have HGD := Lib.hid hgd
      have HRB := Lib.hid (show R0.length + al.length ≤ 4096 by have := HSUM.out; omega)
      have hf0 := Fr.alloc wr (.cells #[encStr nm, .slice a2 m2 c2] pL)
      have hb0 := two_of_new wr (encStr nm) (.slice a2 m2 c2) pL
      obtain ⟨w0, hw0⟩ : ∃ w0, w0 = wr.alloc (.cells #[encStr nm, .slice a2 m2 c2] pL) := ⟨_, rfl⟩
      obtain ⟨q0, hq0⟩ : ∃ q0, q0 = wr.heap.size := ⟨_, rfl⟩
      rw [← hw0] at hf0 hb0
      rw [← hq0] at hb0
      have HS0 := Lib.hid (hst.below hf0)
      have HB0 := Lib.hid hb0
      have HW0 := Lib.hid hw0
      have HQ0 := Lib.hid hq0
      clear hpre hin hrn hrl hsn hsm hil hxt hxf hal hnm hT0 hR0 hI0 hm2 hgd hf0 hb0 hw0 hq0 hv k0 k1 hst
      go_upto_region 4 with fail
      rw [show (Obj.cells #[.string { data := nm.toArray }, .slice a2 m2 c2] pL) = (Obj.cells #[encStr nm, .slice a2 m2 c2] pL) from rfl, ← HW0.out, ← HQ0.out]
      clear k0' k1'
      obtain ⟨y0, y1, -⟩ := two_cells HB0.out
      go_wp2_with fail
      go_loopw [21] (AddI wA p bn bt nv T0 R0 k al names Tf) (fun iv _ => m2 - (intOf iv).toNat)
      case atStart => exact ⟨0, tvk, rvk, vsk, Nat.zero_le _, rfl, by simpa using HS0.out, fun i hi => by simp at hi⟩
      case round =>
        clear y0 y1
        obtain ⟨m, tvm, rvm, vsm, hm, rfl, hst, hgd⟩ := hrel
        have hm' : m ≤ m2 := by have := HM2.out; omega
        have HST := Lib.hid hst
        have HGD2 := Lib.hid hgd
        by_cases hmn : m < m2
        · have hd2 : decide (m < m2) = true := decide_eq_true hmn
          have hmr : m < al.length := by have := HM2.out; omega
          obtain ⟨q2, off2, av, rfl, k2, hav⟩ := alt_cell HV.out m hmr
          have k2' := hst.fr.cell k2 (by simp)
          have hfl := flat_next hmr
          have hxt := HXT.out _ (List.getElem_mem hmr)
          have hxf := HXF.out _ (List.getElem_mem hmr)
          obtain ⟨alt, halt⟩ : ∃ alt, alt = al[m]'hmr := ⟨_, rfl⟩
          rw [← halt] at hav hfl hxt hxf
          have hpre := HPRE.out (m + 1)
          rw [hfl] at hpre
          obtain ⟨S, hS⟩ := hpre
          have hTl : ((al.take m).flatten.foldl addT T0).length ≤ 262144 := by
            have h1 := acc_len (al.take m).flatten T0
            have h2 : T0.length ≤ I0.length := by rw [HT0.out]; unfold termsOf; have := acc_len I0 []; simpa using this
            have h3 := congrArg List.length hS
            simp only [List.length_append] at h3
            have := HIL.out
            have := HSUM.out
            omega
          have hlater : ∃ S', Tf = alt.foldl addT ((al.take m).flatten.foldl addT T0) ++ S' := by
            rw [HTF.out, hS, HT0.out]
            unfold termsOf
            rw [List.foldl_append, List.foldl_append, List.foldl_append]
            exact acc_pre _ _
          have hsub : ∀ i ∈ alt, i ∈ itemsOf ls := fun i hi => by rw [hS]; simp [hi]
          have hrt := prright_any wA p bn bt nv tvm rvm av _ Tf names _ vsm alt wr hst hav HNM.out HND.out (by rw [HNE.out, List.length_map]; have := HN.out; omega) (by omega) (by omega) (fun i hi => by have := hxt i hi; simp [maxLen]; omega) hlater
          obtain ⟨T1, hT1⟩ : ∃ T1, T1 = (al.take m).flatten.foldl addT T0 := ⟨_, rfl⟩
          obtain ⟨R1, hR1⟩ : ∃ R1, R1 = R0 ++ (al.take m).map fun a => (⟨(k : Int), a.map (symG names Tf)⟩ : RuleG) := ⟨_, rfl⟩
          have hR1l : R1.length ≤ 4096 := by
            rw [hR1, List.length_append, List.length_map, List.length_take]
            have := HRB.out
            omega
          rw [← hT1, ← hR1] at hrt hst
          obtain ⟨a5, c5, rfl, hle5, hmx5⟩ := hav.form
          obtain ⟨n5, hn5⟩ : ∃ n5, n5 = alt.length := ⟨_, rfl⟩
          rw [← hn5] at hrt k2'
          by_cases hg : goodA names alt
          · have HRT := Lib.hid (rright_good hg hrt)
            have HG2 := Lib.hid hg
            have HFL := Lib.hid hfl
            have HALT := Lib.hid halt
            have HT1 := Lib.hid hT1
            have HR1 := Lib.hid hR1
            have HN5 := Lib.hid hn5
            clear hfl hxt hxf halt hS hTl hlater hsub hrt hT1 hR1 hn5 hg hav hle5 hst hgd k2
            go_upto_region 10 with (go_at_call 100; refine HRT.out.mono ?_; rintro e w2 ⟨v, tv2, rfl, hown, hs2⟩; obtain ⟨a6, c6, rfl, hc6, hm6⟩ := owns_slice hown)
            obtain ⟨u0, u1, u2, u3, u4, z1, z2⟩ := five_of_heap hs2.obj
            obtain ⟨a7, c7, rfl, hc7, hm7⟩ := owns_slice hs2.rules
            have hge : wA.heap.size ≤ w2.heap.size := hs2.fr.size
            have HS2 := Lib.hid hs2
            have HOW := Lib.hid hown
            have hrow := hs2.rules
            have hpn : p ∉ (Value.slice a7 R1.length c7).ownBlock.toList := fun hm => notT_row hs2.rules (t := pRes) (by decide) p hm _ _ _ hs2.obj rfl
            have HPN := Lib.hid hpn
            obtain ⟨n6, hn6⟩ : ∃ n6, n6 = alt.length := ⟨_, rfl⟩
            rw [← hn6]
            have HN6 := Lib.hid hn6
            clear hown hs2 hpn hn6
            go_wp2_with (at_builtin; refine wpL_appendS rfl _ _ 23 rfl wA.heap.size 49 iR _ 2 32 Tryz.underlying23 hiR hz0 hz1 hz2 (by rfl) (by decide) (.slice a7 R1.length c7) R1.length _ rfl hrow [.int .i64 (k : Int), .slice a6 n6 c6] rfl (by intro u hu; simp at hu; rcases hu with rfl | rfl <;> rfl) rfl (by omega) (by simp [maxLen]; omega) hge ?_; intro v3 w3 hown3 hf3 hb3; obtain ⟨a8, c8, rfl, hc8, hm8⟩ := owns_slice hown3; have hf23 := (Fr.alloc w2 (.cells [Value.int .i64 (k : Int), .slice a6 n6 c6].toArray 49)).trans hf3 (by simp) (n := (Value.slice a7 R1.length c7).ownBlock.toList) (fun _ hi _ => hi); obtain ⟨u0, u1, u2, u3, u4, z1, z2⟩ := five_of_heap (hf23.heap HS2.out.obj HPN.out))
            refine ⟨⟨m + 1, tv2, .slice a8 (R1.length + 1) c8, vsm ++ [.slice a6 n6 c6], by omega, by go_num, ?_, ?_⟩, by simp [intOf]; omega⟩
            · have := RSt.rule (l := (k : Int)) (r := alt.map (symG names Tf)) (kv := .slice a6 n6 c6) HS2.out (by rw [List.length_map, HN6.out]; exact HOW.out) hown3 hf23
              rw [HFL.out, List.foldl_append, ← HT1.out, List.take_succ_eq_append_getElem hmr, List.map_append, ← List.append_assoc, ← HR1.out, ← HALT.out]
              exact this
            · rw [HFL.out]
              exact fun i hi => by
                rcases List.mem_append.1 hi with hi | hi
                · exact HGD2.out i hi
                · exact HG2.out i hi
          · have HRT := Lib.hid (rright_bad hg hrt)
            have HUN := Lib.hid (show UndefL ls from by
              unfold goodA at hg
              obtain ⟨i, hi⟩ := Classical.not_forall.1 hg
              rw [Classical.not_imp, Classical.not_imp] at hi
              exact ⟨i, hsub i hi.1, hi.2.1, by rw [← HNE.out]; exact hi.2.2⟩)
            clear hfl hxt hxf halt hS hTl hlater hsub hrt hT1 hR1 hn5 hg hav hle5 hst hgd k2
            go_wp2_with (go_at_call 100; refine HRT.out.mono ?_; rintro e w2 ⟨rfl, hf2⟩)
            go_ret
            exact .inr ⟨HUN.out, rfl, hf2⟩
        · have hd2 : decide (m < m2) = false := decide_eq_false hmn
          have hml : m = al.length := by have := HM2.out; omega
          rw [hml, List.take_length] at hst hgd
          have HST2 := Lib.hid (show RSt wA p bn bt nv tvm rvm (termsOf (itemsOf (ls.take (k + 1)))) (rulesOf names Tf (ls.take (k + 1))) vsm wr by
            rw [HRN.out, HIN.out]
            unfold termsOf
            rw [List.foldl_append]
            have := HT0.out
            unfold termsOf at this
            rw [← this]
            exact hst)
          have HG3 := Lib.hid (show goodA names (itemsOf (ls.take (k + 1))) by
            rw [HIN.out]
            exact fun i hi => by
              rcases List.mem_append.1 hi with hi | hi
              · exact HGD.out i hi
              · exact hgd i hi)
          clear hst hgd hml
          go_wp2_with fail
          exact ⟨⟨k + 1, tvm, rvm, vsm, by have := HN.out; omega, by go_num, HST2.out, HG3.out⟩, by simp [intOf]; omega⟩
    · have hd1 : decide (k < n) = false := decide_eq_false hkn
      have hkl : k = ls.length := by have := HN.out; omega
      rw [hkl, List.take_length] at hst hgd
      have HST := Lib.hid (show RSt wA p bn bt nv tvk rvk Tf (rulesOf names Tf ls) vsk wr by rw [HTF.out] at hst ⊢; exact hst)
      have HGD := Lib.hid (show ¬ UndefL ls from fun ⟨i, hi, h1, h2⟩ => h2 (by rw [← HNE.out]; exact hgd i hi h1))
      clear hst hgd hkl
      go_wp2_with fail
      go_ret
      exact .inl ⟨HGD.out, _, _, _, rfl, HST.out⟩
end Go.Proofs.YtgfpkmnmdehkpaaGreat

/-! The program's grammars (layer 14): Resolve. -/
namespace Go.Proofs.YtgfpkmnmdehkpaaGreat
open Go.RowKit Go.Maps

theorem results_gram {P : Program} {fn : Func} {p u : Tmp} {ty : TypeId} (h : fn.results = #[.cell p ty, .tmp u]) (tmps : Array Value) (w : World) (g : Nat) (t : TypeId) (cs : Array Value) (d : TypeDesc)
    (hp : tmps.getD p undef = .pointer (some ⟨g, 0, none⟩)) (hg : w.heap[g]? = some (.cells cs t (0, 0)))
    (hu : P.underlying ty = some d) (hd : (match d with | .struct _ | .array _ _ => true | _ => false) = true) (hi : (P.info? ty).map (·.size) = some cs.size) (v : Value) (hv : tmps.getD u undef = v) :
    (results fn tmps).run P w = .ok (.tuple #[.agg cs, v]) w := by
  rw [results_cell_tmp h, hp]
  subst hv
  simp [asAddr, run_loadVar_row w g t ty cs (0, 0) d hg hu hd hi]
theorem sizeGram : (Tryz.prog.info? 25).map (·.size) = some 3 := by kernel_rfl
theorem gram_set {w : World} {p : Nat} {a b c : Value} {t : TypeId} (h : w.heap[p]? = some (.cells #[a, b, c] t (0, 0))) (x y z : Value) : (((w.setCell ⟨p, 0, none⟩ x).setCell ⟨p, 1, none⟩ y).setCell ⟨p, 2, none⟩ z).heap[p]? = some (.cells #[x, y, z] t (0, 0)) := by
  have h1 := heap_setCell_same h (i := 0) x
  have h2 := heap_setCell_same h1 (i := 1) y
  have h3 := heap_setCell_same h2 (i := 2) z
  exact h3
theorem fr_set3 (w : World) (p : Nat) (x y z : Value) : Fr [p] w (((w.setCell ⟨p, 0, none⟩ x).setCell ⟨p, 1, none⟩ y).setCell ⟨p, 2, none⟩ z) :=
  ((Fr.set0 w p 0 x).trans (Fr.set0 _ p 1 y) (fun _ z _ => z) (fun _ z _ => z)).trans (Fr.set0 _ p 2 z) (fun _ z _ => z) (fun _ z _ => z)
theorem gram_nil (w : World) : gramAt w (.agg #[.slice none 0 0, .slice none 0 0, .slice none 0 0]) emptyG := by
  refine ⟨_, _, _, rfl, cellsAt.nil w, cellsAt.nil w, [], rfl, ?_, fun i h => by simp at h⟩
  exact .inl ⟨_, _, rfl, by simp, rfl⟩
/-- The grammar that stands in the resolver. -/
theorem RSt.gram {wA wx : World} {p bn bt B : Nat} {nv tv rv : Value} {names T : List (List UInt8)} {R : List RuleG} {vs : List Value} (h : RSt wA p bn bt nv tv rv T R vs wx) (hn : wx.ownsRow B 9 1 nv names.length (names.map encStr)) : gramAt wx (.agg #[nv, tv, rv]) ⟨names, T, R⟩ := by
  refine ⟨_, _, _, rfl, cellsAt_of_owns (by rw [List.length_map]; exact hn), cellsAt_of_owns (by rw [List.length_map]; exact h.terms), vs, h.vlen, elems_of_owns (by rw [List.length_map, List.length_zip, h.vlen, Nat.min_self]; exact h.rules) (fun x hx => by obtain ⟨f, _, rfl⟩ := List.mem_map.1 hx; rfl), fun i a b => ?_⟩
  exact cellsAt_of_owns (by rw [List.length_map]; exact h.right i a b)
theorem RSt.rulesA {wA wx : World} {p bn bt : Nat} {nv tv rv : Value} {T : List (List UInt8)} {R : List RuleG} {vs : List Value} (h : RSt wA p bn bt nv tv rv T R vs wx) : rulesAt wx rv R := by
  refine ⟨vs, h.vlen, elems_of_owns (by rw [List.length_map, List.length_zip, h.vlen, Nat.min_self]; exact h.rules) (fun x hx => by obtain ⟨f, _, rfl⟩ := List.mem_map.1 hx; rfl), fun i a b => ?_⟩
  exact cellsAt_of_owns (by rw [List.length_map]; exact h.right i a b)
/-- Another block of an older world has been written. -/
theorem RSt.gramSet {wA wx wy : World} {p bn bt B g0 : Nat} {nv tv rv : Value} {names T : List (List UInt8)} {R : List RuleG} {vs : List Value} (h : RSt wA p bn bt nv tv rv T R vs wx) (hn : wx.ownsRow B 9 1 nv names.length (names.map encStr)) (hB : g0 < B) (hA : g0 < wA.heap.size) (hf : Fr [g0] wx wy) : gramAt wy (.agg #[nv, tv, rv]) ⟨names, T, R⟩ := by
  have key : ∀ {base sz n : Nat} {e : TypeId} {v : Value} {xs : List Value}, wx.ownsRow base e sz v n xs → g0 < base → wy.ownsRow base e sz v n xs := fun ho hb => owns_kept ho hf (fun k hk hm => by
    have := (ho.lt k hk).1
    simp at hm; omega)
  refine ⟨_, _, _, rfl, cellsAt_of_owns (by rw [List.length_map]; exact key hn hB), cellsAt_of_owns (by rw [List.length_map]; exact key h.terms hA), vs, h.vlen, elems_of_owns (by rw [List.length_map, List.length_zip, h.vlen, Nat.min_self]; exact key h.rules hA) (fun x hx => by obtain ⟨f, _, rfl⟩ := List.mem_map.1 hx; rfl), fun i a b => ?_⟩
  exact cellsAt_of_owns (by rw [List.length_map]; exact key (h.right i a b) hA)
/-- The rules of lines are rules that a grammar may have. -/
theorem gramOf_rules {ls : List LineD} (hB : ¬ BoundL ls) (hU : ¬ UndefL ls) : ∀ r ∈ (gramOf ls).rules, ruleB (gramOf ls) r = true := by
  intro r hr
  obtain ⟨i, l, hl, a, ha, rfl⟩ := rules_mem.1 (show r ∈ rulesOf _ _ ls from hr)
  have hil : i < ls.length := by
    rcases Nat.lt_or_ge i ls.length with q | q
    · exact q
    · rw [List.getElem?_eq_none q] at hl; cases hl
  have hlm : l ∈ ls := List.mem_of_getElem? hl
  have hnl : (gramOf ls).names.length = ls.length := by simp [gramOf]
  refine ruleB_iff.2 ⟨by simp, by simp only; omega, ?_, fun s hs => ?_⟩
  · simp only [List.length_map]
    rcases Nat.lt_or_ge 64 a.length with q | q
    · exact absurd (.inl ⟨l, hlm, a, ha, q⟩) hB
    · exact q
  · obtain ⟨it, hit, rfl⟩ := List.mem_map.1 hs
    have him : it ∈ itemsOf ls := items_mem.2 ⟨l, hlm, a, ha, hit⟩
    refine sym_range (names := (gramOf ls).names) (terms := (gramOf ls).terms) (by rw [hnl]; omega) (fun hb => terms_mem.2 ⟨it, him, hb, rfl⟩) (fun hb => ?_)
    rcases Classical.em (it.text ∈ ls.map (·.name)) with q | q
    · exact q
    · exact absurd ⟨it, him, hb, q⟩ hU
theorem gram_rules_len {ls : List LineD} (hB : ¬ BoundL ls) : (gramOf ls).rules.length ≤ 4096 := by
  show (rulesOf _ _ ls).length ≤ 4096
  rw [rules_len]
  rcases Nat.lt_or_ge 4096 (ls.map fun l => l.alts.length).sum with q | q
  · exact absurd (.inr (.inl q)) hB
  · exact q
theorem radd_good {wA : World} {p bn bt : Nat} {nv : Value} {ls : List LineD} {names Tf : List (List UInt8)} {P : Program} {f : FuncId} {args : Array Value} {w : World} (hg : ¬ UndefL ls) (h : Calls P f args w (RAdd wA p bn bt nv ls names Tf)) :
    Calls P f args w fun e w' => ∃ tv rv vs, e = .returned (.bool true) ∧ RSt wA p bn bt nv tv rv Tf (rulesOf names Tf ls) vs w' :=
  h.mono (by
    rintro e w' (⟨-, q⟩ | ⟨hn, -⟩)
    · exact q
    · exact (hg hn).elim)
theorem radd_bad {wA : World} {p bn bt : Nat} {nv : Value} {ls : List LineD} {names Tf : List (List UInt8)} {P : Program} {f : FuncId} {args : Array Value} {w : World} (hg : UndefL ls) (h : Calls P f args w (RAdd wA p bn bt nv ls names Tf)) :
    Calls P f args w fun e w' => e = .returned (.bool false) ∧ Fr [] wA w' :=
  h.mono (by
    rintro e w' (⟨hn, -⟩ | ⟨-, q⟩)
    · exact (hn hg).elim
    · exact q)
set_option maxRecDepth 100000 in
set_option maxHeartbeats 16000000 in
theorem presolve_any : ProgResolve := by
  intro ls lv w hls hz
  obtain ⟨a0, c0, rfl, hle, hmx⟩ := hls.form
  obtain ⟨n, hn⟩ : ∃ n, n = ls.length := ⟨_, rfl⟩
  rw [← hn] at hle
  have HLS := Lib.hid hls
  rw [← hn] at HLS ⊢
  have HN := Lib.hid hn
  have HZ := Lib.hid hz
  have hlb := lfit_bound ls
  obtain ⟨Q, hQ⟩ : ∃ Q, Q = resolveG ls := ⟨_, rfl⟩
  rw [← hQ]
  unfold resolveG at hQ
  rw [hlb] at hQ
  have hb0 := heap_alloc_new w (.cells #[.slice none 0 0, .slice none 0 0, .slice none 0 0] 25)
  have hf0 := Fr.alloc w (.cells #[.slice none 0 0, .slice none 0 0, .slice none 0 0] 25)
  obtain ⟨w0, hw0⟩ : ∃ w0, w0 = w.alloc (.cells #[.slice none 0 0, .slice none 0 0, .slice none 0 0] 25) := ⟨_, rfl⟩
  obtain ⟨g0, hg0⟩ : ∃ g0, g0 = w.heap.size := ⟨_, rfl⟩
  rw [← hw0] at hb0 hf0
  rw [← hg0] at hb0
  have HG0 := Lib.hid (show w.heap.size ≤ g0 by omega)
  have HGL := Lib.hid (show g0 < w0.heap.size from (Array.getElem?_eq_some_iff.1 hb0).1)
  have HB0 := Lib.hid hb0
  have HF0 := Lib.hid hf0
  have HW0 := Lib.hid hw0
  have HQ0 := Lib.hid hg0
  have hfit := plinesfit_any ls _ w0 (hls.below hf0) hz
  rw [← hn] at hfit
  have HFIT := Lib.hid hfit
  have HERR := Lib.hid (fun (wx : World) (e : Int) (hfx : Fr [] w0 wx) (hq : Q = ⟨emptyG, e⟩) => show Fr [] w (((wx.setCell ⟨g0, 0, none⟩ (.slice none 0 0)).setCell ⟨g0, 1, none⟩ (.slice none 0 0)).setCell ⟨g0, 2, none⟩ (.slice none 0 0)) ∧ gramAt (((wx.setCell ⟨g0, 0, none⟩ (.slice none 0 0)).setCell ⟨g0, 1, none⟩ (.slice none 0 0)).setCell ⟨g0, 2, none⟩ (.slice none 0 0)) (.agg #[.slice none 0 0, .slice none 0 0, .slice none 0 0]) Q.g ∧ e = Q.err from
    ⟨(HF0.out.trans hfx (by simp) (n := []) (by simp)).trans (fr_set3 wx g0 _ _ _) (by simp) (fun i hi hlt => by have := HG0.out; simp at hi; omega), by rw [hq]; exact gram_nil _, by rw [hq]⟩)
  clear hls hz hn hlb hb0 hf0 hw0 hg0 hfit
  go_enter Tryz.func42, Tryz.ntmps42
  go_upto_region 1 with fail
  rw [← HW0.out, ← HQ0.out]
  cases hfb : lfitB ls with
  | false =>
    rw [hfb] at HFIT hQ
    have HQE := Lib.hid (show Q = ⟨emptyG, 19⟩ from hQ)
    clear hQ hfb
    go_wp2_with (go_at_call 74; refine HFIT.out.mono ?_; rintro e w1 ⟨rfl, hf1⟩; have hb1 := hf1.heap HB0.out (by simp); obtain ⟨x0, x1, x2, z0, z1, z2⟩ := three_of_heap hb1)
    have hh := gram_set hb1 (.slice none 0 0) (.slice none 0 0) (.slice none 0 0)
    obtain ⟨r1, r2, r3⟩ := HERR.out w1 19 hf1 HQE.out
    exact bodyPost_ret (results_gram rfl _ _ g0 25 #[.slice none 0 0, .slice none 0 0, .slice none 0 0] _ rfl hh Tryz.underlying25 rfl sizeGram _ rfl) rfl ⟨_, by rw [← r3]; rfl, r2, r1⟩
  | true =>
    rw [hfb] at HFIT hQ
    have hnb : ¬ BoundL ls := fun h => by have := boolOf_true h; rw [lfit_bound, hfb] at this; cases this
    have HNB := Lib.hid hnb
    rw [if_neg (by simp)] at hQ
    obtain ⟨names, hnames⟩ : ∃ names, names = ls.map (·.name) := ⟨_, rfl⟩
    have hnl : names.length = n := by rw [hnames, List.length_map, HN.out]
    have hn256 : n ≤ 256 := by
      rw [HN.out]
      exact Nat.le_of_not_lt fun q => hnb (.inr (.inr q))
    have hnx : ∀ x ∈ names, x.length ≤ maxLen := fun x hx => by
      rw [hnames] at hx
      obtain ⟨l, hl, rfl⟩ := List.mem_map.1 hx
      have := HZ.out.name l hl
      simp [maxLen]; omega
    have hnms := fun w1 (hf1 : Fr [] w0 w1) => pnames_any ls _ w1 ((HLS.out.below HF0.out).below hf1) HZ.out
    rw [← hnames] at hnms
    rw [← hnames] at hQ
    have HNMS := Lib.hid hnms
    have HNX := Lib.hid hnx
    have HNAMES := Lib.hid hnames
    have HNL := Lib.hid hnl
    have HQQ := Lib.hid hQ
    clear hQ hfb hnb hnames hnl hnx hnms
    go_upto_region 3 with (go_at_call 74; refine HFIT.out.mono ?_; rintro e w1 ⟨rfl, hf1⟩)
    have HF1 := Lib.hid hf1
    clear hf1
    go_upto_region 4 with (go_at_call 75; refine (HNMS.out w1 HF1.out).mono ?_; rintro e w2 ⟨nv, rfl, hnv, hf2⟩; obtain ⟨a1, c1, rfl, hc1, hm1⟩ := owns_slice hnv)
    have HNV := Lib.hid hnv
    have HF2 := Lib.hid (HF1.out.trans hf2 (by simp) (n := []) (by simp))
    have hpl := pplaces_s names _ w2 (show strsAt w2 (.slice a1 names.length c1) names from cellsAt_of_owns (by rw [List.length_map]; exact hnv)) (by rw [HNL.out]; omega) HNX.out
    rw [HNL.out] at hpl HNV ⊢
    have HPL := Lib.hid hpl
    have HGE1 := Lib.hid (show g0 < w1.heap.size by have := HF1.out.size; have := HGL.out; omega)
    have hmm := @run_makeMap Tryz.prog
    clear hnv hf2 hpl
    go_upto_region 5 with (go_at_call 76; refine HPL.out.mono ?_; rintro e w3 ⟨bn, rfl, hbn, hge3, hf3⟩)
    have HF3 := Lib.hid (HF2.out.trans hf3 (by simp) (n := []) (by simp))
    have HBN := Lib.hid hbn
    have HNV3 := Lib.hid (owns_kept HNV.out hf3 (by simp))
    have HBL := Lib.hid (show bn < w3.heap.size by obtain ⟨es, c, hh⟩ := hbn.heap; exact (Array.getElem?_eq_some_iff.1 hh).1)
    have HGA := Lib.hid (show g0 < w3.heap.size by have := HF3.out.size; have := HGL.out; omega)
    clear hbn hge3 hf3 hmm
    have hm0 : smapAt (w3.alloc (.map #[] 0)) w3.heap.size [] := World.ownsMap_made (H := Unit) w3 Tryz.prog 9 (plainElem Tryz.prog 3)
    have hfa := Fr.alloc w3 (.map #[] 0)
    obtain ⟨wM, hwM⟩ : ∃ wM, wM = w3.alloc (.map #[] 0) := ⟨_, rfl⟩
    obtain ⟨bt, hbt⟩ : ∃ bt, bt = w3.heap.size := ⟨_, rfl⟩
    have hsM : wM.heap.size = w3.heap.size + 1 := by rw [hwM, World.size_alloc]
    rw [← hwM] at hm0 hfa
    rw [← hbt] at hm0
    have hbB := heap_alloc_new wM (.cells #[.slice a1 n c1, .slice none 0 0, .slice none 0 0, .map (some bn), .map (some bt)] pRes)
    have hfB := Fr.alloc wM (.cells #[.slice a1 n c1, .slice none 0 0, .slice none 0 0, .map (some bn), .map (some bt)] pRes)
    obtain ⟨wB, hwB⟩ : ∃ wB, wB = wM.alloc (.cells #[.slice a1 n c1, .slice none 0 0, .slice none 0 0, .map (some bn), .map (some bt)] pRes) := ⟨_, rfl⟩
    obtain ⟨p, hp⟩ : ∃ p, p = bt + 1 := ⟨_, rfl⟩
    rw [← hwB] at hbB hfB
    rw [show wM.heap.size = p by omega] at hbB
    have HWM := Lib.hid hwM
    have HBT := Lib.hid hbt
    have HWB := Lib.hid hwB
    have HP := Lib.hid hp
    have HRS := Lib.hid (show RSt w3 p bn bt (.slice a1 n c1) (.slice none 0 0) (.slice none 0 0) [] [] [] wB from
      ⟨hbB, by omega, by omega, HBL.out, World.ownsRow_nil _ _ _ _, hm0.below hfB, by simp, World.ownsRow_nil _ _ _ _, rfl, fun i h => by simp at h, hfa.trans hfB (by simp) (by simp)⟩)
    clear hm0 hfa hwM hbt hsM hbB hfB hwB hp
    rw [← HBT.out]
    rw [← HP.out]
    rw [← HWM.out]
    rw [← HWB.out]
    have HFB := Lib.hid (HF3.out.trans HRS.out.fr (by simp) (n := []) (by simp))
    have HBNB := Lib.hid (show wB.ownsMap Tryz.prog 9 (plainElem Tryz.prog 3) bn names.length (plD (names.map Lit.string)) from HBN.out.below HRS.out.fr)
    obtain ⟨u0, u1, u2, u3, u4, z1, z2⟩ := five_of_heap HRS.out.obj
    have hb0B := HFB.out.heap HB0.out (by simp)
    obtain ⟨x0, x1, x2, s0, s1, s2⟩ := three_of_heap hb0B
    clear hb0B
    by_cases hnd : names.Nodup
    rotate_left
    · have hlt : decide ((distS names : Int) < (n : Int)) = true := decide_eq_true (by
        have h1 := distS_le names
        have h2 : distS names ≠ names.length := fun e => hnd (distS_nodup.1 e)
        have := HNL.out
        omega)
      have hlt2 : decide (distS names < n) = true := decide_eq_true (by have := of_decide_eq_true hlt; omega)
      have HQE := Lib.hid (show Q = ⟨emptyG, 15⟩ by rw [HQQ.out, if_pos (boolOf_false hnd)])
      clear hnd
      go_wp2_with (at_len; refine wpList_len_own _ rfl _ 118 rfl 9 3 Tryz.underlying118 _ bn _ _ rfl HBNB.out ?_; rw [show size (plD (names.map Lit.string)) = distS names from rfl])
      have hb1 := (HFB.out).heap HB0.out (by simp)
      have hh := gram_set hb1 (.slice none 0 0) (.slice none 0 0) (.slice none 0 0)
      obtain ⟨r1, r2, r3⟩ := HERR.out _ 15 (HFB.out) HQE.out
      exact bodyPost_ret (results_gram rfl _ _ g0 25 #[.slice none 0 0, .slice none 0 0, .slice none 0 0] _ rfl hh Tryz.underlying25 rfl sizeGram _ rfl) rfl ⟨_, by rw [← r3]; rfl, r2, r1⟩
    have hlt : decide ((distS names : Int) < (n : Int)) = false := decide_eq_false (by rw [distS_nodup.2 hnd, HNL.out]; omega)
    have hlt2 : decide (distS names < n) = false := decide_eq_false (by rw [distS_nodup.2 hnd, HNL.out]; omega)
    have hQ := HQQ.out
    rw [if_neg (by rw [boolOf_true hnd]; simp)] at hQ
    obtain ⟨Tf, hTf⟩ : ∃ Tf, Tf = termsOf (itemsOf ls) := ⟨_, rfl⟩
    have hfit : ∀ l ∈ ls, ∀ a ∈ l.alts, a.length ≤ 64 := fun l hl a ha => Nat.le_of_not_lt fun q => HNB.out (.inl ⟨l, hl, a, ha, q⟩)
    have hsum : sumA ls ≤ 4096 := Nat.le_of_not_lt fun q => HNB.out (.inr (.inl q))
    have hadd := pradd_any w3 p bn bt (.slice a1 n c1) _ _ _ names Tf [] ls wB HRS.out (HLS.out.below (HF0.out.trans HF3.out (by simp) (by simp))) HNAMES.out hTf HBN.out hnd HZ.out hfit hsum (by rw [← HN.out]; exact hn256)
    have htl : Tf.length ≤ 1000000 := by
      have h1 := acc_len (itemsOf ls) []
      have h2 := items_len hfit
      rw [hTf]
      unfold termsOf
      simp at h1
      omega
    have HTL := Lib.hid htl
    have HTF := Lib.hid hTf
    clear htl hfit hsum
    by_cases hu : UndefL ls
    · have HADD := Lib.hid (radd_bad hu hadd)
      have HQE := Lib.hid (show Q = ⟨emptyG, 16⟩ by rw [hQ, if_pos (boolOf_true hu)])
      clear hQ hadd hu hnd hTf
      go_wp2_with (first
        | (at_len; refine wpList_len_own _ rfl _ 118 rfl 9 3 Tryz.underlying118 _ bn _ _ rfl HBNB.out ?_; rw [show size (plD (names.map Lit.string)) = distS names from rfl])
        | (go_at_call 77; refine HADD.out.mono ?_; rintro e w4 ⟨rfl, hf4⟩; have HF4 := Lib.hid (HF3.out.trans hf4 (by simp) (n := []) (by simp)); obtain ⟨x0, x1, x2, s0, s1, s2⟩ := three_of_heap (HF4.out.heap HB0.out (by simp))))
      have hb1 := (HF4.out).heap HB0.out (by simp)
      have hh := gram_set hb1 (.slice none 0 0) (.slice none 0 0) (.slice none 0 0)
      obtain ⟨r1, r2, r3⟩ := HERR.out _ 16 (HF4.out) HQE.out
      exact bodyPost_ret (results_gram rfl _ _ g0 25 #[.slice none 0 0, .slice none 0 0, .slice none 0 0] _ rfl hh Tryz.underlying25 rfl sizeGram _ rfl) rfl ⟨_, by rw [← r3]; rfl, r2, r1⟩
    have HADD := Lib.hid (radd_good hu hadd)
    rw [if_neg (by rw [boolOf_false hu]; simp)] at hQ
    have hgo : gramOf ls = ⟨names, Tf, rulesOf names Tf ls⟩ := by unfold gramOf; rw [← HNAMES.out, ← hTf]
    have hrb := gramOf_rules HNB.out hu
    have hrl := gram_rules_len HNB.out
    rw [hgo] at hQ hrb hrl
    simp only at hQ hrl
    obtain ⟨R, hR⟩ : ∃ R, R = rulesOf names Tf ls := ⟨_, rfl⟩
    rw [← hR] at hQ hrb hrl HADD
    have hrr : ∀ r ∈ R, r.right.length ≤ 64 := fun r hr => (ruleB_iff.1 (hrb r hr)).2.2.1
    have HRR := Lib.hid hrr
    clear hgo hadd hu hR hrr hTf
    go_upto_region 9 with (first
      | (at_len; refine wpList_len_own _ rfl _ 118 rfl 9 3 Tryz.underlying118 _ bn _ _ rfl HBNB.out ?_; rw [show size (plD (names.map Lit.string)) = distS names from rfl])
      | (go_at_call 77; refine HADD.out.mono ?_; rintro e w4 ⟨tv, rv, vs, rfl, hs4⟩))
    clear u0 u1 u2 u3 u4 z1 z2 x0 x1 x2 s0 s1 s2
    have HF4 := Lib.hid (HF3.out.trans hs4.fr (by simp) (n := []) (by simp))
    have HS4 := Lib.hid hs4
    have hnv4 : w4.ownsRow w1.heap.size 9 1 (.slice a1 n c1) names.length (names.map encStr) := by rw [HNL.out]; exact owns_kept HNV3.out hs4.fr (by simp)
    have HNV4 := Lib.hid hnv4
    have hgr := hs4.gram hnv4
    obtain ⟨a5, c5, rfl, hc5, hm5⟩ := owns_slice hs4.terms
    obtain ⟨a6, c6, rfl, hc6, hm6⟩ := owns_slice hs4.rules
    have hft := pfits_any ⟨names, Tf, R⟩ _ w4 hgr (by rw [HNL.out]; omega) HTL.out
    have HGR := Lib.hid hgr
    have HFT := Lib.hid hft
    obtain ⟨u0, u1, u2, u3, u4, z1, z2⟩ := five_of_heap hs4.obj
    clear hs4 hnv4 hgr hft
    by_cases hbig : 256 < names.length + Tf.length
    · have hfb : fitsB ⟨names, Tf, R⟩ = false := by
        unfold fitsB
        simp only
        rw [decide_eq_false (by omega)]
        rfl
      rw [hfb] at HFT
      have HQE := Lib.hid (show Q = ⟨emptyG, 19⟩ by rw [hQ, if_pos hbig])
      clear hQ hfb hbig hrb hrl hnd
      go_wp2_with (go_at_call 51; refine HFT.out.mono ?_; rintro e w5 ⟨rfl, hf5⟩; have HF5 := Lib.hid (HF4.out.trans hf5 (by simp) (n := []) (by simp)); obtain ⟨x0, x1, x2, s0, s1, s2⟩ := three_of_heap (HF5.out.heap HB0.out (by simp)))
      have hb1 := (HF5.out).heap HB0.out (by simp)
      have hh := gram_set hb1 (.slice none 0 0) (.slice none 0 0) (.slice none 0 0)
      obtain ⟨r1, r2, r3⟩ := HERR.out _ 19 (HF5.out) HQE.out
      exact bodyPost_ret (results_gram rfl _ _ g0 25 #[.slice none 0 0, .slice none 0 0, .slice none 0 0] _ rfl hh Tryz.underlying25 rfl sizeGram _ rfl) rfl ⟨_, by rw [← r3]; rfl, r2, r1⟩
    rw [if_neg hbig] at hQ
    have hfb : fitsB ⟨names, Tf, R⟩ = true := by
      unfold fitsB
      simp only
      rw [decide_eq_true (by omega), decide_eq_true hrl]
      rfl
    rw [hfb] at HFT
    have hdn : boolOf (R.map ruleT).Nodup = boolOf R.Nodup := boolOf_congr (ruleT_nodup (g := ⟨names, Tf, R⟩) (by simp only; omega) hrb)
    have hdf := fun wx (hfx : Fr [] w4 wx) => pdiffer_any R (.slice a6 R.length c6) wx (HS4.out.rulesA.below hfx) (by omega) (fun r hr => by have := HRR.out r hr; omega)
    rw [hdn] at hdf
    clear hdn hbig hrb hnd hfb
    by_cases hdd : R.Nodup
    rotate_left
    · rw [boolOf_false hdd] at hdf
      have HDF := Lib.hid hdf
      have HQE := Lib.hid (show Q = ⟨emptyG, 15⟩ by rw [hQ, if_pos (boolOf_false hdd)])
      clear hQ hdf hdd
      go_wp2_with (first
        | (go_at_call 78; refine (HDF.out _ hf5).mono ?_; rintro e w6 ⟨rfl, hf6⟩; have HF6 := Lib.hid ((HF4.out.trans hf5 (by simp) (n := []) (by simp)).trans hf6 (by simp) (n := []) (by simp)); obtain ⟨x0, x1, x2, s0, s1, s2⟩ := three_of_heap (HF6.out.heap HB0.out (by simp)))
        | (go_at_call 51; refine HFT.out.mono ?_; rintro e w5 ⟨rfl, hf5⟩; obtain ⟨u0, u1, u2, u3, u4, z1, z2⟩ := five_of_heap (hf5.heap HS4.out.obj (by simp))))
      have hb1 := (HF6.out).heap HB0.out (by simp)
      have hh := gram_set hb1 (.slice none 0 0) (.slice none 0 0) (.slice none 0 0)
      obtain ⟨r1, r2, r3⟩ := HERR.out _ 15 (HF6.out) HQE.out
      exact bodyPost_ret (results_gram rfl _ _ g0 25 #[.slice none 0 0, .slice none 0 0, .slice none 0 0] _ rfl hh Tryz.underlying25 rfl sizeGram _ rfl) rfl ⟨_, by rw [← r3]; rfl, r2, r1⟩
    rw [boolOf_true hdd] at hdf
    have HDF := Lib.hid hdf
    have HQE := Lib.hid (show Q = ⟨⟨names, Tf, R⟩, 0⟩ by rw [hQ, if_neg (by rw [boolOf_true hdd]; simp)])
    clear hQ hdf hdd
    go_wp2_with (first
      | (go_at_call 78; refine (HDF.out _ hf5).mono ?_; rintro e w6 ⟨rfl, hf6⟩; have HF56 := Lib.hid (hf5.trans hf6 (by simp) (n := []) (by simp)); have HF6 := Lib.hid (HF4.out.trans HF56.out (by simp) (n := []) (by simp)); obtain ⟨x0, x1, x2, s0, s1, s2⟩ := three_of_heap (HF6.out.heap HB0.out (by simp)); obtain ⟨u0, u1, u2, u3, u4, z1, z2⟩ := five_of_heap (HF56.out.heap HS4.out.obj (by simp)))
      | (go_at_call 51; refine HFT.out.mono ?_; rintro e w5 ⟨rfl, hf5⟩; obtain ⟨u0, u1, u2, u3, u4, z1, z2⟩ := five_of_heap (hf5.heap HS4.out.obj (by simp))))
    have hh := gram_set (HF6.out.heap HB0.out (by simp)) (.slice a1 n c1) (.slice a5 Tf.length c5) (.slice a6 R.length c6)
    have hga := (HS4.out.below HF56.out).gramSet (owns_kept HNV4.out HF56.out (by simp)) HGE1.out HGA.out (fr_set3 w6 g0 (.slice a1 n c1) (.slice a5 Tf.length c5) (.slice a6 R.length c6))
    refine bodyPost_ret (results_gram rfl _ _ g0 25 #[.slice a1 n c1, .slice a5 Tf.length c5, .slice a6 R.length c6] _ rfl hh Tryz.underlying25 rfl sizeGram _ rfl) rfl ⟨_, by rw [HQE.out]; rfl, by rw [HQE.out]; exact hga, ?_⟩
    exact (HF0.out.trans HF6.out (by simp) (n := []) (by simp)).trans (fr_set3 w6 g0 _ _ _) (by simp) (fun i hi hlt => by have := HG0.out; simp at hi; omega)
end Go.Proofs.YtgfpkmnmdehkpaaGreat
