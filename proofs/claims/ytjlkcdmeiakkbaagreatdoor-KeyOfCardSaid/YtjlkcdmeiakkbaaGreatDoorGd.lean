/- Several texts in one: GpO, GpP, GpQ. -/
import Derived.BigQuiet
import Derived.Maps.AppendAt
import Derived.Test.YtjlkcdmeiakkbaaGreatDoorGc
import Derived.Test.YtjlkcdmeiakkbaaGreatDoorMm
import Derived.Test.YtjlkcdmeiakkbaaGreatDoorBs
import Derived.Test.YtjlkcdmeiakkbaaGreatDoorDt
set_option linter.unusedVariables false
set_option linter.unusedSimpArgs false
/-! The program's grammars (layer 14): items. -/
namespace Go.Proofs.YtjlkcdmeiakkbaaGreatDoor
open Go.RowKit

def itemP (i : ItemD) : Value × Value := (.bool i.term, encStr i.text)
theorem flat_items (l : List ItemD) : flatP (l.map itemP) = (l.map ItemD.cells).flatten := by
  show flatP (l.map fun i => (Value.bool i.term, encStr i.text)) = _
  rw [flatP_map l (fun i => Value.bool i.term) (fun i => encStr i.text)]
  rfl
def zItem : Value × Value := (.bool false, .string ⟨#[]⟩)
def ItRel (w : World) (b : Nat) (L : List (Value × Value)) (iv : Value) (wx : World) : Prop := ∃ k : Nat, k ≤ L.length ∧ iv = .int .i64 (k : Int) ∧ rowP wx b pI (L.take k ++ List.replicate (L.length - k) zItem) ∧ Fr [] w wx
def RItems (l : List ItemD) (w : World) (e : Ending) (w' : World) : Prop := ∃ v, e = .returned v ∧ itemsR pI w' w.heap.size v l ∧ Fr [] w w'
theorem item_neg {g : GramG} {x : Int} (h : x < 0) (h1 : (-1 - x).toNat < g.terms.length) : itemG g x = ⟨true, g.terms[(-1 - x).toNat]'h1⟩ := by
  unfold itemG; rw [if_pos h, List.getD_eq_getElem?_getD, List.getElem?_eq_getElem h1]; rfl
theorem item_pos {g : GramG} {x : Int} (h : ¬ x < 0) (h1 : x.toNat < g.names.length) : itemG g x = ⟨false, g.names[x.toNat]'h1⟩ := by
  unfold itemG; rw [if_neg h, List.getD_eq_getElem?_getD, List.getElem?_eq_getElem h1]; rfl
set_option maxRecDepth 100000 in
set_option maxHeartbeats 4000000 in
theorem pitems_any (g : GramG) (gv sv : Value) (s : List Int) (w : World) (hg : gramAt w gv g) (hv : intsAt w sv s) (hl : s.length ≤ 100000) (hN : g.names.length ≤ 100000) (hT : g.terms.length ≤ 100000)
    (hs : ∀ x ∈ s, -(g.terms.length : Int) ≤ x ∧ x < (g.names.length : Int)) : Calls Tryz.prog 64 #[gv, sv] w (RItems (s.map (itemG g)) w) := by
  obtain ⟨iI, hiI, hz0, hz1, hz2⟩ := info_parts infoPI
  obtain ⟨a1, c1, a2, c2, a3, c3, rfl, ⟨hg1, hle1, -⟩, ⟨hg2, hle2, -⟩, -⟩ := hg.parts
  obtain ⟨a4, c4, rfl, hle4, hmx4⟩ := hv.form
  have HS := Lib.hid hs
  have hb0 := heap_alloc_new w (.cells #[.slice a1 g.names.length c1, .slice a2 g.terms.length c2, .slice a3 g.rules.length c3] 25)
  have hf0 := Fr.alloc w (.cells #[.slice a1 g.names.length c1, .slice a2 g.terms.length c2, .slice a3 g.rules.length c3] 25)
  obtain ⟨w0, hw0⟩ : ∃ w0, w0 = w.alloc (.cells #[.slice a1 g.names.length c1, .slice a2 g.terms.length c2, .slice a3 g.rules.length c3] 25) := ⟨_, rfl⟩
  obtain ⟨q0, hq0⟩ : ∃ q0, q0 = w.heap.size := ⟨_, rfl⟩
  rw [← hw0] at hb0 hf0
  rw [← hq0] at hb0
  obtain ⟨L, hL⟩ : ∃ L, L = (s.map (itemG g)).map itemP := ⟨_, rfl⟩
  have hlen : L.length = s.length := by rw [hL, List.length_map, List.length_map]
  have hget : ∀ k (h1 : k < s.length) (h2 : k < L.length), L[k]'h2 = itemP (itemG g (s[k]'h1)) := fun k h1 h2 => by simp [hL]
  obtain ⟨n, hn⟩ : ∃ n, n = s.length := ⟨_, rfl⟩
  rw [← hn] at hlen hl hle4
  have HV := Lib.hid (hv.below hf0)
  have H1 := Lib.hid (hg1.below hf0)
  have H2 := Lib.hid (hg2.below hf0)
  rw [← hn] at HV ⊢
  have HB0 := Lib.hid hb0
  have HF0 := Lib.hid hf0
  have HW0 := Lib.hid hw0
  have HQ0 := Lib.hid hq0
  have HNN := Lib.hid hn
  have HLEN := Lib.hid hlen
  have HGET := Lib.hid hget
  have HL := Lib.hid hL
  clear hb0 hf0 hw0 hq0 hg hv hs hg1 hg2 hlen hget hn hL
  go_enter Tryz.func64, Tryz.ntmps64
  go_upto_region 1 with fail
  rw [← HW0.out, ← HQ0.out]
  go_upto_region 2 with (refine wpL_make2 rfl _ _ 99 rfl pI iI (.agg #[.bool false, .string ⟨#[]⟩]) _ _ 24 Tryz.underlying99 hiI hz0 hz1 hz2 (by rfl) n rfl rfl (by omega) (by simp [maxLen]; omega) ?_; intro w1 hh1 hf1 hs1)
  have HM0 := Lib.hid (show rowP w1 w0.heap.size pI (L.take 0 ++ List.replicate (L.length - 0) zItem) by rw [HLEN.out]; exact hh1.out)
  obtain ⟨b, hb⟩ : ∃ b, b = w0.heap.size := ⟨_, rfl⟩
  have HBW := Lib.hid (show w0.heap.size ≤ b by omega)
  rw [← hb] at HM0
  rw [← hb]
  have HF1 := Lib.hid hf1
  clear hh1 hf1 hs1 hb
  go_wp2_with fail
  go_loopw [13] (ItRel w0 b L) (fun iv _ => n - (intOf iv).toNat)
  case atStart => exact ⟨0, Nat.zero_le _, rfl, HM0.out, HF1.out⟩
  case round =>
    obtain ⟨k, hk, rfl, hm, hf⟩ := hrel
    have hk' : k ≤ n := by have := HLEN.out; omega
    have HF := Lib.hid hf
    have HM := Lib.hid hm
    by_cases hkn : k < n
    · have hd1 : decide (k < n) = true := decide_eq_true hkn
      have hkr : k < s.length := by have := HNN.out; omega
      have hkT : k < L.length := by have := HLEN.out; omega
      obtain ⟨p, off, rfl, hc⟩ := int_cell (HV.out.below hf) k hkr
      have hgt := HGET.out k hkr hkT
      have hrg := HS.out _ (List.getElem_mem hkr)
      obtain ⟨x, hx⟩ : ∃ x, x = s[k]'hkr := ⟨_, rfl⟩
      rw [← hx] at hc hgt hrg
      have hit := fun wx => pgterm_any x wx
      have hpl := pfill_len (L := L) (z := zItem) hk
      have hpg := pfill_get (z := zItem) hkT
      have hps := set_pfill (z := zItem) hkT
      have HGT := Lib.hid hgt
      have HPL := Lib.hid hpl
      have HPS := Lib.hid hps
      have hrow := fun wx (hfx : Fr [] wr wx) => (hm.below hfx)
      have HRW := Lib.hid hrow
      clear hx hm hgt hpl hps hpg hrow
      by_cases hneg : x < 0
      · have hj : (-1 - x).toNat < g.terms.length := by omega
        obtain ⟨j, hjj⟩ : ∃ j, j = (-1 - x).toNat := ⟨_, rfl⟩
        have hjx : -1 - x = (j : Int) := by omega
        have hjT : j < g.terms.length := by omega
        have hig := item_neg hneg hj
        obtain ⟨tx, htx⟩ : ∃ tx, tx = g.terms[(-1 - x).toNat]'hj := ⟨_, rfl⟩
        rw [← htx] at hig
        have hcl : ∃ b2 off2, a2 = some ⟨b2, off2, none⟩ ∧ wr.cell? ⟨b2, off2 + j, none⟩ = some (encStr tx) := by
          obtain ⟨b2, off2, e, h⟩ := str_cell (H2.out.below hf) j hjT
          refine ⟨b2, off2, e, ?_⟩
          rw [h, htx]
          congr 2
          simp [hjj]
        obtain ⟨b2, off2, rfl, t0⟩ := hcl
        rw [decide_eq_true hneg] at hit
        have HI := Lib.hid hit
        have HT0 := Lib.hid t0
        have HIG := Lib.hid (show L[k]'hkT = (.bool true, encStr tx) by rw [HGT.out, hig]; rfl)
        clear hf hit t0 hig htx hjj hneg hj
        go_upto_region 6 with (go_at_call 91; refine (HI.out _).mono ?_; rintro e w2 ⟨rfl, hf2⟩)
        have hf02 := (HF.out.trans hf2 (by simp) (n := []) (by simp))
        obtain ⟨x0, x1, x2, -⟩ := three_of_heap (hf02.heap HB0.out (by simp))
        have t1 := hf2.cell HT0.out (by simp)
        have hrow := HRW.out _ hf2
        have hfree0 := hrow.free (k * 2)
        have hfree1 := hrow.free (k * 2 + 1)
        obtain ⟨u0, u1⟩ := hrow.get k (by rw [HPL.out]; exact hkT)
        have HR2 := Lib.hid hrow
        have HF02 := Lib.hid hf02
        clear hrow hf02 hf2
        go_wp2_with fail
        refine ⟨⟨k + 1, by have := HLEN.out; omega, by go_num, ?_, ?_⟩, by simp [intOf]; omega⟩
        · have := HR2.out.set2 k (by rw [HPL.out]; exact hkT) (.bool true) (encStr tx)
          rw [show ((Value.bool true, encStr tx) : Value × Value) = L[k]'hkT from HIG.out.symm, HPS.out] at this
          exact this
        · exact (HF02.out.trans (Fr.set0 _ _ _ _) (by simp) (n := []) (fun i hi hlt => by have := HBW.out; simp at hi; omega)).trans (Fr.set0 _ _ _ _) (by simp) (fun i hi hlt => by have := HBW.out; simp at hi; omega)
      · have hj : x.toNat < g.names.length := by omega
        obtain ⟨j, hjj⟩ : ∃ j, j = x.toNat := ⟨_, rfl⟩
        have hjx : x = (j : Int) := by omega
        have hjT : j < g.names.length := by omega
        have hig := item_pos hneg hj
        obtain ⟨tx, htx⟩ : ∃ tx, tx = g.names[x.toNat]'hj := ⟨_, rfl⟩
        rw [← htx] at hig
        have hcl : ∃ b2 off2, a1 = some ⟨b2, off2, none⟩ ∧ wr.cell? ⟨b2, off2 + j, none⟩ = some (encStr tx) := by
          obtain ⟨b2, off2, e, h⟩ := str_cell (H1.out.below hf) j hjT
          refine ⟨b2, off2, e, ?_⟩
          rw [h, htx]
          congr 2
          simp [hjj]
        obtain ⟨b2, off2, rfl, t0⟩ := hcl
        rw [decide_eq_false hneg] at hit
        have HIG := Lib.hid (show L[k]'hkT = (.bool false, encStr tx) by rw [HGT.out, hig]; rfl)
        clear hig htx hjj hneg hj HGT
        rw [hjx] at hit hc
        have HI := Lib.hid hit
        have HT0 := Lib.hid t0
        clear hf hit t0 hjx hrg
        go_upto_region 7 with (go_at_call 91; refine (HI.out _).mono ?_; rintro e w2 ⟨rfl, hf2⟩)
        have hf02 := (HF.out.trans hf2 (by simp) (n := []) (by simp))
        obtain ⟨x0, x1, x2, -⟩ := three_of_heap (hf02.heap HB0.out (by simp))
        have t1 := hf2.cell HT0.out (by simp)
        have hrow := HRW.out _ hf2
        have hfree0 := hrow.free (k * 2)
        have hfree1 := hrow.free (k * 2 + 1)
        obtain ⟨u0, u1⟩ := hrow.get k (by rw [HPL.out]; exact hkT)
        have HR2 := Lib.hid hrow
        have HF02 := Lib.hid hf02
        clear hrow hf02 hf2
        go_wp2_with fail
        refine ⟨⟨k + 1, by have := HLEN.out; omega, by go_num, ?_, ?_⟩, by simp [intOf]; omega⟩
        · have := HR2.out.set2 k (by rw [HPL.out]; exact hkT) (.bool false) (encStr tx)
          rw [show ((Value.bool false, encStr tx) : Value × Value) = L[k]'hkT from HIG.out.symm, HPS.out] at this
          exact this
        · exact (HF02.out.trans (Fr.set0 _ _ _ _) (by simp) (n := []) (fun i hi hlt => by have := HBW.out; simp at hi; omega)).trans (Fr.set0 _ _ _ _) (by simp) (fun i hi hlt => by have := HBW.out; simp at hi; omega)
    · have hd1 : decide (k < n) = false := decide_eq_false hkn
      have hkl : k = L.length := by have := HLEN.out; omega
      have HRW := Lib.hid (show rowP wr b pI L by rw [hkl, List.take_length, Nat.sub_self, List.replicate_zero, List.append_nil] at hm; exact hm)
      clear hf hm hkl
      go_wp2_with fail
      go_ret
      refine ⟨_, rfl, ?_, HF0.out.trans HF.out (by simp) (by simp)⟩
      have hle := HF0.out.size
      have := HRW.out.owns (base := w.heap.size) (by have := HBW.out; omega) (by rw [HLEN.out]; simp [maxLen]; omega)
      unfold itemsR
      rw [HLEN.out] at this
      rw [List.length_map, ← HNN.out, ← flat_items, ← HL.out]
      exact this
end Go.Proofs.YtjlkcdmeiakkbaaGreatDoor

/-! The program's grammars (layer 14): what stands in memory while Lines makes its lines. -/
namespace Go.Proofs.YtjlkcdmeiakkbaaGreatDoor
open Go.RowKit

def altsUp (g : GramG) (j i : Nat) : List (List ItemD) := ((g.rules.take j).filter fun r => decide (r.left = (i : Int))).map fun r => r.right.map (itemG g)
theorem altsUp_zero (g : GramG) (i : Nat) : altsUp g 0 i = [] := rfl
theorem altsUp_all (g : GramG) (i : Nat) : altsUp g g.rules.length i = altsG g i := by unfold altsUp altsG; rw [List.take_length]
theorem altsUp_same {g : GramG} {j i : Nat} (hj : j < g.rules.length) (h : (g.rules[j]'hj).left = (i : Int)) : altsUp g (j + 1) i = altsUp g j i ++ [(g.rules[j]'hj).right.map (itemG g)] := by
  unfold altsUp
  rw [List.take_succ_eq_append_getElem hj, List.filter_append, List.map_append, List.filter_cons_of_pos (by simp [h])]
  rfl
theorem altsUp_other {g : GramG} {j i : Nat} (hj : j < g.rules.length) (h : (g.rules[j]'hj).left ≠ (i : Int)) : altsUp g (j + 1) i = altsUp g j i := by
  unfold altsUp
  rw [List.take_succ_eq_append_getElem hj, List.filter_append, List.map_append, List.filter_cons_of_neg (by simp [h])]
  simp
theorem altsUp_le (g : GramG) (j i : Nat) : (altsUp g j i).length ≤ g.rules.length := by
  unfold altsUp
  rw [List.length_map]
  have h1 := List.length_filter_le (fun r : RuleG => decide (r.left = (i : Int))) (g.rules.take j)
  rw [List.length_take] at h1
  omega
structure LnSt (g : GramG) (B b j : Nat) (vs : List Value) (wx : World) : Prop where
  len : vs.length = g.names.length
  ge : B ≤ b
  row : rowP wx b pL ((g.names.map encStr).zip vs)
  alts : ∀ i (h : i < vs.length), altsR pI pA wx B (vs[i]'h) (altsUp g j i)
  apart : ∀ i i' (h : i < vs.length) (h' : i' < vs.length), i ≠ i' → ∀ k, (vs[i]'h).ownBlock = some k → (vs[i']'h').ownBlock ≠ some k
theorem LnSt.below {g : GramG} {B b j : Nat} {vs : List Value} {wx wy : World} (h : LnSt g B b j vs wx) (hf : Fr [] wx wy) : LnSt g B b j vs wy :=
  ⟨h.len, h.ge, h.row.below hf, fun i hi => (h.alts i hi).below hf, h.apart⟩
theorem LnSt.zipLen {g : GramG} {B b j : Nat} {vs : List Value} {wx : World} (h : LnSt g B b j vs wx) : ((g.names.map encStr).zip vs).length = g.names.length := by
  rw [List.length_zip, List.length_map, h.len, Nat.min_self]
theorem zip_set {α β : Type} : ∀ (a : List α) (b : List β) (i : Nat) (h : i < a.length) (y : β), (a.zip b).set i (a[i]'h, y) = a.zip (b.set i y)
  | [], _, i, h, _ => by simp at h
  | _ :: _, [], _, _, _ => by simp
  | _ :: _, _ :: _, 0, _, _ => by simp
  | x :: a, z :: b, i + 1, h, y => by
    simp only [List.zip_cons_cons, List.set_cons_succ, List.getElem_cons_succ]
    rw [zip_set a b i (by simpa using h) y]
theorem LnSt.start {g : GramG} {B b : Nat} {wx : World} (hB : B ≤ b) (h : rowP wx b pL ((g.names.map encStr).map fun n => (n, Value.slice none 0 0))) : LnSt g B b 0 (List.replicate g.names.length (.slice none 0 0)) wx := by
  refine ⟨by rw [List.length_replicate], hB, ?_, fun i hi => ?_, fun i i' hi hi' hne k hk => ?_⟩
  · have e : (g.names.map encStr).zip (List.replicate g.names.length (Value.slice none 0 0)) = (g.names.map encStr).map fun n => (n, Value.slice none 0 0) := by
      apply List.ext_getElem
      · simp
      · intro i h1 h2
        simp
    rw [e]; exact h
  · rw [List.getElem_replicate, altsUp_zero]
    exact altsR.nil _ _ _ _
  · rw [List.getElem_replicate] at hk
    cases hk
/-- One alternative more, at the line to which it belongs. -/
theorem LnSt.next {g : GramG} {B b j i : Nat} {vs us : List Value} {w8 w9 : World} {v' itv : Value} (h : LnSt g B b j vs w8) (hj : j < g.rules.length) (hi : i < vs.length) (hl : (g.rules[j]'hj).left = (i : Int))
    (hus : us.length = (altsUp g j i).length) (huse : ∀ m (h1 : m < us.length) (h2 : m < (altsUp g j i).length), itemsR pI w8 B (us[m]'h1) ((altsUp g j i)[m]'h2)) (hit : itemsR pI w8 B itv ((g.rules[j]'hj).right.map (itemG g)))
    (hown0 : w8.ownsRow B pA 1 (vs[i]'hi) us.length us) (hown : w9.ownsRow B pA 1 v' (us.length + 1) (us ++ [itv])) (hf : Fr (vs[i]'hi).ownBlock.toList w8 w9) (hb : v'.ownBlock = (vs[i]'hi).ownBlock ∨ ∃ k, v'.ownBlock = some k ∧ w8.heap.size ≤ k) :
    LnSt g B b (j + 1) (vs.set i v') (w9.setCell ⟨b, i * 2 + 1, none⟩ v') := by
  have hs := Fr.set0 w9 b (i * 2 + 1) v'
  have nI := notT_row hown0 (t := pI) (by decide)
  have nL := notT_row hown0 (t := pL) (by decide)
  have hbn : b ∉ (vs[i]'hi).ownBlock.toList := fun hm => nL b hm _ _ _ h.row rfl
  have hr9 := h.row.kept hf hbn
  have nbI : notT w9 [b] pI := notT_box hr9 (by decide)
  have nbA : notT w9 [b] pA := notT_box hr9 (by decide)
  have hzl := h.zipLen
  have hin : i < ((g.names.map encStr).zip vs).length := by rw [hzl, ← h.len]; exact hi
  refine ⟨by rw [List.length_set]; exact h.len, h.ge, ?_, fun i' hi' => ?_, fun i1 i2 h1 h2 hne k hk hk2 => ?_⟩
  · have := hr9.set1 i hin v'
    rw [List.getElem_zip, zip_set _ _ i (by rw [List.length_map, ← h.len]; exact hi)] at this
    exact this
  · have hi2 : i' < vs.length := by rw [List.length_set] at hi'; exact hi'
    by_cases e : i' = i
    · subst e
      rw [List.getElem_set_self, altsUp_same hj hl]
      refine ⟨us ++ [itv], by simp [hus], ?_, fun m h1 h2 => ?_⟩
      · have := owns_keptT hown nbA hs
        rw [List.length_append, ← hus]
        exact this
      · by_cases hm : m < us.length
        · rw [List.getElem_append_left hm, List.getElem_append_left (by omega)]
          exact ((huse m hm (by omega)).kept nI hf).kept nbI hs
        · have hm' : m = us.length := by simp at h1; omega
          subst hm'
          have e1 : (us ++ [itv])[us.length]'h1 = itv := by simp
          have e2 : (altsUp g j i' ++ [(g.rules[j]'hj).right.map (itemG g)])[us.length]'h2 = (g.rules[j]'hj).right.map (itemG g) := by
            rw [List.getElem_append_right (by omega)]
            simp [hus]
          rw [e1, e2]
          exact (hit.kept nI hf).kept nbI hs
    · rw [List.getElem_set_ne (fun q => e q.symm), altsUp_other hj (by rw [hl]; omega)]
      obtain ⟨us', e', hr, hii⟩ := h.alts i' hi2
      have ho : w9.ownsRow B pA 1 (vs[i']'hi2) (altsUp g j i').length us' := owns_kept hr hf (fun k hk hm => h.apart i' i hi2 hi e k hk (by simpa [Option.mem_toList] using hm))
      exact ⟨us', e', owns_keptT ho nbA hs, fun m h1 h2 => ((hii m h1 h2).kept nI hf).kept nbI hs⟩
  · have h1' : i1 < vs.length := by rw [List.length_set] at h1; exact h1
    have h2' : i2 < vs.length := by rw [List.length_set] at h2; exact h2
    have hlt : ∀ m (hm : m < vs.length) q, (vs[m]'hm).ownBlock = some q → q < w8.heap.size := fun m hm q hq => by
      obtain ⟨us', e', hr, -⟩ := h.alts m hm
      exact (hr.lt q hq).2
    by_cases e1 : i1 = i
    · subst e1
      rw [List.getElem_set_self] at hk
      rw [List.getElem_set_ne hne] at hk2
      rcases hb with q | ⟨k', q, hge⟩
      · rw [q] at hk; exact h.apart i1 i2 h1' h2' hne k hk hk2
      · rw [q] at hk; cases hk; have := hlt i2 h2' _ hk2; omega
    · rw [List.getElem_set_ne (fun q => e1 q.symm)] at hk
      by_cases e2 : i2 = i
      · subst e2
        rw [List.getElem_set_self] at hk2
        rcases hb with q | ⟨k', q, hge⟩
        · rw [q] at hk2; exact h.apart i1 i2 h1' h2' hne k hk hk2
        · rw [q] at hk2; cases hk2; have := hlt i1 h1' _ hk; omega
      · rw [List.getElem_set_ne (fun q => e2 q.symm)] at hk2
        exact h.apart i1 i2 h1' h2' hne k hk hk2
theorem linesG_len (g : GramG) : (linesG g).length = g.names.length := by unfold linesG; rw [List.length_map, List.length_zipIdx]
theorem linesG_get (g : GramG) (i : Nat) (h : i < (linesG g).length) : (linesG g)[i]'h = ⟨g.names[i]'(by rw [← linesG_len]; exact h), altsG g i⟩ := by
  simp [linesG]
/-- At the end it reads as the grammar's lines. -/
theorem LnSt.lines {g : GramG} {B b : Nat} {vs : List Value} {wx : World} (h : LnSt g B b g.rules.length vs wx) (hm : g.names.length ≤ maxLen) : linesAt wx (.slice (some ⟨b, 0, none⟩) g.names.length g.names.length) (linesG g) := by
  have ho := h.row.owns (base := B) h.ge (by rw [h.zipLen]; exact hm)
  rw [h.zipLen] at ho
  have e : flatP ((g.names.map encStr).zip vs) = (((linesG g).zip vs).map fun p => [encStr p.1.name, p.2]).flatten := by
    have h1 : (g.names.map encStr).zip vs = ((linesG g).zip vs).map fun p => (encStr p.1.name, p.2) := by
      apply List.ext_getElem
      · simp [linesG_len]
      · intro i h1 h2
        simp only [List.getElem_zip, List.getElem_map]
        rw [linesG_get]
    rw [h1, flatP_map _ (fun p : LineD × Value => encStr p.1.name) (fun p => p.2)]
  rw [e] at ho
  have hzl : (((linesG g).zip vs).map fun p => [encStr p.1.name, p.2]).length = g.names.length := by
    rw [List.length_map, List.length_zip, linesG_len, h.len, Nat.min_self]
  refine ⟨vs, by rw [h.len, linesG_len], elems_of_owns (by rw [hzl]; exact ho) (fun x hx => by obtain ⟨f, _, rfl⟩ := List.mem_map.1 hx; rfl), fun i h1 h2 => ?_⟩
  have := (h.alts i h1).at_
  rw [altsUp_all] at this
  rw [linesG_get]
  exact this
end Go.Proofs.YtjlkcdmeiakkbaaGreatDoor

/-! The program's grammars (layer 14): Lines. -/
namespace Go.Proofs.YtjlkcdmeiakkbaaGreatDoor
open Go.RowKit

def zLine : Value × Value := (.string ⟨#[]⟩, .slice none 0 0)
def Ln1Rel (w : World) (b : Nat) (L : List (Value × Value)) (iv : Value) (wx : World) : Prop := ∃ k : Nat, k ≤ L.length ∧ iv = .int .i64 (k : Int) ∧ rowP wx b pL (L.take k ++ List.replicate (L.length - k) zLine) ∧ Fr [] w wx
def Ln2Rel (w : World) (g : GramG) (B b : Nat) (iv : Value) (wx : World) : Prop := ∃ (j : Nat) (vs : List Value), j ≤ g.rules.length ∧ iv = .int .i64 (j : Int) ∧ LnSt g B b j vs wx ∧ Fr [] w wx
theorem items_lower {w : World} {base base' : Nat} {v : Value} {l : List ItemD} (h : itemsR pI w base v l) (hb : base' ≤ base) : itemsR pI w base' v l := owns_base h (fun k hk => by have := (h.lt k hk).1; omega)
set_option maxRecDepth 100000 in
set_option maxHeartbeats 8000000 in
theorem plines_any : ProgLines := by
  intro g gv w hg hz hi
  obtain ⟨iL, hiL, hl0, hl1, hl2⟩ := info_parts infoPL
  obtain ⟨iA, hiA, hA0, hA1, hA2⟩ := info_parts infoPA
  have hval := fun wx (hfx : Fr [] w wx) => pvalid_any g gv wx (hg.below hfx) hz hi
  have hG := hg
  obtain ⟨a1, c1, a2, c2, a3, c3, rfl, ⟨hg1, hle1, -⟩, -, ⟨hg3, hle3, -⟩⟩ := hg.parts
  have hb0 := heap_alloc_new w (.cells #[.slice a1 g.names.length c1, .slice a2 g.terms.length c2, .slice a3 g.rules.length c3] 25)
  have hf0 := Fr.alloc w (.cells #[.slice a1 g.names.length c1, .slice a2 g.terms.length c2, .slice a3 g.rules.length c3] 25)
  obtain ⟨w0, hw0⟩ : ∃ w0, w0 = w.alloc (.cells #[.slice a1 g.names.length c1, .slice a2 g.terms.length c2, .slice a3 g.rules.length c3] 25) := ⟨_, rfl⟩
  obtain ⟨q0, hq0⟩ : ∃ q0, q0 = w.heap.size := ⟨_, rfl⟩
  rw [← hw0] at hb0 hf0
  rw [← hq0] at hb0
  obtain ⟨n1, hn1⟩ : ∃ n, n = g.names.length := ⟨_, rfl⟩
  obtain ⟨n2, hn2⟩ : ∃ n, n = g.terms.length := ⟨_, rfl⟩
  obtain ⟨n3, hn3⟩ : ∃ n, n = g.rules.length := ⟨_, rfl⟩
  have hzn := hz.names
  have hzt := hz.terms
  have hzr := hz.rules
  have H1 := Lib.hid (hg1.below hf0)
  have H3 := Lib.hid (hg3.below hf0)
  have HG := Lib.hid (hG.below hf0)
  have HZ := Lib.hid hz
  have HN1 := Lib.hid hn1
  have HN3 := Lib.hid hn3
  rw [← hn1, ← hn2, ← hn3] at hb0 hw0 hval HG ⊢
  rw [← hn1] at H1 hzn
  rw [← hn3] at H3 hzr
  have HB0 := Lib.hid hb0
  have HF0 := Lib.hid hf0
  have HW0 := Lib.hid hw0
  have HQ0 := Lib.hid hq0
  obtain ⟨x0, x1, x2, -⟩ := three_of_heap HB0.out
  by_cases hv : validB g = true
  rotate_left
  · have hvf : validB g = false := by cases h : validB g with | false => rfl | true => exact (hv h).elim
    rw [hvf] at hval
    have HV := Lib.hid hval
    have HLN := Lib.hid (show linesOf g = [] by unfold linesOf; rw [if_neg hv])
    clear hval hv hvf hb0 hf0 hw0 hq0 hg hG hz hi hg1 hg3 hn1 hn2 hn3 hle1 hle3
    go_enter Tryz.func30, Tryz.ntmps30
    go_upto_region 1 with fail
    rw [← HW0.out, ← HQ0.out]
    go_wp2_with (go_at_call 10; refine (HV.out _ HF0.out).mono ?_; rintro e w1 ⟨rfl, hf1⟩)
    go_ret
    rw [HLN.out]
    exact ⟨_, rfl, (linesR.nil pI pA pL w1 0).at_, HF0.out.trans hf1 (by simp) (by simp)⟩
  rw [hv] at hval
  have HV := Lib.hid hval
  have HVG := Lib.hid (show ValidG g from of_boolOf hv)
  have HLN := Lib.hid (show linesOf g = linesG g by unfold linesOf; rw [if_pos hv])
  obtain ⟨L, hL⟩ : ∃ L, L = (g.names.map encStr).map fun n => ((n, Value.slice none 0 0) : Value × Value) := ⟨_, rfl⟩
  have hlen : L.length = n1 := by rw [hL, List.length_map, List.length_map, hn1]
  have hget : ∀ k (h1 : k < g.names.length) (h2 : k < L.length), L[k]'h2 = (encStr (g.names[k]'h1), Value.slice none 0 0) := fun k h1 h2 => by simp [hL]
  have HLEN := Lib.hid hlen
  have HGET := Lib.hid hget
  have HL := Lib.hid hL
  clear hval hv hb0 hf0 hw0 hq0 hg hG hz hi hg1 hg3 hn1 hn2 hn3 hL hlen hget
  go_enter Tryz.func30, Tryz.ntmps30
  go_upto_region 1 with fail
  rw [← HW0.out, ← HQ0.out]
  go_upto_region 3 with (go_at_call 10; refine (HV.out _ HF0.out).mono ?_; rintro e w1 ⟨rfl, hf1⟩)
  have HG1 := Lib.hid hf1
  clear hf1 x0 x1 x2
  obtain ⟨x0, x1, x2, -⟩ := three_of_heap (HG1.out.heap HB0.out (by simp))
  go_upto_region 4 with (refine wpL_make2 rfl _ _ 59 rfl pL iL (.agg #[.string ⟨#[]⟩, .slice none 0 0]) _ _ 40 Tryz.underlying59 hiL hl0 hl1 hl2 (by rfl) n1 rfl rfl (by omega) (by simp [maxLen]; omega) ?_; intro w2 hh2 hf2 hs2)
  have HM0 := Lib.hid (show rowP w2 w1.heap.size pL (L.take 0 ++ List.replicate (L.length - 0) zLine) by rw [HLEN.out]; exact hh2.out)
  obtain ⟨b, hb⟩ : ∃ b, b = w1.heap.size := ⟨_, rfl⟩
  have HBW := Lib.hid (show w0.heap.size ≤ b by rw [hb]; exact HG1.out.size)
  rw [← hb] at HM0
  rw [← hb]
  have HG2 := Lib.hid (HG1.out.trans hf2 (by simp) (n := []) (by simp))
  clear hh2 hf2 hs2 hb x0 x1 x2
  obtain ⟨x0, x1, x2, -⟩ := three_of_heap (HG2.out.heap HB0.out (by simp))
  go_wp2_with fail
  go_loopw [19] (Ln1Rel w0 b L) (fun iv _ => n1 - (intOf iv).toNat)
  case atStart => exact ⟨0, Nat.zero_le _, rfl, HM0.out, HG2.out⟩
  case round =>
    obtain ⟨k, hk, rfl, hm, hf⟩ := hrel
    have hk' : k ≤ n1 := by have := HLEN.out; omega
    have HF := Lib.hid hf
    have HM := Lib.hid hm
    clear x0 x1 x2
    by_cases hkn : k < n1
    · have hd1 : decide (k < n1) = true := decide_eq_true hkn
      have hkr : k < g.names.length := by have := HN1.out; omega
      have hkT : k < L.length := by have := HLEN.out; omega
      obtain ⟨p, off, rfl, hc⟩ := str_cell (H1.out.below hf) k hkr
      have hgt := HGET.out k hkr hkT
      obtain ⟨t, ht⟩ : ∃ t, t = g.names[k]'hkr := ⟨_, rfl⟩
      rw [← ht] at hc hgt
      have hpl := pfill_len (L := L) (z := zLine) hk
      have hpg := pfill_get (z := zLine) hkT
      have hps := set_pfill (z := zLine) hkT
      rw [hgt] at hps
      have hfree0 := hm.free (k * 2)
      have hfree1 := hm.free (k * 2 + 1)
      obtain ⟨u0, u1⟩ := hm.get k (by rw [hpl]; exact hkT)
      have hset := hm.set0 k (by rw [hpl]; exact hkT) (encStr t)
      rw [hpg] at hset u0 u1
      have HSET := Lib.hid hset
      have HPS := Lib.hid hps
      clear hm hf hgt ht hpl hpg hps hset
      go_wp2_with fail
      refine ⟨⟨k + 1, by have := HLEN.out; omega, by go_num, ?_, ?_⟩, by simp [intOf]; omega⟩
      · have := HSET.out
        rw [show ((encStr t, zLine.2) : Value × Value) = (encStr t, Value.slice none 0 0) from rfl, HPS.out] at this
        exact this
      · exact HF.out.trans (Fr.set0 _ _ _ _) (by simp) (fun i hi hlt => by have := HBW.out; simp at hi; omega)
    · have hd1 : decide (k < n1) = false := decide_eq_false hkn
      have hkl : k = L.length := by have := HLEN.out; omega
      have HST := Lib.hid (show LnSt g w0.heap.size b 0 (List.replicate g.names.length (.slice none 0 0)) wr from LnSt.start HBW.out (by rw [hkl, List.take_length, Nat.sub_self, List.replicate_zero, List.append_nil, HL.out] at hm; exact hm))
      clear hm hf hkl
      obtain ⟨x0, x1, x2, -⟩ := three_of_heap (HF.out.heap HB0.out (by simp))
      go_wp2_with fail
      go_loopw [33] (Ln2Rel w0 g w0.heap.size b) (fun iv _ => n3 - (intOf iv).toNat)
      case atStart => exact ⟨0, _, Nat.zero_le _, rfl, HST.out, HF.out⟩
      case round =>
        obtain ⟨j, vs, hj, rfl, hst, hf'⟩ := hrel
        have hj' : j ≤ n3 := by have := HN3.out; omega
        clear HF HST
        have HF := Lib.hid hf'
        have HST := Lib.hid hst
        clear x0 x1 x2
        by_cases hjn : j < n3
        · have hd2 : decide (j < n3) = true := decide_eq_true hjn
          have hjr : j < g.rules.length := by have := HN3.out; omega
          obtain ⟨p, off, rv, rfl, k0, k1, hrv⟩ := rule_cells (H3.out.below hf') j hjr
          have hvr := HVG.out.rules _ (List.getElem_mem hjr)
          have hzs := HZ.out.right _ (List.getElem_mem hjr)
          obtain ⟨x, hx⟩ : ∃ x, x = g.rules[j]'hjr := ⟨_, rfl⟩
          rw [← hx] at k0 hrv hvr hzs
          have HX := Lib.hid hx
          obtain ⟨i, hi⟩ : ∃ i : Nat, x.left = (i : Int) := ⟨x.left.toNat, by omega⟩
          have hin : i < n1 := by have := HN1.out; omega
          have hiv : i < vs.length := by rw [hst.len]; have := HN1.out; omega
          have HI := Lib.hid hi
          have hit := fun wx (hfx : Fr [] wr wx) => pitems_any g _ rv x.right wx (HG.out.below (hf'.trans hfx (by simp) (by simp))) (hrv.below hfx) hzs (by have := HN1.out; omega) hzt hvr.2.2.2
          rw [hi] at k0
          obtain ⟨a4, c4, rfl, hle4, hmx4⟩ := hrv.form
          obtain ⟨n4, hn4⟩ : ∃ n, n = x.right.length := ⟨_, rfl⟩
          rw [← hn4] at k1 hit
          obtain ⟨IT, hIT⟩ : ∃ IT, IT = x.right.map (itemG g) := ⟨_, rfl⟩
          rw [← hIT] at hit
          have HIT := Lib.hid hit
          have HITE := Lib.hid hIT
          obtain ⟨us, hus, hrow, huse⟩ := hst.alts i hiv
          obtain ⟨av, hav⟩ : ∃ av, av = vs[i]'hiv := ⟨_, rfl⟩
          have hal := altsUp_le g j i
          rw [← hus] at hrow hal
          have HUS := Lib.hid hus
          have HUSE := Lib.hid huse
          have HAV := Lib.hid hav
          have hm2 : us.length ≤ 100000 := by have := HN3.out; omega
          rw [← hav] at hrow
          have HROW := Lib.hid hrow
          have hb0 := two_of_new wr (.int .i64 (i : Int)) (.slice a4 n4 c4) 36
          have hf0 := Fr.alloc wr (.cells #[.int .i64 (i : Int), .slice a4 n4 c4] 36)
          obtain ⟨w3, hw3⟩ : ∃ w3, w3 = wr.alloc (.cells #[.int .i64 (i : Int), .slice a4 n4 c4] 36) := ⟨_, rfl⟩
          obtain ⟨q3, hq3⟩ : ∃ q3, q3 = wr.heap.size := ⟨_, rfl⟩
          rw [← hw3] at hb0 hf0
          rw [← hq3] at hb0
          have HB3 := Lib.hid hb0
          have HF3 := Lib.hid hf0
          have HW3 := Lib.hid hw3
          have HQ3 := Lib.hid hq3
          clear hx hi hit hn4 hIT hus huse hrow hav hal hb0 hf0 hw3 hq3 hrv hvr hzs hle4 hmx4 hst hf'
          go_upto_region 12 with fail
          rw [← HW3.out, ← HQ3.out]
          clear k0 k1
          obtain ⟨y0, y1, -⟩ := two_cells HB3.out
          go_upto_region 13 with fail
          clear y0 y1
          obtain ⟨a5, c5, rfl, hc5, hm5⟩ := owns_slice HROW.out
          refine wp_region_Y (Value.slice a5 us.length c5).ownBlock.toList 13 [(0, false), (1, false), (2, false), (3, false), (4, false), (5, false), (6, false), (7, false), (8, true), (9, true), (10, true), (11, true), (12, true), (13, true)] 56 rfl (by kernel_rfl) (by kernel_rfl) (by kernel_rfl) (fun c a d v w h => by cases d <;> exact h) (fun w4 hf4 => ?_)
          simp only [List.map_cons, List.map_nil, List.getElem?_toArray, List.getElem?_cons_succ, List.getElem?_cons_zero, Option.getD_some]
          have hf34 := HF3.out.trans hf4 (by simp) (n := []) (by simp)
          have HF34 := Lib.hid hf34
          have HB34 := Lib.hid (hf4.heap HB3.out (by simp))
          have HB04 := Lib.hid ((HF.out.trans hf34 (by simp) (n := []) (by simp)).heap HB0.out (by simp))
          have HST4 := Lib.hid (HST.out.below hf34)
          have HROW4 := Lib.hid (owns_kept HROW.out hf34 (by simp))
          clear hf34 hf4
          have hnb : b ∉ (Value.slice a5 us.length c5).ownBlock.toList := fun hm => notT_row HROW4.out (t := pL) (by decide) b hm _ _ _ HST4.out.row rfl
          have hnq0 : q0 ∉ (Value.slice a5 us.length c5).ownBlock.toList := fun hm => notT_row HROW4.out (t := 25) (by decide) q0 hm _ _ _ HB04.out rfl
          have hnq3 : q3 ∉ (Value.slice a5 us.length c5).ownBlock.toList := fun hm => notT_row HROW4.out (t := 36) (by decide) q3 hm _ _ _ HB34.out rfl
          have hil : i < ((g.names.map encStr).zip vs).length := by rw [HST4.out.zipLen]; have := HN1.out; omega
          have hgz : (((g.names.map encStr).zip vs)[i]'hil).2 = Value.slice a5 us.length c5 := by rw [List.getElem_zip, HAV.out]
          have LA : Hid (Later (Value.slice a5 us.length c5).ownBlock.toList w4 (fun w' => w'.cell? ⟨b, i * 2 + 1, none⟩ = some (Value.slice a5 us.length c5) ∧ w'.frozen? ⟨b, i * 2 + 1, none⟩ = false)) := Lib.hid (fun w' hf' => ⟨by have := ((HST4.out.row.kept hf' hnb).get i hil).2; rw [hgz] at this; exact this, (HST4.out.row.kept hf' hnb).free _⟩)
          have LB : Hid (Later (Value.slice a5 us.length c5).ownBlock.toList w4 (fun w' => w'.heap[q0]? = some (.cells #[.slice a1 n1 c1, .slice a2 n2 c2, .slice (some ⟨p, off, none⟩) n3 c3] 25 (0, 0)))) := Lib.hid (fun w' hf' => hf'.heap HB04.out hnq0)
          have LC : Hid (Later (Value.slice a5 us.length c5).ownBlock.toList w4 (fun w' => w'.heap[q3]? = some (.cells #[.int .i64 (i : Int), .slice a4 n4 c4] 36 (0, 0)))) := Lib.hid (fun w' hf' => hf'.heap HB34.out hnq3)
          have HNB := Lib.hid hnb
          clear hnb hnq0 hnq3 hgz
          repeat (apply walkZ_t; · (intro w' hf'; obtain ⟨z0, z1⟩ := LA.out w' hf'; obtain ⟨x0, x1, x2, -⟩ := three_of_heap (LB.out w' hf'); obtain ⟨y0, y1, -⟩ := two_cells (LC.out w' hf'); go_wp2_with fail; exact ⟨rfl, rfl⟩))
          refine walkZ_x ?_
          go_wp2_with (go_at_call 64; refine (HIT.out _ HF34.out).mono ?_; rintro e w8 ⟨itv, rfl, hitv, hf8⟩)
          have hlow := items_lower hitv (base' := w0.heap.size) ((HF.out.trans HF34.out (by simp) (n := []) (by simp)).size)
          obtain ⟨a6, c6, rfl, hc6, hm6⟩ := owns_slice hitv
          have HI8 := Lib.hid hlow
          have HF8 := Lib.hid hf8
          refine ⟨.inr (hf8.mono (by simp)), rfl, ?_⟩
          refine walkZ_x ?_
          clear hitv hlow hf8
          go_wp2_with fail
          have hfe := Fr.alloc w8 (.cells #[.slice a6 IT.length c6] pA)
          have HFE := Lib.hid hfe
          refine ⟨hfe.mono (by simp), rfl, ?_⟩
          have hrow8 := owns_kept HROW4.out HF8.out (by simp)
          have hB8 : w0.heap.size ≤ w8.heap.size := (((HF.out.trans HF34.out (by simp) (n := []) (by simp)).trans HF8.out (by simp) (n := []) (by simp))).size
          refine walkZ_x ?_
          clear hfe
          go_wp2_with (at_builtin; refine wpL_appendS rfl _ _ 96 rfl w0.heap.size pA iA _ 1 24 Tryz.underlying96 hiA hA0 hA1 hA2 (by rfl) (by decide) (.slice a5 us.length c5) us.length us rfl hrow8 [.slice a6 IT.length c6] rfl (by intro u hu; simp at hu; rcases hu with rfl; rfl) rfl (by omega) (by simp [maxLen]; omega) hB8 ?_; intro v9 w9 hown9 hf9 hb9)
          obtain ⟨a7, c7, rfl, hc7, hm7⟩ := owns_slice hown9
          refine ⟨hf9, rfl, ?_⟩
          have hf89 : Fr (Value.slice a5 us.length c5).ownBlock.toList w8 w9 := HFE.out.trans hf9 (by simp) (fun _ hk _ => hk)
          obtain ⟨z0, z1⟩ := LA.out w9 ((HF8.out.mono (by simp)).trans hf89 (fun _ hk _ => hk) (fun _ hk _ => hk))
          have HF89 := Lib.hid hf89
          have HO9 := Lib.hid hown9
          have HB9 := Lib.hid hb9
          clear hf89 hown9 hb9 hf9 hrow8
          refine walkZ_x ?_
          go_wp2_with fail
          refine ⟨Fr.refl _ _, rfl, ?_⟩
          refine walkZ_x ?_
          go_wp2_with fail
          refine ⟨Fr.refl _ _, rfl, ?_⟩
          refine walkZ_x ?_
          go_wp2_with fail
          refine ⟨rfl, walkZ_end ?_⟩
          go_wp2_with fail
          refine ⟨⟨j + 1, vs.set i (.slice a7 (us.length + 1) c7), by omega, by go_num, ?_, ?_⟩, by simp [intOf]; omega⟩
          · refine LnSt.next (us := us) (itv := .slice a6 IT.length c6) (HST4.out.below HF8.out) hjr hiv (by rw [← HX.out]; exact HI.out) HUS.out (fun m h1 h2 => ?_) ?_ ?_ HO9.out ?_ ?_
            · exact ((HUSE.out m h1 h2).kept (notT.nil _ _) HF34.out).kept (notT.nil _ _) HF8.out
            · have := HI8.out
              rw [← HX.out]
              rw [← HITE.out]
              exact this
            · rw [← HAV.out]; exact owns_kept HROW4.out HF8.out (by simp)
            · rw [← HAV.out]; exact HF89.out
            · rw [← HAV.out]; exact HB9.out
          · have h8 := (HF.out.trans HF34.out (by simp) (n := []) (by simp)).trans HF8.out (by simp) (n := []) (by simp)
            have h9 := h8.trans HF89.out (by simp) (n := []) (fun m hm hlt => by
              have hk : (Value.slice a5 us.length c5).ownBlock = some m := by simpa [Option.mem_toList] using hm
              have := (HROW.out.lt m hk).1
              omega)
            exact h9.trans (Fr.set0 _ _ _ _) (by simp) (fun m hm hlt => by have := HBW.out; simp at hm; omega)
        · have hd2 : decide (j < n3) = false := decide_eq_false hjn
          have hjl : j = g.rules.length := by have := HN3.out; omega
          clear hf'
          go_wp2_with fail
          go_ret
          refine ⟨_, rfl, ?_, HF0.out.trans HF.out (by simp) (by simp)⟩
          rw [HLN.out]
          subst hjl
          have := HST.out.lines (by have := HN1.out; simp [maxLen]; omega)
          rw [HN1.out]
          exact this
end Go.Proofs.YtjlkcdmeiakkbaaGreatDoor
