/- Several texts in one: MapS, GpG, GpH, GpI, GpJ. -/
import Derived.Maps.OwnSet
import Derived.StringKeys
import Derived.Sort.EncStr
import Derived.LoopTactic
import Derived.WalkMore
import Derived.Test.YtnaamjpiaekmeaaGreatBs
import Derived.Test.YtnaamjpiaekmeaaGreatProg
import Derived.Test.YtnaamjpiaekmeaaGreatGa
set_option linter.unusedVariables false
set_option linter.unusedSimpArgs false
namespace Go.Proofs.YtnaamjpiaekmeaaGreat
open Go.RowKit Go.Maps
theorem nodup_inj {α β : Type} {f : α → β} (hf : ∀ a b, f a = f b → a = b) (l : List α) : (l.map f).Nodup ↔ l.Nodup := by
 unfold List.Nodup
 rw [List.pairwise_map]
 exact ⟨fun h => h.imp (fun hn e => hn (by rw [e])), fun h => h.imp (fun hn e => hn (hf _ _ e))⟩
theorem wf_nat {k : Nat} (h : k ≤ 9223372036854775807) : (Lit.int .i64 (k : Int)).wf = true := by
 have h1 : (-9223372036854775808 : Int) ≤ (k : Int) := by omega
 have h2 : (k : Int) ≤ 9223372036854775807 := by omega
 show (decide (IntKind.i64.min ≤ (k : Int)) && decide ((k : Int) ≤ IntKind.i64.max)) = true
 rw [show IntKind.i64.min = -9223372036854775808 from rfl, show IntKind.i64.max = 9223372036854775807 from rfl, decide_eq_true h1, decide_eq_true h2]
 rfl
theorem lawKS : Keyed Tryz.prog 9 := string_keyed Tryz.underlying9
theorem zeroKI (w : World) : (zeroValue 3).run Tryz.prog w = .ok (.int .i64 0) w := by kernel_rfl
theorem keyOfS (a : List UInt8) (h : a.length ≤ maxLen) : keyOf Tryz.prog 9 (encStr a) = some (.string a) := by
 have := WideMaps.keyOf_string_mk (P := Tryz.prog) (k := 9) (s := ⟨a.toArray⟩) Tryz.underlying9 (by simpa [ByteArray.size] using h)
 simpa using this
theorem ownsMap_kept {w w' : World} {P : Program} {k : TypeId} {R : Value → Option (DataW Unit × List MemPlace)} {b n : Nat} {D : DataW Unit} {L : List Nat} (h : w.ownsMap P k R b n D) (hf : Fr L w w') (hb : b ∉ L) : w'.ownsMap P k R b n D := by
 obtain ⟨es, c, hh, r⟩ := h
 exact ⟨es, c, hf.heap hh hb, r⟩
end Go.Proofs.YtnaamjpiaekmeaaGreat
namespace Go.Proofs.YtnaamjpiaekmeaaGreat
open Go.RowKit Go.Maps
theorem nodup_rev {α : Type} (l : List α) : l.reverse.Nodup ↔ l.Nodup := (List.reverse_perm l).nodup_iff
def plR : List Lit → DataW Unit
 | [] => .map []
 | x :: r => (plR r).put x (.lit (.int .i64 (r.length : Int)))
def plD (ks : List Lit) : DataW Unit := plR ks.reverse
theorem plD_snoc (ks : List Lit) (x : Lit) : plD (ks ++ [x]) = (plD ks).put x (.lit (.int .i64 (ks.length : Int))) := by
 unfold plD
 rw [List.reverse_append]
 show (plR ks.reverse).put x (.lit (.int .i64 (ks.reverse.length : Int))) = _
 rw [List.length_reverse]
def AllKey (ks : List Lit) : Prop := ∀ x ∈ ks, WideAt.IsKeyLit x
theorem plR_tidy : ∀ (r : List Lit), AllKey r → Tidy (plR r)
 | [], _ => tidy_empty
 | x :: r, h => (plR_tidy r (fun y hy => h y (by simp [hy]))).put (h x (by simp)) _
theorem plR_has : ∀ (r : List Lit), AllKey r → ∀ x, has (plR r) x = true ↔ x ∈ r
 | [], _, x => by simp [plR, has]
 | y :: r, h, x => by
   have hr : AllKey r := fun z hz => h z (by simp [hz])
   by_cases e : x = y
   ·subst e
    simp [plR, has_put_same (plR_tidy r hr).isMap (h x (by simp))]
   ·rw [plR, has_put_other e, plR_has r hr x]
    simp [e]
theorem plR_size : ∀ (r : List Lit), AllKey r → size (plR r) ≤ r.length ∧ (size (plR r) = r.length ↔ r.Nodup)
 | [], _ => by simp [plR, size]
 | x :: r, h => by
   have hr : AllKey r := fun z hz => h z (by simp [hz])
   obtain ⟨h1, h2⟩ := plR_size r hr
   rw [plR, Go.Maps.size_put (plR_tidy r hr), List.length_cons, List.nodup_cons, ← plR_has r hr x]
   cases hh : has (plR r) x with
   | true => simp; omega
   | false => simp [← h2]; omega
theorem plR_count : ∀ (r : List Lit), AllKey r → ∃ E : List Lit, E.Nodup ∧ (∀ x, x ∈ E ↔ x ∈ r) ∧ size (plR r) = E.length
 | [], _ => ⟨[], by simp, by simp, rfl⟩
 | x :: r, h => by
   have hr : AllKey r := fun z hz => h z (by simp [hz])
   obtain ⟨E, h1, h2, h3⟩ := plR_count r hr
   rw [plR, Go.Maps.size_put (plR_tidy r hr)]
   by_cases hm : x ∈ r
   ·rw [(plR_has r hr x).2 hm]
    refine ⟨E, h1, fun y => ?_, h3⟩
    rw [h2]
    simp only [List.mem_cons]
    exact ⟨.inr, fun q => q.elim (fun e => e ▸ hm) id⟩
   ·have hf : has (plR r) x = false := by
     cases hh : has (plR r) x with
     | false => rfl
     | true => exact (hm ((plR_has r hr x).1 hh)).elim
    rw [hf]
    refine ⟨x :: E, List.nodup_cons.2 ⟨fun q => hm ((h2 x).1 q), h1⟩, fun y => ?_, ?_⟩
    ·simp only [List.mem_cons, h2]
    ·rw [List.length_cons, ← h3]; rfl
theorem allKey_rev {ks : List Lit} (h : AllKey ks) : AllKey ks.reverse := fun x hx => h x (List.mem_reverse.1 hx)
theorem plD_size {ks : List Lit} (h : AllKey ks) : size (plD ks) ≤ ks.length ∧ (size (plD ks) = ks.length ↔ ks.Nodup) := by
 have := plR_size _ (allKey_rev h)
 unfold plD
 rwa [List.length_reverse, nodup_rev] at this
theorem plD_count {ks : List Lit} (h : AllKey ks) : ∃ E : List Lit, E.Nodup ∧ (∀ x, x ∈ E ↔ x ∈ ks) ∧ size (plD ks) = E.length := by
 obtain ⟨E, h1, h2, h3⟩ := plR_count _ (allKey_rev h)
 exact ⟨E, h1, fun x => by rw [h2, List.mem_reverse], h3⟩
theorem keyS (l : List (List UInt8)) : AllKey (l.map Lit.string) := fun x hx => by obtain ⟨y, _, rfl⟩ := List.mem_map.1 hx; trivial
theorem keyI (l : List Int) : AllKey (l.map (Lit.int .i64)) := fun x hx => by obtain ⟨y, _, rfl⟩ := List.mem_map.1 hx; trivial
theorem nodupS {l : List (List UInt8)} : (l.map Lit.string).Nodup ↔ l.Nodup := nodup_inj (fun a b e => by cases e; rfl) l
theorem memI {l : List Int} {x : Int} : Lit.int .i64 x ∈ l.map (Lit.int .i64) ↔ x ∈ l := by
 rw [List.mem_map]
 exact ⟨fun ⟨y, h, e⟩ => by cases e; exact h, fun h => ⟨x, h, rfl⟩⟩
theorem lawKI : Keyed Tryz.prog 3 := int_keyed Tryz.underlying3
theorem keyOfI (a : Int) (h : (Lit.int .i64 a).wf = true) : keyOf Tryz.prog 3 (.int .i64 a) = some (.int .i64 a) := keyOf_int_mk Tryz.underlying3 h
def smapAt (w : World) (b : Nat) (l : List (List UInt8)) : Prop := w.ownsMap Tryz.prog 9 (plainElem Tryz.prog 3) b l.length (plD (l.map Lit.string))
def imapAt (w : World) (b : Nat) (l : List Int) : Prop := w.ownsMap Tryz.prog 3 (plainElem Tryz.prog 3) b l.length (plD (l.map (Lit.int .i64)))
theorem smapAt.kept {w w' : World} {b : Nat} {l : List (List UInt8)} {L : List Nat} (h : smapAt w b l) (hf : Fr L w w') (hb : b ∉ L) : smapAt w' b l := ownsMap_kept h hf hb
theorem imapAt.kept {w w' : World} {b : Nat} {l : List Int} {L : List Nat} (h : imapAt w b l) (hf : Fr L w w') (hb : b ∉ L) : imapAt w' b l := ownsMap_kept h hf hb
theorem smapAt.heap {w : World} {b : Nat} {l : List (List UInt8)} (h : smapAt w b l) : ∃ es c, w.heap[b]? = some (.map es c) := by
 obtain ⟨es, c, hh, _⟩ := h
 exact ⟨es, c, hh⟩
noncomputable def distS (l : List (List UInt8)) : Nat := size (plD (l.map Lit.string))
noncomputable def distI (l : List Int) : Nat := size (plD (l.map (Lit.int .i64)))
theorem distS_nodup {l : List (List UInt8)} : distS l = l.length ↔ l.Nodup := by
 have := (plD_size (keyS l)).2
 rw [List.length_map, nodupS] at this
 exact this
theorem distI_full {l : List Int} {n : Nat} (h : ∀ x ∈ l, 0 ≤ x ∧ x < (n : Int)) : distI l = n ↔ ∀ i : Nat, i < n → (i : Int) ∈ l := by
 obtain ⟨E, h1, h2, h3⟩ := plD_count (keyI l)
 have hR : ((List.range n).map fun i : Nat => Lit.int .i64 (i : Int)).Nodup := by
  rw [nodup_inj (fun (a b : Nat) e => by injection e with _ e; omega)]
  exact List.nodup_range
 have hsub : ∀ x ∈ E, x ∈ (List.range n).map fun i : Nat => Lit.int .i64 (i : Int) := fun x hx => by
  obtain ⟨y, hy, rfl⟩ := List.mem_map.1 ((h2 x).1 hx)
  have := h y hy
  exact List.mem_map.2 ⟨y.toNat, by rw [List.mem_range]; omega, by congr 1; omega⟩
 unfold distI
 rw [h3]
 constructor
 ·intro e i hi
  refine Classical.byContradiction (fun hn => ?_)
  have hE : Lit.int .i64 (i : Int) ∉ E := fun q => hn (memI.1 ((h2 _).1 q))
  have := List.Nodup.length_le_of_subset (l₁ := Lit.int .i64 (i : Int) :: E) (l₂ := (List.range n).map fun i : Nat => Lit.int .i64 (i : Int)) (List.nodup_cons.2 ⟨hE, h1⟩) (fun x hx => by
   rcases List.mem_cons.1 hx with rfl | hx
   ·exact List.mem_map.2 ⟨i, by rw [List.mem_range]; exact hi, rfl⟩
   ·exact hsub x hx)
  simp at this
  omega
 ·intro hall
  have a1 := List.Nodup.length_le_of_subset h1 (fun x hx => hsub x hx)
  have a2 := List.Nodup.length_le_of_subset hR (l₂ := E) (fun x hx => by
   obtain ⟨i, hi, rfl⟩ := List.mem_map.1 hx
   exact (h2 _).2 (memI.2 (hall i (List.mem_range.1 hi))))
  simp at a1 a2
  omega
end Go.Proofs.YtnaamjpiaekmeaaGreat
namespace Go.Proofs.YtnaamjpiaekmeaaGreat
open Go.RowKit Go.Maps
theorem run_makeMapN {P : Program} (t k e : TypeId) (w : World) (n : Int) (ht : P.underlying t = some (.map k e)) : (Instr.makeMap t (some (.int .i64 n))).run P w = .ok (.map (some w.heap.size)) (w.alloc (.map #[] 0)) := by
 simp [Instr.makeMap, run_underlying ht, asInt, newObj, Result.andThen]
 try rfl
def PLRel_s (w : World) (b : Nat) (l : List (List UInt8)) (iv : Value) (wx : World) : Prop := ∃ k : Nat, k ≤ l.length ∧ iv = .int .i64 (k : Int) ∧ smapAt wx b (l.take k) ∧ Fr [] w wx
def RPl_s (l : List (List UInt8)) (w : World) (e : Ending) (w' : World) : Prop := ∃ b, e = .returned (.map (some b)) ∧ smapAt w' b l ∧ w.heap.size ≤ b ∧ Fr [] w w'
theorem smapAt_next {w w1 : World} {b : Nat} {l : List (List UInt8)} {k : Nat} (hk : k < l.length) (h : w1.ownsMap Tryz.prog 9 (plainElem Tryz.prog 3) b (k + 1) ((plD ((l.take k).map Lit.string)).put (Lit.string (l[k]'hk)) (.lit (.int .i64 (k : Int))))) : smapAt w1 b (l.take (k + 1)) := by
 have hl : (l.take k).length = k := by rw [List.length_take]; omega
 have hl2 : (l.take (k + 1)).length = k + 1 := by rw [List.length_take]; omega
 unfold smapAt
 rw [hl2, List.take_succ_eq_append_getElem hk, List.map_append, List.map_singleton, plD_snoc, List.length_map, hl]
 exact h
set_option maxRecDepth 100000 in
set_option maxHeartbeats 1000000 in
theorem pplaces_s (l : List (List UInt8)) (lv : Value) (w : World) (h : strsAt w lv l) (hl : l.length ≤ 100000) (hs : ∀ x ∈ l, x.length ≤ maxLen) : Calls Tryz.prog 118 #[lv] w (RPl_s l w) := by
 obtain ⟨a0, c0, rfl, hle, hmx⟩ := h.form
 have HE := Lib.hid h
 have HS := Lib.hid hs
 have hf0 := Fr.alloc w (.map #[] 0)
 have hm0 : smapAt (w.alloc (.map #[] 0)) w.heap.size [] := World.ownsMap_made (H := Unit) w Tryz.prog 9 (plainElem Tryz.prog 3)
 obtain ⟨w0, hw0⟩ : ∃ w0, w0 = w.alloc (.map #[] 0) := ⟨_, rfl⟩
 obtain ⟨b, hb⟩ : ∃ b, b = w.heap.size := ⟨_, rfl⟩
 rw [← hw0] at hf0 hm0
 rw [← hb] at hm0
 have hge : w.heap.size ≤ b := by omega
 have HF0 := Lib.hid hf0
 have HM0 := Lib.hid hm0
 have HW := Lib.hid hw0
 have HB := Lib.hid hb
 have HG := Lib.hid hge
 have hmm := run_makeMapN (P := Tryz.prog) 114 9 3 w (l.length : Int) Tryz.underlying114
 clear h hs hf0 hm0 hw0 hb hge
 go_enter Tryz.func118, Tryz.ntmps118
 go_upto_region 2 with fail
 rw [← HW.out, ← HB.out]
 clear hmm
 go_wp2_with fail
 go_loopw [11] (PLRel_s w b l) (fun iv _ => l.length - (intOf iv).toNat)
 case atStart => exact ⟨0, Nat.zero_le _, rfl, HM0.out, HF0.out⟩
 case round =>
  obtain ⟨k, hk, rfl, hmap, hf⟩ := hrel
  have HF := Lib.hid hf
  by_cases hkn : k < l.length
  ·have hd1 : decide (k < l.length) = true := decide_eq_true hkn
   obtain ⟨p, off, rfl, hc⟩ := str_cell (HE.out.below hf) k hkn
   have hkey := keyOfS (l[k]'hkn) (HS.out _ (List.getElem_mem hkn))
   have hlt : (l.take k).length = k := by rw [List.length_take]; omega
   unfold smapAt at hmap
   rw [hlt] at hmap
   have hnext := fun w1 => smapAt_next (w := wr) (w1 := w1) (b := b) hkn
   obtain ⟨x, hx⟩ : ∃ x, x = l[k]'hkn := ⟨_, rfl⟩
   rw [← hx] at hc hkey hnext
   have HM := Lib.hid hmap
   have HN := Lib.hid hnext
   have HKY := Lib.hid hkey
   clear hmap hx hf hnext hkey
   go_wp2_with (at_mapUpdate; refine wpList_mapUpdate_own _ rfl _ _ _ 114 rfl 9 3 lawKS Tryz.underlying114 (plainElem Tryz.prog 3) b k _ rfl HM.out (by unfold maxLen; omega) _ _ _ rfl rfl HKY.out _ [] (plainElem_int Tryz.underlying3 (wf_nat (by omega))) ?_; intro w1 hown1 hgrow1)
   refine ⟨⟨k + 1, by omega, by go_num, HN.out _ hown1, HF.out.trans (Fr.of_grown hgrow1) (by simp) (fun i hi hlt => by have := HG.out; simp at hi; omega)⟩, by simp [intOf]; omega⟩
  ·have hd1 : decide (k < l.length) = false := decide_eq_false hkn
   have hkl : k = l.length := by omega
   have HM := Lib.hid (show smapAt wr b l by rw [hkl, List.take_length] at hmap; exact hmap)
   clear hf hmap hkl
   go_wp2_with fail
   go_ret
   exact ⟨_, rfl, HM.out, HG.out, HF.out⟩
def PLRel_i (w : World) (b : Nat) (l : List Int) (iv : Value) (wx : World) : Prop := ∃ k : Nat, k ≤ l.length ∧ iv = .int .i64 (k : Int) ∧ imapAt wx b (l.take k) ∧ Fr [] w wx
def RPl_i (l : List Int) (w : World) (e : Ending) (w' : World) : Prop := ∃ b, e = .returned (.map (some b)) ∧ imapAt w' b l ∧ w.heap.size ≤ b ∧ Fr [] w w'
theorem imapAt_next {w w1 : World} {b : Nat} {l : List Int} {k : Nat} (hk : k < l.length) (h : w1.ownsMap Tryz.prog 3 (plainElem Tryz.prog 3) b (k + 1) ((plD ((l.take k).map (Lit.int .i64))).put ((Lit.int .i64) (l[k]'hk)) (.lit (.int .i64 (k : Int))))) : imapAt w1 b (l.take (k + 1)) := by
 have hl : (l.take k).length = k := by rw [List.length_take]; omega
 have hl2 : (l.take (k + 1)).length = k + 1 := by rw [List.length_take]; omega
 unfold imapAt
 rw [hl2, List.take_succ_eq_append_getElem hk, List.map_append, List.map_singleton, plD_snoc, List.length_map, hl]
 exact h
set_option maxRecDepth 100000 in
set_option maxHeartbeats 1000000 in
theorem pplaces_i (l : List Int) (lv : Value) (w : World) (h : intsAt w lv l) (hl : l.length ≤ 100000) (hs : ∀ x ∈ l, (Lit.int .i64 x).wf = true) : Calls Tryz.prog 126 #[lv] w (RPl_i l w) := by
 obtain ⟨a0, c0, rfl, hle, hmx⟩ := h.form
 have HE := Lib.hid h
 have HS := Lib.hid hs
 have hf0 := Fr.alloc w (.map #[] 0)
 have hm0 : imapAt (w.alloc (.map #[] 0)) w.heap.size [] := World.ownsMap_made (H := Unit) w Tryz.prog 3 (plainElem Tryz.prog 3)
 obtain ⟨w0, hw0⟩ : ∃ w0, w0 = w.alloc (.map #[] 0) := ⟨_, rfl⟩
 obtain ⟨b, hb⟩ : ∃ b, b = w.heap.size := ⟨_, rfl⟩
 rw [← hw0] at hf0 hm0
 rw [← hb] at hm0
 have hge : w.heap.size ≤ b := by omega
 have HF0 := Lib.hid hf0
 have HM0 := Lib.hid hm0
 have HW := Lib.hid hw0
 have HB := Lib.hid hb
 have HG := Lib.hid hge
 have hmm := run_makeMapN (P := Tryz.prog) 161 3 3 w (l.length : Int) Tryz.underlying161
 clear h hs hf0 hm0 hw0 hb hge
 go_enter Tryz.func126, Tryz.ntmps126
 go_upto_region 2 with fail
 rw [← HW.out, ← HB.out]
 clear hmm
 go_wp2_with fail
 go_loopw [11] (PLRel_i w b l) (fun iv _ => l.length - (intOf iv).toNat)
 case atStart => exact ⟨0, Nat.zero_le _, rfl, HM0.out, HF0.out⟩
 case round =>
  obtain ⟨k, hk, rfl, hmap, hf⟩ := hrel
  have HF := Lib.hid hf
  by_cases hkn : k < l.length
  ·have hd1 : decide (k < l.length) = true := decide_eq_true hkn
   obtain ⟨p, off, rfl, hc⟩ := int_cell (HE.out.below hf) k hkn
   have hkey := keyOfI (l[k]'hkn) (HS.out _ (List.getElem_mem hkn))
   have hlt : (l.take k).length = k := by rw [List.length_take]; omega
   unfold imapAt at hmap
   rw [hlt] at hmap
   have hnext := fun w1 => imapAt_next (w := wr) (w1 := w1) (b := b) hkn
   obtain ⟨x, hx⟩ : ∃ x, x = l[k]'hkn := ⟨_, rfl⟩
   rw [← hx] at hc hkey hnext
   have HM := Lib.hid hmap
   have HN := Lib.hid hnext
   have HKY := Lib.hid hkey
   clear hmap hx hf hnext hkey
   go_wp2_with (at_mapUpdate; refine wpList_mapUpdate_own _ rfl _ _ _ 161 rfl 3 3 lawKI Tryz.underlying161 (plainElem Tryz.prog 3) b k _ rfl HM.out (by unfold maxLen; omega) _ _ _ rfl rfl HKY.out _ [] (plainElem_int Tryz.underlying3 (wf_nat (by omega))) ?_; intro w1 hown1 hgrow1)
   refine ⟨⟨k + 1, by omega, by go_num, HN.out _ hown1, HF.out.trans (Fr.of_grown hgrow1) (by simp) (fun i hi hlt => by have := HG.out; simp at hi; omega)⟩, by simp [intOf]; omega⟩
  ·have hd1 : decide (k < l.length) = false := decide_eq_false hkn
   have hkl : k = l.length := by omega
   have HM := Lib.hid (show imapAt wr b l by rw [hkl, List.take_length] at hmap; exact hmap)
   clear hf hmap hkl
   go_wp2_with fail
   go_ret
   exact ⟨_, rfl, HM.out, HG.out, HF.out⟩
end Go.Proofs.YtnaamjpiaekmeaaGreat
namespace Go.Proofs.YtnaamjpiaekmeaaGreat
open Go.RowKit
def byteI (x : Int) : UInt8 := UInt8.ofNat (x % 256).toNat
theorem byteI_toNat (x : Int) : ((byteI x).toNat : Int) = x % 256 := by
 unfold byteI
 have h1 : 0 ≤ x % 256 := Int.emod_nonneg _ (by decide)
 have h2 : x % 256 < 256 := Int.emod_lt_of_pos _ (by decide)
 rw [UInt8.toNat_ofNat_of_lt' (by show (x % 256).toNat < 256; omega)]
 omega
def ruleT (r : RuleG) : List UInt8 := byteI r.left :: r.right.map byteI
def TxtRel (w : World) (l : Int) (s : List Int) (bv iv : Value) (wx : World) : Prop := ∃ k : Nat, k ≤ s.length ∧ iv = .int .i64 (k : Int) ∧ wx.ownsRow w.heap.size 5 1 bv (k + 1) (cellsB (byteI l :: (s.take k).map byteI)) ∧ Fr [] w wx
set_option maxRecDepth 100000 in
set_option maxHeartbeats 1000000 in
theorem ptext_any (r : RuleG) (v : Value) (w : World) (hv : intsAt w v r.right) (hl : r.right.length ≤ 100000) : Calls Tryz.prog 147 #[ruleV r.left v] w fun e w' => e = .returned (encStr (ruleT r)) ∧ Fr [] w w' := by
 obtain ⟨iB, hiB, hz0, hz1, hz2⟩ := info_parts infoB
 obtain ⟨a4, c4, rfl, hle, hmx⟩ := hv.form
 obtain ⟨l, s⟩ := r
 simp only at hv hle hmx hl ⊢
 unfold ruleV
 obtain ⟨T, hT⟩ : ∃ T, T = ruleT ⟨l, s⟩ := ⟨_, rfl⟩
 rw [← hT]
 have HT := Lib.hid (show T = byteI l :: s.map byteI from hT)
 clear hT
 have hb1 := two_of_new w (.int .i64 l) (.slice a4 s.length c4) 46
 have hf1 := Fr.alloc w (.cells #[.int .i64 l, .slice a4 s.length c4] 46)
 obtain ⟨w1, hw1⟩ : ∃ w1, w1 = w.alloc (.cells #[.int .i64 l, .slice a4 s.length c4] 46) := ⟨_, rfl⟩
 obtain ⟨q1, hq1⟩ : ∃ q1, q1 = w.heap.size := ⟨_, rfl⟩
 rw [← hw1] at hb1 hf1
 rw [← hq1] at hb1
 have HB1 := Lib.hid hb1
 have HF1 := Lib.hid hf1
 have HW1 := Lib.hid hw1
 have HQ1 := Lib.hid hq1
 have HV := Lib.hid (hv.below hf1)
 obtain ⟨x0, x1, -⟩ := two_cells HB1.out
 have HV0 := Lib.hid hv
 clear hb1 hf1 hw1 hq1 hv
 go_enter Tryz.func147, Tryz.ntmps147
 go_upto_region 1 with fail
 rw [← HW1.out, ← HQ1.out]
 go_upto_region 2 with fail
 have hf2 := Fr.alloc w1 (.cells #[.int .u8 (l % 256)] 5)
 have hb2 := heap_alloc_new w1 (.cells #[.int .u8 (l % 256)] 5)
 have hge : w.heap.size ≤ w1.heap.size := HF1.out.size
 have ho2 : (w1.alloc (.cells #[.int .u8 (l % 256)] 5)).ownsRow w.heap.size 5 1 (.slice (some ⟨w1.heap.size, 0, none⟩) 1 1) 1 (cellsB [byteI l]) := by
  have : (w1.alloc (.cells #[.int .u8 (l % 256)] 5)).ownsRow w.heap.size 5 1 (.slice (some ⟨w1.heap.size, 0, none⟩) 1 1) 1 [.int .u8 (l % 256)] := owns_of_heap (cur := [.int .u8 (l % 256)]) hb2 hge (by simp) (Nat.le_refl 1) (by simp [maxLen]) (by simp)
  simpa [cellsB, byteI_toNat] using this
 obtain ⟨w2, hw2⟩ : ∃ w2, w2 = w1.alloc (.cells #[.int .u8 (l % 256)] 5) := ⟨_, rfl⟩
 obtain ⟨bv, hbv⟩ : ∃ bv, bv = Value.slice (some ⟨w1.heap.size, 0, none⟩) 1 1 := ⟨_, rfl⟩
 rw [← hw2] at hf2 ho2
 rw [← hbv] at ho2
 rw [← hw2, ← hbv]
 have HF2 := Lib.hid (HF1.out.trans hf2 (by simp) (n := []) (by simp))
 have HO2 := Lib.hid ho2
 have HV2 := Lib.hid (HV.out.below hf2)
 have HBV := Lib.hid hbv
 have hx1 := hf2.cell x1 (by simp)
 clear hf2 hb2 hge ho2 hw2 hbv x0 x1
 go_wp2_with fail
 go_loopw [3, 13] (TxtRel w l s) (fun _ iv _ => s.length - (intOf iv).toNat)
 case atStart => exact ⟨0, Nat.zero_le _, rfl, HO2.out, HF2.out⟩
 case round =>
  obtain ⟨k, hk, rfl, hown, hf⟩ := hrel
  have HF := Lib.hid hf
  by_cases hkn : k < s.length
  ·have hd1 : decide (k < s.length) = true := decide_eq_true hkn
   obtain ⟨p, off, rfl, hc⟩ := int_cell (HV0.out.below hf) k hkn
   obtain ⟨x, hx⟩ : ∃ x, x = s[k]'hkn := ⟨_, rfl⟩
   rw [← hx] at hc
   have hcells : cellsB (byteI l :: (s.take (k + 1)).map byteI) = cellsB (byteI l :: (s.take k).map byteI) ++ [.int .u8 (x % 256)] := by
    rw [List.take_succ_eq_append_getElem hkn, List.map_append, ← hx, show byteI l :: ((s.take k).map byteI ++ [x].map byteI) = (byteI l :: (s.take k).map byteI) ++ [byteI x] from rfl, cellsB_append]
    simp [cellsB, byteI_toNat]
   have hsz := hf.size
   have HC := Lib.hid hcells
   obtain ⟨C, hC⟩ : ∃ C, C = cellsB (byteI l :: (s.take k).map byteI) := ⟨_, rfl⟩
   rw [← hC] at hown HC
   clear hx hcells hf hC
   go_wp2_with (at_builtin; refine wpL_append1 rfl _ _ 47 rfl w.heap.size 5 iB (.int .u8 0) 1 Tryz.underlying47 hiB hz0 hz1 hz2 rfl _ (k + 1) C rfl hown _ rfl rfl (by omega) (by simp [maxLen]; omega) hsz ?_; intro v' w3 hown3 hf3 hb3)
   refine ⟨⟨k + 1, by omega, by go_num, ?_, HF.out.own hown hf3⟩, by simp [intOf]; omega⟩
   rw [HC.out]
   exact hown3
  ·have hd1 : decide (k < s.length) = false := decide_eq_false hkn
   have hkl : k = s.length := by omega
   have hby : bytesAt wr u3 T := bytesAt_of_owns (by
    rw [hkl, List.take_length, ← HT.out] at hown
    rw [show T.length = s.length + 1 by rw [HT.out]; simp]
    exact hown)
   have hconv := fun dst hs he hd => run_conv_bytes (P := Tryz.prog) hby 47 5 dst hs he hd
   have hcv := hconv 9 Tryz.underlying47 Tryz.underlying5 Tryz.underlying9
   obtain ⟨a5, c5, rfl, h5, h6⟩ := hby.form
   clear hf hown hconv hby hkl
   go_wp2_with fail
   go_ret
   exact ⟨rfl, HF.out⟩
end Go.Proofs.YtnaamjpiaekmeaaGreat
namespace Go.Proofs.YtnaamjpiaekmeaaGreat
open Go.RowKit Go.Maps
theorem infoStr : (Tryz.prog.info? 9).map (fun i => (i.zero, i.size, i.bytes)) = some (some (.string ⟨#[]⟩), 1, 16) := by kernel_rfl
theorem infoInt : (Tryz.prog.info? 3).map (fun i => (i.zero, i.size, i.bytes)) = some (some (.int .i64 0), 1, 8) := by kernel_rfl
def DifRel (w : World) (b : Nat) (T : List (List UInt8)) (iv : Value) (wx : World) : Prop := ∃ k : Nat, k ≤ T.length ∧ iv = .int .i64 (k : Int) ∧ fillAt wx b 9 (.string ⟨#[]⟩) (T.map encStr) k ∧ Fr [] w wx
theorem ruleT_len {r : RuleG} (h : r.right.length ≤ 100000) : (ruleT r).length ≤ maxLen := by
 unfold ruleT; simp [maxLen]; omega
set_option maxRecDepth 100000 in
set_option maxHeartbeats 2000000 in
theorem pdiffer_any (rs : List RuleG) (rv : Value) (w : World) (h : rulesAt w rv rs) (hl : rs.length ≤ 100000) (hr : ∀ r ∈ rs, r.right.length ≤ 100000) :
  Calls Tryz.prog 127 #[rv] w fun e w' => e = .returned (.bool (boolOf (rs.map ruleT).Nodup)) ∧ Fr [] w w' := by
 obtain ⟨iS, hiS, hz0, hz1, hz2⟩ := info_parts infoStr
 obtain ⟨a0, c0, rfl, hle, hmx⟩ := h.form
 have HE := Lib.hid h
 have HRR := Lib.hid hr
 obtain ⟨T, hT⟩ : ∃ T, T = rs.map ruleT := ⟨_, rfl⟩
 have hlen : T.length = rs.length := by rw [hT, List.length_map]
 have hget : ∀ k (h1 : k < rs.length) (h2 : k < T.length), T[k]'h2 = ruleT (rs[k]'h1) := fun k h1 h2 => by simp [hT]
 have hTl : ∀ x ∈ T, x.length ≤ maxLen := fun x hx => by rw [hT] at hx; obtain ⟨r, hm, rfl⟩ := List.mem_map.1 hx; exact ruleT_len (hr r hm)
 obtain ⟨R, hR⟩ : ∃ R, R = boolOf T.Nodup := ⟨_, rfl⟩
 rw [← hT, ← hR]
 have hRd : ((distS T : Int) == (rs.length : Int)) = R := by
  rw [hR]
  by_cases q : T.Nodup
  ·rw [boolOf_true q, distS_nodup.2 q, hlen]; simp
  ·rw [boolOf_false q, beq_eq_false_iff_ne]
   exact fun e => q (distS_nodup.1 (by omega))
 obtain ⟨n, hn⟩ : ∃ n, n = rs.length := ⟨_, rfl⟩
 rw [← hn] at hRd hlen hle hl
 have HN := Lib.hid hn
 have HLEN := Lib.hid hlen
 have HGET := Lib.hid hget
 have HTL := Lib.hid hTl
 have HRD := Lib.hid hRd
 rw [← hn] at HE ⊢
 clear h hr hT hget hTl hR hRd hlen hn
 go_enter Tryz.func127, Tryz.ntmps127
 go_upto_region 2 with (refine wpL_make rfl _ _ 22 rfl 9 iS (.string ⟨#[]⟩) 16 Tryz.underlying22 hiS hz0 hz1 hz2 rfl n rfl rfl (by omega) (by simp [maxLen]; omega) ?_; intro w1 hh1 hf1 hs1)
 have HM0 := Lib.hid (fill_zero (l := T.map encStr) (by rw [List.length_map, HLEN.out]) hh1.out)
 have HS := Lib.hid hs1.out
 obtain ⟨b, hb⟩ : ∃ b, b = w.heap.size := ⟨_, rfl⟩
 have HB := Lib.hid (show w.heap.size ≤ b by omega)
 rw [← hb] at HM0
 rw [← hb]
 have HF1 := Lib.hid hf1
 clear hh1 hf1 hs1 hb
 go_wp2_with fail
 go_loopw [11] (DifRel w b T) (fun iv _ => n - (intOf iv).toNat)
 case atStart => exact ⟨0, Nat.zero_le _, rfl, HM0.out, HF1.out⟩
 case round =>
  obtain ⟨k, hk, rfl, hm, hf⟩ := hrel
  have hk' : k ≤ n := by have := HLEN.out; omega
  have HF := Lib.hid hf
  have HM := Lib.hid hm
  by_cases hkn : k < n
  ·have hd1 : decide (k < n) = true := decide_eq_true hkn
   have hkr : k < rs.length := by have := HN.out; omega
   have hkT : k < T.length := by have := HLEN.out; omega
   obtain ⟨p, off, v, rfl, k0, k1, hv⟩ := rule_cells (HE.out.below hf) k hkr
   obtain ⟨x, hx⟩ : ∃ x, x = rs[k]'hkr := ⟨_, rfl⟩
   have hsz := HRR.out _ (List.getElem_mem hkr)
   have hgt := HGET.out k hkr hkT
   rw [← hx] at k0 hv hsz hgt
   have htx := fun wx (hfx : Fr [] wr wx) => ptext_any x v wx (hv.below hfx) hsz
   rw [← hgt] at htx
   obtain ⟨t, ht⟩ : ∃ t, t = T[k]'hkT := ⟨_, rfl⟩
   rw [← ht] at htx
   obtain ⟨a2, c2, rfl, hle2, hmx2⟩ := hv.form
   obtain ⟨n2, hn2⟩ : ∃ n, n = x.right.length := ⟨_, rfl⟩
   obtain ⟨lf, hlf⟩ : ∃ lf, lf = x.left := ⟨_, rfl⟩
   unfold ruleV at htx
   rw [← hn2] at htx k1
   rw [← hlf] at htx k0
   have HTX := Lib.hid htx
   have HT := Lib.hid ht
   have hb0 := two_of_new wr (.int .i64 lf) (.slice a2 n2 c2) 46
   have hf0 := Fr.alloc wr (.cells #[.int .i64 lf, .slice a2 n2 c2] 46)
   obtain ⟨w0, hw0⟩ : ∃ w0, w0 = wr.alloc (.cells #[.int .i64 lf, .slice a2 n2 c2] 46) := ⟨_, rfl⟩
   obtain ⟨q0, hq0⟩ : ∃ q0, q0 = wr.heap.size := ⟨_, rfl⟩
   rw [← hw0] at hb0 hf0
   rw [← hq0] at hb0
   have HB0 := Lib.hid hb0
   have HF0 := Lib.hid hf0
   have HW0 := Lib.hid hw0
   have HQ0 := Lib.hid hq0
   clear hx hgt htx ht hn2 hlf hb0 hf0 hw0 hq0 hv hsz hm hf hle2 hmx2
   go_upto_region 5 with fail
   rw [← HW0.out, ← HQ0.out]
   clear k0 k1
   obtain ⟨x0, x1, -⟩ := two_cells HB0.out
   have hfr := fun i => fill_free (fill_below HM.out HF0.out) i
   go_wp2_with (go_at_call 147; refine (HTX.out _ HF0.out).mono ?_; rintro e w2 ⟨rfl, hf2⟩; have hfl := fill_below (fill_below HM.out HF0.out) hf2; have hfr2 := fill_free hfl k; have hcl := fill_cell hfl (by rw [List.length_map]; exact hkT))
   refine ⟨⟨k + 1, by have := HLEN.out; omega, by go_num, fill_next hfl (by rw [List.length_map]; exact hkT) (by rw [List.getElem_map, ← HT.out]), ?_⟩, by simp [intOf]; omega⟩
   exact ((HF.out.trans HF0.out (by simp) (n := []) (by simp)).trans hf2 (by simp) (n := []) (by simp)).trans (Fr.set0 _ _ _ _) (by simp) (fun i hi hlt => by have := HB.out; simp at hi; omega)
  ·have hd1 : decide (k < n) = false := decide_eq_false hkn
   have hkl : k = (T.map encStr).length := by rw [List.length_map, HLEN.out]; omega
   have hst := fill_end hm hkl (by rw [List.length_map, HLEN.out]; simp [maxLen]; omega)
   rw [List.length_map, HLEN.out] at hst
   have hpl := pplaces_s T _ wr hst (by rw [HLEN.out]; exact hl) HTL.out
   have HPL := Lib.hid hpl
   have HD := Lib.hid HRD.out
   clear hm hf hkl hst hpl
   go_wp2_with (first
    | (at_len; have := hmap; refine wpList_len_own _ rfl _ 114 rfl 9 3 Tryz.underlying114 _ b2 _ _ rfl hmap ?_; rw [show size (plD (T.map Lit.string)) = distS T from rfl])
    | (go_at_call 118; refine HPL.out.mono ?_; rintro e w2 ⟨b2, rfl, hmap, hge2, hf2⟩; unfold smapAt at hmap; have hD := HD.out))
   go_ret
   exact ⟨rfl, HF.out.trans hf2 (by simp) (by simp)⟩
end Go.Proofs.YtnaamjpiaekmeaaGreat
