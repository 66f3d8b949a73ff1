/- The program's sets of words (layer 19): the tally's set; counting lists. -/
import Derived.Test.YtapkohdbnfaacaaWlB
import Derived.Test.YtapkohdbnfaacaaRowC
import Derived.Test.YtapkohdbnfaacaaShelf
import Derived.Sort.OwnSorted
set_option linter.unusedVariables false
set_option linter.unusedSimpArgs false
namespace Go.Proofs.Ytapkohdbnfaacaa
open Go.RowKit Go.Maps Go.Sort

def SetGot (l : Words) (L : List Nat) (w : World) (e : Ending) (w' : World) : Prop := ∃ v, e = .returned v ∧ strsAt w' v l ∧ Fr L w w'
set_option maxRecDepth 100000 in
set_option maxHeartbeats 1000000 in
theorem pset_any (base p mb t : Nat) (ws : Words) (fv : Value) (w : World) (h : TyAt w base p mb t ws fv) (hn : (fndW t ws).length ≤ 2000000000) :
    Calls Try.prog 22 #[.pointer (some ⟨p, 0, none⟩)] w (SetGot (sortW (fndW t ws)) (tyB p mb fv) w) := by
  obtain ⟨c1, c2, c3, f1, f2, f3⟩ := three_of_heap h.obj
  have HO := Lib.hid h.obj
  have HPF := Lib.hid h.pf
  have hrow := h.row
  rcases hrow.2 with ⟨rfl, h0⟩ | ⟨g, cap, cur, rfl, hbase, hb, h1, h2, h3, h4⟩
  · have he : sortW (fndW t ws) = [] := List.length_eq_zero_iff.1 (by rw [sortW_len]; exact h0)
    have HE := Lib.hid he
    have HS := Lib.hid (fun wx => Try.slices_Sort_string_none none 0 wx)
    clear h hrow h0 he hn
    go_enter Try.func22, Try.ntmps22
    go_wp2_with (go_at_call 34; refine (HS.out _).mono ?_; rintro e w' ⟨rfl, rfl⟩)
    go_ret
    exact ⟨_, rfl, by rw [HE.out]; exact cellsAt.nil _, Fr.refl _ _⟩
  · have hH : Holds encStr w g 0 (fndW t ws).toArray := holds_of_block hb (by simpa using h4)
    have hgl : g < w.heap.size := (Array.getElem?_eq_some_iff.1 hb).1
    have HSO := Lib.hid (Try.slices_Sort_string g 0 cap (fndW t ws) w hH hgl (by omega))
    have HROW : Hid (∀ n os, (grow (putRow encStr (Sort.ahead w n) g 0 ((fndW t ws).mergeSort fun x y => decide (x ≤ y)).toArray) os).ownsRow base 9 1 (.slice (some ⟨g, 0, none⟩) (fndW t ws).length cap) (fndW t ws).length (((fndW t ws).mergeSort fun x y => decide (x ≤ y)).map encStr)) := Lib.hid (fun n os => ownsRow_sorted (by simp) hbase hb h1 h2 h3)
    have HFR : Hid (∀ n os, Fr [g] w (grow (putRow encStr (Sort.ahead w n) g 0 ((fndW t ws).mergeSort fun x y => decide (x ≤ y)).toArray) os)) := Lib.hid (fun n os => Fr.of_grown (grownBy_sorted _))
    have HG : Hid (g ∈ tyB p mb (.slice (some ⟨g, 0, none⟩) (fndW t ws).length cap)) := Lib.hid (by simp [tyB, Value.ownBlock])
    obtain ⟨nf, hnf⟩ : ∃ n, n = (fndW t ws).length := ⟨_, rfl⟩
    have hsl : (sortW (fndW t ws)).length = nf := by rw [sortW_len, hnf]
    have HSL := Lib.hid hsl
    rw [← hnf] at HSO HROW HO HPF HG c3 ⊢
    clear h hrow hb h1 h2 h3 h4 hH hn hnf hsl
    go_enter Try.func22, Try.ntmps22
    go_wp2_with (go_at_call 34; refine HSO.out.mono ?_; rintro e w' ⟨rfl, nn, os, rfl⟩; have HR := Lib.hid (HROW.out nn os); have HF := Lib.hid (HFR.out nn os); obtain ⟨w5, hw5⟩ : ∃ w5, w5 = grow (putRow encStr (Sort.ahead w nn) g 0 ((fndW t ws).mergeSort fun x y => decide (x ≤ y)).toArray) os := ⟨_, rfl⟩; rw [← hw5] at HR HF ⊢; clear hw5; obtain ⟨c1', c2', c3', f1', f2', f3'⟩ := three_of_heap (HF.out.heap HO.out (by intro q; simp at q; exact HPF.out (by rw [q]; simp [Value.ownBlock]))))
    go_ret
    refine ⟨.slice (some ⟨g, 0, none⟩) nf cap, rfl, cellsAt_of_owns (base := base) (e := 9) ?_, HF.out.mono (fun i hi _ => by simp at hi; rw [hi]; exact HG.out)⟩
    rw [List.length_map, HSL.out]
    exact HR.out

theorem run_makeMap0 {P : Program} (t k e : TypeId) (w : World) (ht : P.underlying t = some (.map k e)) : (Instr.makeMap t none).run P w = .ok (.map (some w.heap.size)) (w.alloc (.map #[] 0)) := by
  simp [Instr.makeMap, run_underlying ht, newObj, Result.andThen]
  try rfl
/-- A tally of the call's own. -/
def Counted (t : Nat) (ws : Words) (w : World) (e : Ending) (w' : World) : Prop := ∃ p mb fv, e = .returned (.pointer (some ⟨p, 0, none⟩)) ∧ TyAt w' w.heap.size p mb t ws fv ∧ Fr [] w w'
def CountRel (w : World) (ls : List Words) (p mb t : Nat) (iv : Value) (wx : World) : Prop :=
  ∃ k : Nat, k ≤ ls.length ∧ iv = .int .i64 (k : Int) ∧ ∃ fv, TyAt wx w.heap.size p mb t (ls.take k).flatten fv ∧ Fr [] w wx
theorem flat_take_le (ls : List Words) (k : Nat) : (ls.take k).flatten.length ≤ ls.flatten.length := by
  conv => rhs; rw [← List.take_append_drop k ls, List.flatten_append, List.length_append]
  omega
set_option maxRecDepth 100000 in
set_option maxHeartbeats 4000000 in
theorem pcount_any (t : Nat) (ls : List Words) (v : Value) (w : World) (ht : 0 < t) (ht2 : t ≤ 1000) (h : setsAt w v ls) (hn : ls.flatten.length ≤ 2000000000) (hx : ∀ l ∈ ls, ∀ x ∈ l, x.length ≤ maxLen) :
    Calls Try.prog 21 #[.int .i64 (t : Int), v] w (Counted t ls.flatten w) := by
  obtain ⟨a0, c0, rfl, hc0, hm0⟩ := h.form
  obtain ⟨w2, hw2⟩ : ∃ w2, w2 = (w.alloc (.map #[] 0)).alloc (.cells #[.int .i64 (t : Int), .map (some w.heap.size), .slice none 0 0] 53) := ⟨_, rfl⟩
  have hf2 : Fr [] w w2 := by rw [hw2]; exact (Fr.alloc w _).trans (Fr.alloc _ _) (by simp) (by simp)
  have hT : TyAt w2 w.heap.size (w.heap.size + 1) w.heap.size t [] (.slice none 0 0) := by
    refine ⟨?_, ?_, World.ownsRow_nil _ _ _ _, by omega, Nat.le_refl _⟩
    · rw [hw2]
      have := heap_alloc_new (w.alloc (.map #[] 0)) (.cells #[.int .i64 (t : Int), .map (some w.heap.size), .slice none 0 0] 53)
      rwa [World.size_alloc] at this
    · have hm : (w.alloc (.map #[] 0)).ownsMap Try.prog 9 (plainElem Try.prog 3) w.heap.size 0 (.map []) := World.ownsMap_made (H := Unit) w Try.prog 9 (plainElem Try.prog 3)
      rw [hw2]
      exact ownsMap_kept hm (Fr.alloc _ _) (by simp)
  obtain ⟨p, hp⟩ : ∃ p, p = w.heap.size + 1 := ⟨_, rfl⟩
  obtain ⟨mb, hmb⟩ : ∃ p, p = w.heap.size := ⟨_, rfl⟩
  have HW2 := Lib.hid hw2
  have HF2 := Lib.hid hf2
  have HE := Lib.hid h
  have HX := Lib.hid hx
  have hpe : (w.alloc (.map #[] 0)).heap.size = p := by rw [World.size_alloc, hp]
  have hT' : TyAt w2 w.heap.size p mb t [] (.slice none 0 0) := by rw [hp, hmb]; exact hT
  have HT := Lib.hid hT'
  have hw2' : w2 = (w.alloc (.map #[] 0)).alloc (.cells #[.int .i64 (t : Int), .map (some mb), .slice none 0 0] 53) := by rw [hw2, hmb]
  have HW2' := Lib.hid hw2'
  have HP := Lib.hid hp
  have HMB := Lib.hid hmb
  have HPE := Lib.hid hpe
  have hmm := run_makeMap0 (P := Try.prog) 51 9 3 w Try.underlying51
  rw [← hmb] at hmm
  clear h hx hw2 hf2 hT hp hmb hpe hT' hw2' HW2
  go_enter Try.func21, Try.ntmps21
  go_upto_region 2 with fail
  rw [← HW2'.out, ← HP.out]
  clear hmm HW2' HPE
  go_wp2_with fail
  go_loopw [14] (CountRel w ls p mb t) (fun iv _ => ls.length - (intOf iv).toNat)
  case atStart => exact ⟨0, Nat.zero_le _, rfl, _, by rw [List.take_zero]; exact HT.out, HF2.out⟩
  case round =>
    obtain ⟨k, hk, rfl, fv, hT, hF⟩ := hrel
    by_cases hkn : k < ls.length
    · have hd1 : decide (k < ls.length) = true := decide_eq_true hkn
      obtain ⟨b, off, u, rfl, hc, hu⟩ := set_cell HE.out k hkn
      have hcr := hF.cell hc (by simp)
      have hnx : (ls.take k).flatten ++ ls[k]'hkn = (ls.take (k + 1)).flatten := by
        rw [List.take_succ_eq_append_getElem hkn, List.flatten_append]
        simp
      have hadd := padd_any w.heap.size p mb t (ls.take k).flatten (ls[k]'hkn) fv u wr ht ht2 hT (fun w' hf' => hu.below (Fr.new hF hf' (fun i hi => hT.ge i hi))) hF.size (by
        have := flat_take_le ls (k + 1)
        rw [← hnx, List.length_append] at this
        omega) (HX.out _ (List.getElem_mem hkn))
      rw [hnx] at hadd
      obtain ⟨au, cu, rfl, -, -⟩ := hu.form
      have HA := Lib.hid hadd
      have HT1 := Lib.hid hT
      have HF1 := Lib.hid hF
      clear hadd hnx hu hc hT hF
      go_wp2_with (go_at_call 31; refine HA.out.mono ?_; rintro e w' ⟨rfl, fv', hT', hF', -⟩)
      exact ⟨⟨k + 1, hkn, by go_num, fv', hT', Fr.new HF1.out hF' (fun i hi => HT1.out.ge i hi)⟩, by simp [intOf]; omega⟩
    · have hd1 : decide (k < ls.length) = false := decide_eq_false hkn
      obtain rfl : k = ls.length := by omega
      rw [List.take_length] at hT
      have HT1 := Lib.hid hT
      have HF1 := Lib.hid hF
      clear hT hF
      go_wp2_with fail
      go_ret
      exact ⟨p, mb, fv, rfl, HT1.out, HF1.out⟩
end Go.Proofs.Ytapkohdbnfaacaa
