/- Contracts of package sha: Sum, Of. -/
import Derived.Test.YtjiighgabfkmpaaDoorShaH
import Derived.Test.YtjiighgabfkmpaaDoorPart
namespace Go.Proofs.YtjiighgabfkmpaaDoor
open Go.RowKit

def zeroHash : Array Value := (hashC zeroSt (List.replicate 64 0) 0).toArray
theorem infoHash : (Tryd.prog.info? 56).map (fun i => i.zero) = some (some (.agg zeroHash)) := by kernel_rfl
theorem hashA_size (st : St) (op : List UInt8) (n : Nat) (h : op.length = 64) : (hashC st op n).toArray.size = 73 := by
  rw [List.size_toArray, hashC_length st op n h]
theorem hashA_one (st : St) (op : List UInt8) (n : Nat) : (hashC st op n).toArray.all (·.oneCell') = true := by
  rw [Array.all_eq_true_iff_forall_mem]
  intro x hx
  have hx' : x ∈ (stC st).toList ∨ x ∈ cellsB op ∨ x = .int .i64 (n : Int) := by simpa [hashC] using hx
  rcases hx' with h | h | h
  · exact (Array.all_eq_true_iff_forall_mem.1 (stC_one st)) x (by simpa using h)
  · exact cellsB_one op x h
  · rw [h]; rfl
theorem bytesAt_of_heap {w : World} {g : Nat} {bs : List UInt8} {e : TypeId} (h : w.heap[g]? = some (.cells (cellsB bs).toArray e (0, 0))) (hm : bs.length ≤ maxLen) (n : Nat) (hn : n = bs.length) : bytesAt w (.slice (some ⟨g, 0, none⟩) n n) bs := by
  subst hn
  refine .inr ⟨g, 0, bs.length, rfl, Nat.le_refl _, hm, fun i hi => ?_⟩
  rw [cell_of_heap h, Nat.zero_add, bytesC_get]

set_option maxRecDepth 100000 in
theorem sum_any (p : Nat) (m : List UInt8) (w : World) (h : isH w p m) (hr : rootsAt w) (hlen : m.length < 900000000000) :
    Calls Tryd.prog 20 #[.pointer (some ⟨p, 0, none⟩)] w fun e w' => e = .returned (.agg (cellsB (hashN m)).toArray) ∧ Fr [] w w' := by
  have hp := h.lt
  obtain ⟨op, hop, hheap⟩ := h
  obtain ⟨Z, hZ⟩ : ∃ Z, Z = (cellsB (List.replicate 32 0)).toArray := ⟨_, rfl⟩
  have hiz := infoB32
  have hZs : Z.size = (cellsB (hashN m)).toArray.size := by rw [hZ]; simp [cellsB, hashN_length]
  rw [← hZ] at hiz
  obtain ⟨H0, hH0⟩ : ∃ H0, H0 = zeroHash := ⟨_, rfl⟩
  have hih := infoHash
  rw [← hH0] at hih
  obtain ⟨C, hC⟩ : ∃ C, C = (hashC (absorb (m.length / 64) m) op m.length).toArray := ⟨_, rfl⟩
  have hszC : C.size = 73 := by rw [hC, hashA_size _ _ _ hop.1]
  have hszH : (Tryd.prog.info? 56).map (·.size) = some C.size := by rw [hszC]; exact sizeHash
  have hold : H0.size = C.size := by rw [hszC, hH0, zeroHash, hashA_size _ _ _ (by simp)]
  have hone : C.all (·.oneCell') = true := by rw [hC]; exact hashA_one _ _ _
  rw [← hC] at hheap
  have hcell : ∀ w' : World, w'.heap[p]? = some (.cells C 56 (0, 0)) → w'.cell? ⟨p, 72, none⟩ = some (.int .i64 (m.length : Int)) := by
    intro w' hw'
    rw [cell_of_heap hw', hC, ← hashC_size (absorb (m.length / 64) m) op m.length hop.1]
    simp
  have HI := Lib.hid hiz
  have HIH := Lib.hid hih
  have HZS := Lib.hid hZs
  have HSH := Lib.hid hszH
  have HOLD := Lib.hid hold
  have HONE := Lib.hid hone
  have HCELL := Lib.hid hcell
  have HC := Lib.hid hC
  have HOP := Lib.hid hop
  have HH := Lib.hid hheap
  have HR := Lib.hid hr
  clear hZ hiz hZs hih hH0 hszH hold hone hcell hC hop hheap hr hszC
  obtain ⟨st, hst⟩ : ∃ st, st = absorb ((padded m).length / 64) (padded m) := ⟨_, rfl⟩
  have hsum : hashN m = encSt st := by rw [hst]; rfl
  rw [hsum] at HZS ⊢
  have hl8 : (Tryd.prog.info? 29).map (·.size) = some (stC st).toList.length := sizeN8 st
  have hl32 : (Tryd.prog.info? 24).map (·.size) = some (cellsB (encSt st)).toArray.size := by rw [bytesC_size, encSt_length]; exact sizeB32
  have HST := Lib.hid hst
  have HL8 := Lib.hid hl8
  have HL32 := Lib.hid hl32
  have HON := Lib.hid (bytesC_one (encSt st))
  clear hst hsum hl8 hl32
  obtain ⟨E, hE⟩ : ∃ E, E = (cellsB (encSt st)).toArray := ⟨_, rfl⟩
  have HE := Lib.hid (fun wx => encode_any st wx)
  rw [← hE] at HZS HL32 HON HE ⊢
  clear hE
  go_enter Tryd.func20, Tryd.ntmps20
  go_wp2_with (first
    | (refine wpL_newArr rfl 24 rfl Z HI.out ?_; intro w1 hh1 hf1 hs1)
    | (refine wpList_load_row rfl 56 _ rfl p rfl 56 C (0, 0) _ (hf1.heap HH.out (by simp)) Tryd.underlying56 rfl HSH.out ?_)
    | (refine wpL_newArr rfl 56 rfl H0 HIH.out ?_; intro w2 hh2 hf2 hs2; refine wpL_storeArr rfl 56 (.tmp 3) (.tmp 9) rfl w1.heap.size C H0 rfl rfl 56 hh2.out HSH.out HOLD.out HONE.out ?_; intro w3 hh3 hf3 hs3; have hc3 := HCELL.out w3 (hf3.heap (hf2.heap (hf1.heap HH.out (by simp)) (by simp)) (by simp; have := hs1.out; omega)))
    | (go_at_call 13; refine (fill_any m.length w3 (by omega)).mono ?_; rintro e w4 ⟨rfl, hh4, hf4⟩))
  have hn1 : w.heap.size < w1.heap.size := by have := hs1.out; omega
  have hz23 := hf3.size
  have hz12 : w1.heap.size < w2.heap.size := by have := hs2.out; omega
  have hz34 := hf4.size
  have hpos := HR.out.pos
  have hgp : w1.heap.size ≠ p := by omega
  have hg3 : w3.heap[w1.heap.size]? = some (.cells C 56 (0, 0)) := hh3.out
  have hisH : isH w4 w1.heap.size m := ⟨op, HOP.out, by rw [← HC.out]; exact hf4.heap hg3 (by simp)⟩
  have hfr1 : Fr [] w w3 := (hf1.trans hf2 (by simp) (n := []) (by simp)).trans hf3 (by simp) (by simp; omega)
  have hfr4 : Fr [] w w4 := hfr1.trans hf4 (by simp) (by simp)
  have hfl := fillN_length m.length
  have hby : bytesAt w4 (.slice (some ⟨w3.heap.size, 0, none⟩) (zerosN m.length + 9) (zerosN m.length + 9)) (fillN m.length) := bytesAt_of_heap hh4 (by have := fill_le m.length; simp [maxLen]; omega) _ hfl.symm
  have hpa := HR.out.below hfr4
  have HW := Lib.hid (write_any w1.heap.size m (fillN m.length) _ w4 hisH hby (fun j hj _ => by simp [Value.ownBlock] at hj; omega) hpa (by omega) (by have := fill_le m.length; omega))
  have hg0 : w4.heap[w.heap.size]? = some (.cells Z 24 (0, 0)) := hf4.heap (hf3.heap (hf2.heap hh1.out (by simp)) (by simp; omega)) (by simp)
  have HG0 := Lib.hid hg0
  clear hg0 hby hisH hpa hg3 hh1 hh2 hh3 hh4 hc3
  go_wp2_with (first
    | (go_at_call 18; refine HW.out.mono ?_; rintro e w5 ⟨rfl, hH5, hf5⟩; obtain ⟨op5, hop5, hheap5⟩ := hH5; have HH5 : Hid (w5.heap[w1.heap.size]? = some (.cells (hashC st op5 (padded m).length).toArray 56 (0, 0))) := (by rw [HST.out]; exact Lib.hid hheap5); clear hheap5 hop5)
    | (refine wpList_load_mid rfl 29 _ rfl w1.heap.size 0 rfl (stC st).toList _ (range_of_heap HH5.out 0 _ (hashC_state st op5 _)) Tryd.underlying29 rfl HL8.out ?_)
    | (go_at_call 28; refine (HE.out w5).mono ?_; rintro e w6 ⟨rfl, hf6⟩)
    | (refine wpL_storeArr rfl 24 (.tmp 2) (.tmp 18) rfl w.heap.size E Z rfl rfl 24 (hf6.heap (hf5.heap HG0.out (by simp; omega)) (by simp)) HL32.out HZS.out HON.out ?_; intro w7 hh7 hf7 hs7))
  have hfr5 : Fr [] w w5 := hfr4.trans hf5 (by simp) (by simp; omega)
  refine bodyPost_ret (v := .agg E) ?_ rfl ⟨rfl, (hfr5.trans hf6 (by simp) (n := []) (by simp)).trans hf7 (by simp) (by simp)⟩
  exact results_cell_row rfl _ _ w.heap.size 24 E (0, 0) _ rfl hh7.out Tryd.underlying24 rfl HL32.out
end Go.Proofs.YtjiighgabfkmpaaDoor
