/- Small laws that several layers use. It names nothing of the program but the type uint8. -/
import Derived.Test.YtapkohdbnfaacaaBase
import Derived.Test.YtapkohdbnfaacaaProg
import Derived.BigQuiet
set_option linter.unusedVariables false
set_option linter.unusedSimpArgs false
namespace Go.Proofs.Ytapkohdbnfaacaa
open Go.RowKit

theorem Fr.andDrew {l : List Nat} {a b : World} (h : Fr l a b) : Fr l a b.drew := ⟨h.os, h.tape, h.output, h.size, h.block⟩
theorem Fr.andDrewN {l : List Nat} {a b : World} (h : Fr l a b) (n : Nat) : Fr l a (b.drewN n) := ⟨h.os, h.tape, h.output, h.size, h.block⟩
theorem flip_same {P : Program} {f : FuncId} {args : Array Value} {w : World} {v : Value} (h : Calls P f args w fun e w' => e = .returned v ∧ w = w') : Calls P f args w fun e w' => e = .returned v ∧ w' = w := h.mono fun _ _ ⟨he, hw⟩ => ⟨he, hw.symm⟩
theorem Fr.drewNSet {a w : World} {g i n : Nat} {v : Value} (h : Fr [] a (w.setCell ⟨g, i, none⟩ v)) : Fr [] a ((w.drewN n).setCell ⟨g, i, none⟩ v) := ⟨h.os, h.tape, h.output, h.size, h.block⟩
theorem bytesC_get (bs : List UInt8) (i : Nat) (h : i < bs.length) : (cellsB bs).toArray[i]? = some (.int .u8 ((bs[i]'h).toNat : Int)) := by simp [cellsB, h]
theorem bytesC_size (bs : List UInt8) : (cellsB bs).toArray.size = bs.length := by simp [cellsB]
theorem bytesC_one (bs : List UInt8) : (cellsB bs).toArray.all (·.oneCell') = true := by
  rw [Array.all_eq_true_iff_forall_mem]
  intro x hx
  exact cellsB_one bs x (by simpa using hx)
theorem bytesC_set (l : List UInt8) (i : Nat) (c : UInt8) : (cellsB l).toArray.setIfInBounds i (.int .u8 (c.toNat : Int)) = (cellsB (l.set i c)).toArray := by
  simp [cellsB, List.map_set]
theorem bytesAt_of_heap {w : World} {g : Nat} {bs : List UInt8} {e : TypeId} (h : w.heap[g]? = some (.cells (cellsB bs).toArray e (0, 0))) (hm : bs.length ≤ maxLen) (n : Nat) (hn : n = bs.length) : bytesAt w (.slice (some ⟨g, 0, none⟩) n n) bs := by
  subst hn
  refine .inr ⟨g, 0, bs.length, rfl, Nat.le_refl _, hm, fun i hi => ?_⟩
  rw [cell_of_heap h, Nat.zero_add, bytesC_get]
theorem bytesAt_marked (w : World) (bs : List UInt8) (e : TypeId) (fr : Nat × Nat) (n : Nat) (hn : n = bs.length) (h : bs.length ≤ maxLen) (cs : Array Value) (hcs : cs = (cellsB bs).toArray) : bytesAt (w.alloc (.cells cs e fr)) (.slice (some ⟨w.heap.size, 0, none⟩) n n) bs := by
  subst hn hcs
  refine .inr ⟨_, 0, bs.length, rfl, Nat.le_refl _, h, fun i hi => ?_⟩
  rw [cell_of_heap (heap_alloc_new w _)]
  simp [cellsB, hi]
/-- 'a[k]', a an array by value whose elements are integers. -/
theorem run_index_agg {P : Program} (w : World) (t e : TypeId) (n : Nat) (kd : IntKind) (cs : Array Value) (k : Nat) (v : Value) (h : P.underlying t = some (.array n e)) (he : P.underlying e = some (.int kd)) (hi : (P.info? e).map (·.size) = some 1) (hk : k < n) (hv : cs[k]? = some v) :
    (Instr.index t (.agg cs) (.int .i64 k)).run P w = .ok v w := by
  cases hq : P.info? e with
  | none => simp [hq] at hi
  | some i =>
    simp [hq] at hi
    simp [Instr.index, run_underlying h, asIntOf, part, isAgg, run_underlying he, sizeOf, typeInfo, hq, hi, hk, hv]
theorem size8 : (Try.prog.info? 5).map (·.size) = some 1 := by kernel_rfl
theorem infoB : (Try.prog.info? 5).map (fun i => (i.zero, i.size, i.bytes)) = some (some (.int .u8 0), 1, 1) := by kernel_rfl
theorem info_parts {P : Program} {t : TypeId} {z : Value} {m n : Nat} (h : (P.info? t).map (fun i => (i.zero, i.size, i.bytes)) = some (some z, m, n)) : ∃ i, P.info? t = some i ∧ i.zero = some z ∧ i.size = m ∧ i.bytes = n := by
  cases hq : P.info? t with
  | none => simp [hq] at h
  | some i =>
    simp [hq] at h
    exact ⟨i, rfl, h.1, h.2.1, h.2.2⟩
end Go.Proofs.Ytapkohdbnfaacaa
