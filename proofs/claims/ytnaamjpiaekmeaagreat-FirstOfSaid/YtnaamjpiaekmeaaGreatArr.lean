/- Arrays as values (whole rows of cells), and some laws on bits: small laws that hold of every program. Nothing here names the program. -/
import Derived.Test.YtnaamjpiaekmeaaGreatBs
import Derived.Laws.Rows
import Derived.Laws.Tables
import Derived.Laws.BitsAllLaws
import Derived.Laws.Bits128
set_option linter.unusedVariables false
set_option linter.unusedSimpArgs false
namespace Go.Proofs.YtnaamjpiaekmeaaGreat
open Go.RowKit
section
variable {P : Program} {w : World} {ops : Array Oper} {rest : List Oper} {o : Oper} {a : Act} {Q : Exit → Act → World → Prop}
theorem wpL_newArr (hg : o.guard = none) (t : TypeId) (hop : o.op = .alloc t) (cs : Array Value) (hz : (P.info? t).map (fun i => i.zero) = some (some (.agg cs)))
  (hK : ∀ w', Hid (w'.heap[w.heap.size]? = some (.cells cs t (0, 0))) → Fr [] w w' → Hid (w'.heap.size = w.heap.size + 1) → wpList P ops Q rest (a.put o.dst (.pointer (some ⟨w.heap.size, 0, none⟩))) w') :
  wpList P ops Q (o :: rest) a w := by
 refine wpList_plain hg fun K hK' => ?_
 cases hq : P.info? t with
 | none => simp [hq] at hz
 | some i =>
   simp [hq] at hz
   have hzv : (zeroValue t).run P w = .ok (.agg cs) w := by simp [zeroValue, typeInfo, hq, hz]
   unfold Oper.wp
   simp [execOp, hop, Instr.alloc, hzv, newVar, newRow, newObj, Value.cells, Result.andThen]
   exact hK' _ _ (hK _ (heap_alloc_new w _) (Fr.alloc w _) (show (w.alloc _).heap.size = _ by simp))
theorem wpL_boxArr (hg : o.guard = none) (t : TypeId) (x : Operand) (hop : o.op = .box t x) (cs : Array Value) (hx : a.eval x = .agg cs)
  (hK : ∀ w', Hid (w'.heap[w.heap.size]? = some (.cells cs t (0, 0))) → Fr [] w w' → Hid (w'.heap.size = w.heap.size + 1) → wpList P ops Q rest (a.put o.dst (.pointer (some ⟨w.heap.size, 0, none⟩))) w') :
  wpList P ops Q (o :: rest) a w := by
 refine wpList_plain hg fun K hK' => ?_
 unfold Oper.wp
 simp [execOp, hop, Instr.box, hx, newVar, newRow, newObj, Value.cells, Result.andThen]
 exact hK' _ _ (hK _ (heap_alloc_new w _) (Fr.alloc w _) (show (w.alloc _).heap.size = _ by simp))
theorem wpL_storeArr (hg : o.guard = none) (t : TypeId) (x y : Operand) (ho : o.op = .store t x y) (g : Nat) (cs old : Array Value) (hx : a.eval x = .pointer (some ⟨g, 0, none⟩)) (hy : a.eval y = .agg cs)
  (t' : TypeId) (hh : w.heap[g]? = some (.cells old t' (0, 0))) (hi : (P.info? t).map (·.size) = some cs.size) (hold : old.size = cs.size) (h1 : cs.all (·.oneCell') = true)
  (hK : ∀ w', Hid (w'.heap[g]? = some (.cells cs t' (0, 0))) → Fr [g] w w' → Hid (w'.heap.size = w.heap.size) → wpList P ops Q rest (a.put o.dst undef) w') :
  wpList P ops Q (o :: rest) a w :=
 wpList_store_row hg t x y ho g cs hx hy t' old hh hi hold h1 (hK _ (setRow_heap w g old cs t' (0, 0) hh) (Fr.setRow _ _ _) (show (w.setRow _ _).heap.size = _ by simp [World.setRow]))
end
end Go.Proofs.YtnaamjpiaekmeaaGreat
