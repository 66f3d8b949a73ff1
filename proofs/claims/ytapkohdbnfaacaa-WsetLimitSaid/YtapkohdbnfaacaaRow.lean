/- Slices whose elements are one cell each (numbers, bools, strings, pointers): small laws that hold of every program. Nothing here names the program. -/
import Derived.Test.YtapkohdbnfaacaaBase
import Derived.Maps.AppendAt
set_option linter.unusedVariables false
set_option linter.unusedSimpArgs false
namespace Go.Proofs.Ytapkohdbnfaacaa
open Go.RowKit

/-- The slice v reads as these cells. -/
def cellsAt (w : World) (v : Value) (cs : List Value) : Prop :=
  (∃ a cap, v = .slice a 0 cap ∧ cap ≤ maxLen ∧ cs = []) ∨ ∃ b off cap, v = .slice (some ⟨b, off, none⟩) cs.length cap ∧ cs.length ≤ cap ∧ cap ≤ maxLen ∧
    ∀ i (h : i < cs.length), w.cell? ⟨b, off + i, none⟩ = some (cs[i]'h)

theorem cellsAt.form {w : World} {v : Value} {cs : List Value} (h : cellsAt w v cs) : ∃ a cap, v = .slice a cs.length cap ∧ cs.length ≤ cap ∧ cap ≤ maxLen := by
  rcases h with ⟨a, cap, rfl, h2, rfl⟩ | ⟨b, off, cap, rfl, h1, h2, _⟩
  · exact ⟨a, cap, rfl, by simp, h2⟩
  · exact ⟨_, cap, rfl, h1, h2⟩
theorem cellsAt.kept {w w' : World} {v : Value} {cs : List Value} {l : List Nat} (h : cellsAt w v cs) (hf : Fr l w w') (hn : ∀ k, v.ownBlock = some k → cs ≠ [] → k < w.heap.size → k ∉ l) : cellsAt w' v cs := by
  rcases h with h | ⟨b, off, cap, rfl, h1, h2, h3⟩
  · exact .inl h
  · refine .inr ⟨b, off, cap, rfl, h1, h2, fun i hi => hf.cell (h3 i hi) (hn b rfl (fun e => by subst e; simp at hi) ?_)⟩
    exact World.block_lt_of_cell? w _ (h3 i hi)
theorem cellsAt.below {w w' : World} {v : Value} {cs : List Value} (h : cellsAt w v cs) (hf : Fr [] w w') : cellsAt w' v cs := h.kept hf (by simp)
theorem cellsAt.nil (w : World) : cellsAt w (.slice none 0 0) [] := .inl ⟨_, _, rfl, by simp, rfl⟩
theorem cellsAt.lt {w : World} {v : Value} {cs : List Value} (h : cellsAt w v cs) (hpos : cs ≠ []) : ∀ k, v.ownBlock = some k → k < w.heap.size := by
  intro k hk
  rcases h with ⟨_, _, _, _, rfl⟩ | ⟨b, off, cap, rfl, h1, h2, h3⟩
  · exact (hpos rfl).elim
  · cases hk
    exact World.block_lt_of_cell? w _ (h3 0 (List.length_pos_iff.2 hpos))
/-- The block of the elements, and each element. -/
theorem cellsAt.get {w : World} {a : Option Addr} {n cap : Nat} {cs : List Value} (h : cellsAt w (.slice a n cap) cs) {i : Nat} (hi : i < cs.length) : ∃ b off, a = some ⟨b, off, none⟩ ∧ n = cs.length ∧ ∀ j (hj : j < cs.length), w.cell? ⟨b, off + j, none⟩ = some (cs[j]'hj) := by
  rcases h with ⟨_, _, e, _, rfl⟩ | ⟨b, off, cap', e, h1, h2, h3⟩
  · simp at hi
  · simp at e
    obtain ⟨rfl, rfl, -⟩ := e
    exact ⟨b, off, rfl, rfl, h3⟩
theorem cellsAt_of_owns {w : World} {base : Nat} {e : TypeId} {v : Value} {cs : List Value} (h : w.ownsRow base e 1 v cs.length cs) : cellsAt w v cs := by
  have hc := fun g hg => h.cells (g := g) hg
  rcases h.2 with ⟨rfl, h0⟩ | ⟨g, cap, cur, rfl, hb, hg, hn, hm, hs, ht⟩
  · exact .inl ⟨_, _, rfl, by simp, List.eq_nil_of_length_eq_zero h0⟩
  · refine .inr ⟨g, 0, cap, rfl, hn, hm, fun i hi => ?_⟩
    have := hc g rfl i _ (List.getElem?_eq_getElem hi)
    have hadd : (⟨g, 0, none⟩ : Addr).add i = ⟨g, 0 + i, none⟩ := by unfold Addr.add; split <;> simp_all
    rwa [hadd] at this
theorem cellsAt_new (w : World) (cs : List Value) (e : TypeId) (n : Nat) (hn : n = cs.length) (h : cs.length ≤ maxLen) : cellsAt (w.alloc (.cells cs.toArray e)) (.slice (some ⟨w.heap.size, 0, none⟩) n n) cs := by
  subst hn
  refine .inr ⟨_, 0, cs.length, rfl, Nat.le_refl _, h, fun i hi => ?_⟩
  rw [cell_of_heap (heap_alloc_new w _)]
  simp [hi]
theorem cellsAt_bytes {w : World} {v : Value} {bs : List UInt8} (h : bytesAt w v bs) : cellsAt w v (cellsB bs) := by
  rcases h with ⟨a, cap, rfl, h2, rfl⟩ | ⟨b, off, cap, rfl, h1, h2, h3⟩
  · exact .inl ⟨a, cap, rfl, h2, rfl⟩
  · refine .inr ⟨b, off, cap, by rw [cellsB_length], by rw [cellsB_length]; exact h1, h2, fun i hi => ?_⟩
    have hi' : i < bs.length := by rw [← cellsB_length]; exact hi
    rw [h3 i hi', ← cellsB_get bs i hi', List.getElem?_eq_getElem hi]

/-- A row of the call's own has been written, and nothing else. -/
theorem Fr.own {W w w' : World} {e : TypeId} {sz n : Nat} {v : Value} {xs : List Value} (h : Fr [] W w) (hown : w.ownsRow W.heap.size e sz v n xs) (hf : Fr v.ownBlock.toList w w') : Fr [] W w' :=
  h.trans hf (by simp) (fun i hi hlt => by
    have hk : v.ownBlock = some i := by simpa [Option.mem_toList] using hi
    have := (hown.lt i hk).1
    omega)

/-- 'append(s, x)': one element onto a row of the call's own. -/
theorem wpL_append1 {P : Program} {w : World} {ops : Array Oper} {rest : List Oper} {o : Oper} {a : Act} {Q : Exit → Act → World → Prop} (hgd : o.guard = none) (s x : Operand) (t : TypeId)
    (ho : o.op = .call { callee := .builtin .append, args := #[s, x], argTypes := #[t, t] }) (base : Nat) (e : TypeId) (i : TypeInfo) (z : Value) (bytes : Nat) (ht : P.underlying t = some (.slice e)) (hi : P.info? e = some i) (hz : i.zero = some z) (h4 : i.size = 1) (h5 : i.bytes = bytes) (hzc : z.cells.size = 1)
    (v : Value) (n : Nat) (xs : List Value) (hs : a.eval s = v) (hown : w.ownsRow base e 1 v n xs) (u : Value) (hu : u.oneCell' = true) (hx : a.eval x = .slice (some ⟨w.heap.size, 0, none⟩) 1 1) (hsum : (n + 1) * bytes ≤ 140737488355328) (hm : n + 1 ≤ maxLen) (hbase : base ≤ w.heap.size)
    (h : ∀ v' w', w'.ownsRow base e 1 v' (n + 1) (xs ++ [u]) → Fr v.ownBlock.toList w w' → (v'.ownBlock = v.ownBlock ∨ ∃ k, v'.ownBlock = some k ∧ w.heap.size ≤ k) → wpList P ops Q rest (a.put o.dst v') w') : wpList P ops Q (o :: rest) a (w.alloc (.cells #[u] e)) := by
  refine wpList_append_own_at _ hgd s x t ho base e i z 1 bytes ht hi hz h4 h5 hzc (by decide) v n xs hs (owns_kept hown (Fr.alloc _ _) (by simp)) ⟨w.heap.size, 0, none⟩ 1 1 [u] hx rfl ?_ (by simpa using hu) hm hsum (by simp; omega) ?_
  · intro j y hj
    match j, hj with
    | 0, hj =>
      cases hj
      have hadd : (⟨w.heap.size, 0, none⟩ : Addr).add 0 = ⟨w.heap.size, 0, none⟩ := by unfold Addr.add; split <;> simp_all
      rw [hadd, cell_of_heap (heap_alloc_new w _)]
      rfl
  · intro v' w' h1 h2 _ h3
    refine h v' w' h1 ((Fr.alloc _ _).trans (Fr.of_grown h2) (by simp) (fun i hi _ => hi)) ?_
    rcases h3 with h3 | h3
    · exact .inl h3
    · exact .inr ⟨_, h3, by simp⟩
/-- 'make([]T, n, c)', T of one cell: a new row of zeros. -/
theorem wpL_makeCap {P : Program} {w : World} {ops : Array Oper} {rest : List Oper} {o : Oper} {a : Act} {Q : Exit → Act → World → Prop} (hg : o.guard = none) (l c : Operand) (t : TypeId) (hop : o.op = Op.makeSlice t l c)
    (e : TypeId) (i : TypeInfo) (z : Value) (bytes : Nat) (h1 : P.underlying t = some (.slice e)) (h2 : P.info? e = some i) (h3 : i.zero = some z) (h4 : i.size = 1) (h5 : i.bytes = bytes) (hz : z.cells = #[z])
    (n m : Nat) (hl : a.eval l = .int .i64 n) (hc : a.eval c = .int .i64 m) (hnm : n ≤ m) (hb : bytes * m ≤ 281474976710656) (hm : m ≤ maxLen)
    (hK : ∀ w', w'.ownsRow w.heap.size e 1 (.slice (some ⟨w.heap.size, 0, none⟩) n m) n (List.replicate n z) → Fr [] w w' → Hid (w'.heap.size = w.heap.size + 1) → wpList P ops Q rest (a.put o.dst (.slice (some ⟨w.heap.size, 0, none⟩) n m)) w') :
    wpList P ops Q (o :: rest) a w := by
  refine wpList_plain hg fun K hK' => ?_
  have h63 : (m : Int) ≤ 9223372036854775807 := by have h := hm; simp [maxLen] at h; omega
  have hb' : (i.bytes : Int) * (m : Int) ≤ 281474976710656 := by
    have h : ((i.bytes * m : Nat) : Int) ≤ 281474976710656 := by rw [h5]; omega
    rwa [Int.natCast_mul] at h
  have hr := run_make (P := P) w t e i z h1 h2 h3 .i64 .i64 n m (by omega) (by omega) hb' h63
  simp only [Int.toNat_natCast, h4, Nat.mul_one, hz, madeCells_one] at hr
  unfold Oper.wp
  simp [execOp, hop, hl, hc, hr, Result.andThen]
  exact hK' _ _ (hK _ (owns_of_heap (cur := List.replicate m z) (heap_alloc_new w _) (Nat.le_refl _) (by simp) hnm hm (by simp [hnm])) (Fr.alloc w _) (show (w.alloc _).heap.size = _ by simp))
end Go.Proofs.Ytapkohdbnfaacaa
