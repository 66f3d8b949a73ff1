/- Slices of one-cell elements, cut; appended onto a row of the call's own. Nothing here names the program. -/
import Derived.Test.YtapkohdbnfaacaaRow
import Derived.Test.YtapkohdbnfaacaaOwn
import Derived.Test.YtapkohdbnfaacaaStrsD
set_option linter.unusedVariables false
set_option linter.unusedSimpArgs false
namespace Go.Proofs.Ytapkohdbnfaacaa
open Go.RowKit

theorem cellsAt.take {w : World} {a : Option Addr} {cap : Nat} {cs : List Value} {n m : Nat} (h : cellsAt w (.slice a m cap) cs) (hn : n ≤ cs.length) : cellsAt w (.slice a n cap) (cs.take n) := by
  rcases h with ⟨a', c', e, hm, rfl⟩ | ⟨b, off, c, e, h3, h4, h5⟩
  · simp at e; obtain ⟨rfl, -, rfl⟩ := e
    obtain rfl : n = 0 := by simpa using hn
    exact .inl ⟨_, _, rfl, hm, by simp⟩
  · simp at e; obtain ⟨rfl, -, rfl⟩ := e
    have hl : (cs.take n).length = n := by rw [List.length_take]; omega
    refine .inr ⟨b, off, cap, by rw [hl], by omega, h4, fun i hi => ?_⟩
    rw [List.getElem_take]
    exact h5 i (by omega)
theorem cellsAt.drop {w : World} {a : Option Addr} {cap : Nat} {cs : List Value} {n m : Nat} (h : cellsAt w (.slice a m cap) cs) (hn : n ≤ cs.length) : cellsAt w (.slice (a.map fun x => x.add n) (cs.length - n) (cap - n)) (cs.drop n) := by
  rcases h with ⟨a', c', e, hm, rfl⟩ | ⟨b, off, c, e, h3, h4, h5⟩
  · simp at e; obtain ⟨rfl, -, rfl⟩ := e
    obtain rfl : n = 0 := by simpa using hn
    exact .inl ⟨_, _, rfl, by omega, by simp⟩
  · simp at e; obtain ⟨rfl, -, rfl⟩ := e
    have hl : (cs.drop n).length = cs.length - n := List.length_drop
    refine .inr ⟨b, off + n, cap - n, ?_, by omega, by omega, fun i hi => ?_⟩
    · rw [hl]; simp [Addr.add]
    · rw [List.getElem_drop]
      have := h5 (n + i) (by omega)
      rwa [← Nat.add_assoc] at this
theorem cellsAt.none {w : World} (a : Option Addr) : cellsAt w (.slice a 0 0) [] := .inl ⟨_, _, rfl, by simp, rfl⟩
/-- 'append(v, s...)' onto a row of the call's own, of one-cell elements; s reads as cells. -/
theorem wpL_appendC {P : Program} {w : World} {ops : Array Oper} {rest : List Oper} {o : Oper} {a : Act} {Q : Exit → Act → World → Prop} (hgd : o.guard = none) (s x : Operand) (t : TypeId)
    (ho : o.op = .call { callee := .builtin .append, args := #[s, x], argTypes := #[t, t] }) (base : Nat) (e : TypeId) (i : TypeInfo) (z : Value) (bytes : Nat) (ht : P.underlying t = some (.slice e)) (hi : P.info? e = some i) (hz : i.zero = some z) (h4 : i.size = 1) (h5 : i.bytes = bytes) (hzc : z.cells.size = 1)
    (v : Value) (n : Nat) (xs : List Value) (hs : a.eval s = v) (hown : w.ownsRow base e 1 v n xs) (sv : Value) (cs : List Value) (hx : a.eval x = sv) (hc : cellsAt w sv cs) (hu : ∀ u ∈ cs, u.oneCell' = true) (hsum : (n + cs.length) * bytes ≤ 140737488355328) (hm : n + cs.length ≤ maxLen) (hbase : base ≤ w.heap.size)
    (h : ∀ v' w', w'.ownsRow base e 1 v' (n + cs.length) (xs ++ cs) → Fr v.ownBlock.toList w w' → wpList P ops Q rest (a.put o.dst v') w') : wpList P ops Q (o :: rest) a w := by
  rcases hc with ⟨ad, cap, rfl, hcap, rfl⟩ | ⟨b, off, cap, rfl, h1, h2, h3⟩
  · have hf : ∀ n : Nat, n = 0 → (Builtin.firstCells i.size n (.slice ad n cap)).run P w = .ok #[] w := by
      intro n hn
      subst hn
      cases ad with
      | none => simp [Builtin.firstCells]
      | some x => simpa using run_firstCells_some (P := P) w i.size 0 x 0 cap [] (by simp) (by simp)
    have hf0 := hf 0 rfl
    have hr : (Builtin.append_ #[t, t] o.type #[v, .slice ad 0 cap]).run P w = .ok v w := by
      rcases hown.2 with ⟨rfl, _⟩ | ⟨g, cap', cur, rfl, _, _, hle, _⟩
      · simp [Builtin.append_, run_underlying ht, sizeOf, typeInfo, hi, Builtin.lenOf, hf0]
      · simp [Builtin.append_, run_underlying ht, sizeOf, typeInfo, hi, Builtin.lenOf, hf0, hle, storeCells]
    exact Lib.wpList_append_run w hgd s x t t ho _ _ hs hx _ _ hr (h v w (by simpa using hown) (Fr.refl _ _))
  · refine wpList_append_own_at w hgd s x t ho base e i z 1 bytes ht hi hz h4 h5 hzc (by decide) v n xs hs hown ⟨b, off, none⟩ cs.length cap cs hx (by simp) ?_ hu hm hsum hbase (fun v' w' h1 h2 _ _ => h v' w' h1 (Fr.of_grown h2))
    intro j u hj
    have hjl : j < cs.length := by
      rcases Nat.lt_or_ge j cs.length with q | q
      · exact q
      · rw [List.getElem?_eq_none q] at hj; cases hj
    have hadd : (⟨b, off, none⟩ : Addr).add j = ⟨b, off + j, none⟩ := by unfold Addr.add; split <;> simp_all
    rw [hadd, h3 j hjl]
    rw [List.getElem?_eq_getElem hjl] at hj
    exact hj
theorem two_strsE (w : World) (e : TypeId) (x y : List UInt8) (X Y : Array UInt8) (hX : X = x.toArray) (hY : Y = y.toArray) : strsAt (w.alloc (.cells #[.string ⟨X⟩, .string ⟨Y⟩] e)) (.slice (some ⟨w.heap.size, 0, none⟩) 2 2) [x, y] := by
  subst hX hY
  exact cellsAt_new w [encStr x, encStr y] e 2 rfl (by simp [maxLen])
/-- A slice of slices of strings. -/
def setsAt (w : World) (v : Value) (ls : List (List (List UInt8))) : Prop := ∃ vs : List Value, vs.length = ls.length ∧ cellsAt w v vs ∧ ∀ i (h : i < vs.length) (h' : i < ls.length), strsAt w (vs[i]'h) (ls[i]'h')
theorem setsAt.below {w w' : World} {v : Value} {ls : List (List (List UInt8))} (h : setsAt w v ls) (hf : Fr [] w w') : setsAt w' v ls := by
  obtain ⟨vs, h1, h2, h3⟩ := h
  exact ⟨vs, h1, h2.below hf, fun i a b => (h3 i a b).below hf⟩
theorem setsAt.form {w : World} {v : Value} {ls : List (List (List UInt8))} (h : setsAt w v ls) : ∃ a cap, v = .slice a ls.length cap ∧ ls.length ≤ cap ∧ cap ≤ 9223372036854775807 := by
  obtain ⟨vs, h1, h2, -⟩ := h
  obtain ⟨a, c, rfl, h3, h4⟩ := cellsAt.form h2
  rw [h1] at h3 ⊢
  exact ⟨a, c, rfl, h3, by simpa [maxLen] using h4⟩
theorem set_cell {w : World} {a0 : Option Addr} {n cap : Nat} {ls : List (List (List UInt8))} (h : setsAt w (.slice a0 n cap) ls) (k : Nat) (hk : k < ls.length) : ∃ b off u, a0 = some ⟨b, off, none⟩ ∧ w.cell? ⟨b, off + k, none⟩ = some u ∧ strsAt w u (ls[k]'hk) := by
  obtain ⟨vs, h1, h2, h3⟩ := h
  obtain ⟨b, off, rfl, -, hx⟩ := cellsAt.get h2 (i := k) (by omega)
  exact ⟨b, off, _, rfl, hx k (by omega), h3 k (by omega) hk⟩
theorem sets_nil (w : World) : setsAt w (.slice none 0 0) [] := ⟨[], rfl, cellsAt.nil w, fun i h => by simp at h⟩
theorem sets_new3 (w : World) (e : TypeId) (v0 v1 v2 : Value) (l0 l1 l2 : List (List UInt8)) (h0 : strsAt w v0 l0) (h1 : strsAt w v1 l1) (h2 : strsAt w v2 l2) : setsAt (w.alloc (.cells #[v0, v1, v2] e)) (.slice (some ⟨w.heap.size, 0, none⟩) 3 3) [l0, l1, l2] := by
  have hf := Fr.alloc w (.cells #[v0, v1, v2] e)
  refine ⟨[v0, v1, v2], rfl, cellsAt_new w [v0, v1, v2] e 3 rfl (by simp [maxLen]), fun i a b => ?_⟩
  match i, a with
  | 0, _ => exact h0.below hf
  | 1, _ => exact h1.below hf
  | 2, _ => exact h2.below hf
end Go.Proofs.Ytapkohdbnfaacaa
