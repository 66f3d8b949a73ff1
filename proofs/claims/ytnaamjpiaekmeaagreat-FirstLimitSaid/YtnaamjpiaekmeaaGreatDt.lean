/- Several texts in one: Str, ParDat, StrsD, GrmDat, RowC, AlcL, FrTr, GrmPv. -/
import Derived.Sort.EncStr
import Derived.Test.YtnaamjpiaekmeaaGreatBs
import Derived.Test.YtnaamjpiaekmeaaGreatMm
set_option linter.unusedVariables false
set_option linter.unusedSimpArgs false
namespace Go.Proofs.YtnaamjpiaekmeaaGreat
open Go.RowKit
theorem run_index_str {P : Program} (w : World) (t : TypeId) (s : List UInt8) (i : Int) (k : Nat) (c : UInt8) (h : P.underlying t = some .string) (hi : i = (k : Int)) (hc : s[k]? = some c) :
  (Instr.index t (.string ⟨s.toArray⟩) (.int .i64 i)).run P w = .ok (.int .u8 (c.toNat : Int)) w := by
 subst hi
 have hk : k < s.length := by
  rcases Nat.lt_or_ge k s.length with q | q
  ·exact q
  ·rw [List.getElem?_eq_none q] at hc; cases hc
 rw [run_index_string w t _ .i64 k h, dif_pos ⟨by omega, by simpa [ByteArray.size] using hk⟩]
 rw [List.getElem?_eq_getElem hk] at hc
 have : ((⟨s.toArray⟩ : ByteArray)[(k : Int).toNat]'(by simpa [ByteArray.size] using hk)) = s[k]'hk := by
  simp [ByteArray.getElem_eq_getElem_data]
 rw [this, Option.some.inj hc]
end Go.Proofs.YtnaamjpiaekmeaaGreat
namespace Go.Proofs.YtnaamjpiaekmeaaGreat
open Go.RowKit
def ItemD.cells (i : ItemD) : List Value := [.bool i.term, encStr i.text]
def notT (w : World) (L : List Nat) (t : TypeId) : Prop := ∀ k ∈ L, ∀ cs t' fr, w.heap[k]? = some (.cells cs t' fr) → t' ≠ t
theorem notT.nil (w : World) (t : TypeId) : notT w [] t := fun k hk => by cases hk
theorem owns_keptT {w w' : World} {base sz n : Nat} {e : TypeId} {v : Value} {xs : List Value} {L : List Nat} (h : w.ownsRow base e sz v n xs) (hL : notT w L e) (hf : Fr L w w') : w'.ownsRow base e sz v n xs := by
 refine owns_kept h hf (fun k hk hm => ?_)
 rcases h.2 with ⟨rfl, _⟩ | ⟨g, cap, cur, rfl, _, hg, _⟩
 ·cases hk
 ·obtain rfl : g = k := by simpa [Value.ownBlock] using hk
  exact hL _ hm _ _ _ hg rfl
theorem notT_row {w : World} {base sz n : Nat} {e t : TypeId} {v : Value} {xs : List Value} (h : w.ownsRow base e sz v n xs) (ht : e ≠ t) : notT w v.ownBlock.toList t := by
 intro k hk cs t' fr hh
 rw [Option.mem_toList] at hk
 rcases h.2 with ⟨rfl, _⟩ | ⟨g, cap, cur, rfl, _, hg, _⟩
 ·cases hk
 ·obtain rfl : g = k := by simpa [Value.ownBlock] using hk
  rw [hg] at hh
  simp only [Option.some.injEq, Obj.cells.injEq] at hh
  rw [← hh.2.1]; exact ht
theorem notT_box {w : World} {q : Nat} {cs : Array Value} {e t : TypeId} {fr : Nat × Nat} (h : w.heap[q]? = some (.cells cs e fr)) (ht : e ≠ t) : notT w [q] t := by
 intro k hk cs' t' fr' hh
 obtain rfl : k = q := by simpa using hk
 rw [h] at hh
 simp only [Option.some.injEq, Obj.cells.injEq] at hh
 rw [← hh.2.1]; exact ht
def itemsR (tI : TypeId) (w : World) (base : Nat) (v : Value) (l : List ItemD) : Prop := w.ownsRow base tI 2 v l.length (l.map ItemD.cells).flatten
def altsR (tI tA : TypeId) (w : World) (base : Nat) (v : Value) (al : List (List ItemD)) : Prop :=
 ∃ vs : List Value, vs.length = al.length ∧ w.ownsRow base tA 1 v al.length vs ∧ ∀ i (h : i < vs.length) (h' : i < al.length), itemsR tI w base (vs[i]'h) (al[i]'h')
theorem itemsR.kept {tI : TypeId} {w w' : World} {base : Nat} {v : Value} {l : List ItemD} {L : List Nat} (h : itemsR tI w base v l) (hL : notT w L tI) (hf : Fr L w w') : itemsR tI w' base v l := owns_keptT h hL hf
theorem altsR.kept {tI tA : TypeId} {w w' : World} {base : Nat} {v : Value} {al : List (List ItemD)} {L : List Nat} (h : altsR tI tA w base v al) (h1 : notT w L tI) (h2 : notT w L tA) (hf : Fr L w w') : altsR tI tA w' base v al := by
 obtain ⟨vs, e, hr, hi⟩ := h
 exact ⟨vs, e, owns_keptT hr h2 hf, fun i a b => (hi i a b).kept h1 hf⟩
theorem altsR.below {tI tA : TypeId} {w w' : World} {base : Nat} {v : Value} {al : List (List ItemD)} (h : altsR tI tA w base v al) (hf : Fr [] w w') : altsR tI tA w' base v al := h.kept (notT.nil _ _) (notT.nil _ _) hf
theorem altsR.nil (tI tA : TypeId) (w : World) (base : Nat) : altsR tI tA w base (.slice none 0 0) [] := ⟨[], rfl, World.ownsRow_nil _ _ _ _, fun i h => by simp at h⟩
theorem altsR.slice {tI tA : TypeId} {w : World} {base : Nat} {v : Value} {al : List (List ItemD)} (h : altsR tI tA w base v al) : ∃ a c, v = .slice a al.length c ∧ al.length ≤ c ∧ c ≤ maxLen := by
 obtain ⟨vs, _, hr, _⟩ := h
 exact owns_slice hr
def linesR (tI tA tL : TypeId) (w : World) (base : Nat) (v : Value) (ls : List LineD) : Prop :=
 ∃ vs : List Value, vs.length = ls.length ∧ w.ownsRow base tL 2 v ls.length ((ls.zip vs).map fun p => [encStr p.1.name, p.2]).flatten ∧ ∀ i (h : i < vs.length) (h' : i < ls.length), altsR tI tA w base (vs[i]'h) (ls[i]'h').alts
theorem linesR.kept {tI tA tL : TypeId} {w w' : World} {base : Nat} {v : Value} {ls : List LineD} {L : List Nat} (h : linesR tI tA tL w base v ls) (h1 : notT w L tI) (h2 : notT w L tA) (h3 : notT w L tL) (hf : Fr L w w') : linesR tI tA tL w' base v ls := by
 obtain ⟨vs, e, hr, hi⟩ := h
 exact ⟨vs, e, owns_keptT hr h3 hf, fun i a b => (hi i a b).kept h1 h2 hf⟩
theorem linesR.below {tI tA tL : TypeId} {w w' : World} {base : Nat} {v : Value} {ls : List LineD} (h : linesR tI tA tL w base v ls) (hf : Fr [] w w') : linesR tI tA tL w' base v ls := h.kept (notT.nil _ _) (notT.nil _ _) (notT.nil _ _) hf
theorem linesR.nil (tI tA tL : TypeId) (w : World) (base : Nat) : linesR tI tA tL w base (.slice none 0 0) [] := ⟨[], rfl, World.ownsRow_nil _ _ _ _, fun i h => by simp at h⟩
def itemsAt (w : World) (v : Value) (l : List ItemD) : Prop := elemsAt w v 2 (l.map ItemD.cells)
def altsAt (w : World) (v : Value) (al : List (List ItemD)) : Prop := ∃ vs : List Value, vs.length = al.length ∧ cellsAt w v vs ∧ ∀ i (h : i < vs.length) (h' : i < al.length), itemsAt w (vs[i]'h) (al[i]'h')
def linesAt (w : World) (v : Value) (ls : List LineD) : Prop := ∃ vs : List Value, vs.length = ls.length ∧ elemsAt w v 2 ((ls.zip vs).map fun p => [encStr p.1.name, p.2]) ∧ ∀ i (h : i < vs.length) (h' : i < ls.length), altsAt w (vs[i]'h) (ls[i]'h').alts
theorem itemsAt.below {w w' : World} {v : Value} {l : List ItemD} (h : itemsAt w v l) (hf : Fr [] w w') : itemsAt w' v l := elemsAt.below h hf
theorem altsAt.below {w w' : World} {v : Value} {al : List (List ItemD)} (h : altsAt w v al) (hf : Fr [] w w') : altsAt w' v al := by
 obtain ⟨vs, e, hc, hi⟩ := h
 exact ⟨vs, e, hc.below hf, fun i a b => (hi i a b).below hf⟩
theorem linesAt.below {w w' : World} {v : Value} {ls : List LineD} (h : linesAt w v ls) (hf : Fr [] w w') : linesAt w' v ls := by
 obtain ⟨vs, e, hc, hi⟩ := h
 exact ⟨vs, e, elemsAt.below hc hf, fun i a b => (hi i a b).below hf⟩
theorem itemsR.at_ {tI : TypeId} {w : World} {base : Nat} {v : Value} {l : List ItemD} (h : itemsR tI w base v l) : itemsAt w v l :=
 elems_of_owns (xs := l.map ItemD.cells) (by rw [List.length_map]; exact h) (fun x hx => by obtain ⟨f, _, rfl⟩ := List.mem_map.1 hx; rfl)
theorem altsR.at_ {tI tA : TypeId} {w : World} {base : Nat} {v : Value} {al : List (List ItemD)} (h : altsR tI tA w base v al) : altsAt w v al := by
 obtain ⟨vs, e, hr, hi⟩ := h
 exact ⟨vs, e, cellsAt_of_owns (by rw [e]; exact hr), fun i a b => (hi i a b).at_⟩
theorem linesR.at_ {tI tA tL : TypeId} {w : World} {base : Nat} {v : Value} {ls : List LineD} (h : linesR tI tA tL w base v ls) : linesAt w v ls := by
 obtain ⟨vs, e, hr, hi⟩ := h
 exact ⟨vs, e, elems_of_owns (by rw [List.length_map, List.length_zip, e, Nat.min_self]; exact hr) (fun x hx => by obtain ⟨f, _, rfl⟩ := List.mem_map.1 hx; rfl), fun i a b => (hi i a b).at_⟩
theorem linesAt.form {w : World} {v : Value} {ls : List LineD} (h : linesAt w v ls) : ∃ a cap, v = .slice a ls.length cap ∧ ls.length ≤ cap ∧ cap ≤ 9223372036854775807 := by
 obtain ⟨vs, e, hc, -⟩ := h
 obtain ⟨a, c, rfl, h1, h2⟩ := elemsAt.form hc
 rw [List.length_map, List.length_zip, e, Nat.min_self] at h1 ⊢
 exact ⟨a, c, rfl, h1, by simpa [maxLen] using h2⟩
theorem altsAt.form {w : World} {v : Value} {al : List (List ItemD)} (h : altsAt w v al) : ∃ a cap, v = .slice a al.length cap ∧ al.length ≤ cap ∧ cap ≤ 9223372036854775807 := by
 obtain ⟨vs, e, hc, -⟩ := h
 obtain ⟨a, c, rfl, h1, h2⟩ := hc.form
 rw [e] at h1 ⊢
 exact ⟨a, c, rfl, h1, by simpa [maxLen] using h2⟩
theorem itemsAt.form {w : World} {v : Value} {l : List ItemD} (h : itemsAt w v l) : ∃ a cap, v = .slice a l.length cap ∧ l.length ≤ cap ∧ cap ≤ 9223372036854775807 := by
 obtain ⟨a, c, rfl, h1, h2⟩ := elemsAt.form h
 rw [List.length_map] at h1 ⊢
 exact ⟨a, c, rfl, h1, by simpa [maxLen] using h2⟩
end Go.Proofs.YtnaamjpiaekmeaaGreat
namespace Go.Proofs.YtnaamjpiaekmeaaGreat
open Go.RowKit
def strsAt (w : World) (v : Value) (l : List (List UInt8)) : Prop := cellsAt w v (l.map encStr)
theorem strsAt.below {w w' : World} {v : Value} {l : List (List UInt8)} (h : strsAt w v l) (hf : Fr [] w w') : strsAt w' v l := cellsAt.below h hf
theorem strsAt.form {w : World} {v : Value} {l : List (List UInt8)} (h : strsAt w v l) : ∃ a cap, v = .slice a l.length cap ∧ l.length ≤ cap ∧ cap ≤ 9223372036854775807 := by
 obtain ⟨a, c, rfl, h1, h2⟩ := cellsAt.form h
 rw [List.length_map] at h1 ⊢
 exact ⟨a, c, rfl, h1, by simpa [maxLen] using h2⟩
theorem str_cell {w : World} {a0 : Option Addr} {n cap : Nat} {l : List (List UInt8)} (h : strsAt w (.slice a0 n cap) l) (k : Nat) (hk : k < l.length) : ∃ b off, a0 = some ⟨b, off, none⟩ ∧ w.cell? ⟨b, off + k, none⟩ = some (encStr (l[k]'hk)) := by
 obtain ⟨b, off, rfl, -, hx⟩ := cellsAt.get h (i := k) (by rw [List.length_map]; exact hk)
 exact ⟨b, off, rfl, by have := hx k (by rw [List.length_map]; exact hk); rwa [List.getElem_map] at this⟩
end Go.Proofs.YtnaamjpiaekmeaaGreat
namespace Go.Proofs.YtnaamjpiaekmeaaGreat
open Go.RowKit
def intV (x : Int) : Value := .int .i64 x
def intsAt (w : World) (v : Value) (l : List Int) : Prop := cellsAt w v (l.map intV)
def rulesAt (w : World) (v : Value) (l : List RuleG) : Prop := ∃ vs : List Value, vs.length = l.length ∧ elemsAt w v 2 ((l.zip vs).map fun p => [intV p.1.left, p.2]) ∧ ∀ i (h : i < vs.length) (h' : i < l.length), intsAt w (vs[i]'h) (l[i]'h').right
def gramAt (w : World) (v : Value) (g : GramG) : Prop := ∃ a b c, v = .agg #[a, b, c] ∧ strsAt w a g.names ∧ strsAt w b g.terms ∧ rulesAt w c g.rules
theorem intsAt.below {w w' : World} {v : Value} {l : List Int} (h : intsAt w v l) (hf : Fr [] w w') : intsAt w' v l := cellsAt.below h hf
theorem rulesAt.below {w w' : World} {v : Value} {l : List RuleG} (h : rulesAt w v l) (hf : Fr [] w w') : rulesAt w' v l := by
 obtain ⟨vs, e, hc, hi⟩ := h
 exact ⟨vs, e, elemsAt.below hc hf, fun i a b => (hi i a b).below hf⟩
theorem gramAt.below {w w' : World} {v : Value} {g : GramG} (h : gramAt w v g) (hf : Fr [] w w') : gramAt w' v g := by
 obtain ⟨a, b, c, e, h1, h2, h3⟩ := h
 exact ⟨a, b, c, e, h1.below hf, h2.below hf, h3.below hf⟩
theorem intsAt.form {w : World} {v : Value} {l : List Int} (h : intsAt w v l) : ∃ a cap, v = .slice a l.length cap ∧ l.length ≤ cap ∧ cap ≤ 9223372036854775807 := by
 obtain ⟨a, c, rfl, h1, h2⟩ := cellsAt.form h
 rw [List.length_map] at h1 ⊢
 exact ⟨a, c, rfl, h1, by simpa [maxLen] using h2⟩
theorem rulesAt.form {w : World} {v : Value} {l : List RuleG} (h : rulesAt w v l) : ∃ a cap, v = .slice a l.length cap ∧ l.length ≤ cap ∧ cap ≤ 9223372036854775807 := by
 obtain ⟨vs, e, hc, -⟩ := h
 obtain ⟨a, c, rfl, h1, h2⟩ := elemsAt.form hc
 rw [List.length_map, List.length_zip, e, Nat.min_self] at h1 ⊢
 exact ⟨a, c, rfl, h1, by simpa [maxLen] using h2⟩
theorem int_cell {w : World} {a0 : Option Addr} {n cap : Nat} {l : List Int} (h : intsAt w (.slice a0 n cap) l) (k : Nat) (hk : k < l.length) : ∃ b off, a0 = some ⟨b, off, none⟩ ∧ w.cell? ⟨b, off + k, none⟩ = some (.int .i64 (l[k]'hk)) := by
 obtain ⟨b, off, rfl, -, hx⟩ := cellsAt.get h (i := k) (by rw [List.length_map]; exact hk)
 exact ⟨b, off, rfl, by have := hx k (by rw [List.length_map]; exact hk); rwa [List.getElem_map] at this⟩
theorem rule_cells {w : World} {a0 : Option Addr} {n cap : Nat} {l : List RuleG} (h : rulesAt w (.slice a0 n cap) l) (k : Nat) (hk : k < l.length) : ∃ b off v, a0 = some ⟨b, off, none⟩ ∧ w.cell? ⟨b, off + k * 2, none⟩ = some (.int .i64 (l[k]'hk).left) ∧ w.cell? ⟨b, off + k * 2 + 1, none⟩ = some v ∧ intsAt w v (l[k]'hk).right := by
 obtain ⟨vs, e, hc, hi⟩ := h
 have hlen : ((l.zip vs).map fun p => [intV p.1.left, p.2]).length = l.length := by rw [List.length_map, List.length_zip, e, Nat.min_self]
 rcases hc with ⟨_, _, _, _, e2⟩ | ⟨b, off, cap', e2, _, _, hb, hcell⟩
 ·rw [e2] at hlen; simp at hlen; omega
 ·simp only [Value.slice.injEq] at e2
  obtain ⟨rfl, hn, rfl⟩ := e2
  obtain ⟨-, h1⟩ := hcell k (by rw [hlen]; exact hk)
  rw [List.getElem_map, List.getElem_zip] at h1
  exact ⟨b, off, _, rfl, by have := h1 0 _ rfl; simp only [Nat.add_zero] at this; exact this, h1 1 _ rfl, hi k (by omega) hk⟩
end Go.Proofs.YtnaamjpiaekmeaaGreat
namespace Go.Proofs.YtnaamjpiaekmeaaGreat
open Go.RowKit
theorem cellsAt.take {w : World} {a : Option Addr} {cap : Nat} {cs : List Value} {n m : Nat} (h : cellsAt w (.slice a m cap) cs) (hn : n ≤ cs.length) : cellsAt w (.slice a n cap) (cs.take n) := by
 rcases h with ⟨a', c', e, hm, rfl⟩ | ⟨b, off, c, e, h3, h4, h5⟩
 ·simp at e; obtain ⟨rfl, -, rfl⟩ := e
  obtain rfl : n = 0 := by simpa using hn
  exact .inl ⟨_, _, rfl, hm, by simp⟩
 ·simp at e; obtain ⟨rfl, -, rfl⟩ := e
  have hl : (cs.take n).length = n := by rw [List.length_take]; omega
  refine .inr ⟨b, off, cap, by rw [hl], by omega, h4, fun i hi => ?_⟩
  rw [List.getElem_take]
  exact h5 i (by omega)
theorem cellsAt.drop {w : World} {a : Option Addr} {cap : Nat} {cs : List Value} {n m : Nat} (h : cellsAt w (.slice a m cap) cs) (hn : n ≤ cs.length) : cellsAt w (.slice (a.map fun x => x.add n) (cs.length - n) (cap - n)) (cs.drop n) := by
 rcases h with ⟨a', c', e, hm, rfl⟩ | ⟨b, off, c, e, h3, h4, h5⟩
 ·simp at e; obtain ⟨rfl, -, rfl⟩ := e
  obtain rfl : n = 0 := by simpa using hn
  exact .inl ⟨_, _, rfl, by omega, by simp⟩
 ·simp at e; obtain ⟨rfl, -, rfl⟩ := e
  have hl : (cs.drop n).length = cs.length - n := List.length_drop
  refine .inr ⟨b, off + n, cap - n, ?_, by omega, by omega, fun i hi => ?_⟩
  ·rw [hl]; simp [Addr.add]
  ·rw [List.getElem_drop]
   have := h5 (n + i) (by omega)
   rwa [← Nat.add_assoc] at this
theorem cellsAt.none {w : World} (a : Option Addr) : cellsAt w (.slice a 0 0) [] := .inl ⟨_, _, rfl, by simp, rfl⟩
theorem wpL_appendC {P : Program} {w : World} {ops : Array Oper} {rest : List Oper} {o : Oper} {a : Act} {Q : Exit → Act → World → Prop} (hgd : o.guard = none) (s x : Operand) (t : TypeId)
  (ho : o.op = .call { callee := .builtin .append, args := #[s, x], argTypes := #[t, t] }) (base : Nat) (e : TypeId) (i : TypeInfo) (z : Value) (bytes : Nat) (ht : P.underlying t = some (.slice e)) (hi : P.info? e = some i) (hz : i.zero = some z) (h4 : i.size = 1) (h5 : i.bytes = bytes) (hzc : z.cells.size = 1)
  (v : Value) (n : Nat) (xs : List Value) (hs : a.eval s = v) (hown : w.ownsRow base e 1 v n xs) (sv : Value) (cs : List Value) (hx : a.eval x = sv) (hc : cellsAt w sv cs) (hu : ∀ u ∈ cs, u.oneCell' = true) (hsum : (n + cs.length) * bytes ≤ 140737488355328) (hm : n + cs.length ≤ maxLen) (hbase : base ≤ w.heap.size)
  (h : ∀ v' w', w'.ownsRow base e 1 v' (n + cs.length) (xs ++ cs) → Fr v.ownBlock.toList w w' → wpList P ops Q rest (a.put o.dst v') w') : wpList P ops Q (o :: rest) a w := by
 rcases hc with ⟨ad, cap, rfl, hcap, rfl⟩ | ⟨b, off, cap, rfl, h1, h2, h3⟩
 ·have hf : ∀ n : Nat, n = 0 → (Builtin.firstCells i.size n (.slice ad n cap)).run P w = .ok #[] w := by
   intro n hn
   subst hn
   cases ad with
   | none => simp [Builtin.firstCells]
   | some x => simpa using run_firstCells_some (P := P) w i.size 0 x 0 cap [] (by simp) (by simp)
  have hf0 := hf 0 rfl
  have hr : (Builtin.append_ #[t, t] o.type #[v, .slice ad 0 cap]).run P w = .ok v w := by
   rcases hown.2 with ⟨rfl, _⟩ | ⟨g, cap', cur, rfl, _, _, hle, _⟩
   ·simp [Builtin.append_, run_underlying ht, sizeOf, typeInfo, hi, Builtin.lenOf, hf0]
   ·simp [Builtin.append_, run_underlying ht, sizeOf, typeInfo, hi, Builtin.lenOf, hf0, hle, storeCells]
  exact Lib.wpList_append_run w hgd s x t t ho _ _ hs hx _ _ hr (h v w (by simpa using hown) (Fr.refl _ _))
 ·refine wpList_append_own_at w hgd s x t ho base e i z 1 bytes ht hi hz h4 h5 hzc (by decide) v n xs hs hown ⟨b, off, none⟩ cs.length cap cs hx (by simp) ?_ hu hm hsum hbase (fun v' w' h1 h2 _ _ => h v' w' h1 (Fr.of_grown h2))
  intro j u hj
  have hjl : j < cs.length := by
   rcases Nat.lt_or_ge j cs.length with q | q
   ·exact q
   ·rw [List.getElem?_eq_none q] at hj; cases hj
  have hadd : (⟨b, off, none⟩ : Addr).add j = ⟨b, off + j, none⟩ := by unfold Addr.add; split <;> simp_all
  rw [hadd, h3 j hjl]
  rw [List.getElem?_eq_getElem hjl] at hj
  exact hj
def setsAt (w : World) (v : Value) (ls : List (List (List UInt8))) : Prop := ∃ vs : List Value, vs.length = ls.length ∧ cellsAt w v vs ∧ ∀ i (h : i < vs.length) (h' : i < ls.length), strsAt w (vs[i]'h) (ls[i]'h')
theorem setsAt.below {w w' : World} {v : Value} {ls : List (List (List UInt8))} (h : setsAt w v ls) (hf : Fr [] w w') : setsAt w' v ls := by
 obtain ⟨vs, h1, h2, h3⟩ := h
 exact ⟨vs, h1, h2.below hf, fun i a b => (h3 i a b).below hf⟩
theorem setsAt.form {w : World} {v : Value} {ls : List (List (List UInt8))} (h : setsAt w v ls) : ∃ a cap, v = .slice a ls.length cap ∧ ls.length ≤ cap ∧ cap ≤ 9223372036854775807 := by
 obtain ⟨vs, h1, h2, -⟩ := h
 obtain ⟨a, c, rfl, h3, h4⟩ := cellsAt.form h2
 rw [h1] at h3 ⊢
 exact ⟨a, c, rfl, h3, by simpa [maxLen] using h4⟩
theorem set_cell {w : World} {a0 : Option Addr} {n cap : Nat} {ls : List (List (List UInt8))} (h : setsAt w (.slice a0 n cap) ls) (k : Nat) (hk : k < ls.length) : ∃ b off u, a0 = some ⟨b, off, none⟩ ∧ w.cell? ⟨b, off + k, none⟩ = some u ∧ strsAt w u (ls[k]'hk) := by
 obtain ⟨vs, h1, h2, h3⟩ := h
 obtain ⟨b, off, rfl, -, hx⟩ := cellsAt.get h2 (i := k) (by omega)
 exact ⟨b, off, _, rfl, hx k (by omega), h3 k (by omega) hk⟩
theorem sets_nil (w : World) : setsAt w (.slice none 0 0) [] := ⟨[], rfl, cellsAt.nil w, fun i h => by simp at h⟩
end Go.Proofs.YtnaamjpiaekmeaaGreat
namespace Go.Proofs.YtnaamjpiaekmeaaGreat
open Go.RowKit
def allocL (w : World) : List Obj → World
 | [] => w
 | o :: l => allocL (w.alloc o) l
theorem allocL_fr : ∀ (l : List Obj) (w : World), Fr [] w (allocL w l)
 | [], w => Fr.refl _ w
 | o :: l, w => (Fr.alloc w o).trans (allocL_fr l _) (by simp) (by simp)
theorem allocL_heap : ∀ (l : List Obj) (w : World) (i : Nat) (o : Obj), l[i]? = some o → (allocL w l).heap[w.heap.size + i]? = some o
 | [], _, _, _, h => by simp at h
 | o :: l, w, 0, x, h => by
   have e : o = x := by simpa using h
   subst e
   have h1 : (w.alloc o).heap[w.heap.size]? = some o := heap_alloc_new w o
   exact (allocL_fr l (w.alloc o)).heap h1 (by simp)
 | o :: l, w, i + 1, x, h => by
   have := allocL_heap l (w.alloc o) i x (by simpa using h)
   rw [World.size_alloc] at this
   rw [allocL, show w.heap.size + (i + 1) = w.heap.size + 1 + i by omega]
   exact this
theorem cells_of_heap {w : World} {b : Nat} {t : TypeId} {cs : List Value} (h : w.heap[b]? = some (.cells cs.toArray t (0, 0))) (hm : cs.length ≤ maxLen) (n : Nat) (hn : n = cs.length) : cellsAt w (.slice (some ⟨b, 0, none⟩) n n) cs := by
 subst hn
 refine .inr ⟨b, 0, cs.length, rfl, Nat.le_refl _, hm, fun i hi => ?_⟩
 rw [cell_of_heap h]
 simp [hi]
theorem flat2 : ∀ (xs : List (List Value)) (i j : Nat) (u : Value), (∀ x ∈ xs, x.length = 2) → (h : i < xs.length) → (xs[i]'h)[j]? = some u → xs.flatten[i * 2 + j]? = some u
 | [], _, _, _, _, h, _ => by simp at h
 | x :: xs, 0, j, u, hs, _, hj => by
   have hj' : x[j]? = some u := hj
   have hjl := (List.getElem?_eq_some_iff.1 hj').1
   rw [List.flatten_cons, Nat.zero_mul, Nat.zero_add, List.getElem?_append_left hjl]
   exact hj'
 | x :: xs, i + 1, j, u, hs, h, hj => by
   have hx := hs x (by simp)
   rw [List.flatten_cons, List.getElem?_append_right (by rw [hx]; omega), hx, show (i + 1) * 2 + j - 2 = i * 2 + j by omega]
   exact flat2 xs i j u (fun y hy => hs y (by simp [hy])) (by simpa using h) (by simpa using hj)
theorem elems2_of_heap {w : World} {b : Nat} {t : TypeId} {xs : List (List Value)} (h : w.heap[b]? = some (.cells xs.flatten.toArray t (0, 0))) (hs : ∀ x ∈ xs, x.length = 2) (hm : xs.length ≤ maxLen) (n : Nat) (hn : n = xs.length) : elemsAt w (.slice (some ⟨b, 0, none⟩) n n) 2 xs := by
 subst hn
 refine .inr ⟨b, 0, xs.length, rfl, Nat.le_refl _, hm, (Array.getElem?_eq_some_iff.1 h).1, fun i hi => ⟨hs _ (List.getElem_mem hi), fun j u hj => ?_⟩⟩
 rw [cell_of_heap h]
 have := flat2 xs i j u hs hi hj
 simp only [List.getElem?_toArray, Nat.zero_add]
 exact this
def sl (b n : Nat) : Value := .slice (some ⟨b, 0, none⟩) n n
end Go.Proofs.YtnaamjpiaekmeaaGreat
namespace Go.Proofs.YtnaamjpiaekmeaaGreat
open Go.RowKit
theorem Fr.tr0 {a b c : World} (h : Fr [] a b) (k : Fr [] b c) : Fr [] a c := h.trans k (by simp) (by simp)
end Go.Proofs.YtnaamjpiaekmeaaGreat
namespace Go.Proofs.YtnaamjpiaekmeaaGreat
open Go.RowKit
def ProgValid : Prop := ∀ (g : GramG) (gv : Value) (w : World), gramAt w gv g → SizeG g → IntG g → Calls Tryz.prog 47 #[gv] w fun e w' => e = .returned (.bool (validB g)) ∧ Fr [] w w'
def ProgIsT : Prop := ∀ (s : Int) (w : World), Calls Tryz.prog 55 #[.int .i64 s] w fun e w' => e = .returned (.bool (decide (s < 0))) ∧ Fr [] w w'
end Go.Proofs.YtnaamjpiaekmeaaGreat
