/- A region whose order is drawn, walked in one order up to where several writers may come up, and in every way from there; the frame is any relation of worlds. Rows that are appended to, element by element. It holds of every program; nothing here names the program. -/
import Derived.Test.YtgfpkmnmdehkpaaGreatBs
set_option linter.unusedVariables false
set_option linter.unusedSimpArgs false
namespace Go.Proofs.YtgfpkmnmdehkpaaGreat
open Go.RowKit

section
variable {P : Program} {ops : Array Oper} {Q : Exit → Act → World → Prop} {T : World → World → Prop}

/-- One step: whichever of those that may come up comes up. -/
theorem anyH_step (hTT : ∀ a b c, T a b → T b c → T a c) {fuel : Nat} {listed : Array Bool} {a : Act} {w : World} (rs : List Nat) (hr : Region.ready .any ops listed = rs) (hne : rs ≠ [])
    (h : ∀ i ∈ rs, wpList P ops (GQ fun a' w' => T w w' ∧ wpAnyH P .any ops Q (T w') fuel (listed.setIfInBounds i true) a' w') [ops[i]?.getD default] a w) : wpAnyH P .any ops Q (T w) (fuel + 1) listed a w := by
  refine wpAnyH_all hr hne (fun i hi => ?_)
  have hmem : i ∈ Region.ready .any ops listed := by rw [hr]; exact hi
  obtain ⟨_, o, ho, _⟩ := mem_ready.1 hmem
  have h1 := h i hi
  rw [ho, Option.getD_some] at h1
  refine wpOp_of_list ho h1 ?_
  rintro a' w' ⟨h2, h3⟩
  exact ⟨h2, wpAnyH_mono (fun w2 hw2 => hTT _ _ _ h2 hw2) _ _ _ _ h3⟩
/-- THE LAW: the prefix in one order, then every way. -/
theorem wp_region_N {id : Nat} {a : Act} {w : World} (T : World → World → Prop) (hT : ∀ w, T w w) (hTT : ∀ a b c, T a b → T b c → T a c) (pre : List (Nat × Bool)) (m : Nat) (n : Nat) (hn : a.tmps.size = n) (hm : P.follows .mixedOrders = true) (hs : Region.noSelect ops = true)
    (hc : (pre.length + m == ops.size && okPre ops n pre (Array.replicate ops.size false)) = true)
    (hQ : ∀ c a d v w, Q (.panic c) (Act.put a d v) w → Q (.panic c) a w)
    (h : wpT P ops T (fun a w => wpAnyH P .any ops Q (T w) m (afterL pre (Array.replicate ops.size false)) a w) (pre.map fun x => (x.2, ops[x.1]?.getD default)) a w.drew) : (Code.region id ops true).wp P Q a w := by
  simp only [Bool.and_eq_true, beq_iff_eq] at hc
  obtain ⟨hlen, hpre⟩ := hc
  refine wp_region_held (S := T w.drew) hm ?_
  rw [← hlen]
  rw [← hlen] at hpre h
  exact wpT_sound hT hTT hs hQ n m _ pre _ _ a w.drew rfl hn hpre (fun a w _ hk => hk) h
end

/-- The row that a slice owns is no block of another type. -/
theorem rows_apart {w : World} {b1 b2 s1 s2 n1 n2 : Nat} {e1 e2 : TypeId} {v1 v2 : Value} {x1 x2 : List Value} (h1 : w.ownsRow b1 e1 s1 v1 n1 x1) (h2 : w.ownsRow b2 e2 s2 v2 n2 x2) (hne : e1 ≠ e2) : ∀ k, v1.ownBlock = some k → k ∉ v2.ownBlock.toList := by
  intro k hk hm
  have hm' := Option.mem_toList.1 hm
  rcases h1.2 with ⟨rfl, _⟩ | ⟨g, cap, cur, rfl, _, hg, _⟩
  · cases hk
  · obtain rfl : g = k := by simpa [Value.ownBlock] using hk
    rcases h2.2 with ⟨rfl, _⟩ | ⟨g', cap', cur', rfl, _, hg', _⟩
    · cases hm'
    · obtain rfl : g' = g := by simpa [Value.ownBlock] using hm'
      rw [hg] at hg'
      simp only [Option.some.injEq, Obj.cells.injEq] at hg'
      exact hne hg'.2.1
theorem heap_apart {w : World} {b2 s2 n2 g : Nat} {e1 e2 : TypeId} {v2 : Value} {x2 : List Value} {cs : Array Value} {fr : Nat × Nat} (h1 : w.heap[g]? = some (.cells cs e1 fr)) (h2 : w.ownsRow b2 e2 s2 v2 n2 x2) (hne : e1 ≠ e2) : g ∉ v2.ownBlock.toList := by
  intro hm
  have hm' := Option.mem_toList.1 hm
  rcases h2.2 with ⟨rfl, _⟩ | ⟨g', cap', cur', rfl, _, hg', _⟩
  · cases hm'
  · obtain rfl : g' = g := by simpa [Value.ownBlock] using hm'
    rw [h1] at hg'
    simp only [Option.some.injEq, Obj.cells.injEq] at hg'
    exact hne hg'.2.1
/-- 'append(v, src...)' onto a row that may be written, elements of any size; src may be nil. -/
theorem wpL_appendE {P : Program} {w : World} {ops : Array Oper} {rest : List Oper} {o : Oper} {a : Act} {Q : Exit → Act → World → Prop} (hgd : o.guard = none) (s x : Operand) (t : TypeId)
    (ho : o.op = .call { callee := .builtin .append, args := #[s, x], argTypes := #[t, t] }) (base : Nat) (e : TypeId) (i : TypeInfo) (z : Value) (sz bytes : Nat) (ht : P.underlying t = some (.slice e)) (hi : P.info? e = some i) (hz : i.zero = some z) (h4 : i.size = sz) (h5 : i.bytes = bytes) (hzc : z.cells.size = sz) (hsz : 0 < sz)
    (v : Value) (n : Nat) (xs : List Value) (hs : a.eval s = v) (hown : w.ownsRow base e sz v n xs) (sv : Value) (m : Nat) (news : List Value) (hx : a.eval x = sv) (hl : news.length = m * sz) (hu : ∀ u ∈ news, u.oneCell' = true)
    (hsrc : (sv = .slice none 0 0 ∧ m = 0) ∨ ∃ ad c, sv = .slice (some ad) m c ∧ ∀ j u, news[j]? = some u → w.cell? (ad.add j) = some u) (hsum : (n + m) * bytes ≤ 140737488355328) (hm : n + m ≤ maxLen) (hbase : base ≤ w.heap.size)
    (h : ∀ v' w', w'.ownsRow base e sz v' (n + m) (xs ++ news) → Fr v.ownBlock.toList w w' → wpList P ops Q rest (a.put o.dst v') w') : wpList P ops Q (o :: rest) a w := by
  rcases hsrc with ⟨rfl, rfl⟩ | ⟨ad, c, rfl, hc⟩
  · have hn0 : news = [] := List.eq_nil_of_length_eq_zero (by simpa using hl)
    subst hn0
    have hr : (Builtin.append_ #[t, t] o.type #[v, .slice none 0 0]).run P w = .ok v w := by
      rcases hown.2 with ⟨rfl, _⟩ | ⟨g, cap', cur, rfl, _, _, hle, _⟩
      · simp [Builtin.append_, run_underlying ht, sizeOf, typeInfo, hi, Builtin.lenOf, Builtin.firstCells]
      · simp [Builtin.append_, run_underlying ht, sizeOf, typeInfo, hi, Builtin.lenOf, Builtin.firstCells, hle, storeCells]
    exact Lib.wpList_append_run w hgd s x t t ho _ _ hs hx _ _ hr (h v w (by simpa using hown) (Fr.refl _ _))
  · exact wpList_append_own_at w hgd s x t ho base e i z sz bytes ht hi hz h4 h5 hzc hsz v n xs hs hown ad m c news hx hl hc hu hm hsum hbase (fun v' w' h1 h2 _ _ => h v' w' h1 (Fr.of_grown h2))
end Go.Proofs.YtgfpkmnmdehkpaaGreat
