/- slices.DeleteFunc at Step's closure. -/
import Derived.Test.YtheanpmgdkajnaaFltC
import Derived.Lib.SliceRun
namespace Go.Proofs.Ytheanpmgdkajnaa
open Go.RowKit

/-- What is not for the step. -/
def keepF (l : List FltD) (n : Int) : List FltD := l.filter fun f => !(f.at_ == n)
theorem keepF_take (l : List FltD) (n : Int) (k : Nat) (hk : k < l.length) : keepF (l.take (k + 1)) n = if (l[k]'hk).at_ = n then keepF (l.take k) n else keepF (l.take k) n ++ [l[k]'hk] := by
  rw [List.take_succ_eq_append_getElem hk]
  unfold keepF
  rw [List.filter_append]
  by_cases h : (l[k]'hk).at_ = n
  · rw [if_pos h]; simp [h]
  · rw [if_neg h]; simp [h]
theorem keepF_all (l : List FltD) (n : Int) (h : ∀ f ∈ l, f.at_ ≠ n) : keepF l n = l := by
  unfold keepF
  rw [List.filter_eq_self]
  intro f hf
  simp [h f hf]
theorem keepF_le (l : List FltD) (n : Int) : (keepF l n).length ≤ l.length := List.length_filter_le _ _

/-- The block of the row: the faults, and what lies behind them. -/
def rowB (w : World) (g : Nat) (l : List FltD) (tail : List Value) : Prop := w.heap[g]? = some (.cells (fcells l ++ tail).toArray 31 (0, 0))
theorem fcells_get (l : List FltD) (tail : List Value) : ∀ (k : Nat) (hk : k < l.length), (fcells l ++ tail)[k * 2]? = some (.int .i64 (l[k]'hk).at_) ∧ (fcells l ++ tail)[k * 2 + 1]? = some (.int .i64 (l[k]'hk).kind) := by
  induction l with
  | nil => intro k hk; simp at hk
  | cons f r ih =>
    intro k hk
    match k, hk with
    | 0, _ => simp [fcells_cons]
    | k + 1, hk =>
      rw [fcells_cons, show (k + 1) * 2 = k * 2 + 1 + 1 from by omega]
      have := ih k (by simpa using hk)
      simpa using this
theorem fcells_set (tail : List Value) (f : FltD) : ∀ (l : List FltD) (k : Nat), k < l.length → ((fcells l ++ tail).set (k * 2) (.int .i64 f.at_)).set (k * 2 + 1) (.int .i64 f.kind) = fcells (l.set k f) ++ tail
  | [], k, hk => by simp at hk
  | x :: r, 0, _ => by simp [fcells_cons]
  | x :: r, k + 1, hk => by
    rw [fcells_cons, show (k + 1) * 2 = k * 2 + 1 + 1 from by omega, List.set_cons_succ, fcells_cons]
    have := fcells_set tail f r k (by simpa using hk)
    simpa using this
theorem rowB.get {w : World} {g : Nat} {l : List FltD} {tail : List Value} (h : rowB w g l tail) (k : Nat) (hk : k < l.length) :
    w.cell? ⟨g, k * 2, none⟩ = some (.int .i64 (l[k]'hk).at_) ∧ w.cell? ⟨g, k * 2 + 1, none⟩ = some (.int .i64 (l[k]'hk).kind) ∧ w.frozen? ⟨g, k * 2, none⟩ = false ∧ w.frozen? ⟨g, k * 2 + 1, none⟩ = false := by
  obtain ⟨h1, h2⟩ := fcells_get l tail k hk
  refine ⟨?_, ?_, free_of_heap h _, free_of_heap h _⟩
  · rw [cell_of_heap h]; simpa using h1
  · rw [cell_of_heap h]; simpa using h2
theorem rowB.set {w : World} {g : Nat} {l : List FltD} {tail : List Value} (h : rowB w g l tail) (k : Nat) (hk : k < l.length) (f : FltD) :
    rowB ((w.setCell ⟨g, k * 2, none⟩ (.int .i64 f.at_)).setCell ⟨g, k * 2 + 1, none⟩ (.int .i64 f.kind)) g (l.set k f) tail := by
  have h1 := heap_setCell_same (i := k * 2) h (.int .i64 f.at_)
  have h2 := heap_setCell_same (i := k * 2 + 1) h1 (.int .i64 f.kind)
  unfold rowB
  rw [h2, ← fcells_set tail f l k hk]
  simp
/-- The row, as its block. -/
theorem rowB_of_owns {w : World} {a : Option Addr} {n cap : Nat} {l : List FltD} (h : w.ownsRow 0 31 2 (.slice a n cap) l.length (fcells l)) (hne : l ≠ []) :
    ∃ g tail, a = some ⟨g, 0, none⟩ ∧ n = l.length ∧ rowB w g l tail ∧ l.length * 2 + tail.length = cap * 2 := by
  rcases h.2 with ⟨e, h0⟩ | ⟨g, cap', cur, e, _, hg, h1, h2, hs, ht⟩
  · exact (hne (List.eq_nil_of_length_eq_zero h0)).elim
  · simp only [Value.slice.injEq] at e
    obtain ⟨rfl, rfl, rfl⟩ := e
    have hx : fcells l ++ cur.toList.drop (l.length * 2) = cur.toList := by rw [← ht, List.take_append_drop]
    refine ⟨g, cur.toList.drop (l.length * 2), rfl, rfl, ?_, ?_⟩
    · unfold rowB
      rw [hx, hg]
    · have := congrArg List.length hx
      rw [List.length_append, fcells_length] at this
      simp at this ⊢
      omega
/-- The block, cut to its first faults, as a row. -/
theorem owns_of_rowB {w : World} {g cap : Nat} {l k : List FltD} {tail : List Value} (h : rowB w g l tail) (hc : l.length * 2 + tail.length = cap * 2) (hm : cap ≤ maxLen) (hk : l.take k.length = k) :
    w.ownsRow 0 31 2 (.slice (some ⟨g, 0, none⟩) k.length cap) k.length (fcells k) := by
  have hl : k.length ≤ l.length := by have := congrArg List.length hk; simp at this; omega
  refine ⟨fcells_length k, .inr ⟨g, cap, (fcells l ++ tail).toArray, rfl, Nat.zero_le _, h, by omega, hm, by simp [fcells_length]; omega, ?_⟩⟩
  have : fcells l ++ tail = fcells k ++ (fcells (l.drop k.length) ++ tail) := by
    rw [← List.append_assoc, ← fcells_append]
    congr 2
    conv => lhs; rw [← List.take_append_drop k.length l, hk]
  rw [this]
  show (fcells k ++ (fcells (l.drop k.length) ++ tail)).take (k.length * 2) = fcells k
  rw [List.take_append_of_le_length (by rw [fcells_length]; exact Nat.le_refl _), List.take_of_length_le (by rw [fcells_length]; exact Nat.le_refl _)]

theorem splice_step {α : Type} (L : List α) (off : Nat) (v : α) (cs : List α) (h : off + (cs.length + 1) ≤ L.length) : splice (L.set off v) (off + 1) cs = splice L off (v :: cs) := by
  have e1 : (L.set off v).take (off + 1) = L.take off ++ [v] := by
    rw [List.take_succ_eq_append_getElem (by rw [List.length_set]; omega), List.getElem_set_self, List.take_set_of_le (Nat.le_refl _)]
  have e2 : (L.set off v).drop (off + 1 + cs.length) = L.drop (off + (cs.length + 1)) := by
    rw [List.drop_set_of_lt (by omega)]
    congr 1
    omega
  rw [splice, splice, e1, e2, List.length_cons]
  simp
theorem heap_setCells {t : TypeId} {fr : Nat × Nat} (b : Nat) : ∀ (vs : List Value) (o : Nat) (w : World) (cur : List Value), o + vs.length ≤ cur.length → w.heap[b]? = some (.cells cur.toArray t fr) →
    (w.setCells b o vs).heap[b]? = some (.cells (splice cur o vs).toArray t fr)
  | [], o, w, cur, _, hw => by
    rw [World.setCells, hw]
    simp [splice]
  | v :: r, o, w, cur, h, hw => by
    rw [List.length_cons] at h
    have hs : (w.setCell ⟨b, o, none⟩ v).heap[b]? = some (.cells (cur.set o v).toArray t fr) := by
      rw [heap_setCell_same hw]
      simp
    rw [World.setCells, heap_setCells b r (o + 1) _ (cur.set o v) (by rw [List.length_set]; omega) hs, splice_step cur o v r h]
theorem Fr.setCells (b : Nat) : ∀ (vs : List Value) (o : Nat) (w : World), Fr [b] w (w.setCells b o vs)
  | [], _, _ => Fr.refl _ _
  | v :: r, o, w => (Fr.set0 w b o v).trans (Fr.setCells b r (o + 1) _) (fun _ hi _ => hi) (fun _ hi _ => hi)
/-- The fault whose fields are zero. -/
def fz : FltD := ⟨0, 0⟩
theorem fcells_zeros (n : Nat) : fcells (List.replicate n fz) = List.replicate (n * 2) (.int .i64 0) := by
  induction n with
  | zero => rfl
  | succ n ih => rw [show (n + 1) * 2 = n * 2 + 1 + 1 from by omega, List.replicate_succ, List.replicate_succ, List.replicate_succ, fcells_cons, ih]; rfl
theorem zeros_fz (n : Nat) : (Builtin.zeroCells (Value.agg #[.int .i64 0, .int .i64 0]).cells n).toList = fcells (List.replicate n fz) := by
  have e1 : (Builtin.zeroCells (Value.agg #[.int .i64 0, .int .i64 0]).cells n).toList = List.replicate (n * 2) (.int .i64 0) := by
    have hz : (Value.agg #[.int .i64 0, .int .i64 0]).cells = #[.int .i64 0, .int .i64 0] := rfl
    rw [hz]
    apply List.ext_getElem
    · simp [Builtin.zeroCells]
    · intro i h1 h2
      have : i % 2 = 0 ∨ i % 2 = 1 := by omega
      rcases this with h | h <;> simp [Builtin.zeroCells, h]
  rw [e1, fcells_zeros]
/-- 'clear(s)', s inside a row of faults whose block is known whole. -/
theorem wpL_clearF {P : Program} {w : World} {ops : Array Oper} {rest : List Oper} {o : Oper} {a : Act} {Q : Exit → Act → World → Prop} (hgd : o.guard = none) (d : Operand) (dT : TypeId)
    (ho : o.op = .call { callee := .builtin .clear, args := #[d], argTypes := #[dT] }) (e : TypeId) (hu : P.underlying dT = some (.slice e)) (i : TypeInfo) (hi : P.info? e = some i) (hz : i.zero = some (.agg #[.int .i64 0, .int .i64 0]))
    (dp : Option Addr) (n cap : Nat) (hd : a.eval d = .slice dp n cap) (g off : Nat) (cur : List Value) (t : TypeId) (hg : w.heap[g]? = some (.cells cur.toArray t (0, 0))) (hpos : 0 < n → dp = some ⟨g, off, none⟩) (hfit : off + n * 2 ≤ cur.length)
    (h : ∀ w', Hid (w'.heap[g]? = some (.cells (splice cur off (fcells (List.replicate n fz))).toArray t (0, 0))) → Fr [g] w w' → wpList P ops Q rest (a.put o.dst (.tuple #[])) w') :
    wpList P ops Q (o :: rest) a w := by
  refine wpList_plain hgd fun K hK => ?_
  by_cases hn : n = 0
  · subst hn
    have hr : (Builtin.clear_ #[dT] o.type #[.slice dp 0 cap]).run P w = .ok (.tuple #[]) w := by
      cases dp <;> simp [Builtin.clear_, run_underlying hu]
    unfold Oper.wp execOp
    simp only [ho, resolve, invoke, builtin, Sem.run_bind, Sem.run_pure, Result.andThen_ok, List.map_toArray, List.map_cons, List.map_nil, hd, hr]
    exact hK _ _ (h w (show _ = _ by simpa [splice, fcells_nil] using hg) (Fr.refl _ _))
  · obtain rfl := hpos (by omega)
    have hl : (fcells (List.replicate n fz)).length = n * 2 := by rw [fcells_length]; simp
    have hst := run_storeCells_cells (P := P) g off (fcells (List.replicate n fz)) 0 w (fun j hj => by rw [cell_of_heap hg]; simp; omega) (fun j _ => free_of_heap hg _) (by intro v hv; rw [fcells_zeros] at hv; rw [List.eq_of_mem_replicate hv]; rfl)
    simp only [Nat.add_zero] at hst
    have hv : ∀ w, (zeroValue e).run P w = .ok (.agg #[.int .i64 0, .int .i64 0]) w := fun w => by simp [zeroValue, typeInfo, hi, hz]
    have hr : (Builtin.clear_ #[dT] o.type #[.slice (some ⟨g, off, none⟩) n cap]).run P w = .ok (.tuple #[]) (w.setCells g off (fcells (List.replicate n fz))) := by
      obtain ⟨m, rfl⟩ : ∃ m, n = m + 1 := ⟨n - 1, by omega⟩
      have hzz := zeros_fz (m + 1)
      simp [Builtin.clear_, run_underlying hu, hv, hzz, hst]
    unfold Oper.wp execOp
    simp only [ho, resolve, invoke, builtin, Sem.run_bind, Sem.run_pure, Result.andThen_ok, List.map_toArray, List.map_cons, List.map_nil, hd, hr]
    exact hK _ _ (h _ (show _ = _ from heap_setCells g _ off w cur (by rw [hl]; exact hfit) hg) (Fr.setCells g _ off w))
end Go.Proofs.Ytheanpmgdkajnaa
