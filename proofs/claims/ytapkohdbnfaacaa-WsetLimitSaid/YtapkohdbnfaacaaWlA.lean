/- The program's sets of words (layer 19): its tally. -/
import Derived.Test.YtapkohdbnfaacaaWtlMath
import Derived.Test.YtapkohdbnfaacaaMapS
import Derived.Test.YtapkohdbnfaacaaStrsD
import Derived.Test.YtapkohdbnfaacaaRegion
import Derived.LoopTactic
import Derived.WalkMore
set_option linter.unusedVariables false
set_option linter.unusedSimpArgs false
namespace Go.Proofs.Ytapkohdbnfaacaa
open Go.RowKit Go.Maps

/-- What the map of the tally holds: of words, the last first, each with how often it stands there. -/
def cntR : Words → DataW Unit
  | [] => .map []
  | x :: r => (cntR r).put (.string x) (.lit (.int .i64 ((r.count x + 1 : Nat) : Int)))
def cntD (ws : Words) : DataW Unit := cntR ws.reverse
theorem cntR_tidy : ∀ r : Words, Tidy (cntR r)
  | [] => tidy_empty
  | x :: r => (cntR_tidy r).put (show WideAt.IsKeyLit (.string x) from trivial) _
theorem cntR_at : ∀ (r : Words) (x : List UInt8), (cntR r).atKey (.string x) (.lit (.int .i64 0)) = .lit (.int .i64 ((r.count x : Nat) : Int))
  | [], x => by simp [cntR, DataW.atKey]
  | y :: r, x => by
    rw [cntR]
    by_cases e : x = y
    · subst e
      rw [atKey_put_same (cntR_tidy r).isMap (show WideAt.IsKeyLit (.string x) from trivial), List.count_cons_self]
    · rw [atKey_put_other (fun q => e (by injection q)), cntR_at r x, List.count_cons_of_ne (fun q => e q.symm)]
theorem cntD_at (ws : Words) (x : List UInt8) : (cntD ws).atKey (.string x) (.lit (.int .i64 0)) = .lit (.int .i64 ((ws.count x : Nat) : Int)) := by
  unfold cntD; rw [cntR_at, count_rev]
theorem cntD_snoc (ws : Words) (x : List UInt8) : cntD (ws ++ [x]) = (cntD ws).put (.string x) (.lit (.int .i64 ((ws.count x + 1 : Nat) : Int))) := by
  unfold cntD
  rw [List.reverse_append]
  show cntR (x :: ws.reverse) = _
  rw [cntR, count_rev]
/-- The tally stands in block p, its map in block mb. -/
structure TyAt (w : World) (base p mb t : Nat) (ws : Words) (fv : Value) : Prop where
  obj : w.heap[p]? = some (.cells #[.int .i64 (t : Int), .map (some mb), fv] 53 (0, 0))
  map : w.ownsMap Try.prog 9 (plainElem Try.prog 3) mb ws.length (cntD ws)
  row : w.ownsRow base 9 1 fv (fndW t ws).length ((fndW t ws).map encStr)
  hp : base ≤ p
  hm : base ≤ mb
theorem TyAt.fr {w w' : World} {base p mb t : Nat} {ws : Words} {fv : Value} (h : TyAt w base p mb t ws fv) (hf : Fr [] w w') : TyAt w' base p mb t ws fv :=
  ⟨hf.heap h.obj (by simp), ownsMap_kept h.map hf (by simp), owns_kept h.row hf (by simp), h.hp, h.hm⟩
/-- The blocks of a tally. -/
def tyB (p mb : Nat) (fv : Value) : List Nat := p :: mb :: fv.ownBlock.toList
theorem TyAt.ge {w : World} {base p mb t : Nat} {ws : Words} {fv : Value} (h : TyAt w base p mb t ws fv) : ∀ i ∈ tyB p mb fv, base ≤ i := by
  intro i hi
  unfold tyB at hi
  rcases List.mem_cons.1 hi with rfl | hi
  · exact h.hp
  rcases List.mem_cons.1 hi with rfl | hi
  · exact h.hm
  rcases h.row.2 with ⟨rfl, _⟩ | ⟨g, cap, cur, rfl, hb, _⟩
  · simp [Value.ownBlock] at hi
  · simp [Value.ownBlock] at hi; omega
theorem TyAt.pm {w : World} {base p mb t : Nat} {ws : Words} {fv : Value} (h : TyAt w base p mb t ws fv) : p ≠ mb := by
  rintro rfl
  obtain ⟨es, c, hh, _⟩ := h.map
  have := h.obj
  rw [hh] at this
  cases this
theorem TyAt.pf {w : World} {base p mb t : Nat} {ws : Words} {fv : Value} (h : TyAt w base p mb t ws fv) : p ∉ fv.ownBlock.toList := by
  rcases h.row.2 with ⟨rfl, _⟩ | ⟨g, cap, cur, rfl, _, hb, _⟩
  · simp [Value.ownBlock]
  · simp only [Value.ownBlock, Option.toList_some, List.mem_singleton]
    rintro rfl
    have := h.obj
    rw [hb] at this
    injection this with this
    injection this with _ e _
    exact absurd e (by decide)
theorem TyAt.mf {w : World} {base p mb t : Nat} {ws : Words} {fv : Value} (h : TyAt w base p mb t ws fv) : mb ∉ fv.ownBlock.toList := by
  rcases h.row.2 with ⟨rfl, _⟩ | ⟨g, cap, cur, rfl, _, hb, _⟩
  · simp [Value.ownBlock]
  · simp only [Value.ownBlock, Option.toList_some, List.mem_singleton]
    rintro rfl
    obtain ⟨es, c, hh, _⟩ := h.map
    rw [hb] at hh
    cases hh
/-- What was counted. -/
def TyGot (w : World) (base p mb t : Nat) (ws : Words) (fv : Value) (w' : World) : Prop :=
  ∃ fv', TyAt w' base p mb t ws fv' ∧ Fr (tyB p mb fv) w w' ∧ ∀ i ∈ tyB p mb fv', i ∈ tyB p mb fv ∨ w.heap.size ≤ i
theorem TyGot.refl {w : World} {base p mb t : Nat} {ws : Words} {fv : Value} (h : TyAt w base p mb t ws fv) : TyGot w base p mb t ws fv w := ⟨fv, h, Fr.refl _ _, fun i hi => .inl hi⟩
/-- A look-up of a number whose place is known. -/
theorem wpL_lookN {P : Program} {w : World} {ops : Array Oper} {rest : List Oper} {o : Oper} {a : Act} {Q : Exit → Act → World → Prop} (hg : o.guard = none) (m x : Operand) (t : TypeId) (hop : o.op = Op.lookup t m x false)
    (k e : TypeId) (K : Keyed P k) (ht : P.underlying t = some (.map k e)) (he : P.underlying e = some (.int .i64)) (hz : (zeroValue e).run P w = .ok (.int .i64 0) w) (b n : Nat) (D : DataW Unit)
    (hm : a.eval m = .map (some b)) (hown : w.ownsMap P k (plainElem P e) b n D) (key : Value) (kl : Lit) (hx : a.eval x = key) (hkey : keyOf P k key = some kl) (c0 : Int) (hat : D.atKey kl (.lit (.int .i64 0)) = .lit (.int .i64 c0))
    (hK : wpList P ops Q rest (a.put o.dst (.int .i64 c0)) w) : wpList P ops Q (o :: rest) a w :=
  wpList_lookup_own_int w hg m x t hop k e .i64 K ht he hz b n D hm hown key kl hx hkey (fun c h _ => by
    rw [hat] at h
    injection h with h
    injection h with _ h
    subst h
    exact hK)
theorem look_cnt {w : World} {b n : Nat} {D : DataW Unit} {x : List UInt8} {c0 : Int} (h : w.ownsMap Try.prog 9 (plainElem Try.prog 3) b n D) (hx : x.length ≤ maxLen) (hat : D.atKey (.string x) (.lit (.int .i64 0)) = .lit (.int .i64 c0)) :
    (Instr.lookup 51 (.map (some b)) (encStr x) false).run Try.prog w = .ok (.int .i64 c0) w := by
  obtain ⟨c, hr, ha, -⟩ := h.lookup_int lawKS Try.underlying51 Try.underlying3 (zeroKI w) (keyOfS x hx)
  rw [hat] at ha
  injection ha with ha
  injection ha with _ ha
  rw [ha]
  exact hr
end Go.Proofs.Ytapkohdbnfaacaa
