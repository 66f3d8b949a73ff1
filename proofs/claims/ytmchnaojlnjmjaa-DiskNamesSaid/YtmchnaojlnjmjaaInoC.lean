/- Contract of inode's tear. -/
import Derived.Test.YtmchnaojlnjmjaaInoB
import Derived.Test.YtmchnaojlnjmjaaBs
import Derived.Lib.SliceRun
namespace Go.Proofs.Ytmchnaojlnjmjaa
open Go.RowKit

theorem splice_cut {α : Type} (L : List α) (off : Nat) (cs : List α) (n : Nat) (h : off + cs.length ≤ n) (hL : off ≤ L.length) : (splice L off cs).take n = splice (L.take n) off cs := by
  have e1 : (L.take off).length = off := by simp; omega
  have e2 : (L.take off).take n = L.take off := List.take_of_length_le (by omega)
  have e3 : cs.take (n - off) = cs := List.take_of_length_le (by omega)
  have e4 : min off n = off := by omega
  simp only [splice, List.append_assoc]
  rw [List.take_append, e1, e2, List.take_append, e3, List.take_take, e4, List.drop_take, Nat.sub_add_eq]
theorem splice_cells (l : List UInt8) (off : Nat) (cs : List UInt8) : cellsB (splice l off cs) = splice (cellsB l) off (cellsB cs) := by
  simp [splice, cellsB, List.map_take, List.map_drop]
/-- 'clear(s)', s inside a row of one-cell elements that is known whole. -/
theorem wpL_clear {P : Program} {w : World} {ops : Array Oper} {rest : List Oper} {o : Oper} {a : Act} {Q : Exit → Act → World → Prop} (hgd : o.guard = none) (d : Operand) (dT : TypeId)
    (ho : o.op = .call { callee := .builtin .clear, args := #[d], argTypes := #[dT] }) (e : TypeId) (hu : P.underlying dT = some (.slice e)) (i : TypeInfo) (z : Value) (hi : P.info? e = some i) (hz : i.zero = some z) (hzc : z.cells = #[z]) (h1 : z.oneCell' = true)
    (dp : Option Addr) (n cap : Nat) (hd : a.eval d = .slice dp n cap) (g off : Nat) (cur : List Value) (t : TypeId) (hg : w.heap[g]? = some (.cells cur.toArray t (0, 0))) (hpos : 0 < n → dp = some ⟨g, off, none⟩) (hfit : off + n ≤ cur.length)
    (h : ∀ w', Hid (w'.heap[g]? = some (.cells (splice cur off (List.replicate n z)).toArray t (0, 0))) → Fr [g] w w' → wpList P ops Q rest (a.put o.dst (.tuple #[])) w') :
    wpList P ops Q (o :: rest) a w := by
  refine wpList_plain hgd fun K hK => ?_
  by_cases hn : n = 0
  · subst hn
    have hr : (Builtin.clear_ #[dT] o.type #[.slice dp 0 cap]).run P w = .ok (.tuple #[]) w := by
      cases dp <;> simp [Builtin.clear_, run_underlying hu]
    unfold Oper.wp execOp
    simp only [ho, resolve, invoke, builtin, Sem.run_bind, Sem.run_pure, Result.andThen_ok, List.map_toArray, List.map_cons, List.map_nil, hd, hr]
    exact hK _ _ (h w (show _ = _ by simpa [splice] using hg) (Fr.refl _ _))
  · obtain rfl := hpos (by omega)
    have hr := Lib.run_clear_slice (P := P) w dT e o.type z hu (fun w => by simp [zeroValue, typeInfo, hi, hz]) hzc h1 g off n cap (by omega) (fun j hj => by rw [cell_of_heap hg]; simp; omega) (fun j _ => free_of_heap hg _)
    unfold Oper.wp execOp
    simp only [ho, resolve, invoke, builtin, Sem.run_bind, Sem.run_pure, Result.andThen_ok, List.map_toArray, List.map_cons, List.map_nil, hd, hr]
    exact hK _ _ (h _ (show _ = _ from heap_setCells g _ off w cur (by simpa using hfit) hg) (Fr.setCells g _ off w))

/-- Where a tear begins and ends. -/
def tearTo (m c : Nat) : Nat := min (16 * c + 16) m
def tearAt (m s c : Nat) (x : Int) : Nat := min (max s (16 * c + (min (max x 0) 16).toNat)) (tearTo m c)
def tearC (l : List UInt8) (s c : Nat) (x : Int) : List UInt8 := splice l (tearAt l.length s c x) (List.replicate (tearTo l.length c - tearAt l.length s c x) 0)
theorem tearAt_le (m s c : Nat) (x : Int) : tearAt m s c x ≤ tearTo m c ∧ tearTo m c ≤ m := ⟨Nat.min_le_right _ _, Nat.min_le_right _ _⟩
theorem tearC_length (l : List UInt8) (s c : Nat) (x : Int) : (tearC l s c x).length = l.length := by
  have := tearAt_le l.length s c x
  rw [tearC, splice_length _ _ _ (by simp; omega)]
set_option maxHeartbeats 4000000 in
set_option maxRecDepth 100000 in
theorem tear_any (p g s c : Nat) (x : Int) (l : List UInt8) (w : World) (h : isF w p g l s) (hl : l.length ≤ 1048576) (hc : c ≤ 1048576) :
    Calls Try.prog 60 #[.pointer (some ⟨p, 0, none⟩), .int .i64 (c : Int), .int .i64 x] w fun e w' => e = .returned (.tuple #[]) ∧ isF w' p g (tearC l s c x) s ∧ Fr [g] w w' := by
  obtain ⟨i, hi, hz0, hz1, hz2⟩ := info_parts infoB
  obtain ⟨cap, hle, hmx, hc0, hc1, hf0, hf1, -⟩ := h.open
  have hs := h.safe
  have hrow : ∃ cur : List Value, w.heap[g]? = some (.cells cur.toArray 5 (0, 0)) ∧ l.length ≤ cur.length ∧ ∀ w2 n, n = tearTo l.length c - tearAt l.length s c x → w2.heap[g]? = some (.cells (splice cur (tearAt l.length s c x) (List.replicate n (.int .u8 0))).toArray 5 (0, 0)) → Fr [g] w w2 → isF w2 p g (tearC l s c x) s := by
    obtain ⟨cap', cur, h1, h2, h3, h4, h5, h6, h7, h8⟩ := h
    have ht := tearAt_le l.length s c x
    refine ⟨cur, h2, by omega, fun w2 n hn hh2 hf2 => ⟨cap', _, ?_, hh2, ?_, ?_, h5, ?_, h7, by rw [tearC_length]; exact h8⟩⟩
    · rw [tearC_length]; exact hf2.heap h1 (by simpa using Ne.symm h7)
    · rw [splice_length _ _ _ (by simp; omega), h3]
    · rw [tearC_length]; exact h4
    · rw [tearC_length, splice_cut _ _ _ _ (by simp; omega) (by omega), h6, tearC, splice_cells, hn]
      simp [cellsB]
  obtain ⟨cur, hg, hcur, hfin⟩ := hrow
  have HG := Lib.hid hg
  have HFin := Lib.hid hfin
  clear h hg hfin
  go_enter Try.func60, Try.ntmps60
  go_wp2_with (refine wpL_clear rfl (.tmp 37) 24 rfl 5 Try.underlying24 i (.int .u8 0) hi hz0 rfl rfl _ _ _ rfl g (tearAt l.length s c x) cur 5 HG.out ?_ ?_ ?_; rotate_left 2; intro w2 hh2 hf2)
  all_goals first
    | (unfold tearAt tearTo; omega)
    | (go_end0; exact ⟨rfl, HFin.out _ _ (by unfold tearAt tearTo; omega) hh2.out hf2, hf2⟩)
end Go.Proofs.Ytmchnaojlnjmjaa
