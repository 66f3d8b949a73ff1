/- Laws on parts of a block; the object Hash; contracts of New and Len. -/
import Derived.Test.YtjiighgabfkmpaaDoorShaF
namespace Go.Proofs.YtjiighgabfkmpaaDoor
open Go.RowKit

theorem splice_length {α : Type} (L : List α) (off : Nat) (cs : List α) (h : off + cs.length ≤ L.length) : (splice L off cs).length = L.length := by
  simp [splice]; omega
theorem splice_step {α : Type} (L : List α) (off : Nat) (v : α) (cs : List α) (h : off + (cs.length + 1) ≤ L.length) : splice (L.set off v) (off + 1) cs = splice L off (v :: cs) := by
  have e1 : (L.set off v).take (off + 1) = L.take off ++ [v] := by
    rw [List.take_succ_eq_append_getElem (by rw [List.length_set]; omega), List.getElem_set_self, List.take_set_of_le (Nat.le_refl _)]
  have e2 : (L.set off v).drop (off + 1 + cs.length) = L.drop (off + (cs.length + 1)) := by
    rw [List.drop_set_of_lt (by omega)]
    congr 1
    omega
  rw [splice, splice, e1, e2, List.length_cons]
  simp
theorem heap_setCells {t : TypeId} {fr : Nat × Nat} (b : Nat) : ∀ (vs : List Value) (o : Nat) (w : World) (cur : List Value), o + vs.length ≤ cur.length → w.heap[b]? = some (.cells cur.toArray t fr) →
    (w.setCells b o vs).heap[b]? = some (.cells (splice cur o vs).toArray t fr)
  | [], o, w, cur, _, hw => by
    rw [World.setCells, hw]
    simp [splice]
  | v :: r, o, w, cur, h, hw => by
    rw [List.length_cons] at h
    have hs : (w.setCell ⟨b, o, none⟩ v).heap[b]? = some (.cells (cur.set o v).toArray t fr) := by
      rw [heap_setCell_same hw]
      simp
    rw [World.setCells, heap_setCells b r (o + 1) _ (cur.set o v) (by rw [List.length_set]; omega) hs, splice_step cur o v r h]
theorem Fr.setCells (b : Nat) : ∀ (vs : List Value) (o : Nat) (w : World), Fr [b] w (w.setCells b o vs)
  | [], _, _ => Fr.refl _ _
  | v :: r, o, w => (Fr.set0 w b o v).trans (Fr.setCells b r (o + 1) _) (fun _ hi _ => hi) (fun _ hi _ => hi)
theorem there_of_heap {w : World} {b : Nat} {cur : List Value} {t : TypeId} (h : w.heap[b]? = some (.cells cur.toArray t (0, 0))) (o n : Nat) (hn : o + n ≤ cur.length) : w.there b o n := by
  intro j hj
  refine ⟨?_, free_of_heap h _⟩
  rw [cell_of_heap h]
  simp
  omega
theorem range_of_heap {w : World} {b : Nat} {cur : List Value} {t : TypeId} {fr : Nat × Nat} (h : w.heap[b]? = some (.cells cur.toArray t fr)) (o : Nat) (cs : List Value) (hcs : (cur.drop o).take cs.length = cs) : w.rangeAt b o cs := by
  intro j v hj
  rw [cell_of_heap h]
  have hjl : j < cs.length := by
    rcases Nat.lt_or_ge j cs.length with q | q
    · exact q
    · rw [List.getElem?_eq_none q] at hj; cases hj
  rw [← hcs, List.getElem?_take, if_pos hjl, List.getElem?_drop] at hj
  simpa using hj

/-- 'copy(dst, src)', src a row of bytes, dst inside a row that is known whole. -/
theorem wpL_copyMin {P : Program} {w : World} {ops : Array Oper} {rest : List Oper} {o : Oper} {a : Act} {Q : Exit → Act → World → Prop} (hgd : o.guard = none) (d s : Operand) (dT sT : TypeId)
    (ho : o.op = .call { callee := .builtin .copy, args := #[d, s], argTypes := #[dT, sT] }) (elem : TypeId) (hu : P.underlying dT = some (.slice elem)) (hsz : (P.info? elem).map (·.size) = some 1)
    (g off dLen dCap : Nat) (sv : Value) (bs : List UInt8) (hd : a.eval d = .slice (some ⟨g, off, none⟩) dLen dCap) (hs : a.eval s = sv) (hb : bytesAt w sv bs) (hne : bs ≠ [])
    (n : Nat) (hn : n = Nat.min bs.length dLen) (cur : List Value) (t : TypeId) (hg : w.heap[g]? = some (.cells cur.toArray t (0, 0))) (hfit : off + n ≤ cur.length)
    (h : ∀ w', Hid (w'.heap[g]? = some (.cells (splice cur off (cellsB (bs.take n))).toArray t (0, 0))) → Fr [g] w w' → Hid (w'.heap.size = w.heap.size) → wpList P ops Q rest (a.put o.dst (goInt n)) w') :
    wpList P ops Q (o :: rest) a w := by
  obtain ⟨ap, cap, rfl, hcells⟩ := hb.cells hne
  have hnl : n ≤ bs.length := by rw [hn]; exact Nat.min_le_left _ _
  have hlen : (cellsB (bs.take n)).length = n := by rw [cellsB_length, List.length_take]; omega
  have hsrc : ∀ j v, (cellsB (bs.take n))[j]? = some v → w.cell? (ap.add j) = some v := by
    intro j v hj
    refine hcells j v ?_
    have e : cellsB (bs.take n) = (cellsB bs).take n := by simp [cellsB, List.map_take]
    rw [e, List.getElem?_take] at hj
    split at hj
    · exact hj
    · cases hj
  refine wpList_copy_own hgd d s dT sT ho elem hu hsz g off dLen dCap ap bs.length cap hd hs cur.toArray t hg (cellsB (bs.take n)) (by rw [hlen, hn]) hsrc (by rw [hlen]; simpa using hfit) (cellsB_one _) ?_
  rw [hlen]
  exact h _ (show _ = _ by simpa [splice, hlen] using setRow_heap w g _ _ t _ hg) (Fr.setRow _ _ _) (show _ = _ by simp [World.setRow])

/-- An operation whose value is known. -/
theorem wpL_val {P : Program} {w : World} {ops : Array Oper} {rest : List Oper} {o : Oper} {a : Act} {Q : Exit → Act → World → Prop} (hg : o.guard = none) (v : Value) (he : (execOp a.eval o).run P w = .ok (.value v) w)
    (h : wpList P ops Q rest (a.put o.dst v) w) : wpList P ops Q (o :: rest) a w := by
  refine wpList_plain hg fun K hK => ?_
  unfold Oper.wp
  rw [he]
  exact hK _ _ h
/-- The cells of a Hash: the state, the open bytes, the length. -/
def hashC (st : St) (op : List UInt8) (n : Nat) : List Value := (stC st).toList ++ (cellsB op ++ [.int .i64 (n : Int)])
theorem hashC_length (st : St) (op : List UInt8) (n : Nat) (h : op.length = 64) : (hashC st op n).length = 73 := by simp [hashC, stC, cellsB_length, h]
theorem hashC_state (st : St) (op : List UInt8) (n : Nat) : ((hashC st op n).drop 0).take 8 = (stC st).toList := rfl
theorem hashC_open (st : St) (op : List UInt8) (n : Nat) (h : op.length = 64) : ((hashC st op n).drop 8).take 64 = cellsB op := by
  have e : (hashC st op n).drop 8 = cellsB op ++ [.int .i64 (n : Int)] := rfl
  rw [e, List.take_left' (by rw [cellsB_length]; exact h)]
theorem hashC_size (st : St) (op : List UInt8) (n : Nat) (h : op.length = 64) : (hashC st op n)[72]? = some (.int .i64 (n : Int)) := by
  have e : hashC st op n = (stC st).toList ++ cellsB op ++ [.int .i64 (n : Int)] := by simp [hashC]
  have hl : ((stC st).toList ++ cellsB op).length = 72 := by simp [stC, cellsB_length, h]
  rw [e, List.getElem?_append_right (by omega), hl]
  rfl
theorem hashC_put (st : St) (op : List UInt8) (n r : Nat) (cs : List UInt8) (h : op.length = 64) (hr : r + cs.length ≤ 64) : splice (hashC st op n) (8 + r) (cellsB cs) = hashC st (splice op r cs) n := by
  have hl : (stC st).toList.length = 8 := rfl
  have hc : (cellsB op).length = 64 := by rw [cellsB_length, h]
  have hcs : (cellsB cs).length = cs.length := cellsB_length cs
  have e1 : (hashC st op n).take (8 + r) = (stC st).toList ++ (cellsB op).take r := by
    rw [hashC, List.take_append, List.take_of_length_le (by omega), hl, List.take_append, hc, show 8 + r - 8 - 64 = 0 from by omega, show 8 + r - 8 = r from by omega]
    simp
  have e2 : (hashC st op n).drop (8 + r + cs.length) = (cellsB op).drop (r + cs.length) ++ [.int .i64 (n : Int)] := by
    rw [hashC, List.drop_append, List.drop_of_length_le (by omega), hl, List.drop_append, hc, show 8 + r + cs.length - 8 - 64 = 0 from by omega, show 8 + r + cs.length - 8 = r + cs.length from by omega]
    simp
  rw [splice, hcs, e1, e2, hashC, splice]
  simp [cellsB, List.map_take, List.map_drop]
theorem hashC_len (st : St) (op : List UInt8) (n m : Nat) (h : op.length = 64) : (hashC st op n).set 72 (.int .i64 (m : Int)) = hashC st op m := by
  have e : ∀ n : Nat, hashC st op n = (stC st).toList ++ cellsB op ++ [.int .i64 (n : Int)] := fun n => by simp [hashC]
  have hl : ((stC st).toList ++ cellsB op).length = 72 := by simp [stC, cellsB_length, h]
  rw [e, e, List.set_append_right _ _ (by omega), hl]
  rfl
/-- The open bytes of a message. -/
def openIs (m op : List UInt8) : Prop := op.length = 64 ∧ op.take (m.length % 64) = m.drop (64 * (m.length / 64))
theorem open_none : openIs [] (List.replicate 64 0) := ⟨rfl, rfl⟩
theorem open_step (m q op : List UInt8) (n : Nat) (hop : openIs m op) (hn : n ≤ q.length) (hr : m.length % 64 + n ≤ 64) :
    (splice op (m.length % 64) (q.take n)).length = 64 ∧ (splice op (m.length % 64) (q.take n)).take (m.length % 64 + n) = (m ++ q.take n).drop (64 * (m.length / 64)) := by
  have hl : (q.take n).length = n := by rw [List.length_take]; omega
  have ht : (op.take (m.length % 64)).length = m.length % 64 := by rw [List.length_take, hop.1]; omega
  refine ⟨?_, ?_⟩
  · rw [splice_length _ _ _ (by rw [hl, hop.1]; exact hr)]
    exact hop.1
  · rw [splice, ← List.append_assoc, List.take_left' (by rw [List.length_append, ht, hl]), hop.2, List.drop_append_of_le_length (by omega)]
theorem open_some (m q op : List UInt8) (n : Nat) (hop : openIs m op) (hn : n ≤ q.length) (hr : m.length % 64 + n < 64) :
    openIs (m ++ q.take n) (splice op (m.length % 64) (q.take n)) ∧ absorb ((m ++ q.take n).length / 64) (m ++ q.take n) = absorb (m.length / 64) m := by
  obtain ⟨h1, h2⟩ := open_step m q op n hop hn (by omega)
  have hl : (m ++ q.take n).length = m.length + n := by rw [List.length_append, List.length_take]; omega
  have e1 : (m.length + n) / 64 = m.length / 64 := by omega
  have e2 : (m.length + n) % 64 = m.length % 64 + n := by omega
  refine ⟨⟨h1, by rw [hl, e1, e2]; exact h2⟩, ?_⟩
  rw [hl, e1, absorb_append _ _ _ (by omega)]
theorem open_full (m q op : List UInt8) (n : Nat) (hop : openIs m op) (hn : n ≤ q.length) (hr : m.length % 64 + n = 64) :
    openIs (m ++ q.take n) (splice op (m.length % 64) (q.take n)) ∧ absorb ((m ++ q.take n).length / 64) (m ++ q.take n) = blockSt (absorb (m.length / 64) m) (splice op (m.length % 64) (q.take n)) := by
  obtain ⟨h1, h2⟩ := open_step m q op n hop hn (by omega)
  have hl : (m ++ q.take n).length = m.length + n := by rw [List.length_append, List.length_take]; omega
  have e1 : (m.length + n) / 64 = m.length / 64 + 1 := by omega
  have e2 : (m.length + n) % 64 = 0 := by omega
  have e3 : 64 * (m.length / 64 + 1) = m.length + n := by omega
  refine ⟨⟨h1, ?_⟩, ?_⟩
  · rw [hl, e1, e2, e3, List.take_zero, List.drop_of_length_le (by omega)]
  · rw [hl, e1, absorb, absorb_append _ _ _ (by omega), ← h2, hr, List.take_take, Nat.min_self, List.take_of_length_le (by omega)]

/-- The Hash at p has this message. -/
def isH (w : World) (p : Nat) (m : List UInt8) : Prop := ∃ op, openIs m op ∧ w.heap[p]? = some (.cells (hashC (absorb (m.length / 64) m) op m.length).toArray 56 (0, 0))
theorem isH.kept {w w' : World} {p : Nat} {m : List UInt8} {l : List Nat} (h : isH w p m) (hf : Fr l w w') (hn : p ∉ l) : isH w' p m := by
  obtain ⟨op, h1, h2⟩ := h
  exact ⟨op, h1, hf.heap h2 hn⟩
theorem isH.lt {w : World} {p : Nat} {m : List UInt8} (h : isH w p m) : p < w.heap.size := by
  obtain ⟨op, _, h2⟩ := h
  exact (Array.getElem?_eq_some_iff.1 h2).1
theorem hashC_turn (st st' : St) (op : List UInt8) (n : Nat) : splice (hashC st op n) 0 (stC st').toList = hashC st' op n := rfl

theorem len_any (p : Nat) (m : List UInt8) (w : World) (h : isH w p m) :
    Calls Tryd.prog 19 #[.pointer (some ⟨p, 0, none⟩)] w fun e w' => e = .returned (.int .i64 (m.length : Int)) ∧ w = w' := by
  obtain ⟨op, h1, h2⟩ := h
  have hc : w.cell? ⟨p, 72, none⟩ = some (.int .i64 (m.length : Int)) := by
    rw [cell_of_heap h2, ← hashC_size (absorb (m.length / 64) m) op m.length h1.1]
    simp
  clear h1 h2
  go_enter Tryd.func19, Tryd.ntmps19
  go_wp2
  go_ret
  exact ⟨rfl, rfl⟩

/-- A new Hash behind what there was. -/
def NewAt (w : World) (v : Value) (w' : World) : Prop := ∃ p, v = .pointer (some ⟨p, 0, none⟩) ∧ w.heap.size ≤ p ∧ isH w' p [] ∧ Fr [] w w'
set_option maxRecDepth 100000 in
theorem new_any (w : World) : Calls Tryd.prog 17 #[] w (Ret (NewAt w)) := by
  go_enter Tryd.func17, Tryd.ntmps17
  go_wp2_with (first
    | (go_at_call 10; refine (begin_any _).mono ?_; rintro e w2 ⟨rfl, hf2⟩)
    | (refine wpL_val rfl (.agg (hashC beginSt (List.replicate 64 0) 0).toArray) (by kernel_rfl) ?_; refine wpL_boxArr rfl 56 _ rfl (hashC beginSt (List.replicate 64 0) 0).toArray rfl ?_; intro w3 hh3 hf3 hs3))
  go_ret
  exact Ret.mk ⟨w2.heap.size, rfl, hf2.size, ⟨List.replicate 64 0, open_none, hh3.out⟩, hf2.trans hf3 (by simp) (by simp)⟩
end Go.Proofs.YtjiighgabfkmpaaDoor
