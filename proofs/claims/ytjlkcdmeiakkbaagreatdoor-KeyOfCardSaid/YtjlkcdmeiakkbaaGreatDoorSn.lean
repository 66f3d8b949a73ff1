/- Several texts in one: ShaG, ShaH, Part, ShaI, ShaJ. -/
import Derived.StillTailTactics
import Derived.Test.YtjlkcdmeiakkbaaGreatDoorSm
import Derived.Test.YtjlkcdmeiakkbaaGreatDoorBs
set_option linter.unusedVariables false
set_option linter.unusedSimpArgs false
/-! Laws on parts of a block; the object Hash; contracts of New and Len. -/
namespace Go.Proofs.YtjlkcdmeiakkbaaGreatDoor
open Go.RowKit

theorem splice_length {α : Type} (L : List α) (off : Nat) (cs : List α) (h : off + cs.length ≤ L.length) : (splice L off cs).length = L.length := by
  simp [splice]; omega
theorem there_of_heap {w : World} {b : Nat} {cur : List Value} {t : TypeId} (h : w.heap[b]? = some (.cells cur.toArray t (0, 0))) (o n : Nat) (hn : o + n ≤ cur.length) : w.there b o n := by
  intro j hj
  refine ⟨?_, free_of_heap h _⟩
  rw [cell_of_heap h]
  simp
  omega
theorem range_of_heap {w : World} {b : Nat} {cur : List Value} {t : TypeId} {fr : Nat × Nat} (h : w.heap[b]? = some (.cells cur.toArray t fr)) (o : Nat) (cs : List Value) (hcs : (cur.drop o).take cs.length = cs) : w.rangeAt b o cs := by
  intro j v hj
  rw [cell_of_heap h]
  have hjl : j < cs.length := by
    rcases Nat.lt_or_ge j cs.length with q | q
    · exact q
    · rw [List.getElem?_eq_none q] at hj; cases hj
  rw [← hcs, List.getElem?_take, if_pos hjl, List.getElem?_drop] at hj
  simpa using hj

/-- 'copy(dst, src)', src a row of bytes, dst inside a row that is known whole. -/
theorem wpL_copyMin {P : Program} {w : World} {ops : Array Oper} {rest : List Oper} {o : Oper} {a : Act} {Q : Exit → Act → World → Prop} (hgd : o.guard = none) (d s : Operand) (dT sT : TypeId)
    (ho : o.op = .call { callee := .builtin .copy, args := #[d, s], argTypes := #[dT, sT] }) (elem : TypeId) (hu : P.underlying dT = some (.slice elem)) (hsz : (P.info? elem).map (·.size) = some 1)
    (g off dLen dCap : Nat) (sv : Value) (bs : List UInt8) (hd : a.eval d = .slice (some ⟨g, off, none⟩) dLen dCap) (hs : a.eval s = sv) (hb : bytesAt w sv bs) (hne : bs ≠ [])
    (n : Nat) (hn : n = Nat.min bs.length dLen) (cur : List Value) (t : TypeId) (hg : w.heap[g]? = some (.cells cur.toArray t (0, 0))) (hfit : off + n ≤ cur.length)
    (h : ∀ w', Hid (w'.heap[g]? = some (.cells (splice cur off (cellsB (bs.take n))).toArray t (0, 0))) → Fr [g] w w' → Hid (w'.heap.size = w.heap.size) → wpList P ops Q rest (a.put o.dst (goInt n)) w') :
    wpList P ops Q (o :: rest) a w := by
  obtain ⟨ap, cap, rfl, hcells⟩ := hb.cells hne
  have hnl : n ≤ bs.length := by rw [hn]; exact Nat.min_le_left _ _
  have hlen : (cellsB (bs.take n)).length = n := by rw [cellsB_length, List.length_take]; omega
  have hsrc : ∀ j v, (cellsB (bs.take n))[j]? = some v → w.cell? (ap.add j) = some v := by
    intro j v hj
    refine hcells j v ?_
    have e : cellsB (bs.take n) = (cellsB bs).take n := by simp [cellsB, List.map_take]
    rw [e, List.getElem?_take] at hj
    split at hj
    · exact hj
    · cases hj
  refine wpList_copy_own hgd d s dT sT ho elem hu hsz g off dLen dCap ap bs.length cap hd hs cur.toArray t hg (cellsB (bs.take n)) (by rw [hlen, hn]) hsrc (by rw [hlen]; simpa using hfit) (cellsB_one _) ?_
  rw [hlen]
  exact h _ (show _ = _ by simpa [splice, hlen] using setRow_heap w g _ _ t _ hg) (Fr.setRow _ _ _) (show _ = _ by simp [World.setRow])

/-- An operation whose value is known. -/
theorem wpL_val {P : Program} {w : World} {ops : Array Oper} {rest : List Oper} {o : Oper} {a : Act} {Q : Exit → Act → World → Prop} (hg : o.guard = none) (v : Value) (he : (execOp a.eval o).run P w = .ok (.value v) w)
    (h : wpList P ops Q rest (a.put o.dst v) w) : wpList P ops Q (o :: rest) a w := by
  refine wpList_plain hg fun K hK => ?_
  unfold Oper.wp
  rw [he]
  exact hK _ _ h
/-- The cells of a Hash: the state, the open bytes, the length. -/
def hashC (st : St) (op : List UInt8) (n : Nat) : List Value := (stC st).toList ++ (cellsB op ++ [.int .i64 (n : Int)])
theorem hashC_length (st : St) (op : List UInt8) (n : Nat) (h : op.length = 64) : (hashC st op n).length = 73 := by simp [hashC, stC, cellsB_length, h]
theorem hashC_state (st : St) (op : List UInt8) (n : Nat) : ((hashC st op n).drop 0).take 8 = (stC st).toList := rfl
theorem hashC_open (st : St) (op : List UInt8) (n : Nat) (h : op.length = 64) : ((hashC st op n).drop 8).take 64 = cellsB op := by
  have e : (hashC st op n).drop 8 = cellsB op ++ [.int .i64 (n : Int)] := rfl
  rw [e, List.take_left' (by rw [cellsB_length]; exact h)]
theorem hashC_size (st : St) (op : List UInt8) (n : Nat) (h : op.length = 64) : (hashC st op n)[72]? = some (.int .i64 (n : Int)) := by
  have e : hashC st op n = (stC st).toList ++ cellsB op ++ [.int .i64 (n : Int)] := by simp [hashC]
  have hl : ((stC st).toList ++ cellsB op).length = 72 := by simp [stC, cellsB_length, h]
  rw [e, List.getElem?_append_right (by omega), hl]
  rfl
theorem hashC_put (st : St) (op : List UInt8) (n r : Nat) (cs : List UInt8) (h : op.length = 64) (hr : r + cs.length ≤ 64) : splice (hashC st op n) (8 + r) (cellsB cs) = hashC st (splice op r cs) n := by
  have hl : (stC st).toList.length = 8 := rfl
  have hc : (cellsB op).length = 64 := by rw [cellsB_length, h]
  have hcs : (cellsB cs).length = cs.length := cellsB_length cs
  have e1 : (hashC st op n).take (8 + r) = (stC st).toList ++ (cellsB op).take r := by
    rw [hashC, List.take_append, List.take_of_length_le (by omega), hl, List.take_append, hc, show 8 + r - 8 - 64 = 0 from by omega, show 8 + r - 8 = r from by omega]
    simp
  have e2 : (hashC st op n).drop (8 + r + cs.length) = (cellsB op).drop (r + cs.length) ++ [.int .i64 (n : Int)] := by
    rw [hashC, List.drop_append, List.drop_of_length_le (by omega), hl, List.drop_append, hc, show 8 + r + cs.length - 8 - 64 = 0 from by omega, show 8 + r + cs.length - 8 = r + cs.length from by omega]
    simp
  rw [splice, hcs, e1, e2, hashC, splice]
  simp [cellsB, List.map_take, List.map_drop]
theorem hashC_len (st : St) (op : List UInt8) (n m : Nat) (h : op.length = 64) : (hashC st op n).set 72 (.int .i64 (m : Int)) = hashC st op m := by
  have e : ∀ n : Nat, hashC st op n = (stC st).toList ++ cellsB op ++ [.int .i64 (n : Int)] := fun n => by simp [hashC]
  have hl : ((stC st).toList ++ cellsB op).length = 72 := by simp [stC, cellsB_length, h]
  rw [e, e, List.set_append_right _ _ (by omega), hl]
  rfl
/-- The open bytes of a message. -/
def openIs (m op : List UInt8) : Prop := op.length = 64 ∧ op.take (m.length % 64) = m.drop (64 * (m.length / 64))
theorem open_none : openIs [] (List.replicate 64 0) := ⟨rfl, rfl⟩
theorem open_step (m q op : List UInt8) (n : Nat) (hop : openIs m op) (hn : n ≤ q.length) (hr : m.length % 64 + n ≤ 64) :
    (splice op (m.length % 64) (q.take n)).length = 64 ∧ (splice op (m.length % 64) (q.take n)).take (m.length % 64 + n) = (m ++ q.take n).drop (64 * (m.length / 64)) := by
  have hl : (q.take n).length = n := by rw [List.length_take]; omega
  have ht : (op.take (m.length % 64)).length = m.length % 64 := by rw [List.length_take, hop.1]; omega
  refine ⟨?_, ?_⟩
  · rw [splice_length _ _ _ (by rw [hl, hop.1]; exact hr)]
    exact hop.1
  · rw [splice, ← List.append_assoc, List.take_left' (by rw [List.length_append, ht, hl]), hop.2, List.drop_append_of_le_length (by omega)]
theorem open_some (m q op : List UInt8) (n : Nat) (hop : openIs m op) (hn : n ≤ q.length) (hr : m.length % 64 + n < 64) :
    openIs (m ++ q.take n) (splice op (m.length % 64) (q.take n)) ∧ absorb ((m ++ q.take n).length / 64) (m ++ q.take n) = absorb (m.length / 64) m := by
  obtain ⟨h1, h2⟩ := open_step m q op n hop hn (by omega)
  have hl : (m ++ q.take n).length = m.length + n := by rw [List.length_append, List.length_take]; omega
  have e1 : (m.length + n) / 64 = m.length / 64 := by omega
  have e2 : (m.length + n) % 64 = m.length % 64 + n := by omega
  refine ⟨⟨h1, by rw [hl, e1, e2]; exact h2⟩, ?_⟩
  rw [hl, e1, absorb_append _ _ _ (by omega)]
theorem open_full (m q op : List UInt8) (n : Nat) (hop : openIs m op) (hn : n ≤ q.length) (hr : m.length % 64 + n = 64) :
    openIs (m ++ q.take n) (splice op (m.length % 64) (q.take n)) ∧ absorb ((m ++ q.take n).length / 64) (m ++ q.take n) = blockSt (absorb (m.length / 64) m) (splice op (m.length % 64) (q.take n)) := by
  obtain ⟨h1, h2⟩ := open_step m q op n hop hn (by omega)
  have hl : (m ++ q.take n).length = m.length + n := by rw [List.length_append, List.length_take]; omega
  have e1 : (m.length + n) / 64 = m.length / 64 + 1 := by omega
  have e2 : (m.length + n) % 64 = 0 := by omega
  have e3 : 64 * (m.length / 64 + 1) = m.length + n := by omega
  refine ⟨⟨h1, ?_⟩, ?_⟩
  · rw [hl, e1, e2, e3, List.take_zero, List.drop_of_length_le (by omega)]
  · rw [hl, e1, absorb, absorb_append _ _ _ (by omega), ← h2, hr, List.take_take, Nat.min_self, List.take_of_length_le (by omega)]

/-- The Hash at p has this message. -/
def isH (w : World) (p : Nat) (m : List UInt8) : Prop := ∃ op, openIs m op ∧ w.heap[p]? = some (.cells (hashC (absorb (m.length / 64) m) op m.length).toArray 90 (0, 0))
theorem isH.kept {w w' : World} {p : Nat} {m : List UInt8} {l : List Nat} (h : isH w p m) (hf : Fr l w w') (hn : p ∉ l) : isH w' p m := by
  obtain ⟨op, h1, h2⟩ := h
  exact ⟨op, h1, hf.heap h2 hn⟩
theorem isH.lt {w : World} {p : Nat} {m : List UInt8} (h : isH w p m) : p < w.heap.size := by
  obtain ⟨op, _, h2⟩ := h
  exact (Array.getElem?_eq_some_iff.1 h2).1
theorem hashC_turn (st st' : St) (op : List UInt8) (n : Nat) : splice (hashC st op n) 0 (stC st').toList = hashC st' op n := rfl

/-- A new Hash behind what there was. -/
def NewAt (w : World) (v : Value) (w' : World) : Prop := ∃ p, v = .pointer (some ⟨p, 0, none⟩) ∧ w.heap.size ≤ p ∧ isH w' p [] ∧ Fr [] w w'
set_option maxRecDepth 100000 in
theorem new_any (w : World) : Calls Tryz.prog 26 #[] w (Ret (NewAt w)) := by
  go_enter Tryz.func26, Tryz.ntmps26
  go_wp2_with (first
    | (go_at_call 57; refine (begin_any _).mono ?_; rintro e w2 ⟨rfl, hf2⟩)
    | (refine wpL_val rfl (.agg (hashC beginSt (List.replicate 64 0) 0).toArray) (by kernel_rfl) ?_; refine wpL_boxArr rfl 90 _ rfl (hashC beginSt (List.replicate 64 0) 0).toArray rfl ?_; intro w3 hh3 hf3 hs3))
  go_ret
  exact Ret.mk ⟨w2.heap.size, rfl, hf2.size, ⟨List.replicate 64 0, open_none, hh3.out⟩, hf2.trans hf3 (by simp) (by simp)⟩
end Go.Proofs.YtjlkcdmeiakkbaaGreatDoor

/-! Contract of package sha's Write. -/
namespace Go.Proofs.YtjlkcdmeiakkbaaGreatDoor
open Go.RowKit

def lenV : Value → Nat
  | .slice _ n _ => n
  | _ => 0
def WriteRel (p : Nat) (m bs : List UInt8) (w : World) (vs : Value) (wr : World) : Prop :=
  ∃ (a : Option Addr) (q : List UInt8) (k cap : Nat), vs = .slice a q.length cap ∧ q = bs.drop k ∧ k ≤ bs.length ∧ bytesAt wr vs q ∧ (∀ j, vs.ownBlock = some j → q ≠ [] → j ≠ p) ∧ isH wr p (m ++ bs.take k) ∧ Fr [p] w wr
theorem sizeHash : (Tryz.prog.info? 90).map (·.size) = some 73 := by kernel_rfl
/-- A load whose value is known, in the head of a region that draws its order. -/
theorem wpStill_load {P : Program} {ops : Array Oper} {w : World} {Q : Act → Prop} {a : Act} {o : Oper} {rest : List Oper} (hg : o.guard = none) (ty : TypeId) (x : Operand) (ho : o.op = .load ty x) (v : Value) (hv : (Instr.loadAt ty (a.eval x)).run P w = .ok v w)
    (h : wpStill P ops w Q rest (a.put o.dst v)) : wpStill P ops w Q (o :: rest) a :=
  wpStill_step fun K hK => by
    have hw : Region.wanted o (yielded ops a.tmps) = true := by simp [Region.wanted, hg]
    rw [if_pos hw]
    unfold Oper.still execOp
    simp only [ho, Sem.run_bind, hv, Result.andThen_ok, Sem.run_pure]
    exact ⟨rfl, hK _ h⟩
theorem rest_own (a A1 : Option Addr) (cap n l l' c' : Nat) (h : (if cap = n then a else a.map fun x => x.add n) = A1) : (Value.slice A1 l' c').ownBlock = (Value.slice a l cap).ownBlock := by
  rw [← h]
  split
  · cases a <;> rfl
  · exact ownBlock_map
theorem rest_bytes {w : World} {a A1 : Option Addr} {cap n : Nat} {q : List UInt8} (h : (if cap = n then a else a.map fun x => x.add n) = A1) (hn : n ≤ q.length) (hb : bytesAt w (.slice a q.length cap) q) : bytesAt w (.slice A1 (q.length - n) (cap - n)) (q.drop n) := by
  have := hb.cut (lo := n) (hi := q.length) hn (Nat.le_refl _)
  rw [List.take_length] at this
  simp only [Nat.mul_one] at this
  rwa [h] at this
set_option maxRecDepth 100000 in
theorem write_any (p : Nat) (m bs : List UInt8) (sv : Value) (w : World) (h : isH w p m) (hb : bytesAt w sv bs) (hp : ∀ j, sv.ownBlock = some j → bs ≠ [] → j ≠ p) (hr : rootsAt w) (hpr : p ≠ 1) (hlen : m.length + bs.length < 1000000000000) :
    Calls Tryz.prog 27 #[.pointer (some ⟨p, 0, none⟩), sv] w fun e w' => e = .returned (.tuple #[]) ∧ isH w' p (m ++ bs) ∧ Fr [p] w w' := by
  obtain ⟨a0, c0, rfl, hle, hmx⟩ := hb.form
  go_enter Tryz.func27, Tryz.ntmps27
  go_wp2_with fail
  go_loopw [1] (WriteRel p m bs w) (fun s _ => lenV s)
  case atStart => exact ⟨a0, bs, 0, c0, rfl, rfl, Nat.zero_le _, hb, hp, by simpa using h, Fr.refl _ _⟩
  case round =>
    clear h hb hp
    obtain ⟨a, q, k, cap, rfl, hq, hk, hbq, hpq, hH, hf⟩ := hrel
    have HQ := Lib.hid hq
    have HBQ := Lib.hid hbq
    have HPQ := Lib.hid hpq
    have HH := Lib.hid hH
    clear hq hbq hpq hH
    by_cases hq0 : 0 < q.length
    · have hd : decide (0 < q.length) = true := decide_eq_true hq0
      have hqne : q ≠ [] := List.length_pos_iff.1 hq0
      obtain ⟨mm, hmm⟩ : ∃ mm, mm = m ++ bs.take k := ⟨_, rfl⟩
      obtain ⟨op, hop, hheap⟩ := HH.out
      rw [← hmm] at hop hheap
      have hsz : wr.cell? ⟨p, 72, none⟩ = some (.int .i64 (mm.length : Int)) := by
        rw [cell_of_heap hheap, ← hashC_size (absorb (mm.length / 64) mm) op mm.length hop.1]
        simp
      have HMM := Lib.hid hmm
      have HOP := Lib.hid hop
      have HHP := Lib.hid hheap
      clear hmm hop hheap HH
      obtain ⟨r, hrr⟩ : ∃ r, r = mm.length % 64 := ⟨_, rfl⟩
      have hr64 : r < 64 := by omega
      have htm : (mm.length : Int).tmod 64 = (r : Int) := by rw [Int.tmod_eq_emod_of_nonneg (by omega), hrr]; omega
      have hr64n : ¬ 64 = r := by omega
      have hr64i : (r : Int) ≤ 64 := by omega
      have HRR := Lib.hid hrr
      clear hrr
      go_wp2_with fail
      go_still_tail 10, (by kernel_rfl)
      change wpList _ _ _ _ _ wr.drew
      have hfd : Fr [p] w wr.drew := hf.andDrew
      have HBD : Hid (bytesAt wr.drew (.slice a q.length cap) q) := Lib.hid (HBQ.out.below (Fr.drew wr))
      have HHD : Hid (wr.drew.heap[p]? = some (.cells (hashC (absorb (mm.length / 64) mm) op mm.length).toArray 90 (0, 0))) := Lib.hid HHP.out
      obtain ⟨wd, hwd⟩ : ∃ wd, wd = wr.drew := ⟨_, rfl⟩
      rw [← hwd] at hfd HBD HHD ⊢
      clear hwd hsz
      obtain ⟨n, hn⟩ : ∃ n, n = Nat.min q.length (64 - r) := ⟨_, rfl⟩
      have hnq : n ≤ q.length := by rw [hn]; exact Nat.min_le_left _ _
      have hnr : n ≤ 64 - r := by rw [hn]; exact Nat.min_le_right _ _
      have hn0 : 0 < n := by rw [hn]; exact Nat.lt_min.2 ⟨hq0, by omega⟩
      have hfit : 8 + r + n ≤ (hashC (absorb (mm.length / 64) mm) op mm.length).length := by rw [hashC_length _ _ _ HOP.out.1]; omega
      have HN := Lib.hid hn
      obtain ⟨st, hst⟩ : ∃ st, st = absorb (mm.length / 64) mm := ⟨_, rfl⟩
      rw [← hst] at HHD hfit
      obtain ⟨A1, hA1⟩ : ∃ A1, (if cap = n then a else a.map fun x => x.add n) = A1 := ⟨_, rfl⟩
      obtain ⟨op1, hop1⟩ : ∃ op1, op1 = splice op r (q.take n) := ⟨_, rfl⟩
      have hop1l : op1.length = 64 := by
        rw [hop1, splice_length _ _ _ (by rw [List.length_take, HOP.out.1]; omega)]
        exact HOP.out.1
      have hput := hashC_put st op mm.length r (q.take n) HOP.out.1 (by rw [List.length_take]; omega)
      rw [← hop1] at hput
      have hsz1 := hashC_size st op1 mm.length hop1l
      have hset1 := hashC_len st op1 mm.length (mm.length + n) hop1l
      have HPUT := Lib.hid hput
      have HST := Lib.hid hst
      have HOP1 := Lib.hid hop1
      have HS1 := Lib.hid hsz1
      have HL1 := Lib.hid hset1
      have HA1 := Lib.hid hA1
      clear hn hput hst hop1 hsz1 hset1
      have hmlen : mm.length + n ≤ m.length + bs.length := by
        rw [HMM.out, List.length_append, List.length_take]
        have := congrArg List.length HQ.out
        rw [List.length_drop] at this
        omega
      have hmb : (mm.length : Int) + n < 1000000000000 := by omega
      have hr2 := HRR.out
      by_cases hfull : r + n = 64
      · have hd2 : (((mm.length : Int) + n) % 64 == 0) = true := by rw [beq_iff_eq]; omega
        clear hr2 hmlen
        go_wp2_with (refine wpL_copyMin rfl (.tmp 18) (.tmp 19) 45 45 rfl 5 Tryz.underlying45 size8 p (8 + r) (64 - r) (64 - r) _ q rfl rfl HBD.out hqne n HN.out _ 90 HHD.out hfit ?_; intro w1 hh1 hf1 hs1; have hH1 : w1.heap[p]? = some (.cells (hashC st op1 mm.length).toArray 90 (0, 0)) := (by rw [← HPUT.out]; exact hh1.out); have hc1 : w1.cell? ⟨p, 72, none⟩ = some (.int .i64 (mm.length : Int)) := (by rw [cell_of_heap hH1, ← HS1.out]; simp); have hfree1 := free_of_heap hH1 72; have HH1 := Lib.hid hH1; clear hH1 hh1)
        obtain ⟨w2, hw2⟩ : ∃ w2, w2 = w1.setCell ⟨p, 72, none⟩ (.int .i64 ((mm.length : Int) + n)) := ⟨_, rfl⟩
        have hH2 : w2.heap[p]? = some (.cells (hashC st op1 (mm.length + n)).toArray 90 (0, 0)) := by
          rw [hw2, heap_setCell_same HH1.out, ← HL1.out]
          simp
        have hf2 : Fr [p] w w2 := by
          rw [hw2]
          exact (hfd.trans hf1 (fun i hi _ => hi) (n := [p]) (fun i hi _ => hi)).trans (Fr.set0 w1 p 72 _) (fun i hi _ => hi) (fun i hi _ => hi)
        have hl8 : (Tryz.prog.info? 65).map (·.size) = some (stC st).toList.length := sizeN8 st
        have hl64 : (Tryz.prog.info? 88).map (·.size) = some (cellsB op1).length := by rw [cellsB_length, hop1l]; exact sizeB64
        rw [← hw2]
        have HW2 := Lib.hid hw2
        have HH2 := Lib.hid hH2
        have HL8 := Lib.hid hl8
        have HL64 := Lib.hid hl64
        have hok : st.ok := by rw [HST.out]; exact absorb_ok _ _
        have HC := Lib.hid (fun wx hx => process_any st op1 wx hok hop1l hx)
        have HRT := Lib.hid (hr.kept hf2 (by simp; omega))
        clear hw2 hH2 hc1 hfree1 hl8 hl64
        refine wp_region_Z [] 12 [(0, false), (1, false), (2, false), (3, false), (4, false), (5, false), (6, false), (7, false), (8, false), (9, true), (10, true), (11, true), (12, true)] 50 rfl (by kernel_rfl) (by kernel_rfl) (by kernel_rfl) (fun c a d v w h => by cases d <;> exact h) (fun w3 hf3 => ?_)
        simp only [List.map_cons, List.map_nil, List.getElem?_toArray, List.getElem?_cons_succ, List.getElem?_cons_zero, Option.getD_some]
        have LH : Hid (Later [] w3 (fun w' => w'.heap[p]? = some (.cells (hashC st op1 (mm.length + n)).toArray 90 (0, 0)))) := Lib.hid (fun w' hf' => hf'.heap (hf3.heap HH2.out (by simp)) (by simp))
        repeat (apply walkZ_t; · (intro w' hf'; first
          | (refine wpList_load_mid rfl 65 _ rfl p 0 rfl (stC st).toList _ (range_of_heap (LH.out w' hf') 0 _ (hashC_state st op1 _)) Tryz.underlying65 rfl HL8.out ?_; exact ⟨rfl, rfl⟩)
          | (refine wpList_load_mid rfl 88 _ rfl p 8 rfl (cellsB op1) _ (range_of_heap (LH.out w' hf') 8 _ (by rw [cellsB_length, hop1l]; exact hashC_open st op1 _ hop1l)) Tryz.underlying88 rfl HL64.out ?_; exact ⟨rfl, rfl⟩)
          | (go_wp2_with fail; exact ⟨rfl, rfl⟩)))
        refine walkZ_x ?_
        go_wp2_with (go_at_call 58; refine (HC.out _ (HRT.out.below hf3)).mono ?_; rintro e w4 ⟨rfl, hf4⟩)
        refine ⟨.inr hf4, rfl, ?_⟩
        refine walkZ_x ?_
        go_wp2_with fail
        refine ⟨Fr.refl _ _, rfl, ?_⟩
        refine walkZ_x ?_
        go_wp2_with fail
        refine ⟨Fr.refl _ _, rfl, ?_⟩
        refine walkZ_x ?_
        have HT4 := Lib.hid (there_of_heap (hf4.heap (LH.out w3 (Fr.refl _ _)) (by simp)) 0 8 (by rw [hashC_length _ _ _ hop1l]; omega))
        go_wp2_with (refine wpList_store_mid rfl 65 _ _ rfl p 0 (stC (blockSt st op1)) rfl rfl HT4.out (sizeN8 _) (stC_one _) ?_)
        refine ⟨rfl, walkZ_end ?_⟩
        go_wp2_with fail
        have e := open_full mm q op n HOP.out hnq (by rw [← HRR.out]; omega)
        rw [← HRR.out, ← HOP1.out] at e
        have hcat : mm ++ q.take n = m ++ bs.take (k + n) := by rw [HMM.out, HQ.out, List.append_assoc, List.take_add]
        have hlen2 : (mm ++ q.take n).length = mm.length + n := by rw [List.length_append, List.length_take]; omega
        have hkn : k + n ≤ bs.length := by
          have := congrArg List.length HQ.out
          rw [List.length_drop] at this
          omega
        have hf5 : Fr [p] w (w4.setCells p 0 (stC (blockSt st op1)).toList) := ((hf2.trans hf3 (fun i hi _ => hi) (n := [p]) (by simp)).trans hf4 (fun i hi _ => hi) (n := [p]) (by simp)).trans (Fr.setCells p _ 0 w4) (fun i hi _ => hi) (fun i hi _ => hi)
        have hown := rest_own a A1 cap n q.length (q.length - n) (cap - n) HA1.out
        have hbr := rest_bytes HA1.out hnq HBD.out
        have hf6 : Fr [p] wd (w4.setCells p 0 (stC (blockSt st op1)).toList) := by
          have g2 : Fr [p] wd w2 := by
            rw [HW2.out]
            exact hf1.trans (Fr.set0 w1 p 72 _) (fun i hi _ => hi) (fun i hi _ => hi)
          exact ((g2.trans hf3 (fun i hi _ => hi) (n := [p]) (by simp)).trans hf4 (fun i hi _ => hi) (n := [p]) (by simp)).trans (Fr.setCells p _ 0 w4) (fun i hi _ => hi) (fun i hi _ => hi)
        go_roundw
        case rel =>
          refine ⟨A1, q.drop n, k + n, cap - n, by rw [List.length_drop], by rw [HQ.out, List.drop_drop], hkn, ?_, ?_, ?_, hf5⟩
          · refine hbr.kept hf6 (fun j hj hne _ => ?_)
            rw [hown] at hj
            have := HPQ.out j hj hqne
            simpa using this
          · intro j hj _
            rw [hown] at hj
            exact HPQ.out j hj hqne
          · rw [← hcat]
            refine ⟨op1, e.1, ?_⟩
            rw [heap_setCells p _ 0 w4 _ (by rw [hashC_length _ _ _ hop1l]; exact (by decide : (0 + 8 ≤ 73))) (hf4.heap (LH.out w3 (Fr.refl _ _)) (by simp)), hashC_turn, e.2, hlen2, ← HST.out]
        case measure => simp only [lenV]; omega
      · have hd2 : (((mm.length : Int) + n) % 64 == 0) = false := by rw [beq_eq_false_iff_ne]; omega
        clear hr2 hmlen
        go_wp2_with (refine wpL_copyMin rfl (.tmp 18) (.tmp 19) 45 45 rfl 5 Tryz.underlying45 size8 p (8 + r) (64 - r) (64 - r) _ q rfl rfl HBD.out hqne n HN.out _ 90 HHD.out hfit ?_; intro w1 hh1 hf1 hs1; have hH1 : w1.heap[p]? = some (.cells (hashC st op1 mm.length).toArray 90 (0, 0)) := (by rw [← HPUT.out]; exact hh1.out); have hc1 : w1.cell? ⟨p, 72, none⟩ = some (.int .i64 (mm.length : Int)) := (by rw [cell_of_heap hH1, ← HS1.out]; simp); have hfree1 := free_of_heap hH1 72; have HH1 := Lib.hid hH1; clear hH1 hh1)
        have e := open_some mm q op n HOP.out hnq (by rw [← HRR.out]; omega)
        rw [← HRR.out, ← HOP1.out] at e
        have hcat : mm ++ q.take n = m ++ bs.take (k + n) := by rw [HMM.out, HQ.out, List.append_assoc, List.take_add]
        have hlen2 : (mm ++ q.take n).length = mm.length + n := by rw [List.length_append, List.length_take]; omega
        have hkn : k + n ≤ bs.length := by
          have := congrArg List.length HQ.out
          rw [List.length_drop] at this
          omega
        have hf2 : Fr [p] w (w1.setCell ⟨p, 72, none⟩ (.int .i64 ((mm.length : Int) + n))) := (hfd.trans hf1 (fun i hi _ => hi) (n := [p]) (fun i hi _ => hi)).trans (Fr.set0 w1 p 72 _) (fun i hi _ => hi) (fun i hi _ => hi)
        have hown := rest_own a A1 cap n q.length (q.length - n) (cap - n) HA1.out
        have hbr := rest_bytes HA1.out hnq HBD.out
        refine ⟨⟨A1, q.drop n, k + n, cap - n, by rw [List.length_drop], by rw [HQ.out, List.drop_drop], hkn, ?_, ?_, ?_, hf2⟩, by simp only [lenV]; omega⟩
        · refine (hbr.kept hf1 (fun j hj hne _ => ?_)).kept (Fr.set0 w1 p 72 _) (fun j hj hne _ => ?_)
          · rw [hown] at hj
            have := HPQ.out j hj hqne
            simpa using this
          · rw [hown] at hj
            have := HPQ.out j hj hqne
            simpa using this
        · intro j hj _
          rw [hown] at hj
          exact HPQ.out j hj hqne
        · rw [← hcat]
          refine ⟨op1, e.1, ?_⟩
          rw [heap_setCell_same HH1.out, e.2, hlen2, ← HST.out, ← HL1.out]
          simp
    · have hd : decide (0 < q.length) = false := decide_eq_false hq0
      go_wp2_with fail
      go_end0
      have hk' : k = bs.length := by have := congrArg List.length HQ.out; simp at this; omega
      have hH := HH.out
      rw [hk', List.take_length] at hH
      exact ⟨rfl, hH, hf⟩
end Go.Proofs.YtjlkcdmeiakkbaaGreatDoor

/-! Slices of byte slices: small laws that hold of every program. Nothing here names the program. -/
namespace Go.Proofs.YtjlkcdmeiakkbaaGreatDoor
open Go.RowKit

/-- The slice sv reads as these slices of bytes. -/
def partsAt (w : World) (sv : Value) (parts : List (List UInt8)) : Prop :=
  ∃ vs : List Value, cellsAt w sv vs ∧ vs.length = parts.length ∧ ∀ i (h : i < vs.length) (h' : i < parts.length), bytesAt w (vs[i]'h) (parts[i]'h')
theorem partsAt.below {w w' : World} {sv : Value} {parts : List (List UInt8)} (h : partsAt w sv parts) (hf : Fr [] w w') : partsAt w' sv parts := by
  obtain ⟨vs, h1, h2, h3⟩ := h
  exact ⟨vs, h1.below hf, h2, fun i hi hi' => (h3 i hi hi').below hf⟩
theorem partsAt.form {w : World} {sv : Value} {parts : List (List UInt8)} (h : partsAt w sv parts) : ∃ a cap, sv = .slice a parts.length cap ∧ parts.length ≤ cap ∧ cap ≤ maxLen := by
  obtain ⟨vs, h1, h2, _⟩ := h
  rw [← h2]; exact h1.form
theorem partsAt.nil (w : World) : partsAt w (.slice none 0 0) [] := ⟨[], cellsAt.nil w, rfl, by simp⟩
theorem partsAt_new1 (w : World) (v : Value) (p : List UInt8) (e : TypeId) (h : bytesAt w v p) : partsAt (w.alloc (.cells #[v] e)) (.slice (some ⟨w.heap.size, 0, none⟩) 1 1) [p] :=
  ⟨[v], cellsAt_new w [v] e 1 rfl (by simp [maxLen]), rfl, fun i hi hi' => by
    obtain rfl : i = 0 := by simp at hi; exact hi
    exact h.below (Fr.alloc _ _)⟩
theorem partsAt_new2 (w : World) (v u : Value) (p q : List UInt8) (e : TypeId) (h : bytesAt w v p) (k : bytesAt w u q) : partsAt (w.alloc (.cells #[v, u] e)) (.slice (some ⟨w.heap.size, 0, none⟩) 2 2) [p, q] :=
  ⟨[v, u], cellsAt_new w [v, u] e 2 rfl (by simp [maxLen]), rfl, fun i hi hi' => by
    match i, hi with
    | 0, _ => exact h.below (Fr.alloc _ _)
    | 1, _ => exact k.below (Fr.alloc _ _)⟩
/-- One of them: where its cell lies, and what it reads as. -/
theorem partsAt.get {w : World} {a : Option Addr} {n cap : Nat} {parts : List (List UInt8)} (h : partsAt w (.slice a n cap) parts) {i : Nat} (hi : i < parts.length) :
    ∃ b off v, a = some ⟨b, off, none⟩ ∧ w.cell? ⟨b, off + i, none⟩ = some v ∧ bytesAt w v (parts[i]'hi) := by
  obtain ⟨vs, h1, h2, h3⟩ := h
  obtain ⟨b, off, rfl, -, hc⟩ := h1.get (i := i) (by omega)
  exact ⟨b, off, vs[i]'(by omega), rfl, hc i (by omega), h3 i (by omega) hi⟩
theorem flat_take_succ (parts : List (List UInt8)) (k : Nat) (h : k < parts.length) : (parts.take (k + 1)).flatten = (parts.take k).flatten ++ (parts[k]'h) := by
  rw [List.take_succ_eq_append_getElem h, List.flatten_append]; simp
end Go.Proofs.YtjlkcdmeiakkbaaGreatDoor

/-! Contracts of package sha: Sum, Of. -/
namespace Go.Proofs.YtjlkcdmeiakkbaaGreatDoor
open Go.RowKit

def zeroHash : Array Value := (hashC zeroSt (List.replicate 64 0) 0).toArray
theorem infoHash : (Tryz.prog.info? 90).map (fun i => i.zero) = some (some (.agg zeroHash)) := by kernel_rfl
theorem hashA_size (st : St) (op : List UInt8) (n : Nat) (h : op.length = 64) : (hashC st op n).toArray.size = 73 := by
  rw [List.size_toArray, hashC_length st op n h]
theorem hashA_one (st : St) (op : List UInt8) (n : Nat) : (hashC st op n).toArray.all (·.oneCell') = true := by
  rw [Array.all_eq_true_iff_forall_mem]
  intro x hx
  have hx' : x ∈ (stC st).toList ∨ x ∈ cellsB op ∨ x = .int .i64 (n : Int) := by simpa [hashC] using hx
  rcases hx' with h | h | h
  · exact (Array.all_eq_true_iff_forall_mem.1 (stC_one st)) x (by simpa using h)
  · exact cellsB_one op x h
  · rw [h]; rfl

set_option maxRecDepth 100000 in
theorem sum_any (p : Nat) (m : List UInt8) (w : World) (h : isH w p m) (hr : rootsAt w) (hlen : m.length < 900000000000) :
    Calls Tryz.prog 28 #[.pointer (some ⟨p, 0, none⟩)] w fun e w' => e = .returned (.agg (cellsB (hashN m)).toArray) ∧ Fr [] w w' := by
  have hp := h.lt
  obtain ⟨op, hop, hheap⟩ := h
  obtain ⟨Z, hZ⟩ : ∃ Z, Z = (cellsB (List.replicate 32 0)).toArray := ⟨_, rfl⟩
  have hiz := infoB32
  have hZs : Z.size = (cellsB (hashN m)).toArray.size := by rw [hZ]; simp [cellsB, hashN_length]
  rw [← hZ] at hiz
  obtain ⟨H0, hH0⟩ : ∃ H0, H0 = zeroHash := ⟨_, rfl⟩
  have hih := infoHash
  rw [← hH0] at hih
  obtain ⟨C, hC⟩ : ∃ C, C = (hashC (absorb (m.length / 64) m) op m.length).toArray := ⟨_, rfl⟩
  have hszC : C.size = 73 := by rw [hC, hashA_size _ _ _ hop.1]
  have hszH : (Tryz.prog.info? 90).map (·.size) = some C.size := by rw [hszC]; exact sizeHash
  have hold : H0.size = C.size := by rw [hszC, hH0, zeroHash, hashA_size _ _ _ (by simp)]
  have hone : C.all (·.oneCell') = true := by rw [hC]; exact hashA_one _ _ _
  rw [← hC] at hheap
  have hcell : ∀ w' : World, w'.heap[p]? = some (.cells C 90 (0, 0)) → w'.cell? ⟨p, 72, none⟩ = some (.int .i64 (m.length : Int)) := by
    intro w' hw'
    rw [cell_of_heap hw', hC, ← hashC_size (absorb (m.length / 64) m) op m.length hop.1]
    simp
  have HI := Lib.hid hiz
  have HIH := Lib.hid hih
  have HZS := Lib.hid hZs
  have HSH := Lib.hid hszH
  have HOLD := Lib.hid hold
  have HONE := Lib.hid hone
  have HCELL := Lib.hid hcell
  have HC := Lib.hid hC
  have HOP := Lib.hid hop
  have HH := Lib.hid hheap
  have HR := Lib.hid hr
  clear hZ hiz hZs hih hH0 hszH hold hone hcell hC hop hheap hr hszC
  obtain ⟨st, hst⟩ : ∃ st, st = absorb ((padded m).length / 64) (padded m) := ⟨_, rfl⟩
  have hsum : hashN m = encSt st := by rw [hst]; rfl
  rw [hsum] at HZS ⊢
  have hl8 : (Tryz.prog.info? 65).map (·.size) = some (stC st).toList.length := sizeN8 st
  have hl32 : (Tryz.prog.info? 28).map (·.size) = some (cellsB (encSt st)).toArray.size := by rw [bytesC_size, encSt_length]; exact sizeB32
  have HST := Lib.hid hst
  have HL8 := Lib.hid hl8
  have HL32 := Lib.hid hl32
  have HON := Lib.hid (bytesC_one (encSt st))
  clear hst hsum hl8 hl32
  obtain ⟨E, hE⟩ : ∃ E, E = (cellsB (encSt st)).toArray := ⟨_, rfl⟩
  have HE := Lib.hid (fun wx => encode_any st wx)
  rw [← hE] at HZS HL32 HON HE ⊢
  clear hE
  go_enter Tryz.func28, Tryz.ntmps28
  go_wp2_with (first
    | (refine wpL_newArr rfl 28 rfl Z HI.out ?_; intro w1 hh1 hf1 hs1)
    | (refine wpList_load_row rfl 90 _ rfl p rfl 90 C (0, 0) _ (hf1.heap HH.out (by simp)) Tryz.underlying90 rfl HSH.out ?_)
    | (refine wpL_newArr rfl 90 rfl H0 HIH.out ?_; intro w2 hh2 hf2 hs2; refine wpL_storeArr rfl 90 (.tmp 3) (.tmp 9) rfl w1.heap.size C H0 rfl rfl 90 hh2.out HSH.out HOLD.out HONE.out ?_; intro w3 hh3 hf3 hs3; have hc3 := HCELL.out w3 (hf3.heap (hf2.heap (hf1.heap HH.out (by simp)) (by simp)) (by simp; have := hs1.out; omega)))
    | (go_at_call 59; refine (fill_any m.length w3 (by omega)).mono ?_; rintro e w4 ⟨rfl, hh4, hf4⟩))
  have hn1 : w.heap.size < w1.heap.size := by have := hs1.out; omega
  have hz23 := hf3.size
  have hz12 : w1.heap.size < w2.heap.size := by have := hs2.out; omega
  have hz34 := hf4.size
  have hpos := HR.out.pos
  have hgp : w1.heap.size ≠ p := by omega
  have hg3 : w3.heap[w1.heap.size]? = some (.cells C 90 (0, 0)) := hh3.out
  have hisH : isH w4 w1.heap.size m := ⟨op, HOP.out, by rw [← HC.out]; exact hf4.heap hg3 (by simp)⟩
  have hfr1 : Fr [] w w3 := (hf1.trans hf2 (by simp) (n := []) (by simp)).trans hf3 (by simp) (by simp; omega)
  have hfr4 : Fr [] w w4 := hfr1.trans hf4 (by simp) (by simp)
  have hfl := fillN_length m.length
  have hby : bytesAt w4 (.slice (some ⟨w3.heap.size, 0, none⟩) (zerosN m.length + 9) (zerosN m.length + 9)) (fillN m.length) := bytesAt_of_heap hh4 (by have := fill_le m.length; simp [maxLen]; omega) _ hfl.symm
  have hpa := HR.out.below hfr4
  have HW := Lib.hid (write_any w1.heap.size m (fillN m.length) _ w4 hisH hby (fun j hj _ => by simp [Value.ownBlock] at hj; omega) hpa (by omega) (by have := fill_le m.length; omega))
  have hg0 : w4.heap[w.heap.size]? = some (.cells Z 28 (0, 0)) := hf4.heap (hf3.heap (hf2.heap hh1.out (by simp)) (by simp; omega)) (by simp)
  have HG0 := Lib.hid hg0
  clear hg0 hby hisH hpa hg3 hh1 hh2 hh3 hh4 hc3
  go_wp2_with (first
    | (go_at_call 27; refine HW.out.mono ?_; rintro e w5 ⟨rfl, hH5, hf5⟩; obtain ⟨op5, hop5, hheap5⟩ := hH5; have HH5 : Hid (w5.heap[w1.heap.size]? = some (.cells (hashC st op5 (padded m).length).toArray 90 (0, 0))) := (by rw [HST.out]; exact Lib.hid hheap5); clear hheap5 hop5)
    | (refine wpList_load_mid rfl 65 _ rfl w1.heap.size 0 rfl (stC st).toList _ (range_of_heap HH5.out 0 _ (hashC_state st op5 _)) Tryz.underlying65 rfl HL8.out ?_)
    | (go_at_call 60; refine (HE.out w5).mono ?_; rintro e w6 ⟨rfl, hf6⟩)
    | (refine wpL_storeArr rfl 28 (.tmp 2) (.tmp 18) rfl w.heap.size E Z rfl rfl 28 (hf6.heap (hf5.heap HG0.out (by simp; omega)) (by simp)) HL32.out HZS.out HON.out ?_; intro w7 hh7 hf7 hs7))
  have hfr5 : Fr [] w w5 := hfr4.trans hf5 (by simp) (by simp; omega)
  refine bodyPost_ret (v := .agg E) ?_ rfl ⟨rfl, (hfr5.trans hf6 (by simp) (n := []) (by simp)).trans hf7 (by simp) (by simp)⟩
  exact results_cell_row rfl _ _ w.heap.size 28 E (0, 0) _ rfl hh7.out Tryz.underlying28 rfl HL32.out
end Go.Proofs.YtjlkcdmeiakkbaaGreatDoor

/-! Contract of package sha's Of. -/
namespace Go.Proofs.YtjlkcdmeiakkbaaGreatDoor
open Go.RowKit

def OfRel (parts : List (List UInt8)) (p g : Nat) (Z : Array Value) (w : World) (i : Value) (wr : World) : Prop :=
  ∃ k : Nat, k ≤ parts.length ∧ i = .int .i64 (k : Int) ∧ isH wr p (parts.take k).flatten ∧ wr.heap[g]? = some (.cells Z 28 (0, 0)) ∧ Fr [] w wr
theorem flat_take_le (parts : List (List UInt8)) (k : Nat) : (parts.take k).flatten.length ≤ parts.flatten.length := by
  have h : parts.flatten = (parts.take k).flatten ++ (parts.drop k).flatten := by rw [← List.flatten_append, List.take_append_drop]
  rw [h, List.length_append]
  omega
set_option maxRecDepth 100000 in
theorem of_any (parts : List (List UInt8)) (sv : Value) (w : World) (h : partsAt w sv parts) (hr : rootsAt w) (hlen : parts.flatten.length < 800000000000) :
    Calls Tryz.prog 12 #[sv] w fun e w' => e = .returned (.agg (cellsB (hashN parts.flatten)).toArray) ∧ Fr [] w w' := by
  obtain ⟨a0, c0, rfl, hle, hmx⟩ := h.form
  simp only [maxLen] at hmx
  obtain ⟨Z, hZ⟩ : ∃ Z, Z = (cellsB (List.replicate 32 0)).toArray := ⟨_, rfl⟩
  have hiz := infoB32
  have hZs : Z.size = (cellsB (hashN parts.flatten)).toArray.size := by rw [hZ]; simp [cellsB, hashN_length]
  rw [← hZ] at hiz
  have hl32 : (Tryz.prog.info? 28).map (·.size) = some (cellsB (hashN parts.flatten)).toArray.size := by rw [bytesC_size, hashN_length]; exact sizeB32
  have HON := Lib.hid (bytesC_one (hashN parts.flatten))
  obtain ⟨E, hE⟩ : ∃ E, E = (cellsB (hashN parts.flatten)).toArray := ⟨_, rfl⟩
  rw [← hE] at hZs hl32 HON ⊢
  have HI := Lib.hid hiz
  have HZS := Lib.hid hZs
  have HL32 := Lib.hid hl32
  have HE := Lib.hid hE
  have HR := Lib.hid hr
  clear hZ hiz hZs hl32 hE hr
  go_enter Tryz.func12, Tryz.ntmps12
  go_wp2_with (first
    | (refine wpL_newArr rfl 28 rfl Z HI.out ?_; intro w1 hh1 hf1 hs1)
    | (go_at_call 26; refine (new_any w1).mono ?_; rintro e w2 ⟨v, rfl, p, rfl, hp, hH, hf2⟩))
  have hpw : w.heap.size < p := by have := hs1.out; omega
  have hg := hf2.heap hh1.out (by simp)
  have hf02 : Fr [] w w2 := hf1.trans hf2 (by simp) (by simp)
  have hpos := HR.out.pos
  clear hh1 hf1 hs1 hf2 hp
  go_loopw [9] (OfRel parts p w.heap.size Z w) (fun i _ => parts.length - (intOf i).toNat)
  case atStart => exact ⟨0, Nat.zero_le _, rfl, by simpa using hH, hg, hf02⟩
  case round =>
    clear hH hg
    obtain ⟨k, hk, rfl, hH, hg, hf⟩ := hrel
    by_cases hkn : k < parts.length
    · have hd : decide (k < parts.length) = true := decide_eq_true hkn
      obtain ⟨b, off, v, rfl, hc0, hb0⟩ := h.get hkn
      have hc := hf.cell hc0 (by simp)
      have hb := hb0.below hf
      have hlt := hb0.lt
      have hnext := flat_take_succ parts k hkn
      have hsz : ((parts.take k).flatten ++ (parts[k]'hkn)).length < 800000000000 := by rw [← hnext]; exact Nat.lt_of_le_of_lt (flat_take_le parts (k + 1)) hlen
      obtain ⟨q, hq⟩ : ∃ q, q = parts[k]'hkn := ⟨_, rfl⟩
      rw [← hq] at hb hlt hnext hsz
      rw [List.length_append] at hsz
      have HW := Lib.hid (write_any p _ q v wr hH hb (fun j hj hne => by have := hlt hne j hj; omega) (HR.out.below hf) (by omega) (by omega))
      have HN := Lib.hid hnext
      have HG := Lib.hid hg
      clear hc0 hb0 hb hlt hnext hq hsz hg
      go_wp2_with (go_at_call 27; refine HW.out.mono ?_; rintro e w3 ⟨rfl, hH3, hf3⟩)
      exact ⟨⟨k + 1, by omega, by go_num, by rw [HN.out]; exact hH3, hf3.heap HG.out (by simp; omega), hf.trans hf3 (by simp) (by simp; omega)⟩, by simp [intOf]; omega⟩
    · have hd : decide (k < parts.length) = false := decide_eq_false hkn
      rw [show k = parts.length from by omega, List.take_length] at hH
      have HS := Lib.hid (sum_any p parts.flatten wr hH (HR.out.below hf) (by omega))
      rw [← HE.out] at HS
      have HG := Lib.hid hg
      clear hg
      go_wp2_with (first
        | (go_at_call 28; refine HS.out.mono ?_; rintro e w3 ⟨rfl, hf3⟩)
        | (refine wpL_storeArr rfl 28 (.tmp 2) (.tmp 18) rfl w.heap.size E Z rfl rfl 28 (hf3.heap HG.out (by simp)) HL32.out HZS.out HON.out ?_; intro w4 hh4 hf4 hs4))
      refine bodyPost_ret (v := .agg E) ?_ rfl ⟨rfl, (hf.trans hf3 (by simp) (n := []) (by simp)).trans hf4 (by simp) (by simp)⟩
      exact results_cell_row rfl _ _ w.heap.size 28 E (0, 0) _ rfl hh4.out Tryz.underlying28 rfl HL32.out
end Go.Proofs.YtjlkcdmeiakkbaaGreatDoor
