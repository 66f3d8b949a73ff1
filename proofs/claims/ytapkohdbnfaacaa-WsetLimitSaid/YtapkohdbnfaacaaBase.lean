/- Worlds, frames and rows of bytes: small laws that hold of every program. Nothing here names the program. -/
import Derived.WalkKit
import Derived.WalkSpells
import Derived.Laws.CopyOwn
import Derived.Laws.BytesArg
import Derived.Lib.Hide
import Derived.Lib.AppendZerosOnto
set_option linter.unusedVariables false
set_option linter.unusedSimpArgs false
namespace Go.Proofs.Ytapkohdbnfaacaa
open Go.RowKit

/-- The call returns a value of which R holds (behind a definition: the walk leaves it as it stands). -/
def Ret (R : Value → World → Prop) (e : Ending) (w : World) : Prop := ∃ v, e = .returned v ∧ R v w
theorem Ret.mk {R : Value → World → Prop} {w : World} {v : Value} (h : R v w) : Ret R (.returned v) w := ⟨v, rfl, h⟩

/-- Of the blocks that were there only those of the list may have changed. -/
structure Fr (l : List Nat) (w w' : World) : Prop where
  os : w'.os = w.os
  tape : w'.tape = w.tape
  output : w'.output = w.output
  size : w.heap.size ≤ w'.heap.size
  block : ∀ k, k < w.heap.size → k ∉ l → w'.heap[k]? = w.heap[k]?

theorem Fr.refl (l : List Nat) (w : World) : Fr l w w := ⟨rfl, rfl, rfl, Nat.le_refl _, fun _ _ _ => rfl⟩
theorem Fr.trans {l m n : List Nat} {a b c : World} (h : Fr l a b) (k : Fr m b c) (hl : ∀ i ∈ l, i < a.heap.size → i ∈ n) (hm : ∀ i ∈ m, i < a.heap.size → i ∈ n) : Fr n a c :=
  ⟨k.os.trans h.os, k.tape.trans h.tape, k.output.trans h.output, Nat.le_trans h.size k.size, fun i hi hn =>
    (k.block i (Nat.lt_of_lt_of_le hi h.size) (fun q => hn (hm i q hi))).trans (h.block i hi (fun q => hn (hl i q hi)))⟩
theorem Fr.mono {l m : List Nat} {a b : World} (h : Fr l a b) (hm : ∀ i ∈ l, i < a.heap.size → i ∈ m) : Fr m a b :=
  ⟨h.os, h.tape, h.output, h.size, fun k hk hn => h.block k hk (fun q => hn (hm k q hk))⟩
theorem Fr.below {l : List Nat} {B : Nat} {a b : World} (h : Fr l a b) (hB : B ≤ a.heap.size) (hl : ∀ i ∈ l, B ≤ i) : Below B a b :=
  ⟨h.os, h.tape, h.output, h.size, fun k hk => h.block k (by omega) (fun q => by have := hl k q; omega)⟩
theorem Fr.of_below {a b : World} (h : Below a.heap.size a b) : Fr [] a b := ⟨h.os, h.tape, h.output, h.size, fun k hk _ => h.block k hk⟩
theorem Fr.of_grown {row : Option Nat} {a b : World} (h : a.grownBy b row) : Fr row.toList a b :=
  ⟨h.os, h.tape, h.output, h.size, fun k hk hn => h.block k hk (fun e => hn (by rw [← e]; simp))⟩
theorem Fr.alloc (w : World) (o : Obj) : Fr [] w (w.alloc o) := ⟨rfl, rfl, rfl, by simp, fun k hk _ => Below.heap_alloc _ _ _ hk⟩
theorem Fr.drew (w : World) : Fr [] w w.drew := ⟨rfl, rfl, rfl, Nat.le_refl _, fun _ _ _ => rfl⟩
theorem Fr.setCell (w : World) (a : Addr) (v : Value) : Fr [a.block] w (w.setCell a v) :=
  ⟨rfl, rfl, rfl, by simp [World.setCell], fun k _ hn => Below.heap_setCell _ _ _ _ (by simpa using hn)⟩
theorem Fr.set0 (w : World) (p i : Nat) (v : Value) : Fr [p] w (w.setCell ⟨p, i, none⟩ v) := Fr.setCell w ⟨p, i, none⟩ v
theorem Fr.setRow (w : World) (g : Nat) (cs : Array Value) : Fr [g] w (w.setRow g cs) :=
  ⟨rfl, rfl, rfl, by simp [World.setRow], fun k _ hn => setRow_other w g k cs (by simpa using hn)⟩
theorem Fr.cell {l : List Nat} {w w' : World} (h : Fr l w w') {p : Addr} {v : Value} (hp : w.cell? p = some v) (hn : p.block ∉ l) : w'.cell? p = some v :=
  (World.cell?_of_block (h.block p.block (World.block_lt_of_cell? w p hp) hn)).trans hp
theorem Fr.heap {l : List Nat} {w w' : World} (h : Fr l w w') {p : Nat} {o : Obj} (hp : w.heap[p]? = some o) (hn : p ∉ l) : w'.heap[p]? = some o :=
  (h.block p (Array.getElem?_eq_some_iff.1 hp).1 hn).trans hp

/-- A block that holds cells and is not frozen: what it gives to a walk. -/
theorem cell_of_heap {w : World} {p : Nat} {cs : Array Value} {t : TypeId} {fr : Nat × Nat} (h : w.heap[p]? = some (.cells cs t fr)) (i : Nat) : w.cell? ⟨p, i, none⟩ = cs[i]? := by
  simp [World.cell?, h]
theorem free_of_heap {w : World} {p : Nat} {cs : Array Value} {t : TypeId} (h : w.heap[p]? = some (.cells cs t (0, 0))) (i : Nat) : w.frozen? ⟨p, i, none⟩ = false := by
  simp [World.frozen?, h]
theorem heap_setCell_same {w : World} {p i : Nat} {cs : Array Value} {t : TypeId} {fr : Nat × Nat} (h : w.heap[p]? = some (.cells cs t fr)) (v : Value) :
    (w.setCell ⟨p, i, none⟩ v).heap[p]? = some (.cells (cs.setIfInBounds i v) t fr) := by
  simp [World.setCell, Array.getElem?_modify, h]

/-- The bytes as cells. -/
def cellsB (bs : List UInt8) : List Value := bs.map fun b => .int .u8 (b.toNat : Int)
theorem cellsB_length (bs : List UInt8) : (cellsB bs).length = bs.length := by simp [cellsB]
theorem cellsB_append (a b : List UInt8) : cellsB (a ++ b) = cellsB a ++ cellsB b := by simp [cellsB]
theorem cellsB_one (bs : List UInt8) : ∀ u ∈ cellsB bs, u.oneCell' = true := by
  intro u hu; obtain ⟨b, _, rfl⟩ := List.mem_map.1 hu; rfl
theorem cellsB_get (bs : List UInt8) (i : Nat) (h : i < bs.length) : (cellsB bs)[i]? = some (.int .u8 ((bs[i]'h).toNat : Int)) := by
  simp [cellsB, h]

/-- The slice v reads as these bytes. -/
def bytesAt (w : World) (v : Value) (bs : List UInt8) : Prop :=
  (∃ a cap, v = .slice a 0 cap ∧ cap ≤ maxLen ∧ bs = []) ∨ ∃ b off cap, v = .slice (some ⟨b, off, none⟩) bs.length cap ∧ bs.length ≤ cap ∧ cap ≤ maxLen ∧
    ∀ i (h : i < bs.length), w.cell? ⟨b, off + i, none⟩ = some (.int .u8 ((bs[i]'h).toNat : Int))

theorem bytesAt.len {w : World} {v : Value} {bs : List UInt8} (h : bytesAt w v bs) : bs.length ≤ maxLen := by
  rcases h with ⟨_, _, _, _, rfl⟩ | ⟨b, off, cap, rfl, h1, h2, _⟩
  · simp
  · omega
theorem bytesAt.form {w : World} {v : Value} {bs : List UInt8} (h : bytesAt w v bs) : ∃ a cap, v = .slice a bs.length cap ∧ bs.length ≤ cap ∧ cap ≤ maxLen := by
  rcases h with ⟨a, cap, rfl, h2, rfl⟩ | ⟨b, off, cap, rfl, h1, h2, _⟩
  · exact ⟨a, cap, rfl, by simp, h2⟩
  · exact ⟨_, cap, rfl, h1, h2⟩
theorem bytesAt.kept {w w' : World} {v : Value} {bs : List UInt8} {l : List Nat} (h : bytesAt w v bs) (hf : Fr l w w') (hn : ∀ k, v.ownBlock = some k → bs ≠ [] → k < w.heap.size → k ∉ l) : bytesAt w' v bs := by
  rcases h with h | ⟨b, off, cap, rfl, h1, h2, h3⟩
  · exact .inl h
  · refine .inr ⟨b, off, cap, rfl, h1, h2, fun i hi => hf.cell (h3 i hi) (hn b rfl (fun e => by subst e; simp at hi) ?_)⟩
    exact World.block_lt_of_cell? w _ (h3 i hi)
theorem bytesAt.below {w w' : World} {v : Value} {bs : List UInt8} (h : bytesAt w v bs) (hf : Fr [] w w') : bytesAt w' v bs := h.kept hf (by simp)
theorem bytesAt.nil (w : World) : bytesAt w (.slice none 0 0) [] := .inl ⟨_, _, rfl, by simp, rfl⟩
theorem bytesAt.lt {w : World} {v : Value} {bs : List UInt8} (h : bytesAt w v bs) (hpos : bs ≠ []) : ∀ k, v.ownBlock = some k → k < w.heap.size := by
  intro k hk
  rcases h with ⟨_, _, _, _, rfl⟩ | ⟨b, off, cap, rfl, h1, h2, h3⟩
  · exact (hpos rfl).elim
  · cases hk
    exact World.block_lt_of_cell? w _ (h3 0 (List.length_pos_iff.2 hpos))
/-- A piece of what reads as bytes. -/
theorem bytesAt.cut {w : World} {a : Option Addr} {cap : Nat} {bs : List UInt8} {lo hi : Nat} (h : bytesAt w (.slice a bs.length cap) bs) (h1 : lo ≤ hi) (h2 : hi ≤ bs.length) :
    bytesAt w (.slice (if cap = lo then a else a.map (·.add (lo * 1))) (hi - lo) (cap - lo)) ((bs.take hi).drop lo) := by
  have hlen : ((bs.take hi).drop lo).length = hi - lo := by simp; omega
  rcases h with ⟨a', c', e, hm, rfl⟩ | ⟨b, off, c, e, h3, h4, h5⟩
  · simp at e; obtain ⟨rfl, rfl⟩ := e
    simp at h2; subst h2; simp at h1; subst h1
    exact .inl ⟨_, _, rfl, by omega, by simp⟩
  · simp at e; obtain ⟨rfl, rfl⟩ := e
    right
    by_cases hc : cap = lo
    · refine ⟨b, off, cap - lo, ?_, by omega, by omega, fun i hi' => ?_⟩
      · rw [if_pos hc, hlen]
      · omega
    · refine ⟨b, off + lo, cap - lo, ?_, by omega, by omega, fun i hi' => ?_⟩
      · rw [if_neg hc, hlen]
        simp [Addr.add]
      · have := h5 (lo + i) (by omega)
        rw [show off + lo + i = off + (lo + i) from by omega, this]
        simp

theorem bytesAt.take {w : World} {a : Option Addr} {cap : Nat} {bs : List UInt8} {n : Nat} (h : bytesAt w (.slice a bs.length cap) bs) (hn : n ≤ bs.length) : bytesAt w (.slice a n cap) (bs.take n) := by
  have := h.cut (lo := 0) (hi := n) (Nat.zero_le _) hn
  simp only [Nat.zero_mul, Nat.sub_zero, List.drop_zero] at this
  have e : (a.map fun x : Addr => x.add 0) = a := by cases a <;> simp [Addr.add]
  rwa [e, ite_self] at this
theorem bytesAt.drop {w : World} {a : Option Addr} {cap : Nat} {bs : List UInt8} {n : Nat} (h : bytesAt w (.slice a bs.length cap) bs) (hn : n ≤ bs.length) (hc : ¬ cap = n) : bytesAt w (.slice (a.map fun x => x.add n) (bs.length - n) (cap - n)) (bs.drop n) := by
  have := h.cut (lo := n) (hi := bs.length) hn (Nat.le_refl _)
  rwa [if_neg hc, Nat.mul_one, List.take_length] at this
theorem bytesAt.empty {w w' : World} {a : Option Addr} {n cap : Nat} {bs : List UInt8} (h : bytesAt w (.slice a n cap) bs) : bytesAt w' (.slice a 0 0) [] := by
  rcases h with ⟨a', c', e, hm, rfl⟩ | ⟨b, off, c, e, h3, h4, h5⟩
  · exact .inl ⟨_, _, rfl, by simp, rfl⟩
  · simp at e; obtain ⟨rfl, -⟩ := e
    exact .inr ⟨b, off, 0, rfl, by simp, by simp, by simp⟩
theorem ownBlock_map {a : Option Addr} {n l c l' c' : Nat} : (Value.slice (a.map fun x => x.add n) l c).ownBlock = (Value.slice a l' c').ownBlock := by
  cases a
  · rfl
  · simp [Value.ownBlock, Addr.add]; split <;> rfl

theorem bytesAt_of_owns {w : World} {base : Nat} {e : TypeId} {v : Value} {bs : List UInt8} (h : w.ownsRow base e 1 v bs.length (cellsB bs)) : bytesAt w v bs := by
  have hc := fun g hg => h.cells (g := g) hg
  rcases h.2 with ⟨rfl, h0⟩ | ⟨g, cap, cur, rfl, hb, hg, hn, hm, hs, ht⟩
  · exact .inl ⟨_, _, rfl, by simp, List.eq_nil_of_length_eq_zero h0⟩
  · refine .inr ⟨g, 0, cap, rfl, hn, hm, fun i hi => ?_⟩
    have := hc g rfl i _ (cellsB_get bs i hi)
    have hadd : (⟨g, 0, none⟩ : Addr).add i = ⟨g, 0 + i, none⟩ := by unfold Addr.add; split <;> simp_all
    rwa [hadd] at this

theorem owns_kept {w w' : World} {base : Nat} {e : TypeId} {size : Nat} {v : Value} {n : Nat} {xs : List Value} {l : List Nat} (h : w.ownsRow base e size v n xs) (hf : Fr l w w') (hn : ∀ k, v.ownBlock = some k → k ∉ l) : w'.ownsRow base e size v n xs := by
  refine ⟨h.1, ?_⟩
  rcases h.2 with h2 | ⟨g, cap, cur, rfl, hb, hg, rest⟩
  · exact .inl h2
  · exact .inr ⟨g, cap, cur, rfl, hb, hf.heap hg (hn g rfl), rest⟩
theorem owns_base {w : World} {base base' : Nat} {e : TypeId} {size : Nat} {v : Value} {n : Nat} {xs : List Value} (h : w.ownsRow base e size v n xs) (hb : ∀ k, v.ownBlock = some k → base' ≤ k) : w.ownsRow base' e size v n xs := by
  refine ⟨h.1, ?_⟩
  rcases h.2 with h2 | ⟨g, cap, cur, rfl, _, rest⟩
  · exact .inl h2
  · exact .inr ⟨g, cap, cur, rfl, hb g rfl, rest⟩

theorem bytesAt_new (w : World) (bs : List UInt8) (e : TypeId) (n : Nat) (hn : n = bs.length) (h : bs.length ≤ maxLen) (cs : Array Value) (hcs : cs = (cellsB bs).toArray) : bytesAt (w.alloc (.cells cs e)) (.slice (some ⟨w.heap.size, 0, none⟩) n n) bs := by
  subst hn hcs
  refine .inr ⟨_, 0, bs.length, rfl, Nat.le_refl _, h, fun i hi => ?_⟩
  rw [cell_of_heap (heap_alloc_new w _)]
  simp [cellsB, hi]

theorem run_conv_bytes {P : Program} {w : World} {v : Value} {bs : List UInt8} (h : bytesAt w v bs) (src e dst : TypeId) (hs : P.underlying src = some (.slice e)) (he : P.underlying e = some (.int .u8)) (hd : P.underlying dst = some .string) :
    (convert src dst v).run P w = .ok (.string ⟨bs.toArray⟩) w := by
  rcases h with ⟨a, cap, rfl, _, rfl⟩ | ⟨b, off, cap, rfl, h1, h2, h3⟩
  · rw [run_convert_bytes_string w src dst e a 0 cap hs he hd]
    cases a with
    | none => simp [Conv.bytesToString, ByteArray.empty, ByteArray.emptyWithCapacity]; rfl
    | some x => rw [run_bytesToString w x 0 cap [] (by simpa using run_loadCells_list (P := P) w x [] (by simp))]; rfl
  · rw [run_convert_bytes_arg w src e hs he b off bs.length cap (bs.map fun b => (b.toNat : Int)) (by simp) (fun i hi => by rw [h3 i hi]; simp [hi]) dst hd]
    simp only [strOfNums, List.map_map]
    rw [show (List.map ((fun n => UInt8.ofNat n.toNat) ∘ fun b : UInt8 => (b.toNat : Int)) bs) = bs from by rw [List.map_congr_left (g := id) (fun b _ => by simp)]; simp]

theorem madeCells_one (z : Value) (n : Nat) : madeCells #[z] n = (List.replicate n z).toArray := by
  apply Array.ext
  · simp [madeCells]
  · intro i h1 h2; simp [madeCells, Nat.mod_one]

/-- 'make([]T, n)', T of one cell: a new row of zeros. -/
theorem wpL_make {P : Program} {w : World} {ops : Array Oper} {rest : List Oper} {o : Oper} {a : Act} {Q : Exit → Act → World → Prop} (hg : o.guard = none) (l c : Operand) (t : TypeId) (hop : o.op = Op.makeSlice t l c)
    (e : TypeId) (i : TypeInfo) (z : Value) (bytes : Nat) (h1 : P.underlying t = some (.slice e)) (h2 : P.info? e = some i) (h3 : i.zero = some z) (h4 : i.size = 1) (h5 : i.bytes = bytes) (hz : z.cells = #[z])
    (n : Nat) (hl : a.eval l = .int .i64 n) (hc : a.eval c = .int .i64 n) (hb : bytes * n ≤ 281474976710656) (hm : n ≤ maxLen)
    (hK : ∀ w', Hid (w'.heap[w.heap.size]? = some (.cells (List.replicate n z).toArray e (0, 0))) → Fr [] w w' → Hid (w'.heap.size = w.heap.size + 1) → wpList P ops Q rest (a.put o.dst (.slice (some ⟨w.heap.size, 0, none⟩) n n)) w') :
    wpList P ops Q (o :: rest) a w := by
  refine wpList_plain hg fun K hK' => ?_
  have h63 : (n : Int) ≤ 9223372036854775807 := by have h := hm; simp [maxLen] at h; omega
  have hb' : (i.bytes : Int) * (n : Int) ≤ 281474976710656 := by
    have h : ((i.bytes * n : Nat) : Int) ≤ 281474976710656 := by rw [h5]; omega
    rwa [Int.natCast_mul] at h
  have hr := run_make (P := P) w t e i z h1 h2 h3 .i64 .i64 n n (by omega) (Int.le_refl _) hb' h63
  simp only [Int.toNat_natCast, h4, Nat.mul_one, hz, madeCells_one] at hr
  unfold Oper.wp
  simp [execOp, hop, hl, hc, hr, Result.andThen]
  exact hK' _ _ (hK _ (heap_alloc_new w _) (Fr.alloc w _) (show (w.alloc _).heap.size = _ by simp))

/-- 'copy(dst, src)', src a row of bytes no longer than dst, dst inside a row that is known whole. -/
theorem wpL_copy {P : Program} {w : World} {ops : Array Oper} {rest : List Oper} {o : Oper} {a : Act} {Q : Exit → Act → World → Prop} (hgd : o.guard = none) (d s : Operand) (dT sT : TypeId)
    (ho : o.op = .call { callee := .builtin .copy, args := #[d, s], argTypes := #[dT, sT] }) (elem : TypeId) (hu : P.underlying dT = some (.slice elem)) (hsz : (P.info? elem).map (·.size) = some 1)
    (dp : Option Addr) (dLen dCap : Nat) (sv : Value) (bs : List UInt8) (hd : a.eval d = .slice dp dLen dCap) (hs : a.eval s = sv) (hb : bytesAt w sv bs) (hle : bs.length ≤ dLen)
    (g off : Nat) (cur : List Value) (t : TypeId) (hg : w.heap[g]? = some (.cells cur.toArray t (0, 0))) (hpos : 0 < bs.length → dp = some ⟨g, off, none⟩) (hfit : off + bs.length ≤ cur.length)
    (h : ∀ w', Hid (w'.heap[g]? = some (.cells (splice cur off (cellsB bs)).toArray t (0, 0))) → Fr [g] w w' → Hid (w'.heap.size = w.heap.size) → wpList P ops Q rest (a.put o.dst (goInt bs.length)) w') :
    wpList P ops Q (o :: rest) a w := by
  by_cases h0 : bs.length = 0
  · obtain rfl : bs = [] := List.eq_nil_of_length_eq_zero h0
    obtain ⟨sp, cap, rfl, -, -⟩ := hb.form
    refine wpList_copy_nothing hgd d s dT sT ho elem hu hsz dp sp dLen dCap 0 cap hd hs (by simp) ?_
    exact h w (show _ = _ by simpa [splice, cellsB] using hg) (Fr.refl _ _) rfl
  · obtain rfl := hpos (by omega)
    rcases hb with ⟨_, _, _, _, rfl⟩ | ⟨b, o2, cap, rfl, h1, h2, h3⟩
    · simp at h0
    · have hsrc : ∀ j v, (cellsB bs)[j]? = some v → w.cell? ((⟨b, o2, none⟩ : Addr).add j) = some v := by
        intro j v hj
        have hjl : j < bs.length := by
          rcases Nat.lt_or_ge j bs.length with q | q
          · exact q
          · rw [List.getElem?_eq_none (by simpa [cellsB] using q)] at hj; cases hj
        have hadd : (⟨b, o2, none⟩ : Addr).add j = ⟨b, o2 + j, none⟩ := by unfold Addr.add; split <;> simp_all
        rw [hadd, h3 j hjl, ← cellsB_get bs j hjl, hj]
      have hle' : Nat.min bs.length dLen = bs.length := Nat.min_eq_left hle
      refine wpList_copy_own hgd d s dT sT ho elem hu hsz g off dLen dCap ⟨b, o2, none⟩ bs.length cap hd hs cur.toArray t hg (cellsB bs) (by rw [hle', cellsB_length]) hsrc (by simpa [cellsB] using hfit) (cellsB_one bs) ?_
      rw [cellsB_length]
      exact h _ (show _ = _ by simpa [splice, cellsB] using setRow_heap w g _ _ t _ hg) (Fr.setRow _ _ _) (show _ = _ by simp [World.setRow])

theorem splice_all (cur cs : List Value) (h : cur.length = cs.length) : splice cur 0 cs = cs := by simp [splice, h]
theorem splice_end (cur cs : List Value) (off : Nat) (h : cur.length = off + cs.length) : splice cur off cs = cur.take off ++ cs := by simp [splice, h]
theorem owns_of_heap {w : World} {g n cap base : Nat} {cur : List Value} {e : TypeId} {xs : List Value} (h : w.heap[g]? = some (.cells cur.toArray e (0, 0))) (hb : base ≤ g) (hc : cur.length = cap) (hn : n ≤ cap) (hm : cap ≤ maxLen) (hx : cur.take n = xs) :
    w.ownsRow base e 1 (.slice (some ⟨g, 0, none⟩) n cap) n xs := by
  refine ⟨by rw [← hx]; simp; omega, .inr ⟨g, cap, cur.toArray, rfl, hb, h, hn, hm, by simp [hc], by simpa using hx⟩⟩

/-- 'append(s, make([]T, k)...)', s full: a new row. -/
theorem wpL_appendZeros {P : Program} {w : World} {ops : Array Oper} {rest : List Oper} {o : Oper} {a : Act} {Q : Exit → Act → World → Prop} (hgd : o.guard = none) (s x : Operand) (t tn : TypeId)
    (ho : o.op = .call { callee := .builtin .append, args := #[s, x], argTypes := #[t, tn] }) (e : TypeId) (i : TypeInfo) (z : Value) (kn : IntKind) (bytes : Nat) (h1 : P.underlying t = some (.slice e)) (htn : P.underlying tn = some (.int kn)) (h2 : P.info? e = some i) (h3 : i.zero = some z) (h4 : i.size = 1) (h5 : i.bytes = bytes) (hz : z.cells = #[z])
    (base : Option Addr) (c : Nat) (olds : List Value) (hold : base = none ∧ olds = [] ∨ ∃ g, base = some ⟨g, 0, none⟩ ∧ w.heap[g]? = some (.cells olds.toArray e (0, 0))) (hlen : olds.length = c)
    (k : Nat) (hs : a.eval s = .slice base c c) (hx : a.eval x = .int .i64 k) (h0 : 0 < k) (hb : (c + k) * bytes ≤ 140737488355328) (hm : c + k ≤ maxLen)
    (h : ∀ w' ncap cur, c + k ≤ ncap → ncap ≤ maxLen → Hid (w'.heap[w.heap.size]? = some (.cells (olds ++ cur).toArray e (0, 0))) → Hid ((olds ++ cur).length = ncap) → Fr [] w w' → Hid (w'.heap.size = w.heap.size + 1) → wpList P ops Q rest (a.put o.dst (.slice (some ⟨w.heap.size, 0, none⟩) (c + k) ncap)) w') :
    wpList P ops Q (o :: rest) a w := by
  have hold' : (Builtin.firstCells i.size c (.slice base c c)).run P w.drew = .ok olds.toArray w.drew := by
    rcases hold with ⟨rfl, rfl⟩ | ⟨g, rfl, hg⟩
    · simp [Builtin.firstCells]
    · have := run_loadCells_list (P := P) w.drew ⟨g, 0, none⟩ olds (fun j v hj => by
        have hadd : (⟨g, 0, none⟩ : Addr).add j = ⟨g, 0 + j, none⟩ := by unfold Addr.add; split <;> simp_all
        rw [hadd]
        have hg' : w.drew.heap[g]? = some (.cells olds.toArray e (0, 0)) := hg
        rw [cell_of_heap hg']
        simpa using hj)
      rw [hlen] at this
      simpa [Builtin.firstCells, h4] using this
  have hm' : ((c + k : Nat) : Int) ≤ 9223372036854775807 := by simp only [maxLen] at hm; omega
  have hkb : k * i.bytes ≤ 281474976710656 := by
    rw [h5]; have := Nat.mul_le_mul_right bytes (Nat.le_add_left k c); omega
  have hr := Lib.run_append_grow_zeros (P := P) w t tn o.type e i z .i64 kn h1 htn h2 h3 base c c olds hold' k h0 (by omega) (by omega) hm' hkb
    (growslice_fits (by omega) (by rw [h5]; exact hb))
  have hge := grownCap_ge w (c + k) c e
  have hle := grownCap_le_maxLen w (c + k) c e hm
  refine Lib.wpList_append_run w hgd s x t tn ho _ _ hs hx _ _ hr ?_
  have hzc : ∀ n, (Builtin.zeroCells z.cells n).size = n := fun n => by rw [size_zeroCells, hz]; simp
  refine h _ (grownCap w (c + k) c e) ((Builtin.zeroCells z.cells k ++ Builtin.zeroCells z.cells (grownCap w (c + k) c e - (c + k))).toList) hge hle ?_ ?_ ?_ ?_
  · show _ = _
    refine (heap_alloc_new w.drew _).trans ?_
    simp
  · show _ = _
    simp only [List.length_append, Array.length_toList, Array.size_append, hzc, hlen]; omega
  · exact (Fr.drew w).trans (Fr.alloc _ _) (by simp) (by simp)
  · show _ = _
    simp

/-- A slice whose elements are 'sz' cells each. -/
def elemsAt (w : World) (v : Value) (sz : Nat) (xs : List (List Value)) : Prop :=
  (∃ a cap, v = .slice a 0 cap ∧ cap ≤ maxLen ∧ xs = []) ∨ ∃ b off cap, v = .slice (some ⟨b, off, none⟩) xs.length cap ∧ xs.length ≤ cap ∧ cap ≤ maxLen ∧ b < w.heap.size ∧
    ∀ i (h : i < xs.length), (xs[i]'h).length = sz ∧ ∀ j u, (xs[i]'h)[j]? = some u → w.cell? ⟨b, off + i * sz + j, none⟩ = some u
theorem elemsAt.form {w : World} {v : Value} {sz : Nat} {xs : List (List Value)} (h : elemsAt w v sz xs) : ∃ a cap, v = .slice a xs.length cap ∧ xs.length ≤ cap ∧ cap ≤ maxLen := by
  rcases h with ⟨a, cap, rfl, h1, rfl⟩ | ⟨b, off, cap, rfl, h1, h2, _⟩
  · exact ⟨a, cap, rfl, by simp, h1⟩
  · exact ⟨_, cap, rfl, h1, h2⟩
theorem elemsAt.kept {w w' : World} {v : Value} {sz : Nat} {xs : List (List Value)} {l : List Nat} (h : elemsAt w v sz xs) (hf : Fr l w w') (hn : ∀ k, v.ownBlock = some k → xs ≠ [] → k < w.heap.size → k ∉ l) : elemsAt w' v sz xs := by
  rcases h with h | ⟨b, off, cap, rfl, h1, h2, hb, h3⟩
  · exact .inl h
  · refine .inr ⟨b, off, cap, rfl, h1, h2, Nat.lt_of_lt_of_le hb hf.size, fun i hi => ⟨(h3 i hi).1, fun j u hu => hf.cell ((h3 i hi).2 j u hu) (hn b rfl (fun e => by subst e; simp at hi) hb)⟩⟩
theorem elemsAt.below {w w' : World} {v : Value} {sz : Nat} {xs : List (List Value)} (h : elemsAt w v sz xs) (hf : Fr [] w w') : elemsAt w' v sz xs := h.kept hf (by simp)
theorem elemsAt.lt {w : World} {v : Value} {sz : Nat} {xs : List (List Value)} (h : elemsAt w v sz xs) (hpos : xs ≠ []) : ∀ k, v.ownBlock = some k → k < w.heap.size := by
  intro k hk
  rcases h with ⟨_, _, _, _, rfl⟩ | ⟨b, off, cap, rfl, h1, h2, hb, h3⟩
  · exact (hpos rfl).elim
  · cases hk; exact hb

theorem bytesAt.cells {w : World} {sv : Value} {bs : List UInt8} (h : bytesAt w sv bs) (hne : bs ≠ []) : ∃ a cap, sv = .slice (some a) bs.length cap ∧ ∀ j u, (cellsB bs)[j]? = some u → w.cell? (a.add j) = some u := by
  rcases h with ⟨_, _, _, _, rfl⟩ | ⟨b, off, cap, rfl, h1, h2, h3⟩
  · exact (hne rfl).elim
  · refine ⟨_, _, rfl, fun j u hj => ?_⟩
    have hjl : j < bs.length := by
      rcases Nat.lt_or_ge j bs.length with q | q
      · exact q
      · rw [List.getElem?_eq_none (by simpa [cellsB] using q)] at hj; cases hj
    have hadd : (⟨b, off, none⟩ : Addr).add j = ⟨b, off + j, none⟩ := by unfold Addr.add; split <;> simp_all
    rw [hadd, h3 j hjl, ← cellsB_get bs j hjl, hj]

/-- 'append(v, bs...)' onto an owned row of bytes: the same row, or a new one. -/
theorem run_append_bytes {P : Program} {w : World} (base : Nat) (t ty e : TypeId) (i : TypeInfo) (z : Value) (ht : P.underlying t = some (.slice e)) (hi : P.info? e = some i) (hz : i.zero = some z) (h4 : i.size = 1) (h5 : i.bytes = 1) (hzc : z.cells = #[z])
    (v : Value) (xs : List UInt8) (hown : w.ownsRow base e 1 v xs.length (cellsB xs)) (sv : Value) (bs : List UInt8) (hb : bytesAt w sv bs) (hsum : xs.length + bs.length ≤ 140737488355328) (hbase : base ≤ w.heap.size) :
    ∃ v' w', (Builtin.append_ #[t, t] ty #[v, sv]).run P w = .ok v' w' ∧ w'.ownsRow base e 1 v' (xs ++ bs).length (cellsB (xs ++ bs)) ∧ Fr v.ownBlock.toList w w' ∧ (v'.ownBlock = v.ownBlock ∨ v'.ownBlock = some w.heap.size) := by
  by_cases hne : bs = []
  · subst hne
    obtain ⟨a, cap, rfl, -, -⟩ := hb.form
    refine ⟨v, w, ?_, by simpa using hown, Fr.refl _ _, .inl rfl⟩
    have hf : ∀ n : Nat, n = 0 → (Builtin.firstCells i.size n (.slice a n cap)).run P w = .ok #[] w := by
      intro n hn
      subst hn
      cases a with
      | none => simp [Builtin.firstCells]
      | some x => simpa using run_firstCells_some (P := P) w i.size 0 x 0 cap [] (by simp) (by simp)
    have hf0 := hf 0 rfl
    rcases hown.2 with ⟨rfl, _⟩ | ⟨g, cap', cur, rfl, _, _, hle, _⟩
    · simp [Builtin.append_, run_underlying ht, sizeOf, typeInfo, hi, Builtin.lenOf, hf0]
    · simp [Builtin.append_, run_underlying ht, sizeOf, typeInfo, hi, Builtin.lenOf, hf0, hle, storeCells]
  · obtain ⟨a, cap, rfl, hcells⟩ := hb.cells hne
    have hm63 : xs.length + bs.length ≤ maxLen := by simp [maxLen]; omega
    obtain ⟨v', w', hr, ho, hg, -⟩ := run_append_own (P := P) w base t ty e i z 1 1 ht hi hz h4 h5 (by rw [hzc]; rfl) (by omega) v xs.length (cellsB xs) hown a bs.length cap (cellsB bs) (by simp [cellsB]) hcells (cellsB_one bs) hm63 (by omega) hbase
    refine ⟨v', w', hr, by rw [cellsB_append, List.length_append]; exact ho, Fr.of_grown hg, ?_⟩
    have hbp : 0 < bs.length := List.length_pos_iff.2 hne
    rcases hown.2 with ⟨rfl, h0⟩ | ⟨g, cap', cur, rfl, _, hgh, hle, _, hcs, htk⟩
    · have h2 := run_append_nil (P := P) w t ty e i z ht hi hz a bs.length cap (cellsB bs) (by simp [cellsB, h4]) hcells hbp (by omega) (by rw [h5]; omega)
      rw [hr] at h2
      cases h2
      exact .inr rfl
    · by_cases hroom : xs.length + bs.length ≤ cap'
      · have h2 := run_append_room (P := P) w t ty e i ht hi g xs.length cap' cur hgh a bs.length cap (cellsB bs) (by simp [cellsB, h4]) hcells (cellsB_one bs) hroom (by rw [h4, cellsB_length]; omega)
        rw [hr] at h2
        cases h2
        exact .inl rfl
      · have h2 := run_append_grow (P := P) w t ty e i z ht hi hz ⟨g, 0, none⟩ xs.length cap' (cellsB xs) (by simp [cellsB, h4]) (hown.cells (g := g) rfl) a bs.length cap (cellsB bs) (by simp [cellsB, h4]) hcells (by omega) (by omega) (growslice_fits (by omega) (by rw [h5]; omega))
        rw [hr] at h2
        cases h2
        exact .inr rfl

theorem wpL_append {P : Program} {w : World} {ops : Array Oper} {rest : List Oper} {o : Oper} {a : Act} {Q : Exit → Act → World → Prop} (hgd : o.guard = none) (s x : Operand) (t : TypeId)
    (ho : o.op = .call { callee := .builtin .append, args := #[s, x], argTypes := #[t, t] }) (base : Nat) (e : TypeId) (i : TypeInfo) (z : Value) (ht : P.underlying t = some (.slice e)) (hi : P.info? e = some i) (hz : i.zero = some z) (h4 : i.size = 1) (h5 : i.bytes = 1) (hzc : z.cells = #[z])
    (v : Value) (xs : List UInt8) (hs : a.eval s = v) (hown : w.ownsRow base e 1 v xs.length (cellsB xs)) (sv : Value) (bs : List UInt8) (hx : a.eval x = sv) (hb : bytesAt w sv bs) (hsum : xs.length + bs.length ≤ 140737488355328) (hbase : base ≤ w.heap.size)
    (h : ∀ v' w', w'.ownsRow base e 1 v' (xs ++ bs).length (cellsB (xs ++ bs)) → Fr v.ownBlock.toList w w' → (v'.ownBlock = v.ownBlock ∨ v'.ownBlock = some w.heap.size) → wpList P ops Q rest (a.put o.dst v') w') : wpList P ops Q (o :: rest) a w := by
  obtain ⟨v', w', hr, h1, h2, h3⟩ := run_append_bytes (P := P) base t o.type e i z ht hi hz h4 h5 hzc v xs hown sv bs hb hsum hbase
  exact Lib.wpList_append_run w hgd s x t t ho _ _ hs hx _ _ hr (h v' w' h1 h2 h3)

end Go.Proofs.Ytapkohdbnfaacaa
