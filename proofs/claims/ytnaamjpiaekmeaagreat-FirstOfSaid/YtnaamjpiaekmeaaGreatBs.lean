/- Several texts in one: Base, Row, Own, Kit, Region, RegionF, RegionN, RegionZ, RegionY, RegionQ, Fill, RegM, RegionX. -/
import Derived.WalkKit
import Derived.WalkSpells
import Derived.Laws.CopyOwn
import Derived.Laws.BytesArg
import Derived.Lib.Hide
import Derived.Lib.AppendZerosOnto
import Derived.Maps.AppendAt
import Derived.BigQuiet
import Derived.OrdersHeld
import Derived.RegionTactic
import Derived.Test.YtnaamjpiaekmeaaGreatProg
set_option linter.unusedVariables false
set_option linter.unusedSimpArgs false
namespace Go.Proofs.YtnaamjpiaekmeaaGreat
open Go.RowKit
def Ret (R : Value → World → Prop) (e : Ending) (w : World) : Prop := ∃ v, e = .returned v ∧ R v w
theorem Ret.mk {R : Value → World → Prop} {w : World} {v : Value} (h : R v w) : Ret R (.returned v) w := ⟨v, rfl, h⟩
structure Fr (l : List Nat) (w w' : World) : Prop where
 os : w'.os = w.os
 tape : w'.tape = w.tape
 output : w'.output = w.output
 size : w.heap.size ≤ w'.heap.size
 block : ∀ k, k < w.heap.size → k ∉ l → w'.heap[k]? = w.heap[k]?
theorem Fr.refl (l : List Nat) (w : World) : Fr l w w := ⟨rfl, rfl, rfl, Nat.le_refl _, fun _ _ _ => rfl⟩
theorem Fr.trans {l m n : List Nat} {a b c : World} (h : Fr l a b) (k : Fr m b c) (hl : ∀ i ∈ l, i < a.heap.size → i ∈ n) (hm : ∀ i ∈ m, i < a.heap.size → i ∈ n) : Fr n a c :=
 ⟨k.os.trans h.os, k.tape.trans h.tape, k.output.trans h.output, Nat.le_trans h.size k.size, fun i hi hn =>
  (k.block i (Nat.lt_of_lt_of_le hi h.size) (fun q => hn (hm i q hi))).trans (h.block i hi (fun q => hn (hl i q hi)))⟩
theorem Fr.mono {l m : List Nat} {a b : World} (h : Fr l a b) (hm : ∀ i ∈ l, i < a.heap.size → i ∈ m) : Fr m a b :=
 ⟨h.os, h.tape, h.output, h.size, fun k hk hn => h.block k hk (fun q => hn (hm k q hk))⟩
theorem Fr.below {l : List Nat} {B : Nat} {a b : World} (h : Fr l a b) (hB : B ≤ a.heap.size) (hl : ∀ i ∈ l, B ≤ i) : Below B a b :=
 ⟨h.os, h.tape, h.output, h.size, fun k hk => h.block k (by omega) (fun q => by have := hl k q; omega)⟩
theorem Fr.of_below {a b : World} (h : Below a.heap.size a b) : Fr [] a b := ⟨h.os, h.tape, h.output, h.size, fun k hk _ => h.block k hk⟩
theorem Fr.of_grown {row : Option Nat} {a b : World} (h : a.grownBy b row) : Fr row.toList a b :=
 ⟨h.os, h.tape, h.output, h.size, fun k hk hn => h.block k hk (fun e => hn (by rw [← e]; simp))⟩
theorem Fr.alloc (w : World) (o : Obj) : Fr [] w (w.alloc o) := ⟨rfl, rfl, rfl, by simp, fun k hk _ => Below.heap_alloc _ _ _ hk⟩
theorem Fr.drew (w : World) : Fr [] w w.drew := ⟨rfl, rfl, rfl, Nat.le_refl _, fun _ _ _ => rfl⟩
theorem Fr.setCell (w : World) (a : Addr) (v : Value) : Fr [a.block] w (w.setCell a v) :=
 ⟨rfl, rfl, rfl, by simp [World.setCell], fun k _ hn => Below.heap_setCell _ _ _ _ (by simpa using hn)⟩
theorem Fr.set0 (w : World) (p i : Nat) (v : Value) : Fr [p] w (w.setCell ⟨p, i, none⟩ v) := Fr.setCell w ⟨p, i, none⟩ v
theorem Fr.setRow (w : World) (g : Nat) (cs : Array Value) : Fr [g] w (w.setRow g cs) :=
 ⟨rfl, rfl, rfl, by simp [World.setRow], fun k _ hn => setRow_other w g k cs (by simpa using hn)⟩
theorem Fr.cell {l : List Nat} {w w' : World} (h : Fr l w w') {p : Addr} {v : Value} (hp : w.cell? p = some v) (hn : p.block ∉ l) : w'.cell? p = some v :=
 (World.cell?_of_block (h.block p.block (World.block_lt_of_cell? w p hp) hn)).trans hp
theorem Fr.heap {l : List Nat} {w w' : World} (h : Fr l w w') {p : Nat} {o : Obj} (hp : w.heap[p]? = some o) (hn : p ∉ l) : w'.heap[p]? = some o :=
 (h.block p (Array.getElem?_eq_some_iff.1 hp).1 hn).trans hp
theorem cell_of_heap {w : World} {p : Nat} {cs : Array Value} {t : TypeId} {fr : Nat × Nat} (h : w.heap[p]? = some (.cells cs t fr)) (i : Nat) : w.cell? ⟨p, i, none⟩ = cs[i]? := by
 simp [World.cell?, h]
theorem free_of_heap {w : World} {p : Nat} {cs : Array Value} {t : TypeId} (h : w.heap[p]? = some (.cells cs t (0, 0))) (i : Nat) : w.frozen? ⟨p, i, none⟩ = false := by
 simp [World.frozen?, h]
theorem heap_setCell_same {w : World} {p i : Nat} {cs : Array Value} {t : TypeId} {fr : Nat × Nat} (h : w.heap[p]? = some (.cells cs t fr)) (v : Value) :
  (w.setCell ⟨p, i, none⟩ v).heap[p]? = some (.cells (cs.setIfInBounds i v) t fr) := by
 simp [World.setCell, Array.getElem?_modify, h]
def cellsB (bs : List UInt8) : List Value := bs.map fun b => .int .u8 (b.toNat : Int)
theorem cellsB_append (a b : List UInt8) : cellsB (a ++ b) = cellsB a ++ cellsB b := by simp [cellsB]
theorem cellsB_get (bs : List UInt8) (i : Nat) (h : i < bs.length) : (cellsB bs)[i]? = some (.int .u8 ((bs[i]'h).toNat : Int)) := by
 simp [cellsB, h]
def bytesAt (w : World) (v : Value) (bs : List UInt8) : Prop :=
 (∃ a cap, v = .slice a 0 cap ∧ cap ≤ maxLen ∧ bs = []) ∨ ∃ b off cap, v = .slice (some ⟨b, off, none⟩) bs.length cap ∧ bs.length ≤ cap ∧ cap ≤ maxLen ∧
  ∀ i (h : i < bs.length), w.cell? ⟨b, off + i, none⟩ = some (.int .u8 ((bs[i]'h).toNat : Int))
theorem bytesAt.len {w : World} {v : Value} {bs : List UInt8} (h : bytesAt w v bs) : bs.length ≤ maxLen := by
 rcases h with ⟨_, _, _, _, rfl⟩ | ⟨b, off, cap, rfl, h1, h2, _⟩
 ·simp
 ·omega
theorem bytesAt.form {w : World} {v : Value} {bs : List UInt8} (h : bytesAt w v bs) : ∃ a cap, v = .slice a bs.length cap ∧ bs.length ≤ cap ∧ cap ≤ maxLen := by
 rcases h with ⟨a, cap, rfl, h2, rfl⟩ | ⟨b, off, cap, rfl, h1, h2, _⟩
 ·exact ⟨a, cap, rfl, by simp, h2⟩
 ·exact ⟨_, cap, rfl, h1, h2⟩
theorem bytesAt.kept {w w' : World} {v : Value} {bs : List UInt8} {l : List Nat} (h : bytesAt w v bs) (hf : Fr l w w') (hn : ∀ k, v.ownBlock = some k → bs ≠ [] → k < w.heap.size → k ∉ l) : bytesAt w' v bs := by
 rcases h with h | ⟨b, off, cap, rfl, h1, h2, h3⟩
 ·exact .inl h
 ·refine .inr ⟨b, off, cap, rfl, h1, h2, fun i hi => hf.cell (h3 i hi) (hn b rfl (fun e => by subst e; simp at hi) ?_)⟩
  exact World.block_lt_of_cell? w _ (h3 i hi)
theorem bytesAt.below {w w' : World} {v : Value} {bs : List UInt8} (h : bytesAt w v bs) (hf : Fr [] w w') : bytesAt w' v bs := h.kept hf (by simp)
theorem bytesAt.nil (w : World) : bytesAt w (.slice none 0 0) [] := .inl ⟨_, _, rfl, by simp, rfl⟩
theorem bytesAt.lt {w : World} {v : Value} {bs : List UInt8} (h : bytesAt w v bs) (hpos : bs ≠ []) : ∀ k, v.ownBlock = some k → k < w.heap.size := by
 intro k hk
 rcases h with ⟨_, _, _, _, rfl⟩ | ⟨b, off, cap, rfl, h1, h2, h3⟩
 ·exact (hpos rfl).elim
 ·cases hk
  exact World.block_lt_of_cell? w _ (h3 0 (List.length_pos_iff.2 hpos))
theorem bytesAt.cut {w : World} {a : Option Addr} {cap : Nat} {bs : List UInt8} {lo hi : Nat} (h : bytesAt w (.slice a bs.length cap) bs) (h1 : lo ≤ hi) (h2 : hi ≤ bs.length) :
  bytesAt w (.slice (if cap = lo then a else a.map (·.add (lo * 1))) (hi - lo) (cap - lo)) ((bs.take hi).drop lo) := by
 have hlen : ((bs.take hi).drop lo).length = hi - lo := by simp; omega
 rcases h with ⟨a', c', e, hm, rfl⟩ | ⟨b, off, c, e, h3, h4, h5⟩
 ·simp at e; obtain ⟨rfl, rfl⟩ := e
  simp at h2; subst h2; simp at h1; subst h1
  exact .inl ⟨_, _, rfl, by omega, by simp⟩
 ·simp at e; obtain ⟨rfl, rfl⟩ := e
  right
  by_cases hc : cap = lo
  ·refine ⟨b, off, cap - lo, ?_, by omega, by omega, fun i hi' => ?_⟩
   ·rw [if_pos hc, hlen]
   ·omega
  ·refine ⟨b, off + lo, cap - lo, ?_, by omega, by omega, fun i hi' => ?_⟩
   ·rw [if_neg hc, hlen]
    simp [Addr.add]
   ·have := h5 (lo + i) (by omega)
    rw [show off + lo + i = off + (lo + i) from by omega, this]
    simp
theorem bytesAt.take {w : World} {a : Option Addr} {cap : Nat} {bs : List UInt8} {n : Nat} (h : bytesAt w (.slice a bs.length cap) bs) (hn : n ≤ bs.length) : bytesAt w (.slice a n cap) (bs.take n) := by
 have := h.cut (lo := 0) (hi := n) (Nat.zero_le _) hn
 simp only [Nat.zero_mul, Nat.sub_zero, List.drop_zero] at this
 have e : (a.map fun x : Addr => x.add 0) = a := by cases a <;> simp [Addr.add]
 rwa [e, ite_self] at this
theorem bytesAt.drop {w : World} {a : Option Addr} {cap : Nat} {bs : List UInt8} {n : Nat} (h : bytesAt w (.slice a bs.length cap) bs) (hn : n ≤ bs.length) (hc : ¬ cap = n) : bytesAt w (.slice (a.map fun x => x.add n) (bs.length - n) (cap - n)) (bs.drop n) := by
 have := h.cut (lo := n) (hi := bs.length) hn (Nat.le_refl _)
 rwa [if_neg hc, Nat.mul_one, List.take_length] at this
theorem bytesAt.empty {w w' : World} {a : Option Addr} {n cap : Nat} {bs : List UInt8} (h : bytesAt w (.slice a n cap) bs) : bytesAt w' (.slice a 0 0) [] := by
 rcases h with ⟨a', c', e, hm, rfl⟩ | ⟨b, off, c, e, h3, h4, h5⟩
 ·exact .inl ⟨_, _, rfl, by simp, rfl⟩
 ·simp at e; obtain ⟨rfl, -⟩ := e
  exact .inr ⟨b, off, 0, rfl, by simp, by simp, by simp⟩
theorem bytesAt_of_owns {w : World} {base : Nat} {e : TypeId} {v : Value} {bs : List UInt8} (h : w.ownsRow base e 1 v bs.length (cellsB bs)) : bytesAt w v bs := by
 have hc := fun g hg => h.cells (g := g) hg
 rcases h.2 with ⟨rfl, h0⟩ | ⟨g, cap, cur, rfl, hb, hg, hn, hm, hs, ht⟩
 ·exact .inl ⟨_, _, rfl, by simp, List.eq_nil_of_length_eq_zero h0⟩
 ·refine .inr ⟨g, 0, cap, rfl, hn, hm, fun i hi => ?_⟩
  have := hc g rfl i _ (cellsB_get bs i hi)
  have hadd : (⟨g, 0, none⟩ : Addr).add i = ⟨g, 0 + i, none⟩ := by unfold Addr.add; split <;> simp_all
  rwa [hadd] at this
theorem owns_kept {w w' : World} {base : Nat} {e : TypeId} {size : Nat} {v : Value} {n : Nat} {xs : List Value} {l : List Nat} (h : w.ownsRow base e size v n xs) (hf : Fr l w w') (hn : ∀ k, v.ownBlock = some k → k ∉ l) : w'.ownsRow base e size v n xs := by
 refine ⟨h.1, ?_⟩
 rcases h.2 with h2 | ⟨g, cap, cur, rfl, hb, hg, rest⟩
 ·exact .inl h2
 ·exact .inr ⟨g, cap, cur, rfl, hb, hf.heap hg (hn g rfl), rest⟩
theorem owns_base {w : World} {base base' : Nat} {e : TypeId} {size : Nat} {v : Value} {n : Nat} {xs : List Value} (h : w.ownsRow base e size v n xs) (hb : ∀ k, v.ownBlock = some k → base' ≤ k) : w.ownsRow base' e size v n xs := by
 refine ⟨h.1, ?_⟩
 rcases h.2 with h2 | ⟨g, cap, cur, rfl, _, rest⟩
 ·exact .inl h2
 ·exact .inr ⟨g, cap, cur, rfl, hb g rfl, rest⟩
theorem bytesAt_new (w : World) (bs : List UInt8) (e : TypeId) (n : Nat) (hn : n = bs.length) (h : bs.length ≤ maxLen) (cs : Array Value) (hcs : cs = (cellsB bs).toArray) : bytesAt (w.alloc (.cells cs e)) (.slice (some ⟨w.heap.size, 0, none⟩) n n) bs := by
 subst hn hcs
 refine .inr ⟨_, 0, bs.length, rfl, Nat.le_refl _, h, fun i hi => ?_⟩
 rw [cell_of_heap (heap_alloc_new w _)]
 simp [cellsB, hi]
theorem run_conv_bytes {P : Program} {w : World} {v : Value} {bs : List UInt8} (h : bytesAt w v bs) (src e dst : TypeId) (hs : P.underlying src = some (.slice e)) (he : P.underlying e = some (.int .u8)) (hd : P.underlying dst = some .string) :
  (convert src dst v).run P w = .ok (.string ⟨bs.toArray⟩) w := by
 rcases h with ⟨a, cap, rfl, _, rfl⟩ | ⟨b, off, cap, rfl, h1, h2, h3⟩
 ·rw [run_convert_bytes_string w src dst e a 0 cap hs he hd]
  cases a with
  | none => simp [Conv.bytesToString, ByteArray.empty, ByteArray.emptyWithCapacity]; rfl
  | some x => rw [run_bytesToString w x 0 cap [] (by simpa using run_loadCells_list (P := P) w x [] (by simp))]; rfl
 ·rw [run_convert_bytes_arg w src e hs he b off bs.length cap (bs.map fun b => (b.toNat : Int)) (by simp) (fun i hi => by rw [h3 i hi]; simp [hi]) dst hd]
  simp only [strOfNums, List.map_map]
  rw [show (List.map ((fun n => UInt8.ofNat n.toNat) ∘ fun b : UInt8 => (b.toNat : Int)) bs) = bs from by rw [List.map_congr_left (g := id) (fun b _ => by simp)]; simp]
theorem madeCells_one (z : Value) (n : Nat) : madeCells #[z] n = (List.replicate n z).toArray := by
 apply Array.ext
 ·simp [madeCells]
 ·intro i h1 h2; simp [madeCells, Nat.mod_one]
theorem wpL_make {P : Program} {w : World} {ops : Array Oper} {rest : List Oper} {o : Oper} {a : Act} {Q : Exit → Act → World → Prop} (hg : o.guard = none) (l c : Operand) (t : TypeId) (hop : o.op = Op.makeSlice t l c)
  (e : TypeId) (i : TypeInfo) (z : Value) (bytes : Nat) (h1 : P.underlying t = some (.slice e)) (h2 : P.info? e = some i) (h3 : i.zero = some z) (h4 : i.size = 1) (h5 : i.bytes = bytes) (hz : z.cells = #[z])
  (n : Nat) (hl : a.eval l = .int .i64 n) (hc : a.eval c = .int .i64 n) (hb : bytes * n ≤ 281474976710656) (hm : n ≤ maxLen)
  (hK : ∀ w', Hid (w'.heap[w.heap.size]? = some (.cells (List.replicate n z).toArray e (0, 0))) → Fr [] w w' → Hid (w'.heap.size = w.heap.size + 1) → wpList P ops Q rest (a.put o.dst (.slice (some ⟨w.heap.size, 0, none⟩) n n)) w') :
  wpList P ops Q (o :: rest) a w := by
 refine wpList_plain hg fun K hK' => ?_
 have h63 : (n : Int) ≤ 9223372036854775807 := by have h := hm; simp [maxLen] at h; omega
 have hb' : (i.bytes : Int) * (n : Int) ≤ 281474976710656 := by
  have h : ((i.bytes * n : Nat) : Int) ≤ 281474976710656 := by rw [h5]; omega
  rwa [Int.natCast_mul] at h
 have hr := run_make (P := P) w t e i z h1 h2 h3 .i64 .i64 n n (by omega) (Int.le_refl _) hb' h63
 simp only [Int.toNat_natCast, h4, Nat.mul_one, hz, madeCells_one] at hr
 unfold Oper.wp
 simp [execOp, hop, hl, hc, hr, Result.andThen]
 exact hK' _ _ (hK _ (heap_alloc_new w _) (Fr.alloc w _) (show (w.alloc _).heap.size = _ by simp))
theorem owns_of_heap {w : World} {g n cap base : Nat} {cur : List Value} {e : TypeId} {xs : List Value} (h : w.heap[g]? = some (.cells cur.toArray e (0, 0))) (hb : base ≤ g) (hc : cur.length = cap) (hn : n ≤ cap) (hm : cap ≤ maxLen) (hx : cur.take n = xs) :
  w.ownsRow base e 1 (.slice (some ⟨g, 0, none⟩) n cap) n xs := by
 refine ⟨by rw [← hx]; simp; omega, .inr ⟨g, cap, cur.toArray, rfl, hb, h, hn, hm, by simp [hc], by simpa using hx⟩⟩
def elemsAt (w : World) (v : Value) (sz : Nat) (xs : List (List Value)) : Prop :=
 (∃ a cap, v = .slice a 0 cap ∧ cap ≤ maxLen ∧ xs = []) ∨ ∃ b off cap, v = .slice (some ⟨b, off, none⟩) xs.length cap ∧ xs.length ≤ cap ∧ cap ≤ maxLen ∧ b < w.heap.size ∧
  ∀ i (h : i < xs.length), (xs[i]'h).length = sz ∧ ∀ j u, (xs[i]'h)[j]? = some u → w.cell? ⟨b, off + i * sz + j, none⟩ = some u
theorem elemsAt.form {w : World} {v : Value} {sz : Nat} {xs : List (List Value)} (h : elemsAt w v sz xs) : ∃ a cap, v = .slice a xs.length cap ∧ xs.length ≤ cap ∧ cap ≤ maxLen := by
 rcases h with ⟨a, cap, rfl, h1, rfl⟩ | ⟨b, off, cap, rfl, h1, h2, _⟩
 ·exact ⟨a, cap, rfl, by simp, h1⟩
 ·exact ⟨_, cap, rfl, h1, h2⟩
theorem elemsAt.kept {w w' : World} {v : Value} {sz : Nat} {xs : List (List Value)} {l : List Nat} (h : elemsAt w v sz xs) (hf : Fr l w w') (hn : ∀ k, v.ownBlock = some k → xs ≠ [] → k < w.heap.size → k ∉ l) : elemsAt w' v sz xs := by
 rcases h with h | ⟨b, off, cap, rfl, h1, h2, hb, h3⟩
 ·exact .inl h
 ·refine .inr ⟨b, off, cap, rfl, h1, h2, Nat.lt_of_lt_of_le hb hf.size, fun i hi => ⟨(h3 i hi).1, fun j u hu => hf.cell ((h3 i hi).2 j u hu) (hn b rfl (fun e => by subst e; simp at hi) hb)⟩⟩
theorem elemsAt.below {w w' : World} {v : Value} {sz : Nat} {xs : List (List Value)} (h : elemsAt w v sz xs) (hf : Fr [] w w') : elemsAt w' v sz xs := h.kept hf (by simp)
theorem elemsAt.lt {w : World} {v : Value} {sz : Nat} {xs : List (List Value)} (h : elemsAt w v sz xs) (hpos : xs ≠ []) : ∀ k, v.ownBlock = some k → k < w.heap.size := by
 intro k hk
 rcases h with ⟨_, _, _, _, rfl⟩ | ⟨b, off, cap, rfl, h1, h2, hb, h3⟩
 ·exact (hpos rfl).elim
 ·cases hk; exact hb
theorem bytesAt.cells {w : World} {sv : Value} {bs : List UInt8} (h : bytesAt w sv bs) (hne : bs ≠ []) : ∃ a cap, sv = .slice (some a) bs.length cap ∧ ∀ j u, (cellsB bs)[j]? = some u → w.cell? (a.add j) = some u := by
 rcases h with ⟨_, _, _, _, rfl⟩ | ⟨b, off, cap, rfl, h1, h2, h3⟩
 ·exact (hne rfl).elim
 ·refine ⟨_, _, rfl, fun j u hj => ?_⟩
  have hjl : j < bs.length := by
   rcases Nat.lt_or_ge j bs.length with q | q
   ·exact q
   ·rw [List.getElem?_eq_none (by simpa [cellsB] using q)] at hj; cases hj
  have hadd : (⟨b, off, none⟩ : Addr).add j = ⟨b, off + j, none⟩ := by unfold Addr.add; split <;> simp_all
  rw [hadd, h3 j hjl, ← cellsB_get bs j hjl, hj]
end Go.Proofs.YtnaamjpiaekmeaaGreat
namespace Go.Proofs.YtnaamjpiaekmeaaGreat
open Go.RowKit
def cellsAt (w : World) (v : Value) (cs : List Value) : Prop :=
 (∃ a cap, v = .slice a 0 cap ∧ cap ≤ maxLen ∧ cs = []) ∨ ∃ b off cap, v = .slice (some ⟨b, off, none⟩) cs.length cap ∧ cs.length ≤ cap ∧ cap ≤ maxLen ∧
  ∀ i (h : i < cs.length), w.cell? ⟨b, off + i, none⟩ = some (cs[i]'h)
theorem cellsAt.form {w : World} {v : Value} {cs : List Value} (h : cellsAt w v cs) : ∃ a cap, v = .slice a cs.length cap ∧ cs.length ≤ cap ∧ cap ≤ maxLen := by
 rcases h with ⟨a, cap, rfl, h2, rfl⟩ | ⟨b, off, cap, rfl, h1, h2, _⟩
 ·exact ⟨a, cap, rfl, by simp, h2⟩
 ·exact ⟨_, cap, rfl, h1, h2⟩
theorem cellsAt.kept {w w' : World} {v : Value} {cs : List Value} {l : List Nat} (h : cellsAt w v cs) (hf : Fr l w w') (hn : ∀ k, v.ownBlock = some k → cs ≠ [] → k < w.heap.size → k ∉ l) : cellsAt w' v cs := by
 rcases h with h | ⟨b, off, cap, rfl, h1, h2, h3⟩
 ·exact .inl h
 ·refine .inr ⟨b, off, cap, rfl, h1, h2, fun i hi => hf.cell (h3 i hi) (hn b rfl (fun e => by subst e; simp at hi) ?_)⟩
  exact World.block_lt_of_cell? w _ (h3 i hi)
theorem cellsAt.below {w w' : World} {v : Value} {cs : List Value} (h : cellsAt w v cs) (hf : Fr [] w w') : cellsAt w' v cs := h.kept hf (by simp)
theorem cellsAt.nil (w : World) : cellsAt w (.slice none 0 0) [] := .inl ⟨_, _, rfl, by simp, rfl⟩
theorem cellsAt.lt {w : World} {v : Value} {cs : List Value} (h : cellsAt w v cs) (hpos : cs ≠ []) : ∀ k, v.ownBlock = some k → k < w.heap.size := by
 intro k hk
 rcases h with ⟨_, _, _, _, rfl⟩ | ⟨b, off, cap, rfl, h1, h2, h3⟩
 ·exact (hpos rfl).elim
 ·cases hk
  exact World.block_lt_of_cell? w _ (h3 0 (List.length_pos_iff.2 hpos))
theorem cellsAt.get {w : World} {a : Option Addr} {n cap : Nat} {cs : List Value} (h : cellsAt w (.slice a n cap) cs) {i : Nat} (hi : i < cs.length) : ∃ b off, a = some ⟨b, off, none⟩ ∧ n = cs.length ∧ ∀ j (hj : j < cs.length), w.cell? ⟨b, off + j, none⟩ = some (cs[j]'hj) := by
 rcases h with ⟨_, _, e, _, rfl⟩ | ⟨b, off, cap', e, h1, h2, h3⟩
 ·simp at hi
 ·simp at e
  obtain ⟨rfl, rfl, -⟩ := e
  exact ⟨b, off, rfl, rfl, h3⟩
theorem cellsAt_of_owns {w : World} {base : Nat} {e : TypeId} {v : Value} {cs : List Value} (h : w.ownsRow base e 1 v cs.length cs) : cellsAt w v cs := by
 have hc := fun g hg => h.cells (g := g) hg
 rcases h.2 with ⟨rfl, h0⟩ | ⟨g, cap, cur, rfl, hb, hg, hn, hm, hs, ht⟩
 ·exact .inl ⟨_, _, rfl, by simp, List.eq_nil_of_length_eq_zero h0⟩
 ·refine .inr ⟨g, 0, cap, rfl, hn, hm, fun i hi => ?_⟩
  have := hc g rfl i _ (List.getElem?_eq_getElem hi)
  have hadd : (⟨g, 0, none⟩ : Addr).add i = ⟨g, 0 + i, none⟩ := by unfold Addr.add; split <;> simp_all
  rwa [hadd] at this
theorem cellsAt_new (w : World) (cs : List Value) (e : TypeId) (n : Nat) (hn : n = cs.length) (h : cs.length ≤ maxLen) : cellsAt (w.alloc (.cells cs.toArray e)) (.slice (some ⟨w.heap.size, 0, none⟩) n n) cs := by
 subst hn
 refine .inr ⟨_, 0, cs.length, rfl, Nat.le_refl _, h, fun i hi => ?_⟩
 rw [cell_of_heap (heap_alloc_new w _)]
 simp [hi]
theorem Fr.own {W w w' : World} {e : TypeId} {sz n : Nat} {v : Value} {xs : List Value} (h : Fr [] W w) (hown : w.ownsRow W.heap.size e sz v n xs) (hf : Fr v.ownBlock.toList w w') : Fr [] W w' :=
 h.trans hf (by simp) (fun i hi hlt => by
  have hk : v.ownBlock = some i := by simpa [Option.mem_toList] using hi
  have := (hown.lt i hk).1
  omega)
theorem wpL_append1 {P : Program} {w : World} {ops : Array Oper} {rest : List Oper} {o : Oper} {a : Act} {Q : Exit → Act → World → Prop} (hgd : o.guard = none) (s x : Operand) (t : TypeId)
  (ho : o.op = .call { callee := .builtin .append, args := #[s, x], argTypes := #[t, t] }) (base : Nat) (e : TypeId) (i : TypeInfo) (z : Value) (bytes : Nat) (ht : P.underlying t = some (.slice e)) (hi : P.info? e = some i) (hz : i.zero = some z) (h4 : i.size = 1) (h5 : i.bytes = bytes) (hzc : z.cells.size = 1)
  (v : Value) (n : Nat) (xs : List Value) (hs : a.eval s = v) (hown : w.ownsRow base e 1 v n xs) (u : Value) (hu : u.oneCell' = true) (hx : a.eval x = .slice (some ⟨w.heap.size, 0, none⟩) 1 1) (hsum : (n + 1) * bytes ≤ 140737488355328) (hm : n + 1 ≤ maxLen) (hbase : base ≤ w.heap.size)
  (h : ∀ v' w', w'.ownsRow base e 1 v' (n + 1) (xs ++ [u]) → Fr v.ownBlock.toList w w' → (v'.ownBlock = v.ownBlock ∨ ∃ k, v'.ownBlock = some k ∧ w.heap.size ≤ k) → wpList P ops Q rest (a.put o.dst v') w') : wpList P ops Q (o :: rest) a (w.alloc (.cells #[u] e)) := by
 refine wpList_append_own_at _ hgd s x t ho base e i z 1 bytes ht hi hz h4 h5 hzc (by decide) v n xs hs (owns_kept hown (Fr.alloc _ _) (by simp)) ⟨w.heap.size, 0, none⟩ 1 1 [u] hx rfl ?_ (by simpa using hu) hm hsum (by simp; omega) ?_
 ·intro j y hj
  match j, hj with
  | 0, hj =>
    cases hj
    have hadd : (⟨w.heap.size, 0, none⟩ : Addr).add 0 = ⟨w.heap.size, 0, none⟩ := by unfold Addr.add; split <;> simp_all
    rw [hadd, cell_of_heap (heap_alloc_new w _)]
    rfl
 ·intro v' w' h1 h2 _ h3
  refine h v' w' h1 ((Fr.alloc _ _).trans (Fr.of_grown h2) (by simp) (fun i hi _ => hi)) ?_
  rcases h3 with h3 | h3
  ·exact .inl h3
  ·exact .inr ⟨_, h3, by simp⟩
theorem wpL_makeCap {P : Program} {w : World} {ops : Array Oper} {rest : List Oper} {o : Oper} {a : Act} {Q : Exit → Act → World → Prop} (hg : o.guard = none) (l c : Operand) (t : TypeId) (hop : o.op = Op.makeSlice t l c)
  (e : TypeId) (i : TypeInfo) (z : Value) (bytes : Nat) (h1 : P.underlying t = some (.slice e)) (h2 : P.info? e = some i) (h3 : i.zero = some z) (h4 : i.size = 1) (h5 : i.bytes = bytes) (hz : z.cells = #[z])
  (n m : Nat) (hl : a.eval l = .int .i64 n) (hc : a.eval c = .int .i64 m) (hnm : n ≤ m) (hb : bytes * m ≤ 281474976710656) (hm : m ≤ maxLen)
  (hK : ∀ w', w'.ownsRow w.heap.size e 1 (.slice (some ⟨w.heap.size, 0, none⟩) n m) n (List.replicate n z) → Fr [] w w' → Hid (w'.heap.size = w.heap.size + 1) → wpList P ops Q rest (a.put o.dst (.slice (some ⟨w.heap.size, 0, none⟩) n m)) w') :
  wpList P ops Q (o :: rest) a w := by
 refine wpList_plain hg fun K hK' => ?_
 have h63 : (m : Int) ≤ 9223372036854775807 := by have h := hm; simp [maxLen] at h; omega
 have hb' : (i.bytes : Int) * (m : Int) ≤ 281474976710656 := by
  have h : ((i.bytes * m : Nat) : Int) ≤ 281474976710656 := by rw [h5]; omega
  rwa [Int.natCast_mul] at h
 have hr := run_make (P := P) w t e i z h1 h2 h3 .i64 .i64 n m (by omega) (by omega) hb' h63
 simp only [Int.toNat_natCast, h4, Nat.mul_one, hz, madeCells_one] at hr
 unfold Oper.wp
 simp [execOp, hop, hl, hc, hr, Result.andThen]
 exact hK' _ _ (hK _ (owns_of_heap (cur := List.replicate m z) (heap_alloc_new w _) (Nat.le_refl _) (by simp) hnm hm (by simp [hnm])) (Fr.alloc w _) (show (w.alloc _).heap.size = _ by simp))
end Go.Proofs.YtnaamjpiaekmeaaGreat
namespace Go.Proofs.YtnaamjpiaekmeaaGreat
open Go.RowKit
theorem owns_slice {w : World} {base : Nat} {e : TypeId} {size : Nat} {v : Value} {n : Nat} {xs : List Value} (h : w.ownsRow base e size v n xs) : ∃ a cap, v = .slice a n cap ∧ n ≤ cap ∧ cap ≤ maxLen := by
 rcases h.2 with ⟨rfl, h0⟩ | ⟨g, cap, cur, rfl, _, _, h1, h2, _⟩
 ·exact ⟨_, _, by rw [h0], by omega, by simp⟩
 ·exact ⟨_, _, rfl, h1, h2⟩
theorem elems_of_owns {w : World} {base sz : Nat} {e : TypeId} {v : Value} {xs : List (List Value)} (h : w.ownsRow base e sz v xs.length xs.flatten) (hs : ∀ x ∈ xs, x.length = sz) : elemsAt w v sz xs := by
 have hc := fun g hg => h.cells (g := g) hg
 rcases h.2 with ⟨rfl, h0⟩ | ⟨g, cap, cur, rfl, hb, hg, hn, hm, hsz, ht⟩
 ·exact .inl ⟨_, _, rfl, by simp, List.eq_nil_of_length_eq_zero h0⟩
 ·refine .inr ⟨g, 0, cap, rfl, hn, hm, (Array.getElem?_eq_some_iff.1 hg).1, fun i hi => ⟨hs _ (List.getElem_mem hi), fun j u hu => ?_⟩⟩
  have hj : j < sz := by
   rw [← hs _ (List.getElem_mem hi)]
   rcases Nat.lt_or_ge j (xs[i]'hi).length with q | q
   ·exact q
   ·rw [List.getElem?_eq_none q] at hu; cases hu
  have key : ∀ (ys : List (List Value)) (k : Nat) (hk : k < ys.length), (∀ x ∈ ys, x.length = sz) → ys.flatten[k * sz + j]? = (ys[k]'hk)[j]? := by
   intro ys
   induction ys with
   | nil => intro k hk; simp at hk
   | cons y r ih =>
     intro k hk hall
     have hy := hall y (by simp)
     match k, hk with
     | 0, _ => simp only [List.flatten_cons, Nat.zero_mul, Nat.zero_add, List.getElem_cons_zero]; rw [List.getElem?_append_left (by omega)]
     | k + 1, hk =>
       rw [List.flatten_cons, List.getElem?_append_right (by rw [hy, Nat.add_mul]; omega)]
       simp only [List.getElem_cons_succ]
       rw [← ih k (by simpa using hk) (fun x hx => hall x (by simp [hx]))]
       congr 1
       rw [hy, Nat.add_mul]; omega
  have := hc g rfl (i * sz + j) u (by rw [key xs i hi hs]; exact hu)
  have hadd : (⟨g, 0, none⟩ : Addr).add (i * sz + j) = ⟨g, 0 + i * sz + j, none⟩ := by unfold Addr.add; split <;> simp_all
  rwa [hadd] at this
theorem three_of_heap {w : World} {p : Nat} {a b c : Value} {t : TypeId} (h : w.heap[p]? = some (.cells #[a, b, c] t (0, 0))) :
  w.cell? ⟨p, 0, none⟩ = some a ∧ w.cell? ⟨p, 1, none⟩ = some b ∧ w.cell? ⟨p, 2, none⟩ = some c ∧ w.frozen? ⟨p, 0, none⟩ = false ∧ w.frozen? ⟨p, 1, none⟩ = false ∧ w.frozen? ⟨p, 2, none⟩ = false :=
 ⟨by rw [cell_of_heap h]; rfl, by rw [cell_of_heap h]; rfl, by rw [cell_of_heap h]; rfl, free_of_heap h 0, free_of_heap h 1, free_of_heap h 2⟩
theorem wpL_appendS {P : Program} {w : World} {ops : Array Oper} {rest : List Oper} {o : Oper} {a : Act} {Q : Exit → Act → World → Prop} (hgd : o.guard = none) (s x : Operand) (t : TypeId)
  (ho : o.op = .call { callee := .builtin .append, args := #[s, x], argTypes := #[t, t] }) (base : Nat) (e : TypeId) (i : TypeInfo) (z : Value) (sz bytes : Nat) (ht : P.underlying t = some (.slice e)) (hi : P.info? e = some i) (hz : i.zero = some z) (h4 : i.size = sz) (h5 : i.bytes = bytes) (hzc : z.cells.size = sz) (hsz : 0 < sz)
  (v : Value) (n : Nat) (xs : List Value) (hs : a.eval s = v) (hown : w.ownsRow base e sz v n xs) (us : List Value) (hl : us.length = sz) (hu : ∀ u ∈ us, u.oneCell' = true) (hx : a.eval x = .slice (some ⟨w.heap.size, 0, none⟩) 1 1) (hsum : (n + 1) * bytes ≤ 140737488355328) (hm : n + 1 ≤ maxLen) (hbase : base ≤ w.heap.size)
  (h : ∀ v' w', w'.ownsRow base e sz v' (n + 1) (xs ++ us) → Fr v.ownBlock.toList (w.alloc (.cells us.toArray e)) w' → (v'.ownBlock = v.ownBlock ∨ ∃ k, v'.ownBlock = some k ∧ w.heap.size ≤ k) → wpList P ops Q rest (a.put o.dst v') w') : wpList P ops Q (o :: rest) a (w.alloc (.cells us.toArray e)) := by
 refine wpList_append_own_at _ hgd s x t ho base e i z sz bytes ht hi hz h4 h5 hzc hsz v n xs hs (owns_kept hown (Fr.alloc _ _) (by simp)) ⟨w.heap.size, 0, none⟩ 1 1 us hx (by omega) ?_ hu hm hsum (by simp; omega) ?_
 ·intro j y hj
  have hadd : (⟨w.heap.size, 0, none⟩ : Addr).add j = ⟨w.heap.size, j, none⟩ := by unfold Addr.add; split <;> simp_all
  rw [hadd, cell_of_heap (heap_alloc_new w _)]
  simpa using hj
 ·intro v' w' h1 h2 _ h3
  refine h v' w' h1 (Fr.of_grown h2) ?_
  rcases h3 with h3 | h3
  ·exact .inl h3
  ·exact .inr ⟨_, h3, by simp⟩
theorem Fr.new {w w1 w2 : World} {B : List Nat} (h : Fr [] w w1) (k : Fr B w1 w2) (hB : ∀ i ∈ B, w.heap.size ≤ i) : Fr [] w w2 := h.trans k (by simp) (fun i hi hlt => by have := hB i hi; omega)
end Go.Proofs.YtnaamjpiaekmeaaGreat
namespace Go.Proofs.YtnaamjpiaekmeaaGreat
open Go.RowKit
theorem Fr.andDrew {l : List Nat} {a b : World} (h : Fr l a b) : Fr l a b.drew := ⟨h.os, h.tape, h.output, h.size, h.block⟩
theorem Fr.andDrewN {l : List Nat} {a b : World} (h : Fr l a b) (n : Nat) : Fr l a (b.drewN n) := ⟨h.os, h.tape, h.output, h.size, h.block⟩
theorem flip_same {P : Program} {f : FuncId} {args : Array Value} {w : World} {v : Value} (h : Calls P f args w fun e w' => e = .returned v ∧ w = w') : Calls P f args w fun e w' => e = .returned v ∧ w' = w := h.mono fun _ _ ⟨he, hw⟩ => ⟨he, hw.symm⟩
theorem infoB : (Tryz.prog.info? 5).map (fun i => (i.zero, i.size, i.bytes)) = some (some (.int .u8 0), 1, 1) := by kernel_rfl
theorem info_parts {P : Program} {t : TypeId} {z : Value} {m n : Nat} (h : (P.info? t).map (fun i => (i.zero, i.size, i.bytes)) = some (some z, m, n)) : ∃ i, P.info? t = some i ∧ i.zero = some z ∧ i.size = m ∧ i.bytes = n := by
 cases hq : P.info? t with
 | none => simp [hq] at h
 | some i =>
   simp [hq] at h
   exact ⟨i, rfl, h.1, h.2.1, h.2.2⟩
end Go.Proofs.YtnaamjpiaekmeaaGreat
namespace Go.Proofs.YtnaamjpiaekmeaaGreat
open Go.RowKit
def GQ (R : Act → World → Prop) : Exit → Act → World → Prop
 | .normal, a, w => R a w
 | _, _, _ => False
def valOp : Op → Bool
 | .move _ | .assign _ | .pick .. | .load .. | .nilCheck _ | .binOp .. | .unOp .. | .convert .. | .slice .. | .fieldAddr .. | .field .. | .indexAddr .. | .index .. | .lookup .. | .extract .. | .build .. | .sliceToArrayPointer .. => true
 | .call { callee := .builtin .len, .. } | .call { callee := .builtin .cap, .. } | .call { callee := .builtin .min, .. } | .call { callee := .builtin .max, .. } => true
 | _ => false
def Vals (m : Sem Next) : Prop := ∀ (P : Program) (w w' : World) (x : Next), m.run P w = .ok x w' → ∃ v, x = .value v
theorem vals_pure (v : Value) : Vals (pure (.value v)) := by
 intro P w w' x h
 rw [Sem.run_pure] at h
 cases h
 exact ⟨v, rfl⟩
theorem vals_bind (s : Sem Value) : Vals (do pure (.value (← s))) := by
 intro P w w' x h
 rw [Sem.run_bind] at h
 cases hs : s.run P w with
 | ok v w1 =>
   rw [hs] at h
   simp only [Result.andThen_ok, Sem.run_pure] at h
   cases h
   exact ⟨v, rfl⟩
 | halt x w1 => rw [hs] at h; cases h
theorem vals_halt (h : Halt) : Vals (Sem.halt h) := by
 intro P w w' x h
 cases h
theorem vals_then {α : Type} (m : Sem α) (f : α → Sem Next) (h : ∀ a, Vals (f a)) : Vals (m >>= f) := by
 intro P w w' x hr
 rw [Sem.run_bind] at hr
 cases hs : m.run P w with
 | ok v w1 =>
   rw [hs] at hr
   simp only [Result.andThen_ok] at hr
   exact h v P w1 w' x hr
 | halt x w1 => rw [hs] at hr; cases hr
theorem vals_panic : Vals (runtimePanic .nilDeref) := vals_then _ _ fun _ => vals_halt _
theorem vals_execOp (ρ : Operand → Value) (o : Oper) (h : valOp o.op = true) : Vals (execOp ρ o) := by
 obtain ⟨dst, op, type, pos, after, guard⟩ := o
 cases op
 case move x => exact vals_pure _
 case assign x => exact vals_pure _
 case pick c a b =>
  intro P w w' x h
  simp only [execOp, Sem.run_bind] at h
  cases hs : (asBool (ρ c)).run P w with
  | ok v w1 =>
    rw [hs] at h
    simp only [Result.andThen_ok, Sem.run_pure] at h
    cases h
    exact ⟨_, rfl⟩
  | halt x w1 => rw [hs] at h; cases h
 case load => exact vals_bind _
 case binOp => exact vals_bind _
 case unOp => exact vals_bind _
 case convert => exact vals_bind _
 case slice => exact vals_bind _
 case fieldAddr => exact vals_bind _
 case field => exact vals_bind _
 case indexAddr => exact vals_bind _
 case index => exact vals_bind _
 case lookup => exact vals_bind _
 case extract => exact vals_bind _
 case build => exact vals_bind _
 case sliceToArrayPointer => exact vals_bind _
 case nilCheck x =>
  unfold execOp
  dsimp only
  split
  ·exact vals_panic
  ·exact vals_panic
  ·exact vals_panic
  ·split
   ·exact vals_panic
   ·refine vals_then _ _ fun p => vals_then _ _ fun b => ?_
    split
    ·exact vals_then _ _ fun _ => vals_pure _
    ·exact vals_pure _
   ·exact vals_pure _
  ·exact vals_pure _
 case call c =>
  obtain ⟨callee, args, ats⟩ := c
  cases callee with
  | builtin b =>
    cases b <;> first | (simp [valOp] at h; done) | exact vals_bind _
  | value f => simp [valOp] at h
  | invoke r m => simp [valOp] at h
 all_goals simp [valOp] at h
section
variable {P : Program} {ops : Array Oper} {Q : Exit → Act → World → Prop} {L : List Nat}
theorem put_inj {a : Act} {d : Nat} {v u : Value} (hd : d < a.tmps.size) (h : a.put (some d) v = a.put (some d) u) : v = u := by
 have : (a.put (some d) v).tmps[d]? = (a.put (some d) u).tmps[d]? := by rw [h]
 simpa [Act.put, hd] using this
theorem no_lets (R : Act → World → Prop) : ¬ LetsOut (GQ R) := by
 rintro ⟨a, w, h⟩
 exact h
theorem one_step {o : Oper} {a A : Act} {w : World} {d : Nat} (hv : valOp o.op = true) (hd : o.dst = some d) (hdl : d < a.tmps.size)
  (h : ∀ w', Fr L w w' → wpList P ops (GQ fun a' w'' => w'' = w' ∧ a' = A) [o] a w') : ∃ v, YieldsIf P ops (Fr L w) o v a ∧ A = a.put o.dst v := by
 by_cases hw : Region.wanted o (yielded ops a.tmps) = true
 ·have key : ∀ w', Fr L w w' → ∃ v, (execOp a.eval o).run P w' = .ok (.value v) w' ∧ a.put o.dst v = A := by
   intro w' hf
   have h1 := h w' hf
   unfold wpList at h1
   rw [if_pos hw] at h1
   rcases h1 with h1 | ⟨_, h1⟩
   ·unfold Oper.wp at h1
    cases hr : (execOp a.eval o).run P w' with
    | ok x w1 =>
      obtain ⟨v, rfl⟩ := vals_execOp a.eval o hv P w' w1 x hr
      rw [hr] at h1
      obtain ⟨rfl, h2⟩ : w1 = w' ∧ a.put o.dst v = A := h1
      exact ⟨v, rfl, h2⟩
    | halt x w1 =>
      rw [hr] at h1
      cases x <;> exact h1.elim
   ·exact (no_lets _ h1).elim
  obtain ⟨v, hv1, hv2⟩ := key w (Fr.refl _ _)
  refine ⟨v, .inl ⟨hw, fun w' hf => ?_⟩, hv2.symm⟩
  obtain ⟨u, hu1, hu2⟩ := key w' hf
  have : u = v := put_inj (a := a) (d := d) hdl (by rw [← hd, hu2, hv2])
  rw [hu1, this]
 ·refine ⟨undef, .inr ⟨by simpa using hw, rfl⟩, ?_⟩
  have h1 := h w (Fr.refl _ _)
  unfold wpList at h1
  rw [if_neg hw] at h1
  exact h1.2.symm
theorem wpAnyH_mono {md : Region.Mode} {S S' : World → Prop} (hS : ∀ w, S' w → S w) : ∀ (fuel : Nat) (listed : Array Bool) (a : Act) (w : World), wpAnyH P md ops Q S' fuel listed a w → wpAnyH P md ops Q S fuel listed a w
 | 0, _, _, _, h => h
 | fuel + 1, _, _, _, h => ⟨h.1, fun i hi => wpOp_mono (fun a' w' h' => ⟨hS _ h'.1, wpAnyH_mono hS fuel _ a' w' h'.2⟩) (h.2 i hi)⟩
theorem wpOp_of_list {i : Nat} {o : Oper} {a : Act} {w : World} {R K : Act → World → Prop} (hi : ops[i]? = some o) (h : wpList P ops (GQ R) [o] a w) (hK : ∀ a w, R a w → K a w) : wpOp P ops Q i K a w := by
 unfold wpOp
 simp only [hi]
 unfold wpList at h
 split
 ·rename_i hw
  rw [if_pos hw] at h
  rcases h with h | ⟨_, h⟩
  ·left
   unfold Oper.wp at *
   generalize (execOp a.eval o).run P w = r at *
   cases r with
   | ok n w' =>
     cases n <;> simp only [Oper.upon] at h ⊢ <;>
      first
       | exact hK _ _ h
       | exact Calls.mono h (fun e w'' he => by cases e <;> first | exact hK _ _ he | exact (no_lets _ he).elim | exact False.elim he)
       | exact Rows.mono h (fun _ _ he => hK _ _ he)
   | halt x w' => cases x <;> simp only [Oper.upon] at h ⊢ <;> exact h.elim
  ·exact (no_lets _ h).elim
 ·rename_i hw
  rw [if_neg hw] at h
  exact hK _ _ h
def okOrder (ops : Array Oper) (n : Nat) : List (Nat × Bool) → Array Bool → Bool
 | [], listed => Region.ready .any ops listed == []
 | (i, true) :: r, listed => Region.ready .any ops listed == [i] && okOrder ops n r (listed.setIfInBounds i true)
 | (i, false) :: r, listed => (Region.ready .any ops listed).contains i && Region.free .any ops listed i &&
   (match ops[i]? with | some o => valOp o.op && (match o.dst with | some d => decide (d < n) | none => false) | none => false) && okOrder ops n r (listed.setIfInBounds i true)
def wpG (P : Program) (ops : Array Oper) (Q : Exit → Act → World → Prop) (L : List Nat) : List (Bool × Oper) → Act → World → Prop
 | [], a, w => Q .normal a w
 | (true, o) :: r, a, w => wpList P ops (GQ fun a' w' => Fr L w w' ∧ a'.tmps.size = a.tmps.size ∧ wpG P ops Q L r a' w') [o] a w
 | (false, o) :: r, a, w => ∃ A, (∀ w', Fr L w w' → wpList P ops (GQ fun a' w'' => w'' = w' ∧ a' = A) [o] a w') ∧ wpG P ops Q L r A w
theorem size_put (a : Act) (d : Option Tmp) (v : Value) : (a.put d v).tmps.size = a.tmps.size := by
 cases d <;> simp [Act.put]
theorem wpG_sound (hs : Region.noSelect ops = true) (hQ : ∀ c a d v w, Q (.panic c) (Act.put a d v) w → Q (.panic c) a w) (n : Nat) :
  ∀ (order : List (Nat × Bool)) (listed : Array Bool) (fuel : Nat) (a : Act) (w : World), fuel = order.length → a.tmps.size = n → okOrder ops n order listed = true →
    wpG P ops Q L (order.map fun x => (x.2, ops[x.1]?.getD default)) a w → wpAnyH P .any ops Q (Fr L w) fuel listed a w
 | [], listed, fuel, a, w, hf, hn, hc, h => by
   subst hf
   exact wpAnyH_done (by simpa [okOrder] using hc) h _
 | (i, true) :: r, listed, fuel, a, w, hf, hn, hc, h => by
   subst hf
   simp only [okOrder, Bool.and_eq_true, beq_iff_eq] at hc
   refine wpAnyH_all hc.1 (by simp) ?_
   intro j hj
   obtain rfl := List.mem_singleton.1 hj
   have hmem : j ∈ Region.ready .any ops listed := by rw [hc.1]; simp
   obtain ⟨_, o, ho, _⟩ := mem_ready.1 hmem
   simp only [List.map_cons, ho, Option.getD_some, wpG] at h
   refine wpOp_of_list ho h ?_
   rintro a' w' ⟨hfr, hsz, hg⟩
   refine ⟨hfr, wpAnyH_mono (fun w2 h2 => hfr.trans h2 (fun i hi _ => hi) (fun i hi _ => hi)) _ _ _ _ (wpG_sound hs hQ n r _ _ a' w' rfl (hsz.trans hn) hc.2 hg)⟩
 | (i, false) :: r, listed, fuel, a, w, hf, hn, hc, h => by
   subst hf
   simp only [okOrder, Bool.and_eq_true] at hc
   obtain ⟨⟨⟨h1, h2⟩, h3⟩, h4⟩ := hc
   cases ho : ops[i]? with
   | none => rw [ho] at h3; simp at h3
   | some o =>
     rw [ho] at h3
     simp only [Bool.and_eq_true] at h3
     obtain ⟨hv, hd⟩ := h3
     cases hdst : o.dst with
     | none => rw [hdst] at hd; simp at hd
     | some d =>
       rw [hdst] at hd
       simp only [decide_eq_true_eq] at hd
       simp only [List.map_cons, ho, Option.getD_some, wpG] at h
       obtain ⟨A, hA, hg⟩ := h
       obtain ⟨v, hy, rfl⟩ := one_step hv hdst (by rw [hn]; exact hd) hA
       exact wpAnyH_take ho hs h2 h1 (fun c a w => hQ c a _ _ w) hy (Fr.refl _ _) (wpG_sound hs hQ n r _ _ _ w rfl (by rw [size_put]; exact hn) h4 hg)
theorem wp_region_G {id : Nat} {a : Act} {w : World} (L : List Nat) (order : List (Nat × Bool)) (n : Nat) (hn : a.tmps.size = n) (hm : P.follows .mixedOrders = true) (hs : Region.noSelect ops = true)
  (hc : (order.length == ops.size && okOrder ops n order (Array.replicate ops.size false)) = true) (hQ : ∀ c a d v w, Q (.panic c) (Act.put a d v) w → Q (.panic c) a w)
  (h : ∀ wd, Fr [] w wd → wpG P ops Q L (order.map fun x => (x.2, ops[x.1]?.getD default)) a wd) : (Code.region id ops true).wp P Q a w := by
 simp only [Bool.and_eq_true, beq_iff_eq] at hc
 exact wp_region_held hm (wpG_sound hs hQ n order _ _ _ _ hc.1.symm hn hc.2 (h w.drew (Fr.drew w)))
theorem wp_region_W {id : Nat} {a : Act} {w : World} (L : List Nat) (order : List (Nat × Bool)) (n : Nat) (hn : a.tmps.size = n) (hm : P.follows .mixedOrders = true) (hs : Region.noSelect ops = true)
  (hc : (order.length == ops.size && okOrder ops n order (Array.replicate ops.size false)) = true) (hQ : ∀ c a d v w, Q (.panic c) (Act.put a d v) w → Q (.panic c) a w)
  (h : wpG P ops Q L (order.map fun x => (x.2, ops[x.1]?.getD default)) a w.drew) : (Code.region id ops true).wp P Q a w := by
 simp only [Bool.and_eq_true, beq_iff_eq] at hc
 exact wp_region_held hm (wpG_sound hs hQ n order _ _ _ _ hc.1.symm hn hc.2 h)
theorem wpG_t {o : Oper} {r : List (Bool × Oper)} {a A : Act} {w : World} (h1 : ∀ w', Fr L w w' → wpList P ops (GQ fun a' w'' => w'' = w' ∧ a' = A) [o] a w') (h2 : wpG P ops Q L r A w) : wpG P ops Q L ((false, o) :: r) a w := ⟨A, h1, h2⟩
theorem wpG_x {o : Oper} {r : List (Bool × Oper)} {a : Act} {w : World} (h : wpList P ops (GQ fun a' w' => Fr L w w' ∧ a'.tmps.size = a.tmps.size ∧ wpG P ops Q L r a' w') [o] a w) : wpG P ops Q L ((true, o) :: r) a w := h
theorem wpG_end {a : Act} {w : World} (h : Q .normal a w) : wpG P ops Q L [] a w := h
def Later (L : List Nat) (w : World) (p : World → Prop) : Prop := ∀ w', Fr L w w' → p w'
theorem Later.next {w w2 : World} {p : World → Prop} (h : Later L w p) (hf : Fr L w w2) : Later L w2 p := fun w' hf' => h w' (hf.trans hf' (fun _ hi _ => hi) (fun _ hi _ => hi))
theorem Later.now {w : World} {p : World → Prop} (h : Later L w p) : p w := h w (Fr.refl _ _)
theorem Later.conv {w : World} {v : Value} {bs : List UInt8} (hb : bytesAt w v bs) (hn : ∀ k, v.ownBlock = some k → bs ≠ [] → k < w.heap.size → k ∉ L) (src e dst : TypeId) (hs : P.underlying src = some (.slice e)) (he : P.underlying e = some (.int .u8)) (hd : P.underlying dst = some .string) :
  Later L w fun w' => (convert src dst v).run P w' = .ok (.string ⟨bs.toArray⟩) w' := fun _ hf => run_conv_bytes (hb.kept hf hn) src e dst hs he hd
end
end Go.Proofs.YtnaamjpiaekmeaaGreat
namespace Go.Proofs.YtnaamjpiaekmeaaGreat
open Go.RowKit
structure FrB (B : Nat) (l : List Nat) (w w' : World) : Prop where
 size : w.heap.size ≤ w'.heap.size
 block : ∀ k, k < B → k ∉ l → w'.heap[k]? = w.heap[k]?
theorem FrB.refl (B : Nat) (l : List Nat) (w : World) : FrB B l w w := ⟨Nat.le_refl _, fun _ _ _ => rfl⟩
theorem FrB.trans {B : Nat} {l : List Nat} {a b c : World} (h : FrB B l a b) (k : FrB B l b c) : FrB B l a c := ⟨Nat.le_trans h.size k.size, fun i hi hn => (k.block i hi hn).trans (h.block i hi hn)⟩
theorem FrB.of {B : Nat} {l m : List Nat} {a b : World} (h : Fr m a b) (hB : B ≤ a.heap.size) (hm : ∀ i ∈ m, i < B → i ∈ l) : FrB B l a b := ⟨h.size, fun k hk hn => h.block k (by omega) (fun q => hn (hm k q hk))⟩
theorem FrB.heap {B : Nat} {l : List Nat} {w w' : World} (h : FrB B l w w') {p : Nat} {o : Obj} (hp : w.heap[p]? = some o) (hB : p < B) (hn : p ∉ l) : w'.heap[p]? = some o := (h.block p hB hn).trans hp
theorem FrB.cell {B : Nat} {l : List Nat} {w w' : World} (h : FrB B l w w') {p : Addr} {v : Value} (hp : w.cell? p = some v) (hB : p.block < B) (hn : p.block ∉ l) : w'.cell? p = some v :=
 (World.cell?_of_block (h.block p.block hB hn)).trans hp
section
variable {P : Program} {ops : Array Oper} {Q : Exit → Act → World → Prop} {T : World → World → Prop}
theorem one_stepT {o : Oper} {a A : Act} {w : World} {d : Nat} (hT : ∀ w, T w w) (hv : valOp o.op = true) (hd : o.dst = some d) (hdl : d < a.tmps.size)
  (h : ∀ w', T w w' → wpList P ops (GQ fun a' w'' => w'' = w' ∧ a' = A) [o] a w') : ∃ v, YieldsIf P ops (T w) o v a ∧ A = a.put o.dst v := by
 by_cases hw : Region.wanted o (yielded ops a.tmps) = true
 ·have key : ∀ w', T w w' → ∃ v, (execOp a.eval o).run P w' = .ok (.value v) w' ∧ a.put o.dst v = A := by
   intro w' hf
   have h1 := h w' hf
   unfold wpList at h1
   rw [if_pos hw] at h1
   rcases h1 with h1 | ⟨_, h1⟩
   ·unfold Oper.wp at h1
    cases hr : (execOp a.eval o).run P w' with
    | ok x w1 =>
      obtain ⟨v, rfl⟩ := vals_execOp a.eval o hv P w' w1 x hr
      rw [hr] at h1
      obtain ⟨rfl, h2⟩ : w1 = w' ∧ a.put o.dst v = A := h1
      exact ⟨v, rfl, h2⟩
    | halt x w1 =>
      rw [hr] at h1
      cases x <;> exact h1.elim
   ·exact (no_lets _ h1).elim
  obtain ⟨v, hv1, hv2⟩ := key w (hT w)
  refine ⟨v, .inl ⟨hw, fun w' hf => ?_⟩, hv2.symm⟩
  obtain ⟨u, hu1, hu2⟩ := key w' hf
  have : u = v := put_inj (a := a) (d := d) hdl (by rw [← hd, hu2, hv2])
  rw [hu1, this]
 ·refine ⟨undef, .inr ⟨by simpa using hw, rfl⟩, ?_⟩
  have h1 := h w (hT w)
  unfold wpList at h1
  rw [if_neg hw] at h1
  exact h1.2.symm
def wpT (P : Program) (ops : Array Oper) (T : World → World → Prop) (K : Act → World → Prop) : List (Bool × Oper) → Act → World → Prop
 | [], a, w => K a w
 | (true, o) :: r, a, w => wpList P ops (GQ fun a' w' => T w w' ∧ a'.tmps.size = a.tmps.size ∧ wpT P ops T K r a' w') [o] a w
 | (false, o) :: r, a, w => ∃ A, (∀ w', T w w' → wpList P ops (GQ fun a' w'' => w'' = w' ∧ a' = A) [o] a w') ∧ wpT P ops T K r A w
def okPre (ops : Array Oper) (n : Nat) : List (Nat × Bool) → Array Bool → Bool
 | [], _ => true
 | (i, true) :: r, listed => Region.ready .any ops listed == [i] && okPre ops n r (listed.setIfInBounds i true)
 | (i, false) :: r, listed => (Region.ready .any ops listed).contains i && Region.free .any ops listed i &&
   (match ops[i]? with | some o => valOp o.op && (match o.dst with | some d => decide (d < n) | none => false) | none => false) && okPre ops n r (listed.setIfInBounds i true)
def afterL : List (Nat × Bool) → Array Bool → Array Bool
 | [], l => l
 | x :: r, l => afterL r (l.setIfInBounds x.1 true)
theorem wpT_sound (hT : ∀ w, T w w) (hTT : ∀ a b c, T a b → T b c → T a c) (hs : Region.noSelect ops = true) (hQ : ∀ c a d v w, Q (.panic c) (Act.put a d v) w → Q (.panic c) a w) (n m : Nat) (K : Act → World → Prop) :
  ∀ (order : List (Nat × Bool)) (listed : Array Bool) (fuel : Nat) (a : Act) (w : World), fuel = order.length + m → a.tmps.size = n → okPre ops n order listed = true →
    (∀ a w, a.tmps.size = n → K a w → wpAnyH P .any ops Q (T w) m (afterL order listed) a w) →
    wpT P ops T K (order.map fun x => (x.2, ops[x.1]?.getD default)) a w → wpAnyH P .any ops Q (T w) fuel listed a w
 | [], listed, fuel, a, w, hf, hn, hc, hK, h => by
   simp only [List.length_nil, Nat.zero_add] at hf
   subst hf
   exact hK a w hn h
 | (i, true) :: r, listed, fuel, a, w, hf, hn, hc, hK, h => by
   rw [List.length_cons, Nat.add_right_comm] at hf
   subst hf
   simp only [okPre, Bool.and_eq_true, beq_iff_eq] at hc
   refine wpAnyH_all hc.1 (by simp) ?_
   intro j hj
   obtain rfl := List.mem_singleton.1 hj
   have hmem : j ∈ Region.ready .any ops listed := by rw [hc.1]; simp
   obtain ⟨_, o, ho, _⟩ := mem_ready.1 hmem
   simp only [List.map_cons, ho, Option.getD_some, wpT] at h
   refine wpOp_of_list ho h ?_
   rintro a' w' ⟨hfr, hsz, hg⟩
   refine ⟨hfr, wpAnyH_mono (fun w2 h2 => hTT _ _ _ hfr h2) _ _ _ _ (wpT_sound hT hTT hs hQ n m K r _ _ a' w' rfl (hsz.trans hn) hc.2 hK hg)⟩
 | (i, false) :: r, listed, fuel, a, w, hf, hn, hc, hK, h => by
   rw [List.length_cons, Nat.add_right_comm] at hf
   subst hf
   simp only [okPre, Bool.and_eq_true] at hc
   obtain ⟨⟨⟨h1, h2⟩, h3⟩, h4⟩ := hc
   cases ho : ops[i]? with
   | none => rw [ho] at h3; simp at h3
   | some o =>
     rw [ho] at h3
     simp only [Bool.and_eq_true] at h3
     obtain ⟨hv, hd⟩ := h3
     cases hdst : o.dst with
     | none => rw [hdst] at hd; simp at hd
     | some d =>
       rw [hdst] at hd
       simp only [decide_eq_true_eq] at hd
       simp only [List.map_cons, ho, Option.getD_some, wpT] at h
       obtain ⟨A, hA, hg⟩ := h
       obtain ⟨v, hy, rfl⟩ := one_stepT hT hv hdst (by rw [hn]; exact hd) hA
       exact wpAnyH_take ho hs h2 h1 (fun c a w => hQ c a _ _ w) hy (hT w) (wpT_sound hT hTT hs hQ n m K r _ _ _ w rfl (by rw [size_put]; exact hn) h4 hK hg)
theorem wpT_done (hT : ∀ w, T w w) (hTT : ∀ a b c, T a b → T b c → T a c) (hs : Region.noSelect ops = true) (hQ : ∀ c a d v w, Q (.panic c) (Act.put a d v) w → Q (.panic c) a w) (n : Nat)
  (order : List (Nat × Bool)) (listed : Array Bool) (a : Act) (w : World) (hn : a.tmps.size = n) (hc : okPre ops n order listed = true) (he : Region.ready .any ops (afterL order listed) = [])
  (h : wpT P ops T (fun a w => Q .normal a w) (order.map fun x => (x.2, ops[x.1]?.getD default)) a w) : wpAnyH P .any ops Q (T w) order.length listed a w :=
 wpT_sound hT hTT hs hQ n 0 _ order listed _ a w rfl hn hc (fun a w _ hk => wpAnyH_done he hk 0) h
def forkT (P : Program) (ops : Array Oper) (Q : Exit → Act → World → Prop) (T : World → World → Prop) (i j : Nat) (ordI ordJ : List (Nat × Bool)) (a : Act) (w : World) : Prop :=
 wpT P ops T (fun a w => Q .normal a w) (((i, true) :: ordI).map fun x => (x.2, ops[x.1]?.getD default)) a w ∧
 wpT P ops T (fun a w => Q .normal a w) (((j, true) :: ordJ).map fun x => (x.2, ops[x.1]?.getD default)) a w
theorem wp_region_F {id : Nat} {a : Act} {w : World} (T : World → World → Prop) (hT : ∀ w, T w w) (hTT : ∀ a b c, T a b → T b c → T a c) (pre : List (Nat × Bool)) (i j : Nat) (ordI ordJ : List (Nat × Bool)) (n : Nat) (hn : a.tmps.size = n) (hm : P.follows .mixedOrders = true) (hs : Region.noSelect ops = true)
  (hc : (pre.length + (ordI.length + 1) == ops.size && ordI.length == ordJ.length && okPre ops n pre (Array.replicate ops.size false) && Region.ready .any ops (afterL pre (Array.replicate ops.size false)) == [i, j] &&
   okPre ops n ordI ((afterL pre (Array.replicate ops.size false)).setIfInBounds i true) && Region.ready .any ops (afterL ordI ((afterL pre (Array.replicate ops.size false)).setIfInBounds i true)) == [] &&
   okPre ops n ordJ ((afterL pre (Array.replicate ops.size false)).setIfInBounds j true) && Region.ready .any ops (afterL ordJ ((afterL pre (Array.replicate ops.size false)).setIfInBounds j true)) == []) = true)
  (hQ : ∀ c a d v w, Q (.panic c) (Act.put a d v) w → Q (.panic c) a w)
  (h : wpT P ops T (forkT P ops Q T i j ordI ordJ) (pre.map fun x => (x.2, ops[x.1]?.getD default)) a w.drew) : (Code.region id ops true).wp P Q a w := by
 simp only [Bool.and_eq_true, beq_iff_eq] at hc
 obtain ⟨⟨⟨⟨⟨⟨⟨hlen, hl2⟩, hpre⟩, hrd⟩, hI⟩, hIe⟩, hJ⟩, hJe⟩ := hc
 refine wp_region_held (S := T w.drew) hm ?_
 rw [← hlen]
 rw [← hlen] at hpre hrd hI hIe hJ hJe
 refine wpT_sound hT hTT hs hQ n (ordI.length + 1) _ pre _ _ a w.drew rfl hn hpre ?_ h
 intro a w hn hk
 refine wpAnyH_all hrd (by simp) ?_
 intro x hx
 have hmem : x ∈ Region.ready .any ops (afterL pre (Array.replicate (pre.length + (ordI.length + 1)) false)) := by rw [hrd]; exact hx
 obtain ⟨_, o, ho, _⟩ := mem_ready.1 hmem
 have hx' : x = i ∨ x = j := by simpa using hx
 rcases hx' with rfl | rfl
 ·have h1 := hk.1
  simp only [List.map_cons, ho, Option.getD_some, wpT] at h1
  refine wpOp_of_list ho h1 ?_
  rintro a' w' ⟨hfr, hsz, hg⟩
  exact ⟨hfr, wpAnyH_mono (fun w2 h2 => hTT _ _ _ hfr h2) _ _ _ _ (wpT_done hT hTT hs hQ n ordI _ a' w' (hsz.trans hn) hI hIe hg)⟩
 ·have h1 := hk.2
  simp only [List.map_cons, ho, Option.getD_some, wpT] at h1
  refine wpOp_of_list ho h1 ?_
  rintro a' w' ⟨hfr, hsz, hg⟩
  have hdone := wpT_done hT hTT hs hQ n ordJ _ a' w' (hsz.trans hn) hJ hJe hg
  rw [← hl2] at hdone
  exact ⟨hfr, wpAnyH_mono (fun w2 h2 => hTT _ _ _ hfr h2) _ _ _ _ hdone⟩
theorem wp_region_T {id : Nat} {a : Act} {w : World} (T : World → World → Prop) (hT : ∀ w, T w w) (hTT : ∀ a b c, T a b → T b c → T a c) (order : List (Nat × Bool)) (n : Nat) (hn : a.tmps.size = n) (hm : P.follows .mixedOrders = true) (hs : Region.noSelect ops = true)
  (hc : (order.length == ops.size && okPre ops n order (Array.replicate ops.size false) && Region.ready .any ops (afterL order (Array.replicate ops.size false)) == []) = true)
  (hQ : ∀ c a d v w, Q (.panic c) (Act.put a d v) w → Q (.panic c) a w)
  (h : wpT P ops T (fun a w => Q .normal a w) (order.map fun x => (x.2, ops[x.1]?.getD default)) a w.drew) : (Code.region id ops true).wp P Q a w := by
 simp only [Bool.and_eq_true, beq_iff_eq] at hc
 refine wp_region_held (S := T w.drew) hm ?_
 have := wpT_done hT hTT hs hQ n order _ a w.drew hn hc.1.2 hc.2 h
 rwa [hc.1.1] at this
theorem wpT_t {K : Act → World → Prop} {o : Oper} {r : List (Bool × Oper)} {a A : Act} {w : World} (h1 : ∀ w', T w w' → wpList P ops (GQ fun a' w'' => w'' = w' ∧ a' = A) [o] a w') (h2 : wpT P ops T K r A w) : wpT P ops T K ((false, o) :: r) a w := ⟨A, h1, h2⟩
theorem wpT_x {K : Act → World → Prop} {o : Oper} {r : List (Bool × Oper)} {a : Act} {w : World} (h : wpList P ops (GQ fun a' w' => T w w' ∧ a'.tmps.size = a.tmps.size ∧ wpT P ops T K r a' w') [o] a w) : wpT P ops T K ((true, o) :: r) a w := h
theorem wpT_end {K : Act → World → Prop} {a : Act} {w : World} (h : K a w) : wpT P ops T K [] a w := h
end
end Go.Proofs.YtnaamjpiaekmeaaGreat
namespace Go.Proofs.YtnaamjpiaekmeaaGreat
open Go.RowKit
section
variable {P : Program} {ops : Array Oper} {Q : Exit → Act → World → Prop} {T : World → World → Prop}
theorem anyH_step (hTT : ∀ a b c, T a b → T b c → T a c) {fuel : Nat} {listed : Array Bool} {a : Act} {w : World} (rs : List Nat) (hr : Region.ready .any ops listed = rs) (hne : rs ≠ [])
  (h : ∀ i ∈ rs, wpList P ops (GQ fun a' w' => T w w' ∧ wpAnyH P .any ops Q (T w') fuel (listed.setIfInBounds i true) a' w') [ops[i]?.getD default] a w) : wpAnyH P .any ops Q (T w) (fuel + 1) listed a w := by
 refine wpAnyH_all hr hne (fun i hi => ?_)
 have hmem : i ∈ Region.ready .any ops listed := by rw [hr]; exact hi
 obtain ⟨_, o, ho, _⟩ := mem_ready.1 hmem
 have h1 := h i hi
 rw [ho, Option.getD_some] at h1
 refine wpOp_of_list ho h1 ?_
 rintro a' w' ⟨h2, h3⟩
 exact ⟨h2, wpAnyH_mono (fun w2 hw2 => hTT _ _ _ h2 hw2) _ _ _ _ h3⟩
theorem wp_region_N {id : Nat} {a : Act} {w : World} (T : World → World → Prop) (hT : ∀ w, T w w) (hTT : ∀ a b c, T a b → T b c → T a c) (pre : List (Nat × Bool)) (m : Nat) (n : Nat) (hn : a.tmps.size = n) (hm : P.follows .mixedOrders = true) (hs : Region.noSelect ops = true)
  (hc : (pre.length + m == ops.size && okPre ops n pre (Array.replicate ops.size false)) = true)
  (hQ : ∀ c a d v w, Q (.panic c) (Act.put a d v) w → Q (.panic c) a w)
  (h : wpT P ops T (fun a w => wpAnyH P .any ops Q (T w) m (afterL pre (Array.replicate ops.size false)) a w) (pre.map fun x => (x.2, ops[x.1]?.getD default)) a w.drew) : (Code.region id ops true).wp P Q a w := by
 simp only [Bool.and_eq_true, beq_iff_eq] at hc
 obtain ⟨hlen, hpre⟩ := hc
 refine wp_region_held (S := T w.drew) hm ?_
 rw [← hlen]
 rw [← hlen] at hpre h
 exact wpT_sound hT hTT hs hQ n m _ pre _ _ a w.drew rfl hn hpre (fun a w _ hk => hk) h
end
theorem heap_apart {w : World} {b2 s2 n2 g : Nat} {e1 e2 : TypeId} {v2 : Value} {x2 : List Value} {cs : Array Value} {fr : Nat × Nat} (h1 : w.heap[g]? = some (.cells cs e1 fr)) (h2 : w.ownsRow b2 e2 s2 v2 n2 x2) (hne : e1 ≠ e2) : g ∉ v2.ownBlock.toList := by
 intro hm
 have hm' := Option.mem_toList.1 hm
 rcases h2.2 with ⟨rfl, _⟩ | ⟨g', cap', cur', rfl, _, hg', _⟩
 ·cases hm'
 ·obtain rfl : g' = g := by simpa [Value.ownBlock] using hm'
  rw [h1] at hg'
  simp only [Option.some.injEq, Obj.cells.injEq] at hg'
  exact hne hg'.2.1
end Go.Proofs.YtnaamjpiaekmeaaGreat
namespace Go.Proofs.YtnaamjpiaekmeaaGreat
section
variable {P : Program} {ops : Array Oper} {Q : Exit → Act → World → Prop} {md : Region.Mode} {L : List Nat}
def anyZ (P : Program) (md : Region.Mode) (ops : Array Oper) (Q : Exit → Act → World → Prop) (z : Nat) (T : World → Prop) : Nat → Array Bool → Act → World → Prop
 | 0, listed, a, w => Region.ready md ops listed = [] ∧ Q .normal a w
 | n + 1, listed, a, w => (Region.ready md ops listed = [] → Q .normal a w) ∧
     ∀ i, i ∈ Region.ready md ops listed → wpOp P ops Q i (fun a' w' => (i = z ∨ T w') ∧ anyZ P md ops Q z T n (listed.setIfInBounds i true) a' w') a w
theorem anyZ_any {z : Nat} {T : World → Prop} (n : Nat) : ∀ (listed : Array Bool) (a : Act) (w : World), anyZ P md ops Q z T n listed a w → wpAny P md ops Q n listed a w := by
 induction n with
 | zero => exact fun _ _ _ h => h
 | succ n ih => exact fun listed a w h => ⟨h.1, fun i hi => wpOp_mono (fun a' w' h' => ih _ a' w' h'.2) (h.2 i hi)⟩
theorem anyZ_mono {z : Nat} {T T' : World → Prop} (hT : ∀ w, T' w → T w) (n : Nat) : ∀ (listed : Array Bool) (a : Act) (w : World), anyZ P md ops Q z T' n listed a w → anyZ P md ops Q z T n listed a w := by
 induction n with
 | zero => exact fun _ _ _ h => h
 | succ n ih => exact fun listed a w h => ⟨h.1, fun i hi => wpOp_mono (fun a' w' h' => ⟨h'.1.imp id (hT w'), ih _ a' w' h'.2⟩) (h.2 i hi)⟩
def walkZ (P : Program) (ops : Array Oper) (Q : Exit → Act → World → Prop) (L : List Nat) : List (Bool × Oper) → Act → World → Prop
 | [], a, w => Q .normal a w
 | (true, o) :: r, a, w => wpList P ops (GQ fun a' w' => (r = [] ∨ Fr L w w') ∧ a'.tmps.size = a.tmps.size ∧ walkZ P ops Q L r a' w') [o] a w
 | (false, o) :: r, a, w => ∃ A, (∀ w', Fr L w w' → wpList P ops (GQ fun a' w'' => w'' = w' ∧ a' = A) [o] a w') ∧ walkZ P ops Q L r A w
theorem walkZ_t {o : Oper} {r : List (Bool × Oper)} {a A : Act} {w : World} (h1 : ∀ w', Fr L w w' → wpList P ops (GQ fun a' w'' => w'' = w' ∧ a' = A) [o] a w') (h2 : walkZ P ops Q L r A w) : walkZ P ops Q L ((false, o) :: r) a w := ⟨A, h1, h2⟩
theorem walkZ_x {o : Oper} {r : List (Bool × Oper)} {a : Act} {w : World} (h : wpList P ops (GQ fun a' w' => (r = [] ∨ Fr L w w') ∧ a'.tmps.size = a.tmps.size ∧ walkZ P ops Q L r a' w') [o] a w) : walkZ P ops Q L ((true, o) :: r) a w := h
theorem walkZ_end {a : Act} {w : World} (h : Q .normal a w) : walkZ P ops Q L [] a w := h
end
end Go.Proofs.YtnaamjpiaekmeaaGreat
namespace Go.Proofs.YtnaamjpiaekmeaaGreat
section
variable {P : Program} {ops : Array Oper} {Q : Exit → Act → World → Prop} {md : Region.Mode} {L : List Nat}
def closedY (md : Region.Mode) (ops : Array Oper) (listed : Array Bool) : Prop := ∀ k o, listed.getD k false = true → ops[k]? = some o → ∀ e ∈ o.after, Region.binds md e = true → listed.getD e.on false = true
theorem getD_mono {listed : Array Bool} {j x : Nat} (h : listed.getD x false = true) : (listed.setIfInBounds j true).getD x false = true := by
 by_cases hx : j = x
 ·subst hx
  rcases Nat.lt_or_ge j listed.size with q | q
  ·simp [q]
  ·simp [Array.getElem?_eq_none q] at h
 ·rw [getD_set_ne false hx]; exact h
theorem closedY.set {listed : Array Bool} (h : closedY md ops listed) {j : Nat} (hj : j ∈ Region.ready md ops listed) : closedY md ops (listed.setIfInBounds j true) := by
 intro k o hk ho e he hb
 by_cases hx : j = k
 ·subst hx
  obtain ⟨_, o', ho', hall⟩ := mem_ready.1 hj
  rw [ho] at ho'
  cases ho'
  exact getD_mono (hall e he hb)
 ·rw [getD_set_ne false hx] at hk
  exact getD_mono (h k o hk ho e he hb)
theorem closedY.start (n : Nat) : closedY md ops (Array.replicate n false) := by
 intro k o hk
 by_cases hn : k < n
 ·simp [hn] at hk
 ·simp [hn] at hk
def waitsY (md : Region.Mode) (ops : Array Oper) (i : Nat) : Nat → Nat → Bool
 | 0, _ => false
 | n + 1, z => match ops[z]? with
   | some o => o.after.any fun e => Region.binds md e && (e.on == i || waitsY md ops i n e.on)
   | none => false
theorem waitsY_listed {listed : Array Bool} (h : closedY md ops listed) (i : Nat) : ∀ (n z : Nat), waitsY md ops i n z = true → (∀ o, ops[z]? = some o → ∀ e ∈ o.after, Region.binds md e = true → listed.getD e.on false = true) → listed.getD i false = true
 | 0, _, hw, _ => by cases hw
 | n + 1, z, hw, hz => by
   unfold waitsY at hw
   cases ho : ops[z]? with
   | none => rw [ho] at hw; cases hw
   | some o =>
     rw [ho] at hw
     obtain ⟨e, he, hb⟩ := Array.any_eq_true'.1 hw
     simp only [Bool.and_eq_true, Bool.or_eq_true, beq_iff_eq] at hb
     have h1 := hz o ho e he hb.1
     rcases hb.2 with h2 | h2
     ·rw [← h2]; exact h1
     ·exact waitsY_listed h i n e.on h2 (fun o' ho' e' he' hb' => h e.on o' h1 ho' e' he' hb')
theorem anyZ_firstY {z i m : Nat} {T : World → Prop} {oi : Oper} {v : Value} (hi : ops[i]? = some oi) (hz : waitsY md ops i m z = true) (hsel : ∀ (j : Nat) (o : Oper) cs b, ops[j]? = some o → o.op ≠ .select cs b)
  (hQ : ∀ c a w, Q (.panic c) (a.put oi.dst v) w → Q (.panic c) a w) (n : Nat) : ∀ (listed : Array Bool) (a : Act) (w : World), closedY md ops listed →
   (∀ j oj, ops[j]? = some oj → j ≠ i → listed.getD j true = false → (∀ e ∈ oj.after, Region.binds md e = true → e.on ≠ i) → oi.apart ops oj = true) →
   i ∈ Region.ready md ops listed → YieldsIf P ops T oi v a → T w →
   anyZ P md ops Q z T n (listed.setIfInBounds i true) (a.put oi.dst v) w → anyZ P md ops Q z T (n + 1) listed a w := by
 induction n with
 | zero =>
   intro listed a w _ _ hr hy hT H
   refine ⟨fun h => (by rw [h] at hr; cases hr), fun j hj => ?_⟩
   by_cases hji : j = i
   ·subst hji
    exact hy.wpOp hi hT ⟨.inr hT, H⟩
   ·have h0 := ready_mono hj hji
    rw [H.1] at h0
    cases h0
 | succ n ih =>
   intro listed a w hcl hfree hr hy hT H
   refine ⟨fun h => (by rw [h] at hr; cases hr), fun j hj => ?_⟩
   by_cases hji : j = i
   ·subst hji
    exact hy.wpOp hi hT ⟨.inr hT, H⟩
   ·have h1 := H.2 j (ready_mono hj hji)
    obtain ⟨hjun, oj, hoj, hall⟩ := mem_ready.1 hj
    have hun := (mem_ready.1 hr).1
    have hnot : ∀ e ∈ oj.after, Region.binds md e = true → e.on ≠ i := by
     intro e he hb heq
     have h2 := hall e he hb
     rw [heq] at h2
     rcases Nat.lt_or_ge i listed.size with q | q
     ·simp [q] at hun h2; rw [hun] at h2; cases h2
     ·simp [Array.getElem?_eq_none q] at h2
    have hjz : j ≠ z := by
     intro e
     subst e
     have h2 := waitsY_listed hcl i m j hz (fun o ho e he hb => by rw [hoj] at ho; cases ho; exact hall e he hb)
     rcases Nat.lt_or_ge i listed.size with q | q
     ·simp [q] at hun h2; rw [hun] at h2; cases h2
     ·simp [Array.getElem?_eq_none q] at h2
    have h2 := wpOp_putIf hoj (hfree j oj hoj hji hjun hnot) (fun cs b => hsel i oi cs b hi) (fun cs b => hsel j oj cs b hoj) hQ hy h1
    refine wpOp_mono (fun a' w' h3 => ?_) h2
    have hT' : T w' := h3.2.1.resolve_left hjz
    refine ⟨.inr hT', ih _ a' w' (hcl.set hj) (fun k ok hk hki hku hno => hfree k ok hk hki ?_ hno) (ready_mono hr (Ne.symm hji)) h3.1 hT' ?_⟩
    ·by_cases hjk : j = k
     ·subst hjk; exact hjun
     ·rw [getD_set_ne true hjk] at hku; exact hku
    ·rw [Array.setIfInBounds_comm _ _ hji]
     exact h3.2.2
def okY (ops : Array Oper) (n z : Nat) : List (Nat × Bool) → Array Bool → Bool
 | [], listed => Region.ready .any ops listed == []
 | (i, true) :: r, listed => Region.ready .any ops listed == [i] && (!r.isEmpty || i == z) && okY ops n z r (listed.setIfInBounds i true)
 | (i, false) :: r, listed => (Region.ready .any ops listed).contains i && Region.free .any ops listed i && waitsY .any ops i ops.size z &&
   (match ops[i]? with | some o => valOp o.op && (match o.dst with | some d => decide (d < n) | none => false) | none => false) && okY ops n z r (listed.setIfInBounds i true)
theorem walkY_sound (hs : Region.noSelect ops = true) (hQ : ∀ c a d v w, Q (.panic c) (Act.put a d v) w → Q (.panic c) a w) (n z : Nat) :
  ∀ (order : List (Nat × Bool)) (listed : Array Bool) (fuel : Nat) (a : Act) (w : World), fuel = order.length → a.tmps.size = n → closedY .any ops listed → okY ops n z order listed = true →
    walkZ P ops Q L (order.map fun x => (x.2, ops[x.1]?.getD default)) a w → anyZ P .any ops Q z (Fr L w) fuel listed a w
 | [], listed, fuel, a, w, hf, hn, hcl, hc, h => by
   subst hf
   exact ⟨by simpa [okY] using hc, h⟩
 | (i, true) :: r, listed, fuel, a, w, hf, hn, hcl, hc, h => by
   subst hf
   simp only [okY, Bool.and_eq_true, beq_iff_eq] at hc
   obtain ⟨⟨h1, h2⟩, h3⟩ := hc
   have hmem : i ∈ Region.ready .any ops listed := by rw [h1]; simp
   obtain ⟨_, o, ho, _⟩ := mem_ready.1 hmem
   simp only [List.map_cons, ho, Option.getD_some, walkZ] at h
   refine ⟨fun e => (by rw [h1] at e; cases e), fun j hj => ?_⟩
   rw [h1] at hj
   obtain rfl := List.mem_singleton.1 hj
   refine wpOp_of_list ho h ?_
   rintro a' w' ⟨hfr, hsz, hg⟩
   have hg' := walkY_sound hs hQ n z r _ _ a' w' rfl (hsz.trans hn) (hcl.set hmem) h3 hg
   rcases hfr with hfr | hfr
   ·have hr : r = [] := by simpa using hfr
    subst hr
    refine ⟨.inl (by simpa using h2), ?_⟩
    exact hg'
   ·exact ⟨.inr hfr, anyZ_mono (fun w2 hw2 => hfr.trans hw2 (fun i hi _ => hi) (fun i hi _ => hi)) _ _ _ _ hg'⟩
 | (i, false) :: r, listed, fuel, a, w, hf, hn, hcl, hc, h => by
   subst hf
   simp only [okY, Bool.and_eq_true] at hc
   obtain ⟨⟨⟨⟨h1, h2⟩, hw⟩, h3⟩, h4⟩ := hc
   cases ho : ops[i]? with
   | none => rw [ho] at h3; simp at h3
   | some o =>
     rw [ho] at h3
     simp only [Bool.and_eq_true] at h3
     obtain ⟨hv, hd⟩ := h3
     cases hdst : o.dst with
     | none => rw [hdst] at hd; simp at hd
     | some d =>
       rw [hdst] at hd
       simp only [decide_eq_true_eq] at hd
       simp only [List.map_cons, ho, Option.getD_some, walkZ] at h
       obtain ⟨A, hA, hg⟩ := h
       obtain ⟨v, hy, rfl⟩ := one_step hv hdst (by rw [hn]; exact hd) hA
       have hmem : i ∈ Region.ready .any ops listed := by simpa using h1
       exact anyZ_firstY ho hw (Region.noSelect_spec hs) (fun c a w => hQ c a _ _ w) r.length listed a w hcl (Region.free_spec ho h2) hmem hy (Fr.refl _ _)
        (walkY_sound hs hQ n z r _ _ _ w rfl (by rw [size_put]; exact hn) (hcl.set hmem) h4 hg)
theorem wp_region_Y {id : Nat} {a : Act} {w : World} (L : List Nat) (z : Nat) (order : List (Nat × Bool)) (n : Nat) (hn : a.tmps.size = n) (hm : P.follows .mixedOrders = true) (hs : Region.noSelect ops = true)
  (hc : (order.length == ops.size && okY ops n z order (Array.replicate ops.size false)) = true) (hQ : ∀ c a d v w, Q (.panic c) (Act.put a d v) w → Q (.panic c) a w)
  (h : ∀ wd, Fr [] w wd → walkZ P ops Q L (order.map fun x => (x.2, ops[x.1]?.getD default)) a wd) : (Code.region id ops true).wp P Q a w := by
 simp only [Bool.and_eq_true, beq_iff_eq] at hc
 exact wp_region_any hm (anyZ_any _ _ _ _ (walkY_sound hs hQ n z order _ _ _ _ hc.1.symm hn (closedY.start _) hc.2 (h w.drew (Fr.drew w))))
end
end Go.Proofs.YtnaamjpiaekmeaaGreat
namespace Go.Proofs.YtnaamjpiaekmeaaGreat
section
variable {P : Program} {ops : Array Oper} {Q : Exit → Act → World → Prop} {md : Region.Mode} {L : List Nat}
def anyQ (P : Program) (md : Region.Mode) (ops : Array Oper) (Q : Exit → Act → World → Prop) (zs : List Nat) (T : World → Prop) : Nat → Array Bool → Act → World → Prop
 | 0, listed, a, w => Region.ready md ops listed = [] ∧ Q .normal a w
 | n + 1, listed, a, w => (Region.ready md ops listed = [] → Q .normal a w) ∧
     ∀ i, i ∈ Region.ready md ops listed → wpOp P ops Q i (fun a' w' => (i ∈ zs ∨ T w') ∧ anyQ P md ops Q zs T n (listed.setIfInBounds i true) a' w') a w
theorem anyQ_any {zs : List Nat} {T : World → Prop} (n : Nat) : ∀ (listed : Array Bool) (a : Act) (w : World), anyQ P md ops Q zs T n listed a w → wpAny P md ops Q n listed a w := by
 induction n with
 | zero => exact fun _ _ _ h => h
 | succ n ih => exact fun listed a w h => ⟨h.1, fun i hi => wpOp_mono (fun a' w' h' => ih _ a' w' h'.2) (h.2 i hi)⟩
theorem anyQ_mono {zs : List Nat} {T T' : World → Prop} (hT : ∀ w, T' w → T w) (n : Nat) : ∀ (listed : Array Bool) (a : Act) (w : World), anyQ P md ops Q zs T' n listed a w → anyQ P md ops Q zs T n listed a w := by
 induction n with
 | zero => exact fun _ _ _ h => h
 | succ n ih => exact fun listed a w h => ⟨h.1, fun i hi => wpOp_mono (fun a' w' h' => ⟨h'.1.imp id (hT w'), ih _ a' w' h'.2⟩) (h.2 i hi)⟩
theorem anyQ_first {zs : List Nat} {i m : Nat} {T : World → Prop} {oi : Oper} {v : Value} (hi : ops[i]? = some oi) (hz : ∀ z ∈ zs, waitsY md ops i m z = true) (hsel : ∀ (j : Nat) (o : Oper) cs b, ops[j]? = some o → o.op ≠ .select cs b)
  (hQ : ∀ c a w, Q (.panic c) (a.put oi.dst v) w → Q (.panic c) a w) (n : Nat) : ∀ (listed : Array Bool) (a : Act) (w : World), closedY md ops listed →
   (∀ j oj, ops[j]? = some oj → j ≠ i → listed.getD j true = false → (∀ e ∈ oj.after, Region.binds md e = true → e.on ≠ i) → oi.apart ops oj = true) →
   i ∈ Region.ready md ops listed → YieldsIf P ops T oi v a → T w →
   anyQ P md ops Q zs T n (listed.setIfInBounds i true) (a.put oi.dst v) w → anyQ P md ops Q zs T (n + 1) listed a w := by
 induction n with
 | zero =>
   intro listed a w _ _ hr hy hT H
   refine ⟨fun h => (by rw [h] at hr; cases hr), fun j hj => ?_⟩
   by_cases hji : j = i
   ·subst hji
    exact hy.wpOp hi hT ⟨.inr hT, H⟩
   ·have h0 := ready_mono hj hji
    rw [H.1] at h0
    cases h0
 | succ n ih =>
   intro listed a w hcl hfree hr hy hT H
   refine ⟨fun h => (by rw [h] at hr; cases hr), fun j hj => ?_⟩
   by_cases hji : j = i
   ·subst hji
    exact hy.wpOp hi hT ⟨.inr hT, H⟩
   ·have h1 := H.2 j (ready_mono hj hji)
    obtain ⟨hjun, oj, hoj, hall⟩ := mem_ready.1 hj
    have hun := (mem_ready.1 hr).1
    have hnot : ∀ e ∈ oj.after, Region.binds md e = true → e.on ≠ i := by
     intro e he hb heq
     have h2 := hall e he hb
     rw [heq] at h2
     rcases Nat.lt_or_ge i listed.size with q | q
     ·simp [q] at hun h2; rw [hun] at h2; cases h2
     ·simp [Array.getElem?_eq_none q] at h2
    have hjz : j ∉ zs := by
     intro hm
     have h2 := waitsY_listed hcl i m j (hz j hm) (fun o ho e he hb => by rw [hoj] at ho; cases ho; exact hall e he hb)
     rcases Nat.lt_or_ge i listed.size with q | q
     ·simp [q] at hun h2; rw [hun] at h2; cases h2
     ·simp [Array.getElem?_eq_none q] at h2
    have h2 := wpOp_putIf hoj (hfree j oj hoj hji hjun hnot) (fun cs b => hsel i oi cs b hi) (fun cs b => hsel j oj cs b hoj) hQ hy h1
    refine wpOp_mono (fun a' w' h3 => ?_) h2
    have hT' : T w' := h3.2.1.resolve_left hjz
    refine ⟨.inr hT', ih _ a' w' (hcl.set hj) (fun k ok hk hki hku hno => hfree k ok hk hki ?_ hno) (ready_mono hr (Ne.symm hji)) h3.1 hT' ?_⟩
    ·by_cases hjk : j = k
     ·subst hjk; exact hjun
     ·rw [getD_set_ne true hjk] at hku; exact hku
    ·rw [Array.setIfInBounds_comm _ _ hji]
     exact h3.2.2
def walkQ (P : Program) (ops : Array Oper) (Q : Exit → Act → World → Prop) (L : List Nat) : List (Nat × Oper) → Act → World → Prop
 | [], a, w => Q .normal a w
 | (0, o) :: r, a, w => ∃ A, (∀ w', Fr L w w' → wpList P ops (GQ fun a' w'' => w'' = w' ∧ a' = A) [o] a w') ∧ walkQ P ops Q L r A w
 | (1, o) :: r, a, w => wpList P ops (GQ fun a' w' => Fr L w w' ∧ a'.tmps.size = a.tmps.size ∧ walkQ P ops Q L r a' w') [o] a w
 | (_ + 2, o) :: r, a, w => wpList P ops (GQ fun a' w' => a'.tmps.size = a.tmps.size ∧ walkQ P ops Q L r a' w') [o] a w
def okQ (ops : Array Oper) (n : Nat) (zs : List Nat) : List (Nat × Nat) → Array Bool → Bool
 | [], listed => Region.ready .any ops listed == []
 | (i, 0) :: r, listed => (Region.ready .any ops listed).contains i && Region.free .any ops listed i && zs.all (waitsY .any ops i ops.size) &&
   (match ops[i]? with | some o => valOp o.op && (match o.dst with | some d => decide (d < n) | none => false) | none => false) && okQ ops n zs r (listed.setIfInBounds i true)
 | (i, 1) :: r, listed => Region.ready .any ops listed == [i] && okQ ops n zs r (listed.setIfInBounds i true)
 | (i, _ + 2) :: r, listed => Region.ready .any ops listed == [i] && zs.contains i && r.all (fun x => decide (2 ≤ x.2)) && okQ ops n zs r (listed.setIfInBounds i true)
theorem walkQ_last (n : Nat) (zs : List Nat) (T : World → Prop) :
  ∀ (order : List (Nat × Nat)) (listed : Array Bool) (fuel : Nat) (a : Act) (w : World), fuel = order.length → order.all (fun x => decide (2 ≤ x.2)) = true → okQ ops n zs order listed = true →
    walkQ P ops Q L (order.map fun x => (x.2, ops[x.1]?.getD default)) a w → anyQ P .any ops Q zs T fuel listed a w
 | [], listed, fuel, a, w, hf, _, hc, h => by
   subst hf
   exact ⟨by simpa [okQ] using hc, h⟩
 | (i, 0) :: r, listed, fuel, a, w, _, h2, _, _ => by simp at h2
 | (i, 1) :: r, listed, fuel, a, w, _, h2, _, _ => by simp at h2
 | (i, k + 2) :: r, listed, fuel, a, w, hf, h2, hc, h => by
   subst hf
   simp only [okQ, Bool.and_eq_true, beq_iff_eq] at hc
   obtain ⟨⟨⟨h1, h3⟩, h4⟩, h5⟩ := hc
   have hmem : i ∈ Region.ready .any ops listed := by rw [h1]; simp
   obtain ⟨_, o, ho, _⟩ := mem_ready.1 hmem
   simp only [List.map_cons, ho, Option.getD_some, walkQ] at h
   refine ⟨fun e => (by rw [h1] at e; cases e), fun j hj => ?_⟩
   rw [h1] at hj
   obtain rfl := List.mem_singleton.1 hj
   refine wpOp_of_list ho h ?_
   rintro a' w' ⟨hsz, hg⟩
   exact ⟨.inl (by simpa using h3), walkQ_last n zs T r _ _ a' w' rfl h4 h5 hg⟩
theorem walkQ_sound (hs : Region.noSelect ops = true) (hQ : ∀ c a d v w, Q (.panic c) (Act.put a d v) w → Q (.panic c) a w) (n : Nat) (zs : List Nat) :
  ∀ (order : List (Nat × Nat)) (listed : Array Bool) (fuel : Nat) (a : Act) (w : World), fuel = order.length → a.tmps.size = n → closedY .any ops listed → okQ ops n zs order listed = true →
    walkQ P ops Q L (order.map fun x => (x.2, ops[x.1]?.getD default)) a w → anyQ P .any ops Q zs (Fr L w) fuel listed a w
 | [], listed, fuel, a, w, hf, hn, hcl, hc, h => by
   subst hf
   exact ⟨by simpa [okQ] using hc, h⟩
 | (i, k + 2) :: r, listed, fuel, a, w, hf, hn, hcl, hc, h => by
   have hc' := hc
   simp only [okQ, Bool.and_eq_true, beq_iff_eq] at hc'
   exact walkQ_last n zs _ _ listed fuel a w hf (by simp only [List.all_cons, Bool.and_eq_true]; exact ⟨by simp, hc'.1.2⟩) hc h
 | (i, 1) :: r, listed, fuel, a, w, hf, hn, hcl, hc, h => by
   subst hf
   simp only [okQ, Bool.and_eq_true, beq_iff_eq] at hc
   obtain ⟨h1, h3⟩ := hc
   have hmem : i ∈ Region.ready .any ops listed := by rw [h1]; simp
   obtain ⟨_, o, ho, _⟩ := mem_ready.1 hmem
   simp only [List.map_cons, ho, Option.getD_some, walkQ] at h
   refine ⟨fun e => (by rw [h1] at e; cases e), fun j hj => ?_⟩
   rw [h1] at hj
   obtain rfl := List.mem_singleton.1 hj
   refine wpOp_of_list ho h ?_
   rintro a' w' ⟨hfr, hsz, hg⟩
   have hg' := walkQ_sound hs hQ n zs r _ _ a' w' rfl (hsz.trans hn) (hcl.set hmem) h3 hg
   exact ⟨.inr hfr, anyQ_mono (fun w2 hw2 => hfr.trans hw2 (fun i hi _ => hi) (fun i hi _ => hi)) _ _ _ _ hg'⟩
 | (i, 0) :: r, listed, fuel, a, w, hf, hn, hcl, hc, h => by
   subst hf
   simp only [okQ, Bool.and_eq_true] at hc
   obtain ⟨⟨⟨⟨h1, h2⟩, hw⟩, h3⟩, h4⟩ := hc
   cases ho : ops[i]? with
   | none => rw [ho] at h3; simp at h3
   | some o =>
     rw [ho] at h3
     simp only [Bool.and_eq_true] at h3
     obtain ⟨hv, hd⟩ := h3
     cases hdst : o.dst with
     | none => rw [hdst] at hd; simp at hd
     | some d =>
       rw [hdst] at hd
       simp only [decide_eq_true_eq] at hd
       simp only [List.map_cons, ho, Option.getD_some, walkQ] at h
       obtain ⟨A, hA, hg⟩ := h
       obtain ⟨v, hy, rfl⟩ := one_step hv hdst (by rw [hn]; exact hd) hA
       have hmem : i ∈ Region.ready .any ops listed := by simpa using h1
       exact anyQ_first ho (fun z hm => List.all_eq_true.1 hw z hm) (Region.noSelect_spec hs) (fun c a w => hQ c a _ _ w) r.length listed a w hcl (Region.free_spec ho h2) hmem hy (Fr.refl _ _)
        (walkQ_sound hs hQ n zs r _ _ _ w rfl (by rw [size_put]; exact hn) (hcl.set hmem) h4 hg)
theorem wp_region_Q {id : Nat} {a : Act} {w : World} (L zs : List Nat) (order : List (Nat × Nat)) (n : Nat) (hn : a.tmps.size = n) (hm : P.follows .mixedOrders = true) (hs : Region.noSelect ops = true)
  (hc : (order.length == ops.size && okQ ops n zs order (Array.replicate ops.size false)) = true) (hQ : ∀ c a d v w, Q (.panic c) (Act.put a d v) w → Q (.panic c) a w)
  (h : ∀ wd, Fr [] w wd → walkQ P ops Q L (order.map fun x => (x.2, ops[x.1]?.getD default)) a wd) : (Code.region id ops true).wp P Q a w := by
 simp only [Bool.and_eq_true, beq_iff_eq] at hc
 exact wp_region_any hm (anyQ_any _ _ _ _ (walkQ_sound hs hQ n zs order _ _ _ _ hc.1.symm hn (closedY.start _) hc.2 (h w.drew (Fr.drew w))))
theorem walkQ_t {o : Oper} {r : List (Nat × Oper)} {a A : Act} {w : World} (h1 : ∀ w', Fr L w w' → wpList P ops (GQ fun a' w'' => w'' = w' ∧ a' = A) [o] a w') (h2 : walkQ P ops Q L r A w) : walkQ P ops Q L ((0, o) :: r) a w := ⟨A, h1, h2⟩
theorem walkQ_x {o : Oper} {r : List (Nat × Oper)} {a : Act} {w : World} (h : wpList P ops (GQ fun a' w' => Fr L w w' ∧ a'.tmps.size = a.tmps.size ∧ walkQ P ops Q L r a' w') [o] a w) : walkQ P ops Q L ((1, o) :: r) a w := h
theorem walkQ_z {o : Oper} {r : List (Nat × Oper)} {a : Act} {w : World} (h : wpList P ops (GQ fun a' w' => a'.tmps.size = a.tmps.size ∧ walkQ P ops Q L r a' w') [o] a w) : walkQ P ops Q L ((2, o) :: r) a w := h
theorem walkQ_end {a : Act} {w : World} (h : Q .normal a w) : walkQ P ops Q L [] a w := h
end
end Go.Proofs.YtnaamjpiaekmeaaGreat
namespace Go.Proofs.YtnaamjpiaekmeaaGreat
open Go.RowKit
def fillAt (w : World) (b : Nat) (t : TypeId) (z : Value) (l : List Value) (k : Nat) : Prop := w.heap[b]? = some (.cells (l.take k ++ List.replicate (l.length - k) z).toArray t (0, 0))
theorem fill_zero {w : World} {b : Nat} {t : TypeId} {z : Value} {l : List Value} {n : Nat} (hn : n = l.length) (h : w.heap[b]? = some (.cells (List.replicate n z).toArray t (0, 0))) : fillAt w b t z l 0 := by
 unfold fillAt; rw [h, hn]; simp
theorem fill_free {w : World} {b : Nat} {t : TypeId} {z : Value} {l : List Value} {k : Nat} (h : fillAt w b t z l k) (i : Nat) : w.frozen? ⟨b, i, none⟩ = false := free_of_heap h i
theorem fill_cell {w : World} {b : Nat} {t : TypeId} {z : Value} {l : List Value} {k : Nat} (h : fillAt w b t z l k) (hk : k < l.length) : w.cell? ⟨b, k, none⟩ = some z := by
 have hl : (l.take k).length = k := by rw [List.length_take]; omega
 rw [cell_of_heap h]
 simp only [List.getElem?_toArray]
 rw [List.getElem?_append_right (by omega), hl, List.getElem?_replicate]
 simp; omega
theorem fill_lt {w : World} {b : Nat} {t : TypeId} {z : Value} {l : List Value} {k : Nat} (h : fillAt w b t z l k) : b < w.heap.size := (Array.getElem?_eq_some_iff.1 h).1
theorem fill_below {w w' : World} {b : Nat} {t : TypeId} {z : Value} {l : List Value} {k : Nat} (h : fillAt w b t z l k) (hf : Fr [] w w') : fillAt w' b t z l k := hf.heap h (by simp)
theorem set_fill {l : List Value} {k : Nat} {z : Value} (hk : k < l.length) : ((l.take k ++ List.replicate (l.length - k) z).toArray).setIfInBounds k (l[k]'hk) = (l.take (k + 1) ++ List.replicate (l.length - (k + 1)) z).toArray := by
 have hl : (l.take k).length = k := by rw [List.length_take]; omega
 apply Array.ext'
 simp only [List.setIfInBounds_toArray]
 rw [List.set_append_right _ _ (by omega), hl, Nat.sub_self, show l.length - k = (l.length - (k + 1)) + 1 by omega, List.replicate_succ, List.set_cons_zero, List.take_succ_eq_append_getElem hk, List.append_assoc]
 rfl
theorem fill_next {w : World} {b : Nat} {t : TypeId} {z v : Value} {l : List Value} {k : Nat} (h : fillAt w b t z l k) (hk : k < l.length) (hv : v = l[k]'hk) : fillAt (w.setCell ⟨b, k, none⟩ v) b t z l (k + 1) := by
 unfold fillAt at h ⊢
 rw [heap_setCell_same h, hv, set_fill hk]
theorem fill_end {w : World} {b : Nat} {t : TypeId} {z : Value} {l : List Value} {k : Nat} (h : fillAt w b t z l k) (hk : k = l.length) (hm : l.length ≤ maxLen) : cellsAt w (.slice (some ⟨b, 0, none⟩) l.length l.length) l := by
 subst hk
 unfold fillAt at h
 rw [List.take_length, Nat.sub_self, List.replicate_zero, List.append_nil] at h
 refine .inr ⟨b, 0, l.length, rfl, Nat.le_refl _, hm, fun i hi => ?_⟩
 rw [cell_of_heap h]
 simp [hi]
end Go.Proofs.YtnaamjpiaekmeaaGreat
namespace Go.Proofs.YtnaamjpiaekmeaaGreat
open Go.RowKit
structure Mk where
 i : Nat
 d : Nat
 deps : List Nat
section
variable {P : Program} {ops : Array Oper} {Q : Exit → Act → World → Prop} {T : World → World → Prop}
def putM (a : Act) (M : List Mk) (vs : Nat → Value) : Act := M.foldl (fun a m => a.put (some m.d) (vs m.i)) a
theorem putM_size (vs : Nat → Value) : ∀ (M : List Mk) (a : Act), (putM a M vs).tmps.size = a.tmps.size
 | [], _ => rfl
 | m :: M, a => by
   show (putM (a.put (some m.d) (vs m.i)) M vs).tmps.size = _
   rw [putM_size vs M, size_put]
theorem act_ext {a b : Act} (h1 : a.tmps = b.tmps) (h2 : a.defers = b.defers) : a = b := by cases a; cases b; simp_all
theorem put_tmps (a : Act) (d : Nat) (v : Value) : (a.put (some d) v).tmps = a.tmps.setIfInBounds d v := rfl
theorem put_defers (a : Act) (d : Option Nat) (v : Value) : (a.put d v).defers = a.defers := by cases d <;> rfl
theorem put_comm (a : Act) {d e : Nat} (u v : Value) (h : d ≠ e) : (a.put (some d) u).put (some e) v = (a.put (some e) v).put (some d) u := by
 refine act_ext ?_ (by rw [put_defers, put_defers, put_defers, put_defers])
 rw [put_tmps, put_tmps, put_tmps, put_tmps]
 exact Array.setIfInBounds_comm _ _ h
theorem put_put (a : Act) (d : Nat) (u v : Value) : (a.put (some d) u).put (some d) v = a.put (some d) v := by
 refine act_ext ?_ (by rw [put_defers, put_defers, put_defers])
 rw [put_tmps, put_tmps, put_tmps]
 simp
theorem putM_out (vs : Nat → Value) (d : Nat) (v : Value) : ∀ (M : List Mk) (a : Act), (∀ m ∈ M, m.d ≠ d) → (putM a M vs).put (some d) v = putM (a.put (some d) v) M vs
 | [], _, _ => rfl
 | m :: M, a, h => by
   show (putM (a.put (some m.d) (vs m.i)) M vs).put (some d) v = putM ((a.put (some d) v).put (some m.d) (vs m.i)) M vs
   rw [putM_out vs d v M _ (fun x hx => h x (by simp [hx])), put_comm a _ _ (h m (by simp))]
theorem putM_vs {vs us : Nat → Value} : ∀ (M : List Mk) (a : Act), (∀ m ∈ M, vs m.i = us m.i) → putM a M vs = putM a M us
 | [], _, _ => rfl
 | m :: M, a, h => by
   show putM (a.put (some m.d) (vs m.i)) M vs = putM (a.put (some m.d) (us m.i)) M us
   rw [h m (by simp), putM_vs M _ (fun x hx => h x (by simp [hx]))]
theorem putM_put (vs : Nat → Value) (v : Value) : ∀ (M : List Mk) (a : Act), (M.map Mk.d).Nodup → (M.map Mk.i).Nodup → ∀ m ∈ M, (putM a M vs).put (some m.d) v = putM a M (fun j => if j = m.i then v else vs j)
 | [], _, _, _, m, hm => by simp at hm
 | x :: M, a, hd, hi, m, hm => by
   rw [List.map_cons, List.nodup_cons] at hd hi
   show (putM (a.put (some x.d) (vs x.i)) M vs).put (some m.d) v = putM (a.put (some x.d) ((fun j => if j = m.i then v else vs j) x.i)) M (fun j => if j = m.i then v else vs j)
   rcases List.mem_cons.1 hm with e | hm
   ·subst e
    have h1 : ∀ y ∈ M, y.d ≠ m.d := fun y hy q => hd.1 (by rw [← q]; exact List.mem_map.2 ⟨y, hy, rfl⟩)
    have h2 : ∀ y ∈ M, vs y.i = (fun j => if j = m.i then v else vs j) y.i := fun y hy => by
     have : y.i ≠ m.i := fun q => hi.1 (by rw [← q]; exact List.mem_map.2 ⟨y, hy, rfl⟩)
     simp only [if_neg this]
    rw [putM_out vs m.d v M _ h1, put_put, putM_vs (us := fun j => if j = m.i then v else vs j) M _ h2]
    simp only [if_pos]
   ·have h2 : x.i ≠ m.i := fun q => hi.1 (by rw [q]; exact List.mem_map.2 ⟨m, hm, rfl⟩)
    rw [putM_put vs v M _ hd.2 hi.2 m hm]
    simp only [if_neg h2]
theorem putM_self (n : Nat) : ∀ (M : List Mk) (a : Act) (vs : Nat → Value), (∀ m ∈ M, a.tmps[m.d]? = some (vs m.i)) → putM a M vs = a
 | [], _, _, _ => rfl
 | m :: M, a, vs, h => by
   have e : a.put (some m.d) (vs m.i) = a := by
    refine act_ext ?_ (put_defers _ _ _)
    rw [put_tmps]
    have h1 := h m (by simp)
    apply Array.ext_getElem?
    intro j
    rw [Array.getElem?_setIfInBounds]
    by_cases q : m.d = j
    ·subst q
     rw [if_pos rfl]
     have := (Array.getElem?_eq_some_iff.1 h1).1
     rw [if_pos this, h1]
    ·rw [if_neg q]
   show putM (a.put (some m.d) (vs m.i)) M vs = a
   rw [e]
   exact putM_self n M a vs (fun x hx => h x (by simp [hx]))
def okMk (ops : Array Oper) (M : List Mk) (tgt : Array Bool) : Nat → List Nat → Array Bool → Bool
 | 0, R, listed => R.isEmpty && listed == tgt
 | k + 1, R, listed => !(Region.ready .any ops listed).isEmpty && (Region.ready .any ops listed).all fun j => R.contains j && (M.any fun m => m.i == j) && (M.all fun m => m.i != j || m.deps.all fun q => !R.contains q) && okMk ops M tgt k (R.erase j) (listed.setIfInBounds j true)
def mkK (P : Program) (ops : Array Oper) (T : World → World → Prop) (M : List Mk) (G : Nat → Value → World → Prop) (X : Value → Value → Prop) (K : Act → World → Prop) (a : Act) (w : World) : Prop :=
 (∀ m ∈ M, ∀ (vs : Nat → Value) (w' : World), T w w' → (∀ j ∈ m.deps, G j (vs j) w') → wpList P ops (GQ fun a' w'' => T w' w'' ∧ ∃ v, G m.i v w'' ∧ (∀ j u, G j u w' → X v u ∧ X u v) ∧ a' = (putM a M vs).put (some m.d) v) [ops[m.i]?.getD default] (putM a M vs) w') ∧
 (∀ (vs : Nat → Value) (w' : World), T w w' → (∀ m ∈ M, G m.i (vs m.i) w') → (∀ x ∈ M, ∀ y ∈ M, x.i ≠ y.i → X (vs x.i) (vs y.i)) → K (putM a M vs) w')
theorem wpMk_sound (hTT : ∀ a b c, T a b → T b c → T a c) (M : List Mk) (G : Nat → Value → World → Prop) (X : Value → Value → Prop) (hG : ∀ i v w w', T w w' → G i v w → G i v w') (hMd : (M.map Mk.d).Nodup) (hMi : (M.map Mk.i).Nodup) (tgt : Array Bool) (m : Nat) (K : Act → World → Prop) (a : Act) (w0 : World)
  (hdep : ∀ x ∈ M, ∀ j ∈ x.deps, ∃ y ∈ M, y.i = j)
  (hend : ∀ vs w', T w0 w' → (∀ x ∈ M, G x.i (vs x.i) w') → (∀ x ∈ M, ∀ y ∈ M, x.i ≠ y.i → X (vs x.i) (vs y.i)) → wpAnyH P .any ops Q (T w') m tgt (putM a M vs) w')
  (hstep : ∀ x ∈ M, ∀ (vs : Nat → Value) (w' : World), T w0 w' → (∀ j ∈ x.deps, G j (vs j) w') → wpList P ops (GQ fun a' w'' => T w' w'' ∧ ∃ v, G x.i v w'' ∧ (∀ j u, G j u w' → X v u ∧ X u v) ∧ a' = (putM a M vs).put (some x.d) v) [ops[x.i]?.getD default] (putM a M vs) w') :
  ∀ (k : Nat) (R : List Nat) (listed : Array Bool) (vs : Nat → Value) (w : World), okMk ops M tgt k R listed = true → T w0 w → (∀ x ∈ M, x.i ∉ R → G x.i (vs x.i) w) → (∀ x ∈ M, ∀ y ∈ M, x.i ∉ R → y.i ∉ R → x.i ≠ y.i → X (vs x.i) (vs y.i)) → R.Nodup → wpAnyH P .any ops Q (T w) (k + m) listed (putM a M vs) w
 | 0, R, listed, vs, w, hc, hT0, hI, hX, _ => by
   simp only [okMk, Bool.and_eq_true, List.isEmpty_iff, beq_iff_eq] at hc
   obtain ⟨rfl, rfl⟩ := hc
   rw [Nat.zero_add]
   exact hend vs w hT0 (fun x hx => hI x hx (by simp)) (fun x hx y hy e => hX x hx y hy (by simp) (by simp) e)
 | k + 1, R, listed, vs, w, hc, hT0, hI, hX, hR => by
   simp only [okMk, Bool.and_eq_true, Bool.not_eq_true', List.all_eq_true] at hc
   obtain ⟨hne, hall⟩ := hc
   rw [Nat.add_right_comm]
   refine wpAnyH_all rfl (fun e => by rw [e] at hne; simp at hne) ?_
   intro j hj
   obtain ⟨⟨⟨h1, h2⟩, h3⟩, h4⟩ := hall j hj
   rw [List.any_eq_true] at h2
   obtain ⟨x, hx, hxj⟩ := h2
   have hxj : x.i = j := by simpa using hxj
   subst hxj
   obtain ⟨_, o, ho, _⟩ := mem_ready.1 hj
   have hd : ∀ q ∈ x.deps, G q (vs q) w := fun q hq => by
    have h5 := h3 x hx
    simp only [bne_self_eq_false, Bool.false_or, List.all_eq_true, Bool.not_eq_true'] at h5
    have h6 := h5 q hq
    obtain ⟨y, hy, rfl⟩ := hdep x hx q hq
    exact hI y hy (by simpa using h6)
   have h := hstep x hx vs w hT0 hd
   rw [ho, Option.getD_some] at h
   refine wpOp_of_list ho h ?_
   rintro a' w' ⟨hfr, v, hgv, hxv, rfl⟩
   refine ⟨hfr, ?_⟩
   rw [putM_put vs v M a hMd hMi x hx]
   refine wpAnyH_mono (fun w2 h2 => hTT _ _ _ hfr h2) _ _ _ _ (wpMk_sound hTT M G X hG hMd hMi tgt m K a w0 hdep hend hstep k (R.erase x.i) _ _ w' h4 (hTT _ _ _ hT0 hfr) ?_ ?_ (hR.erase _))
   ·intro y hy hyR
    by_cases e : y.i = x.i
    ·simp only [e, if_true]
     exact hgv
    ·simp only [if_neg e]
     exact hG _ _ _ _ hfr (hI y hy (fun q => hyR ((List.mem_erase_of_ne e).2 q)))
   ·intro y hy z hz hyR hzR hne
    by_cases e : y.i = x.i
    ·have e2 : ¬ z.i = x.i := fun q => hne (e.trans q.symm)
     simp only [e, if_true, if_neg e2]
     exact (hxv z.i (vs z.i) (hI z hz (fun q => hzR ((List.mem_erase_of_ne e2).2 q)))).1
    ·by_cases e2 : z.i = x.i
     ·simp only [e2, if_true, if_neg e]
      exact (hxv y.i (vs y.i) (hI y hy (fun q => hyR ((List.mem_erase_of_ne e).2 q)))).2
     ·simp only [if_neg e, if_neg e2]
      exact hX y hy z hz (fun q => hyR ((List.mem_erase_of_ne e).2 q)) (fun q => hzR ((List.mem_erase_of_ne e2).2 q)) hne
theorem wp_region_M {id : Nat} {a : Act} {w : World} (T : World → World → Prop) (hT : ∀ w, T w w) (hTT : ∀ a b c, T a b → T b c → T a c) (pre : List (Nat × Bool)) (M : List Mk) (post : List (Nat × Bool)) (G : Nat → Value → World → Prop) (X : Value → Value → Prop) (hG : ∀ i v w w', T w w' → G i v w → G i v w') (n : Nat) (hn : a.tmps.size = n) (hm : P.follows .mixedOrders = true) (hs : Region.noSelect ops = true)
  (hc : (pre.length + (M.length + post.length) == ops.size && okPre ops n pre (Array.replicate ops.size false) && okMk ops M (M.foldl (fun l x => l.setIfInBounds x.i true) (afterL pre (Array.replicate ops.size false))) M.length (M.map Mk.i) (afterL pre (Array.replicate ops.size false)) &&
   okPre ops n post (M.foldl (fun l x => l.setIfInBounds x.i true) (afterL pre (Array.replicate ops.size false))) && Region.ready .any ops (afterL post (M.foldl (fun l x => l.setIfInBounds x.i true) (afterL pre (Array.replicate ops.size false)))) == [] &&
   decide (M.map Mk.d).Nodup && decide (M.map Mk.i).Nodup && M.all (fun x => decide (x.d < n)) && M.all (fun x => x.deps.all fun j => M.any fun y => y.i == j)) = true)
  (hQ : ∀ c a d v w, Q (.panic c) (Act.put a d v) w → Q (.panic c) a w)
  (h : wpT P ops T (mkK P ops T M G X (wpT P ops T (fun a w => Q .normal a w) (post.map fun x => (x.2, ops[x.1]?.getD default)))) (pre.map fun x => (x.2, ops[x.1]?.getD default)) a w.drew) : (Code.region id ops true).wp P Q a w := by
 simp only [Bool.and_eq_true, beq_iff_eq, decide_eq_true_eq] at hc
 obtain ⟨⟨⟨⟨⟨⟨⟨⟨hlen, hpre⟩, hmk⟩, hpost⟩, hready⟩, hMd⟩, hMi⟩, hMn⟩, hdp⟩ := hc
 refine wp_region_held (S := T w.drew) hm ?_
 rw [← hlen]
 rw [← hlen] at hpre hmk hpost hready
 refine wpT_sound hT hTT hs hQ n (M.length + post.length) _ pre _ _ a w.drew rfl hn hpre ?_ h
 intro a w hn hk
 have hself : putM a M (fun j => match M.find? (fun x => x.i == j) with | some x => a.tmps.getD x.d undef | none => undef) = a := by
  refine putM_self n M a _ (fun x hx => ?_)
  have hfind : ∀ L : List Mk, (L.map Mk.i).Nodup → x ∈ L → L.find? (fun y => y.i == x.i) = some x := by
   intro L
   induction L with
   | nil => intro _ h; simp at h
   | cons y L ih =>
     intro hnd hm
     rw [List.map_cons, List.nodup_cons] at hnd
     rcases List.mem_cons.1 hm with rfl | hm
     ·simp
     ·have : (y.i == x.i) = false := by
       rw [beq_eq_false_iff_ne]
       exact fun e => hnd.1 (by rw [e]; exact List.mem_map.2 ⟨x, hm, rfl⟩)
      rw [List.find?_cons, this]
      exact ih hnd.2 hm
  rw [hfind M hMi hx]
  have hxd : x.d < a.tmps.size := by
   rw [List.all_eq_true] at hMn
   have := hMn x hx
   rw [hn]
   simpa using this
  show a.tmps[x.d]? = some (a.tmps.getD x.d undef)
  rw [Array.getElem?_eq_getElem hxd]
  simp [Array.getD, hxd]
 have hdep : ∀ x ∈ M, ∀ j ∈ x.deps, ∃ y ∈ M, y.i = j := fun x hx j hj => by
  rw [List.all_eq_true] at hdp
  have h1 := hdp x hx
  rw [List.all_eq_true] at h1
  have h2 := h1 j hj
  rw [List.any_eq_true] at h2
  obtain ⟨y, hy, e⟩ := h2
  exact ⟨y, hy, by simpa using e⟩
 have hfin := wpMk_sound (Q := Q) hTT M G X hG hMd hMi _ post.length (wpT P ops T (fun a w => Q .normal a w) (post.map fun x => (x.2, ops[x.1]?.getD default))) a w hdep
  (fun vs w' ht hg hx => wpT_done hT hTT hs hQ n post _ _ w' (by rw [putM_size]; exact hn) hpost hready (hk.2 vs w' ht hg hx)) hk.1 M.length (M.map Mk.i) _ (fun j => match M.find? (fun x => x.i == j) with | some x => a.tmps.getD x.d undef | none => undef) w hmk (hT w) (fun x hx hn => absurd (List.mem_map.2 ⟨x, hx, rfl⟩) hn) (fun x hx _ _ hn => absurd (List.mem_map.2 ⟨x, hx, rfl⟩) hn) hMi
 rw [hself] at hfin
 exact hfin
end
end Go.Proofs.YtnaamjpiaekmeaaGreat
namespace Go.Proofs.YtnaamjpiaekmeaaGreat
section
variable {P : Program} {ops : Array Oper} {Q : Exit → Act → World → Prop} {md : Region.Mode} {L : List Nat}
def anyX (P : Program) (md : Region.Mode) (ops : Array Oper) (Q : Exit → Act → World → Prop) (z : Nat) (T : World → Prop) : Nat → Array Bool → Act → World → Prop
 | 0, listed, a, w => Region.ready md ops listed = [] ∧ Q .normal a w
 | n + 1, listed, a, w => (Region.ready md ops listed = [] → Q .normal a w) ∧
     ∀ i, i ∈ Region.ready md ops listed → wpOp P ops Q i (fun a' w' => (i = z ∧ wpAny P md ops Q n (listed.setIfInBounds i true) a' w') ∨ (i ≠ z ∧ T w' ∧ anyX P md ops Q z T n (listed.setIfInBounds i true) a' w')) a w
theorem anyX_any {z : Nat} {T : World → Prop} (n : Nat) : ∀ (listed : Array Bool) (a : Act) (w : World), anyX P md ops Q z T n listed a w → wpAny P md ops Q n listed a w := by
 induction n with
 | zero => exact fun _ _ _ h => h
 | succ n ih => exact fun listed a w h => ⟨h.1, fun i hi => wpOp_mono (fun a' w' h' => h'.elim (fun q => q.2) (fun q => ih _ a' w' q.2.2)) (h.2 i hi)⟩
theorem anyX_mono {z : Nat} {T T' : World → Prop} (hT : ∀ w, T' w → T w) (n : Nat) : ∀ (listed : Array Bool) (a : Act) (w : World), anyX P md ops Q z T' n listed a w → anyX P md ops Q z T n listed a w := by
 induction n with
 | zero => exact fun _ _ _ h => h
 | succ n ih => exact fun listed a w h => ⟨h.1, fun i hi => wpOp_mono (fun a' w' h' => h'.imp id (fun q => ⟨q.1, hT w' q.2.1, ih _ a' w' q.2.2⟩)) (h.2 i hi)⟩
theorem anyX_firstY {z i m : Nat} {T : World → Prop} {oi : Oper} {v : Value} (hi : ops[i]? = some oi) (hiz : i ≠ z) (hz : waitsY md ops i m z = true) (hsel : ∀ (j : Nat) (o : Oper) cs b, ops[j]? = some o → o.op ≠ .select cs b)
  (hQ : ∀ c a w, Q (.panic c) (a.put oi.dst v) w → Q (.panic c) a w) (n : Nat) : ∀ (listed : Array Bool) (a : Act) (w : World), closedY md ops listed →
   (∀ j oj, ops[j]? = some oj → j ≠ i → listed.getD j true = false → (∀ e ∈ oj.after, Region.binds md e = true → e.on ≠ i) → oi.apart ops oj = true) →
   i ∈ Region.ready md ops listed → YieldsIf P ops T oi v a → T w →
   anyX P md ops Q z T n (listed.setIfInBounds i true) (a.put oi.dst v) w → anyX P md ops Q z T (n + 1) listed a w := by
 induction n with
 | zero =>
   intro listed a w _ _ hr hy hT H
   refine ⟨fun h => (by rw [h] at hr; cases hr), fun j hj => ?_⟩
   by_cases hji : j = i
   ·subst hji
    exact hy.wpOp hi hT (.inr ⟨hiz, hT, H⟩)
   ·have h0 := ready_mono hj hji
    rw [H.1] at h0
    cases h0
 | succ n ih =>
   intro listed a w hcl hfree hr hy hT H
   refine ⟨fun h => (by rw [h] at hr; cases hr), fun j hj => ?_⟩
   by_cases hji : j = i
   ·subst hji
    exact hy.wpOp hi hT (.inr ⟨hiz, hT, H⟩)
   ·have h1 := H.2 j (ready_mono hj hji)
    obtain ⟨hjun, oj, hoj, hall⟩ := mem_ready.1 hj
    have hun := (mem_ready.1 hr).1
    have hnot : ∀ e ∈ oj.after, Region.binds md e = true → e.on ≠ i := by
     intro e he hb heq
     have h2 := hall e he hb
     rw [heq] at h2
     rcases Nat.lt_or_ge i listed.size with q | q
     ·simp [q] at hun h2; rw [hun] at h2; cases h2
     ·simp [Array.getElem?_eq_none q] at h2
    have hjz : j ≠ z := by
     intro e
     subst e
     have h2 := waitsY_listed hcl i m j hz (fun o ho e he hb => by rw [hoj] at ho; cases ho; exact hall e he hb)
     rcases Nat.lt_or_ge i listed.size with q | q
     ·simp [q] at hun h2; rw [hun] at h2; cases h2
     ·simp [Array.getElem?_eq_none q] at h2
    have h2 := wpOp_putIf hoj (hfree j oj hoj hji hjun hnot) (fun cs b => hsel i oi cs b hi) (fun cs b => hsel j oj cs b hoj) hQ hy h1
    refine wpOp_mono (fun a' w' h3 => ?_) h2
    rcases h3.2 with h4 | ⟨_, hT', h4⟩
    ·exact (hjz h4.1).elim
    ·refine .inr ⟨hjz, hT', ih _ a' w' (hcl.set hj) (fun k ok hk hki hku hno => hfree k ok hk hki ?_ hno) (ready_mono hr (Ne.symm hji)) h3.1 hT' ?_⟩
     ·by_cases hjk : j = k
      ·subst hjk; exact hjun
      ·rw [getD_set_ne true hjk] at hku; exact hku
     ·rw [Array.setIfInBounds_comm _ _ hji]
      exact h4
theorem anyX_firstP {z i : Nat} {T : World → Prop} {oi : Oper} {v : Value} (hi : ops[i]? = some oi) (hiz : i ≠ z) (hsel : ∀ (j : Nat) (o : Oper) cs b, ops[j]? = some o → o.op ≠ .select cs b)
  (hQ : ∀ c a w, Q (.panic c) (a.put oi.dst v) w → Q (.panic c) a w) (n : Nat) : ∀ (listed : Array Bool) (a : Act) (w : World),
   (∀ j oj, ops[j]? = some oj → j ≠ i → listed.getD j true = false → (∀ e ∈ oj.after, Region.binds md e = true → e.on ≠ i) → oi.apart ops oj = true) →
   i ∈ Region.ready md ops listed → Yields P ops oi v a → T w →
   anyX P md ops Q z T n (listed.setIfInBounds i true) (a.put oi.dst v) w → anyX P md ops Q z T (n + 1) listed a w := by
 induction n with
 | zero =>
   intro listed a w _ hr hy hT H
   refine ⟨fun h => (by rw [h] at hr; cases hr), fun j hj => ?_⟩
   by_cases hji : j = i
   ·subst hji
    exact hy.wpOp hi (.inr ⟨hiz, hT, H⟩)
   ·have h0 := ready_mono hj hji
    rw [H.1] at h0
    cases h0
 | succ n ih =>
   intro listed a w hfree hr hy hT H
   refine ⟨fun h => (by rw [h] at hr; cases hr), fun j hj => ?_⟩
   by_cases hji : j = i
   ·subst hji
    exact hy.wpOp hi (.inr ⟨hiz, hT, H⟩)
   ·have h1 := H.2 j (ready_mono hj hji)
    obtain ⟨hjun, oj, hoj, hall⟩ := mem_ready.1 hj
    have hun := (mem_ready.1 hr).1
    have hnot : ∀ e ∈ oj.after, Region.binds md e = true → e.on ≠ i := by
     intro e he hb heq
     have h2 := hall e he hb
     rw [heq] at h2
     rcases Nat.lt_or_ge i listed.size with q | q
     ·simp [q] at hun h2; rw [hun] at h2; cases h2
     ·simp [Array.getElem?_eq_none q] at h2
    have h2 := wpOp_put hoj (hfree j oj hoj hji hjun hnot) (fun cs b => hsel i oi cs b hi) (fun cs b => hsel j oj cs b hoj) hQ hy h1
    refine wpOp_mono (fun a' w' h3 => ?_) h2
    have hfree' : ∀ k ok, ops[k]? = some ok → k ≠ i → (listed.setIfInBounds j true).getD k true = false → (∀ e ∈ ok.after, Region.binds md e = true → e.on ≠ i) → oi.apart ops ok = true := fun k ok hk hki hku hno => hfree k ok hk hki (by
     by_cases hjk : j = k
     ·subst hjk; exact hjun
     ·rw [getD_set_ne true hjk] at hku; exact hku) hno
    rcases h3.2 with ⟨hjz, h4⟩ | ⟨hjz, hT', h4⟩
    ·refine .inl ⟨hjz, wpAny_first hi hsel hQ n _ a' w' hfree' (ready_mono hr (Ne.symm hji)) h3.1 ?_⟩
     rw [Array.setIfInBounds_comm _ _ hji]
     exact h4
    ·refine .inr ⟨hjz, hT', ih _ a' w' hfree' (ready_mono hr (Ne.symm hji)) h3.1 hT' ?_⟩
     rw [Array.setIfInBounds_comm _ _ hji]
     exact h4
theorem one_stepP {o : Oper} {a A : Act} {d : Nat} (w : World) (hv : valOp o.op = true) (hd : o.dst = some d) (hdl : d < a.tmps.size)
  (h : ∀ w', wpList P ops (GQ fun a' w'' => w'' = w' ∧ a' = A) [o] a w') : ∃ v, Yields P ops o v a ∧ A = a.put o.dst v := by
 by_cases hw : Region.wanted o (yielded ops a.tmps) = true
 ·have key : ∀ w', ∃ v, (execOp a.eval o).run P w' = .ok (.value v) w' ∧ a.put o.dst v = A := by
   intro w'
   have h1 := h w'
   unfold wpList at h1
   rw [if_pos hw] at h1
   rcases h1 with h1 | ⟨_, h1⟩
   ·unfold Oper.wp at h1
    cases hr : (execOp a.eval o).run P w' with
    | ok x w1 =>
      obtain ⟨v, rfl⟩ := vals_execOp a.eval o hv P w' w1 x hr
      rw [hr] at h1
      obtain ⟨rfl, h2⟩ : w1 = w' ∧ a.put o.dst v = A := h1
      exact ⟨v, rfl, h2⟩
    | halt x w1 =>
      rw [hr] at h1
      cases x <;> exact h1.elim
   ·exact (no_lets _ h1).elim
  obtain ⟨v, hv1, hv2⟩ := key w
  refine ⟨v, .inl ⟨hw, fun w' => ?_⟩, hv2.symm⟩
  obtain ⟨u, hu1, hu2⟩ := key w'
  have : u = v := put_inj (a := a) (d := d) hdl (by rw [← hd, hu2, hv2])
  rw [hu1, this]
 ·refine ⟨undef, .inr ⟨by simpa using hw, rfl⟩, ?_⟩
  have h1 := h w
  unfold wpList at h1
  rw [if_neg hw] at h1
  exact h1.2.symm
def walkX (P : Program) (ops : Array Oper) (Q : Exit → Act → World → Prop) (L : List Nat) : List (Nat × Oper) → Act → World → Prop
 | [], a, w => Q .normal a w
 | (0, o) :: r, a, w => ∃ A, (∀ w', Fr L w w' → wpList P ops (GQ fun a' w'' => w'' = w' ∧ a' = A) [o] a w') ∧ walkX P ops Q L r A w
 | (3, o) :: r, a, w => ∃ A, (∀ w', wpList P ops (GQ fun a' w'' => w'' = w' ∧ a' = A) [o] a w') ∧ walkX P ops Q L r A w
 | (1, o) :: r, a, w => wpList P ops (GQ fun a' w' => Fr L w w' ∧ a'.tmps.size = a.tmps.size ∧ walkX P ops Q L r a' w') [o] a w
 | (_, o) :: r, a, w => wpList P ops (GQ fun a' w' => a'.tmps.size = a.tmps.size ∧ walkX P ops Q L r a' w') [o] a w
def okX2 (ops : Array Oper) : List (Nat × Nat) → Array Bool → Bool
 | [], listed => Region.ready .any ops listed == []
 | (i, 2) :: r, listed => Region.ready .any ops listed == [i] && okX2 ops r (listed.setIfInBounds i true)
 | _, _ => false
def okX (ops : Array Oper) (n z : Nat) : List (Nat × Nat) → Array Bool → Bool
 | [], _ => false
 | (i, 0) :: r, listed => (Region.ready .any ops listed).contains i && i != z && Region.free .any ops listed i && waitsY .any ops i ops.size z &&
   (match ops[i]? with | some o => valOp o.op && (match o.dst with | some d => decide (d < n) | none => false) | none => false) && okX ops n z r (listed.setIfInBounds i true)
 | (i, 3) :: r, listed => (Region.ready .any ops listed).contains i && i != z && Region.free .any ops listed i &&
   (match ops[i]? with | some o => valOp o.op && (match o.dst with | some d => decide (d < n) | none => false) | none => false) && okX ops n z r (listed.setIfInBounds i true)
 | (i, 1) :: r, listed => Region.ready .any ops listed == [i] && i != z && okX ops n z r (listed.setIfInBounds i true)
 | (i, 2) :: r, listed => Region.ready .any ops listed == [i] && i == z && okX2 ops r (listed.setIfInBounds i true)
 | _, _ => false
theorem walkX_sound2 : ∀ (order : List (Nat × Nat)) (listed : Array Bool) (fuel : Nat) (a : Act) (w : World), fuel = order.length → okX2 ops order listed = true →
   walkX P ops Q L (order.map fun x => (x.2, ops[x.1]?.getD default)) a w → wpAny P .any ops Q fuel listed a w
 | [], listed, fuel, a, w, hf, hc, h => by
   subst hf
   exact ⟨by simpa [okX2] using hc, h⟩
 | (i, 0) :: r, listed, fuel, a, w, hf, hc, h => by simp [okX2] at hc
 | (i, 1) :: r, listed, fuel, a, w, hf, hc, h => by simp [okX2] at hc
 | (i, k + 3) :: r, listed, fuel, a, w, hf, hc, h => by simp [okX2] at hc
 | (i, 2) :: r, listed, fuel, a, w, hf, hc, h => by
   subst hf
   simp only [okX2, Bool.and_eq_true, beq_iff_eq] at hc
   obtain ⟨h1, h3⟩ := hc
   have hmem : i ∈ Region.ready .any ops listed := by rw [h1]; simp
   obtain ⟨_, o, ho, _⟩ := mem_ready.1 hmem
   simp only [List.map_cons, ho, Option.getD_some, walkX] at h
   refine ⟨fun e => (by rw [h1] at e; cases e), fun j hj => ?_⟩
   rw [h1] at hj
   obtain rfl := List.mem_singleton.1 hj
   refine wpOp_of_list ho h ?_
   rintro a' w' ⟨_, hg⟩
   exact walkX_sound2 r _ _ a' w' rfl h3 hg
theorem walkX_sound (hs : Region.noSelect ops = true) (hQ : ∀ c a d v w, Q (.panic c) (Act.put a d v) w → Q (.panic c) a w) (n z : Nat) :
  ∀ (order : List (Nat × Nat)) (listed : Array Bool) (fuel : Nat) (a : Act) (w : World), fuel = order.length → a.tmps.size = n → closedY .any ops listed → okX ops n z order listed = true →
    walkX P ops Q L (order.map fun x => (x.2, ops[x.1]?.getD default)) a w → anyX P .any ops Q z (Fr L w) fuel listed a w
 | [], listed, fuel, a, w, hf, hn, hcl, hc, h => by simp [okX] at hc
 | (i, k + 4) :: r, listed, fuel, a, w, hf, hn, hcl, hc, h => by simp [okX] at hc
 | (i, 2) :: r, listed, fuel, a, w, hf, hn, hcl, hc, h => by
   subst hf
   simp only [okX, Bool.and_eq_true, beq_iff_eq] at hc
   obtain ⟨⟨h1, h2⟩, h3⟩ := hc
   subst h2
   have hmem : i ∈ Region.ready .any ops listed := by rw [h1]; simp
   obtain ⟨_, o, ho, _⟩ := mem_ready.1 hmem
   simp only [List.map_cons, ho, Option.getD_some, walkX] at h
   refine ⟨fun e => (by rw [h1] at e; cases e), fun j hj => ?_⟩
   rw [h1] at hj
   obtain rfl := List.mem_singleton.1 hj
   refine wpOp_of_list ho h ?_
   rintro a' w' ⟨_, hg⟩
   exact .inl ⟨rfl, walkX_sound2 r _ _ a' w' rfl h3 hg⟩
 | (i, 1) :: r, listed, fuel, a, w, hf, hn, hcl, hc, h => by
   subst hf
   simp only [okX, Bool.and_eq_true, beq_iff_eq, bne_iff_ne, ne_eq] at hc
   obtain ⟨⟨h1, h2⟩, h3⟩ := hc
   have hmem : i ∈ Region.ready .any ops listed := by rw [h1]; simp
   obtain ⟨_, o, ho, _⟩ := mem_ready.1 hmem
   simp only [List.map_cons, ho, Option.getD_some, walkX] at h
   refine ⟨fun e => (by rw [h1] at e; cases e), fun j hj => ?_⟩
   rw [h1] at hj
   obtain rfl := List.mem_singleton.1 hj
   refine wpOp_of_list ho h ?_
   rintro a' w' ⟨hfr, hsz, hg⟩
   have hg' := walkX_sound hs hQ n z r _ _ a' w' rfl (hsz.trans hn) (hcl.set hmem) h3 hg
   exact .inr ⟨h2, hfr, anyX_mono (fun w2 hw2 => hfr.trans hw2 (fun i hi _ => hi) (fun i hi _ => hi)) _ _ _ _ hg'⟩
 | (i, 3) :: r, listed, fuel, a, w, hf, hn, hcl, hc, h => by
   subst hf
   simp only [okX, Bool.and_eq_true, bne_iff_ne, ne_eq] at hc
   obtain ⟨⟨⟨⟨h1, hiz⟩, h2⟩, h3⟩, h4⟩ := hc
   cases ho : ops[i]? with
   | none => rw [ho] at h3; simp at h3
   | some o =>
     rw [ho] at h3
     simp only [Bool.and_eq_true] at h3
     obtain ⟨hv, hd⟩ := h3
     cases hdst : o.dst with
     | none => rw [hdst] at hd; simp at hd
     | some d =>
       rw [hdst] at hd
       simp only [decide_eq_true_eq] at hd
       simp only [List.map_cons, ho, Option.getD_some, walkX] at h
       obtain ⟨A, hA, hg⟩ := h
       obtain ⟨v, hy, rfl⟩ := one_stepP w hv hdst (by rw [hn]; exact hd) hA
       have hmem : i ∈ Region.ready .any ops listed := by simpa using h1
       exact anyX_firstP ho hiz (Region.noSelect_spec hs) (fun c a w => hQ c a _ _ w) r.length listed a w (Region.free_spec ho h2) hmem hy (Fr.refl _ _)
        (walkX_sound hs hQ n z r _ _ _ w rfl (by rw [size_put]; exact hn) (hcl.set hmem) h4 hg)
 | (i, 0) :: r, listed, fuel, a, w, hf, hn, hcl, hc, h => by
   subst hf
   simp only [okX, Bool.and_eq_true, bne_iff_ne, ne_eq] at hc
   obtain ⟨⟨⟨⟨⟨h1, hiz⟩, h2⟩, hw⟩, h3⟩, h4⟩ := hc
   cases ho : ops[i]? with
   | none => rw [ho] at h3; simp at h3
   | some o =>
     rw [ho] at h3
     simp only [Bool.and_eq_true] at h3
     obtain ⟨hv, hd⟩ := h3
     cases hdst : o.dst with
     | none => rw [hdst] at hd; simp at hd
     | some d =>
       rw [hdst] at hd
       simp only [decide_eq_true_eq] at hd
       simp only [List.map_cons, ho, Option.getD_some, walkX] at h
       obtain ⟨A, hA, hg⟩ := h
       obtain ⟨v, hy, rfl⟩ := one_step hv hdst (by rw [hn]; exact hd) hA
       have hmem : i ∈ Region.ready .any ops listed := by simpa using h1
       exact anyX_firstY ho hiz hw (Region.noSelect_spec hs) (fun c a w => hQ c a _ _ w) r.length listed a w hcl (Region.free_spec ho h2) hmem hy (Fr.refl _ _)
        (walkX_sound hs hQ n z r _ _ _ w rfl (by rw [size_put]; exact hn) (hcl.set hmem) h4 hg)
theorem wp_region_X {id : Nat} {a : Act} {w : World} (L : List Nat) (z : Nat) (order : List (Nat × Nat)) (n : Nat) (hn : a.tmps.size = n) (hm : P.follows .mixedOrders = true) (hs : Region.noSelect ops = true)
  (hc : (order.length == ops.size && okX ops n z order (Array.replicate ops.size false)) = true) (hQ : ∀ c a d v w, Q (.panic c) (Act.put a d v) w → Q (.panic c) a w)
  (h : ∀ wd, Fr [] w wd → walkX P ops Q L (order.map fun x => (x.2, ops[x.1]?.getD default)) a wd) : (Code.region id ops true).wp P Q a w := by
 simp only [Bool.and_eq_true, beq_iff_eq] at hc
 exact wp_region_any hm (anyX_any _ _ _ _ (walkX_sound hs hQ n z order _ _ _ _ hc.1.symm hn (closedY.start _) hc.2 (h w.drew (Fr.drew w))))
theorem walkX_t {o : Oper} {r : List (Nat × Oper)} {a A : Act} {w : World} (h1 : ∀ w', Fr L w w' → wpList P ops (GQ fun a' w'' => w'' = w' ∧ a' = A) [o] a w') (h2 : walkX P ops Q L r A w) : walkX P ops Q L ((0, o) :: r) a w := ⟨A, h1, h2⟩
theorem walkX_p {o : Oper} {r : List (Nat × Oper)} {a A : Act} {w : World} (h1 : ∀ w', wpList P ops (GQ fun a' w'' => w'' = w' ∧ a' = A) [o] a w') (h2 : walkX P ops Q L r A w) : walkX P ops Q L ((3, o) :: r) a w := ⟨A, h1, h2⟩
theorem walkX_x {o : Oper} {r : List (Nat × Oper)} {a : Act} {w : World} (h : wpList P ops (GQ fun a' w' => Fr L w w' ∧ a'.tmps.size = a.tmps.size ∧ walkX P ops Q L r a' w') [o] a w) : walkX P ops Q L ((1, o) :: r) a w := h
theorem walkX_z {o : Oper} {r : List (Nat × Oper)} {a : Act} {w : World} (h : wpList P ops (GQ fun a' w' => a'.tmps.size = a.tmps.size ∧ walkX P ops Q L r a' w') [o] a w) : walkX P ops Q L ((2, o) :: r) a w := h
theorem walkX_end {a : Act} {w : World} (h : Q .normal a w) : walkX P ops Q L [] a w := h
end
end Go.Proofs.YtnaamjpiaekmeaaGreat
