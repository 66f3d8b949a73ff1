/- Several texts in one: PolA, PolB, PolClr, PolC, PolD, PolE, PolF. -/
import Derived.WideKeyArr
import Derived.Lib.AppendStr
import Derived.LoopTactic
import Derived.Deep.DeepCutAuto
import Derived.Maps.OwnSet
import Derived.WalkMore
import Derived.Test.YtnaamjpiaekmeaaGreatMn
import Derived.Test.YtnaamjpiaekmeaaGreatGb
import Derived.Test.YtnaamjpiaekmeaaGreatBs
import Derived.Test.YtnaamjpiaekmeaaGreatDt
import Derived.Test.YtnaamjpiaekmeaaGreatKyS
import Derived.Test.YtnaamjpiaekmeaaGreatWd
set_option linter.unusedVariables false
set_option linter.unusedSimpArgs false
namespace Go.Proofs.YtnaamjpiaekmeaaGreat
open Go.RowKit Go.Maps
def heldR : Value → Option (DataW Value × List MemPlace) := fun v => some (.held v, [])
def NotStr (w : World) (b : Nat) : Prop := ∀ (i : Nat) (x : ByteArray), w.cell? ⟨b, i, none⟩ ≠ some (.string x)
theorem strs_keepN {w w' : World} {v : Value} {l : Words} {L : List Nat} (h : strsAt w v l) (hf : Fr L w w') (hL : ∀ b ∈ L, NotStr w b) : strsAt w' v l := by
 rcases h with h | ⟨b, off, cap, e, h1, h2, h3⟩
 ·exact .inl h
 ·refine .inr ⟨b, off, cap, e, h1, h2, fun j hj => ?_⟩
  have h4 := h3 j hj
  refine hf.cell h4 (fun hm => ?_)
  rw [List.getElem_map] at h4
  exact hL _ hm _ _ h4
theorem NotStr.map {w : World} {b : Nat} {es : Array MapEntry} {c : Nat} (h : w.heap[b]? = some (.map es c)) : NotStr w b := fun i x q => by
 simp [World.cell?, h] at q
theorem NotStr.cells {w : World} {b : Nat} {cs : Array Value} {t : TypeId} {fr : Nat × Nat} (h : w.heap[b]? = some (.cells cs t fr)) (hz : ∀ z ∈ cs.toList, ∀ x, z ≠ .string x) : NotStr w b := fun i x q => by
 rw [cell_of_heap h, ← Array.getElem?_toList] at q
 exact hz _ (List.mem_of_getElem? q) x rfl
def setV (n : Nat) (v : Value) (b : Bool) : Value := .agg #[.int .i64 (n : Int), v, .bool b]
structure SetP (w : World) (k : Int) (T : List Words) (n : Nat) (v : Value) (b : Bool) (l : Words) : Prop where
 num : ([] :: T)[n]? = some l
 words : strsAt w v l
 full : b = true → fullW k l = true
 good : GoodW k l
def SetAt (w : World) (k : Int) (T : List Words) (x : Value) (l : Words) : Prop := ∃ (n : Nat) (v : Value) (b : Bool), x = setV n v b ∧ SetP w k T n v b l
theorem SetP.more {w : World} {k : Int} {T : List Words} {n : Nat} {v : Value} {b : Bool} {l : Words} (h : SetP w k T n v b l) (U : List Words) : SetP w k (T ++ U) n v b l :=
 ⟨by rw [← List.cons_append, List.getElem?_append_left (List.getElem?_eq_some_iff.1 h.num).1]; exact h.num, h.words, h.full, h.good⟩
theorem SetAt.more {w : World} {k : Int} {T : List Words} {x : Value} {l : Words} (h : SetAt w k T x l) (U : List Words) : SetAt w k (T ++ U) x l := by
 obtain ⟨n, v, b, e, h⟩ := h
 exact ⟨n, v, b, e, h.more U⟩
theorem SetP.keep {w w' : World} {k : Int} {T : List Words} {n : Nat} {v : Value} {b : Bool} {l : Words} {L : List Nat} (h : SetP w k T n v b l) (hf : Fr L w w') (hL : ∀ b ∈ L, NotStr w b) : SetP w' k T n v b l :=
 ⟨h.num, strs_keepN h.words hf hL, h.full, h.good⟩
theorem SetAt.keep {w w' : World} {k : Int} {T : List Words} {x : Value} {l : Words} {L : List Nat} (h : SetAt w k T x l) (hf : Fr L w w') (hL : ∀ b ∈ L, NotStr w b) : SetAt w' k T x l := by
 obtain ⟨n, v, b, e, h⟩ := h
 exact ⟨n, v, b, e, h.keep hf hL⟩
theorem SetAt.form {w : World} {k : Int} {T : List Words} {x : Value} {l : Words} (h : SetAt w k T x l) : ∃ (n : Nat) (a : Option Addr) (c : Nat) (b : Bool), x = .agg #[.int .i64 (n : Int), .slice a l.length c, .bool b] ∧ SetP w k T n (.slice a l.length c) b l := by
 obtain ⟨n, v, b, rfl, h⟩ := h
 obtain ⟨a, c, rfl, _, _⟩ := h.words.form
 exact ⟨n, a, c, b, rfl, h⟩
theorem SetAt.inv {w : World} {k : Int} {T : List Words} {n : Nat} {v : Value} {b : Bool} {l : Words} (h : SetAt w k T (.agg #[.int .i64 (n : Int), v, .bool b]) l) : SetP w k T n v b l := by
 obtain ⟨n', v', b', e, h⟩ := h
 simp only [setV, Value.agg.injEq, Array.mk.injEq, List.cons.injEq, Value.int.injEq, true_and, Value.bool.injEq, and_true] at e
 obtain ⟨e1, rfl, rfl⟩ := e
 have : n = n' := by omega
 subst this
 exact h
theorem SetAt.none (w : World) (k : Int) (T : List Words) : SetAt w k T (setV 0 (.slice none 0 0) false) [] :=
 ⟨0, _, _, rfl, rfl, .inl ⟨_, _, rfl, by simp [maxLen], rfl⟩, fun h => (by cases h), .nil k⟩
theorem SetAt.good {w : World} {k : Int} {T : List Words} {x : Value} {l : Words} (h : SetAt w k T x l) : GoodW k l := by
 obtain ⟨n, v, b, e, h⟩ := h
 exact h.good
theorem lawKP : Keyed Tryz.prog 169 := Keyed.of_law (WideMaps.ArrKey.law (e := 3) (n := 2) ⟨Tryz.underlying169, by kernel_rfl, by kernel_rfl, by kernel_rfl⟩)
def pairV (i j : Nat) : Value := .agg #[.int .i64 (i : Int), .int .i64 (j : Int)]
theorem zeroKP (w : World) : (zeroValue 93).run Tryz.prog w = .ok (.agg #[.int .i64 0, .slice none 0 0, .bool false]) w := by kernel_rfl
theorem keyTypeP : Tryz.prog.keyType 169 = true := by kernel_rfl
theorem keyP_any {P : Program} {t e : TypeId} (ht : P.underlying t = some (.array 2 e)) (he : P.underlying e = some (.int .i64)) (c1 : P.cellsOf t = 2) (c2 : P.cellsOf e = 1) (hk : P.keyType t = true) {M : Nat} (hM : P.types.size + 1 = M + 1 + 1) {x y : Int} (hx : (Lit.int .i64 x).wf = true) (hy : (Lit.int .i64 y).wf = true) :
  keyOf P t (.agg #[.int .i64 x, .int .i64 y]) = some (Lit.string (keyBytes [Lit.int .i64 x, Lit.int .i64 y])) := by
 have hi : ∀ z : Int, (Lit.int .i64 z).wf = true → P.keyLits (M + 1) e [.int .i64 z] = some [Lit.int .i64 z] := fun z hz => by
  unfold Program.keyLits
  simp only [he, hz, and_self, if_true]
 have hf : (Value.agg #[.int .i64 x, .int .i64 y]).formed P t = true := by
  simp [Value.formed, ht, c1]
 have hl : P.keyLits (P.types.size + 1) t (Value.agg #[.int .i64 x, .int .i64 y]).cells.toList = some [Lit.int .i64 x, Lit.int .i64 y] := by
  rw [hM]
  unfold Program.keyLits
  simp only [ht, Value.cells, c1, c2]
  simp [List.range, List.range.loop, hi _ hx, hi _ hy]
 unfold keyOf
 rw [ht]
 simp only [hk, Bool.true_and, hf, if_true, hl, Option.map_some]
theorem keyOfP (i j : Nat) (hi : i ≤ 9223372036854775807) (hj : j ≤ 9223372036854775807) : ∃ c, keyOf Tryz.prog 169 (pairV i j) = some c :=
 ⟨_, keyP_any Tryz.underlying169 Tryz.underlying3 (by kernel_rfl) (by kernel_rfl) keyTypeP (M := Tryz.prog.types.size - 1) (by decide +kernel) (wf_nat hi) (wf_nat hj)⟩
theorem pair_inj {i j i' j' : Nat} (h : pairV i j = pairV i' j') : i = i' ∧ j = j' := by
 simp only [pairV, Value.agg.injEq, Array.mk.injEq, List.cons.injEq, Value.int.injEq, true_and, and_true] at h
 omega
def SMap (w : World) (k : Int) (T : List Words) (D : DataW Value) : Prop := ∀ s : List UInt8, has D (.string s) = true → ∃ l v, s = nameW l ∧ (∀ zd, D.atKey (.string s) zd = .held v) ∧ SetAt w k T v l
def PrMap (w : World) (k : Int) (T : List Words) (D : DataW Value) : Prop := ∀ (i j : Nat) (c : Lit), keyOf Tryz.prog 169 (pairV i j) = some c → has D c = true →
 ∃ a b v, ([] :: T)[i]? = some a ∧ ([] :: T)[j]? = some b ∧ (∀ zd, D.atKey c zd = .held v) ∧ SetAt w k T v (catW k a b)
theorem SMap.keep {w w' : World} {k : Int} {T : List Words} {D : DataW Value} {L : List Nat} (h : SMap w k T D) (hf : Fr L w w') (hL : ∀ b ∈ L, NotStr w b) (U : List Words) : SMap w' k (T ++ U) D := fun s hs => by
 obtain ⟨l, v, e, h1, h2⟩ := h s hs
 exact ⟨l, v, e, h1, (h2.keep hf hL).more U⟩
theorem PrMap.keep {w w' : World} {k : Int} {T : List Words} {D : DataW Value} {L : List Nat} (h : PrMap w k T D) (hf : Fr L w w') (hL : ∀ b ∈ L, NotStr w b) (U : List Words) : PrMap w' k (T ++ U) D := fun i j c hk hs => by
 obtain ⟨a, b, v, e1, e2, h1, h2⟩ := h i j c hk hs
 refine ⟨a, b, v, ?_, ?_, h1, (h2.keep hf hL).more U⟩
 ·rw [← List.cons_append, List.getElem?_append_left (List.getElem?_eq_some_iff.1 e1).1]; exact e1
 ·rw [← List.cons_append, List.getElem?_append_left (List.getElem?_eq_some_iff.1 e2).1]; exact e2
theorem SMap.put {w : World} {k : Int} {T : List Words} {D : DataW Value} (h : SMap w k T D) (hD : IsMap D) {l : Words} {v : Value} (hv : SetAt w k T v l) : SMap w k T (D.put (.string (nameW l)) (.held v)) := fun s hs => by
 by_cases e : s = nameW l
 ·subst e
  exact ⟨l, v, rfl, fun zd => atKey_put_same hD (show WideAt.IsKeyLit (.string _) from trivial) _ _, hv⟩
 ·have hne : (Lit.string s) ≠ .string (nameW l) := fun q => e (by injection q)
  rw [has_put_other hne] at hs
  obtain ⟨l', v', e', h1, h2⟩ := h s hs
  exact ⟨l', v', e', fun zd => by rw [atKey_put_other hne]; exact h1 zd, h2⟩
theorem PrMap.put {w : World} {k : Int} {T : List Words} {D : DataW Value} (h : PrMap w k T D) (hD : IsMap D) {i j : Nat} {c : Lit} (hc : keyOf Tryz.prog 169 (pairV i j) = some c) {a b : Words} (ha : ([] :: T)[i]? = some a) (hb : ([] :: T)[j]? = some b) {v : Value} (hv : SetAt w k T v (catW k a b)) : PrMap w k T (D.put c (.held v)) := fun i' j' c' hc' hs => by
 by_cases e : c' = c
 ·subst e
  obtain ⟨rfl, rfl⟩ := pair_inj (lawKP.inj hc' hc)
  exact ⟨a, b, v, ha, hb, fun zd => atKey_put_same hD (lawKP.key hc) _ _, hv⟩
 ·rw [has_put_other e] at hs
  obtain ⟨a', b', v', e1, e2, h1, h2⟩ := h i' j' c' hc' hs
  exact ⟨a', b', v', e1, e2, fun zd => by rw [atKey_put_other e]; exact h1 zd, h2⟩
theorem has_empty (l : Lit) : has (H := Value) (.map []) l = false := rfl
theorem SMap.nil (w : World) (k : Int) (T : List Words) : SMap w k T (.map []) := fun s h => by rw [has_empty] at h; cases h
theorem PrMap.nil (w : World) (k : Int) (T : List Words) : PrMap w k T (.map []) := fun i j c _ h => by rw [has_empty] at h; cases h
structure PoolAt (w : World) (q : Nat) (k : Int) (T : List Words) (m : Nat) : Prop where
 obj : ∃ c : Int, -9223372036854775808 ≤ c ∧ c ≤ 9223372036854775807 ∧ w.heap[q + 2]? = some (.cells #[.int .i64 k, .int .i64 (T.length : Int), .map (some q), .map (some (q + 1)), .int .i64 c] 132 (0, 0))
 sets : ∃ D n, n ≤ m ∧ w.ownsMap Tryz.prog 9 heldR q n D ∧ SMap w k T D
 prods : ∃ D n, n ≤ m ∧ w.ownsMap Tryz.prog 169 heldR (q + 1) n D ∧ PrMap w k T D
 few : T.length ≤ m
def plB (q : Nat) : List Nat := [q, q + 1, q + 2]
theorem ownsMap_heap {H : Type} {w : World} {P : Program} {k : TypeId} {R : Value → Option (DataW H × List MemPlace)} {b n : Nat} {D : DataW H} (h : w.ownsMap P k R b n D) : ∃ es c, w.heap[b]? = some (.map es c) := by
 obtain ⟨es, c, hh, _⟩ := h
 exact ⟨es, c, hh⟩
theorem ownsMap_keptH {H : Type} {w w' : World} {P : Program} {k : TypeId} {R : Value → Option (DataW H × List MemPlace)} {b n : Nat} {D : DataW H} {L : List Nat} (h : w.ownsMap P k R b n D) (hf : Fr L w w') (hb : b ∉ L) : w'.ownsMap P k R b n D := by
 obtain ⟨es, c, hh, r⟩ := h
 exact ⟨es, c, hf.heap hh hb, r⟩
section
variable {w w' : World} {q : Nat} {k : Int} {T : List Words} {m : Nat}
theorem PoolAt.quiet (h : PoolAt w q k T m) : ∀ b ∈ plB q, NotStr w b := by
 intro b hb
 unfold plB at hb
 rcases List.mem_cons.1 hb with rfl | hb
 ·obtain ⟨D, n, _, h1, _⟩ := h.sets
  obtain ⟨es, c, hh⟩ := ownsMap_heap h1
  exact NotStr.map hh
 rcases List.mem_cons.1 hb with rfl | hb
 ·obtain ⟨D, n, _, h1, _⟩ := h.prods
  obtain ⟨es, c, hh⟩ := ownsMap_heap h1
  exact NotStr.map hh
 ·rw [List.mem_singleton.1 hb]
  obtain ⟨c, _, _, h1⟩ := h.obj
  exact NotStr.cells h1 (fun z hz x e => by subst e; simp at hz)
theorem PoolAt.mono (h : PoolAt w q k T m) {m' : Nat} (hm : m ≤ m') : PoolAt w q k T m' := by
 obtain ⟨D, n, h1, h2⟩ := h.sets
 obtain ⟨D', n', h1', h2'⟩ := h.prods
 exact ⟨h.obj, ⟨D, n, by omega, h2⟩, ⟨D', n', by omega, h2'⟩, Nat.le_trans h.few hm⟩
theorem PoolAt.keep {L : List Nat} (h : PoolAt w q k T m) (hf : Fr L w w') (hL : ∀ b ∈ L, NotStr w b ∧ b ∉ plB q) : PoolAt w' q k T m := by
 have hq : ∀ b ∈ plB q, b ∉ L := fun b hb hm => (hL b hm).2 hb
 have hS : ∀ b ∈ L, NotStr w b := fun b hb => (hL b hb).1
 obtain ⟨c, c1, c2, h0⟩ := h.obj
 obtain ⟨D, n, h1, h2, h3⟩ := h.sets
 obtain ⟨D', n', h1', h2', h3'⟩ := h.prods
 refine ⟨⟨c, c1, c2, hf.heap h0 (hq _ (by simp [plB]))⟩, ⟨D, n, h1, ownsMap_keptH h2 hf (hq _ (by simp [plB])), ?_⟩, ⟨D', n', h1', ownsMap_keptH h2' hf (hq _ (by simp [plB])), ?_⟩, h.few⟩
 ·have := h3.keep hf hS []
  rwa [List.append_nil] at this
 ·have := h3'.keep hf hS []
  rwa [List.append_nil] at this
theorem PoolAt.later (h : PoolAt w q k T m) (hf : Fr [] w w') : PoolAt w' q k T m := h.keep hf (by simp)
end
end Go.Proofs.YtnaamjpiaekmeaaGreat
namespace Go.Proofs.YtnaamjpiaekmeaaGreat
open Go.RowKit
def NmRow (w0 wx : World) (v : Value) (bs : List UInt8) : Prop := wx.ownsRow w0.heap.size 5 1 v bs.length (cellsB bs) ∧ Fr [] w0 wx
def NmR (w : World) (l : Words) (v iv : Value) (wx : World) : Prop := ∃ i : Nat, i ≤ l.length ∧ iv = .int .i64 (i : Int) ∧ NmRow w wx v (nameW (l.take i))
theorem strCells_b (x : List UInt8) : Lib.strCells ⟨x.toArray⟩ = cellsB x := by
 simp [Lib.strCells, cellsB]
set_option maxRecDepth 100000 in
set_option maxHeartbeats 2000000 in
theorem pname (l : Words) (lv : Value) (w : World) (h : strsAt w lv l) (hl : l.length ≤ 100000) (hx : ∀ x ∈ l, x.length ≤ 255) :
  Calls Tryz.prog 131 #[lv] w fun e w' => e = .returned (encStr (nameW l)) ∧ Fr [] w w' := by
 obtain ⟨iS, hiS, hS0, hS1, hS2⟩ := info_parts infoB
 obtain ⟨a0, c0, rfl, hle, hmx⟩ := h.form
 have HE := Lib.hid h
 have HX := Lib.hid hx
 obtain ⟨n, hn⟩ : ∃ n, n = l.length := ⟨_, rfl⟩
 rw [← hn] at HE hle hl ⊢
 have HN := Lib.hid hn
 clear h hn hx
 go_enter Tryz.func131, Tryz.ntmps131
 go_wp2_with fail
 go_loopw [3, 8] (NmR w l) (fun _ iv _ => n - (intOf iv).toNat)
 case atStart => exact ⟨0, Nat.zero_le _, rfl, World.ownsRow_nil _ _ _ _, Fr.refl _ _⟩
 case round =>
  obtain ⟨i, hi, rfl, hrow⟩ := hrel
  rw [← HN.out] at hi
  have hfr := hrow.2
  by_cases hin : i < n
  ·have hd1 : decide (i < n) = true := decide_eq_true hin
   have hil : i < l.length := by rw [← HN.out]; exact hin
   obtain ⟨b, off, rfl, hc⟩ := str_cell (HE.out.below hfr) i hil
   have hxl := HX.out _ (List.getElem_mem hil)
   have hnx : nameW (l.take (i + 1)) = (nameW (l.take i) ++ [UInt8.ofNat (l[i]'hil).length]) ++ l[i]'hil := by
    rw [List.take_succ_eq_append_getElem hil, nameW_app, nameW_one]; simp
   have hbl : (nameW (l.take i)).length ≤ 100000 * 256 := by
    have h1 := nameW_len (l.take i) 255 (fun x hx => HX.out x (List.mem_of_mem_take hx))
    have h2 : (l.take i).length ≤ 100000 := by rw [List.length_take]; omega
    have := Nat.mul_le_mul_right 256 h2
    omega
   obtain ⟨x, hxe⟩ : ∃ x, x = l[i]'hil := ⟨_, rfl⟩
   rw [← hxe] at hc hxl hnx
   obtain ⟨bs, hbs⟩ : ∃ bs, bs = nameW (l.take i) := ⟨_, rfl⟩
   rw [← hbs] at hrow hnx hbl
   obtain ⟨y, hy⟩ : ∃ y, y = UInt8.ofNat x.length := ⟨_, rfl⟩
   have hyv : Value.int .u8 (x.length : Int) = .int .u8 (y.toNat : Int) := by
    rw [hy]; simp only [UInt8.toNat_ofNat']; congr 1; omega
   rw [← hy] at hnx
   obtain ⟨a3, c3, rfl, hc3, hm3⟩ := owns_slice hrow.1
   have HROW := Lib.hid hrow.1
   have HFR := Lib.hid hfr
   have HNX := Lib.hid hnx
   have HYV := Lib.hid hyv
   have HSZ := Lib.hid hfr.size
   obtain ⟨nb, hnb⟩ : ∃ nb, nb = bs.length := ⟨_, rfl⟩
   rw [← hnb] at HROW hbl hc3 ⊢
   have HNB := Lib.hid hnb
   clear hrow hfr hnx hyv hy hnb hbs hxe
   have hzs : (ByteArray.mk x.toArray).size = x.length := by simp [ByteArray.size]
   have HZ1 := Lib.hid (show nb + 1 + (ByteArray.mk x.toArray).size ≤ maxLen by rw [hzs]; simp only [maxLen]; omega)
   have HZ2 := Lib.hid (show nb + 1 + (ByteArray.mk x.toArray).size ≤ 140737488355328 by rw [hzs]; omega)
   clear hzs
   go_wp2_with (first
    | (at_builtin; refine wpL_append1 rfl _ _ 47 rfl w.heap.size 5 iS (.int .u8 0) 1 Tryz.underlying47 hiS hS0 hS1 hS2 rfl (.slice a3 nb c3) nb (cellsB bs) rfl HROW.out (.int .u8 (x.length : Int)) rfl rfl (by omega) (by simp only [maxLen]; omega) HSZ.out ?_; intro v7 w7 hown7 hf7 hb7; have hsz7 : w.heap.size ≤ w7.heap.size := Nat.le_trans HSZ.out hf7.size; obtain ⟨a7, c7, rfl, hc7, hm7⟩ := owns_slice hown7)
    | (at_builtin; refine Lib.wpList_append_own_string _ rfl _ _ 47 9 rfl w.heap.size 5 iS Tryz.underlying47 Tryz.underlying9 hiS hS0 hS1 hS2 (.slice a7 (nb + 1) c7) (nb + 1) _ rfl hown7 ⟨x.toArray⟩ rfl HZ1.out HZ2.out hsz7 ?_; intro v8 w8 hown8 hgr8 hnil8))
   refine ⟨⟨i + 1, by rw [← HN.out]; omega, by go_num, ?_⟩, by simp [intOf]; omega⟩
   have hown7' : w8.ownsRow w.heap.size 5 1 v8 (bs ++ [y] ++ x).length (cellsB (bs ++ [y] ++ x)) := by
    rw [strCells_b] at hown8
    rw [HYV.out] at hown8
    have e1 : (bs ++ [y] ++ x).length = nb + 1 + (ByteArray.mk x.toArray).size := by simp [HNB.out, ByteArray.size]; omega
    have e2 : cellsB (bs ++ [y] ++ x) = cellsB bs ++ [.int .u8 (y.toNat : Int)] ++ cellsB x := by simp [cellsB]
    rw [e1, e2]
    exact hown8
   rw [HNX.out]
   refine ⟨hown7', ?_⟩
   refine (HFR.out.own HROW.out hf7).own hown7 (Fr.of_grown hgr8)
  ·have hd1 : decide (i < n) = false := decide_eq_false hin
   have hie : l.take i = l := List.take_of_length_le (by have := HN.out; omega)
   rw [hie] at hrow
   have hby := bytesAt_of_owns hrow.1
   have hcv := run_conv_bytes (P := Tryz.prog) hby 47 5 9 Tryz.underlying47 Tryz.underlying5 Tryz.underlying9
   have HR := Lib.hid hrow
   obtain ⟨a3, c3, rfl, hc3, hm3⟩ := owns_slice hrow.1
   obtain ⟨C, hC⟩ : ∃ C, C = (nameW l).toArray := ⟨_, rfl⟩
   rw [← hC] at hcv
   have HC := Lib.hid hC
   clear hrow hby hie hfr hC
   go_wp2_with fail
   go_ret
   exact ⟨by have h := HC.out; subst h; rfl, HR.out.2⟩
end Go.Proofs.YtnaamjpiaekmeaaGreat
namespace Go.Proofs.YtnaamjpiaekmeaaGreat
open Go.RowKit Go.Maps Go.ChangeMaps Go.MapKept
theorem run_clear_own {H : Type} {P : Program} {w : World} {t k e : TypeId} {R : Value → Option (DataW H × List MemPlace)} {b n : Nat} {D : DataW H} (hown : w.ownsMap P k R b n D) (ht : P.underlying t = some (.map k e)) (ty : TypeId) :
  ∃ w', (Builtin.clear_ #[t] ty #[.map (some b)]).run P w = .ok (.tuple #[]) w' ∧ w'.ownsMap P k R b 0 (.map []) ∧ w.grownBy w' (some b) := by
 obtain ⟨es, clock, hb, F, hs, rfl⟩ := hown
 refine ⟨setBlock w b (.map #[] clock), ?_, ⟨#[], clock, heap_setBlock_same hb _, ⟨by simp, stamped_empty clock, by simp⟩, Nat.le_refl _, rfl⟩, ⟨rfl, rfl, rfl, by simp [setBlock], fun i _ hi => heap_setBlock_other hb _ (fun e => hi (by rw [e]))⟩⟩
 simp [Builtin.clear_, run_underlying ht, MapKept.run_getObj_map hb, MapKept.run_setObj_map _ hb, Result.andThen, setBlock]
end Go.Proofs.YtnaamjpiaekmeaaGreat
namespace Go.Proofs.YtnaamjpiaekmeaaGreat
open Go.RowKit Go.Maps
set_option maxRecDepth 100000 in
theorem pfull1 (q p : Nat) (k : Int) (x : List UInt8) (w : World) (hq : w.cell? ⟨q, 0, none⟩ = some (.pointer (some ⟨p, 0, none⟩))) (hp : w.cell? ⟨p, 0, none⟩ = some (.int .i64 k)) (B : Bool) (hB : B = !((x.length : Int) == k)) :
  Calls Tryz.prog 148 #[encStr x, .pointer (some ⟨q, 0, none⟩)] w fun e w' => e = .returned (.bool B) ∧ w' = w := by
 go_enter Tryz.func148, Tryz.ntmps148
 go_wp2_with fail
 go_ret
 exact ⟨by rw [hB]; rfl, rfl⟩
def FlR (w : World) (l : Words) (k : Int) (iv : Value) (wx : World) : Prop := ∃ i : Nat, i ≤ l.length ∧ iv = .int .i64 (i : Int) ∧ (∀ c (h : c < l.length), c < i → ((l[c]'h).length : Int) = k) ∧ w = wx
theorem fullW_of {k : Int} {l : Words} (h : ∀ c (h : c < l.length), ((l[c]'h).length : Int) = k) : fullW k l = true := by
 unfold fullW
 simp only [Bool.not_eq_true', List.any_eq_false]
 intro x hx
 obtain ⟨c, hc, rfl⟩ := List.getElem_of_mem hx
 simpa using h c hc
theorem fullW_not {k : Int} {l : Words} {x : List UInt8} (hx : x ∈ l) (h : ¬ (x.length : Int) = k) : fullW k l = false := by
 cases hf : fullW k l with
 | false => rfl
 | true => exact (h (fullW_all hf x hx)).elim
set_option maxRecDepth 100000 in
set_option maxHeartbeats 1000000 in
theorem pfullx (q p : Nat) (l : Words) (k : Int) (lv : Value) (w : World) (hq : w.cell? ⟨q, 0, none⟩ = some (.pointer (some ⟨p, 0, none⟩))) (hp : w.cell? ⟨p, 0, none⟩ = some (.int .i64 k)) (h : strsAt w lv l) :
  Calls Tryz.prog 106 #[lv, .func (.func 148) #[] #[.pointer (some ⟨q, 0, none⟩)]] w fun e w' => w' = w ∧ ∃ r : Int, e = .returned (.int .i64 r) ∧ decide (0 ≤ r) = !(fullW k l) := by
 obtain ⟨a0, c0, rfl, hle, hmx⟩ := h.form
 have HE := Lib.hid h
 have HQ := Lib.hid hq
 have HP := Lib.hid hp
 obtain ⟨n, hn⟩ : ∃ n, n = l.length := ⟨_, rfl⟩
 rw [← hn] at HE hle ⊢
 have HN := Lib.hid hn
 clear h hq hn hp
 go_enter Tryz.func106, Tryz.ntmps106
 go_wp2_with fail
 go_loopw [8] (FlR w l k) (fun iv _ => n - (intOf iv).toNat)
 case atStart => exact ⟨0, Nat.zero_le _, rfl, fun c _ hc => by omega, rfl⟩
 case round =>
  obtain ⟨i, hi, rfl, hall, rfl⟩ := hrel
  have HA := Lib.hid hall
  clear hall
  rw [← HN.out] at hi
  by_cases hin : i < n
  ·have hd2 : decide (i < n) = true := decide_eq_true hin
   obtain ⟨b, off, rfl, hc⟩ := str_cell HE.out i (by rw [← HN.out]; exact hin)
   have hil : i < l.length := by rw [← HN.out]; exact hin
   obtain ⟨x, hx⟩ : ∃ x, x = l[i]'hil := ⟨_, rfl⟩
   rw [← hx] at hc
   have HX := Lib.hid hx
   obtain ⟨B, hB⟩ : ∃ B, B = !((x.length : Int) == k) := ⟨_, rfl⟩
   have HCL := Lib.hid (pfull1 q p k x w HQ.out HP.out B hB)
   clear hx
   cases B with
   | true =>
     have HW := Lib.hid (show fullW k l = false from fullW_not (x := x) (by rw [HX.out]; exact List.getElem_mem hil) (by simpa using hB.symm))
     clear hB
     go_wp2_with (go_at_call 148; refine HCL.out.mono ?_; rintro e w1 ⟨rfl, rfl⟩)
     go_ret
     exact ⟨rfl, _, rfl, by rw [HW.out]; exact decide_eq_true (by omega)⟩
   | false =>
     have HSM := Lib.hid (show (x.length : Int) = k from by simpa using hB.symm)
     clear hB
     go_wp2_with (go_at_call 148; refine HCL.out.mono ?_; rintro e w1 ⟨rfl, rfl⟩)
     refine ⟨⟨i + 1, by rw [← HN.out]; omega, by go_num, fun c hc1 hci => ?_, rfl⟩, by simp [intOf]; omega⟩
     by_cases e : c = i
     ·subst e; rw [← HX.out]; exact HSM.out
     ·exact HA.out c hc1 (by omega)
  ·have hd2 : decide (i < n) = false := decide_eq_false hin
   have HW := Lib.hid (show fullW k l = true from fullW_of (fun c hc => HA.out c hc (by have := HN.out; omega)))
   clear hin
   go_wp2_with fail
   go_ret
   exact ⟨rfl, _, rfl, by rw [HW.out]; rfl⟩
set_option maxRecDepth 100000 in
theorem pfullc (q p : Nat) (l : Words) (k : Int) (lv : Value) (w : World) (hq : w.cell? ⟨q, 0, none⟩ = some (.pointer (some ⟨p, 0, none⟩))) (hp : w.cell? ⟨p, 0, none⟩ = some (.int .i64 k)) (h : strsAt w lv l) :
  Calls Tryz.prog 68 #[lv, .func (.func 148) #[] #[.pointer (some ⟨q, 0, none⟩)]] w fun e w' => e = .returned (.bool (!(fullW k l))) ∧ w' = w := by
 have HX := Lib.hid (pfullx q p l k lv w hq hp h)
 obtain ⟨a0, c0, rfl, -⟩ := h.form
 obtain ⟨B, hB⟩ : ∃ B, B = !(fullW k l) := ⟨_, rfl⟩
 rw [← hB] at HX ⊢
 clear hq h hB hp
 go_enter Tryz.func68, Tryz.ntmps68
 go_wp2_with (go_at_call 106; refine HX.out.mono ?_; rintro e w1 ⟨rfl, r, rfl, hr⟩)
 go_ret
 exact ⟨by rw [← hr]; rfl, rfl⟩
set_option maxRecDepth 100000 in
theorem pfull (p : Nat) (l : Words) (k : Int) (lv : Value) (w : World) (hp : w.cell? ⟨p, 0, none⟩ = some (.int .i64 k)) (h : strsAt w lv l) :
  Calls Tryz.prog 132 #[.pointer (some ⟨p, 0, none⟩), lv] w fun e w' => e = .returned (.bool (fullW k l)) ∧ Fr [] w w' := by
 have hf0 := Fr.alloc w (.cells #[.pointer (some ⟨p, 0, none⟩)] 61)
 have hb0 := heap_alloc_new w (.cells #[.pointer (some ⟨p, 0, none⟩)] 61)
 obtain ⟨w0, hw0⟩ : ∃ w0, w0 = w.alloc (.cells #[.pointer (some ⟨p, 0, none⟩)] 61) := ⟨_, rfl⟩
 obtain ⟨q, hq⟩ : ∃ q, q = w.heap.size := ⟨_, rfl⟩
 rw [← hw0] at hf0 hb0
 rw [← hq] at hb0
 have HX := Lib.hid (pfullc q p l k lv w0 (by rw [cell_of_heap hb0]; rfl) (hf0.cell hp (by simp)) (h.below hf0))
 obtain ⟨a0, c0, rfl, -⟩ := h.form
 obtain ⟨B, hB⟩ : ∃ B, B = fullW k l := ⟨_, rfl⟩
 rw [← hB] at HX ⊢
 have HF := Lib.hid hf0
 have HW := Lib.hid hw0
 have HQ := Lib.hid hq
 clear hf0 hb0 hw0 hq h hB hp
 go_enter Tryz.func132, Tryz.ntmps132
 go_upto_region 1 with fail
 rw [← HW.out, ← HQ.out]
 go_wp2_with (go_at_call 68; refine HX.out.mono ?_; rintro e w1 ⟨rfl, rfl⟩)
 go_ret
 exact ⟨by simp, HF.out⟩
theorem five_of_heap {w : World} {p : Nat} {a b c d e : Value} {t : TypeId} (h : w.heap[p]? = some (.cells #[a, b, c, d, e] t (0, 0))) :
  w.cell? ⟨p, 0, none⟩ = some a ∧ w.cell? ⟨p, 1, none⟩ = some b ∧ w.cell? ⟨p, 2, none⟩ = some c ∧ w.cell? ⟨p, 3, none⟩ = some d ∧ w.cell? ⟨p, 4, none⟩ = some e ∧ w.frozen? ⟨p, 1, none⟩ = false ∧ w.frozen? ⟨p, 4, none⟩ = false := by
 refine ⟨?_, ?_, ?_, ?_, ?_, free_of_heap h 1, free_of_heap h 4⟩ <;> (rw [cell_of_heap h]; rfl)
end Go.Proofs.YtnaamjpiaekmeaaGreat
namespace Go.Proofs.YtnaamjpiaekmeaaGreat
open Go.RowKit Go.Maps
set_option maxRecDepth 100000 in
set_option maxHeartbeats 2000000 in
theorem pkeep (q m n : Nat) (k : Int) (T : List Words) (w : World) (hA : PoolAt w q k T m) (hn : n ≤ 1000000) :
  Calls Tryz.prog 130 #[.pointer (some ⟨q + 2, 0, none⟩), .int .i64 (n : Int)] w fun e w' => e = .returned (.tuple #[]) ∧ PoolAt w' q k T m ∧ Fr (plB q) w w' := by
 have HA := Lib.hid hA
 obtain ⟨c, hc1, hc2, hobj⟩ := hA.obj
 obtain ⟨D, nD, hD1, hD2, hD3⟩ := hA.sets
 obtain ⟨E, nE, hE1, hE2, hE3⟩ := hA.prods
 obtain ⟨c0, c1, c2, c3, c4, f1, f4⟩ := five_of_heap hobj
 obtain ⟨p, hp⟩ : ∃ p, p = q + 2 := ⟨_, rfl⟩
 rw [← hp] at hobj c0 c1 c2 c3 c4 f1 f4 ⊢
 have HP := Lib.hid hp
 have HO := Lib.hid hobj
 have HS := Lib.hid hD2
 have HR := Lib.hid hE2
 clear hA hobj hD2 hE2 hD3 hE3 hp
 by_cases hk : (1048576 : Int) ≤ c
 ·have hd : decide ((1048576 : Int) ≤ c) = true := decide_eq_true hk
  have hpq := HP.out
  obtain ⟨w1, hrun1, hown1, hgr1⟩ := run_clear_own HS.out Tryz.underlying129 0
  have hf1 : Fr [q] w w1 := Fr.of_grown hgr1
  have ho1 := hf1.heap HO.out (by simp; omega)
  obtain ⟨d0, d1, d2, d3, d4, g1, g4⟩ := five_of_heap ho1
  obtain ⟨w2, hrun2, hown2, hgr2⟩ := run_clear_own (ownsMap_keptH HR.out hf1 (by simp)) Tryz.underlying130 0
  have hf2 : Fr [q + 1] w1 w2 := Fr.of_grown hgr2
  have ho2 := hf2.heap ho1 (by simp; omega)
  obtain ⟨e0, e1, e2, e3, e4, g1', g4'⟩ := five_of_heap ho2
  have hs1 := Fr.set0 w2 p 4 (.int .i64 0)
  have ho3 := heap_setCell_same (i := 4) ho2 (.int .i64 0)
  have k1 := World.cell?_setCell_same' (w := w2) (a := ⟨p, 4, none⟩) (v := .int .i64 0) (by rw [e4]; rfl)
  obtain ⟨w3, hw3⟩ : ∃ w3, w3 = w2.setCell ⟨p, 4, none⟩ (.int .i64 0) := ⟨_, rfl⟩
  rw [← hw3] at hs1 ho3 k1
  have ho3' : w3.heap[p]? = some (.cells #[.int .i64 k, .int .i64 (T.length : Int), .map (some q), .map (some (q + 1)), .int .i64 0] 132 (0, 0)) := ho3
  obtain ⟨u0, u1, u2, u3, u4, v1, v4⟩ := five_of_heap ho3'
  have hs2 := Fr.set0 w3 p 4 (.int .i64 (n : Int))
  have ho4 := heap_setCell_same (i := 4) ho3' (.int .i64 (n : Int))
  have HF := Lib.hid (show Fr (plB q) w (w3.setCell ⟨p, 4, none⟩ (.int .i64 (n : Int))) from
   ((hf1.trans hf2 (n := plB q) (fun i hi _ => by simp at hi; simp [plB, hi]) (fun i hi _ => by simp at hi; simp [plB, hi])).trans hs1 (n := plB q) (fun _ h _ => h) (fun i hi _ => by simp at hi; simp [plB, hi, hpq])).trans hs2 (fun _ h _ => h) (fun i hi _ => by simp at hi; simp [plB, hi, hpq]))
  have HO4 := Lib.hid ho4
  have HM1 := Lib.hid (ownsMap_keptH (ownsMap_keptH (ownsMap_keptH hown1 hf2 (by simp)) hs1 (by simp; omega)) hs2 (by simp; omega))
  have HM2 := Lib.hid (ownsMap_keptH (ownsMap_keptH hown2 hs1 (by simp; omega)) hs2 (by simp; omega))
  have HW3 := Lib.hid hw3
  clear hown1 hgr1 hf1 ho1 hown2 hgr2 hf2 ho2 hs1 ho3 ho3' k1 hs2 ho4 hpq
  go_enter Tryz.func130, Tryz.ntmps130
  go_upto_region 4 with fail
  rw [← HW3.out]
  clear c0 c1 c2 c3 c4 d0 d1 d2 d3 d4 e0 e1 e2 e3 e4 f1 f4 g1 g4 g1' g4' hrun1 hrun2 hw3
  go_wp2_with fail
  go_end0
  refine ⟨rfl, ⟨⟨(n : Int), by omega, by omega, by rw [← HP.out]; exact HO4.out⟩, ⟨_, 0, Nat.zero_le _, HM1.out, SMap.nil _ _ _⟩, ⟨_, 0, Nat.zero_le _, HM2.out, PrMap.nil _ _ _⟩, HA.out.few⟩, HF.out⟩
 ·have hd : decide ((1048576 : Int) ≤ c) = false := decide_eq_false hk
  have hw1 : -9223372036854775808 ≤ c + (n : Int) := by omega
  have hw2 : c + (n : Int) ≤ 9223372036854775807 := by omega
  go_enter Tryz.func130, Tryz.ntmps130
  go_wp2_with fail
  go_end0
  have hs := Fr.set0 w p 4 (.int .i64 (c + (n : Int)))
  have hq : ∀ b ∈ [p], NotStr w b ∧ b ∈ plB q := fun b hb => by
   rw [List.mem_singleton.1 hb]
   have := HP.out
   exact ⟨HA.out.quiet _ (by simp [plB, this]), by simp [plB, this]⟩
  obtain ⟨D', nD', h1, h2, h3⟩ := HA.out.sets
  obtain ⟨E', nE', h1', h2', h3'⟩ := HA.out.prods
  have hpq := HP.out
  refine ⟨rfl, ⟨⟨c + (n : Int), hw1, hw2, ?_⟩, ⟨D', nD', h1, ownsMap_keptH h2 hs (by simp; omega), ?_⟩, ⟨E', nE', h1', ownsMap_keptH h2' hs (by simp; omega), ?_⟩, HA.out.few⟩, hs.mono (fun i hi _ => (hq i hi).2)⟩
  ·rw [← hpq, heap_setCell_same HO.out]; rfl
  ·have := h3.keep hs (fun b hb => (hq b hb).1) []
   rwa [List.append_nil] at this
  ·have := h3'.keep hs (fun b hb => (hq b hb).1) []
   rwa [List.append_nil] at this
end Go.Proofs.YtnaamjpiaekmeaaGreat
namespace Go.Proofs.YtnaamjpiaekmeaaGreat
open Go.RowKit Go.Maps
theorem look_held {P : Program} {w : World} {t k e : TypeId} {b n : Nat} {D : DataW Value} (h : w.ownsMap P k heldR b n D) (K : Keyed P k) (ht : P.underlying t = some (.map k e)) {z : Value} (hz : (zeroValue e).run P w = .ok z w) {key : Value} {kl : Lit} (hkey : keyOf P k key = some kl) {v : Value} (hv : has D kl = true → ∀ zd, D.atKey kl zd = .held v) (hn : has D kl = false → v = z) :
  (Instr.lookup t (.map (some b)) key true).run P w = .ok (.tuple #[v, .bool (has D kl)]) w := by
 obtain ⟨u, ps, hr, hu⟩ := h.look_ok K ht hz (zd := .held z) (zp := []) rfl hkey
 rw [hr]
 have e1 : DataW.held u = D.atKey kl (.held z) := by
  unfold heldR at hu
  injection hu with hu
  injection hu
 cases hh : has D kl with
 | true =>
   rw [hv hh] at e1
   injection e1 with e1
   rw [e1]
 | false =>
   rw [atKey_of_not_has hh] at e1
   injection e1 with e1
   rw [hn hh, e1]
theorem three_of_set {w : World} {p n : Nat} {v : Value} {b : Bool} {t : TypeId} (h : w.heap[p]? = some (.cells #[.int .i64 (n : Int), v, .bool b] t (0, 0))) :
  w.cell? ⟨p, 0, none⟩ = some (.int .i64 (n : Int)) ∧ w.cell? ⟨p, 1, none⟩ = some v ∧ w.cell? ⟨p, 2, none⟩ = some (.bool b) ∧ w.frozen? ⟨p, 0, none⟩ = false ∧ w.frozen? ⟨p, 1, none⟩ = false ∧ w.frozen? ⟨p, 2, none⟩ = false := three_of_heap h
theorem set3_heap {w : World} {r : Nat} {x y z : Value} {t : TypeId} (h : w.heap[r]? = some (.cells #[x, y, z] t (0, 0))) (a b c : Value) :
  (((w.setCell ⟨r, 0, none⟩ a).setCell ⟨r, 1, none⟩ b).setCell ⟨r, 2, none⟩ c).heap[r]? = some (.cells #[a, b, c] t (0, 0)) := by
 rw [heap_setCell_same (heap_setCell_same (heap_setCell_same h a) b) c]
 rfl
theorem set3_fr (w : World) (r : Nat) (a b c : Value) : Fr [r] w (((w.setCell ⟨r, 0, none⟩ a).setCell ⟨r, 1, none⟩ b).setCell ⟨r, 2, none⟩ c) :=
 ((Fr.set0 w r 0 a).trans (Fr.set0 _ r 1 b) (fun _ h _ => h) (fun _ h _ => h)).trans (Fr.set0 _ r 2 c) (fun _ h _ => h) (fun _ h _ => h)
theorem sizeSet : (Tryz.prog.info? 93).map (·.size) = some 3 := by kernel_rfl
def PGot (q : Nat) (k : Int) (T : List Words) (m : Nat) (l : Words) (w : World) (e : Ending) (w' : World) : Prop :=
 ∃ x U, e = .returned x ∧ SetAt w' k (T ++ U) x l ∧ PoolAt w' q k (T ++ U) m ∧ Fr (plB q) w w'
set_option maxRecDepth 100000 in
set_option maxHeartbeats 4000000 in
theorem pset (q m : Nat) (k : Int) (T : List Words) (l : Words) (lv : Value) (w : World) (hA : PoolAt w q k T m) (hl : strsAt w lv l) (hg : GoodW k l) (hk : k ≤ 4) (hm : m ≤ 10000000000000000) :
  Calls Tryz.prog 99 #[.pointer (some ⟨q + 2, 0, none⟩), lv] w (PGot q k T (m + 2) l w) := by
 have hsh := hg.sh hk
 have hnm : ∀ w1, Fr [] w w1 → Calls Tryz.prog 131 #[lv] w1 fun e w' => e = .returned (encStr (nameW l)) ∧ Fr [] w1 w' := fun w1 hf => pname l lv w1 (hl.below hf) (by have := hsh.1; omega) (fun x hx => by have := hg.short x hx; omega)
 have hnl := nameW_len l 4 (fun x hx => by have := hg.short x hx; omega)
 have hl5 : (nameW l).length ≤ maxLen := by have := hg.few; simp only [maxLen]; omega
 have hkey := keyOfS (nameW l) hl5
 obtain ⟨c, hc1, hc2, hobj⟩ := hA.obj
 obtain ⟨D, nD, hD1, hD2, hD3⟩ := hA.sets
 obtain ⟨p, hp⟩ : ∃ p, p = q + 2 := ⟨_, rfl⟩
 obtain ⟨nm, hnme⟩ : ∃ nm, nm = nameW l := ⟨_, rfl⟩
 rw [← hnme] at hnm hkey
 rw [← hp] at hobj ⊢
 have HNM := Lib.hid hnm
 have HKY := Lib.hid hkey
 have HP := Lib.hid hp
 have HNE := Lib.hid hnme
 have HG := Lib.hid hg
 have HA := Lib.hid hA
 have HL := Lib.hid hl
 have HO := Lib.hid hobj
 have HD2 := Lib.hid hD2
 obtain ⟨al, cl, rfl, hcl, hml⟩ := hl.form
 cases hh : has D (.string nm) with
 | true =>
   obtain ⟨l2, v2, he2, hat, hs2⟩ := hD3 nm hh
   have he : l = l2 := nameW_inj l l2 (fun x hx => by have := hg.short x hx; omega) (fun x hx => by have := hs2.good.short x hx; omega) (by rw [← hnme]; exact he2)
   subst he
   have hlk : ∀ w1 : World, Fr [] w w1 → (Instr.lookup 129 (.map (some q)) (encStr nm) true).run Tryz.prog w1 = .ok (.tuple #[v2, .bool true]) w1 := fun w1 hf => by
    have := look_held (ownsMap_keptH HD2.out hf (by simp)) lawKS Tryz.underlying129 (zeroKP w1) HKY.out (v := v2) (fun _ => hat) (fun q => by rw [hh] at q; cases q)
    rwa [hh] at this
   have HLK := Lib.hid hlk
   have HS2 := Lib.hid hs2
   obtain ⟨n2, sa, sc, b2, rfl, hS⟩ := hs2.form
   clear hat hD3 hh hA hobj hD2 hl hg hnm hkey hnme hp he2 hl5 hnl hsh hS hlk
   go_enter Tryz.func99, Tryz.ntmps99
   go_upto_region 1 with fail
   have hf0 := Fr.alloc w (.cells #[.int .i64 0, .slice none 0 0, .bool false] 93)
   have hb0 := heap_alloc_new w (.cells #[.int .i64 0, .slice none 0 0, .bool false] 93)
   obtain ⟨w0, hw0⟩ : ∃ w0, w0 = w.alloc (.cells #[.int .i64 0, .slice none 0 0, .bool false] 93) := ⟨_, rfl⟩
   obtain ⟨r, hr⟩ : ∃ r, r = w.heap.size := ⟨_, rfl⟩
   rw [← hw0] at hf0 hb0 ⊢
   rw [← hr] at hb0 ⊢
   have HF0 := Lib.hid hf0
   have HB0 := Lib.hid hb0
   have HR := Lib.hid hr
   clear hf0 hb0 hw0 hr
   go_upto_region 2 with (go_at_call 131; refine (HNM.out _ HF0.out).mono ?_; rintro e w1 ⟨rfl, hf1⟩; have HF1 := Lib.hid (HF0.out.tr0 hf1); have HB1 := Lib.hid (hf1.heap HB0.out (by simp)); obtain ⟨c0, c1, c2, c3, c4, f1, f4⟩ := five_of_heap (HF1.out.heap HO.out (by simp)); clear hf1)
   have hlk := HLK.out w1 HF1.out
   go_upto_region 3 with fail
   have hf2 := Fr.alloc w1 (.cells #[.int .i64 (n2 : Int), .slice sa l.length sc, .bool b2] 93)
   have hb2 := heap_alloc_new w1 (.cells #[.int .i64 (n2 : Int), .slice sa l.length sc, .bool b2] 93)
   obtain ⟨w2, hw2⟩ : ∃ w2, w2 = w1.alloc (.cells #[.int .i64 (n2 : Int), .slice sa l.length sc, .bool b2] 93) := ⟨_, rfl⟩
   obtain ⟨r2, hr2⟩ : ∃ r2, r2 = w1.heap.size := ⟨_, rfl⟩
   rw [← hw2] at hf2 hb2 ⊢
   rw [← hr2] at hb2 ⊢
   have hb1 := hf2.heap HB1.out (by simp)
   have HR3 := Lib.hid (set3_heap hb1 (.int .i64 (n2 : Int)) (.slice sa l.length sc) (.bool b2))
   have hfin := (HF1.out.tr0 hf2).trans (set3_fr w2 r (.int .i64 (n2 : Int)) (.slice sa l.length sc) (.bool b2)) (n := []) (by simp) (fun i hi hlt => by simp at hi; have := HR.out; omega)
   have HFIN := Lib.hid hfin
   obtain ⟨d0, d1, d2, g0, g1, g2⟩ := three_of_set hb2
   obtain ⟨x0, x1, x2, y0, y1, y2⟩ := three_of_heap hb1
   clear hf2 hb2 hw2 hr2 hb1 hfin hlk c0 c1 c2 c3 c4 f1 f4
   go_wp2_with fail
   refine bodyPost_ret (results_cell_row rfl _ _ r 93 #[.int .i64 (n2 : Int), .slice sa l.length sc, .bool b2] (0, 0) _ rfl HR3.out Tryz.underlying93 rfl sizeSet) rfl ⟨_, [], rfl, ?_, ?_, HFIN.out.mono (by simp)⟩
   ·rw [List.append_nil]; exact HS2.out.keep HFIN.out (by simp)
   ·rw [List.append_nil]; exact (HA.out.later HFIN.out).mono (by omega)
 | false =>
   have hlk : ∀ w1 : World, Fr [] w w1 → (Instr.lookup 129 (.map (some q)) (encStr nm) true).run Tryz.prog w1 = .ok (.tuple #[.agg #[.int .i64 0, .slice none 0 0, .bool false], .bool false]) w1 := fun w1 hf => by
    have := look_held (ownsMap_keptH HD2.out hf (by simp)) lawKS Tryz.underlying129 (zeroKP w1) HKY.out (v := .agg #[.int .i64 0, .slice none 0 0, .bool false]) (fun q => by rw [hh] at q; cases q) (fun _ => rfl)
    rwa [hh] at this
   have HLK := Lib.hid hlk
   have hfew := hA.few
   have hln : l.length ≤ 4096 := hg.few
   clear hD3 hh hA hobj hD2 hl hg hnm hkey hnme hp hl5 hnl hsh hlk
   go_enter Tryz.func99, Tryz.ntmps99
   go_upto_region 1 with fail
   have hf0 := Fr.alloc w (.cells #[.int .i64 0, .slice none 0 0, .bool false] 93)
   have hb0 := heap_alloc_new w (.cells #[.int .i64 0, .slice none 0 0, .bool false] 93)
   obtain ⟨w0, hw0⟩ : ∃ w0, w0 = w.alloc (.cells #[.int .i64 0, .slice none 0 0, .bool false] 93) := ⟨_, rfl⟩
   obtain ⟨r, hr⟩ : ∃ r, r = w.heap.size := ⟨_, rfl⟩
   rw [← hw0] at hf0 hb0 ⊢
   rw [← hr] at hb0 ⊢
   have HF0 := Lib.hid hf0
   have HB0 := Lib.hid hb0
   have HR := Lib.hid hr
   clear hf0 hb0 hw0 hr
   go_upto_region 2 with (go_at_call 131; refine (HNM.out _ HF0.out).mono ?_; rintro e w1 ⟨rfl, hf1⟩; have HF1 := Lib.hid (HF0.out.tr0 hf1); have HB1 := Lib.hid (hf1.heap HB0.out (by simp)); obtain ⟨c0, c1, c2, c3, c4, f1, f4⟩ := five_of_heap (HF1.out.heap HO.out (by simp)); clear hf1)
   have hlk := HLK.out w1 HF1.out
   go_upto_region 3 with fail
   have hf2 := Fr.alloc w1 (.cells #[.int .i64 0, .slice none 0 0, .bool false] 93)
   have hb2 := heap_alloc_new w1 (.cells #[.int .i64 0, .slice none 0 0, .bool false] 93)
   obtain ⟨w2, hw2⟩ : ∃ w2, w2 = w1.alloc (.cells #[.int .i64 0, .slice none 0 0, .bool false] 93) := ⟨_, rfl⟩
   obtain ⟨r2, hr2⟩ : ∃ r2, r2 = w1.heap.size := ⟨_, rfl⟩
   rw [← hw2] at hf2 hb2 ⊢
   rw [← hr2] at hb2 ⊢
   have HF2 := Lib.hid (HF1.out.tr0 hf2)
   have HR2 := Lib.hid hr2
   have hrr2 : r < r2 := by rw [hr2]; exact (Array.getElem?_eq_some_iff.1 HB1.out).1
   have hpr : p < r := by rw [HR.out]; exact (Array.getElem?_eq_some_iff.1 HO.out).1
   have hpq := HP.out
   have ho2 := HF2.out.heap HO.out (by simp)
   have hs3 := Fr.set0 w2 p 1 (.int .i64 ((T.length : Int) + 1))
   have ho3 := heap_setCell_same (i := 1) ho2 (.int .i64 ((T.length : Int) + 1))
   obtain ⟨w3, hw3⟩ : ∃ w3, w3 = w2.setCell ⟨p, 1, none⟩ (.int .i64 ((T.length : Int) + 1)) := ⟨_, rfl⟩
   rw [← hw3] at hs3 ho3
   have HO3 := Lib.hid (show w3.heap[p]? = some (.cells #[.int .i64 k, .int .i64 ((T.length : Int) + 1), .map (some q), .map (some (q + 1)), .int .i64 c] 132 (0, 0)) from ho3)
   have HB23 := Lib.hid (hs3.heap hb2 (by simp; omega))
   have HB13 := Lib.hid (hs3.heap (hf2.heap HB1.out (by simp)) (by simp; omega))
   have HF3 := Lib.hid (show Fr [p] w w3 from HF2.out.trans hs3 (by simp) (fun _ h _ => h))
   have HW3 := Lib.hid hw3
   obtain ⟨c0, c1, c2, c3, c4, f1, f4⟩ := five_of_heap ho2
   clear hf2 hb2 hw2 hr2 hs3 ho3 hw3 ho2 hlk hpq
   go_upto_region 6 with fail
   rw [← HW3.out]
   clear c0 c1 c2 c3 c4 f1 f4
   have HWH := Lib.hid (pfull p l k (.slice al l.length cl))
   have hq3 : ∀ b ∈ [p], NotStr w b := fun b hb => HA.out.quiet b (by rw [List.mem_singleton.1 hb, HP.out]; simp [plB])
   have HQ3 := Lib.hid hq3
   have HL3 := Lib.hid (strs_keepN HL.out HF3.out hq3)
   have hr23 : r2 < w3.heap.size := (Array.getElem?_eq_some_iff.1 HB23.out).1
   obtain ⟨B, hB⟩ : ∃ B, B = fullW k l := ⟨_, rfl⟩
   rw [← hB] at HWH
   have HB := Lib.hid hB
   clear hq3 hB
   refine wp_region_G [r2] [(0, false), (1, false), (2, false), (3, false), (4, false), (5, false), (6, false), (7, true), (8, false), (9, true)] 48 rfl (by kernel_rfl) (by kernel_rfl) (by kernel_rfl) (fun c a d v w h => by cases d <;> exact h) (fun wd hfd => ?_)
   simp only [List.map_cons, List.map_nil, List.getElem?_toArray, List.getElem?_cons_succ, List.getElem?_cons_zero, Option.getD_some]
   have hod := hfd.heap HO3.out (by simp)
   have hbd := hfd.heap HB23.out (by simp)
   have L1 : Hid (Later [r2] wd (fun w' => w'.heap[p]? = some (.cells #[.int .i64 k, .int .i64 ((T.length : Int) + 1), .map (some q), .map (some (q + 1)), .int .i64 c] 132 (0, 0)))) := Lib.hid (fun w' hf' => hf'.heap hod (by simp; omega))
   have HLD := Lib.hid (strsAt.below HL3.out hfd)
   have HBD := Lib.hid hbd
   have HFD := Lib.hid (show Fr [p] w wd from HF3.out.trans hfd (fun _ h _ => h) (by simp))
   have HB1D := Lib.hid (hfd.heap HB13.out (by simp))
   clear hod hbd hfd
   repeat (apply wpG_t; · (intro w' hf'; obtain ⟨c0, c1, c2, c3, c4, f1, f4⟩ := five_of_heap (L1.out w' hf'); go_wp2_with fail; exact ⟨rfl, rfl⟩))
   refine wpG_x ?_
   have hcp := cell_of_heap (L1.out wd (Fr.refl _ _)) 0
   go_wp2_with (go_at_call 132; refine (HWH.out wd hcp HLD.out).mono ?_; rintro e w4 ⟨rfl, hf4⟩)
   refine ⟨hf4.mono (by simp), rfl, ?_⟩
   have HB4 := Lib.hid (hf4.heap HBD.out (by simp))
   have HB14 := Lib.hid (hf4.heap HB1D.out (by simp))
   have HO4 := Lib.hid (hf4.heap (L1.out wd (Fr.refl _ _)) (by simp))
   have HL4 := Lib.hid (strsAt.below HLD.out hf4)
   have HF4 := Lib.hid (show Fr [p] w w4 from HFD.out.trans hf4 (fun _ h _ => h) (by simp))
   clear hf4 hcp
   repeat (apply wpG_t; · (intro w' hf'; go_wp2_with fail; exact ⟨rfl, rfl⟩))
   refine wpG_x ?_
   obtain ⟨x0, x1, x2, y0, y1, y2⟩ := three_of_heap HB4.out
   go_wp2_with fail
   refine ⟨set3_fr w4 r2 _ _ _, rfl, ?_⟩
   refine wpG_end ?_
   have hs5 := set3_fr w4 r2 (.int .i64 ((T.length : Int) + 1)) (.slice al l.length cl) (.bool B)
   have hb5 := set3_heap HB4.out (.int .i64 ((T.length : Int) + 1)) (.slice al l.length cl) (.bool B)
   obtain ⟨w5, hw5⟩ : ∃ w5, w5 = ((w4.setCell ⟨r2, 0, none⟩ (.int .i64 ((T.length : Int) + 1))).setCell ⟨r2, 1, none⟩ (.slice al l.length cl)).setCell ⟨r2, 2, none⟩ (.bool B) := ⟨_, rfl⟩
   rw [← hw5] at hs5 hb5 ⊢
   have hbw : w.heap.size ≤ r2 := by have := HR.out; omega
   have HF5 := Lib.hid (show Fr [p] w w5 from HF4.out.trans hs5 (fun _ h _ => h) (fun i hi hlt => by simp at hi; omega))
   have ho5 := hs5.heap HO4.out (by simp; omega)
   have hl5 : strsAt w5 (.slice al l.length cl) l := strs_keepN HL4.out hs5 (fun b hb => by
    rw [List.mem_singleton.1 hb]
    exact NotStr.cells HB4.out (fun z hz x e => by subst e; simp at hz))
   have hSP : SetP w5 k (T ++ [l]) (T.length + 1) (.slice al l.length cl) B l := ⟨by simp, hl5, fun h => by rw [← HB.out]; exact h, HG.out⟩
   have hP5 : PoolAt w5 q k (T ++ [l]) (m + 1) := by
    obtain ⟨D1, n1, h1, h2, h3⟩ := HA.out.sets
    obtain ⟨E1, m1, g1, g2, g3⟩ := HA.out.prods
    have hpq := HP.out
    refine ⟨⟨c, hc1, hc2, ?_⟩, ⟨D1, n1, by omega, ownsMap_keptH h2 HF5.out (by simp; omega), h3.keep HF5.out HQ3.out [l]⟩, ⟨E1, m1, by omega, ownsMap_keptH g2 HF5.out (by simp; omega), g3.keep HF5.out HQ3.out [l]⟩, by simp; omega⟩
    rw [← hpq, ho5]
    simp
   have hpl : p < r2 := by omega
   obtain ⟨x0', x1', x2', y0', y1', y2'⟩ := three_of_heap hb5
   have HKP := Lib.hid (pkeep q (m + 1) l.length k (T ++ [l]) w5 hP5 (by omega))
   rw [← HP.out] at HKP
   have HSP := Lib.hid hSP
   have HB5 := Lib.hid hb5
   have HB15 := Lib.hid (hs5.heap HB14.out (by simp; omega))
   have HQ5 := Lib.hid hP5.quiet
   clear hs5 hb5 hw5 ho5 hl5 hSP hP5 x0 x1 x2 y0 y1 y2 x0' x1' x2' y0' y1' y2'
   go_upto_region 8 with (go_at_call 130; refine HKP.out.mono ?_; rintro e w6 ⟨rfl, hP6, hf6⟩; have HP6 := Lib.hid hP6; have HF6 := Lib.hid hf6; clear hP6 hf6)
   obtain ⟨c6, hc61, hc62, ho6⟩ := HP6.out.obj
   obtain ⟨D6, n6, h61, h62, h63⟩ := HP6.out.sets
   obtain ⟨E6, m6, g61, g62, g63⟩ := HP6.out.prods
   rw [← HP.out] at ho6
   have hq6 : ∀ b ∈ plB q, b ≠ r2 ∧ b ≠ r := fun b hb => by
    have := HP.out
    unfold plB at hb
    simp only [List.mem_cons, List.not_mem_nil, or_false] at hb
    omega
   have hb26 := HF6.out.heap HB5.out (fun hm => (hq6 _ hm).1 rfl)
   have hb16 := HF6.out.heap HB15.out (fun hm => (hq6 _ hm).2 rfl)
   have HSP6 := Lib.hid (HSP.out.keep HF6.out HQ5.out)
   have HB16 := Lib.hid hb16
   have HB26 := Lib.hid hb26
   have HO6 := Lib.hid ho6
   have HM6 := Lib.hid h62
   have HE6 := Lib.hid g62
   have HS6 := Lib.hid h63
   have HG6 := Lib.hid g63
   have hn6 : n6 < maxLen := by simp only [maxLen]; omega
   clear ho6 h62 h63 g62 g63 hq6 hb26 hb16 HSP
   refine wp_region_G [q] [(0, false), (1, false), (2, false), (3, false), (4, false), (5, false), (6, true)] 48 rfl (by kernel_rfl) (by kernel_rfl) (by kernel_rfl) (fun c a d v w h => by cases d <;> exact h) (fun wd hfd => ?_)
   simp only [List.map_cons, List.map_nil, List.getElem?_toArray, List.getElem?_cons_succ, List.getElem?_cons_zero, Option.getD_some]
   have hod := hfd.heap HO6.out (by simp)
   have hbd := hfd.heap HB26.out (by simp)
   have L1 : Hid (Later [q] wd (fun w' => w'.heap[p]? = some (.cells #[.int .i64 k, .int .i64 ((T ++ [l]).length : Int), .map (some q), .map (some (q + 1)), .int .i64 c6] 132 (0, 0)))) := Lib.hid (fun w' hf' => hf'.heap hod (by have := HP.out; simp; omega))
   have L2 : Hid (Later [q] wd (fun w' => w'.heap[r2]? = some (.cells #[.int .i64 ((T.length : Int) + 1), .slice al l.length cl, .bool B] 93 (0, 0)))) := Lib.hid (fun w' hf' => hf'.heap hbd (by have := HP.out; simp; omega))
   have HMD := Lib.hid (ownsMap_keptH HM6.out hfd (by simp))
   have HFD6 := Lib.hid hfd
   clear hod hbd hfd
   repeat (apply wpG_t; · (intro w' hf'; obtain ⟨c0, c1, c2, c3, c4, f1, f4⟩ := five_of_heap (L1.out w' hf'); obtain ⟨x0, x1, x2, y0, y1, y2⟩ := three_of_heap (L2.out w' hf'); go_wp2_with fail; exact ⟨rfl, rfl⟩))
   refine wpG_x ?_
   go_wp2_with (at_mapUpdate; refine wpList_mapUpdate_own _ rfl _ _ _ 129 rfl 9 93 lawKS Tryz.underlying129 heldR q n6 _ rfl HMD.out hn6 _ _ _ rfl rfl HKY.out _ [] rfl ?_; intro w7 hown7 hgrow7)
   have hf7 : Fr [q] wd w7 := Fr.of_grown hgrow7
   refine ⟨hf7, rfl, ?_⟩
   refine wpG_end ?_
   have hd7 : Fr [q] w6 w7 := HFD6.out.trans hf7 (by simp) (fun _ h _ => h)
   have hq7 : ∀ b ∈ [q], NotStr w6 b := fun b hb => by
    rw [List.mem_singleton.1 hb]
    exact HP6.out.quiet q (by simp [plB])
   have hb27 := hd7.heap HB26.out (by have := HP.out; simp; omega)
   have hb17 := hd7.heap HB16.out (by have := HP.out; simp; omega)
   have HSP7 := Lib.hid (HSP6.out.keep hd7 hq7)
   have HP7 : Hid (PoolAt w7 q k (T ++ [l]) (m + 2)) := Lib.hid (by
    have h7 := HS6.out.keep hd7 hq7 []
    have g7 := HG6.out.keep hd7 hq7 []
    rw [List.append_nil] at h7 g7
    refine ⟨⟨c6, hc61, hc62, ?_⟩, ⟨_, n6 + 1, ?_, hown7, ?_⟩, ⟨E6, m6, by omega, ownsMap_keptH HE6.out hd7 (by simp), g7⟩, by have := HP6.out.few; omega⟩
    ·have h := hd7.heap HO6.out (by have := HP.out; simp; omega)
     rw [HP.out] at h
     exact h
    ·omega
    ·rw [HNE.out]
     exact h7.put HMD.out.isMap ⟨_, _, _, rfl, HSP7.out⟩)
   have hf8 := set3_fr w7 r (.int .i64 ((T.length : Int) + 1)) (.slice al l.length cl) (.bool B)
   have HR8 := Lib.hid (set3_heap hb17 (.int .i64 ((T.length : Int) + 1)) (.slice al l.length cl) (.bool B))
   obtain ⟨x0, x1, x2, y0, y1, y2⟩ := three_of_heap hb27
   obtain ⟨x0', x1', x2', y0', y1', y2'⟩ := three_of_heap hb17
   have hr8 : ∀ b ∈ [r], NotStr w7 b ∧ b ∉ plB q := fun b hb => by
    rw [List.mem_singleton.1 hb]
    refine ⟨NotStr.cells hb17 (fun z hz x e => by subst e; simp at hz), ?_⟩
    have := HP.out
    simp [plB]
    omega
   have HP8 := Lib.hid (HP7.out.keep hf8 hr8)
   have HSP8 := Lib.hid (HSP7.out.keep hf8 (fun b hb => (hr8 b hb).1))
   have HFIN := Lib.hid (show Fr (plB q) w (((w7.setCell ⟨r, 0, none⟩ (.int .i64 ((T.length : Int) + 1))).setCell ⟨r, 1, none⟩ (.slice al l.length cl)).setCell ⟨r, 2, none⟩ (.bool B)) from by
    have := HP.out
    have h1 : Fr (plB q) w w5 := HF5.out.mono (fun i hi _ => by simp at hi; simp [plB, hi, this])
    have h2 : Fr (plB q) w w6 := h1.trans HF6.out (fun _ h _ => h) (fun _ h _ => h)
    have h3 : Fr (plB q) w w7 := h2.trans hd7 (fun _ h _ => h) (fun i hi _ => by simp at hi; simp [plB, hi])
    exact h3.trans hf8 (fun _ h _ => h) (fun i hi hlt => by simp at hi; have := HR.out; omega))
   clear hf8 hb27 hb17 hr8 hd7 hq7 hown7 hgrow7 hf7
   go_wp2_with fail
   refine bodyPost_ret (results_cell_row rfl _ _ r 93 #[.int .i64 ((T.length : Int) + 1), .slice al l.length cl, .bool B] (0, 0) _ rfl HR8.out Tryz.underlying93 rfl sizeSet) rfl ⟨_, [l], rfl, ⟨T.length + 1, _, _, by simp [setV], HSP8.out⟩, HP8.out, HFIN.out⟩
end Go.Proofs.YtnaamjpiaekmeaaGreat
namespace Go.Proofs.YtnaamjpiaekmeaaGreat
open Go.RowKit Go.Maps
set_option maxRecDepth 100000 in
theorem pclone (l : Words) (lv : Value) (w : World) (h : strsAt w lv l) (hl : l.length ≤ 100000) :
  Calls Tryz.prog 102 #[lv] w fun e w' => ∃ v, e = .returned v ∧ strsAt w' v l ∧ Fr [] w w' := by
 obtain ⟨iS, hiS, hS0, hS1, hS2⟩ := info_parts infoStrW
 obtain ⟨a0, c0, rfl, hle, hmx⟩ := h.form
 have HE := Lib.hid h
 clear h
 cases a0 with
 | none =>
   have hl0 : l = [] := by
    rcases HE.out with ⟨a, c, e, h1, h2⟩ | ⟨b, off, c, e, h1, h2, h3⟩
    ·simpa using h2
    ·cases e
   subst hl0
   have hq : (binOp BinOp.eql 22 (.slice none 0 c0) (.slice none 0 0)).run Tryz.prog w = .ok (.bool true) w := by kernel_rfl
   go_enter Tryz.func102, Tryz.ntmps102
   go_wp2_with fail
   go_ret
   exact ⟨_, rfl, cellsAt.nil _, Fr.refl _ _⟩
 | some a =>
   have hq : (binOp BinOp.eql 22 (.slice (some a) l.length c0) (.slice none 0 0)).run Tryz.prog w = .ok (.bool false) w := by kernel_rfl
   go_enter Tryz.func102, Tryz.ntmps102
   have hrow : (w.alloc (.cells #[] 9)).ownsRow w.heap.size 9 1 (.slice (some ⟨w.heap.size, 0, none⟩) 0 0) 0 [] :=
    ⟨rfl, .inr ⟨w.heap.size, 0, #[], rfl, Nat.le_refl _, heap_alloc_new w _, Nat.le_refl _, by simp [maxLen], rfl, rfl⟩⟩
   have HROW := Lib.hid hrow
   have HE1 := Lib.hid (strsAt.below HE.out (Fr.alloc w (.cells #[] 9)))
   clear hrow
   go_wp2_with (at_builtin; refine wpL_appendC rfl _ _ 22 rfl w.heap.size 9 iS (.string ⟨#[]⟩) 16 Tryz.underlying22 hiS hS0 hS1 hS2 rfl (.slice (some ⟨w.heap.size, 0, none⟩) 0 0) 0 [] rfl HROW.out (.slice (some a) l.length c0) (l.map encStr) rfl HE1.out (fun u hu => by obtain ⟨y, _, rfl⟩ := List.mem_map.1 hu; rfl) (by rw [List.length_map]; omega) (by rw [List.length_map]; simp only [maxLen]; omega) (by simp) ?_; intro v7 w7 hown7 hf7)
   go_ret
   refine ⟨v7, rfl, ?_, (Fr.alloc w (.cells #[] 9)).trans hf7 (by simp) (fun i hi hlt => by simp [Value.ownBlock] at hi; omega)⟩
   refine cellsAt_of_owns (base := w.heap.size) (e := 9) ?_
   simpa using hown7
set_option maxRecDepth 100000 in
theorem pof (q m : Nat) (k : Int) (T : List Words) (l : Words) (lv : Value) (w : World) (hA : PoolAt w q k T m) (hl : strsAt w lv l) (hg : GoodW k l) (hk : k ≤ 4) (hm : m ≤ 10000000000000000) :
  Calls Tryz.prog 79 #[.pointer (some ⟨q + 2, 0, none⟩), lv] w (PGot q k T (m + 2) l w) := by
 have HA := Lib.hid hA
 have HL := Lib.hid hl
 have HG := Lib.hid hg
 obtain ⟨al, cl, rfl, hcl, hml⟩ := hl.form
 have HQL := Lib.hid (show q + 2 < w.heap.size from by obtain ⟨c, _, _, h⟩ := hA.obj; exact (Array.getElem?_eq_some_iff.1 h).1)
 clear hA hl hg
 go_enter Tryz.func79, Tryz.ntmps79
 go_upto_region 1 with fail
 have hf0 := Fr.alloc w (.cells #[.int .i64 0, .slice none 0 0, .bool false] 93)
 have hb0 := heap_alloc_new w (.cells #[.int .i64 0, .slice none 0 0, .bool false] 93)
 obtain ⟨w0, hw0⟩ : ∃ w0, w0 = w.alloc (.cells #[.int .i64 0, .slice none 0 0, .bool false] 93) := ⟨_, rfl⟩
 obtain ⟨r, hr⟩ : ∃ r, r = w.heap.size := ⟨_, rfl⟩
 rw [← hw0] at hf0 hb0 ⊢
 rw [← hr] at hb0 ⊢
 have HF0 := Lib.hid hf0
 have HB0 := Lib.hid hb0
 have HR := Lib.hid hr
 have HCL := Lib.hid (pclone l (.slice al l.length cl) w0 (HL.out.below hf0) (by have := HG.out.few; omega))
 clear hf0 hb0 hw0 hr
 obtain ⟨p, hp⟩ : ∃ p, p = q + 2 := ⟨_, rfl⟩
 rw [← hp]
 have HP := Lib.hid hp
 clear hp
 go_wp2_with (first
  | (go_at_call 102; refine HCL.out.mono ?_; rintro e w1 ⟨v1, rfl, hs1, hf1⟩; have HS := Lib.hid (pset q m k T l v1 w1 (HA.out.later (HF0.out.tr0 hf1)) hs1 HG.out hk hm); rw [← HP.out] at HS; have HF1 := Lib.hid (HF0.out.tr0 hf1); have HB1 := Lib.hid (hf1.heap HB0.out (by simp)); obtain ⟨a1, c1, rfl, _, _⟩ := hs1.form; clear hs1 hf1)
  | (go_at_call 99; refine HS.out.mono ?_; rintro e w2 ⟨x, U, rfl, hx, hP2, hf2⟩; obtain ⟨n2, sa, sc, b2, rfl, hS⟩ := hx.form; have hb2 := hf2.heap HB1.out (by have := HR.out; have := HQL.out; simp [plB]; omega); obtain ⟨x0, x1, x2, y0, y1, y2⟩ := three_of_heap hb2; have HB2 := Lib.hid hb2; have HX := Lib.hid hx; have HP2 := Lib.hid hP2; have HF2 := Lib.hid hf2; clear hb2 hx hP2 hf2 hS))
 have hf8 := set3_fr w2 r (.int .i64 (n2 : Int)) (.slice sa l.length sc) (.bool b2)
 have hr8 : ∀ b ∈ [r], NotStr w2 b ∧ b ∉ plB q := fun b hb => by
  rw [List.mem_singleton.1 hb]
  refine ⟨NotStr.cells HB2.out (fun z hz x e => by subst e; simp at hz), ?_⟩
  have := HQL.out
  have := HR.out
  simp [plB]
  omega
 have HR8 := Lib.hid (set3_heap HB2.out (.int .i64 (n2 : Int)) (.slice sa l.length sc) (.bool b2))
 refine bodyPost_ret (results_cell_row rfl _ _ r 93 #[.int .i64 (n2 : Int), .slice sa l.length sc, .bool b2] (0, 0) _ rfl HR8.out Tryz.underlying93 rfl sizeSet) rfl ⟨_, U, rfl, HX.out.keep hf8 (fun b hb => (hr8 b hb).1), HP2.out.keep hf8 hr8, ?_⟩
 exact (HF1.out.trans HF2.out (n := plB q) (by simp) (fun _ h _ => h)).trans hf8 (fun _ h _ => h) (fun i hi hlt => by simp at hi; have := HR.out; omega)
set_option maxRecDepth 100000 in
theorem plen (k : Int) (T : List Words) (x : Value) (l : Words) (w : World) (hx : SetAt w k T x l) :
  Calls Tryz.prog 59 #[x] w fun e w' => e = .returned (.int .i64 (l.length : Int)) ∧ Fr [] w w' := by
 obtain ⟨n2, sa, sc, b2, rfl, hS⟩ := hx.form
 clear hx hS
 have hf := Fr.alloc w (.cells #[.int .i64 (n2 : Int), .slice sa l.length sc, .bool b2] 93)
 have HF := Lib.hid hf
 clear hf
 go_enter Tryz.func59, Tryz.ntmps59
 go_wp2_with fail
 go_ret
 exact ⟨rfl, HF.out⟩
set_option maxRecDepth 100000 in
theorem pwords (k : Int) (T : List Words) (x : Value) (l : Words) (w : World) (hx : SetAt w k T x l) :
  Calls Tryz.prog 62 #[x] w fun e w' => ∃ v, e = .returned v ∧ strsAt w' v l ∧ Fr [] w w' := by
 obtain ⟨n2, sa, sc, b2, rfl, hS⟩ := hx.form
 have hf := Fr.alloc w (.cells #[.int .i64 (n2 : Int), .slice sa l.length sc, .bool b2] 93)
 have HF := Lib.hid hf
 have HCL := Lib.hid (pclone l (.slice sa l.length sc) _ (hS.words.below hf) (by have := hS.good.few; omega))
 clear hf hx hS
 go_enter Tryz.func62, Tryz.ntmps62
 go_wp2_with (go_at_call 102; refine HCL.out.mono ?_; rintro e w1 ⟨v1, rfl, hs1, hf1⟩)
 go_ret
 exact ⟨v1, rfl, hs1, HF.out.tr0 hf1⟩
end Go.Proofs.YtnaamjpiaekmeaaGreat
