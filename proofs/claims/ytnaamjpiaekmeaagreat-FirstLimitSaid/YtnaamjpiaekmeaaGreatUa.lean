/- Several texts in one: UniA, UniB, UniC, UniS, UniD. -/
import Derived.Maps.Ext
import Derived.Sort.KeysCollected
import Derived.LoopTactic
import Derived.Deep.DeepCutAuto
import Derived.Test.YtnaamjpiaekmeaaGreatPc
import Derived.Test.YtnaamjpiaekmeaaGreatMn
import Derived.Test.YtnaamjpiaekmeaaGreatShIt
import Derived.Test.YtnaamjpiaekmeaaGreatBs
set_option linter.unusedVariables false
set_option linter.unusedSimpArgs false
namespace Go.Proofs.YtnaamjpiaekmeaaGreat
open Go.RowKit Go.Maps
structure WMap (D : DataW Unit) (K : Words) : Prop where
 tidy : Tidy D
 nodup : K.Nodup
 mem : ∀ l, has D l = true ↔ ∃ x ∈ K, l = .string x
 size : size D = K.length
def addX (K : Words) (x : List UInt8) : Words := if x ∈ K then K else K ++ [x]
def addK (K l : Words) : Words := l.foldl addX K
theorem WMap.nil : WMap (.map []) [] := ⟨tidy_empty, List.nodup_nil, fun l => by simp [has], rfl⟩
theorem WMap.put {D : DataW Unit} {K : Words} (h : WMap D K) (x : List UInt8) (u : DataW Unit) : WMap (D.put (.string x) u) (addX K x) := by
 have hk : WideAt.IsKeyLit (.string x) := trivial
 have hs := Go.Maps.size_put h.tidy (k := .string x) u
 unfold addX
 by_cases e : x ∈ K
 ·rw [if_pos e]
  have hh : has D (.string x) = true := (h.mem _).2 ⟨x, e, rfl⟩
  refine ⟨h.tidy.put hk u, h.nodup, fun l => ?_, by rw [hs, if_pos hh]; exact h.size⟩
  by_cases q : l = .string x
  ·subst q; rw [has_put_same h.tidy.isMap hk]; exact ⟨fun _ => ⟨x, e, rfl⟩, fun _ => rfl⟩
  ·rw [has_put_other q]; exact h.mem l
 ·rw [if_neg e]
  have hh : ¬ has D (.string x) = true := fun q => by
   obtain ⟨y, hy, e2⟩ := (h.mem _).1 q
   injection e2 with e2
   exact e (e2 ▸ hy)
  refine ⟨h.tidy.put hk u, ?_, fun l => ?_, by rw [hs, if_neg hh, h.size, List.length_append]; rfl⟩
  ·rw [List.nodup_append]
   exact ⟨h.nodup, by simp, fun a ha b hb => by rw [List.mem_singleton.1 hb]; exact fun q => e (q ▸ ha)⟩
  ·by_cases q : l = .string x
   ·subst q; rw [has_put_same h.tidy.isMap hk]; exact ⟨fun _ => ⟨x, by simp, rfl⟩, fun _ => rfl⟩
   ·rw [has_put_other q, h.mem]
    constructor
    ·rintro ⟨y, hy, rfl⟩; exact ⟨y, by simp [hy], rfl⟩
    ·rintro ⟨y, hy, rfl⟩
     rcases List.mem_append.1 hy with hy | hy
     ·exact ⟨y, hy, rfl⟩
     ·exact (q (by rw [List.mem_singleton.1 hy])).elim
theorem mem_addX {K : Words} {x y : List UInt8} : y ∈ addX K x ↔ y ∈ K ∨ y = x := by
 unfold addX
 split
 ·rename_i h
  exact ⟨.inl, fun q => q.elim id (fun e => e ▸ h)⟩
 ·rw [List.mem_append, List.mem_singleton]
theorem mem_addK : ∀ {l K : Words} {y : List UInt8}, y ∈ addK K l ↔ y ∈ K ∨ y ∈ l
 | [], K, y => by simp [addK]
 | x :: r, K, y => by
   show y ∈ addK (addX K x) r ↔ _
   rw [mem_addK, mem_addX, List.mem_cons, or_assoc]
theorem addK_snoc (K l : Words) (x : List UInt8) : addK K (l ++ [x]) = addX (addK K l) x := by simp [addK]
theorem addK_sub : ∀ {l K : Words}, (∀ x ∈ l, x ∈ K) → addK K l = K
 | [], _, _ => rfl
 | x :: r, K, h => by
   show addK (addX K x) r = K
   rw [show addX K x = K by unfold addX; rw [if_pos (h x (by simp))]]
   exact addK_sub (fun y hy => h y (by simp [hy]))
theorem addX_len (K : Words) (x : List UInt8) : (addX K x).length ≤ K.length + 1 := by
 unfold addX; split
 ·omega
 ·simp
theorem addK_len : ∀ (l K : Words), (addK K l).length ≤ K.length + l.length
 | [], K => by simp [addK]
 | x :: r, K => by
   have h1 := addK_len r (addX K x)
   have h2 := addX_len K x
   show (addK (addX K x) r).length ≤ _
   rw [List.length_cons]
   omega
theorem addK_nodup : ∀ {l K : Words}, K.Nodup → (addK K l).Nodup
 | [], _, h => h
 | x :: r, K, h => addK_nodup (l := r) (K := addX K x) (by
   unfold addX
   split
   ·exact h
   ·rename_i e
    rw [List.nodup_append]
    exact ⟨h, by simp, fun a ha b hb => by rw [List.mem_singleton.1 hb]; exact fun q => e (q ▸ ha)⟩)
theorem WMap.perm {D : DataW Unit} {K : Words} (h : WMap D K) {P : Program} {kt : TypeId} {R : Value → Option (DataW Unit × List MemPlace)} {w : World} {b n : Nat} (ho : w.ownsMap P kt R b n D) (hk : P.underlying kt = some .string) : K.Perm (strKeys D) := by
 obtain ⟨es2, hD, hkeys⟩ := ho.keysOf
 obtain ⟨⟨es, rfl, hp⟩, hn, hm, hs⟩ := h
 injection hD with hD
 subst hD
 refine perm_strKeys hp (fun p hp' => ?_) hn (fun x => ?_)
 ·obtain ⟨v, hv⟩ := hkeys p hp'
  obtain ⟨x, _, hx, _⟩ := Maps.keyOf_str hk hv
  exact ⟨x, hx⟩
 ·rw [hm]
  exact ⟨fun q => ⟨x, q, rfl⟩, fun ⟨y, hy, e⟩ => by injection e with e; rw [e]; exact hy⟩
theorem sort_perm {K ss : Words} (h : ss.Perm K) (hn : K.Nodup) : (ss.mergeSort fun x y => decide (x ≤ y)) = ofW K :=
 (set_sortW (h.nodup_iff.2 hn)).one (set_ofW K) (fun x => by
  show x ∈ sortW ss ↔ _
  rw [mem_sortW, mem_ofW]
  exact h.mem_iff)
def PaMap (T : List Words) (K : Words) (D : DataW Unit) : Prop := ∀ n : Nat, has D (.int .i64 (n : Int)) = true → ∃ l, ([] :: T)[n]? = some l ∧ ∀ x ∈ l, x ∈ K
theorem PaMap.nil (T : List Words) (K : Words) : PaMap T K (.map []) := fun n h => by cases h
theorem PaMap.more {T : List Words} {K K' : Words} {D : DataW Unit} (h : PaMap T K D) (U : List Words) (hK : ∀ x ∈ K, x ∈ K') : PaMap (T ++ U) K' D := fun n hn => by
 obtain ⟨l, e, h1⟩ := h n hn
 exact ⟨l, by rw [← List.cons_append, List.getElem?_append_left (List.getElem?_eq_some_iff.1 e).1]; exact e, fun x hx => hK x (h1 x hx)⟩
theorem PaMap.put {T : List Words} {K : Words} {D : DataW Unit} (h : PaMap T K D) {n : Nat} {l : Words} (hn : ([] :: T)[n]? = some l) (hl : ∀ x ∈ l, x ∈ K) (u : DataW Unit) : PaMap T K (D.put (.int .i64 (n : Int)) u) := fun j hj => by
 by_cases e : j = n
 ·subst e; exact ⟨l, hn, hl⟩
 ·rw [has_put_other (fun q => e (by injection q with _ q; omega))] at hj
  exact h j hj
theorem ownsMap_tight {H : Type} {w : World} {P : Program} {k : TypeId} {R : Value → Option (DataW H × List MemPlace)} {b n : Nat} {D : DataW H} (h : w.ownsMap P k R b n D) : w.ownsMap P k R b (Maps.size D) D := by
 obtain ⟨es, c, hh, F, hs, rfl⟩ := h
 exact ⟨es, c, hh, F, by simp [Maps.size, length_sorted], rfl⟩
structure UniAt (w : World) (u q : Nat) (k : Int) (T : List Words) (K : Words) : Prop where
 obj : ∃ n v b V, w.heap[u + 2]? = some (.cells #[.pointer (some ⟨q + 2, 0, none⟩), .map (some u), .map (some (u + 1)), .int .i64 (n : Nat), v, .bool b] 139 (0, 0)) ∧ SetP w k T n v b V ∧ ∀ x ∈ V, x ∈ K
 words : ∃ D, w.ownsMap Tryz.prog 9 unitElem u K.length D ∧ WMap D K
 parts : ∃ D c, c ≤ 4096 ∧ w.ownsMap Tryz.prog 3 unitElem (u + 1) c D ∧ PaMap T K D
 short : ∀ x ∈ K, (x.length : Int) ≤ k
section
variable {w w' : World} {u q : Nat} {k : Int} {T : List Words} {K : Words}
theorem UniAt.quiet (h : UniAt w u q k T K) : ∀ b ∈ plB u, NotStr w b := by
 intro b hb
 unfold plB at hb
 rcases List.mem_cons.1 hb with rfl | hb
 ·obtain ⟨D, h1, _⟩ := h.words
  obtain ⟨es, c, hh⟩ := ownsMap_heap h1
  exact NotStr.map hh
 rcases List.mem_cons.1 hb with rfl | hb
 ·obtain ⟨D, n, _, h1, _⟩ := h.parts
  obtain ⟨es, c, hh⟩ := ownsMap_heap h1
  exact NotStr.map hh
 ·rw [List.mem_singleton.1 hb]
  obtain ⟨n, v, b, V, h1, h2, _⟩ := h.obj
  obtain ⟨a, c, rfl, _, _⟩ := h2.words.form
  exact NotStr.cells h1 (fun z hz x e => by subst e; simp at hz)
theorem UniAt.keep {L : List Nat} (h : UniAt w u q k T K) (hf : Fr L w w') (hL : ∀ b ∈ L, NotStr w b ∧ b ∉ plB u) (U : List Words) : UniAt w' u q k (T ++ U) K := by
 have hq : ∀ b ∈ plB u, b ∉ L := fun b hb hm => (hL b hm).2 hb
 have hS : ∀ b ∈ L, NotStr w b := fun b hb => (hL b hb).1
 obtain ⟨n, v, b, V, h1, h2, h3⟩ := h.obj
 obtain ⟨D, g1, g2⟩ := h.words
 obtain ⟨E, c, e1, e2, e3⟩ := h.parts
 exact ⟨⟨n, v, b, V, hf.heap h1 (hq _ (by simp [plB])), (h2.keep hf hS).more U, h3⟩, ⟨D, ownsMap_keptH g1 hf (hq _ (by simp [plB])), g2⟩, ⟨E, c, e1, ownsMap_keptH e2 hf (hq _ (by simp [plB])), e3.more U (fun _ h => h)⟩, h.short⟩
theorem UniAt.later (h : UniAt w u q k T K) (hf : Fr [] w w') : UniAt w' u q k T K := by
 have := h.keep hf (by simp) []
 rwa [List.append_nil] at this
theorem UniAt.nodup (h : UniAt w u q k T K) : K.Nodup := by
 obtain ⟨D, _, g2⟩ := h.words
 exact g2.nodup
end
end Go.Proofs.YtnaamjpiaekmeaaGreat
namespace Go.Proofs.YtnaamjpiaekmeaaGreat
open Go.RowKit Go.Maps
theorem zeroUN (w : World) : (zeroValue 142).run Tryz.prog w = .ok (.agg #[]) w := by kernel_rfl
theorem lawKN : Keyed Tryz.prog 3 := int_keyed Tryz.underlying3
theorem keyOfN (n : Nat) (h : n ≤ 9223372036854775807) : keyOf Tryz.prog 3 (.int .i64 (n : Int)) = some (.int .i64 (n : Int)) := keyOf_int_mk Tryz.underlying3 (wf_nat h)
set_option maxRecDepth 100000 in
theorem ppoolnew (k : Int) (w : World) :
  Calls Tryz.prog 51 #[.int .i64 k] w fun e w' => e = .returned (.pointer (some ⟨w.heap.size + 2, 0, none⟩)) ∧ PoolAt w' w.heap.size k [] 0 ∧ Fr [] w w' := by
 have hmm := @run_makeMap Tryz.prog
 have hfr := ((Fr.alloc w (.map #[] 0)).tr0 (Fr.alloc _ (.map #[] 0))).tr0 (Fr.alloc ((w.alloc (.map #[] 0)).alloc (.map #[] 0)) (.cells #[.int .i64 k, .int .i64 0, .map (some w.heap.size), .map (some (w.heap.size + 1)), .int .i64 0] 132))
 have h1 : ((w.alloc (.map #[] 0)).alloc (.map #[] 0)).ownsMap Tryz.prog 9 heldR w.heap.size 0 (.map []) := ownsMap_keptH (World.ownsMap_made w Tryz.prog 9 heldR) (Fr.alloc _ _) (by simp)
 have h2 := World.ownsMap_made (w.alloc (.map #[] 0)) Tryz.prog 169 heldR
 rw [World.size_alloc] at h2
 have hob := heap_alloc_new ((w.alloc (.map #[] 0)).alloc (.map #[] 0)) (.cells #[.int .i64 k, .int .i64 0, .map (some w.heap.size), .map (some (w.heap.size + 1)), .int .i64 0] 132)
 have HFR := Lib.hid hfr
 have HP := Lib.hid (show PoolAt (((w.alloc (.map #[] 0)).alloc (.map #[] 0)).alloc (.cells #[.int .i64 k, .int .i64 0, .map (some w.heap.size), .map (some (w.heap.size + 1)), .int .i64 0] 132)) w.heap.size k [] 0 from by
  rw [World.size_alloc, World.size_alloc] at hob
  exact ⟨⟨0, by decide, by decide, hob⟩, ⟨_, 0, Nat.le_refl _, ownsMap_keptH h1 (Fr.alloc _ _) (by simp), SMap.nil _ _ _⟩, ⟨_, 0, Nat.le_refl _, ownsMap_keptH h2 (Fr.alloc _ _) (by simp), PrMap.nil _ _ _⟩, Nat.le_refl _⟩)
 clear hfr h1 h2 hob
 go_enter Tryz.func51, Tryz.ntmps51
 go_wp2_with fail
 go_ret
 exact ⟨by simp, HP.out, HFR.out⟩
set_option maxRecDepth 100000 in
theorem punew (q : Nat) (k : Int) (T : List Words) (w : World) :
  Calls Tryz.prog 53 #[.pointer (some ⟨q + 2, 0, none⟩)] w fun e w' => e = .returned (.pointer (some ⟨w.heap.size + 2, 0, none⟩)) ∧ UniAt w' w.heap.size q k T [] ∧ Fr [] w w' ∧ w'.heap.size = w.heap.size + 3 := by
 have hmm := @run_makeMap Tryz.prog
 have hfr := ((Fr.alloc w (.map #[] 0)).tr0 (Fr.alloc _ (.map #[] 0))).tr0 (Fr.alloc ((w.alloc (.map #[] 0)).alloc (.map #[] 0)) (.cells #[.pointer (some ⟨q + 2, 0, none⟩), .map (some w.heap.size), .map (some (w.heap.size + 1)), .int .i64 0, .slice none 0 0, .bool false] 139))
 have h1 : ((w.alloc (.map #[] 0)).alloc (.map #[] 0)).ownsMap Tryz.prog 9 (unitElem (H := Unit)) w.heap.size 0 (.map []) := ownsMap_keptH (World.ownsMap_made w Tryz.prog 9 unitElem) (Fr.alloc _ _) (by simp)
 have h2 := World.ownsMap_made (H := Unit) (w.alloc (.map #[] 0)) Tryz.prog 3 unitElem
 rw [World.size_alloc] at h2
 have hob := heap_alloc_new ((w.alloc (.map #[] 0)).alloc (.map #[] 0)) (.cells #[.pointer (some ⟨q + 2, 0, none⟩), .map (some w.heap.size), .map (some (w.heap.size + 1)), .int .i64 0, .slice none 0 0, .bool false] 139)
 have HFR := Lib.hid hfr
 have HP := Lib.hid (show UniAt (((w.alloc (.map #[] 0)).alloc (.map #[] 0)).alloc (.cells #[.pointer (some ⟨q + 2, 0, none⟩), .map (some w.heap.size), .map (some (w.heap.size + 1)), .int .i64 0, .slice none 0 0, .bool false] 139)) w.heap.size q k T [] from by
  rw [World.size_alloc, World.size_alloc] at hob
  exact ⟨⟨0, .slice none 0 0, false, [], hob, ⟨rfl, cellsAt.nil _, fun h => (by cases h), .nil k⟩, fun x hx => (by cases hx)⟩, ⟨_, ownsMap_keptH h1 (Fr.alloc _ _) (by simp), WMap.nil⟩, ⟨_, 0, by decide, ownsMap_keptH h2 (Fr.alloc _ _) (by simp), PaMap.nil _ _⟩, fun x hx => (by cases hx)⟩)
 clear hfr h1 h2 hob
 go_enter Tryz.func53, Tryz.ntmps53
 go_wp2_with fail
 go_ret
 exact ⟨by simp, HP.out, HFR.out, by simp [World.size_alloc]⟩
theorem six_of_heapU {w : World} {p : Nat} {a b c d e f : Value} {t : TypeId} (h : w.heap[p]? = some (.cells #[a, b, c, d, e, f] t (0, 0))) :
  w.cell? ⟨p, 0, none⟩ = some a ∧ w.cell? ⟨p, 1, none⟩ = some b ∧ w.cell? ⟨p, 2, none⟩ = some c ∧ w.cell? ⟨p, 3, none⟩ = some d ∧ w.cell? ⟨p, 4, none⟩ = some e ∧ w.cell? ⟨p, 5, none⟩ = some f := by
 refine ⟨?_, ?_, ?_, ?_, ?_, ?_⟩ <;> (rw [cell_of_heap h]; rfl)
set_option maxRecDepth 100000 in
theorem pulen (u q : Nat) (k : Int) (T : List Words) (K : Words) (w : World) (hU : UniAt w u q k T K) :
  Calls Tryz.prog 58 #[.pointer (some ⟨u + 2, 0, none⟩)] w fun e w' => e = .returned (.int .i64 (K.length : Int)) ∧ w' = w := by
 obtain ⟨n, v, b, V, hob, hS, hV⟩ := hU.obj
 obtain ⟨D, hD, hW⟩ := hU.words
 obtain ⟨a, c, rfl, _, _⟩ := hS.words.form
 obtain ⟨c0, c1, c2, c3, c4, c5⟩ := six_of_heapU hob
 have hlen := fun ty => hD.len Tryz.underlying136 ty
 rw [hW.size] at hlen
 obtain ⟨p, hp⟩ : ∃ p, p = u + 2 := ⟨_, rfl⟩
 rw [← hp] at c0 c1 c2 c3 c4 c5 ⊢
 clear hU hob hS hV hD hW hp
 go_enter Tryz.func58, Tryz.ntmps58
 go_wp2_with fail
 go_ret
 exact ⟨rfl, rfl⟩
end Go.Proofs.YtnaamjpiaekmeaaGreat
namespace Go.Proofs.YtnaamjpiaekmeaaGreat
open Go.RowKit Go.Maps
theorem look_unit {P : Program} {w : World} {t k e : TypeId} {b n : Nat} {D : DataW Unit} (h : w.ownsMap P k unitElem b n D) (K : Keyed P k) (ht : P.underlying t = some (.map k e)) (hz : (zeroValue e).run P w = .ok (.agg #[]) w) {key : Value} {kl : Lit} (hkey : keyOf P k key = some kl) :
  (Instr.lookup t (.map (some b)) key true).run P w = .ok (.tuple #[.agg #[], .bool (has D kl)]) w := by
 obtain ⟨v, ps, hr, hu⟩ := h.look_ok K ht hz unitElem_mk hkey
 rw [hr]
 obtain ⟨rfl, _⟩ := unitElem_inv hu
 rfl
def AdR (w : World) (u : Nat) (K l : Words) (iv : Value) (wx : World) : Prop :=
 ∃ i : Nat, i ≤ l.length ∧ iv = .int .i64 (i : Int) ∧ (∃ D, wx.ownsMap Tryz.prog 9 unitElem u (addK K (l.take i)).length D ∧ WMap D (addK K (l.take i))) ∧ Fr [u] w wx
set_option maxRecDepth 100000 in
set_option maxHeartbeats 4000000 in
theorem puadd (u q : Nat) (k : Int) (T : List Words) (K : Words) (x : Value) (l : Words) (w : World) (hU : UniAt w u q k T K) (hx : SetAt w k T x l) (hk : k ≤ 4) (hK : K.length ≤ 4096) (hT : T.length ≤ 90000000000000000) :
  Calls Tryz.prog 57 #[.pointer (some ⟨u + 2, 0, none⟩), x] w fun e w' => e = .returned (.bool (decide ((addK K l).length ≤ 4096))) ∧ UniAt w' u q k T (addK K l) ∧ Fr [u, u + 1] w w' := by
 have hkl := addK_len l K
 obtain ⟨n, a, c, b, rfl, hS⟩ := hx.form
 have hlen := hS.good.few
 have hnT : n ≤ 90000000000000001 := by have := (List.getElem?_eq_some_iff.1 hS.num).1; simp at this; omega
 have hkn := keyOfN n (by omega)
 obtain ⟨E, cE, hcE, hE1, hE2⟩ := hU.parts
 obtain ⟨nV, v, bV, V, hob, hSV, hVK⟩ := hU.obj
 obtain ⟨av, cv, rfl, _, _⟩ := hSV.words.form
 obtain ⟨p, hp⟩ : ∃ p, p = u + 2 := ⟨_, rfl⟩
 rw [← hp] at hob ⊢
 have hpl : p < w.heap.size := (Array.getElem?_eq_some_iff.1 hob).1
 have HU := Lib.hid hU
 have HS := Lib.hid hS
 have HE1 := Lib.hid hE1
 have HE2 := Lib.hid hE2
 have HOB := Lib.hid hob
 have HSV := Lib.hid hSV
 have HVK := Lib.hid hVK
 have HP := Lib.hid hp
 have HKN := Lib.hid hkn
 have HKL := Lib.hid hkl
 have hshort : ∀ y ∈ addK K l, (y.length : Int) ≤ k := fun y hy => (mem_addK.1 hy).elim (hU.short y) (hS.good.short y)
 have HSH := Lib.hid hshort
 have hlk : ∀ w1 : World, Fr [] w w1 → (Instr.lookup 137 (.map (some (u + 1))) (.int .i64 (n : Int)) true).run Tryz.prog w1 = .ok (.tuple #[.agg #[], .bool (has E (.int .i64 (n : Int)))]) w1 := fun w1 hf => look_unit (ownsMap_keptH HE1.out hf (by simp)) lawKN Tryz.underlying137 (zeroUN w1) HKN.out
 obtain ⟨B, hB⟩ : ∃ B, B = has E (.int .i64 (n : Int)) := ⟨_, rfl⟩
 rw [← hB] at hlk
 have HLK := Lib.hid hlk
 have HB := Lib.hid hB
 obtain ⟨u1, hu1⟩ : ∃ u1, u1 = u + 1 := ⟨_, rfl⟩
 rw [← hu1] at HLK HOB HE1
 have HU1 := Lib.hid hu1
 clear hU hx hS hE1 hE2 hob hSV hVK hp hkn hshort hlk hB hkl hu1
 go_enter Tryz.func57, Tryz.ntmps57
 go_upto_region 1 with fail
 have hf0 := Fr.alloc w (.cells #[.int .i64 (n : Int), .slice a l.length c, .bool b] 93)
 have hb0 := heap_alloc_new w (.cells #[.int .i64 (n : Int), .slice a l.length c, .bool b] 93)
 obtain ⟨w0, hw0⟩ : ∃ w0, w0 = w.alloc (.cells #[.int .i64 (n : Int), .slice a l.length c, .bool b] 93) := ⟨_, rfl⟩
 obtain ⟨r, hr⟩ : ∃ r, r = w.heap.size := ⟨_, rfl⟩
 rw [← hw0] at hf0 hb0 ⊢
 rw [← hr] at hb0 ⊢
 have HF0 := Lib.hid hf0
 have HB0 := Lib.hid hb0
 have HR := Lib.hid hr
 clear hf0 hb0 hw0 hr
 refine wp_region_G [] [(0, false), (1, false), (2, false), (3, false), (4, false), (5, false), (6, false), (7, false), (8, false), (9, false), (10, true), (11, true), (12, false)] 57 rfl (by kernel_rfl) (by kernel_rfl) (by kernel_rfl) (fun c a d v w h => by cases d <;> exact h) (fun wd hfd => ?_)
 simp only [List.map_cons, List.map_nil, List.getElem?_toArray, List.getElem?_cons_succ, List.getElem?_cons_zero, Option.getD_some]
 have L1 : Hid (Later [] wd (fun w' => w'.heap[p]? = some (.cells #[.pointer (some ⟨q + 2, 0, none⟩), .map (some u), .map (some u1), .int .i64 (nV : Nat), .slice av V.length cv, .bool bV] 139 (0, 0)))) := Lib.hid (fun w' hf' => hf'.heap (hfd.heap (HF0.out.heap HOB.out (by simp)) (by simp)) (by simp))
 have L2 : Hid (Later [] wd (fun w' => w'.heap[r]? = some (.cells #[.int .i64 (n : Int), .slice a l.length c, .bool b] 93 (0, 0)))) := Lib.hid (fun w' hf' => hf'.heap (hfd.heap HB0.out (by simp)) (by simp))
 have L3 : Hid (Later [] wd (fun w' => (Instr.lookup 137 (.map (some u1)) (.int .i64 (n : Int)) true).run Tryz.prog w' = .ok (.tuple #[.agg #[], .bool B]) w')) := Lib.hid (fun w' hf' => HLK.out w' ((HF0.out.tr0 hfd).tr0 hf'))
 have HFD := Lib.hid (HF0.out.tr0 hfd)
 clear hfd
 repeat (apply wpG_t; · (intro w' hf'; obtain ⟨c0, c1, c2, c3, c4, c5⟩ := six_of_heapU (L1.out w' hf'); obtain ⟨x0, x1, x2, y0, y1, y2⟩ := three_of_heap (L2.out w' hf'); have lk := L3.out w' hf'; go_wp2_with fail; exact ⟨rfl, rfl⟩))
 refine wpG_x ?_
 go_wp2_with fail
 refine ⟨Fr.alloc _ _, rfl, ?_⟩
 have hf1 := Fr.alloc wd (.cells #[] 142)
 have hb1 := heap_alloc_new wd (.cells #[] 142)
 obtain ⟨w1, hw1⟩ : ∃ w1, w1 = wd.alloc (.cells #[] 142) := ⟨_, rfl⟩
 obtain ⟨r1, hr1⟩ : ∃ r1, r1 = wd.heap.size := ⟨_, rfl⟩
 rw [← hw1] at hf1 hb1 ⊢
 rw [← hr1] at hb1 ⊢
 clear hw1 hr1
 refine wpG_x ?_
 go_wp2_with fail
 refine ⟨Fr.refl _ _, rfl, ?_⟩
 repeat (apply wpG_t; · (intro w' hf'; go_wp2_with fail; exact ⟨rfl, rfl⟩))
 refine wpG_end ?_
 have HF1 := Lib.hid (HFD.out.tr0 hf1)
 have HB1 := Lib.hid ((L2.out w1 hf1))
 have HO1 := Lib.hid ((L1.out w1 hf1))
 clear hf1 hb1 L1 L2 L3
 cases B with
 | true =>
   obtain ⟨l2, hl2, hsub⟩ := HE2.out n HB.out.symm
   have hle : l2 = l := by
    have := HS.out.num
    rw [hl2] at this
    exact Option.some.inj this
   subst hle
   have HEQ := Lib.hid (addK_sub hsub)
   clear hl2 hsub
   go_wp2_with fail
   go_ret
   refine ⟨?_, ?_, HF1.out.mono (fun i hi _ => by simp at hi)⟩
   ·rw [HEQ.out, decide_eq_true hK]; rfl
   ·rw [HEQ.out]; exact HU.out.later HF1.out
 | false =>
   have HUw := Lib.hid (HU.out.later HF1.out)
   have HSw := Lib.hid (HS.out.keep HF1.out (by simp))
   have HEw := Lib.hid (ownsMap_keptH HE1.out HF1.out (by simp))
   have hrw1 : r < w1.heap.size := (Array.getElem?_eq_some_iff.1 HB1.out).1
   obtain ⟨x0, x1, x2, y0, y1, y2⟩ := three_of_heap HB1.out
   go_wp2_with fail
   go_loopw [23] (AdR w1 u K l) (fun iv _ => l.length - (intOf iv).toNat)
   case atStart =>
    refine ⟨0, Nat.zero_le _, rfl, ?_, Fr.refl _ _⟩
    obtain ⟨D, h1, h2⟩ := HUw.out.words
    exact ⟨D, by simpa [addK] using h1, by simpa [addK] using h2⟩
   case round =>
    obtain ⟨i, hi, rfl, hmp, hfr⟩ := hrel
    have hqu : ∀ b ∈ [u], NotStr w1 b := fun b hb => HUw.out.quiet b (by rw [List.mem_singleton.1 hb]; simp [plB])
    have hpu : p ≠ u := by have := HP.out; omega
    have hob := hfr.heap HO1.out (by simpa using hpu)
    obtain ⟨D, hD, hW⟩ := hmp
    have HFR := Lib.hid hfr
    have HD := Lib.hid hD
    have HW := Lib.hid hW
    have HOR := Lib.hid hob
    obtain ⟨c0, c1, c2, c3, c4, c5⟩ := six_of_heapU hob
    have hlw := strs_keepN HSw.out.words hfr hqu
    have hru : r ≠ u := by
     have h1 := HR.out
     obtain ⟨D, hD, _⟩ := HU.out.words
     have := hD.lt
     omega
    by_cases hin : i < l.length
    ·have hd1 : decide (i < l.length) = true := decide_eq_true hin
     obtain ⟨b, off, rfl, hc⟩ := str_cell hlw i hin
     have hxl : (l[i]'hin).length ≤ 1000 := by have := HS.out.good.short _ (List.getElem_mem hin); omega
     have htk : addK K (l.take (i + 1)) = addX (addK K (l.take i)) (l[i]'hin) := by rw [List.take_succ_eq_append_getElem hin, addK_snoc]
     obtain ⟨y, hy⟩ : ∃ y, y = l[i]'hin := ⟨_, rfl⟩
     rw [← hy] at hc hxl htk
     have hkey := keyOfS y (by simp only [maxLen]; omega)
     have hKl : (addK K (l.take i)).length < maxLen := by
      have h1 := addK_len (l.take i) K
      have h2 : (l.take i).length ≤ l.length := by rw [List.length_take]; omega
      simp only [maxLen]; omega
     have HTK := Lib.hid htk
     have HKEY := Lib.hid hkey
     clear hy htk hkey hlw hqu hfr hob hD hW
     go_wp2_with (at_mapUpdate; refine wpList_mapUpdate_own _ rfl _ _ _ 136 rfl 9 142 lawKS Tryz.underlying136 unitElem u _ _ rfl HD.out hKl _ _ _ rfl rfl HKEY.out _ [] unitElem_mk ?_; intro w7 hown7 hgrow7)
     refine ⟨⟨i + 1, hin, by go_num, ?_, HFR.out.trans (Fr.of_grown hgrow7) (fun _ h _ => h) (fun _ h _ => h)⟩, by simp [intOf]; omega⟩
     have hW7 := HW.out.put y (.agg [])
     have h7 := ownsMap_tight hown7
     rw [hW7.size] at h7
     rw [HTK.out]
     exact ⟨_, h7, hW7⟩
    ·have hd1 : decide (i < l.length) = false := decide_eq_false hin
     have hil : l.take i = l := List.take_of_length_le (by omega)
     rw [hil] at HD HW
     have hEr := ownsMap_keptH HEw.out hfr (by have := HU1.out; simp; omega)
     have hlen1 := fun ty => hEr.len Tryz.underlying137 ty
     have hnw := HKN.out
     obtain ⟨SE, hSE⟩ : ∃ SE, SE = Maps.size E := ⟨_, rfl⟩
     rw [← hSE] at hlen1
     have hEt := ownsMap_tight hEr
     rw [← hSE] at hEt
     have hSEl : SE ≤ 4096 := by rw [hSE]; exact Nat.le_trans hEr.size_le hcE
     have HET := Lib.hid hEt
     have HB1r := Lib.hid (show wr.heap[r]? = some (.cells #[.int .i64 (n : Int), .slice a l.length c, .bool b] 93 (0, 0)) from hfr.heap HB1.out (by simpa using hru))
     clear hlw hqu hEr hSE hEt hnw
     by_cases hfull : 4096 ≤ SE
     ·have hd2 : decide (4096 ≤ SE) = true := decide_eq_true hfull
      have hd3 : decide ((4096 : Int) ≤ (SE : Int)) = true := decide_eq_true (by omega)
      obtain ⟨w8, hrun8, hown8, hgr8⟩ := run_clear_own HET.out Tryz.underlying137 0
      have hf8 : Fr [u1] wr w8 := Fr.of_grown hgr8
      have HM8 := Lib.hid hown8
      have HF8 := Lib.hid hf8
      clear hown8 hgr8 hf8
      go_upto_region 11 with fail
      have hW8 : Fr [u, u1] w1 w8 := HFR.out.trans (HF8.out) (fun i hi _ => by simp at hi; simp [hi]) (fun i hi _ => by simp at hi; simp [hi])
      have hpn : p ∉ [u, u1] := by have h1 := HP.out; have h2 := HU1.out; simp; omega
      have hrn : r ∉ [u, u1] := by
       have h1 := HR.out
       have h2 := HU1.out
       have h3 := HP.out
       simp; omega
      have HO8 := Lib.hid (hW8.heap HO1.out hpn)
      have HB8 := Lib.hid (hW8.heap HB1.out hrn)
      have HW8 := Lib.hid hW8
      clear hW8 c0 c1 c2 c3 c4 c5
      refine wp_region_G [u1] [(0, false), (1, false), (2, false), (3, false), (4, false), (5, false), (6, false), (7, true)] 57 rfl (by kernel_rfl) (by kernel_rfl) (by kernel_rfl) (fun c a d v w h => by cases d <;> exact h) (fun wd' hfd => ?_)
      simp only [List.map_cons, List.map_nil, List.getElem?_toArray, List.getElem?_cons_succ, List.getElem?_cons_zero, Option.getD_some]
      have hod := hfd.heap HO8.out (by simp)
      have hbd := hfd.heap HB8.out (by simp)
      have L1 : Hid (Later [u1] wd' (fun w' => w'.heap[p]? = some (.cells #[.pointer (some ⟨q + 2, 0, none⟩), .map (some u), .map (some u1), .int .i64 (nV : Nat), .slice av V.length cv, .bool bV] 139 (0, 0)))) := Lib.hid (fun w' hf' => hf'.heap hod (fun hm => hpn (by simp at hm; simp [hm])))
      have L2 : Hid (Later [u1] wd' (fun w' => w'.heap[r]? = some (.cells #[.int .i64 (n : Int), .slice a l.length c, .bool b] 93 (0, 0)))) := Lib.hid (fun w' hf' => hf'.heap hbd (fun hm => hrn (by simp at hm; simp [hm])))
      have HMD := Lib.hid (ownsMap_keptH HM8.out hfd (by simp))
      have HFD' := Lib.hid hfd
      clear hod hbd hfd
      repeat (apply wpG_t; · (intro w' hf'; obtain ⟨c0, c1, c2, c3, c4, c5⟩ := six_of_heapU (L1.out w' hf'); obtain ⟨x0, x1, x2, y0, y1, y2⟩ := three_of_heap (L2.out w' hf'); go_wp2_with fail; exact ⟨rfl, rfl⟩))
      refine wpG_x ?_
      go_wp2_with (at_mapUpdate; refine wpList_mapUpdate_own _ rfl _ _ _ 137 rfl 3 142 lawKN Tryz.underlying137 unitElem u1 0 _ rfl HMD.out (by simp only [maxLen]; omega) _ _ _ rfl rfl HKN.out _ [] unitElem_mk ?_; intro w9 hown9 hgrow9)
      have hf9 : Fr [u1] wd' w9 := Fr.of_grown hgrow9
      refine ⟨hf9, rfl, ?_⟩
      refine wpG_end ?_
      have hr9 : Fr [u1] wr w9 := ((HF8.out).trans HFD'.out (fun _ h _ => h) (by simp)).trans hf9 (fun _ h _ => h) (fun _ h _ => h)
      have hD9 := ownsMap_keptH HD.out hr9 (by have := HU1.out; simp; omega)
      have hlen9 := fun ty => hD9.len Tryz.underlying136 ty
      rw [HW.out.size] at hlen9
      have hw9 : Fr [u, u1] w1 w9 := HFR.out.trans hr9 (fun i hi _ => by simp at hi; simp [hi]) (fun i hi _ => by simp at hi; simp [hi])
      have ho9 := hw9.heap HO1.out hpn
      obtain ⟨c0, c1, c2, c3, c4, c5⟩ := six_of_heapU ho9
      have hqn : ∀ b ∈ [u, u1], NotStr w1 b := fun b hb => HUw.out.quiet b (by have := HU1.out; simp at hb; simp [plB]; omega)
      have HFIN := Lib.hid (show UniAt w9 u q k T (addK K l) from by
       have hsv := (HSV.out.keep HF1.out (by simp)).keep hw9 hqn
       refine ⟨⟨nV, _, bV, V, ?_, hsv, fun x hx => mem_addK.2 (.inl (HVK.out x hx))⟩, ⟨_, hD9, HW.out⟩, ⟨_, _, ?_, by rw [← HU1.out]; exact ownsMap_tight hown9, ?_⟩, HSH.out⟩
       ·rw [← HP.out, ← HU1.out]; exact ho9
       ·exact Nat.le_trans hown9.size_le (by omega)
       ·exact PaMap.put (PaMap.nil _ _) HS.out.num (fun x hx => mem_addK.2 (.inr hx)) _)
      have HFR9 := Lib.hid (show Fr [u, u + 1] w w9 from by rw [← HU1.out]; exact HF1.out.trans hw9 (fun i hi _ => by simp at hi) (fun _ h _ => h))
      clear ho9 hw9 hD9 hr9 hf9 hown9 hgrow9 hqn
      obtain ⟨M, hM⟩ : ∃ M, M = (addK K l).length := ⟨_, rfl⟩
      rw [← hM] at hlen9
      have HMM := Lib.hid hM
      have hM2 : decide ((M : Int) ≤ 4096) = decide (M ≤ 4096) := by simp; omega
      clear hM
      go_wp2_with fail
      go_ret
      exact ⟨by rw [← HMM.out]; simp, HFIN.out, HFR9.out⟩
     ·have hd2 : decide (4096 ≤ SE) = false := decide_eq_false hfull
      have hd3 : decide ((4096 : Int) ≤ (SE : Int)) = false := decide_eq_false (by omega)
      go_upto_region 11 with fail
      have hW8 : Fr [u, u1] w1 wr := HFR.out.trans (Fr.refl [u1] wr) (fun i hi _ => by simp at hi; simp [hi]) (fun i hi _ => by simp at hi; simp [hi])
      have hpn : p ∉ [u, u1] := by have h1 := HP.out; have h2 := HU1.out; simp; omega
      have hrn : r ∉ [u, u1] := by
       have h1 := HR.out
       have h2 := HU1.out
       have h3 := HP.out
       simp; omega
      have HO8 := Lib.hid (hW8.heap HO1.out hpn)
      have HB8 := Lib.hid (hW8.heap HB1.out hrn)
      have HW8 := Lib.hid hW8
      clear hW8 c0 c1 c2 c3 c4 c5
      refine wp_region_G [u1] [(0, false), (1, false), (2, false), (3, false), (4, false), (5, false), (6, false), (7, true)] 57 rfl (by kernel_rfl) (by kernel_rfl) (by kernel_rfl) (fun c a d v w h => by cases d <;> exact h) (fun wd' hfd => ?_)
      simp only [List.map_cons, List.map_nil, List.getElem?_toArray, List.getElem?_cons_succ, List.getElem?_cons_zero, Option.getD_some]
      have hod := hfd.heap HO8.out (by simp)
      have hbd := hfd.heap HB8.out (by simp)
      have L1 : Hid (Later [u1] wd' (fun w' => w'.heap[p]? = some (.cells #[.pointer (some ⟨q + 2, 0, none⟩), .map (some u), .map (some u1), .int .i64 (nV : Nat), .slice av V.length cv, .bool bV] 139 (0, 0)))) := Lib.hid (fun w' hf' => hf'.heap hod (fun hm => hpn (by simp at hm; simp [hm])))
      have L2 : Hid (Later [u1] wd' (fun w' => w'.heap[r]? = some (.cells #[.int .i64 (n : Int), .slice a l.length c, .bool b] 93 (0, 0)))) := Lib.hid (fun w' hf' => hf'.heap hbd (fun hm => hrn (by simp at hm; simp [hm])))
      have HMD := Lib.hid (ownsMap_keptH HET.out hfd (by simp))
      have HFD' := Lib.hid hfd
      clear hod hbd hfd
      repeat (apply wpG_t; · (intro w' hf'; obtain ⟨c0, c1, c2, c3, c4, c5⟩ := six_of_heapU (L1.out w' hf'); obtain ⟨x0, x1, x2, y0, y1, y2⟩ := three_of_heap (L2.out w' hf'); go_wp2_with fail; exact ⟨rfl, rfl⟩))
      refine wpG_x ?_
      go_wp2_with (at_mapUpdate; refine wpList_mapUpdate_own _ rfl _ _ _ 137 rfl 3 142 lawKN Tryz.underlying137 unitElem u1 SE _ rfl HMD.out (by simp only [maxLen]; omega) _ _ _ rfl rfl HKN.out _ [] unitElem_mk ?_; intro w9 hown9 hgrow9)
      have hf9 : Fr [u1] wd' w9 := Fr.of_grown hgrow9
      refine ⟨hf9, rfl, ?_⟩
      refine wpG_end ?_
      have hr9 : Fr [u1] wr w9 := ((Fr.refl [u1] wr).trans HFD'.out (fun _ h _ => h) (by simp)).trans hf9 (fun _ h _ => h) (fun _ h _ => h)
      have hD9 := ownsMap_keptH HD.out hr9 (by have := HU1.out; simp; omega)
      have hlen9 := fun ty => hD9.len Tryz.underlying136 ty
      rw [HW.out.size] at hlen9
      have hw9 : Fr [u, u1] w1 w9 := HFR.out.trans hr9 (fun i hi _ => by simp at hi; simp [hi]) (fun i hi _ => by simp at hi; simp [hi])
      have ho9 := hw9.heap HO1.out hpn
      obtain ⟨c0, c1, c2, c3, c4, c5⟩ := six_of_heapU ho9
      have hqn : ∀ b ∈ [u, u1], NotStr w1 b := fun b hb => HUw.out.quiet b (by have := HU1.out; simp at hb; simp [plB]; omega)
      have HFIN := Lib.hid (show UniAt w9 u q k T (addK K l) from by
       have hsv := (HSV.out.keep HF1.out (by simp)).keep hw9 hqn
       refine ⟨⟨nV, _, bV, V, ?_, hsv, fun x hx => mem_addK.2 (.inl (HVK.out x hx))⟩, ⟨_, hD9, HW.out⟩, ⟨_, _, ?_, by rw [← HU1.out]; exact ownsMap_tight hown9, ?_⟩, HSH.out⟩
       ·rw [← HP.out, ← HU1.out]; exact ho9
       ·exact Nat.le_trans hown9.size_le (by omega)
       ·exact PaMap.put ((by have := HE2.out.more [] (fun x hx => mem_addK.2 (.inl hx) : ∀ x ∈ K, x ∈ addK K l); rwa [List.append_nil] at this)) HS.out.num (fun x hx => mem_addK.2 (.inr hx)) _)
      have HFR9 := Lib.hid (show Fr [u, u + 1] w w9 from by rw [← HU1.out]; exact HF1.out.trans hw9 (fun i hi _ => by simp at hi) (fun _ h _ => h))
      clear ho9 hw9 hD9 hr9 hf9 hown9 hgrow9 hqn
      obtain ⟨M, hM⟩ : ∃ M, M = (addK K l).length := ⟨_, rfl⟩
      rw [← hM] at hlen9
      have HMM := Lib.hid hM
      have hM2 : decide ((M : Int) ≤ 4096) = decide (M ≤ 4096) := by simp; omega
      clear hM
      go_wp2_with fail
      go_ret
      exact ⟨by rw [← HMM.out]; simp, HFIN.out, HFR9.out⟩
end Go.Proofs.YtnaamjpiaekmeaaGreat
namespace Go.Proofs.YtnaamjpiaekmeaaGreat
open Go.RowKit Go.Maps Go.Sort Go.Shelf
theorem sortsIn (m : Nat) : AnyZ.SortsIn Tryz.prog Tryz.sortedA_ren Fence.wide m :=
 ⟨fun blk off cap ss W hH hblk hsz => callsIn_wide.2 (AnyM.slices_Sort_string Tryz.sortA blk off cap ss W hH hblk hsz),
  fun p cap W => callsIn_wide.2 (AnyM.slices_Sort_string_none Tryz.sortA p cap W)⟩
theorem pkeys (b : Nat) (w : World) : Calls Tryz.prog 101 #[.map (some b)] w fun e w' => e = .returned (.func (.func 134) #[] #[.pointer (some ⟨w.heap.size, 0, none⟩)]) ∧ w' = w.alloc (.cells #[.map (some b)] 136) :=
 callsIn_wide.1 (AnyZ.keys_in Tryz.keysA Fence.wide 5 trivial rfl (some b) w)
set_option maxHeartbeats 1000000 in
theorem psorted (b n Bm : Nat) (D : DataW Unit) (K : Words) (w : World) (hBm : Bm < w.heap.size) (hm : w.cell? ⟨Bm, 0, none⟩ = some (.map (some b))) (hown : w.ownsMap Tryz.prog 9 unitElem b n D) (hW : WMap D K) (hK : K.length ≤ 100000) :
  Calls Tryz.prog 100 #[.func (.func 134) #[] #[.pointer (some ⟨Bm, 0, none⟩)]] w fun e w' => ∃ v, e = .returned v ∧ strsAt w' v (ofW K) ∧ Fr [] w w' := by
 have hs := hW.size
 have hseq : SeqGives Fence.wide 2 Tryz.prog 134 #[.pointer (some ⟨Bm, 0, none⟩)] encStr (fun ss => ss.Perm (strKeys D)) (Maps.size D) w :=
  AnyZ.keys_gives (ρ := Tryz.keysA_ren) { Tryz.keysA with } Fence.wide _ trivial rfl (by omega) Bm b n D _ hBm hm hown
 have h := AnyZ.sorted_in Tryz.sortedA Fence.wide 5 trivial trivial trivial trivial rfl (by omega) (sortsIn _) (enters_of Tryz.func112 (by kernel_rfl) rfl) 134 #[.pointer (some ⟨Bm, 0, none⟩)] trivial (enters_of Tryz.func134 (by kernel_rfl) rfl) _ _ (by rw [hs]; simp only [maxLen]; omega) (by rw [hs]; omega) _ hseq
 change CallsIn _ _ Tryz.prog 100 _ _ _ at h
 refine (callsIn_wide.1 h).mono ?_
 rintro e w' ⟨v, ss, rfl, hp, hrow, -, hb⟩
 have hpk : ss.Perm K := hp.trans (hW.perm hown Tryz.underlying9).symm
 rw [sort_perm hpk hW.nodup] at hrow
 refine ⟨v, rfl, ?_, Fr.of_below hb⟩
 have hl : ss.length = (ofW K).length := by rw [← sort_perm hpk hW.nodup]; simp
 rw [hl] at hrow
 exact cellsAt_of_owns (by rw [List.length_map]; exact hrow)
end Go.Proofs.YtnaamjpiaekmeaaGreat
namespace Go.Proofs.YtnaamjpiaekmeaaGreat
open Go.RowKit Go.Maps
theorem set3o_heap {w : World} {r : Nat} {x0 x1 x2 x y z : Value} {t : TypeId} (h : w.heap[r]? = some (.cells #[x0, x1, x2, x, y, z] t (0, 0))) (a b c : Value) :
  (((w.setCell ⟨r, 3, none⟩ a).setCell ⟨r, 4, none⟩ b).setCell ⟨r, 5, none⟩ c).heap[r]? = some (.cells #[x0, x1, x2, a, b, c] t (0, 0)) := by
 rw [heap_setCell_same (heap_setCell_same (heap_setCell_same h a) b) c]
 rfl
theorem set3o_fr (w : World) (r : Nat) (a b c : Value) : Fr [r] w (((w.setCell ⟨r, 3, none⟩ a).setCell ⟨r, 4, none⟩ b).setCell ⟨r, 5, none⟩ c) :=
 ((Fr.set0 w r 3 a).trans (Fr.set0 _ r 4 b) (fun _ h _ => h) (fun _ h _ => h)).trans (Fr.set0 _ r 5 c) (fun _ h _ => h) (fun _ h _ => h)
theorem six_free {w : World} {p : Nat} {cs : Array Value} {t : TypeId} (h : w.heap[p]? = some (.cells cs t (0, 0))) : w.frozen? ⟨p, 3, none⟩ = false ∧ w.frozen? ⟨p, 4, none⟩ = false ∧ w.frozen? ⟨p, 5, none⟩ = false := ⟨free_of_heap h 3, free_of_heap h 4, free_of_heap h 5⟩
def UsGot (u q : Nat) (k : Int) (T : List Words) (m : Nat) (K : Words) (w : World) (e : Ending) (w' : World) : Prop :=
 ∃ x U, e = .returned x ∧ SetAt w' k (T ++ U) x (ofW K) ∧ PoolAt w' q k (T ++ U) m ∧ UniAt w' u q k (T ++ U) K ∧ Fr (plB q ++ [u + 2]) w w'
set_option maxRecDepth 100000 in
set_option maxHeartbeats 8000000 in
theorem puset (u q m : Nat) (k : Int) (T : List Words) (K : Words) (w : World) (hA : PoolAt w q k T m) (hU : UniAt w u q k T K) (hap : q + 3 ≤ u) (hK : K.length ≤ 4096) (hk0 : 0 ≤ k) (hk : k ≤ 4) (hm : m ≤ 10000000000000000) :
  Calls Tryz.prog 60 #[.pointer (some ⟨u + 2, 0, none⟩)] w (UsGot u q k T (m + 2) K w) := by
 obtain ⟨nV, v, bV, V, hob, hSV, hVK⟩ := hU.obj
 obtain ⟨D, hD, hW⟩ := hU.words
 obtain ⟨av, cv, rfl, _, _⟩ := hSV.words.form
 have hlen : (ofW K).length = K.length := ofW_nodup_len hU.nodup
 have hVl : V.length ≤ K.length := by rw [← hlen]; exact nodup_le V _ hSV.good.set.nodup (fun x hx => mem_ofW.2 (hVK x hx))
 have hgood : GoodW k (ofW K) := ⟨set_ofW K, by omega, fun x hx => hU.short x (mem_ofW.1 hx)⟩
 have hVe : ¬ V.length < K.length → V = ofW K := fun h => set_eq hSV.good.set (set_ofW K) (fun x hx => mem_ofW.2 (hVK x hx)) (by rw [hlen]; exact h)
 obtain ⟨p, hp⟩ : ∃ p, p = u + 2 := ⟨_, rfl⟩
 rw [← hp] at hob ⊢
 have hpl : p < w.heap.size := (Array.getElem?_eq_some_iff.1 hob).1
 have HU := Lib.hid hU
 have HA := Lib.hid hA
 have HD := Lib.hid hD
 have HW := Lib.hid hW
 have HOB := Lib.hid hob
 have HSV := Lib.hid hSV
 have HVK := Lib.hid hVK
 have HP := Lib.hid hp
 have HLEN := Lib.hid hlen
 have HG := Lib.hid hgood
 have HVE := Lib.hid hVe
 have hdl := fun (w1 : World) (hf : Fr [] w w1) (ty : TypeId) => (ownsMap_keptH HD.out hf (by simp)).len Tryz.underlying136 ty
 rw [hW.size] at hdl
 have HDL := Lib.hid hdl
 obtain ⟨NK, hNK⟩ : ∃ NK, NK = K.length := ⟨_, rfl⟩
 obtain ⟨NV, hNV⟩ : ∃ NV, NV = V.length := ⟨_, rfl⟩
 rw [← hNK] at HDL
 rw [← hNV] at HOB
 have HNK := Lib.hid hNK
 have HNV := Lib.hid hNV
 clear hU hA hD hW hob hSV hVK hp hlen hgood hVe hdl hNK hNV hVl
 go_enter Tryz.func60, Tryz.ntmps60
 go_upto_region 1 with fail
 have hf0 := Fr.alloc w (.cells #[.int .i64 0, .slice none 0 0, .bool false] 93)
 have hb0 := heap_alloc_new w (.cells #[.int .i64 0, .slice none 0 0, .bool false] 93)
 obtain ⟨w0, hw0⟩ : ∃ w0, w0 = w.alloc (.cells #[.int .i64 0, .slice none 0 0, .bool false] 93) := ⟨_, rfl⟩
 obtain ⟨r, hr⟩ : ∃ r, r = w.heap.size := ⟨_, rfl⟩
 rw [← hw0] at hf0 hb0 ⊢
 rw [← hr] at hb0 ⊢
 have HF0 := Lib.hid hf0
 have HB0 := Lib.hid hb0
 have HR := Lib.hid hr
 clear hf0 hb0 hw0 hr
 refine wp_region_G [] [(0, false), (1, false), (2, false), (3, false), (4, false), (5, false), (6, false), (7, false), (8, false), (9, true), (10, false)] 32 rfl (by kernel_rfl) (by kernel_rfl) (by kernel_rfl) (fun c a d v w h => by cases d <;> exact h) (fun wd hfd => ?_)
 simp only [List.map_cons, List.map_nil, List.getElem?_toArray, List.getElem?_cons_succ, List.getElem?_cons_zero, Option.getD_some]
 have L1 : Hid (Later [] wd (fun w' => w'.heap[p]? = some (.cells #[.pointer (some ⟨q + 2, 0, none⟩), .map (some u), .map (some (u + 1)), .int .i64 (nV : Nat), .slice av NV cv, .bool bV] 139 (0, 0)))) := Lib.hid (fun w' hf' => hf'.heap (hfd.heap (HF0.out.heap HOB.out (by simp)) (by simp)) (by simp))
 have L2 : Hid (Later [] wd (fun w' => ∀ ty, (Builtin.len_ #[136] ty #[.map (some u)]).run Tryz.prog w' = .ok (.int .i64 (NK : Int)) w')) := Lib.hid (fun w' hf' => HDL.out w' ((HF0.out.tr0 hfd).tr0 hf'))
 have HFD := Lib.hid (HF0.out.tr0 hfd)
 have HF0D := Lib.hid hfd
 have HLV := Lib.hid (plen k T (.agg #[.int .i64 (nV : Nat), .slice av V.length cv, .bool bV]) V wd ⟨nV, _, _, rfl, HSV.out.keep HFD.out (by simp)⟩)
 rw [← HNV.out] at HLV
 clear hfd
 repeat (apply wpG_t; · (intro w' hf'; obtain ⟨c0, c1, c2, c3, c4, c5⟩ := six_of_heapU (L1.out w' hf'); have l2 := L2.out w' hf'; go_wp2_with fail; exact ⟨rfl, rfl⟩))
 refine wpG_x ?_
 go_wp2_with (go_at_call 59; refine HLV.out.mono ?_; rintro e w1 ⟨rfl, hf1⟩)
 refine ⟨hf1, rfl, ?_⟩
 have HF1 := Lib.hid (HFD.out.tr0 hf1)
 have HB1 := Lib.hid (hf1.heap (HF0D.out.heap HB0.out (by simp)) (by simp))
 have HO1 := Lib.hid (L1.out w1 hf1)
 have hpr : p < r := by have := HR.out; omega
 clear hf1 L1 L2
 by_cases hlt : NV < NK
 ·have hd1 : decide (NV < NK) = true := decide_eq_true hlt
  have hd2 : decide ((NV : Int) < (NK : Int)) = true := decide_eq_true (by omega)
  repeat (apply wpG_t; · (intro w' hf'; go_wp2_with fail; exact ⟨rfl, rfl⟩))
  refine wpG_end ?_
  go_upto_region 2 with fail
  have hpq : p ∉ plB q := by have := HP.out; simp [plB]; omega
  have hrq : r ∉ plB q := by have := HP.out; simp [plB]; omega
  have hup : u ∉ plB q := by simp [plB]; omega
  refine wp_region_Y (plB q) 14 [(0, false), (1, false), (2, false), (3, false), (4, false), (5, false), (6, false), (7, false), (8, false), (9, true), (10, true), (11, true), (12, false), (13, false), (14, true)] 32 rfl (by kernel_rfl) (by kernel_rfl) (by kernel_rfl) (fun c a d v w h => by cases d <;> exact h) (fun w2 hf2 => ?_)
  simp only [List.map_cons, List.map_nil, List.getElem?_toArray, List.getElem?_cons_succ, List.getElem?_cons_zero, Option.getD_some]
  have LA : Hid (Later (plB q) w2 (fun w' => w'.heap[p]? = some (.cells #[.pointer (some ⟨q + 2, 0, none⟩), .map (some u), .map (some (u + 1)), .int .i64 (nV : Nat), .slice av NV cv, .bool bV] 139 (0, 0)))) := Lib.hid (fun w' hf' => hf'.heap (hf2.heap HO1.out (by simp)) hpq)
  have HF2 := Lib.hid (HF1.out.tr0 hf2)
  have HB2 := Lib.hid (hf2.heap HB1.out (by simp))
  clear hf2
  repeat (apply walkZ_t; · (intro w' hf'; obtain ⟨c0, c1, c2, c3, c4, c5⟩ := six_of_heapU (LA.out w' hf'); go_wp2_with fail; exact ⟨rfl, rfl⟩))
  refine walkZ_x ?_
  go_wp2_with (go_at_call 101; refine (pkeys u w2).mono ?_; rintro e w3 ⟨rfl, hw3⟩; have HW3 := Lib.hid hw3; clear hw3)
  have hw3 := HW3.out
  have hf3 : Fr [] w2 w3 := by rw [hw3]; exact Fr.alloc _ _
  have hb3 : w3.heap[w2.heap.size]? = some (.cells #[.map (some u)] 136 (0, 0)) := by rw [hw3]; exact heap_alloc_new w2 _
  obtain ⟨Bm, hBm⟩ : ∃ Bm, Bm = w2.heap.size := ⟨_, rfl⟩
  rw [← hBm] at hb3 ⊢
  have HF3 := Lib.hid (HF2.out.tr0 hf3)
  have HF23 := Lib.hid hf3
  refine ⟨.inr (hf3.mono (fun i hi _ => by simp at hi)), rfl, ?_⟩
  have HSO := Lib.hid (psorted u _ Bm D K w3 (Array.getElem?_eq_some_iff.1 hb3).1 (by rw [cell_of_heap hb3]; rfl) (ownsMap_keptH HD.out (HF2.out.tr0 hf3) (by simp)) HW.out (by rw [← HNK.out]; have := HNK.out; omega))
  clear hf3 hb3 hw3 hBm
  refine walkZ_x ?_
  go_wp2_with (go_at_call 100; refine HSO.out.mono ?_; rintro e w4 ⟨v4, rfl, hs4, hf4⟩)
  have HF4 := Lib.hid (HF3.out.tr0 hf4)
  have HF24 := Lib.hid (HF23.out.tr0 hf4)
  refine ⟨.inr (hf4.mono (fun i hi _ => by simp at hi)), rfl, ?_⟩
  have HSET := Lib.hid (pset q m k T (ofW K) v4 w4 (HA.out.later (HF3.out.tr0 hf4)) hs4 HG.out hk hm)
  obtain ⟨a4, c4, rfl, _, _⟩ := hs4.form
  clear hf4 hs4
  refine walkZ_x ?_
  go_wp2_with (go_at_call 99; refine HSET.out.mono ?_; rintro e w6 ⟨x6, U, rfl, hx6, hP6, hf6⟩; obtain ⟨n6, sa, sc, b6, rfl, hS6⟩ := hx6.form; have HP6 := Lib.hid hP6; have HF6 := Lib.hid hf6; have HS6 := Lib.hid hS6; clear hP6 hf6 hx6 hS6)
  refine ⟨.inr HF6.out, rfl, ?_⟩
  have HF26 := Lib.hid (show Fr (plB q) w2 w6 from HF24.out.trans HF6.out (by simp) (fun _ h _ => h))
  obtain ⟨NN, hNN⟩ : ∃ NN, NN = (ofW K).length := ⟨_, rfl⟩
  rw [← hNN]
  have HNN := Lib.hid hNN
  clear hNN
  repeat (apply walkZ_t; · (intro w' hf'; go_wp2_with fail; exact ⟨rfl, rfl⟩))
  refine walkZ_x ?_
  have ho6 := LA.out w6 HF26.out
  obtain ⟨c0, c1, c2, c3, c4', c5⟩ := six_of_heapU ho6
  obtain ⟨g3, g4, g5⟩ := six_free ho6
  go_wp2_with fail
  refine ⟨rfl, walkZ_end ?_⟩
  have hs7 := set3o_fr w6 p (.int .i64 (n6 : Int)) (.slice sa NN sc) (.bool b6)
  have ho7 := set3o_heap ho6 (.int .i64 (n6 : Int)) (.slice sa NN sc) (.bool b6)
  obtain ⟨w7, hw7⟩ : ∃ w7, w7 = ((w6.setCell ⟨p, 3, none⟩ (.int .i64 (n6 : Int))).setCell ⟨p, 4, none⟩ (.slice sa NN sc)).setCell ⟨p, 5, none⟩ (.bool b6) := ⟨_, rfl⟩
  rw [← hw7] at hs7 ho7 ⊢
  have HO7 := Lib.hid ho7
  have HS7' := Lib.hid hs7
  have HB6 := Lib.hid (HF26.out.heap HB2.out hrq)
  have HO6 := Lib.hid ho6
  clear hw7 ho7 hs7 ho6 c0 c1 c2 c3 c4' c5 g3 g4 g5
  have hr7 := HS7'.out.heap HB6.out (by simp; omega)
  have HB7 := Lib.hid hr7
  clear hr7
  obtain ⟨c0, c1, c2, c3, c4', c5⟩ := six_of_heapU HO7.out
  obtain ⟨t0, t1, t2, o0, o1, o2⟩ := three_of_heap HB7.out
  have hf8 := set3_fr w7 r (.int .i64 (n6 : Int)) (.slice sa NN sc) (.bool b6)
  have HR8 := Lib.hid (set3_heap HB7.out (.int .i64 (n6 : Int)) (.slice sa NN sc) (.bool b6))
  have HF8 := Lib.hid hf8
  clear hf8
  go_wp2_with fail
  refine bodyPost_ret (results_cell_row rfl _ _ r 93 #[.int .i64 (n6 : Int), .slice sa NN sc, .bool b6] (0, 0) _ rfl HR8.out Tryz.underlying93 rfl sizeSet) rfl ?_
  have hq6 : ∀ b ∈ [p], NotStr w6 b ∧ b ∉ plB q := fun b hb => by
   rw [List.mem_singleton.1 hb]
   exact ⟨NotStr.cells HO6.out (fun z hz x e => by subst e; simp at hz), hpq⟩
  have hq7 : ∀ b ∈ [r], NotStr w7 b ∧ b ∉ plB q := fun b hb => by
   rw [List.mem_singleton.1 hb]
   exact ⟨NotStr.cells HB7.out (fun z hz x e => by subst e; simp at hz), hrq⟩
  have hS8 := ((HS6.out.keep HS7'.out (fun b hb => (hq6 b hb).1)).keep HF8.out (fun b hb => (hq7 b hb).1))
  have hP8 := (HP6.out.keep HS7'.out hq6).keep HF8.out hq7
  have hqw : ∀ b ∈ plB q, NotStr w4 b := (HA.out.later HF4.out).quiet
  have hnu : ∀ b ∈ plB u, b ∉ plB q := fun b hb hm => by
   unfold plB at hb hm
   simp only [List.mem_cons, List.not_mem_nil, or_false] at hb hm
   omega
  have hU6 := (HU.out.later HF4.out).keep HF6.out (fun b hb => ⟨hqw b hb, fun hm => hnu b hm hb⟩) U
  rw [← HNN.out] at hS8
  have hU8 : UniAt (((w7.setCell ⟨r, 0, none⟩ (.int .i64 (n6 : Int))).setCell ⟨r, 1, none⟩ (.slice sa NN sc)).setCell ⟨r, 2, none⟩ (.bool b6)) u q k (T ++ U) K := by
   obtain ⟨D2, d1, d2⟩ := hU6.words
   obtain ⟨E2, c2, e1, e2, e3⟩ := hU6.parts
   have hru : r ∉ plB u := by have := HP.out; simp [plB]; omega
   refine ⟨⟨n6, _, b6, ofW K, ?_, hS8, fun x hx => mem_ofW.1 hx⟩, ⟨D2, ownsMap_keptH (ownsMap_keptH d1 HS7'.out (by have := HP.out; simp; omega)) HF8.out (by simp; exact fun e => hru (by rw [← e]; simp [plB])), d2⟩, ⟨E2, c2, e1, ownsMap_keptH (ownsMap_keptH e2 HS7'.out (by have := HP.out; simp; omega)) HF8.out (by simp; exact fun e => hru (by rw [← e]; simp [plB])), e3⟩, hU6.short⟩
   rw [← HP.out]
   exact HF8.out.heap HO7.out (by simp; omega)
  refine ⟨_, U, rfl, ⟨n6, _, _, rfl, hS8⟩, hP8, hU8, ?_⟩
  have h1 : Fr (plB q ++ [u + 2]) w w6 := HF4.out.trans HF6.out (by simp) (fun i hi _ => by simp [hi])
  exact (h1.trans HS7'.out (fun _ h _ => h) (fun i hi _ => by have := HP.out; simp at hi; simp; omega)).trans HF8.out (fun _ h _ => h) (fun i hi hlt => by simp at hi; have := HR.out; omega)
 ·have hd1 : decide (NV < NK) = false := decide_eq_false hlt
  have hd2 : decide ((NV : Int) < (NK : Int)) = false := decide_eq_false (by omega)
  repeat (apply wpG_t; · (intro w' hf'; go_wp2_with fail; exact ⟨rfl, rfl⟩))
  refine wpG_end ?_
  obtain ⟨c0, c1, c2, c3, c4, c5⟩ := six_of_heapU HO1.out
  obtain ⟨t0, t1, t2, o0, o1, o2⟩ := three_of_heap HB1.out
  have hf8 := set3_fr w1 r (.int .i64 (nV : Nat)) (.slice av NV cv) (.bool bV)
  have HR8 := Lib.hid (set3_heap HB1.out (.int .i64 (nV : Nat)) (.slice av NV cv) (.bool bV))
  have hq8 : ∀ b ∈ [r], NotStr w1 b ∧ b ∉ plB q ∧ b ∉ plB u := fun b hb => by
   rw [List.mem_singleton.1 hb]
   refine ⟨NotStr.cells HB1.out (fun z hz x e => by subst e; simp at hz), ?_, ?_⟩
   ·have := HP.out; simp [plB]; omega
   ·have := HP.out; simp [plB]; omega
  have HS8 := Lib.hid ((HSV.out.keep HF1.out (by simp)).keep hf8 (fun b hb => (hq8 b hb).1))
  have HP8 := Lib.hid (((HA.out.later HF1.out).keep hf8 (fun b hb => ⟨(hq8 b hb).1, (hq8 b hb).2.1⟩)).mono (show m ≤ m + 2 by omega))
  have HU8 := Lib.hid ((HU.out.later HF1.out).keep hf8 (fun b hb => ⟨(hq8 b hb).1, (hq8 b hb).2.2⟩) [])
  have HF8 := Lib.hid (HF1.out.trans hf8 (n := []) (by simp) (fun i hi hlt => by simp at hi; have := HR.out; omega))
  clear hf8 hq8
  go_wp2_with fail
  refine bodyPost_ret (results_cell_row rfl _ _ r 93 #[.int .i64 (nV : Nat), .slice av NV cv, .bool bV] (0, 0) _ rfl HR8.out Tryz.underlying93 rfl sizeSet) rfl ⟨_, [], rfl, ?_, ?_, HU8.out, HF8.out.mono (by simp)⟩
  ·rw [List.append_nil, ← HVE.out (by rw [← HNV.out, ← HNK.out]; exact hlt)]
   have h := HS8.out
   rw [← HNV.out] at h
   exact ⟨nV, _, _, rfl, h⟩
  ·rw [List.append_nil]; exact HP8.out
end Go.Proofs.YtnaamjpiaekmeaaGreat
