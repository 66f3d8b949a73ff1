/- Several texts in one: MakM, TabU, TabR. -/
import Derived.Test.YtnaamjpiaekmeaaGreatMm
import Derived.Test.YtnaamjpiaekmeaaGreatFi
import Derived.Test.YtnaamjpiaekmeaaGreatBs
set_option linter.unusedVariables false
set_option linter.unusedSimpArgs false
namespace Go.Proofs.YtnaamjpiaekmeaaGreat
def TU (N m : Nat) (U : Nat → Nat → Bool) : TabT := fun s p q => decide (s < (N : Int)) && U (s.toNat * (m + 1) + p) q
def FU (N m : Nat) (U : Nat → Nat → Bool) : TabF := fun s p => decide (s < (N : Int)) && U (s.toNat * (m + 1) + m) p
def upd (U : Nat → Nat → Bool) (j i : Nat) : Nat → Nat → Bool := fun j' i' => U j' i' || (decide (j' = j) && decide (i' = i))
theorem idx_lt {a N m p : Nat} (ha : a < N) (hp : p < m + 1) : a * (m + 1) + p < N * (m + 1) := by
 have := Nat.mul_le_mul_right (m + 1) (show a + 1 ≤ N from ha)
 rw [Nat.succ_mul] at this
 omega
theorem idx_mod {a m p : Nat} (hp : p < m + 1) : (a * (m + 1) + p) % (m + 1) = p := by rw [Nat.mul_comm, Nat.mul_add_mod, Nat.mod_eq_of_lt hp]
theorem idx_inj {a b m p q : Nat} (hp : p < m + 1) (hq : q < m + 1) (h : a * (m + 1) + p = b * (m + 1) + q) : a = b ∧ p = q := by
 have e : p = q := by rw [← idx_mod (a := a) hp, ← idx_mod (a := b) hq, h]
 subst e
 exact ⟨Nat.eq_of_mul_eq_mul_right (show 0 < m + 1 by omega) (by omega), rfl⟩
structure SoundU (g : GramG) (W : List UInt8) (N m : Nat) (U : Nat → Nat → Bool) : Prop where
 t : SoundT g W (TU N m U)
 f : SoundF g W (FU N m U)
theorem SoundU.updT {g : GramG} {W : List UInt8} {N m a p q : Nat} {U : Nat → Nat → Bool} (h : SoundU g W N m U) (hm : m = W.length + 1) (hp : p ≤ W.length) (hd : DerS g [(a : Int)] (partW W p q)) : SoundU g W N m (upd U (a * (m + 1) + p) q) := by
 refine ⟨fun s p' q' hs hpq hq hh => ?_, fun s p' hs hp' hh => ?_⟩
 ·unfold TU upd at hh
  simp only [Bool.and_eq_true, Bool.or_eq_true, decide_eq_true_eq] at hh
  obtain ⟨hN, hh | ⟨h1, h2⟩⟩ := hh
  ·exact h.t s p' q' hs hpq hq (by unfold TU; rw [decide_eq_true hN, hh]; rfl)
  ·obtain ⟨e1, e2⟩ := idx_inj (by omega) (by omega) h1
   obtain ⟨b, rfl⟩ := Int.eq_ofNat_of_zero_le hs
   simp only [Int.toNat_natCast] at e1
   subst e1 e2 h2
   exact hd
 ·unfold FU upd at hh
  simp only [Bool.and_eq_true, Bool.or_eq_true, decide_eq_true_eq] at hh
  obtain ⟨hN, hh | ⟨h1, h2⟩⟩ := hh
  ·exact h.f s p' hs hp' (by unfold FU; rw [decide_eq_true hN, hh]; rfl)
  ·obtain ⟨e1, e2⟩ := idx_inj (by omega) (by omega) h1
   omega
theorem SoundU.updF {g : GramG} {W : List UInt8} {N m a p : Nat} {U : Nat → Nat → Bool} (h : SoundU g W N m U) (hm : m = W.length + 1) (hd : ∃ x, DerS g [(a : Int)] x ∧ W.drop p <+: x) : SoundU g W N m (upd U (a * (m + 1) + m) p) := by
 refine ⟨fun s p' q' hs hpq hq hh => ?_, fun s p' hs hp' hh => ?_⟩
 ·unfold TU upd at hh
  simp only [Bool.and_eq_true, Bool.or_eq_true, decide_eq_true_eq] at hh
  obtain ⟨hN, hh | ⟨h1, h2⟩⟩ := hh
  ·exact h.t s p' q' hs hpq hq (by unfold TU; rw [decide_eq_true hN, hh]; rfl)
  ·obtain ⟨e1, e2⟩ := idx_inj (by omega) (by omega) h1
   omega
 ·unfold FU upd at hh
  simp only [Bool.and_eq_true, Bool.or_eq_true, decide_eq_true_eq] at hh
  obtain ⟨hN, hh | ⟨h1, h2⟩⟩ := hh
  ·exact h.f s p' hs hp' (by unfold FU; rw [decide_eq_true hN, hh]; rfl)
  ·obtain ⟨e1, -⟩ := idx_inj (by omega) (by omega) h1
   obtain ⟨b, rfl⟩ := Int.eq_ofNat_of_zero_le hs
   simp only [Int.toNat_natCast] at e1
   subst e1 h2
   exact hd
def U0 (m n : Nat) (j i : Nat) : Bool := decide (j % (m + 1) = m) && decide (i = n)
theorem U0_row {m n d p i : Nat} (hp : p < m) : U0 m n (d * (m + 1) + p) i = false := by
 unfold U0
 rw [idx_mod (by omega), decide_eq_false (by omega)]
 rfl
theorem U0_end {m n d i : Nat} : U0 m n (d * (m + 1) + m) i = decide (i = n) := by
 unfold U0
 rw [idx_mod (by omega)]
 simp
theorem sound_U0 {g : GramG} {W : List UInt8} {N m : Nat} (hm : m = W.length + 1) (hp : ∀ a : Nat, a < N → ∃ x, DerS g [(a : Int)] x) : SoundU g W N m (U0 m W.length) := by
 refine ⟨fun s p q hs hpq hq hh => ?_, fun s p hs hp' hh => ?_⟩
 ·unfold TU at hh
  rw [U0_row (by omega), Bool.and_false] at hh
  cases hh
 ·unfold FU at hh
  rw [U0_end, Bool.and_eq_true, decide_eq_true_eq, decide_eq_true_eq] at hh
  obtain ⟨h1, rfl⟩ := hh
  obtain ⟨b, rfl⟩ := Int.eq_ofNat_of_zero_le hs
  obtain ⟨x, hx⟩ := hp b (by omega)
  exact ⟨x, hx, by rw [List.drop_length]; exact List.nil_prefix⟩
def UsedAt (W : List UInt8) (T : TabT) (F : TabF) (r : RuleG) (p : Nat) : Prop :=
 (∀ q, q ≤ W.length → atB (endsB T W r.right (unitB W p)) q = true → T r.left p q = true) ∧ (begB T F W r.right (unitB W p) = true → F r.left p = true)
def UsedTo (g : GramG) (W : List UInt8) (T : TabT) (F : TabF) (i : Nat) : Prop := ∀ k (h : k < g.rules.length), k < i → ∀ p, p ≤ W.length → UsedAt W T F (g.rules[k]'h) p
theorem closed_of {g : GramG} {W : List UInt8} {T : TabT} {F : TabF} (h : UsedTo g W T F g.rules.length) : ClosedT g W T F := by
 constructor
 ·intro r hr p q hp hq hh
  obtain ⟨k, hk, rfl⟩ := List.getElem_of_mem hr
  exact (h k hk hk p hp).1 q hq hh
 ·intro r hr p hp hh
  obtain ⟨k, hk, rfl⟩ := List.getElem_of_mem hr
  exact (h k hk hk p hp).2 hh
def cU (U : Nat → Nat → Bool) (L m : Nat) : Nat := ((List.range L).map fun j => ((List.range m).filter fun i => !U j i).length).sum
theorem filt_le (f g : Nat → Bool) (h : ∀ i, g i = true → f i = true) : ∀ m, ((List.range m).filter g).length ≤ ((List.range m).filter f).length
 | 0 => by simp
 | m + 1 => by
   have ih := filt_le f g h m
   rw [List.range_succ, List.filter_append, List.filter_append, List.length_append, List.length_append]
   have : ([m].filter g).length ≤ ([m].filter f).length := by
    by_cases c : g m = true
    ·rw [List.filter_cons_of_pos c, List.filter_cons_of_pos (h m c)]; exact Nat.le_refl _
    ·rw [List.filter_cons_of_neg c]; simp
   omega
theorem filt_lt (f g : Nat → Bool) (h : ∀ i, g i = true → f i = true) {i : Nat} (h1 : f i = true) (h2 : g i = false) : ∀ m, i < m → ((List.range m).filter g).length < ((List.range m).filter f).length
 | 0, hi => by omega
 | m + 1, hi => by
   rw [List.range_succ, List.filter_append, List.filter_append, List.length_append, List.length_append]
   by_cases e : i = m
   ·subst e
    have := filt_le f g h i
    rw [List.filter_cons_of_pos h1, List.filter_cons_of_neg (by rw [h2]; simp)]
    simp
    omega
   ·have ih := filt_lt f g h h1 h2 m (by omega)
    have : ([m].filter g).length ≤ ([m].filter f).length := by
     by_cases c : g m = true
     ·rw [List.filter_cons_of_pos c, List.filter_cons_of_pos (h m c)]; exact Nat.le_refl _
     ·rw [List.filter_cons_of_neg c]; simp
    omega
theorem sum_le (f g : Nat → Nat) (h : ∀ i, g i ≤ f i) : ∀ m, ((List.range m).map g).sum ≤ ((List.range m).map f).sum
 | 0 => by simp
 | m + 1 => by
   have ih := sum_le f g h m
   have := h m
   rw [List.range_succ, List.map_append, List.map_append, List.sum_append, List.sum_append]
   simp
   omega
theorem sum_lt (f g : Nat → Nat) (h : ∀ i, g i ≤ f i) {i : Nat} (h1 : g i < f i) : ∀ m, i < m → ((List.range m).map g).sum < ((List.range m).map f).sum
 | 0, hi => by omega
 | m + 1, hi => by
   have hm := h m
   rw [List.range_succ, List.map_append, List.map_append, List.sum_append, List.sum_append]
   by_cases e : i = m
   ·subst e
    have := sum_le f g h i
    simp
    omega
   ·have ih := sum_lt f g h h1 m (by omega)
    simp
    omega
theorem cU_upd {U : Nat → Nat → Bool} {L m j i : Nat} (hj : j < L) (hi : i < m) (h : U j i = false) : cU (upd U j i) L m < cU U L m := by
 unfold cU
 refine sum_lt _ _ (fun j' => filt_le _ _ (fun i' hh => ?_) m) (i := j) ?_ L hj
 ·unfold upd at hh
  cases hu : U j' i' with
  | false => rfl
  | true => rw [hu] at hh; simp at hh
 ·refine filt_lt _ _ (fun i' hh => ?_) (i := i) (by rw [h]; rfl) (by unfold upd; simp) m hi
  unfold upd at hh
  cases hu : U j i' with
  | false => rfl
  | true => rw [hu] at hh; simp at hh
end Go.Proofs.YtnaamjpiaekmeaaGreat
namespace Go.Proofs.YtnaamjpiaekmeaaGreat
open Go.RowKit
abbrev tL : TypeId := 50
abbrev tLL : TypeId := 34
structure RowsU (w : World) (B m : Nat) (blk : List Nat) (U : Nat → Nat → Bool) : Prop where
 asc : blk.Pairwise (· < ·)
 low : ∀ b ∈ blk, B ≤ b
 row : ∀ j (h : j < blk.length), rowF w (blk[j]'h) m (U j)
theorem RowsU.get {w : World} {B m : Nat} {blk : List Nat} {U : Nat → Nat → Bool} (h : RowsU w B m blk U) {j : Nat} (hj : j < blk.length) : rowF w (blk.getD j 0) m (U j) := by
 rw [List.getD_eq_getElem?_getD, List.getElem?_eq_getElem hj]; exact h.row j hj
theorem RowsU.nil (w : World) (B m : Nat) (U : Nat → Nat → Bool) : RowsU w B m [] U := ⟨List.Pairwise.nil, by simp, fun j h => by simp at h⟩
theorem RowsU.kept {w w' : World} {B m : Nat} {blk : List Nat} {U : Nat → Nat → Bool} {L : List Nat} (h : RowsU w B m blk U) (hf : Fr L w w') (hL : ∀ b ∈ blk, b ∉ L) : RowsU w' B m blk U :=
 ⟨h.asc, h.low, fun j hj => (h.row j hj).kept hf (hL _ (List.getElem_mem hj))⟩
theorem RowsU.fr {w w' : World} {B m : Nat} {blk : List Nat} {U : Nat → Nat → Bool} (h : RowsU w B m blk U) (hf : Fr [] w w') : RowsU w' B m blk U := h.kept hf (by simp)
theorem RowsU.own {w w' : World} {B m b sz n : Nat} {blk : List Nat} {U : Nat → Nat → Bool} {e : TypeId} {v : Value} {xs : List Value} (h : RowsU w B m blk U) (ho : w.ownsRow b e sz v n xs) (he : tBool ≠ e) (hf : Fr v.ownBlock.toList w w') : RowsU w' B m blk U :=
 h.kept hf (fun k hk => by
  obtain ⟨j, hj, rfl⟩ := List.getElem_of_mem hk
  exact heap_apart (h.row j hj) ho he)
theorem RowsU.set {w : World} {B m : Nat} {blk : List Nat} {U : Nat → Nat → Bool} (h : RowsU w B m blk U) {j i : Nat} (hj : j < blk.length) (hi : i < m) : RowsU (w.setCell ⟨blk.getD j 0, i, none⟩ (.bool true)) B m blk (fun j' i' => U j' i' || (decide (j' = j) && decide (i' = i))) := by
 have hg : blk.getD j 0 = blk[j]'hj := by rw [List.getD_eq_getElem?_getD, List.getElem?_eq_getElem hj]; rfl
 rw [hg]
 refine ⟨h.asc, h.low, fun j' hj' => ?_⟩
 by_cases e : j' = j
 ·subst e
  exact ((h.row j' hj').set hi).congr (fun q _ => by simp)
 ·have hne : blk[j']'hj' ≠ blk[j]'hj := by
   rcases Nat.lt_or_gt_of_ne e with q | q
   ·exact Nat.ne_of_lt (List.pairwise_iff_getElem.1 h.asc j' j hj' hj q)
   ·exact (Nat.ne_of_lt (List.pairwise_iff_getElem.1 h.asc j j' hj hj' q)).symm
  exact ((h.row j' hj').kept (Fr.set0 w _ i _) (by simpa using hne)).congr (fun q _ => by simp [e])
theorem RowsU.push {w w' : World} {B m : Nat} {blk : List Nat} {U : Nat → Nat → Bool} (h : RowsU w B m blk U) (hf : Fr [] w w') (hB : B ≤ w.heap.size) (hr : rowF w' w.heap.size m (U blk.length)) : RowsU w' B m (blk ++ [w.heap.size]) U := by
 refine ⟨?_, ?_, fun j hj => ?_⟩
 ·rw [List.pairwise_append]
  refine ⟨h.asc, by simp, fun a ha b hb => ?_⟩
  rw [List.mem_singleton.1 hb]
  obtain ⟨j, hj, rfl⟩ := List.getElem_of_mem ha
  exact (h.row j hj).lt
 ·intro b hb
  rcases List.mem_append.1 hb with hb | hb
  ·exact h.low b hb
  ·rw [List.mem_singleton.1 hb]; exact hB
 ·by_cases e : j < blk.length
  ·rw [List.getElem_append_left e]
   exact (h.row j e).kept hf (by simp)
  ·have hje : j = blk.length := by rw [List.length_append, List.length_singleton] at hj; omega
   subst hje
   rw [List.getElem_append_right (Nat.le_refl _)]
   simp only [Nat.sub_self, List.getElem_cons_zero]
   exact hr
def rowV (b m : Nat) : Value := .slice (some ⟨b, 0, none⟩) m m
structure PtrU (w : World) (B qt : Nat) (g0 g1 g2 : Value) (W : List UInt8) (m : Nat) (blk : List Nat) (es fs : List Value) (exv frv : Value) : Prop where
 box : w.heap[qt]? = some (.cells #[g0, g1, g2, encStr W, exv, frv] tTab (0, 0))
 exo : w.ownsRow B tLL 1 exv es.length es
 fro : w.ownsRow B tL 1 frv fs.length fs
 apart : ∀ e ∈ es, ∀ k, frv.ownBlock = some k → e.ownBlock ≠ some k
 eo : ∀ a (h : a < es.length), ∃ us, w.ownsRow B tL 1 (es[a]'h) m us ∧ ∀ p, p < m → us[p]? = some (rowV (blk.getD (a * (m + 1) + p) 0) m)
 fo : ∀ a (h : a < fs.length), fs[a]'h = rowV (blk.getD (a * (m + 1) + m) 0) m
theorem PtrU.fr {w w' : World} {B qt : Nat} {g0 g1 g2 : Value} {W : List UInt8} {m : Nat} {blk : List Nat} {es fs : List Value} {exv frv : Value} (h : PtrU w B qt g0 g1 g2 W m blk es fs exv frv) (hf : Fr [] w w') : PtrU w' B qt g0 g1 g2 W m blk es fs exv frv :=
 ⟨hf.heap h.box (by simp), owns_kept h.exo hf (by simp), owns_kept h.fro hf (by simp), h.apart, fun a ha => by
  obtain ⟨us, h1, h2⟩ := h.eo a ha
  exact ⟨us, owns_kept h1 hf (by simp), h2⟩, h.fo⟩
theorem PtrU.blk {w : World} {B qt : Nat} {g0 g1 g2 : Value} {W : List UInt8} {m : Nat} {blk blk' : List Nat} {es fs : List Value} {exv frv : Value} (h : PtrU w B qt g0 g1 g2 W m blk es fs exv frv) (he : es.length * (m + 1) ≤ blk.length + 1) (hfl : fs.length * (m + 1) ≤ blk.length) (hb : ∃ s, blk' = blk ++ s) : PtrU w B qt g0 g1 g2 W m blk' es fs exv frv := by
 obtain ⟨s, rfl⟩ := hb
 have key : ∀ j, j < blk.length → (blk ++ s).getD j 0 = blk.getD j 0 := fun j hj => by rw [List.getD_eq_getElem?_getD, List.getD_eq_getElem?_getD, List.getElem?_append_left hj]
 have lt : ∀ a n p, a < n → p < m + 1 → n * (m + 1) ≤ blk.length → a * (m + 1) + p < blk.length := by
  intro a n p h1 h2 h3
  have := Nat.mul_le_mul_right (m + 1) (show a + 1 ≤ n from h1)
  rw [Nat.succ_mul] at this
  omega
 refine ⟨h.box, h.exo, h.fro, h.apart, fun a ha => ?_, fun a ha => ?_⟩
 ·obtain ⟨us, h1, h2⟩ := h.eo a ha
  exact ⟨us, h1, fun p hp => by rw [h2 p hp, key _ (by have := Nat.mul_le_mul_right (m + 1) (show a + 1 ≤ es.length from ha); rw [Nat.succ_mul] at this; omega)]⟩
 ·rw [h.fo a ha, key _ (lt a _ m ha (by omega) hfl)]
theorem PtrU.setRow {w w' : World} {B qt : Nat} {g0 g1 g2 : Value} {W : List UInt8} {m : Nat} {blk : List Nat} {es fs : List Value} {exv frv : Value} (h : PtrU w B qt g0 g1 g2 W m blk es fs exv frv) {r : Nat} {cs : Array Value} {fz : Nat × Nat} (hr : w.heap[r]? = some (.cells cs tBool fz)) (hf : Fr [r] w w') : PtrU w' B qt g0 g1 g2 W m blk es fs exv frv := by
 have ne : ∀ {e : TypeId} {v : Value} {n b : Nat} {xs : List Value}, w.ownsRow b e 1 v n xs → tBool ≠ e → ∀ k, v.ownBlock = some k → k ∉ [r] := by
  intro e v n b xs ho hne k hk hm
  have hk' : k = r := by simpa using hm
  subst hk'
  exact heap_apart hr ho hne (Option.mem_toList.2 hk)
 refine ⟨hf.heap h.box ?_, owns_kept h.exo hf (ne h.exo (by decide)), owns_kept h.fro hf (ne h.fro (by decide)), h.apart, fun a ha => ?_, h.fo⟩
 ·intro hm
  have hq : qt = r := by simpa using hm
  subst hq
  rw [h.box] at hr
  simp only [Option.some.injEq, Obj.cells.injEq] at hr
  exact absurd hr.2.1 (by decide)
 ·obtain ⟨us, h1, h2⟩ := h.eo a ha
  exact ⟨us, owns_kept h1 hf (ne h1 (by decide)), h2⟩
theorem box_not_own {w : World} {b sz n qt : Nat} {e : TypeId} {v : Value} {xs : List Value} {cs : Array Value} {fz : Nat × Nat} (hb : w.heap[qt]? = some (.cells cs tTab fz)) (ho : w.ownsRow b e sz v n xs) (he : tTab ≠ e) : qt ∉ v.ownBlock.toList := heap_apart hb ho he
theorem PtrU.pushE {w w5 : World} {B qt : Nat} {g0 g1 g2 : Value} {W : List UInt8} {m : Nat} {blk : List Nat} {es fs : List Value} {exv frv ev exv' : Value} {us : List Value} (h : PtrU w B qt g0 g1 g2 W m blk es fs exv frv)
  (h5 : w5.ownsRow B tLL 1 exv' (es.length + 1) (es ++ [ev])) (hf : Fr exv.ownBlock.toList w w5) (hev : w.ownsRow B tL 1 ev m us) (hus : ∀ p, p < m → us[p]? = some (rowV (blk.getD (es.length * (m + 1) + p) 0) m)) (hap : ∀ k, frv.ownBlock = some k → ev.ownBlock ≠ some k) :
  PtrU (w5.setCell ⟨qt, 4, none⟩ exv') B qt g0 g1 g2 W m blk (es ++ [ev]) fs exv' frv := by
 have hbox5 := hf.heap h.box (box_not_own h.box h.exo (by decide))
 have keep : ∀ {v : Value} {n : Nat} {xs : List Value}, w.ownsRow B tL 1 v n xs → (w5.setCell ⟨qt, 4, none⟩ exv').ownsRow B tL 1 v n xs := by
  intro v n xs ho
  have h1 : w5.ownsRow B tL 1 v n xs := owns_kept ho hf (fun k hk hm => by
   have hk2 := Option.mem_toList.1 hm
   rcases h.exo.2 with ⟨hz, _⟩ | ⟨g, cap, cur, hz, _, hg, _⟩
   ·rw [hz] at hk2; cases hk2
   ·rw [hz] at hk2
    obtain rfl : g = k := by simpa [Value.ownBlock] using hk2
    exact heap_apart hg ho (by decide) (Option.mem_toList.2 hk))
  exact owns_kept h1 (Fr.set0 _ _ _ _) (fun k hk hm => by
   have hk' : k = qt := by simpa using hm
   subst hk'
   exact heap_apart hbox5 h1 (by decide) (Option.mem_toList.2 hk))
 refine ⟨?_, ?_, keep h.fro, ?_, fun a ha => ?_, h.fo⟩
 ·rw [heap_setCell_same hbox5]; rfl
 ·rw [List.length_append]
  exact owns_kept h5 (Fr.set0 _ _ _ _) (fun k hk hm => by
   have hk' : k = qt := by simpa using hm
   subst hk'
   exact heap_apart hbox5 h5 (by decide) (Option.mem_toList.2 hk))
 ·intro e he
  rcases List.mem_append.1 he with he | he
  ·exact h.apart e he
  ·rw [List.mem_singleton.1 he]; exact hap
 ·by_cases c : a < es.length
  ·rw [List.getElem_append_left c]
   obtain ⟨ys, h1, h2⟩ := h.eo a c
   exact ⟨ys, keep h1, h2⟩
  ·have hae : a = es.length := by rw [List.length_append, List.length_singleton] at ha; omega
   subst hae
   rw [List.getElem_append_right (Nat.le_refl _)]
   simp only [Nat.sub_self, List.getElem_cons_zero]
   exact ⟨us, keep hev, hus⟩
theorem PtrU.pushF {w w5 : World} {B qt : Nat} {g0 g1 g2 : Value} {W : List UInt8} {m : Nat} {blk : List Nat} {es fs : List Value} {exv frv fv frv' : Value} (h : PtrU w B qt g0 g1 g2 W m blk es fs exv frv)
  (h5 : w5.ownsRow B tL 1 frv' (fs.length + 1) (fs ++ [fv])) (hf : Fr frv.ownBlock.toList w w5) (hb : frv'.ownBlock = frv.ownBlock ∨ ∃ k, frv'.ownBlock = some k ∧ w.heap.size ≤ k) (hfv : fv = rowV (blk.getD (fs.length * (m + 1) + m) 0) m) :
  PtrU (w5.setCell ⟨qt, 5, none⟩ frv') B qt g0 g1 g2 W m blk es (fs ++ [fv]) exv frv' := by
 have hbox5 := hf.heap h.box (box_not_own h.box h.fro (by decide))
 have put : ∀ {e : TypeId} {v : Value} {n b : Nat} {xs : List Value}, tTab ≠ e → w5.ownsRow b e 1 v n xs → (w5.setCell ⟨qt, 5, none⟩ frv').ownsRow b e 1 v n xs := by
  intro e v n b xs hne ho
  exact owns_kept ho (Fr.set0 _ _ _ _) (fun k hk hm => by
   have hk' : k = qt := by simpa using hm
   subst hk'
   exact heap_apart hbox5 ho hne (Option.mem_toList.2 hk))
 refine ⟨?_, put (by decide) (owns_kept h.exo hf ?_), ?_, ?_, fun a ha => ?_, fun a ha => ?_⟩
 ·rw [heap_setCell_same hbox5]; rfl
 ·intro k hk hm
  have hk2 := Option.mem_toList.1 hm
  rcases h.fro.2 with ⟨hz, _⟩ | ⟨g, cap, cur, hz, _, hg, _⟩
  ·rw [hz] at hk2; cases hk2
  ·rw [hz] at hk2
   obtain rfl : g = k := by simpa [Value.ownBlock] using hk2
   exact heap_apart hg h.exo (by decide) (Option.mem_toList.2 hk)
 ·rw [List.length_append]; exact put (by decide) h5
 ·intro e he k hk
  rcases hb with hb | ⟨k', hb, hge⟩
  ·rw [hb] at hk; exact h.apart e he k hk
  ·rw [hb] at hk
   obtain rfl := Option.some.inj hk
   obtain ⟨a, ha, rfl⟩ := List.getElem_of_mem he
   obtain ⟨us, h1, -⟩ := h.eo a ha
   intro hek
   have := (h1.lt _ hek).2
   omega
 ·obtain ⟨us, h1, h2⟩ := h.eo a ha
  exact ⟨us, put (by decide) (owns_kept h1 hf (fun k hk hm => h.apart _ (List.getElem_mem ha) k (Option.mem_toList.1 hm) hk)), h2⟩
 ·by_cases c : a < fs.length
  ·rw [List.getElem_append_left c]; exact h.fo a c
  ·have hae : a = fs.length := by rw [List.length_append, List.length_singleton] at ha; omega
   subst hae
   rw [List.getElem_append_right (Nat.le_refl _)]
   simpa using hfv
theorem RowsU.box {w w' : World} {B m qt : Nat} {blk : List Nat} {U : Nat → Nat → Bool} {cs : Array Value} {fz : Nat × Nat} (h : RowsU w B m blk U) (hb : w.heap[qt]? = some (.cells cs tTab fz)) (hf : Fr [qt] w w') : RowsU w' B m blk U :=
 h.kept hf (fun k hk hm => by
  obtain ⟨j, hj, rfl⟩ := List.getElem_of_mem hk
  have e : blk[j]'hj = qt := by simpa using hm
  have hr := h.row j hj
  unfold rowF at hr
  rw [e, hb] at hr
  simp only [Option.some.injEq, Obj.cells.injEq] at hr
  exact absurd hr.2.1 (by decide))
theorem tabK_of {w : World} {B qt : Nat} {g0 g1 g2 : Value} {W : List UInt8} {m N : Nat} {blk : List Nat} {es fs : List Value} {exv frv : Value} {U : Nat → Nat → Bool} (h : PtrU w B qt g0 g1 g2 W m blk es fs exv frv) (k : RowsU w B m blk U) (he : es.length = N) (hf : fs.length = N) (hb : blk.length = N * (m + 1)) (hm : m = W.length + 1) (hmm : m ≤ maxLen) :
  TabK w #[g0, g1, g2, encStr W, exv, frv] W N (TU N m U) (FU N m U) := by
 refine ⟨g0, g1, g2, exv, frv, rfl, ?_⟩
 rw [← hm]
 refine ⟨⟨es, he, cellsAt_of_owns h.exo, fun a ha => ?_⟩, fs, hf, cellsAt_of_owns h.fro, fun a ha => ?_⟩
 ·obtain ⟨us, h1, h2⟩ := h.eo a ha
  have hul : us.length = m := by have := h1.1; omega
  refine ⟨us, hul, cellsAt_of_owns (by rw [hul]; exact h1), fun p hp => ?_⟩
  have e := h2 p (by omega)
  rw [List.getElem?_eq_getElem hp] at e
  rw [Option.some.inj e]
  have hr := k.get (j := a * (m + 1) + p) (by rw [hb]; exact idx_lt (by omega) (by omega))
  have := hr.bools hmm
  rwa [show U (a * (m + 1) + p) = TU N m U (a : Int) p from funext fun q => by unfold TU; rw [decide_eq_true (by omega)]; rfl] at this
 ·rw [h.fo a ha]
  have hr := k.get (j := a * (m + 1) + m) (by rw [hb]; exact idx_lt (by omega) (by omega))
  have := hr.bools hmm
  rwa [show U (a * (m + 1) + m) = FU N m U (a : Int) from funext fun q => by unfold FU; rw [decide_eq_true (by omega)]; rfl] at this
def isF : Option Value → Bool
 | some (.bool false) => true
 | _ => false
def cW (w : World) (blk : List Nat) (m : Nat) : Nat := ((List.range blk.length).map fun j => ((List.range m).filter fun i => isF (w.cell? ⟨blk.getD j 0, i, none⟩)).length).sum
theorem cW_eq {w : World} {B m : Nat} {blk : List Nat} {U : Nat → Nat → Bool} (h : RowsU w B m blk U) : cW w blk m = cU U blk.length m := by
 unfold cW cU
 congr 1
 refine List.map_congr_left (fun j hj => ?_)
 congr 1
 refine List.filter_congr (fun i hi => ?_)
 rw [(h.get (List.mem_range.1 hj)).cell (List.mem_range.1 hi)]
 cases U j i <;> rfl
end Go.Proofs.YtnaamjpiaekmeaaGreat
namespace Go.Proofs.YtnaamjpiaekmeaaGreat
open Go.RowKit
structure RdS (w2 wx : World) (g : GramG) (W : List UInt8) (N m qt : Nat) (g0 g1 g2 : Value) (blk : List Nat) (es fs : List Value) (exv frv : Value) (U : Nat → Nat → Bool) : Prop where
 fr : Fr [] w2 wx
 ptr : PtrU wx w2.heap.size qt g0 g1 g2 W m blk es fs exv frv
 rows : RowsU wx w2.heap.size m blk U
 snd : SoundU g W N m U
section
variable {w2 wx wy : World} {g : GramG} {W : List UInt8} {N m qt : Nat} {g0 g1 g2 : Value} {blk : List Nat} {es fs : List Value} {exv frv : Value} {U : Nat → Nat → Bool}
theorem RdS.later (h : RdS w2 wx g W N m qt g0 g1 g2 blk es fs exv frv U) (hf : Fr [] wx wy) : RdS w2 wy g W N m qt g0 g1 g2 blk es fs exv frv U :=
 ⟨h.fr.tr0 hf, h.ptr.fr hf, h.rows.fr hf, h.snd⟩
theorem RdS.put (h : RdS w2 wx g W N m qt g0 g1 g2 blk es fs exv frv U) {j i : Nat} (hj : j < blk.length) (hi : i < m) (hs : SoundU g W N m (upd U j i)) : RdS w2 (wx.setCell ⟨blk.getD j 0, i, none⟩ (.bool true)) g W N m qt g0 g1 g2 blk es fs exv frv (upd U j i) := by
 have hr := h.rows.get hj
 have hg : blk.getD j 0 = blk[j]'hj := by rw [List.getD_eq_getElem?_getD, List.getElem?_eq_getElem hj]; rfl
 have hb : w2.heap.size ≤ blk.getD j 0 := by rw [hg]; exact h.rows.low _ (List.getElem_mem hj)
 exact ⟨Fr.newer h.fr hb, h.ptr.setRow hr (Fr.set0 _ _ _ _), h.rows.set hj hi, hs⟩
theorem RdS.tab (h : RdS w2 wx g W N m qt g0 g1 g2 blk es fs exv frv U) (he : es.length = N) (hf : fs.length = N) (hb : blk.length = N * (m + 1)) (hm : m = W.length + 1) (hmm : m ≤ maxLen) : TabK wx #[g0, g1, g2, encStr W, exv, frv] W N (TU N m U) (FU N m U) := tabK_of h.ptr h.rows he hf hb hm hmm
theorem RdS.tabLow {L : List Nat} (h : RdS w2 wx g W N m qt g0 g1 g2 blk es fs exv frv U) (hf1 : Fr L wx wy) (hr : ∀ r ∈ L, r < w2.heap.size) (hq : w2.heap.size ≤ qt) (he : es.length = N) (hf : fs.length = N) (hb : blk.length = N * (m + 1)) (hm : m = W.length + 1) (hmm : m ≤ maxLen) : TabK wy #[g0, g1, g2, encStr W, exv, frv] W N (TU N m U) (FU N m U) := by
 have low : ∀ {e : TypeId} {v : Value} {n : Nat} {xs : List Value}, wx.ownsRow w2.heap.size e 1 v n xs → wy.ownsRow w2.heap.size e 1 v n xs := by
  intro e v n xs ho
  exact owns_kept ho hf1 (fun k hk hm2 => by have h1 := (ho.lt k hk).1; have h2 := hr k hm2; omega)
 have hp : PtrU wy w2.heap.size qt g0 g1 g2 W m blk es fs exv frv :=
  ⟨hf1.heap h.ptr.box (fun hm2 => by have := hr _ hm2; omega), low h.ptr.exo, low h.ptr.fro, h.ptr.apart, fun a ha => by obtain ⟨us, h1, h2⟩ := h.ptr.eo a ha; exact ⟨us, low h1, h2⟩, h.ptr.fo⟩
 exact tabK_of hp (h.rows.kept hf1 (fun b hb2 hm2 => by have h1 := h.rows.low b hb2; have h2 := hr _ hm2; omega)) he hf hb hm hmm
theorem RdS.way (h : RdS w2 wx g W N m qt g0 g1 g2 blk es fs exv frv U) (he : es.length = N) (hb : blk.length = N * (m + 1)) {a p q : Nat} (ha : a < N) (hp : p < m) (hq : q < m) :
  ∃ b0 o0 c0 b1 o1 c1, exv = .slice (some ⟨b0, o0, none⟩) N c0 ∧ N ≤ c0 ∧ c0 ≤ maxLen ∧ wx.cell? ⟨b0, o0 + a, none⟩ = some (.slice (some ⟨b1, o1, none⟩) m c1) ∧ m ≤ c1 ∧ c1 ≤ maxLen ∧ wx.cell? ⟨b1, o1 + p, none⟩ = some (.slice (some ⟨blk.getD (a * (m + 1) + p) 0, 0, none⟩) m m) ∧ wx.cell? ⟨blk.getD (a * (m + 1) + p) 0, q, none⟩ = some (.bool (U (a * (m + 1) + p) q)) ∧ wx.frozen? ⟨blk.getD (a * (m + 1) + p) 0, q, none⟩ = false := by
 have hexo := h.ptr.exo
 have ha' : a < es.length := by omega
 obtain ⟨us, h1, h2⟩ := h.ptr.eo a ha'
 have hul : us.length = m := by have := h1.1; omega
 have hc := cellsAt_of_owns hexo
 obtain ⟨x0, c0, hx, hc0, hm0⟩ := hc.form
 rw [he] at hx hc0
 have hc' := hc
 rw [hx] at hc'
 obtain ⟨b0, o0, rfl, -, e0⟩ := hc'.get ha'
 have hu := cellsAt_of_owns (show wx.ownsRow w2.heap.size tL 1 (es[a]'ha') us.length us by rw [hul]; exact h1)
 obtain ⟨x1, c1, hx1, hc1, hm1⟩ := hu.form
 rw [hul] at hx1 hc1
 have hu' := hu
 rw [hx1] at hu'
 obtain ⟨b1, o1, rfl, -, e1⟩ := hu'.get (show p < us.length by omega)
 have e2 := h2 p hp
 rw [List.getElem?_eq_getElem (by omega)] at e2
 have hr := h.rows.get (j := a * (m + 1) + p) (by rw [hb]; exact idx_lt ha (by omega))
 refine ⟨b0, o0, c0, b1, o1, c1, hx, hc0, hm0, ?_, hc1, hm1, ?_, hr.cell hq, hr.free q⟩
 ·rw [e0 a ha', hx1]
 ·rw [e1 p (by omega), Option.some.inj e2]; rfl
theorem RdS.wayF (h : RdS w2 wx g W N m qt g0 g1 g2 blk es fs exv frv U) (hf : fs.length = N) (hb : blk.length = N * (m + 1)) {a p : Nat} (ha : a < N) (hp : p < m) :
  ∃ b0 o0 c0, frv = .slice (some ⟨b0, o0, none⟩) N c0 ∧ N ≤ c0 ∧ c0 ≤ maxLen ∧ wx.cell? ⟨b0, o0 + a, none⟩ = some (.slice (some ⟨blk.getD (a * (m + 1) + m) 0, 0, none⟩) m m) ∧ wx.cell? ⟨blk.getD (a * (m + 1) + m) 0, p, none⟩ = some (.bool (U (a * (m + 1) + m) p)) ∧ wx.frozen? ⟨blk.getD (a * (m + 1) + m) 0, p, none⟩ = false := by
 have ha' : a < fs.length := by omega
 have hc := cellsAt_of_owns h.ptr.fro
 obtain ⟨x0, c0, hx, hc0, hm0⟩ := hc.form
 rw [hf] at hx hc0
 have hc' := hc
 rw [hx] at hc'
 obtain ⟨b0, o0, rfl, -, e0⟩ := hc'.get ha'
 have hr := h.rows.get (j := a * (m + 1) + m) (by rw [hb]; exact idx_lt ha (by omega))
 refine ⟨b0, o0, c0, hx, hc0, hm0, ?_, hr.cell hp, hr.free p⟩
 rw [e0 a ha', h.ptr.fo a ha']; rfl
end
theorem ends_len (T : TabT) (W : List UInt8) : ∀ (ss : List Int) (now : List Bool), now.length = W.length + 1 → (endsB T W ss now).length = W.length + 1
 | [], _, h => h
 | s :: ss, now, _ => ends_len T W ss _ (mv_len _ _ _ _)
theorem ends_rule {g : GramG} {W : List UInt8} {T : TabT} (h : SoundT g W T) {r : RuleG} (hr : r ∈ g.rules) {a : Nat} (hl : r.left = (a : Int)) {p q : Nat} (hq : q ≤ W.length) (hh : atB (endsB T W r.right (unitB W p)) q = true) : p ≤ q ∧ DerS g [(a : Int)] (partW W p q) := by
 obtain ⟨p0, h1, h2, h3⟩ := ends_sound h r.right _ q hq hh
 obtain ⟨-, rfl⟩ := at_unit.1 h2
 exact ⟨h1, (DerS.nont_iff (by omega)).2 ⟨r, hr, hl, h3⟩⟩
theorem begs_rule {g : GramG} {W : List UInt8} {T : TabT} {F : TabF} (h : SoundT g W T) (k : SoundF g W F) {r : RuleG} (hr : r ∈ g.rules) {a : Nat} (hl : r.left = (a : Int)) {p : Nat} (hp : ∀ s ∈ r.right, ∃ x, DerS g [s] x) (hh : begB T F W r.right (unitB W p) = true) : ∃ x, DerS g [(a : Int)] x ∧ W.drop p <+: x := by
 obtain ⟨p0, _, h2, x, hx, hpre⟩ := begs_sound h k r.right _ hp hh
 obtain ⟨-, rfl⟩ := at_unit.1 h2
 exact ⟨x, (DerS.nont_iff (by omega)).2 ⟨r, hr, hl, hx⟩, hpre⟩
theorem valid_syms {g : GramG} (hv : ValidG g) : ∀ r ∈ g.rules, ∀ s ∈ r.right, -256 ≤ s := fun r hr s hs => by
 have h1 := ((hv.rules r hr).2.2.2 s hs).1
 have h2 := hv.syms
 omega
theorem ders_sym {g : GramG} (hv : ValidG g) (hp : ∀ i, i < g.names.length → ProdN g i) {s : Int} (h1 : -256 ≤ s) (h2 : s < (g.names.length : Int)) : ∃ x, DerS g [s] x := by
 by_cases h0 : 0 ≤ s
 ·obtain ⟨a, rfl⟩ := Int.eq_ofNat_of_zero_le h0
  exact prod_ders (valid_syms hv) (hp a (by omega))
 ·have hb : (((UInt8.ofNat (-1 - s).toNat).toNat : Nat) : Int) = -1 - s := by
   rw [UInt8.toNat_ofNat_of_lt' (by show (-1 - s).toNat < 256; omega)]; omega
  exact ⟨_, (DerS.term_iff (by omega)).2 ⟨_, hb, rfl⟩⟩
theorem ders_rule {g : GramG} (hv : ValidG g) (hp : ∀ i, i < g.names.length → ProdN g i) : ∀ r ∈ g.rules, ∀ s ∈ r.right, ∃ x, DerS g [s] x := fun r hr s hs =>
 ders_sym hv hp (valid_syms hv r hr s hs) ((hv.rules r hr).2.2.2 s hs).2
theorem syms_rule {g : GramG} (hv : ValidG g) : ∀ r ∈ g.rules, SymsK g.names.length r.right := fun r hr s hs => ⟨valid_syms hv r hr s hs, ((hv.rules r hr).2.2.2 s hs).2⟩
def RMake (g : GramG) (W : List UInt8) (N : Nat) (w : World) (e : Ending) (w' : World) : Prop := ∃ C T F, e = .returned (.agg C) ∧ C.all (·.oneCell') = true ∧ (∀ (L : List Nat) (wy : World), (∀ r ∈ L, r < w.heap.size) → Fr L w' wy → TabK wy C W N T F) ∧ SoundT g W T ∧ SoundF g W F ∧ ClosedT g W T F ∧ Fr [] w w'
def RMakeG (g : GramG) (gv : Value) (W : List UInt8) (N : Nat) (w : World) (e : Ending) (w' : World) : Prop := ∃ C T F, e = .returned (.agg C) ∧ C.all (·.oneCell') = true ∧ (∀ (L : List Nat) (wy : World), (∀ r ∈ L, r < w.heap.size) → Fr L w' wy → TabK wy C W N T F) ∧ SoundT g W T ∧ SoundF g W F ∧ ClosedT g W T F ∧ Fr [] w w' ∧ ∃ a b c ex fr, gv = .agg #[a, b, c] ∧ C = #[a, b, c, encStr W, ex, fr]
theorem RMakeG.less {g : GramG} {gv : Value} {W : List UInt8} {N : Nat} {w w' : World} {e : Ending} (h : RMakeG g gv W N w e w') : RMake g W N w e w' := by
 obtain ⟨C, T, F, h1, h2, h3, h4, h5, h6, h7, -⟩ := h
 exact ⟨C, T, F, h1, h2, h3, h4, h5, h6, h7⟩
def bit : Value → Nat
 | .bool true => 1
 | _ => 0
section
variable (w2 : World) (g : GramG) (W : List UInt8) (N m qt : Nat) (g0 g1 g2 : Value) (blk : List Nat) (es fs : List Value) (exv frv : Value)
def R3 (mv : Value) (wx : World) : Prop := ∃ (f : Bool) (U : Nat → Nat → Bool), mv = .bool f ∧ RdS w2 wx g W N m qt g0 g1 g2 blk es fs exv frv U ∧ (f = false → UsedTo g W (TU N m U) (FU N m U) g.rules.length)
def R4 (Us : Nat → Nat → Bool) (R : Nat) (mv iv : Value) (wx : World) : Prop := ∃ (i : Nat) (f : Bool) (U : Nat → Nat → Bool), i ≤ R ∧ iv = .int .i64 (i : Int) ∧ mv = .bool f ∧ RdS w2 wx g W N m qt g0 g1 g2 blk es fs exv frv U ∧
 (f = true → cU U blk.length m < cU Us blk.length m) ∧ (f = false → U = Us ∧ UsedTo g W (TU N m Us) (FU N m Us) i)
def R5 (Us : Nat → Nat → Bool) (i : Nat) (r : RuleG) (mv pv : Value) (wx : World) : Prop := ∃ (p : Nat) (f : Bool) (U : Nat → Nat → Bool), p ≤ m ∧ pv = .int .i64 (p : Int) ∧ mv = .bool f ∧ RdS w2 wx g W N m qt g0 g1 g2 blk es fs exv frv U ∧
 (f = true → cU U blk.length m < cU Us blk.length m) ∧ (f = false → U = Us ∧ UsedTo g W (TU N m Us) (FU N m Us) i ∧ ∀ p', p' < p → UsedAt W (TU N m Us) (FU N m Us) r p')
def R6 (Us : Nat → Nat → Bool) (i p : Nat) (r : RuleG) (Ev : Value) (E : List Bool) (mv qv : Value) (wx : World) : Prop := ∃ (q : Nat) (f : Bool) (U : Nat → Nat → Bool), q ≤ m ∧ qv = .int .i64 (q : Int) ∧ mv = .bool f ∧ RdS w2 wx g W N m qt g0 g1 g2 blk es fs exv frv U ∧ boolsAt wx Ev E ∧
 (f = true → cU U blk.length m < cU Us blk.length m) ∧ (f = false → U = Us ∧ UsedTo g W (TU N m Us) (FU N m Us) i ∧ (∀ p', p' < p → UsedAt W (TU N m Us) (FU N m Us) r p') ∧ E = endsB (TU N m Us) W r.right (unitB W p) ∧ ∀ q', q' < q → atB E q' = true → TU N m Us r.left p q' = true)
end
end Go.Proofs.YtnaamjpiaekmeaaGreat
