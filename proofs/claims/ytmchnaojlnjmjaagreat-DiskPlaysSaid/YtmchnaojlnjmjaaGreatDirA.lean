/- Package dir: what the objects read as; (operation).apply, Get, has, Pending. -/
import Derived.Test.YtmchnaojlnjmjaaGreatBs
import Derived.Test.YtmchnaojlnjmjaaGreatDirMath
import Derived.Maps.OwnSet
import Derived.StringKeys
import Derived.Sort.EncStr
namespace Go.Proofs.YtmchnaojlnjmjaaGreat
open Go.RowKit Go.Maps

theorem lawS : Keyed Tryz.prog 9 := string_keyed Tryz.underlying9
theorem zeroI (w : World) : (zeroValue 3).run Tryz.prog w = .ok (.int .i64 0) w := by kernel_rfl

/-- What stands at a key, as the reader says it. -/
def atL (x : Option Int) (zd : DataW Unit) : DataW Unit := match x with | some v => .lit (.int .i64 v) | none => zd
/-- The map in block b, of at most m entries, reads as the list. -/
def mapIs (w : World) (b m : Nat) (l : List Ent) : Prop := ∃ D : DataW Unit, w.ownsMap Tryz.prog 9 (plainElem Tryz.prog 3) b m D ∧ ∀ x zd, D.atKey (.string x) zd = atL (lookL l x) zd

theorem mapIs.lt {w : World} {b m : Nat} {l : List Ent} (h : mapIs w b m l) : b < w.heap.size := by
  obtain ⟨D, h, _⟩ := h
  exact h.lt
theorem mapIs.mono {w : World} {b m m' : Nat} {l : List Ent} (h : mapIs w b m l) (hm : m ≤ m') : mapIs w b m' l := by
  obtain ⟨D, h, h2⟩ := h
  exact ⟨D, h.mono hm, h2⟩
theorem mapIs.heap {w : World} {b m : Nat} {l : List Ent} (h : mapIs w b m l) : ∃ es c, w.heap[b]? = some (.map es c) := by
  obtain ⟨D, ⟨es, c, h, _⟩, _⟩ := h
  exact ⟨es, c, h⟩
theorem mapIs.kept {w w' : World} {b m : Nat} {l : List Ent} {L : List Nat} (h : mapIs w b m l) (hf : Fr L w w') (hb : b ∉ L) : mapIs w' b m l := by
  obtain ⟨D, ⟨es, c, hh, r⟩, h2⟩ := h
  exact ⟨D, ⟨es, c, hf.heap hh hb, r⟩, h2⟩
theorem mapIs.below {w w' : World} {b m : Nat} {l : List Ent} (h : mapIs w b m l) (hf : Fr [] w w') : mapIs w' b m l := h.kept hf (by simp)
theorem str_ne {x a : List UInt8} (h : x ≠ a) : (Lit.string x) ≠ .string a := fun e => h (by cases e; rfl)
theorem put_is {D : DataW Unit} {l : List Ent} (hD : IsMap D) (h : ∀ x zd, D.atKey (.string x) zd = atL (lookL l x) zd) (a : List UInt8) (n : Int) : ∀ x zd, (D.put (.string a) (.lit (.int .i64 n))).atKey (.string x) zd = atL (lookL (withL l a n) x) zd := by
  intro x zd
  rw [look_with]
  by_cases e : x = a
  · subst e
    rw [if_pos rfl, atKey_put_same hD (by trivial)]
    rfl
  · rw [if_neg e, atKey_put_other (str_ne e), h]
theorem del_is {D : DataW Unit} {l : List Ent} (h : ∀ x zd, D.atKey (.string x) zd = atL (lookL l x) zd) (a : List UInt8) : ∀ x zd, (D.del (.string a)).atKey (.string x) zd = atL (lookL (withoutL l a) x) zd := by
  intro x zd
  rw [look_without]
  by_cases e : x = a
  · subst e
    rw [if_pos rfl, atKey_del_same]
    rfl
  · rw [if_neg e, atKey_del_other (str_ne e), h]
theorem has_is {D : DataW Unit} {l : List Ent} (h : ∀ x zd, D.atKey (.string x) zd = atL (lookL l x) zd) (x : List UInt8) : Maps.has D (.string x) = (lookL l x).isSome := by
  cases hl : lookL l x with
  | none => exact has_false_of_atKey (fun z => by rw [h, hl]; rfl)
  | some v => exact has_true_of_atKey (y := .lit (.int .i64 v)) (fun z => by rw [h, hl]; rfl)

/-- An operation, as the program has it. -/
def OpD.pval (o : OpD) : Value := .agg #[.int .i64 o.kind, encStr o.a, encStr o.b, .int .i64 o.n]
def OpD.fit (o : OpD) : Prop := o.a.length ≤ maxLen ∧ o.b.length ≤ maxLen ∧ (Lit.int .i64 o.n).wf = true
/-- It can be done. -/
def okOp (l : List Ent) (o : OpD) : Prop := o.fit ∧ (o.kind = 0 ∨ o.kind = 1 ∨ (o.kind = 2 ∧ o.a ≠ o.b ∧ ∃ v, lookL l o.a = some v))

theorem hkeyS (a : List UInt8) (h : a.length ≤ maxLen) : keyOf Tryz.prog 9 (encStr a) = some (.string a) := by
  have := WideMaps.keyOf_string_mk (P := Tryz.prog) (k := 9) (s := ⟨a.toArray⟩) Tryz.underlying9 (by simpa [ByteArray.size] using h)
  simpa using this
def Applied (b m : Nat) (l : List Ent) (w : World) (e : Ending) (w' : World) : Prop := e = .returned (.tuple #[]) ∧ mapIs w' b m l ∧ Fr [b] w w'

set_option maxRecDepth 100000 in
theorem opapply_any (o : OpD) (b m : Nat) (l : List Ent) (w : World) (hm : mapIs w b m l) (ho : okOp l o) (hmx : m + 1 < maxLen) :
    Calls Tryz.prog 91 #[o.pval, .map (some b)] w (Applied b (m + 1) (applyL l o) w) := by
  obtain ⟨kind, a, c, n⟩ := o
  obtain ⟨⟨h1, h2, h3⟩, hk⟩ := ho
  obtain ⟨D, hown, hat⟩ := hm
  simp only at h1 h2 h3 hk
  unfold OpD.pval
  simp only
  have hka := hkeyS a h1
  have hkc := hkeyS c h2
  rcases hk with rfl | rfl | ⟨rfl, hne, v, hv⟩
  · obtain ⟨L, hL⟩ : ∃ L, L = applyL l ⟨0, a, c, n⟩ := ⟨_, rfl⟩
    have HL := Lib.hid hL
    have hA := put_is hown.isMap hat a n
    rw [show withL l a n = L from by rw [hL]; rfl] at hA
    have HA := Lib.hid hA
    rw [← hL]
    clear hL hA hat
    go_enter Tryz.func91, Tryz.ntmps91
    go_wp2_with (at_mapUpdate; refine wpList_mapUpdate_own _ rfl _ _ _ 98 rfl 9 3 lawS Tryz.underlying98 _ b m D rfl (hown.alloc _) (by omega) _ _ _ rfl rfl hka _ [] (plainElem_int Tryz.underlying3 h3) ?_; intro w1 hown1 hgrow1)
    go_end0
    exact ⟨rfl, ⟨_, hown1, HA.out⟩, (Fr.alloc _ _).trans (Fr.of_grown hgrow1) (by simp) (by simp)⟩
  · obtain ⟨L, hL⟩ : ∃ L, L = applyL l ⟨1, a, c, n⟩ := ⟨_, rfl⟩
    have hA := del_is hat a
    rw [show withoutL l a = L from by rw [hL]; rfl] at hA
    have HA := Lib.hid hA
    rw [← hL]
    clear hL hA hat
    go_enter Tryz.func91, Tryz.ntmps91
    go_wp2_with (at_delete; refine wpList_delete_own _ rfl _ _ 98 9 rfl 3 lawS Tryz.underlying98 _ b m D rfl (hown.alloc _) _ _ rfl hka ?_; intro w1 hown1 hturn1)
    go_end0
    exact ⟨rfl, ⟨_, hown1.mono (by omega), HA.out⟩, (Fr.alloc _ _).trans (Fr.of_grown hturn1.grown) (by simp) (by simp)⟩
  · have hblt := hown.lt
    obtain ⟨L, hL⟩ : ∃ L, L = applyL l ⟨2, a, c, n⟩ := ⟨_, rfl⟩
    have hLL : ∀ x, lookL L x = lookL (withoutL (withL l c v) a) x := by
      intro x
      rw [hL, look_apply, look_without, look_with]
      simp only [hv]
      by_cases e1 : x = c
      · subst e1
        rw [if_neg (by decide), if_neg (by decide), if_pos rfl, if_neg (Ne.symm hne), if_pos rfl]
      · by_cases e2 : x = a
        · rw [if_neg (by decide), if_neg (by decide), if_neg e1, if_pos e2, if_pos e2]
        · rw [if_neg (by decide), if_neg (by decide), if_neg e1, if_neg e2, if_neg e2, if_neg e1]
    have hvD := hat a (.lit (.int .i64 0))
    rw [hv] at hvD
    have HV := Lib.hid hvD
    have HA : Hid (∀ x zd, ((D.put (.string c) (.lit (.int .i64 v))).del (.string a)).atKey (.string x) zd = atL (lookL (withoutL (withL l c v) a) x) zd) := Lib.hid (del_is (put_is hown.isMap hat c v) a)
    have HLL := Lib.hid hLL
    have HNE := Lib.hid hne
    rw [← hL]
    clear hL hLL hat hvD hv hne
    go_enter Tryz.func91, Tryz.ntmps91
    go_wp2_with (first
      | (at_lookup; refine wpList_lookup_own_int _ rfl _ _ 98 rfl 9 3 .i64 lawS Tryz.underlying98 Tryz.underlying3 (zeroI _) b m D rfl (hown.alloc _) _ _ rfl hka ?_; intro c1 hat1 hwc1)
      | (at_mapUpdate; refine wpList_mapUpdate_own _ rfl _ _ _ 98 rfl 9 3 lawS Tryz.underlying98 _ b m D rfl (hown.alloc _) (by omega) _ _ _ rfl rfl hkc _ [] (plainElem_int Tryz.underlying3 hwc1) ?_; intro w1 hown1 hgrow1; have hcl1 : w1.cell? ⟨w.heap.size, 1, none⟩ = some (encStr a) := (Fr.of_grown hgrow1).cell (v := encStr a) (by rw [cell_of_heap (heap_alloc_new w _)]; rfl) (by simp; omega))
      | (at_delete; refine wpList_delete_own _ rfl _ _ 98 9 rfl 3 lawS Tryz.underlying98 _ b (m + 1) _ rfl hown1 _ _ rfl hka ?_; intro w2 hown2 hturn2))
    go_end0
    have hc1 : c1 = v := by
      have := hat1.symm.trans HV.out
      simpa [atL] using this
    subst hc1
    refine ⟨rfl, ⟨_, hown2, fun x zd => ?_⟩, ((Fr.alloc _ _).trans (Fr.of_grown hgrow1) (by simp) (n := [b]) (by simp)).trans (Fr.of_grown hturn2.grown) (by simp) (by simp)⟩
    rw [HA.out, HLL.out]
end Go.Proofs.YtmchnaojlnjmjaaGreat
