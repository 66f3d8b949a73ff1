/- The program's disk (layer 11): what it reads as, and what becomes of it when one of its parts changes. -/
import Derived.Test.YtmchnaojlnjmjaaGreatDskOk
import Derived.Test.YtmchnaojlnjmjaaGreatBs
import Derived.Test.YtmchnaojlnjmjaaGreatDirC
import Derived.Test.YtmchnaojlnjmjaaGreatIn
import Derived.Test.YtmchnaojlnjmjaaGreatFt
import Derived.Test.YtmchnaojlnjmjaaGreatDskDid
namespace Go.Proofs.YtmchnaojlnjmjaaGreat
open Go.RowKit Go.Maps

abbrev Fs := List (Option (Nat × Nat))
/-- The file of a number: its block, and that of its bytes. -/
def atFs (fs : Fs) (n : Nat) : Option (Nat × Nat) := fs.getD n none
def fsF (fs : Fs) (k : Int) : Option Nat := if k < 0 then none else (atFs fs k.toNat).map (·.1)
def fsB (fs : Fs) : List Nat := fs.flatMap fun o => match o with | none => [] | some pg => [pg.1, pg.2]
theorem atFs_lt {fs : Fs} {n : Nat} {x : Nat × Nat} (h : atFs fs n = some x) : n < fs.length := by
  unfold atFs at h
  by_cases hn : n < fs.length
  · exact hn
  · rw [List.getD_eq_getElem?_getD, List.getElem?_eq_none (by omega)] at h; cases h
theorem atFs_mem {fs : Fs} {n : Nat} {x : Nat × Nat} (h : atFs fs n = some x) : some x ∈ fs := by
  have hn := atFs_lt h
  unfold atFs at h
  rw [List.getD_eq_getElem?_getD, List.getElem?_eq_getElem hn, Option.getD_some] at h
  exact h ▸ List.getElem_mem hn
theorem fsB_mem {fs : Fs} {j : Nat} : j ∈ fsB fs ↔ ∃ n p g, atFs fs n = some (p, g) ∧ (j = p ∨ j = g) := by
  unfold fsB
  rw [List.mem_flatMap]
  constructor
  · rintro ⟨o, ho, hj⟩
    cases o with
    | none => cases hj
    | some pg =>
      obtain ⟨n, hn, e⟩ := List.getElem_of_mem ho
      refine ⟨n, pg.1, pg.2, ?_, by simpa using hj⟩
      unfold atFs
      rw [List.getD_eq_getElem?_getD, List.getElem?_eq_getElem hn, e]; rfl
  · rintro ⟨n, p, g, h, hj⟩
    exact ⟨_, atFs_mem h, by simpa using hj⟩
theorem atFs_set (fs : Fs) (n i : Nat) (x : Option (Nat × Nat)) (hn : n < fs.length) : atFs (fs.set n x) i = if i = n then x else atFs fs i := by
  unfold atFs
  rw [List.getD_eq_getElem?_getD, List.getD_eq_getElem?_getD, List.getElem?_set]
  by_cases e : i = n
  · subst e; simp [hn]
  · rw [if_neg e, if_neg (fun q => e q.symm)]
theorem atFs_snoc (fs : Fs) (i : Nat) (x : Option (Nat × Nat)) : atFs (fs ++ [x]) i = if i = fs.length then x else atFs fs i := by
  unfold atFs
  rw [List.getD_eq_getElem?_getD, List.getD_eq_getElem?_getD]
  by_cases e : i = fs.length
  · subst e; simp
  · rw [if_neg e, List.getElem?_append]
    split
    · rfl
    · rw [show ([x] : Fs)[i - fs.length]? = none from List.getElem?_eq_none (by simp; omega), show fs[i]? = none from List.getElem?_eq_none (by omega)]
/-- How the parts of the program's disk lie. -/
structure Lay where
  pd : Nat
  bM : Nat
  mD : Nat
  mM : Nat
  Bm : List Nat
  Bd : List Nat
  fs : Fs
  tag : Nat → Nat
def Lay.blocks (L : Lay) (px : Nat) : List Nat := px :: L.bM :: (L.Bm ++ L.Bd ++ fsB L.fs)
def fileN (d : DskD) (n : Nat) : FileD := d.files.getD n f0D
/-- The program's disk at px, its meter at pm. -/
structure PkC (w : World) (px pm : Nat) (L : Lay) (d : DskD) : Prop where
  obj : w.heap[px]? = some (.cells #[.pointer (some ⟨pm, 0, none⟩), .pointer (some ⟨L.pd, 0, none⟩), .map (some L.bM), .int .i64 ((d.files.length : Nat) : Int), .int .i64 d.room] 64 (0, 0))
  mt : isM w pm L.Bm d.steps d.down (liveF d.armed d.steps)
  dr : isD w L.pd L.Bd d.dn d.ds d.ops L.mD
  mp : pmapIs Tryz.prog 3 w L.bM L.mM (fsF L.fs)
  fl : L.fs.length = d.files.length
  fi : ∀ n p g, atFs L.fs n = some (p, g) → isF w p g (fileN d n).now (fileN d n).safe.length
  tx : L.tag px = 2
  tb : L.tag L.bM = 3
  tm : ∀ k ∈ L.Bm, L.tag k = 0
  td : ∀ k ∈ L.Bd, L.tag k = 1
  tf : ∀ n p g, atFs L.fs n = some (p, g) → L.tag p = n + 4 ∧ L.tag g = n + 4
theorem Lay.blocks_iff {L : Lay} {px j : Nat} : j ∈ L.blocks px ↔ j = px ∨ j = L.bM ∨ j ∈ L.Bm ∨ j ∈ L.Bd ∨ ∃ n p g, atFs L.fs n = some (p, g) ∧ (j = p ∨ j = g) := by
  unfold Lay.blocks
  rw [List.mem_cons, List.mem_cons, List.mem_append, List.mem_append, fsB_mem, or_assoc]
theorem PkC.xlt {w : World} {px pm : Nat} {L : Lay} {d : DskD} (h : PkC w px pm L d) : px < w.heap.size := (Array.getElem?_eq_some_iff.1 h.obj).1
theorem PkC.lt {w : World} {px pm : Nat} {L : Lay} {d : DskD} (h : PkC w px pm L d) : ∀ k ∈ L.blocks px, k < w.heap.size := by
  intro k hk
  rcases Lay.blocks_iff.1 hk with rfl | rfl | q | q | ⟨n, p, g, e, rfl | rfl⟩
  · exact h.xlt
  · exact h.mp.lt
  · exact h.mt.lt k q
  · exact h.dr.lt k q
  · exact (h.fi n _ g e).lt.1
  · exact (h.fi n p _ e).lt.2
theorem PkC.kept {w w' : World} {px pm : Nat} {L : Lay} {d : DskD} {Ls : List Nat} (h : PkC w px pm L d) (hf : Fr Ls w w') (hd : ∀ k ∈ L.blocks px, k ∉ Ls) : PkC w' px pm L d :=
  ⟨hf.heap h.obj (hd _ (Lay.blocks_iff.2 (.inl rfl))), h.mt.kept hf (fun k hk => hd k (Lay.blocks_iff.2 (.inr (.inr (.inl hk))))), h.dr.kept hf (fun k hk => hd k (Lay.blocks_iff.2 (.inr (.inr (.inr (.inl hk)))))), h.mp.kept hf (hd _ (Lay.blocks_iff.2 (.inr (.inl rfl)))), h.fl,
    fun n p g e => (h.fi n p g e).kept hf (hd p (Lay.blocks_iff.2 (.inr (.inr (.inr (.inr ⟨n, p, g, e, .inl rfl⟩)))))) (hd g (Lay.blocks_iff.2 (.inr (.inr (.inr (.inr ⟨n, p, g, e, .inr rfl⟩)))))), h.tx, h.tb, h.tm, h.td, h.tf⟩
theorem PkC.below {w w' : World} {px pm : Nat} {L : Lay} {d : DskD} (h : PkC w px pm L d) (hf : Fr [] w w') : PkC w' px pm L d := h.kept hf (by simp)
/-- From one world to another one, in which the disk lies in the same blocks or in new ones. -/
structure Went (px pm : Nat) (L L' : Lay) (d' : DskD) (w w' : World) : Prop where
  pk : PkC w' px pm L' d'
  fr : Fr (L.blocks px) w w'
  new : ∀ j ∈ L'.blocks px, j ∈ L.blocks px ∨ w.heap.size ≤ j
theorem Went.trans {px pm : Nat} {L L1 L2 : Lay} {d1 d2 : DskD} {w w1 w2 : World} (h : Went px pm L L1 d1 w w1) (k : Went px pm L1 L2 d2 w1 w2) : Went px pm L L2 d2 w w2 :=
  ⟨k.pk, h.fr.trans k.fr (fun _ q _ => q) (fun i hi hlt => (h.new i hi).elim id (fun q => by omega)), fun j hj => (k.new j hj).elim (fun q => h.new j q) (fun q => .inr (by have := h.fr.size; omega))⟩
theorem PkC.same {w w' : World} {px pm : Nat} {L : Lay} {d : DskD} (h : PkC w px pm L d) (hf : Fr [] w w') : Went px pm L L d w w' := ⟨h.below hf, hf.mono (by simp), fun _ q => .inl q⟩
theorem Went.before {px pm : Nat} {L L' : Lay} {d' : DskD} {w w1 w' : World} (hf : Fr [] w w1) (h : Went px pm L L' d' w1 w') : Went px pm L L' d' w w' :=
  ⟨h.pk, hf.trans h.fr (by simp) (fun _ q _ => q), fun j hj => (h.new j hj).elim .inl (fun q => .inr (by have := hf.size; omega))⟩
theorem Went.after {px pm : Nat} {L L' : Lay} {d' : DskD} {w w1 w' : World} (h : Went px pm L L' d' w w1) (hf : Fr [] w1 w') : Went px pm L L' d' w w' := h.trans (h.pk.same hf)
def tagUp (tag : Nat → Nat) (N t : Nat) : Nat → Nat := fun k => if k < N then tag k else t
theorem tagUp_old {tag : Nat → Nat} {N t k : Nat} (h : k < N) : tagUp tag N t k = tag k := if_pos h
theorem tagUp_new {tag : Nat → Nat} {N t k : Nat} (h : N ≤ k) : tagUp tag N t k = t := if_neg (by omega)
/-- The meter has changed. -/
theorem PkC.meter {w w' : World} {px pm : Nat} {L : Lay} {d : DskD} (h : PkC w px pm L d) {n : Int} {dn : Bool} {l : List FltD} (ht : TurnedM pm L.Bm n dn l w w') (al : List FltD) (hl : l = liveF al n) :
    ∃ L' : Lay, L'.fs = L.fs ∧ L'.mD = L.mD ∧ L'.mM = L.mM ∧ Went px pm L L' { d with steps := n, down := dn, armed := al } w w' := by
  obtain ⟨Bm, hm, hf, hn⟩ := ht
  subst hl
  have hx : px ∉ L.Bm := fun q => by have := h.tm _ q; rw [h.tx] at this; cases this
  have hb : L.bM ∉ L.Bm := fun q => by have := h.tm _ q; rw [h.tb] at this; cases this
  have hd : ∀ k ∈ L.Bd, k ∉ L.Bm := fun k q r => by have := h.tm _ r; rw [h.td _ q] at this; cases this
  have hfi : ∀ n p g, atFs L.fs n = some (p, g) → p ∉ L.Bm ∧ g ∉ L.Bm := fun n p g e => by
    obtain ⟨e1, e2⟩ := h.tf n p g e
    exact ⟨fun r => by have := h.tm _ r; omega, fun r => by have := h.tm _ r; omega⟩
  refine ⟨{ L with Bm := Bm, tag := tagUp L.tag w.heap.size 0 }, rfl, rfl, rfl, ⟨hf.heap h.obj hx, hm, h.dr.kept hf hd, h.mp.kept hf hb, h.fl, fun n p g e => (h.fi n p g e).kept hf (hfi n p g e).1 (hfi n p g e).2, ?_, ?_, ?_, ?_, ?_⟩, hf.mono (fun k q _ => Lay.blocks_iff.2 (.inr (.inr (.inl q)))), ?_⟩
  · exact (tagUp_old h.xlt).trans h.tx
  · exact (tagUp_old h.mp.lt).trans h.tb
  · intro k hk
    rcases hn k hk with q | q
    · exact (tagUp_old (h.mt.lt k q)).trans (h.tm k q)
    · exact tagUp_new q
  · exact fun k hk => (tagUp_old (h.dr.lt k hk)).trans (h.td k hk)
  · exact fun n p g e => ⟨(tagUp_old (h.fi n p g e).lt.1).trans (h.tf n p g e).1, (tagUp_old (h.fi n p g e).lt.2).trans (h.tf n p g e).2⟩
  · intro j hj
    rcases Lay.blocks_iff.1 hj with q | q | q | q | q
    · exact .inl (Lay.blocks_iff.2 (.inl q))
    · exact .inl (Lay.blocks_iff.2 (.inr (.inl q)))
    · exact (hn j q).elim (fun r => .inl (Lay.blocks_iff.2 (.inr (.inr (.inl r))))) .inr
    · exact .inl (Lay.blocks_iff.2 (.inr (.inr (.inr (.inl q)))))
    · exact .inl (Lay.blocks_iff.2 (.inr (.inr (.inr (.inr q)))))
/-- The directory has changed. -/
theorem PkC.dir {w w' : World} {px pm : Nat} {L : Lay} {d : DskD} (h : PkC w px pm L d) {now safe : List Ent} {ops : List OpD} {m : Nat} (ht : Turned L.pd L.Bd now safe ops m w w') :
    ∃ L' : Lay, L'.fs = L.fs ∧ L'.mD = m ∧ L'.mM = L.mM ∧ Went px pm L L' { d with dn := now, ds := safe, ops := ops } w w' := by
  obtain ⟨Bd, hm, hf, hn⟩ := ht
  have hx : px ∉ L.Bd := fun q => by have := h.td _ q; rw [h.tx] at this; cases this
  have hb : L.bM ∉ L.Bd := fun q => by have := h.td _ q; rw [h.tb] at this; cases this
  have hd : ∀ k ∈ L.Bm, k ∉ L.Bd := fun k q r => by have := h.td _ r; rw [h.tm _ q] at this; cases this
  have hfi : ∀ n p g, atFs L.fs n = some (p, g) → p ∉ L.Bd ∧ g ∉ L.Bd := fun n p g e => by
    obtain ⟨e1, e2⟩ := h.tf n p g e
    exact ⟨fun r => by have := h.td _ r; omega, fun r => by have := h.td _ r; omega⟩
  refine ⟨{ L with Bd := Bd, mD := m, tag := tagUp L.tag w.heap.size 1 }, rfl, rfl, rfl, ⟨hf.heap h.obj hx, h.mt.kept hf hd, hm, h.mp.kept hf hb, h.fl, fun n p g e => (h.fi n p g e).kept hf (hfi n p g e).1 (hfi n p g e).2, ?_, ?_, ?_, ?_, ?_⟩, hf.mono (fun k q _ => Lay.blocks_iff.2 (.inr (.inr (.inr (.inl q))))), ?_⟩
  · exact (tagUp_old h.xlt).trans h.tx
  · exact (tagUp_old h.mp.lt).trans h.tb
  · exact fun k hk => (tagUp_old (h.mt.lt k hk)).trans (h.tm k hk)
  · intro k hk
    rcases hn k hk with q | q
    · exact (tagUp_old (h.dr.lt k q)).trans (h.td k q)
    · exact tagUp_new q
  · exact fun n p g e => ⟨(tagUp_old (h.fi n p g e).lt.1).trans (h.tf n p g e).1, (tagUp_old (h.fi n p g e).lt.2).trans (h.tf n p g e).2⟩
  · intro j hj
    rcases Lay.blocks_iff.1 hj with q | q | q | q | q
    · exact .inl (Lay.blocks_iff.2 (.inl q))
    · exact .inl (Lay.blocks_iff.2 (.inr (.inl q)))
    · exact .inl (Lay.blocks_iff.2 (.inr (.inr (.inl q))))
    · exact (hn j q).elim (fun r => .inl (Lay.blocks_iff.2 (.inr (.inr (.inr (.inl r)))))) .inr
    · exact .inl (Lay.blocks_iff.2 (.inr (.inr (.inr (.inr q)))))
/-- What a file's blocks are apart from. -/
theorem PkC.apart {w : World} {px pm : Nat} {L : Lay} {d : DskD} (h : PkC w px pm L d) {n p g : Nat} (hi : atFs L.fs n = some (p, g)) (k : Nat) (hk : k ∈ [p, g]) : k ≠ px ∧ k ≠ L.bM ∧ k ∉ L.Bm ∧ k ∉ L.Bd ∧ ∀ i q r, atFs L.fs i = some (q, r) → i ≠ n → k ≠ q ∧ k ≠ r := by
  have ht : L.tag k = n + 4 := by
    obtain ⟨e1, e2⟩ := h.tf n p g hi
    simp only [List.mem_cons, List.not_mem_nil, or_false] at hk
    rcases hk with rfl | rfl
    · exact e1
    · exact e2
  refine ⟨fun e => ?_, fun e => ?_, fun e => ?_, fun e => ?_, fun i q r e hne => ⟨fun e2 => ?_, fun e2 => ?_⟩⟩
  · have := h.tx; rw [← e] at this; omega
  · have := h.tb; rw [← e] at this; omega
  · have := h.tm _ e; omega
  · have := h.td _ e; omega
  · have := (h.tf i q r e).1; rw [← e2] at this; omega
  · have := (h.tf i q r e).2; rw [← e2] at this; omega
/-- A file has changed. -/
theorem PkC.file {w w' : World} {px pm : Nat} {L : Lay} {d : DskD} (h : PkC w px pm L d) {n p g g' : Nat} (hi : atFs L.fs n = some (p, g)) (f : FileD) (hF : isF w' p g' f.now f.safe.length) (hf : Fr [p, g] w w') (hg : g' = g ∨ w.heap.size ≤ g') :
    ∃ L' : Lay, L'.fs = L.fs.set n (some (p, g')) ∧ L'.mD = L.mD ∧ L'.mM = L.mM ∧ Went px pm L L' { d with files := d.files.set n f } w w' := by
  have hap := h.apart hi
  have hn := atFs_lt hi
  have hnf : n < d.files.length := by rw [← h.fl]; exact hn
  have hat := fun i => atFs_set L.fs n i (some (p, g')) hn
  have hF2 : fsF (L.fs.set n (some (p, g'))) = fsF L.fs := by
    funext k
    unfold fsF
    rw [hat]
    split
    · rfl
    · split
      · next e => rw [e, hi]; rfl
      · rfl
  have hp := h.fi n p g hi
  refine ⟨{ L with fs := L.fs.set n (some (p, g')), tag := tagUp L.tag w.heap.size (n + 4) }, rfl, rfl, rfl, ⟨?_, h.mt.kept hf (fun k hk hm => (hap k hm).2.2.1 hk), h.dr.kept hf (fun k hk hm => (hap k hm).2.2.2.1 hk), ?_, by simp only [List.length_set]; exact h.fl, ?_, ?_, ?_, ?_, ?_, ?_⟩, hf.mono (fun k hk _ => Lay.blocks_iff.2 (.inr (.inr (.inr (.inr ⟨n, p, g, hi, by simpa using hk⟩))))), ?_⟩
  · have := hf.heap h.obj (fun hm => (hap _ hm).1 rfl)
    simpa only [List.length_set] using this
  · show pmapIs _ _ w' L.bM L.mM (fsF (L.fs.set n (some (p, g'))))
    rw [hF2]
    exact h.mp.kept hf (fun hm => (hap _ hm).2.1 rfl)
  · intro i q r e
    have e' := (hat i).symm.trans e
    by_cases hin : i = n
    · rw [if_pos hin] at e'
      simp only [Option.some.injEq, Prod.mk.injEq] at e'
      obtain ⟨rfl, rfl⟩ := e'
      subst hin
      show isF w' p g' ((d.files.set i f).getD i f0D).now ((d.files.set i f).getD i f0D).safe.length
      rw [List.getD_eq_getElem?_getD, List.getElem?_set_self hnf]
      exact hF
    · rw [if_neg hin] at e'
      have := (h.fi i q r e').kept hf (fun hm => ((hap _ hm).2.2.2.2 i q r e' hin).1 rfl) (fun hm => ((hap _ hm).2.2.2.2 i q r e' hin).2 rfl)
      show isF w' q r ((d.files.set n f).getD i f0D).now ((d.files.set n f).getD i f0D).safe.length
      rw [List.getD_eq_getElem?_getD, List.getElem?_set_ne (fun q => hin q.symm), ← List.getD_eq_getElem?_getD]
      exact this
  · exact (tagUp_old h.xlt).trans h.tx
  · exact (tagUp_old h.mp.lt).trans h.tb
  · exact fun k hk => (tagUp_old (h.mt.lt k hk)).trans (h.tm k hk)
  · exact fun k hk => (tagUp_old (h.dr.lt k hk)).trans (h.td k hk)
  · intro i q r e
    have e' := (hat i).symm.trans e
    by_cases hin : i = n
    · rw [if_pos hin] at e'
      simp only [Option.some.injEq, Prod.mk.injEq] at e'
      obtain ⟨rfl, rfl⟩ := e'
      subst hin
      refine ⟨(tagUp_old hp.lt.1).trans (h.tf i p g hi).1, ?_⟩
      rcases hg with rfl | hg
      · exact (tagUp_old hp.lt.2).trans (h.tf i p _ hi).2
      · exact tagUp_new hg
    · rw [if_neg hin] at e'
      exact ⟨(tagUp_old (h.fi i q r e').lt.1).trans (h.tf i q r e').1, (tagUp_old (h.fi i q r e').lt.2).trans (h.tf i q r e').2⟩
  · intro j hj
    rcases Lay.blocks_iff.1 hj with q | q | q | q | ⟨i, q, r, e, hjj⟩
    · exact .inl (Lay.blocks_iff.2 (.inl q))
    · exact .inl (Lay.blocks_iff.2 (.inr (.inl q)))
    · exact .inl (Lay.blocks_iff.2 (.inr (.inr (.inl q))))
    · exact .inl (Lay.blocks_iff.2 (.inr (.inr (.inr (.inl q)))))
    · have e' := (hat i).symm.trans e
      by_cases hin : i = n
      · rw [if_pos hin] at e'
        simp only [Option.some.injEq, Prod.mk.injEq] at e'
        obtain ⟨rfl, rfl⟩ := e'
        rcases hjj with rfl | rfl
        · exact .inl (Lay.blocks_iff.2 (.inr (.inr (.inr (.inr ⟨n, _, g, hi, .inl rfl⟩)))))
        · rcases hg with rfl | hg
          · exact .inl (Lay.blocks_iff.2 (.inr (.inr (.inr (.inr ⟨n, p, _, hi, .inr rfl⟩)))))
          · exact .inr hg
      · rw [if_neg hin] at e'
        exact .inl (Lay.blocks_iff.2 (.inr (.inr (.inr (.inr ⟨i, q, r, e', hjj⟩)))))
/-- A file is new: it is in the map, and counted. -/
theorem PkC.add {w w1 w' : World} {px pm : Nat} {L : Lay} {d : DskD} (h : PkC w px pm L d) {p g m : Nat} (hF : isF w1 p g [] 0) (hf1 : Fr [] w w1) (hp : w.heap.size ≤ p) (hg : w.heap.size ≤ g) (hm : pmapIs Tryz.prog 3 w' L.bM m (fun j => if j = ((d.files.length : Nat) : Int) then some p else fsF L.fs j)) (hf2 : Fr [L.bM, px] w1 w')
    (hobj : w'.heap[px]? = some (.cells #[.pointer (some ⟨pm, 0, none⟩), .pointer (some ⟨L.pd, 0, none⟩), .map (some L.bM), .int .i64 (((d.files.length + 1 : Nat) : Nat) : Int), .int .i64 d.room] 64 (0, 0))) :
    ∃ L' : Lay, L'.fs = L.fs ++ [some (p, g)] ∧ L'.mD = L.mD ∧ L'.mM = m ∧ Went px pm L L' { d with files := d.files ++ [f0D] } w w' := by
  have hat := fun i => atFs_snoc L.fs i (some (p, g))
  have hbl := h.mp.lt
  have hxl := h.xlt
  have hf : Fr [L.bM, px] w w' := hf1.trans hf2 (by simp) (fun _ q _ => q)
  have hpn : p ∉ [L.bM, px] := by simp; omega
  have hgn : g ∉ [L.bM, px] := by simp; omega
  have hF2 : (fun j => if j = ((d.files.length : Nat) : Int) then some p else fsF L.fs j) = fsF (L.fs ++ [some (p, g)]) := by
    funext k
    unfold fsF
    rw [hat, h.fl]
    by_cases hk : k < 0
    · rw [if_neg (by omega), if_pos hk, if_pos hk]
    · rw [if_neg hk, if_neg hk]
      by_cases e : k = ((d.files.length : Nat) : Int)
      · rw [if_pos e, if_pos (by omega)]; rfl
      · rw [if_neg e, if_neg (by omega)]
  rw [hF2] at hm
  have hmB : ∀ k ∈ L.Bm, k ∉ [L.bM, px] := fun k hk hm => by
    simp only [List.mem_cons, List.not_mem_nil, or_false] at hm
    rcases hm with rfl | rfl
    · have := h.tm _ hk; rw [h.tb] at this; cases this
    · have := h.tm _ hk; rw [h.tx] at this; cases this
  have hdB : ∀ k ∈ L.Bd, k ∉ [L.bM, px] := fun k hk hm => by
    simp only [List.mem_cons, List.not_mem_nil, or_false] at hm
    rcases hm with rfl | rfl
    · have := h.td _ hk; rw [h.tb] at this; cases this
    · have := h.td _ hk; rw [h.tx] at this; cases this
  have hold : ∀ i q r, atFs (L.fs ++ [some (p, g)]) i = some (q, r) → (i = d.files.length ∧ q = p ∧ r = g) ∨ (i ≠ d.files.length ∧ atFs L.fs i = some (q, r)) := fun i q r e => by
    have e' := (hat i).symm.trans e
    rw [h.fl] at e'
    by_cases hin : i = d.files.length
    · rw [if_pos hin] at e'
      simp only [Option.some.injEq, Prod.mk.injEq] at e'
      exact .inl ⟨hin, e'.1.symm, e'.2.symm⟩
    · rw [if_neg hin] at e'
      exact .inr ⟨hin, e'⟩
  refine ⟨{ L with fs := L.fs ++ [some (p, g)], mM := m, tag := tagUp L.tag w.heap.size (d.files.length + 4) }, rfl, rfl, rfl, ⟨?_, h.mt.kept hf hmB, h.dr.kept hf hdB, hm, by simp only [List.length_append, List.length_singleton]; rw [h.fl], ?_, ?_, ?_, ?_, ?_, ?_⟩, hf.mono (fun k hk _ => ?_), ?_⟩
  · simpa only [List.length_append, List.length_singleton] using hobj
  · intro i q r e
    rcases hold i q r e with ⟨rfl, rfl, rfl⟩ | ⟨hin, e'⟩
    · show isF w' _ _ ((d.files ++ [f0D]).getD d.files.length f0D).now ((d.files ++ [f0D]).getD d.files.length f0D).safe.length
      have : (d.files ++ [f0D]).getD d.files.length f0D = f0D := by simp [List.getD_eq_getElem?_getD]
      rw [this]
      exact hF.kept hf2 hpn hgn
    · have hil := atFs_lt e'
      have := h.apart e'
      show isF w' q r ((d.files ++ [f0D]).getD i f0D).now ((d.files ++ [f0D]).getD i f0D).safe.length
      have hgd : (d.files ++ [f0D]).getD i f0D = fileN d i := by
        unfold fileN
        rw [List.getD_eq_getElem?_getD, List.getElem?_append_left (by rw [← h.fl]; exact hil), ← List.getD_eq_getElem?_getD]
      rw [hgd]
      refine (h.fi i q r e').kept hf (fun hm => ?_) (fun hm => ?_)
      · have h1 := this q (by simp); simp only [List.mem_cons, List.not_mem_nil, or_false] at hm; exact hm.elim h1.2.1 h1.1
      · have h1 := this r (by simp); simp only [List.mem_cons, List.not_mem_nil, or_false] at hm; exact hm.elim h1.2.1 h1.1
  · exact (tagUp_old h.xlt).trans h.tx
  · exact (tagUp_old h.mp.lt).trans h.tb
  · exact fun k hk => (tagUp_old (h.mt.lt k hk)).trans (h.tm k hk)
  · exact fun k hk => (tagUp_old (h.dr.lt k hk)).trans (h.td k hk)
  · intro i q r e
    rcases hold i q r e with ⟨rfl, rfl, rfl⟩ | ⟨hin, e'⟩
    · exact ⟨tagUp_new hp, tagUp_new hg⟩
    · exact ⟨(tagUp_old (h.fi i q r e').lt.1).trans (h.tf i q r e').1, (tagUp_old (h.fi i q r e').lt.2).trans (h.tf i q r e').2⟩
  · simp only [List.mem_cons, List.not_mem_nil, or_false] at hk
    exact Lay.blocks_iff.2 (hk.elim (fun q => .inr (.inl q)) .inl)
  · intro j hj
    rcases Lay.blocks_iff.1 hj with q | q | q | q | ⟨i, q, r, e, hjj⟩
    · exact .inl (Lay.blocks_iff.2 (.inl q))
    · exact .inl (Lay.blocks_iff.2 (.inr (.inl q)))
    · exact .inl (Lay.blocks_iff.2 (.inr (.inr (.inl q))))
    · exact .inl (Lay.blocks_iff.2 (.inr (.inr (.inr (.inl q)))))
    · rcases hold i q r e with ⟨rfl, rfl, rfl⟩ | ⟨hin, e'⟩
      · exact .inr (by rcases hjj with rfl | rfl <;> assumption)
      · exact .inl (Lay.blocks_iff.2 (.inr (.inr (.inr (.inr ⟨i, q, r, e', hjj⟩)))))
/-- The files that C names, and no others. -/
def keptFs (fs : Fs) (C : List Ent) : Fs := fs.mapIdx fun i x => if C.any (fun e => decide (e.2 = (i : Int))) then x else none
theorem atFs_kept (fs : Fs) (C : List Ent) (i : Nat) : atFs (keptFs fs C) i = if C.any (fun e => decide (e.2 = (i : Int))) then atFs fs i else none := by
  unfold atFs keptFs
  rw [List.getD_eq_getElem?_getD, List.getD_eq_getElem?_getD, List.getElem?_mapIdx]
  cases fs[i]? with
  | none => simp
  | some x => simp
theorem kept_some {fs : Fs} {C : List Ent} {i : Nat} {x : Nat × Nat} (h : atFs (keptFs fs C) i = some x) : atFs fs i = some x := by
  rw [atFs_kept] at h
  split at h
  · exact h
  · cases h
/-- The map is another one, with some of the files. -/
theorem PkC.part {w w1 w' : World} {px pm : Nat} {L : Lay} {d : DskD} (h : PkC w px pm L d) {b m : Nat} (C : List Ent) (hm : pmapIs Tryz.prog 3 w1 b m (fsF (keptFs L.fs C))) (hf1 : Fr [] w w1) (hb : w.heap.size ≤ b) (hf2 : Fr [px] w1 w')
    (hobj : w'.heap[px]? = some (.cells #[.pointer (some ⟨pm, 0, none⟩), .pointer (some ⟨L.pd, 0, none⟩), .map (some b), .int .i64 ((d.files.length : Nat) : Int), .int .i64 d.room] 64 (0, 0))) :
    ∃ L' : Lay, L'.fs = keptFs L.fs C ∧ L'.mD = L.mD ∧ L'.mM = m ∧ Went px pm L L' d w w' := by
  have hxl := h.xlt
  have hf : Fr [px] w w' := hf1.trans hf2 (by simp) (fun _ q _ => q)
  have hmB : ∀ k ∈ L.Bm, k ∉ [px] := fun k hk hm => by
    obtain rfl : k = px := by simpa using hm
    have := h.tm _ hk; rw [h.tx] at this; cases this
  have hdB : ∀ k ∈ L.Bd, k ∉ [px] := fun k hk hm => by
    obtain rfl : k = px := by simpa using hm
    have := h.td _ hk; rw [h.tx] at this; cases this
  refine ⟨{ L with fs := keptFs L.fs C, bM := b, mM := m, tag := tagUp L.tag w.heap.size 3 }, rfl, rfl, rfl, ⟨hobj, h.mt.kept hf hmB, h.dr.kept hf hdB, hm.kept hf2 (by simp; omega), by simp only [keptFs, List.length_mapIdx]; exact h.fl, ?_, ?_, ?_, ?_, ?_, ?_⟩, hf.mono (fun k hk _ => ?_), ?_⟩
  · intro i q r e
    have e' := kept_some e
    have := h.apart e'
    exact (h.fi i q r e').kept hf (fun hm => (this q (by simp)).1 (by simpa using hm)) (fun hm => (this r (by simp)).1 (by simpa using hm))
  · exact (tagUp_old h.xlt).trans h.tx
  · exact tagUp_new hb
  · exact fun k hk => (tagUp_old (h.mt.lt k hk)).trans (h.tm k hk)
  · exact fun k hk => (tagUp_old (h.dr.lt k hk)).trans (h.td k hk)
  · intro i q r e
    have e' := kept_some e
    exact ⟨(tagUp_old (h.fi i q r e').lt.1).trans (h.tf i q r e').1, (tagUp_old (h.fi i q r e').lt.2).trans (h.tf i q r e').2⟩
  · simp only [List.mem_cons, List.not_mem_nil, or_false] at hk
    exact Lay.blocks_iff.2 (.inl hk)
  · intro j hj
    rcases Lay.blocks_iff.1 hj with q | q | q | q | ⟨i, q, r, e, hjj⟩
    · exact .inl (Lay.blocks_iff.2 (.inl q))
    · exact .inr (by rw [q]; exact hb)
    · exact .inl (Lay.blocks_iff.2 (.inr (.inr (.inl q))))
    · exact .inl (Lay.blocks_iff.2 (.inr (.inr (.inr (.inl q)))))
    · exact .inl (Lay.blocks_iff.2 (.inr (.inr (.inr (.inr ⟨i, q, r, kept_some e, hjj⟩)))))
/-- The numbers that a name has, may have had, or may get. -/
def reachK (d : DskD) (n : Int) : Prop := (∃ e ∈ d.dn, e.2 = n) ∨ (∃ e ∈ d.ds, e.2 = n) ∨ ∃ o ∈ d.ops, o.kind = 0 ∧ o.n = n
structure LayOk (L : Lay) (d : DskD) : Prop where
  re : ∀ n, reachK d n → (atFs L.fs n.toNat).isSome
  md : (L.mD : Int) ≤ d.steps
  mm : (L.mM : Int) ≤ d.steps
  nl : ((d.dn.length : Nat) : Int) ≤ d.steps
  sl : ((d.ds.length + d.ops.length : Nat) : Int) ≤ d.steps
  rm : 0 ≤ d.room ∧ d.room ≤ 9223372036854775807
/-- The program's disk at px, its meter at pm, reads as d, in the blocks B. -/
def PK (w : World) (px pm : Nat) (d : DskD) (B : List Nat) : Prop := ∃ L : Lay, PkC w px pm L d ∧ LayOk L d ∧ B = L.blocks px
theorem pk_kept {w w' : World} {px pm : Nat} {d : DskD} {B L : List Nat} (h : PK w px pm d B) (hf : Fr L w w') (hB : ∀ k ∈ B, k ∉ L) : PK w' px pm d B := by
  obtain ⟨Y, h1, h2, rfl⟩ := h
  exact ⟨Y, h1.kept hf hB, h2, rfl⟩
theorem pk_lt {w : World} {px pm : Nat} {d : DskD} {B : List Nat} (h : PK w px pm d B) : ∀ k ∈ B, k < w.heap.size := by
  obtain ⟨Y, h1, h2, rfl⟩ := h
  exact h1.lt
theorem pk_met {w : World} {px pm : Nat} {d : DskD} {B : List Nat} (h : PK w px pm d B) : w.cell? ⟨px, 0, none⟩ = some (.pointer (some ⟨pm, 0, none⟩)) := by
  obtain ⟨Y, h1, h2, rfl⟩ := h
  rw [cell_of_heap h1.obj]; rfl
theorem did_mk {px pm : Nat} {L L' : Lay} {d' : DskD} {w w' : World} {v : Value} (h : Went px pm L L' d' w w') (hL : LayOk L' d') : DidK PK px pm d' v (L.blocks px) w (.returned v) w' := ⟨_, rfl, ⟨L', h.pk, hL, rfl⟩, h.fr, h.new⟩
/-- The cells of the object. -/
theorem PkC.cells {w : World} {px pm : Nat} {L : Lay} {d : DskD} (h : PkC w px pm L d) : w.cell? ⟨px, 0, none⟩ = some (.pointer (some ⟨pm, 0, none⟩)) ∧ w.cell? ⟨px, 1, none⟩ = some (.pointer (some ⟨L.pd, 0, none⟩)) ∧ w.cell? ⟨px, 2, none⟩ = some (.map (some L.bM)) ∧
    w.cell? ⟨px, 3, none⟩ = some (.int .i64 ((d.files.length : Nat) : Int)) ∧ w.cell? ⟨px, 4, none⟩ = some (.int .i64 d.room) ∧ w.frozen? ⟨px, 2, none⟩ = false ∧ w.frozen? ⟨px, 3, none⟩ = false :=
  ⟨by rw [cell_of_heap h.obj]; rfl, by rw [cell_of_heap h.obj]; rfl, by rw [cell_of_heap h.obj]; rfl, by rw [cell_of_heap h.obj]; rfl, by rw [cell_of_heap h.obj]; rfl, free_of_heap h.obj _, free_of_heap h.obj _⟩
end Go.Proofs.YtmchnaojlnjmjaaGreat
