/- Package dir: the object; Get, has, Pending, New. -/
import Derived.Test.YtmchnaojlnjmjaaGreatDirA
import Derived.Test.YtmchnaojlnjmjaaGreatBs
namespace Go.Proofs.YtmchnaojlnjmjaaGreat
open Go.RowKit Go.Maps

/-- Operations, as the program's cells. -/
def OpD.pcells (o : OpD) : List Value := [.int .i64 o.kind, encStr o.a, encStr o.b, .int .i64 o.n]
/-- One behind the other they can be done. -/
def seqOk : List Ent → List OpD → Prop
  | _, [] => True
  | l, o :: r => okOp l o ∧ seqOk (applyL l o) r
theorem seqOk_snoc : ∀ (l : List Ent) (r : List OpD) (o : OpD), seqOk l r → okOp (r.foldl applyL l) o → seqOk l (r ++ [o])
  | _, [], _, _, h => ⟨h, trivial⟩
  | l, p :: r, o, h, h2 => ⟨h.1, seqOk_snoc (applyL l p) r o h.2 h2⟩
theorem seqOk_at : ∀ (l : List Ent) (r : List OpD) (k : Nat) (hk : k < r.length), seqOk l r → okOp ((r.take k).foldl applyL l) (r[k]'hk)
  | _, [], _, h, _ => by simp at h
  | l, p :: r, 0, _, h => h.1
  | l, p :: r, k + 1, hk, h => by simpa using seqOk_at (applyL l p) r k (by simpa using hk) h.2

/-- The directory at p: the blocks it lies in, its names, the durable ones, what is pending. -/
def isD (w : World) (p : Nat) (B : List Nat) (now safe : List Ent) (ops : List OpD) (m : Nat) : Prop :=
  ∃ bN bS pv m2, B = p :: bN :: bS :: pv.ownBlock.toList ∧ w.heap[p]? = some (.cells #[.map (some bN), .map (some bS), pv] 101 (0, 0)) ∧ mapIs w bN m now ∧ mapIs w bS m2 safe ∧ m2 + ops.length ≤ m ∧
    w.ownsRow 0 122 4 pv ops.length (ops.map OpD.pcells).flatten ∧ bN ≠ bS ∧ seqOk safe ops ∧ now = ops.foldl applyL safe
theorem isD.kept {w w' : World} {p m : Nat} {B : List Nat} {now safe : List Ent} {ops : List OpD} {L : List Nat} (h : isD w p B now safe ops m) (hf : Fr L w w') (hd : ∀ k ∈ B, k ∉ L) : isD w' p B now safe ops m := by
  obtain ⟨bN, bS, pv, m2, hB, hp, hN, hS, hm, ho, r⟩ := h
  subst hB
  exact ⟨bN, bS, pv, m2, rfl, hf.heap hp (hd _ (by simp)), hN.kept hf (hd _ (by simp)), hS.kept hf (hd _ (by simp)), hm, owns_kept ho hf (fun k hk => hd k (by simp [hk])), r⟩
theorem isD.below {w w' : World} {p m : Nat} {B : List Nat} {now safe : List Ent} {ops : List OpD} (h : isD w p B now safe ops m) (hf : Fr [] w w') : isD w' p B now safe ops m := h.kept hf (by simp)
theorem isD.mono {w : World} {p m m' : Nat} {B : List Nat} {now safe : List Ent} {ops : List OpD} (h : isD w p B now safe ops m) (hm : m ≤ m') : isD w p B now safe ops m' := by
  obtain ⟨bN, bS, pv, m2, hB, hp, hN, hS, hm2, r⟩ := h
  exact ⟨bN, bS, pv, m2, hB, hp, hN.mono hm, hS, by omega, r⟩
theorem isD.lt {w : World} {p m : Nat} {B : List Nat} {now safe : List Ent} {ops : List OpD} (h : isD w p B now safe ops m) : ∀ k ∈ B, k < w.heap.size := by
  obtain ⟨bN, bS, pv, m2, rfl, hp, hN, hS, hm2, ho, r⟩ := h
  intro k hk
  simp only [List.mem_cons, Option.mem_toList] at hk
  rcases hk with rfl | rfl | rfl | hk
  · exact (Array.getElem?_eq_some_iff.1 hp).1
  · exact hN.lt
  · exact hS.lt
  · exact (ho.lt k hk).2
/-- Of what kind its blocks are. -/
theorem isD.kinds {w : World} {p m : Nat} {B : List Nat} {now safe : List Ent} {ops : List OpD} (h : isD w p B now safe ops m) : ∀ k ∈ B, (∃ es c, w.heap[k]? = some (.map es c)) ∨ (∃ cs fr, w.heap[k]? = some (.cells cs 101 fr)) ∨ (∃ cs fr, w.heap[k]? = some (.cells cs 122 fr)) := by
  obtain ⟨bN, bS, pv, m2, rfl, hp, hN, hS, hm2, ho, r⟩ := h
  intro k hk
  simp only [List.mem_cons, Option.mem_toList] at hk
  rcases hk with rfl | rfl | rfl | hk
  · exact .inr (.inl ⟨_, _, hp⟩)
  · exact .inl hN.heap
  · exact .inl hS.heap
  · rcases ho.2 with ⟨rfl, _⟩ | ⟨g, cap, cur, rfl, _, hg, _⟩
    · cases hk
    · cases hk; exact .inr (.inr ⟨_, _, hg⟩)
/-- A block of another kind is none of its blocks. -/
theorem isD.apart {w : World} {p m : Nat} {B : List Nat} {now safe : List Ent} {ops : List OpD} (h : isD w p B now safe ops m) {k : Nat} {cs : Array Value} {t : TypeId} {fr : Nat × Nat} (hk : w.heap[k]? = some (.cells cs t fr)) (h1 : t ≠ 101) (h2 : t ≠ 122) : k ∉ B := by
  intro hm
  rcases h.kinds k hm with ⟨es, c, h3⟩ | ⟨cs', fr', h3⟩ | ⟨cs', fr', h3⟩
  · rw [hk] at h3; cases h3
  · rw [hk] at h3; simp only [Option.some.injEq, Obj.cells.injEq] at h3; exact h1 h3.2.1
  · rw [hk] at h3; simp only [Option.some.injEq, Obj.cells.injEq] at h3; exact h2 h3.2.1
theorem isD.sorted {w : World} {p m : Nat} {B : List Nat} {now safe : List Ent} {ops : List OpD} (h : isD w p B now safe ops m) : now = ops.foldl applyL safe := by
  obtain ⟨bN, bS, pv, m2, hB, hp, hN, hS, hm2, ho, _, _, r⟩ := h
  exact r

def Newd (w : World) (e : Ending) (w' : World) : Prop := ∃ p B, e = .returned (.pointer (some ⟨p, 0, none⟩)) ∧ isD w' p B [] [] [] 0 ∧ Fr [] w w' ∧ ∀ k ∈ B, w.heap.size ≤ k
set_option maxRecDepth 100000 in
theorem dnew_any (w : World) : Calls Tryz.prog 20 #[] w (Newd w) := by
  have hmm := @run_makeMap Tryz.prog
  go_enter Tryz.func20, Tryz.ntmps20
  go_wp2_with fail
  go_ret
  have hM1 := World.ownsMap_made (H := Unit) w Tryz.prog 9 (plainElem Tryz.prog 3)
  have hM2 := World.ownsMap_made (H := Unit) (w.alloc (.map #[] 0)) Tryz.prog 9 (plainElem Tryz.prog 3)
  have hE : ∀ x (zd : DataW Unit), (DataW.map []).atKey (.string x) zd = atL (lookL [] x) zd := fun x zd => rfl
  refine ⟨_, [w.heap.size + 1 + 1, w.heap.size, w.heap.size + 1], rfl, ⟨w.heap.size, w.heap.size + 1, .slice none 0 0, 0, by simp [Value.ownBlock], ?_, ⟨_, (hM1.alloc _).alloc _, hE⟩, ?_, by simp, World.ownsRow_nil _ _ _ _, by omega, trivial, rfl⟩, ?_, by simp; omega⟩
  · have := heap_alloc_new ((w.alloc (.map #[] 0)).alloc (.map #[] 0)) (.cells #[.map (some w.heap.size), .map (some (w.heap.size + 1)), .slice none 0 0] 101)
    simpa using this
  · have := (hM2.alloc (.cells #[.map (some w.heap.size), .map (some (w.heap.size + 1)), .slice none 0 0] 101))
    rw [World.size_alloc] at this
    exact ⟨_, this, hE⟩
  · exact ((Fr.alloc _ _).trans (Fr.alloc _ _) (by simp) (n := []) (by simp)).trans (Fr.alloc _ _) (by simp) (by simp)

/-- What Get gives. -/
def numL (l : List Ent) (x : List UInt8) : Int := (lookL l x).getD 0
theorem dget_any (p m : Nat) (B : List Nat) (now safe : List Ent) (ops : List OpD) (x : List UInt8) (w : World) (h : isD w p B now safe ops m) (hx : x.length ≤ maxLen) :
    Calls Tryz.prog 72 #[.pointer (some ⟨p, 0, none⟩), encStr x] w fun e w' => e = .returned (.tuple #[.int .i64 (numL now x), .bool (lookL now x).isSome]) ∧ w = w' := by
  obtain ⟨bN, bS, pv, m2, hB, hp, ⟨D, hown, hat⟩, -⟩ := h
  obtain ⟨c0, c1, c2, f0, f1, f2⟩ := three_of_heap hp
  have hka := hkeyS x hx
  have hh := has_is hat x
  have ha := hat x (.lit (.int .i64 0))
  obtain ⟨b, hb⟩ : ∃ b, b = (lookL now x).isSome := ⟨_, rfl⟩
  rw [← hb] at hh ⊢
  have HA := Lib.hid ha
  have HH := Lib.hid hh
  clear hh ha hb hat hp hB
  go_enter Tryz.func72, Tryz.ntmps72
  go_wp2_with (at_lookup; refine wpList_lookup_own_ok_int _ rfl _ _ 98 rfl 9 3 .i64 lawS Tryz.underlying98 Tryz.underlying3 (zeroI _) bN m D rfl hown _ _ rfl hka ?_; intro c hatc hwc)
  go_ret2
  have hc : c = numL now x := by
    have := hatc.symm.trans HA.out
    unfold numL
    cases hl : lookL now x with
    | none => rw [hl] at this; simpa [atL] using this
    | some v => rw [hl] at this; simpa [atL] using this
  rw [hc, HH.out]
  exact ⟨rfl, rfl⟩
theorem dhas_any (p m : Nat) (B : List Nat) (now safe : List Ent) (ops : List OpD) (x : List UInt8) (w : World) (h : isD w p B now safe ops m) (hx : x.length ≤ maxLen) :
    Calls Tryz.prog 76 #[.pointer (some ⟨p, 0, none⟩), encStr x] w fun e w' => e = .returned (.bool (lookL now x).isSome) ∧ w = w' := by
  have HG := Lib.hid (dget_any p m B now safe ops x w h hx)
  obtain ⟨b, hb⟩ : ∃ b, b = (lookL now x).isSome := ⟨_, rfl⟩
  rw [← hb] at HG ⊢
  clear h hb
  go_enter Tryz.func76, Tryz.ntmps76
  go_wp2_with (go_at_call 72; refine HG.out.mono ?_; rintro e w1 ⟨rfl, rfl⟩)
  go_ret
  exact ⟨rfl, rfl⟩
theorem dpending_any (p m : Nat) (B : List Nat) (now safe : List Ent) (ops : List OpD) (w : World) (h : isD w p B now safe ops m) :
    Calls Tryz.prog 71 #[.pointer (some ⟨p, 0, none⟩)] w fun e w' => e = .returned (.int .i64 (ops.length : Nat)) ∧ w = w' := by
  obtain ⟨bN, bS, pv, m2, hB, hp, -, -, -, ho, -⟩ := h
  obtain ⟨a, cap, rfl, -, -⟩ := owns_slice ho
  obtain ⟨c0, c1, c2, f0, f1, f2⟩ := three_of_heap hp
  obtain ⟨n, hn⟩ : ∃ n, n = ops.length := ⟨_, rfl⟩
  rw [← hn] at c2 ⊢
  clear ho hp hB hn
  go_enter Tryz.func71, Tryz.ntmps71
  go_wp2_with fail
  go_ret
  exact ⟨rfl, rfl⟩
end Go.Proofs.YtmchnaojlnjmjaaGreat
