/- Several texts in one: FaultMath, FltA, FltB, FltC, FltD, FltE, FltF, FltG, FltH, FltI. -/
import Derived.LoopTactic
import Derived.Lib.SliceRun
import Derived.Test.YtmchnaojlnjmjaaGreatBs
/-! Plain mathematics of meters and armed faults (layer 10). Nothing here names the program. -/
namespace Go.Proofs.YtmchnaojlnjmjaaGreat

/-- A fault: the step for which it is armed (counted from the start), its kind. -/
structure FltD where
  at_ : Int
  kind : Int
/-- Which fault counts at a step: the one armed first. -/
def hitF (l : List FltD) (t : Int) : Option FltD := l.find? fun f => f.at_ == t
/-- What a step comes to, by the number of the error that a crash gives. -/
def codeF (ed : Int) : Option FltD → Int
  | none => 0
  | some f => if f.kind = 1 then ed else f.kind + 7
/-- The faults armed for future steps, counted from now. -/
def futureF (l : List FltD) (n : Int) : List FltD := (l.filter fun f => decide (n < f.at_)).map fun f => ⟨f.at_ - n, f.kind⟩
theorem hitF_cons (f : FltD) (l : List FltD) (t : Int) : hitF (f :: l) t = if f.at_ = t then some f else hitF l t := by
  unfold hitF
  rw [List.find?_cons]
  by_cases h : f.at_ = t
  · rw [if_pos h, show (f.at_ == t) = true from by rw [h]; simp]
  · rw [if_neg h, show (f.at_ == t) = false from by rw [beq_eq_false_iff_ne]; exact h]
/-- From the last to the first, each that strikes in the place of the one before: it is the first that counts. -/
theorem hitF_drop (l : List FltD) (t : Int) (k : Nat) (hk : k < l.length) : hitF (l.drop k) t = if (l[k]'hk).at_ = t then some (l[k]'hk) else hitF (l.drop (k + 1)) t := by
  rw [List.drop_eq_getElem_cons hk, hitF_cons]
theorem hitF_append (l m : List FltD) (t : Int) : hitF (l ++ m) t = (hitF l t).or (hitF m t) := by
  unfold hitF; rw [List.find?_append]
theorem futureF_append (l m : List FltD) (n : Int) : futureF (l ++ m) n = futureF l n ++ futureF m n := by
  unfold futureF; rw [List.filter_append, List.map_append]
/-- What is past strikes no more and is not told: it may be forgotten. -/
theorem hitF_past (l : List FltD) (n t : Int) (h : n < t) : hitF (l.filter fun f => decide (n < f.at_)) t = hitF l t := by
  unfold hitF
  induction l with
  | nil => rfl
  | cons f r ih =>
    rw [List.filter_cons]
    by_cases q : n < f.at_
    · rw [if_pos (by simpa using q), List.find?_cons, List.find?_cons, ih]
    · rw [if_neg (by simpa using q), ih, List.find?_cons]
      have : (f.at_ == t) = false := by rw [beq_eq_false_iff_ne]; omega
      rw [this]
theorem futureF_past (l : List FltD) (n m : Int) (h : n ≤ m) : futureF (l.filter fun f => decide (n < f.at_)) m = futureF l m := by
  unfold futureF
  congr 1
  rw [List.filter_filter]
  refine List.filter_congr (fun f _ => ?_)
  by_cases q : m < f.at_
  · simp [q, show n < f.at_ by omega]
  · simp [q]
/-- One by one, what is told. -/
theorem futureF_take (l : List FltD) (n : Int) (k : Nat) (hk : k < l.length) : futureF (l.take (k + 1)) n = if n < (l[k]'hk).at_ then futureF (l.take k) n ++ [⟨(l[k]'hk).at_ - n, (l[k]'hk).kind⟩] else futureF (l.take k) n := by
  rw [List.take_succ_eq_append_getElem hk, futureF_append]
  unfold futureF
  by_cases q : n < (l[k]'hk).at_
  · rw [if_pos q]; simp [q]
  · rw [if_neg q]; simp [q]
end Go.Proofs.YtmchnaojlnjmjaaGreat

/-! Package fault: the meter; New, Steps, Down, Fall, Rise, possible, failure; the statement's own 'may'. -/
namespace Go.Proofs.YtmchnaojlnjmjaaGreat
open Go.RowKit

/-- A fault as the program's cells, and as a value. -/
def FltD.cells (f : FltD) : List Value := [.int .i64 f.at_, .int .i64 f.kind]
def FltD.val (f : FltD) : Value := .agg #[.int .i64 f.at_, .int .i64 f.kind]
def fcells (l : List FltD) : List Value := (l.map FltD.cells).flatten
theorem fcells_nil : fcells [] = [] := rfl
theorem fcells_cons (f : FltD) (l : List FltD) : fcells (f :: l) = .int .i64 f.at_ :: .int .i64 f.kind :: fcells l := rfl
theorem fcells_append (a b : List FltD) : fcells (a ++ b) = fcells a ++ fcells b := by simp [fcells]
theorem fcells_length (l : List FltD) : (fcells l).length = l.length * 2 := by
  induction l with
  | nil => rfl
  | cons f r ih => rw [fcells_cons]; simp [ih]; omega

/-- Faults in a slice. -/
def faultsAt (w : World) (v : Value) (l : List FltD) : Prop := elemsAt w v 2 (l.map FltD.cells)
theorem faultsAt.form {w : World} {v : Value} {l : List FltD} (h : faultsAt w v l) : ∃ a cap, v = .slice a l.length cap ∧ l.length ≤ cap ∧ cap ≤ maxLen := by
  obtain ⟨a, c, e, h1, h2⟩ := elemsAt.form h
  rw [List.length_map] at e h1
  exact ⟨a, c, e, h1, h2⟩
theorem faultsAt.kept {w w' : World} {v : Value} {l : List FltD} {L : List Nat} (h : faultsAt w v l) (hf : Fr L w w') (hn : ∀ k, v.ownBlock = some k → l ≠ [] → k < w.heap.size → k ∉ L) : faultsAt w' v l :=
  elemsAt.kept h hf (fun k hk hne hlt => hn k hk (by simpa using hne) hlt)
theorem faultsAt.below {w w' : World} {v : Value} {l : List FltD} (h : faultsAt w v l) (hf : Fr [] w w') : faultsAt w' v l := elemsAt.below h hf
theorem faults_of_owns {w : World} {base : Nat} {e : TypeId} {v : Value} {l : List FltD} (h : w.ownsRow base e 2 v l.length (fcells l)) : faultsAt w v l :=
  elems_of_owns (xs := l.map FltD.cells) (by rw [List.length_map]; exact h) (fun x hx => by obtain ⟨f, _, rfl⟩ := List.mem_map.1 hx; rfl)
/-- The cells of one fault of a list. -/
theorem faultsAt.get {w : World} {a0 : Option Addr} {n cap : Nat} {l : List FltD} (h : faultsAt w (.slice a0 n cap) l) (k : Nat) (hk : k < l.length) : ∃ b off, a0 = some ⟨b, off, none⟩ ∧ n = l.length ∧ b < w.heap.size ∧
    w.cell? ⟨b, off + k * 2, none⟩ = some (.int .i64 (l[k]'hk).at_) ∧ w.cell? ⟨b, off + k * 2 + 1, none⟩ = some (.int .i64 (l[k]'hk).kind) := by
  rcases h with ⟨_, _, _, _, e⟩ | ⟨b, off, cap', e, _, _, hb, hcell⟩
  · rw [List.map_eq_nil_iff] at e; subst e; simp at hk
  · simp only [Value.slice.injEq, List.length_map] at e
    obtain ⟨rfl, hn, rfl⟩ := e
    obtain ⟨-, h1⟩ := hcell k (by simpa using hk)
    rw [List.getElem_map] at h1
    exact ⟨b, off, rfl, hn, hb, by simpa using h1 0 _ rfl, h1 1 _ rfl⟩

/-- The meter at p: the blocks it lies in, its steps, whether it is down, what is armed (counted from the first step on). -/
def isM (w : World) (p : Nat) (B : List Nat) (n : Int) (dn : Bool) (l : List FltD) : Prop :=
  ∃ v, B = p :: v.ownBlock.toList ∧ w.heap[p]? = some (.cells #[.int .i64 n, .bool dn, v] 97 (0, 0)) ∧ w.ownsRow 0 78 2 v l.length (fcells l)
theorem isM.kept {w w' : World} {p : Nat} {B : List Nat} {n : Int} {dn : Bool} {l : List FltD} {L : List Nat} (h : isM w p B n dn l) (hf : Fr L w w') (hd : ∀ k ∈ B, k ∉ L) : isM w' p B n dn l := by
  obtain ⟨v, rfl, hp, ho⟩ := h
  exact ⟨v, rfl, hf.heap hp (hd _ (by simp)), owns_kept ho hf (fun k hk => hd k (by simp [hk]))⟩
theorem isM.below {w w' : World} {p : Nat} {B : List Nat} {n : Int} {dn : Bool} {l : List FltD} (h : isM w p B n dn l) (hf : Fr [] w w') : isM w' p B n dn l := h.kept hf (by simp)
theorem isM.lt {w : World} {p : Nat} {B : List Nat} {n : Int} {dn : Bool} {l : List FltD} (h : isM w p B n dn l) : ∀ k ∈ B, k < w.heap.size := by
  obtain ⟨v, rfl, hp, ho⟩ := h
  intro k hk
  simp only [List.mem_cons, Option.mem_toList] at hk
  rcases hk with rfl | hk
  · exact (Array.getElem?_eq_some_iff.1 hp).1
  · exact (ho.lt k hk).2
/-- The row is not the block of the meter. -/
theorem row_not_meter {w : World} {p : Nat} {a b c : Value} {v : Value} {m : Nat} {xs : List Value} (hp : w.heap[p]? = some (.cells #[a, b, c] 97 (0, 0))) (ho : w.ownsRow 0 78 2 v m xs) : ∀ k, v.ownBlock = some k → k ≠ p := by
  rintro k hk rfl
  rcases ho.2 with ⟨rfl, _⟩ | ⟨g, cap, cur, rfl, _, hg, _⟩
  · cases hk
  · cases hk
    rw [hp] at hg; simp at hg
/-- The meter behind a call that wrote it. -/
def TurnedM (p : Nat) (B : List Nat) (n : Int) (dn : Bool) (l : List FltD) (w w' : World) : Prop := ∃ B', isM w' p B' n dn l ∧ Fr B w w' ∧ ∀ k ∈ B', k ∈ B ∨ w.heap.size ≤ k

def Newm (w : World) (e : Ending) (w' : World) : Prop := ∃ p B, e = .returned (.pointer (some ⟨p, 0, none⟩)) ∧ isM w' p B 0 false [] ∧ Fr [] w w' ∧ ∀ k ∈ B, w.heap.size ≤ k
theorem mnew_any (w : World) : Calls Tryz.prog 19 #[] w (Newm w) := by
  go_enter Tryz.func19, Tryz.ntmps19
  go_wp2_with fail
  go_ret
  exact ⟨_, [w.heap.size], rfl, ⟨.slice none 0 0, rfl, heap_alloc_new _ _, World.ownsRow_nil _ _ _ _⟩, Fr.alloc _ _, by simp⟩
theorem mdown_any (p : Nat) (B : List Nat) (n : Int) (dn : Bool) (l : List FltD) (w : World) (h : isM w p B n dn l) :
    Calls Tryz.prog 36 #[.pointer (some ⟨p, 0, none⟩)] w fun e w' => e = .returned (.bool dn) ∧ w = w' := by
  obtain ⟨v, -, hp, -⟩ := h
  obtain ⟨c0, c1, c2, -, -, -⟩ := three_of_heap hp
  clear hp
  go_enter Tryz.func36, Tryz.ntmps36
  go_wp2_with fail
  go_ret
  exact ⟨rfl, rfl⟩
theorem mfall_any (p : Nat) (B : List Nat) (n : Int) (dn : Bool) (l : List FltD) (w : World) (h : isM w p B n dn l) :
    Calls Tryz.prog 34 #[.pointer (some ⟨p, 0, none⟩)] w fun e w' => e = .returned (.tuple #[]) ∧ TurnedM p B n true l w w' := by
  obtain ⟨v, rfl, hp, ho⟩ := h
  obtain ⟨c0, c1, c2, f0, f1, f2⟩ := three_of_heap hp
  have HP := Lib.hid hp
  have HO := Lib.hid ho
  clear hp ho
  go_enter Tryz.func34, Tryz.ntmps34
  go_wp2_with fail
  go_end0
  have hfs := Fr.set0 w p 1 (.bool true)
  exact ⟨rfl, _, ⟨v, rfl, by simpa using heap_setCell_same (i := 1) HP.out (.bool true), owns_kept HO.out hfs (fun k hk => by simpa using row_not_meter HP.out HO.out k hk)⟩, hfs.mono (by simp), fun k hk => .inl hk⟩
theorem mrise_any (p : Nat) (B : List Nat) (n : Int) (dn : Bool) (l : List FltD) (w : World) (h : isM w p B n dn l) :
    Calls Tryz.prog 55 #[.pointer (some ⟨p, 0, none⟩)] w fun e w' => e = .returned (.tuple #[]) ∧ TurnedM p B n false [] w w' := by
  obtain ⟨v, rfl, hp, ho⟩ := h
  obtain ⟨c0, c1, c2, f0, f1, f2⟩ := three_of_heap hp
  have HP := Lib.hid hp
  clear hp ho
  go_enter Tryz.func55, Tryz.ntmps55
  go_wp2_with fail
  go_end0
  have hfs := Fr.set0 w p 1 (.bool false)
  have h1 := heap_setCell_same (i := 1) HP.out (.bool false)
  have h2 := heap_setCell_same (i := 2) h1 (.slice none 0 0)
  have hft := Fr.set0 (w.setCell ⟨p, 1, none⟩ (.bool false)) p 2 (.slice none 0 0)
  exact ⟨rfl, [p], ⟨.slice none 0 0, rfl, by simpa using h2, World.ownsRow_nil _ _ _ _⟩, (hfs.trans hft (n := [p]) (by simp) (by simp)).mono (by simp), fun k hk => .inl (by simp at hk; simp [hk])⟩

/-- May a fault be armed? -/
def mayF (f : FltD) : Bool := decide (1 ≤ f.kind ∧ f.kind ≤ 3 ∧ 1 ≤ f.at_ ∧ f.at_ ≤ 1099511627776)
set_option maxRecDepth 100000 in
theorem possible_any (f : FltD) (w : World) : Calls Tryz.prog 69 #[f.val] w fun e w' => e = .returned (.bool (mayF f)) ∧ Fr [] w w' := by
  obtain ⟨a, k⟩ := f
  unfold FltD.val
  have hfa := Fr.alloc w (.cells #[.int .i64 a, .int .i64 k] 78)
  have hmk : mayF ⟨a, k⟩ = (decide (1 ≤ k) && (decide (k ≤ 3) && (decide (1 ≤ a) && decide (a ≤ 1099511627776)))) := by simp [mayF]
  rw [hmk]
  have HF := Lib.hid hfa
  clear hfa hmk
  obtain ⟨b1, hb1⟩ : ∃ b1, b1 = decide (1 ≤ k) := ⟨_, rfl⟩
  obtain ⟨b2, hb2⟩ : ∃ b2, b2 = decide (k ≤ 3) := ⟨_, rfl⟩
  obtain ⟨b3, hb3⟩ : ∃ b3, b3 = decide (1 ≤ a) := ⟨_, rfl⟩
  obtain ⟨b4, hb4⟩ : ∃ b4, b4 = decide (a ≤ 1099511627776) := ⟨_, rfl⟩
  rw [← hb1, ← hb2, ← hb3, ← hb4]
  have h1 := hb1.symm
  have h2 := hb2.symm
  have h3 := hb3.symm
  have h4 := hb4.symm
  clear hb1 hb2 hb3 hb4
  cases b1 <;> (try cases b2) <;> (try cases b3) <;> (try cases b4) <;>
    (go_enter Tryz.func69, Tryz.ntmps69
     go_wp2_with fail
     go_ret
     exact ⟨rfl, HF.out⟩)
end Go.Proofs.YtmchnaojlnjmjaaGreat

/-! Package fault: the statement's 'may', failure, Step's closure, slices.IndexFunc at it. -/
namespace Go.Proofs.YtmchnaojlnjmjaaGreat
open Go.RowKit

theorem failure_any (k : Int) (hk : 1 ≤ k ∧ k ≤ 3) (w : World) : Calls Tryz.prog 89 #[.int .i64 k] w fun e w' => e = .returned (.int .i64 (if k = 1 then 11 else k + 7)) ∧ w = w' := by
  have h3 : k = 1 ∨ k = 2 ∨ k = 3 := by omega
  rcases h3 with rfl | rfl | rfl <;>
    (go_enter Tryz.func89, Tryz.ntmps89
     go_wp2_with fail
     go_ret
     exact ⟨rfl, rfl⟩)

theorem one_of_heap {w : World} {p : Nat} {a : Value} {t : TypeId} (h : w.heap[p]? = some (.cells #[a] t (0, 0))) : w.cell? ⟨p, 0, none⟩ = some a ∧ w.frozen? ⟨p, 0, none⟩ = false :=
  ⟨by rw [cell_of_heap h]; rfl, free_of_heap h 0⟩
theorem two_of_heap {w : World} {p : Nat} {a b : Value} {t : TypeId} {fr : Nat × Nat} (h : w.heap[p]? = some (.cells #[a, b] t fr)) : w.cell? ⟨p, 0, none⟩ = some a ∧ w.cell? ⟨p, 1, none⟩ = some b :=
  ⟨by rw [cell_of_heap h]; rfl, by rw [cell_of_heap h]; rfl⟩
/-- What Step's closure reads: the box in which the meter's address lies, the steps of the meter. -/
def Sees (w : World) (q p : Nat) (n : Int) : Prop := w.heap[q]? = some (.cells #[.pointer (some ⟨p, 0, none⟩)] 58 (0, 0)) ∧ w.cell? ⟨p, 0, none⟩ = some (.int .i64 n)
theorem Sees.kept {w w' : World} {q p : Nat} {n : Int} {L : List Nat} (h : Sees w q p n) (hf : Fr L w w') (hq : q ∉ L) (hp : p ∉ L) : Sees w' q p n := ⟨hf.heap h.1 hq, hf.cell h.2 hp⟩
theorem Sees.below {w w' : World} {q p : Nat} {n : Int} (h : Sees w q p n) (hf : Fr [] w w') : Sees w' q p n := h.kept hf (by simp) (by simp)
set_option maxRecDepth 100000 in
theorem due_any (f : FltD) (q p : Nat) (n : Int) (w : World) (h : Sees w q p n) : Calls Tryz.prog 86 #[f.val, .pointer (some ⟨q, 0, none⟩)] w fun e w' => e = .returned (.bool (f.at_ == n)) ∧ Fr [] w w' := by
  obtain ⟨a, k⟩ := f
  unfold FltD.val
  obtain ⟨b, hb⟩ : ∃ b, b = (a == n) := ⟨_, rfl⟩
  show Calls _ _ _ _ fun e w' => e = .returned (.bool (a == n)) ∧ Fr [] w w'
  rw [← hb]
  have HB := hb.symm
  have hfa := Fr.alloc w (.cells #[.int .i64 a, .int .i64 k] 78)
  have HS := Lib.hid (h.below hfa)
  have hba := heap_alloc_new w (.cells #[.int .i64 a, .int .i64 k] 78)
  clear h hb
  go_enter Tryz.func86, Tryz.ntmps86
  go_wp2_with fail
  obtain ⟨w1, hw1⟩ : ∃ w1, w1 = w.alloc (.cells #[.int .i64 a, .int .i64 k] 78) := ⟨_, rfl⟩
  obtain ⟨r, hr⟩ : ∃ r, r = w.heap.size := ⟨_, rfl⟩
  rw [← hw1] at hfa HS hba ⊢
  rw [← hr] at hba ⊢
  obtain ⟨c0, c1⟩ := two_of_heap hba
  obtain ⟨d0, -⟩ := one_of_heap HS.out.1
  have e0 := HS.out.2
  have HF := Lib.hid hfa
  clear hw1 hr hba hfa HS
  go_quiet (fail)
  go_wp2_with fail
  go_ret
  exact ⟨rfl, HF.out.andDrewN _⟩
end Go.Proofs.YtmchnaojlnjmjaaGreat

/-! slices.IndexFunc at Step's closure. -/
namespace Go.Proofs.YtmchnaojlnjmjaaGreat
open Go.RowKit

/-- Where the first fault for the step stands; -1: there is none. -/
def IdxOf (l : List FltD) (n r : Int) : Prop := (r = -1 ∧ ∀ f ∈ l, f.at_ ≠ n) ∨ ∃ (k : Nat) (hk : k < l.length), r = k ∧ (l[k]'hk).at_ = n ∧ ∀ j, j < k → ∀ h : j < l.length, (l[j]'h).at_ ≠ n
def Idxd (l : List FltD) (n : Int) (w : World) (e : Ending) (w' : World) : Prop := ∃ r, e = .returned (.int .i64 r) ∧ IdxOf l n r ∧ Fr [] w w'
/-- Step's closure, as a value. -/
def dueV (q : Nat) : Value := .func (.func 86) #[] #[.pointer (some ⟨q, 0, none⟩)]
def IdxRelF (w : World) (l : List FltD) (n : Int) (iv : Value) (wx : World) : Prop :=
  ∃ k : Nat, k ≤ l.length ∧ iv = .int .i64 (k : Int) ∧ (∀ j, j < k → ∀ h : j < l.length, (l[j]'h).at_ ≠ n) ∧ Fr [] w wx
set_option maxRecDepth 100000 in
theorem idx_any (l : List FltD) (lv : Value) (q p : Nat) (n : Int) (w : World) (h : faultsAt w lv l) (hs : Sees w q p n) :
    Calls Tryz.prog 87 #[lv, dueV q] w (Idxd l n w) := by
  obtain ⟨a0, c0, rfl, hle, hmx⟩ := h.form
  have hm' : c0 ≤ 9223372036854775807 := by simpa [maxLen] using hmx
  have HE := Lib.hid h
  have HS := Lib.hid hs
  unfold dueV
  clear h hs hmx
  go_enter Tryz.func87, Tryz.ntmps87
  go_wp2_with fail
  go_loopw [8] (IdxRelF w l n) (fun iv _ => l.length - (intOf iv).toNat)
  case atStart => exact ⟨0, Nat.zero_le _, rfl, fun j hj => by omega, Fr.refl _ _⟩
  case round =>
    obtain ⟨k, hk, rfl, hall, hf⟩ := hrel
    by_cases hkn : k < l.length
    · have hd2 : decide (k < l.length) = true := decide_eq_true hkn
      obtain ⟨b, off, rfl, -, -, hc0, hc1⟩ := (HE.out.below hf).get k hkn
      have hdue := due_any (l[k]'hkn) q p n wr (HS.out.below hf)
      obtain ⟨f, hfe⟩ : ∃ f, f = l[k]'hkn := ⟨_, rfl⟩
      rw [← hfe] at hc0 hc1 hdue
      have HFE := Lib.hid hfe
      have HA := Lib.hid hall
      have HF := Lib.hid hf
      unfold FltD.val at hdue
      by_cases ha : f.at_ = n
      · rw [show (f.at_ == n) = true from by simp [ha]] at hdue
        have HD := Lib.hid hdue
        have HN := Lib.hid ha
        clear hdue hall hf hfe ha
        go_wp2_with (go_at_call 86; refine HD.out.mono ?_; rintro e w1 ⟨rfl, hf1⟩)
        go_ret
        exact ⟨_, rfl, .inr ⟨k, hkn, rfl, by rw [← HFE.out]; exact HN.out, HA.out⟩, HF.out.trans hf1 (by simp) (by simp)⟩
      · rw [show (f.at_ == n) = false from by simp [ha]] at hdue
        have HD := Lib.hid hdue
        have HN := Lib.hid ha
        clear hdue hall hf hfe ha
        go_wp2_with (go_at_call 86; refine HD.out.mono ?_; rintro e w1 ⟨rfl, hf1⟩)
        refine ⟨⟨k + 1, by omega, by go_num, fun j hj hjl => ?_, HF.out.trans hf1 (by simp) (by simp)⟩, by simp [intOf]; omega⟩
        by_cases e : j = k
        · subst e; rw [← HFE.out]; exact HN.out
        · exact HA.out j (by omega) hjl
    · have hd2 : decide (k < l.length) = false := decide_eq_false hkn
      have HA := Lib.hid hall
      have HF := Lib.hid hf
      have HKN := Lib.hid hkn
      clear hall hf hkn
      go_wp2_with fail
      go_ret
      refine ⟨_, rfl, .inl ⟨rfl, fun f hfm => ?_⟩, HF.out⟩
      obtain ⟨j, hj, rfl⟩ := List.getElem_of_mem hfm
      exact HA.out j (by have := HKN.out; omega) hj
theorem idx_none (l : List FltD) (lv : Value) (q p : Nat) (n : Int) (w : World) (h : faultsAt w lv l) (hs : Sees w q p n) (hn : ∀ f ∈ l, f.at_ ≠ n) :
    Calls Tryz.prog 87 #[lv, dueV q] w fun e w' => e = .returned (.int .i64 (-1)) ∧ Fr [] w w' :=
  (idx_any l lv q p n w h hs).mono (by
    rintro e w' ⟨r, rfl, hr, hf⟩
    rcases hr with ⟨rfl, -⟩ | ⟨k, hk, rfl, ha, -⟩
    · exact ⟨rfl, hf⟩
    · exact (hn _ (List.getElem_mem hk) ha).elim)
theorem idx_some (l : List FltD) (lv : Value) (q p : Nat) (n : Int) (w : World) (h : faultsAt w lv l) (hs : Sees w q p n) (k : Nat) (hk : k < l.length) (ha : (l[k]'hk).at_ = n) (hb : ∀ j, j < k → ∀ h : j < l.length, (l[j]'h).at_ ≠ n) :
    Calls Tryz.prog 87 #[lv, dueV q] w fun e w' => e = .returned (.int .i64 (k : Int)) ∧ Fr [] w w' :=
  (idx_any l lv q p n w h hs).mono (by
    rintro e w' ⟨r, rfl, hr, hf⟩
    rcases hr with ⟨rfl, hn⟩ | ⟨k', hk', rfl, ha', hb'⟩
    · exact (hn _ (List.getElem_mem hk) ha).elim
    · obtain rfl : k' = k := by
        rcases Nat.lt_trichotomy k' k with h | h | h
        · exact (hb k' h hk' ha').elim
        · exact h
        · exact (hb' k h hk ha).elim
      exact ⟨rfl, hf⟩)
end Go.Proofs.YtmchnaojlnjmjaaGreat

/-! slices.DeleteFunc at Step's closure. -/
namespace Go.Proofs.YtmchnaojlnjmjaaGreat
open Go.RowKit

/-- What is not for the step. -/
def keepF (l : List FltD) (n : Int) : List FltD := l.filter fun f => !(f.at_ == n)
theorem keepF_take (l : List FltD) (n : Int) (k : Nat) (hk : k < l.length) : keepF (l.take (k + 1)) n = if (l[k]'hk).at_ = n then keepF (l.take k) n else keepF (l.take k) n ++ [l[k]'hk] := by
  rw [List.take_succ_eq_append_getElem hk]
  unfold keepF
  rw [List.filter_append]
  by_cases h : (l[k]'hk).at_ = n
  · rw [if_pos h]; simp [h]
  · rw [if_neg h]; simp [h]
theorem keepF_all (l : List FltD) (n : Int) (h : ∀ f ∈ l, f.at_ ≠ n) : keepF l n = l := by
  unfold keepF
  rw [List.filter_eq_self]
  intro f hf
  simp [h f hf]
theorem keepF_le (l : List FltD) (n : Int) : (keepF l n).length ≤ l.length := List.length_filter_le _ _

/-- The block of the row: the faults, and what lies behind them. -/
def rowB (w : World) (g : Nat) (l : List FltD) (tail : List Value) : Prop := w.heap[g]? = some (.cells (fcells l ++ tail).toArray 78 (0, 0))
theorem fcells_get (l : List FltD) (tail : List Value) : ∀ (k : Nat) (hk : k < l.length), (fcells l ++ tail)[k * 2]? = some (.int .i64 (l[k]'hk).at_) ∧ (fcells l ++ tail)[k * 2 + 1]? = some (.int .i64 (l[k]'hk).kind) := by
  induction l with
  | nil => intro k hk; simp at hk
  | cons f r ih =>
    intro k hk
    match k, hk with
    | 0, _ => simp [fcells_cons]
    | k + 1, hk =>
      rw [fcells_cons, show (k + 1) * 2 = k * 2 + 1 + 1 from by omega]
      have := ih k (by simpa using hk)
      simpa using this
theorem fcells_set (tail : List Value) (f : FltD) : ∀ (l : List FltD) (k : Nat), k < l.length → ((fcells l ++ tail).set (k * 2) (.int .i64 f.at_)).set (k * 2 + 1) (.int .i64 f.kind) = fcells (l.set k f) ++ tail
  | [], k, hk => by simp at hk
  | x :: r, 0, _ => by simp [fcells_cons]
  | x :: r, k + 1, hk => by
    rw [fcells_cons, show (k + 1) * 2 = k * 2 + 1 + 1 from by omega, List.set_cons_succ, fcells_cons]
    have := fcells_set tail f r k (by simpa using hk)
    simpa using this
theorem rowB.get {w : World} {g : Nat} {l : List FltD} {tail : List Value} (h : rowB w g l tail) (k : Nat) (hk : k < l.length) :
    w.cell? ⟨g, k * 2, none⟩ = some (.int .i64 (l[k]'hk).at_) ∧ w.cell? ⟨g, k * 2 + 1, none⟩ = some (.int .i64 (l[k]'hk).kind) ∧ w.frozen? ⟨g, k * 2, none⟩ = false ∧ w.frozen? ⟨g, k * 2 + 1, none⟩ = false := by
  obtain ⟨h1, h2⟩ := fcells_get l tail k hk
  refine ⟨?_, ?_, free_of_heap h _, free_of_heap h _⟩
  · rw [cell_of_heap h]; simpa using h1
  · rw [cell_of_heap h]; simpa using h2
theorem rowB.set {w : World} {g : Nat} {l : List FltD} {tail : List Value} (h : rowB w g l tail) (k : Nat) (hk : k < l.length) (f : FltD) :
    rowB ((w.setCell ⟨g, k * 2, none⟩ (.int .i64 f.at_)).setCell ⟨g, k * 2 + 1, none⟩ (.int .i64 f.kind)) g (l.set k f) tail := by
  have h1 := heap_setCell_same (i := k * 2) h (.int .i64 f.at_)
  have h2 := heap_setCell_same (i := k * 2 + 1) h1 (.int .i64 f.kind)
  unfold rowB
  rw [h2, ← fcells_set tail f l k hk]
  simp
/-- The row, as its block. -/
theorem rowB_of_owns {w : World} {a : Option Addr} {n cap : Nat} {l : List FltD} (h : w.ownsRow 0 78 2 (.slice a n cap) l.length (fcells l)) (hne : l ≠ []) :
    ∃ g tail, a = some ⟨g, 0, none⟩ ∧ n = l.length ∧ rowB w g l tail ∧ l.length * 2 + tail.length = cap * 2 := by
  rcases h.2 with ⟨e, h0⟩ | ⟨g, cap', cur, e, _, hg, h1, h2, hs, ht⟩
  · exact (hne (List.eq_nil_of_length_eq_zero h0)).elim
  · simp only [Value.slice.injEq] at e
    obtain ⟨rfl, rfl, rfl⟩ := e
    have hx : fcells l ++ cur.toList.drop (l.length * 2) = cur.toList := by rw [← ht, List.take_append_drop]
    refine ⟨g, cur.toList.drop (l.length * 2), rfl, rfl, ?_, ?_⟩
    · unfold rowB
      rw [hx, hg]
    · have := congrArg List.length hx
      rw [List.length_append, fcells_length] at this
      simp at this ⊢
      omega
/-- The block, cut to its first faults, as a row. -/
theorem owns_of_rowB {w : World} {g cap : Nat} {l k : List FltD} {tail : List Value} (h : rowB w g l tail) (hc : l.length * 2 + tail.length = cap * 2) (hm : cap ≤ maxLen) (hk : l.take k.length = k) :
    w.ownsRow 0 78 2 (.slice (some ⟨g, 0, none⟩) k.length cap) k.length (fcells k) := by
  have hl : k.length ≤ l.length := by have := congrArg List.length hk; simp at this; omega
  refine ⟨fcells_length k, .inr ⟨g, cap, (fcells l ++ tail).toArray, rfl, Nat.zero_le _, h, by omega, hm, by simp [fcells_length]; omega, ?_⟩⟩
  have : fcells l ++ tail = fcells k ++ (fcells (l.drop k.length) ++ tail) := by
    rw [← List.append_assoc, ← fcells_append]
    congr 2
    conv => lhs; rw [← List.take_append_drop k.length l, hk]
  rw [this]
  show (fcells k ++ (fcells (l.drop k.length) ++ tail)).take (k.length * 2) = fcells k
  rw [List.take_append_of_le_length (by rw [fcells_length]; exact Nat.le_refl _), List.take_of_length_le (by rw [fcells_length]; exact Nat.le_refl _)]

/-- The fault whose fields are zero. -/
def fz : FltD := ⟨0, 0⟩
theorem fcells_zeros (n : Nat) : fcells (List.replicate n fz) = List.replicate (n * 2) (.int .i64 0) := by
  induction n with
  | zero => rfl
  | succ n ih => rw [show (n + 1) * 2 = n * 2 + 1 + 1 from by omega, List.replicate_succ, List.replicate_succ, List.replicate_succ, fcells_cons, ih]; rfl
theorem zeros_fz (n : Nat) : (Builtin.zeroCells (Value.agg #[.int .i64 0, .int .i64 0]).cells n).toList = fcells (List.replicate n fz) := by
  have e1 : (Builtin.zeroCells (Value.agg #[.int .i64 0, .int .i64 0]).cells n).toList = List.replicate (n * 2) (.int .i64 0) := by
    have hz : (Value.agg #[.int .i64 0, .int .i64 0]).cells = #[.int .i64 0, .int .i64 0] := rfl
    rw [hz]
    apply List.ext_getElem
    · simp [Builtin.zeroCells]
    · intro i h1 h2
      have : i % 2 = 0 ∨ i % 2 = 1 := by omega
      rcases this with h | h <;> simp [Builtin.zeroCells, h]
  rw [e1, fcells_zeros]
/-- 'clear(s)', s inside a row of faults whose block is known whole. -/
theorem wpL_clearF {P : Program} {w : World} {ops : Array Oper} {rest : List Oper} {o : Oper} {a : Act} {Q : Exit → Act → World → Prop} (hgd : o.guard = none) (d : Operand) (dT : TypeId)
    (ho : o.op = .call { callee := .builtin .clear, args := #[d], argTypes := #[dT] }) (e : TypeId) (hu : P.underlying dT = some (.slice e)) (i : TypeInfo) (hi : P.info? e = some i) (hz : i.zero = some (.agg #[.int .i64 0, .int .i64 0]))
    (dp : Option Addr) (n cap : Nat) (hd : a.eval d = .slice dp n cap) (g off : Nat) (cur : List Value) (t : TypeId) (hg : w.heap[g]? = some (.cells cur.toArray t (0, 0))) (hpos : 0 < n → dp = some ⟨g, off, none⟩) (hfit : off + n * 2 ≤ cur.length)
    (h : ∀ w', Hid (w'.heap[g]? = some (.cells (splice cur off (fcells (List.replicate n fz))).toArray t (0, 0))) → Fr [g] w w' → wpList P ops Q rest (a.put o.dst (.tuple #[])) w') :
    wpList P ops Q (o :: rest) a w := by
  refine wpList_plain hgd fun K hK => ?_
  by_cases hn : n = 0
  · subst hn
    have hr : (Builtin.clear_ #[dT] o.type #[.slice dp 0 cap]).run P w = .ok (.tuple #[]) w := by
      cases dp <;> simp [Builtin.clear_, run_underlying hu]
    unfold Oper.wp execOp
    simp only [ho, resolve, invoke, builtin, Sem.run_bind, Sem.run_pure, Result.andThen_ok, List.map_toArray, List.map_cons, List.map_nil, hd, hr]
    exact hK _ _ (h w (show _ = _ by simpa [splice, fcells_nil] using hg) (Fr.refl _ _))
  · obtain rfl := hpos (by omega)
    have hl : (fcells (List.replicate n fz)).length = n * 2 := by rw [fcells_length]; simp
    have hst := run_storeCells_cells (P := P) g off (fcells (List.replicate n fz)) 0 w (fun j hj => by rw [cell_of_heap hg]; simp; omega) (fun j _ => free_of_heap hg _) (by intro v hv; rw [fcells_zeros] at hv; rw [List.eq_of_mem_replicate hv]; rfl)
    simp only [Nat.add_zero] at hst
    have hv : ∀ w, (zeroValue e).run P w = .ok (.agg #[.int .i64 0, .int .i64 0]) w := fun w => by simp [zeroValue, typeInfo, hi, hz]
    have hr : (Builtin.clear_ #[dT] o.type #[.slice (some ⟨g, off, none⟩) n cap]).run P w = .ok (.tuple #[]) (w.setCells g off (fcells (List.replicate n fz))) := by
      obtain ⟨m, rfl⟩ : ∃ m, n = m + 1 := ⟨n - 1, by omega⟩
      have hzz := zeros_fz (m + 1)
      simp [Builtin.clear_, run_underlying hu, hv, hzz, hst]
    unfold Oper.wp execOp
    simp only [ho, resolve, invoke, builtin, Sem.run_bind, Sem.run_pure, Result.andThen_ok, List.map_toArray, List.map_cons, List.map_nil, hd, hr]
    exact hK _ _ (h _ (show _ = _ from heap_setCells g _ off w cur (by rw [hl]; exact hfit) hg) (Fr.setCells g _ off w))
end Go.Proofs.YtmchnaojlnjmjaaGreat

/-! slices.DeleteFunc at Step's closure: its contract. -/
namespace Go.Proofs.YtmchnaojlnjmjaaGreat
open Go.RowKit

/-- Behind j rounds. -/
structure DelInv (l cur : List FltD) (n : Int) (i j : Nat) : Prop where
  len : cur.length = l.length
  i_eq : i = (keepF (l.take j) n).length
  head : cur.take i = keepF (l.take j) n
  tail : cur.drop j = l.drop j
  lt : i < j
theorem DelInv.at {l cur : List FltD} {n : Int} {i j : Nat} (h : DelInv l cur n i j) (hj : j < l.length) : cur[j]'(by rw [h.len]; exact hj) = l[j]'hj := by
  have h1 : (cur.drop j)[0]? = (l.drop j)[0]? := by rw [h.tail]
  rw [List.getElem?_drop, List.getElem?_drop, Nat.add_zero, List.getElem?_eq_getElem hj, List.getElem?_eq_getElem (by rw [h.len]; exact hj)] at h1
  exact Option.some.inj h1
theorem drop_next {l cur : List FltD} {j : Nat} (h : cur.drop j = l.drop j) : cur.drop (j + 1) = l.drop (j + 1) := by
  have := congrArg (List.drop 1) h
  simpa [Nat.add_comm] using this
theorem DelInv.skip {l cur : List FltD} {n : Int} {i j : Nat} (h : DelInv l cur n i j) (hj : j < l.length) (ha : (l[j]'hj).at_ = n) : DelInv l cur n i (j + 1) := by
  have hk := keepF_take l n j hj
  rw [if_pos ha] at hk
  exact ⟨h.len, by rw [hk]; exact h.i_eq, by rw [hk]; exact h.head, drop_next h.tail, by have := h.lt; omega⟩
theorem DelInv.keep {l cur : List FltD} {n : Int} {i j : Nat} (h : DelInv l cur n i j) (hj : j < l.length) (ha : (l[j]'hj).at_ ≠ n) : DelInv l (cur.set i (l[j]'hj)) n (i + 1) (j + 1) := by
  have hk := keepF_take l n j hj
  rw [if_neg ha] at hk
  have hlt := h.lt
  have hlen := h.len
  refine ⟨by rw [List.length_set]; exact hlen, by rw [hk, List.length_append, ← h.i_eq]; rfl, ?_, ?_, by omega⟩
  · rw [hk, List.take_succ_eq_append_getElem (by rw [List.length_set]; omega), List.getElem_set_self, List.take_set_of_le (Nat.le_refl _), h.head]
  · rw [List.drop_set_of_lt (by omega)]
    exact drop_next h.tail
def DelRel (w : World) (g : Nat) (l : List FltD) (tail : List Value) (n : Int) (iv jv : Value) (wx : World) : Prop :=
  ∃ (i j : Nat) (cur : List FltD), j ≤ l.length ∧ iv = .int .i64 (i : Int) ∧ jv = .int .i64 (j : Int) ∧ DelInv l cur n i j ∧ rowB wx g cur tail ∧ Fr [g] w wx
/-- What DeleteFunc leaves. -/
def Deld (g cap : Nat) (l : List FltD) (tail : List Value) (n : Int) (w : World) (e : Ending) (w' : World) : Prop :=
  ∃ cur, e = .returned (.slice (some ⟨g, 0, none⟩) (keepF l n).length cap) ∧ rowB w' g cur tail ∧ cur.length = l.length ∧ cur.take (keepF l n).length = keepF l n ∧ Fr [g] w w'
theorem infoF : (Tryz.prog.info? 78).map (fun i => (i.zero, i.size, i.bytes)) = some (some (.agg #[.int .i64 0, .int .i64 0]), 2, 16) := by kernel_rfl
theorem splice_rows (cur z : List FltD) (tail : List Value) (i n : Nat) (hi : i ≤ cur.length) (h : i + n = cur.length) (hz : z.length = n) : splice (fcells cur ++ tail) (0 + i * 2) (fcells z) = fcells (cur.take i ++ z) ++ tail := by
  have e1 : (fcells cur ++ tail).take (0 + i * 2) = fcells (cur.take i) := by
    rw [Nat.zero_add, show fcells cur = fcells (cur.take i) ++ fcells (cur.drop i) from by rw [← fcells_append, List.take_append_drop], List.append_assoc]
    rw [List.take_append_of_le_length (by rw [fcells_length, List.length_take]; omega), List.take_of_length_le (by rw [fcells_length, List.length_take]; omega)]
  have e2 : (fcells cur ++ tail).drop (0 + i * 2 + (fcells z).length) = tail := by
    rw [fcells_length, hz, show 0 + i * 2 + n * 2 = (fcells cur).length from by rw [fcells_length]; omega]
    exact List.drop_left
  rw [splice, e1, e2, fcells_append, List.append_assoc]
set_option maxRecDepth 100000 in
theorem del_any (l : List FltD) (tail : List Value) (g cap q p : Nat) (n : Int) (w : World) (hr : rowB w g l tail) (hc : l.length * 2 + tail.length = cap * 2) (hm : cap ≤ maxLen) (hs : Sees w q p n) (hgq : g ≠ q) (hgp : g ≠ p)
    (k : Nat) (hk : k < l.length) (ha : (l[k]'hk).at_ = n) (hb : ∀ j, j < k → ∀ h : j < l.length, (l[j]'h).at_ ≠ n) :
    Calls Tryz.prog 88 #[.slice (some ⟨g, 0, none⟩) l.length cap, dueV q] w (Deld g cap l tail n w) := by
  obtain ⟨ti, hti, hz0, -, -⟩ := info_parts infoF
  have hm' : cap ≤ 9223372036854775807 := by simpa [maxLen] using hm
  have hfl : faultsAt w (.slice (some ⟨g, 0, none⟩) l.length cap) l := faults_of_owns (owns_of_rowB hr hc hm (List.take_length))
  have HIX := Lib.hid (idx_some l _ q p n w hfl hs k hk ha hb)
  have hinv : DelInv l l n k (k + 1) := by
    have e1 : keepF (l.take (k + 1)) n = l.take k := by
      rw [keepF_take l n k hk, if_pos ha]
      refine keepF_all _ _ (fun f hf => ?_)
      obtain ⟨j, hj, rfl⟩ := List.getElem_of_mem hf
      rw [List.getElem_take]
      rw [List.length_take] at hj
      exact hb j (by omega) (by omega)
    have e2 : (l.take k).length = k := by simp; omega
    exact ⟨rfl, by rw [e1, e2], by rw [e1], rfl, by omega⟩
  have HI := Lib.hid hinv
  have HR := Lib.hid hr
  have HS := Lib.hid hs
  have hlc : l.length ≤ cap := by omega
  have HCC := Lib.hid hc
  have hne : ((k : Int) == -1) = false := beq_eq_false_iff_ne.2 (by omega)
  have HGQ := Lib.hid hgq
  have HGP := Lib.hid hgp
  unfold dueV at HIX ⊢
  clear hfl hs ha hb hinv hr hgq hgp hc
  go_enter Tryz.func88, Tryz.ntmps88
  go_wp2_with (go_at_call 87; refine HIX.out.mono ?_; rintro e w1 ⟨rfl, hf1⟩)
  go_loopw [5, 6] (DelRel w g l tail n) (fun _ jv _ => l.length - (intOf jv).toNat)
  case atStart => exact ⟨k, k + 1, l, hk, rfl, by go_num, HI.out, hf1.heap HR.out (by simp), hf1.mono (by simp)⟩
  case round =>
    clear hf1 w1 HIX
    obtain ⟨i, j, cur, hj, rfl, rfl, hI, hrow, hf⟩ := hrel
    by_cases hjn : j < l.length
    · have hd2 : decide (j < l.length) = true := decide_eq_true hjn
      have hij := hI.lt
      obtain ⟨cj0, cj1, -, -⟩ := hrow.get j (by rw [hI.len]; exact hjn)
      rw [hI.at hjn] at cj0 cj1
      have hdue := fun wx (hx : Sees wx q p n) => due_any (l[j]'hjn) q p n wx hx
      have hskip := hI.skip hjn
      have hkeep := hI.keep hjn
      have hset := fun wx (hx : rowB wx g cur tail) => hx.set i (by rw [hI.len]; omega) (l[j]'hjn)
      obtain ⟨f, hfe⟩ : ∃ f, f = l[j]'hjn := ⟨_, rfl⟩
      rw [← hfe] at cj0 cj1 hdue hskip hkeep hset
      have hil : i < cur.length := by rw [hI.len]; omega
      unfold FltD.val at hdue
      have HSE := Lib.hid hset
      have HSW : Hid (Sees wr q p n) := Lib.hid (HS.out.kept hf (by simpa using Ne.symm HGQ.out) (by simpa using Ne.symm HGP.out))
      have HRO := Lib.hid hrow
      have HF := Lib.hid hf
      have HLT := Lib.hid hI.len
      clear hset hrow hf hfe hI
      have hfa := Fr.alloc wr (.cells #[.int .i64 f.at_, .int .i64 f.kind] 78)
      have hba := heap_alloc_new wr (.cells #[.int .i64 f.at_, .int .i64 f.kind] 78)
      have HFA := Lib.hid hfa
      have HBA := Lib.hid hba
      clear hfa hba
      by_cases ha : f.at_ = n
      · have hsk := hskip ha
        rw [show (f.at_ == n) = true from by simp [ha]] at hdue
        have HD := Lib.hid hdue
        have HI2 := Lib.hid hsk
        clear hdue hskip hkeep hsk ha
        go_wp2_with (go_at_call 86; refine (HD.out _ (HSW.out.below HFA.out)).mono ?_; rintro e w1 ⟨rfl, hf1⟩)
        exact ⟨⟨i, j + 1, cur, hjn, rfl, by go_num, HI2.out, hf1.heap (HFA.out.heap HRO.out (by simp)) (by simp), (HF.out.trans HFA.out (n := [g]) (by simp) (by simp)).trans hf1 (by simp) (by simp)⟩, by simp [intOf]; omega⟩
      · have hke := hkeep ha
        rw [show (f.at_ == n) = false from by simp [ha]] at hdue
        have HD := Lib.hid hdue
        have HI2 := Lib.hid hke
        clear hdue hskip hkeep hke ha
        go_wp2_with (go_at_call 86; refine (HD.out _ (HSW.out.below HFA.out)).mono ?_; rintro e w1 ⟨rfl, hf1⟩; have hro1 : rowB w1 g cur tail := hf1.heap (HFA.out.heap HRO.out (by simp)) (by simp); have HRO1 := Lib.hid hro1; obtain ⟨ci0, ci1, cf0, cf1⟩ := hro1.get i hil; obtain ⟨ct0, ct1⟩ := two_of_heap (hf1.heap HBA.out (by simp)); clear hro1)
        refine ⟨⟨i + 1, j + 1, _, hjn, by go_num, by go_num, HI2.out, HSE.out w1 HRO1.out, ?_⟩, by simp [intOf]; omega⟩
        exact ((HF.out.trans HFA.out (n := [g]) (by simp) (by simp)).trans hf1 (n := [g]) (by simp) (by simp)).trans ((Fr.setCell w1 ⟨g, i * 2, none⟩ _).trans (Fr.setCell _ ⟨g, i * 2 + 1, none⟩ _) (n := [g]) (by simp) (by simp)) (by simp) (by simp)
    · have hd2 : decide (j < l.length) = false := decide_eq_false hjn
      have hij := hI.lt
      have hjl : j = l.length := by omega
      have hil : i < l.length := by omega
      have HJ := Lib.hid hjl
      have HLE := Lib.hid hI.len
      have hhd := hI.head
      rw [hjl, List.take_length] at hhd
      have hie := hI.i_eq
      rw [hjl, List.take_length] at hie
      have HHD := Lib.hid hhd
      have HIE := Lib.hid hie
      have HRO := Lib.hid hrow
      have HF := Lib.hid hf
      clear hjl hrow hf hhd hie hI
      go_wp2_with (refine wpL_clearF rfl (.tmp 38) 95 rfl 78 Tryz.underlying95 ti hti hz0 _ _ _ rfl g (0 + i * 2) (fcells cur ++ tail) 78 HRO.out ?_ ?_ ?_; rotate_left 2; intro w2 hh2 hf2)
      · go_ret
        have hh := hh2.out
        rw [splice_rows cur (List.replicate (l.length - i) fz) tail i (l.length - i) (by rw [HLE.out]; omega) (by rw [HLE.out]; omega) (by simp)] at hh
        refine ⟨cur.take i ++ List.replicate (l.length - i) fz, ?_, hh, ?_, ?_, HF.out.trans hf2 (fun _ h _ => h) (fun _ h _ => h)⟩
        · rw [← HIE.out]; rfl
        · have := HLE.out
          simp
          omega
        · have h1 : (cur.take i).length = i := by have := HLE.out; simp; omega
          rw [← HIE.out, List.take_append_of_le_length (by omega), List.take_take, Nat.min_self, HHD.out]
      · intro _
        rw [Nat.zero_add]
      · rw [List.length_append, fcells_length, HLE.out]
        omega
end Go.Proofs.YtmchnaojlnjmjaaGreat

/-! Package fault: Step. -/
namespace Go.Proofs.YtmchnaojlnjmjaaGreat
open Go.RowKit

theorem step_down (p : Nat) (B : List Nat) (n : Int) (l : List FltD) (w : World) (h : isM w p B n true l) :
    Calls Tryz.prog 74 #[.pointer (some ⟨p, 0, none⟩)] w fun e w' => e = .returned (.int .i64 11) ∧ TurnedM p B n true l w w' := by
  have hfa := Fr.alloc w (.cells #[.pointer (some ⟨p, 0, none⟩)] 58)
  have hba := heap_alloc_new w (.cells #[.pointer (some ⟨p, 0, none⟩)] 58)
  obtain ⟨c0, -⟩ := one_of_heap hba
  have HF := Lib.hid hfa
  have HM := Lib.hid h
  clear hfa hba h
  go_enter Tryz.func74, Tryz.ntmps74
  go_wp2_with (go_at_call 36; refine (mdown_any p B n true l _ (HM.out.below HF.out)).mono ?_; rintro e w1 ⟨rfl, rfl⟩)
  go_ret
  exact ⟨rfl, B, HM.out.below HF.out, HF.out.mono (by simp), fun k hk => .inl hk⟩
/-- Behind the box: the world in which the steps are counted. -/
theorem step_box {w : World} {p : Nat} {B : List Nat} {n : Int} {dn : Bool} {l : List FltD} (h : isM w p B n dn l) : ∃ q w1, w1 = w.alloc (.cells #[.pointer (some ⟨p, 0, none⟩)] 58) ∧ q = w.heap.size ∧ isM w1 p B n dn l ∧
    w1.heap[q]? = some (.cells #[.pointer (some ⟨p, 0, none⟩)] 58 (0, 0)) ∧ Fr [] w w1 ∧ ∀ k ∈ B, k < q := by
  have hfa := Fr.alloc w (.cells #[.pointer (some ⟨p, 0, none⟩)] 58)
  exact ⟨_, _, rfl, rfl, h.below hfa, heap_alloc_new _ _, hfa, h.lt⟩
/-- Behind the count: the world in which the faults are sought. -/
theorem step_head {w1 : World} {p q : Nat} {n : Int} {v : Value} {l : List FltD} (hp : w1.heap[p]? = some (.cells #[.int .i64 n, .bool false, v] 97 (0, 0))) (ho : w1.ownsRow 0 78 2 v l.length (fcells l))
    (hq : w1.heap[q]? = some (.cells #[.pointer (some ⟨p, 0, none⟩)] 58 (0, 0))) (hpq : p ≠ q) :
    (w1.setCell ⟨p, 0, none⟩ (.int .i64 (n + 1))).heap[p]? = some (.cells #[.int .i64 (n + 1), .bool false, v] 97 (0, 0)) ∧ (w1.setCell ⟨p, 0, none⟩ (.int .i64 (n + 1))).ownsRow 0 78 2 v l.length (fcells l) ∧
      Sees (w1.setCell ⟨p, 0, none⟩ (.int .i64 (n + 1))) q p (n + 1) ∧ Fr [p] w1 (w1.setCell ⟨p, 0, none⟩ (.int .i64 (n + 1))) := by
  have hfs := Fr.set0 w1 p 0 (.int .i64 (n + 1))
  have hp2 := heap_setCell_same (i := 0) hp (.int .i64 (n + 1))
  refine ⟨by simpa using hp2, owns_kept ho hfs (fun k hk => by simpa using row_not_meter hp ho k hk), ⟨hfs.heap hq (by simpa using Ne.symm hpq), ?_⟩, hfs⟩
  rw [cell_of_heap hp2]
  rfl
set_option maxRecDepth 100000 in
theorem step_none (p : Nat) (B : List Nat) (n : Int) (l : List FltD) (w : World) (h : isM w p B n false l) (hn : 0 ≤ n ∧ n < 1000000) (hno : ∀ f ∈ l, f.at_ ≠ n + 1) :
    Calls Tryz.prog 74 #[.pointer (some ⟨p, 0, none⟩)] w fun e w' => e = .returned (.int .i64 0) ∧ TurnedM p B (n + 1) false l w w' := by
  have hmf : ∀ (fn : Fn) (first cap : Array Value) (w : World), (Instr.makeFunc fn first cap).run Tryz.prog w = .ok (.func fn first cap) w := fun _ _ _ _ => rfl
  obtain ⟨hn0, hn1⟩ := hn
  obtain ⟨q, w1, hw1, hq, hM, hbq, hf1, hlt⟩ := step_box h
  clear h
  go_enter Tryz.func74, Tryz.ntmps74
  go_wp2_with fail
  rw [← hw1, ← hq]
  have hdn := mdown_any p B n false l w1 hM
  obtain ⟨v, rfl, hp, ho⟩ := hM
  have hpq : p < q := hlt p (by simp)
  obtain ⟨hp2, ho2, hs2, hf2⟩ := step_head hp ho hbq (by omega)
  obtain ⟨d0, -⟩ := one_of_heap hbq
  obtain ⟨c0, c1, c2, f0, f1, f2⟩ := three_of_heap hp
  obtain ⟨b0, b1, b2, g0, g1, g2⟩ := three_of_heap hp2
  obtain ⟨k0, -⟩ := one_of_heap hs2.1
  have HIX := Lib.hid (idx_none l v q p (n + 1) _ (faults_of_owns ho2) hs2 hno)
  have HF2 := Lib.hid (hf1.trans hf2 (n := [p]) (by simp) (fun _ h _ => h))
  have HP2 := Lib.hid hp2
  have HO2 := Lib.hid ho2
  have hov := owns_slice ho
  obtain ⟨a0, cap, rfl, -, -⟩ := hov
  clear hp ho hp2 ho2 hs2 hf2 hno hlt hf1 hbq hw1 hq
  unfold dueV at HIX
  refine hdn.mono ?_
  rintro e w1' ⟨rfl, rfl⟩
  go_wp2_with (go_at_call 87; refine HIX.out.mono ?_; rintro e w3 ⟨rfl, hf3⟩)
  go_ret
  have hf3' : Fr [p] w w3 := HF2.out.trans hf3 (fun _ h _ => h) (by simp)
  exact ⟨rfl, _, ⟨_, rfl, hf3.heap HP2.out (by simp), owns_kept HO2.out hf3 (by simp)⟩, hf3'.mono (by simp), fun k hk => .inl hk⟩
end Go.Proofs.YtmchnaojlnjmjaaGreat

/-! Package fault: Step where a fault strikes. -/
namespace Go.Proofs.YtmchnaojlnjmjaaGreat
open Go.RowKit

/-- Behind DeleteFunc: the row is what is kept. -/
theorem deld_owns {w' : World} {g cap : Nat} {l cur : List FltD} {tail : List Value} {n : Int} (hc : l.length * 2 + tail.length = cap * 2) (hm : cap ≤ maxLen) (hr : rowB w' g cur tail) (hl : cur.length = l.length) (ht : cur.take (keepF l n).length = keepF l n) :
    w'.ownsRow 0 78 2 (.slice (some ⟨g, 0, none⟩) (keepF l n).length cap) (keepF l n).length (fcells (keepF l n)) :=
  owns_of_rowB hr (by rw [hl]; exact hc) hm ht
set_option maxRecDepth 100000 in
theorem step_hit (p : Nat) (B : List Nat) (n : Int) (l : List FltD) (w : World) (h : isM w p B n false l) (hn : 0 ≤ n ∧ n < 1000000) (k : Nat) (hk : k < l.length) (ha : (l[k]'hk).at_ = n + 1) (hb : ∀ j, j < k → ∀ h : j < l.length, (l[j]'h).at_ ≠ n + 1)
    (hki : 1 ≤ (l[k]'hk).kind ∧ (l[k]'hk).kind ≤ 3) :
    Calls Tryz.prog 74 #[.pointer (some ⟨p, 0, none⟩)] w fun e w' => e = .returned (.int .i64 (if (l[k]'hk).kind = 1 then 11 else (l[k]'hk).kind + 7)) ∧ TurnedM p B (n + 1) ((l[k]'hk).kind == 1) (keepF l (n + 1)) w w' := by
  have hmf : ∀ (fn : Fn) (first cap : Array Value) (w : World), (Instr.makeFunc fn first cap).run Tryz.prog w = .ok (.func fn first cap) w := fun _ _ _ _ => rfl
  obtain ⟨hn0, hn1⟩ := hn
  obtain ⟨q, w1, hw1, hq, hM, hbq, hf1, hlt⟩ := step_box h
  obtain ⟨f, hfe⟩ : ∃ f, f = l[k]'hk := ⟨_, rfl⟩
  rw [← hfe] at hki ⊢
  have hfa0 := fun wx => failure_any f.kind hki wx
  obtain ⟨c, hc⟩ : ∃ c : Int, c = if f.kind = 1 then 11 else f.kind + 7 := ⟨_, rfl⟩
  rw [← hc] at hfa0 ⊢
  have HFA := Lib.hid hfa0
  clear h hfa0 hc hki
  go_enter Tryz.func74, Tryz.ntmps74
  go_wp2_with fail
  rw [← hw1, ← hq]
  have hdn := mdown_any p B n false l w1 hM
  obtain ⟨v, rfl, hp, ho⟩ := hM
  have hpq : p < q := hlt p (by simp)
  obtain ⟨hp2, ho2, hs2, hf2⟩ := step_head hp ho hbq (by omega)
  obtain ⟨d0, -⟩ := one_of_heap hbq
  obtain ⟨c0, c1, c2, f0, f1, f2⟩ := three_of_heap hp
  obtain ⟨b0, b1, b2, g0, g1, g2⟩ := three_of_heap hp2
  obtain ⟨k0, -⟩ := one_of_heap hs2.1
  have HIX := Lib.hid (idx_some l v q p (n + 1) _ (faults_of_owns ho2) hs2 k hk ha hb)
  have hnp := row_not_meter hp ho
  have hov := owns_slice ho
  obtain ⟨a0, cap, rfl, hlc, hcm⟩ := hov
  have hne : l ≠ [] := fun e => by subst e; simp at hk
  obtain ⟨g, tail, rfl, -, hr2, hcc⟩ := rowB_of_owns ho2 hne
  have hgq : g < q := hlt g (by simp [Value.ownBlock])
  have hgp : g ≠ p := hnp g rfl
  have HF2 := Lib.hid (hf1.trans hf2 (n := [p]) (by simp) (fun _ h _ => h))
  have HP2 := Lib.hid hp2
  have HR2 := Lib.hid hr2
  have HS2 := Lib.hid hs2
  have HDL := Lib.hid (fun wx (hx : rowB wx g l tail) (hy : Sees wx q p (n + 1)) => del_any l tail g cap q p (n + 1) wx hx hcc hcm hy (by omega) hgp k hk ha hb)
  have HCC := Lib.hid hcc
  have HCM := Lib.hid hcm
  have hm' : cap ≤ 9223372036854775807 := by simpa [maxLen] using hcm
  have HGP := Lib.hid hgp
  have HRG := Lib.hid (fun wx (hx : rowB wx g l tail) => hx.get k hk)
  rw [← hfe] at HRG
  clear hp ho hp2 ho2 hs2 hf2 hlt hf1 hbq hw1 hq ha hb hfe hr2 hcc hcm hnp hne hgp
  unfold dueV at HIX HDL
  refine hdn.mono ?_
  rintro e w1' ⟨rfl, rfl⟩
  go_wp2_with (go_at_call 87; refine HIX.out.mono ?_; rintro e w3 ⟨rfl, hf3⟩; obtain ⟨e0, e1, -, -⟩ := HRG.out w3 (hf3.heap HR2.out (by simp)); obtain ⟨m0, m1, m2, -, -, -⟩ := three_of_heap (hf3.heap HP2.out (by simp)); obtain ⟨x0, -⟩ := one_of_heap (HS2.out.below hf3).1)
  have HF3 := Lib.hid hf3
  have HP3 := Lib.hid (hf3.heap HP2.out (by simp))
  have HR3 : Hid (rowB w3 g l tail) := Lib.hid (hf3.heap HR2.out (by simp))
  have HS3 := Lib.hid (HS2.out.below hf3)
  clear hf3 e0 e1 m0 m1 m2 x0 HIX HRG
  refine wp_region_G [g, p] [(0, false), (5, false), (1, false), (2, false), (3, false), (4, true), (6, true), (7, false), (8, false), (9, true)] 48 rfl (by kernel_rfl) (by kernel_rfl) (by kernel_rfl) (fun c a d v w h => by cases d <;> exact h) (fun wd hfd => ?_)
  simp only [List.map_cons, List.map_nil, List.getElem?_toArray, List.getElem?_cons_succ, List.getElem?_cons_zero, Option.getD_some]
  have HPD := Lib.hid (hfd.heap HP3.out (by simp))
  have HRD : Hid (rowB wd g l tail) := Lib.hid (hfd.heap HR3.out (by simp))
  have HSD := Lib.hid (HS3.out.below hfd)
  have HFD := Lib.hid hfd
  clear hfd
  have LB : Hid (Later [g, p] wd (fun w' => w'.cell? ⟨q, 0, none⟩ = some (.pointer (some ⟨p, 0, none⟩)))) := Lib.hid (fun w' hf' => hf'.cell (one_of_heap HSD.out.1).1 (by simp; omega))
  repeat (apply wpG_t; · (intro w' hf'; have y0 := LB.out w' hf'; go_wp2_with fail; exact ⟨rfl, rfl⟩))
  obtain ⟨m0, m1, m2, -, -, -⟩ := three_of_heap HPD.out
  refine wpG_x ?_
  go_wp2_with fail
  refine ⟨Fr.refl _ _, rfl, ?_⟩
  clear m0 m1 m2
  refine wpG_x ?_
  have HDE := Lib.hid (HDL.out wd HRD.out HSD.out)
  go_wp2_with (go_at_call 88; refine HDE.out.mono ?_; rintro e w4 ⟨cur, rfl, hr4, hl4, ht4, hf4⟩)
  refine ⟨hf4.mono (by simp), rfl, ?_⟩
  repeat (apply wpG_t; · (intro w' hf'; go_wp2_with fail; exact ⟨rfl, rfl⟩))
  refine wpG_x ?_
  have hp4 := hf4.heap HPD.out (by simpa using Ne.symm HGP.out)
  have hb4 := hf4.heap HSD.out.1 (by simp; omega)
  have HF4 := Lib.hid hf4
  have HR4 := Lib.hid hr4
  obtain ⟨m0, m1, m2, m3, m4, m5⟩ := three_of_heap hp4
  clear hf4 hr4
  go_wp2_with fail
  have hfs := Fr.set0 w4 p 2 (.slice (some ⟨g, 0, none⟩) (keepF l (n + 1)).length cap)
  refine ⟨hfs.mono (by simp), rfl, ?_⟩
  have hp5 := heap_setCell_same (i := 2) hp4 (.slice (some ⟨g, 0, none⟩) (keepF l (n + 1)).length cap)
  have hp5' : (w4.setCell ⟨p, 2, none⟩ (.slice (some ⟨g, 0, none⟩) (keepF l (n + 1)).length cap)).heap[p]? = some (.cells #[.int .i64 (n + 1), .bool false, .slice (some ⟨g, 0, none⟩) (keepF l (n + 1)).length cap] 97 (0, 0)) := by simpa using hp5
  have hb5 := hfs.heap hb4 (by simp; omega)
  have hr5 := hfs.heap HR4.out (by simpa using HGP.out)
  obtain ⟨w5, hw5⟩ : ∃ w5, w5 = w4.setCell ⟨p, 2, none⟩ (.slice (some ⟨g, 0, none⟩) (keepF l (n + 1)).length cap) := ⟨_, rfl⟩
  rw [← hw5] at hfs hp5' hb5 hr5 ⊢
  clear hp5 hw5 hp4 hb4 m0 m1 m2 m3 m4 m5
  have HP5 := Lib.hid hp5'
  have HR5 : Hid (rowB w5 g cur tail) := Lib.hid hr5
  have HF5 := Lib.hid hfs
  obtain ⟨m0, m1, m2, m3, m4, m5⟩ := three_of_heap hp5'
  obtain ⟨x0, -⟩ := one_of_heap hb5
  clear hfs hp5' hb5 hr5
  have HL4 := Lib.hid hl4
  have HT4 := Lib.hid ht4
  clear hl4 ht4
  refine wpG_end ?_
  go_wp2_with (go_at_call 89; refine (HFA.out _).mono ?_; rintro e w6 ⟨rfl, rfl⟩)
  go_ret
  have hp6 := heap_setCell_same (i := 1) HP5.out (.bool (f.kind == 1))
  have hfs := Fr.set0 w5 p 1 (.bool (f.kind == 1))
  have hf35 : Fr [p, g] w w5 := ((((HF2.out.trans HF3.out (n := [p]) (fun _ h _ => h) (by simp)).trans HFD.out (n := [p]) (fun _ h _ => h) (by simp)).trans HF4.out (n := [p, g]) (by simp) (by simp)).trans HF5.out (n := [p, g]) (fun _ h _ => h) (by simp))
  refine ⟨rfl, [p, g], ⟨_, rfl, by simpa using hp6, deld_owns HCC.out HCM.out (hfs.heap HR5.out (by simpa using HGP.out)) HL4.out HT4.out⟩, ?_, ?_⟩
  · exact (hf35.trans hfs (n := [p, g]) (fun _ h _ => h) (by simp)).mono (by simp [Value.ownBlock])
  · intro k hk
    left
    simpa [Value.ownBlock] using hk
end Go.Proofs.YtmchnaojlnjmjaaGreat

/-! Package fault: Step, whatever is armed. -/
namespace Go.Proofs.YtmchnaojlnjmjaaGreat
open Go.RowKit

/-- What a step comes to, and what it leaves. -/
def stepC (dn : Bool) (l : List FltD) (n : Int) : Int := if dn then 11 else codeF 11 (hitF l (n + 1))
def stepN (dn : Bool) (n : Int) : Int := if dn then n else n + 1
def stepL (dn : Bool) (l : List FltD) (n : Int) : List FltD := if dn then l else keepF l (n + 1)
/-- All kinds are kinds. -/
def kindsOk (l : List FltD) : Prop := ∀ f ∈ l, 1 ≤ f.kind ∧ f.kind ≤ 3
theorem hitF_none {l : List FltD} {t : Int} (h : hitF l t = none) : ∀ f ∈ l, f.at_ ≠ t := by
  induction l with
  | nil => simp
  | cons x r ih =>
    rw [hitF_cons] at h
    by_cases q : x.at_ = t
    · rw [if_pos q] at h; cases h
    · rw [if_neg q] at h
      intro f hf
      rcases List.mem_cons.1 hf with rfl | hf
      · exact q
      · exact ih h f hf
theorem hitF_some {l : List FltD} {t : Int} {f : FltD} (h : hitF l t = some f) : ∃ (k : Nat) (hk : k < l.length), l[k]'hk = f ∧ (l[k]'hk).at_ = t ∧ ∀ j, j < k → ∀ h : j < l.length, (l[j]'h).at_ ≠ t := by
  induction l with
  | nil => simp [hitF] at h
  | cons x r ih =>
    rw [hitF_cons] at h
    by_cases q : x.at_ = t
    · rw [if_pos q] at h
      cases h
      exact ⟨0, by simp, rfl, q, by simp⟩
    · rw [if_neg q] at h
      obtain ⟨k, hk, h1, h2, h3⟩ := ih h
      refine ⟨k + 1, by simpa using hk, by simpa using h1, by simpa using h2, ?_⟩
      intro j hj hjl
      match j, hjl with
      | 0, _ => exact q
      | j + 1, hjl => simpa using h3 j (by omega) (by simpa using hjl)
theorem step_any (p : Nat) (B : List Nat) (n : Int) (dn : Bool) (l : List FltD) (w : World) (h : isM w p B n dn l) (hn : 0 ≤ n ∧ n < 1000000) (hk : kindsOk l) :
    Calls Tryz.prog 74 #[.pointer (some ⟨p, 0, none⟩)] w fun e w' => e = .returned (.int .i64 (stepC dn l n)) ∧ TurnedM p B (stepN dn n) (decide (stepC dn l n = 11)) (stepL dn l n) w w' := by
  cases dn with
  | true => exact step_down p B n l w h
  | false =>
    unfold stepC stepN stepL
    simp only [Bool.false_eq_true, if_false]
    cases hh : hitF l (n + 1) with
    | none =>
      have hno := hitF_none hh
      rw [keepF_all l (n + 1) hno]
      exact step_none p B n l w h hn hno
    | some f =>
      obtain ⟨k, hkl, rfl, ha, hb⟩ := hitF_some hh
      have hki := hk _ (List.getElem_mem hkl)
      have := step_hit p B n l w h hn k hkl ha hb hki
      unfold codeF
      have e : ((l[k]'hkl).kind == 1) = decide ((if (l[k]'hkl).kind = 1 then (11 : Int) else (l[k]'hkl).kind + 7) = 11) := by
        by_cases q : (l[k]'hkl).kind = 1
        · simp [q]
        · rw [if_neg q, show ((l[k]'hkl).kind == 1) = false from by simp [q]]
          exact (decide_eq_false (by omega)).symm
      rw [e] at this
      exact this
/-- What Arm arms. -/
def armF (fl : List FltD) (n : Int) : List FltD := (fl.filter mayF).map fun f => ⟨n + f.at_, f.kind⟩
theorem mayF_iff (f : FltD) : mayF f = true ↔ 1 ≤ f.kind ∧ f.kind ≤ 3 ∧ 1 ≤ f.at_ ∧ f.at_ ≤ 1099511627776 := by simp [mayF]
theorem armF_take (l : List FltD) (n : Int) (k : Nat) (hk : k < l.length) : armF (l.take (k + 1)) n = if mayF (l[k]'hk) = true then armF (l.take k) n ++ [⟨n + (l[k]'hk).at_, (l[k]'hk).kind⟩] else armF (l.take k) n := by
  rw [List.take_succ_eq_append_getElem hk]
  unfold armF
  rw [List.filter_append, List.map_append]
  by_cases h : mayF (l[k]'hk) = true
  · rw [if_pos h]; simp [h]
  · rw [if_neg h]; simp [h]
theorem armF_le (l : List FltD) (n : Int) : (armF l n).length ≤ l.length := by
  unfold armF; rw [List.length_map]; exact List.length_filter_le _ _
theorem armF_kinds (l : List FltD) (n : Int) : kindsOk (armF l n) := by
  intro f hf
  obtain ⟨x, hx, rfl⟩ := List.mem_map.1 hf
  obtain ⟨-, hm⟩ := List.mem_filter.1 hx
  have := (mayF_iff x).1 hm
  exact ⟨this.1, this.2.1⟩
/-- What the meter holds, of all that ever was armed. -/
def liveF (l : List FltD) (n : Int) : List FltD := l.filter fun f => decide (n < f.at_)
theorem liveF_arm (l fl : List FltD) (n : Int) : liveF (l ++ armF fl n) n = liveF l n ++ armF fl n := by
  unfold liveF
  rw [List.filter_append]
  congr 1
  rw [List.filter_eq_self]
  intro f hf
  obtain ⟨x, hx, rfl⟩ := List.mem_map.1 hf
  obtain ⟨-, hm⟩ := List.mem_filter.1 hx
  have := (mayF_iff x).1 hm
  simp
  omega
theorem liveF_hit (l : List FltD) (n : Int) : hitF (liveF l n) (n + 1) = hitF l (n + 1) := hitF_past l n (n + 1) (by omega)
theorem liveF_keep (l : List FltD) (n : Int) : keepF (liveF l n) (n + 1) = liveF l (n + 1) := by
  unfold keepF liveF
  rw [List.filter_filter]
  refine List.filter_congr (fun f _ => ?_)
  by_cases q : n + 1 < f.at_
  · have : (f.at_ == n + 1) = false := by rw [beq_eq_false_iff_ne]; omega
    simp [q, this, show n < f.at_ by omega]
  · by_cases q2 : f.at_ = n + 1
    · simp [q2]
    · simp [q, show ¬ n < f.at_ by omega]
theorem liveF_kinds {l : List FltD} (h : kindsOk l) (n : Int) : kindsOk (liveF l n) := fun f hf => h f (List.mem_filter.1 hf).1
theorem liveF_le (l : List FltD) (n : Int) : (liveF l n).length ≤ l.length := List.length_filter_le _ _
end Go.Proofs.YtmchnaojlnjmjaaGreat

/-! Package fault: Arm. -/
namespace Go.Proofs.YtmchnaojlnjmjaaGreat
open Go.RowKit

def ArmRel (w : World) (p : Nat) (B : List Nat) (n : Int) (dn : Bool) (l fl : List FltD) (iv : Value) (wx : World) : Prop :=
  ∃ (k : Nat) (B' : List Nat), k ≤ fl.length ∧ iv = .int .i64 (k : Int) ∧ isM wx p B' n dn (l ++ armF (fl.take k) n) ∧ Fr B w wx ∧ ∀ j ∈ B', j ∈ B ∨ w.heap.size ≤ j
set_option maxRecDepth 100000 in
set_option maxHeartbeats 1000000 in
theorem arm_any (p : Nat) (B : List Nat) (n : Int) (dn : Bool) (l fl : List FltD) (lv : Value) (w : World) (h : isM w p B n dn l) (hfl : faultsAt w lv fl) (hn : 0 ≤ n ∧ n < 1000000) (hlen : l.length + fl.length ≤ 1000000)
    (hap : ∀ k, lv.ownBlock = some k → fl ≠ [] → k ∉ B) :
    Calls Tryz.prog 33 #[.pointer (some ⟨p, 0, none⟩), lv] w fun e w' => e = .returned (.int .i64 ((armF fl n).length : Nat)) ∧ TurnedM p B n dn (l ++ armF fl n) w w' := by
  obtain ⟨ti, hti, hz0, hz1, hz2⟩ := info_parts infoF
  obtain ⟨hn0, hn1⟩ := hn
  obtain ⟨a1, c1, rfl, hle, hmx⟩ := hfl.form
  have hm' : c1 ≤ 9223372036854775807 := by simpa [maxLen] using hmx
  have HFL := Lib.hid hfl
  have HAP := Lib.hid hap
  have HM := Lib.hid h
  obtain ⟨v, hB, hp, ho⟩ := h
  obtain ⟨a0, c0, rfl, -, -⟩ := owns_slice ho
  obtain ⟨x0, x1, x2, -, -, -⟩ := three_of_heap hp
  obtain ⟨L0, hL0⟩ : ∃ L0, L0 = l.length := ⟨_, rfl⟩
  rw [← hL0] at x2
  have HL0 := Lib.hid hL0
  rw [← hL0] at hlen
  have HB := Lib.hid hB
  clear hfl hap hp ho hL0 hmx hB
  go_enter Tryz.func33, Tryz.ntmps33
  go_wp2_with fail
  clear x0 x1 x2
  go_loopw [17] (ArmRel w p B n dn l fl) (fun iv _ => fl.length - (intOf iv).toNat)
  case atStart => exact ⟨0, B, Nat.zero_le _, rfl, by simpa [armF] using HM.out, Fr.refl _ _, fun j hj => .inl hj⟩
  case round =>
    obtain ⟨k, B', hk, rfl, hM, hf, hB'⟩ := hrel
    by_cases hkn : k < fl.length
    · have hd2 : decide (k < fl.length) = true := decide_eq_true hkn
      have hflr := HFL.out.kept hf (fun j hj hne _ => HAP.out j hj hne)
      obtain ⟨b, off, rfl, -, -, hc0, hc1⟩ := hflr.get k hkn
      have htk := armF_take fl n k hkn
      have hpo := fun wx => possible_any (fl[k]'hkn) wx
      obtain ⟨f, hfe⟩ : ∃ f, f = fl[k]'hkn := ⟨_, rfl⟩
      rw [← hfe] at hc0 hc1 htk hpo
      unfold FltD.val at hpo
      have hfa := Fr.alloc wr (.cells #[.int .i64 f.at_, .int .i64 f.kind] 78)
      have hba := heap_alloc_new wr (.cells #[.int .i64 f.at_, .int .i64 f.kind] 78)
      have HFA := Lib.hid hfa
      have HBA := Lib.hid hba
      have HM1 := Lib.hid hM
      have HF := Lib.hid hf
      have HB1 := Lib.hid hB'
      have HTK := Lib.hid htk
      clear hfa hba hM hf hB' htk hflr hfe
      by_cases hmy : mayF f = true
      · rw [hmy] at hpo
        have HPO := Lib.hid hpo
        have HMY := Lib.hid hmy
        clear hpo hmy
        go_wp2_with (go_at_call 69; refine (HPO.out _).mono ?_; rintro e w1 ⟨rfl, hf1⟩)
        have hM1 := (HM1.out.below HFA.out).below hf1
        have hb1 := hf1.heap HBA.out (by simp)
        have hlt := HM1.out.lt
        have hw1 := hf1.size
        have hwr := HFA.out.size
        obtain ⟨r, hr⟩ : ∃ r, r = wr.heap.size := ⟨_, rfl⟩
        rw [← hr] at hb1 hlt hwr ⊢
        obtain ⟨v2, hBv, hp1, ho1⟩ := hM1
        obtain ⟨a2, c2, rfl, hlc2, hcm2⟩ := owns_slice ho1
        have hmb : (l ++ armF (fl.take k) n).length ≤ 1000000 := by
          have h1 := armF_le (fl.take k) n
          have h2 := HL0.out
          rw [List.length_take] at h1
          rw [List.length_append, ← h2]
          omega
        obtain ⟨X, hX⟩ : ∃ X, X = l ++ armF (fl.take k) n := ⟨_, rfl⟩
        rw [← hX] at hp1 ho1 hlc2 hmb hBv
        obtain ⟨m, hm⟩ : ∃ m, m = X.length := ⟨_, rfl⟩
        rw [← hm] at hp1 ho1 hlc2 hmb hBv
        have HX := Lib.hid hX
        have HLN := Lib.hid hm
        have hpr : p < r := hlt p (by rw [hBv]; simp)
        have hnp := row_not_meter hp1 ho1
        have hor : ∀ j, (Value.slice a2 m c2).ownBlock = some j → j < r := fun j hj => hlt j (by rw [hBv]; simp [hj])
        have HBV := Lib.hid hBv
        have HOR := Lib.hid hor
        have HNP := Lib.hid hnp
        have HR := Lib.hid hr
        have HF1 := Lib.hid hf1
        have hrw : r < w1.heap.size := (Array.getElem?_eq_some_iff.1 hb1).1
        have hat := (mayF_iff f).1 HMY.out
        obtain ⟨-, -, hat1, hat2⟩ := hat
        clear hX hm hBv hr hlt hor hnp hf1
        refine wp_region_Z (Value.slice a2 m c2).ownBlock.toList 19 [(0, false), (1, false), (2, false), (3, false), (4, false), (5, false), (6, false), (7, false), (8, false), (9, false), (10, false), (11, false), (12, false), (13, false), (14, false), (15, true), (16, true), (17, true), (18, true), (19, true)] 50 rfl (by kernel_rfl) (by kernel_rfl) (by kernel_rfl) (fun c a d v w h => by cases d <;> exact h) (fun w4 hf4 => ?_)
        simp only [List.map_cons, List.map_nil, List.getElem?_toArray, List.getElem?_cons_succ, List.getElem?_cons_zero, Option.getD_some]
        have hp4 := hf4.heap hp1 (by simp)
        have hb4 := hf4.heap hb1 (by simp)
        have LB4 : Hid (Later (Value.slice a2 m c2).ownBlock.toList w4 (fun w' => w'.heap[r]? = some (.cells #[.int .i64 f.at_, .int .i64 f.kind] 78 (0, 0)))) := Lib.hid (fun w' hf' => hf'.heap hb4 (fun hm => by have h1 := HOR.out r (Option.mem_toList.1 hm); omega))
        have LP4 : Hid (Later (Value.slice a2 m c2).ownBlock.toList w4 (fun w' => w'.heap[p]? = some (.cells #[.int .i64 n, .bool dn, .slice a2 m c2] 97 (0, 0)))) := Lib.hid (fun w' hf' => hf'.heap hp4 (fun hm => HNP.out p (Option.mem_toList.1 hm) rfl))
        have hrow4 := owns_kept ho1 hf4 (by simp)
        have HR4 := Lib.hid hrow4
        have HF4 := Lib.hid hf4
        have hrw4 : r < w4.heap.size := by have := hf4.size; omega
        clear hp1 hb1 ho1 hp4 hb4 hrow4 hf4
        repeat (apply walkZ_t; · (intro w' hf'; obtain ⟨y0, y1, y2, -, -, -⟩ := three_of_heap (LP4.out w' hf'); obtain ⟨d0, d1⟩ := two_of_heap (LB4.out w' hf'); go_wp2_with fail; exact ⟨rfl, rfl⟩))
        refine walkZ_x ?_
        go_wp2_with fail
        have hfe := Fr.alloc w4 (.cells #[.int .i64 (n + f.at_), .int .i64 f.kind] 78)
        refine ⟨hfe.mono (by simp), rfl, ?_⟩
        refine walkZ_x ?_
        go_wp2_with (at_builtin; refine wpL_appendS rfl (.tmp 27) (.tmp 38) 95 rfl 0 78 ti _ 2 16 Tryz.underlying95 hti hz0 hz1 hz2 (by rfl) (by decide) (.slice a2 m c2) m _ rfl HR4.out [.int .i64 (n + f.at_), .int .i64 f.kind] rfl (by intro u hu; simp at hu; rcases hu with rfl | rfl <;> rfl) rfl (by omega) (by simp [maxLen]; omega) (Nat.zero_le _) ?_; intro v5 w5 hown5 hf5 hb5)
        obtain ⟨a5, c5, rfl, hc5, hm5⟩ := owns_slice hown5
        refine ⟨hf5, rfl, ?_⟩
        have hf45 : Fr (Value.slice a2 m c2).ownBlock.toList w4 w5 := hfe.trans hf5 (by simp) (fun _ hk _ => hk)
        have HF45 := Lib.hid hf45
        have HO5 := Lib.hid hown5
        have HB5 := Lib.hid hb5
        obtain ⟨e0, e1, e2, g0, g1, g2⟩ := three_of_heap (LP4.out w5 hf45)
        clear hf45 hown5 hb5 hf5 hfe
        refine walkZ_x ?_
        go_wp2_with fail
        refine ⟨Fr.refl _ _, rfl, ?_⟩
        refine walkZ_x ?_
        go_wp2_with fail
        refine ⟨Fr.refl _ _, rfl, ?_⟩
        refine walkZ_x ?_
        go_wp2_with fail
        refine ⟨rfl, walkZ_end ?_⟩
        go_wp2_with fail
        have hfs := Fr.set0 w5 p 2 (.slice a5 (m + 1) c5)
        have hpB : p ∈ B' := by rw [HBV.out]; simp
        have hoB : ∀ j, (Value.slice a2 m c2).ownBlock = some j → j ∈ B' := fun j hj => by rw [HBV.out]; simp [hj]
        have hB1 := HB1.out
        have hw4 : w.heap.size ≤ w4.heap.size := by have := HF.out.size; have := HFA.out.size; have := HF1.out.size; have := HF4.out.size; omega
        have hk5 : ∀ j, (Value.slice a5 (m + 1) c5).ownBlock = some j → j ≠ p ∧ (j ∈ B ∨ w.heap.size ≤ j) := by
          intro j hj
          rcases HB5.out with h5 | ⟨j', h5, h6⟩
          · rw [h5] at hj
            exact ⟨HNP.out j hj, hB1 j (hoB j hj)⟩
          · rw [hj] at h5
            have h7 : j = j' := Option.some.inj h5
            subst h7
            exact ⟨by omega, .inr (by omega)⟩
        have hin : ∀ j, j ∈ B' → j < w.heap.size → j ∈ B := fun j hj hlt => (hB1 j hj).elim id (fun h => by omega)
        have hXe : l ++ armF (fl.take (k + 1)) n = X ++ [⟨n + f.at_, f.kind⟩] := by
          rw [HTK.out, if_pos HMY.out, HX.out, List.append_assoc]
        refine ⟨⟨k + 1, p :: (Value.slice a5 (m + 1) c5).ownBlock.toList, by omega, by go_num, ⟨_, rfl, ?_, ?_⟩, ?_, ?_⟩, by simp [intOf]; omega⟩
        · have := heap_setCell_same (i := 2) (LP4.out w5 HF45.out) (.slice a5 (m + 1) c5)
          simpa using this
        · rw [hXe, List.length_append, ← HLN.out, fcells_append]
          exact owns_kept HO5.out hfs (fun j hj => by simpa using (hk5 j hj).1)
        · have h1 : Fr B w w4 := ((HF.out.trans HFA.out (n := B) (fun _ h _ => h) (by simp)).trans HF1.out (n := B) (fun _ h _ => h) (by simp)).trans HF4.out (fun _ h _ => h) (by simp)
          have h2 : Fr B w w5 := h1.trans HF45.out (fun _ h _ => h) (fun j hj hlt => hin j (hoB j (Option.mem_toList.1 hj)) hlt)
          exact h2.trans hfs (fun _ h _ => h) (fun j hj hlt => by obtain rfl : j = p := by simpa using hj
                                                                  exact hin j hpB hlt)
        · intro j hj
          simp only [List.mem_cons, Option.mem_toList] at hj
          rcases hj with rfl | hj
          · exact hB1 _ hpB
          · exact (hk5 j hj).2
      · have hmy' : mayF f = false := by simpa using hmy
        rw [hmy'] at hpo
        have HPO := Lib.hid hpo
        have HMY := Lib.hid hmy'
        clear hpo hmy hmy'
        go_wp2_with (go_at_call 69; refine (HPO.out _).mono ?_; rintro e w1 ⟨rfl, hf1⟩)
        refine ⟨⟨k + 1, B', by omega, by go_num, ?_, (HF.out.trans HFA.out (n := B) (fun _ h _ => h) (by simp)).trans hf1 (fun _ h _ => h) (by simp), HB1.out⟩, by simp [intOf]; omega⟩
        rw [HTK.out, HMY.out]
        exact (HM1.out.below HFA.out).below hf1
    · have hd2 : decide (k < fl.length) = false := decide_eq_false hkn
      obtain rfl : k = fl.length := by omega
      rw [List.take_length] at hM
      have HMM := Lib.hid hM
      obtain ⟨v, hB2, hp, ho⟩ := hM
      obtain ⟨a2, c2, rfl, -, -⟩ := owns_slice ho
      obtain ⟨x0, x1, x2, -, -, -⟩ := three_of_heap hp
      have hll := HL0.out
      rw [List.length_append, ← hll] at x2
      obtain ⟨L1, hL1⟩ : ∃ L1, L1 = (armF fl n).length := ⟨_, rfl⟩
      have hle1 := armF_le fl n
      rw [← hL1] at x2 hle1
      have HL1 := Lib.hid hL1
      have HF := Lib.hid hf
      have HB1 := Lib.hid hB'
      clear hp ho hll hL1 hf hB' hB2
      go_wp2_with fail
      go_ret
      refine ⟨?_, B', HMM.out, HF.out, HB1.out⟩
      have e : (L0 : Int) + (L1 : Int) - (L0 : Int) = (L1 : Int) := by omega
      show Ending.returned (.int .i64 ((L0 : Int) + (L1 : Int) - (L0 : Int))) = _
      rw [e, HL1.out]
end Go.Proofs.YtmchnaojlnjmjaaGreat
