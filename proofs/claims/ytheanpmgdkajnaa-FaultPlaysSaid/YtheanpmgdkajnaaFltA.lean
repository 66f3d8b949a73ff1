/- Package fault: the meter; New, Steps, Down, Fall, Rise, possible, failure; the statement's own 'may'. -/
import Derived.Test.YtheanpmgdkajnaaFaultMath
import Derived.Test.YtheanpmgdkajnaaKit
import Derived.Test.YtheanpmgdkajnaaRow
import Derived.Test.YtheanpmgdkajnaaRegionZ
import Derived.LoopTactic
namespace Go.Proofs.Ytheanpmgdkajnaa
open Go.RowKit

/-- A fault as the program's cells, and as a value. -/
def FltD.cells (f : FltD) : List Value := [.int .i64 f.at_, .int .i64 f.kind]
def FltD.val (f : FltD) : Value := .agg #[.int .i64 f.at_, .int .i64 f.kind]
def fcells (l : List FltD) : List Value := (l.map FltD.cells).flatten
theorem fcells_nil : fcells [] = [] := rfl
theorem fcells_cons (f : FltD) (l : List FltD) : fcells (f :: l) = .int .i64 f.at_ :: .int .i64 f.kind :: fcells l := rfl
theorem fcells_append (a b : List FltD) : fcells (a ++ b) = fcells a ++ fcells b := by simp [fcells]
theorem fcells_length (l : List FltD) : (fcells l).length = l.length * 2 := by
  induction l with
  | nil => rfl
  | cons f r ih => rw [fcells_cons]; simp [ih]; omega

theorem owns_slice {w : World} {base : Nat} {e : TypeId} {size : Nat} {v : Value} {n : Nat} {xs : List Value} (h : w.ownsRow base e size v n xs) : ∃ a cap, v = .slice a n cap ∧ n ≤ cap ∧ cap ≤ maxLen := by
  rcases h.2 with ⟨rfl, h0⟩ | ⟨g, cap, cur, rfl, _, _, h1, h2, _⟩
  · exact ⟨_, _, by rw [h0], by omega, by simp⟩
  · exact ⟨_, _, rfl, h1, h2⟩
/-- A row of the call's own, as a slice of elements. -/
theorem elems_of_owns {w : World} {base sz : Nat} {e : TypeId} {v : Value} {xs : List (List Value)} (h : w.ownsRow base e sz v xs.length xs.flatten) (hs : ∀ x ∈ xs, x.length = sz) : elemsAt w v sz xs := by
  have hc := fun g hg => h.cells (g := g) hg
  rcases h.2 with ⟨rfl, h0⟩ | ⟨g, cap, cur, rfl, hb, hg, hn, hm, hsz, ht⟩
  · exact .inl ⟨_, _, rfl, by simp, List.eq_nil_of_length_eq_zero h0⟩
  · refine .inr ⟨g, 0, cap, rfl, hn, hm, (Array.getElem?_eq_some_iff.1 hg).1, fun i hi => ⟨hs _ (List.getElem_mem hi), fun j u hu => ?_⟩⟩
    have hj : j < sz := by
      rw [← hs _ (List.getElem_mem hi)]
      rcases Nat.lt_or_ge j (xs[i]'hi).length with q | q
      · exact q
      · rw [List.getElem?_eq_none q] at hu; cases hu
    have key : ∀ (ys : List (List Value)) (k : Nat) (hk : k < ys.length), (∀ x ∈ ys, x.length = sz) → ys.flatten[k * sz + j]? = (ys[k]'hk)[j]? := by
      intro ys
      induction ys with
      | nil => intro k hk; simp at hk
      | cons y r ih =>
        intro k hk hall
        have hy := hall y (by simp)
        match k, hk with
        | 0, _ => simp only [List.flatten_cons, Nat.zero_mul, Nat.zero_add, List.getElem_cons_zero]; rw [List.getElem?_append_left (by omega)]
        | k + 1, hk =>
          rw [List.flatten_cons, List.getElem?_append_right (by rw [hy, Nat.add_mul]; omega)]
          simp only [List.getElem_cons_succ]
          rw [← ih k (by simpa using hk) (fun x hx => hall x (by simp [hx]))]
          congr 1
          rw [hy, Nat.add_mul]; omega
    have := hc g rfl (i * sz + j) u (by rw [key xs i hi hs]; exact hu)
    have hadd : (⟨g, 0, none⟩ : Addr).add (i * sz + j) = ⟨g, 0 + i * sz + j, none⟩ := by unfold Addr.add; split <;> simp_all
    rwa [hadd] at this
/-- Faults in a slice. -/
def faultsAt (w : World) (v : Value) (l : List FltD) : Prop := elemsAt w v 2 (l.map FltD.cells)
theorem faultsAt.form {w : World} {v : Value} {l : List FltD} (h : faultsAt w v l) : ∃ a cap, v = .slice a l.length cap ∧ l.length ≤ cap ∧ cap ≤ maxLen := by
  obtain ⟨a, c, e, h1, h2⟩ := elemsAt.form h
  rw [List.length_map] at e h1
  exact ⟨a, c, e, h1, h2⟩
theorem faultsAt.kept {w w' : World} {v : Value} {l : List FltD} {L : List Nat} (h : faultsAt w v l) (hf : Fr L w w') (hn : ∀ k, v.ownBlock = some k → l ≠ [] → k < w.heap.size → k ∉ L) : faultsAt w' v l :=
  elemsAt.kept h hf (fun k hk hne hlt => hn k hk (by simpa using hne) hlt)
theorem faultsAt.below {w w' : World} {v : Value} {l : List FltD} (h : faultsAt w v l) (hf : Fr [] w w') : faultsAt w' v l := elemsAt.below h hf
theorem faults_of_owns {w : World} {base : Nat} {e : TypeId} {v : Value} {l : List FltD} (h : w.ownsRow base e 2 v l.length (fcells l)) : faultsAt w v l :=
  elems_of_owns (xs := l.map FltD.cells) (by rw [List.length_map]; exact h) (fun x hx => by obtain ⟨f, _, rfl⟩ := List.mem_map.1 hx; rfl)
/-- The cells of one fault of a list. -/
theorem faultsAt.get {w : World} {a0 : Option Addr} {n cap : Nat} {l : List FltD} (h : faultsAt w (.slice a0 n cap) l) (k : Nat) (hk : k < l.length) : ∃ b off, a0 = some ⟨b, off, none⟩ ∧ n = l.length ∧ b < w.heap.size ∧
    w.cell? ⟨b, off + k * 2, none⟩ = some (.int .i64 (l[k]'hk).at_) ∧ w.cell? ⟨b, off + k * 2 + 1, none⟩ = some (.int .i64 (l[k]'hk).kind) := by
  rcases h with ⟨_, _, _, _, e⟩ | ⟨b, off, cap', e, _, _, hb, hcell⟩
  · rw [List.map_eq_nil_iff] at e; subst e; simp at hk
  · simp only [Value.slice.injEq, List.length_map] at e
    obtain ⟨rfl, hn, rfl⟩ := e
    obtain ⟨-, h1⟩ := hcell k (by simpa using hk)
    rw [List.getElem_map] at h1
    exact ⟨b, off, rfl, hn, hb, by simpa using h1 0 _ rfl, h1 1 _ rfl⟩

/-- The meter at p: the blocks it lies in, its steps, whether it is down, what is armed (counted from the first step on). -/
def isM (w : World) (p : Nat) (B : List Nat) (n : Int) (dn : Bool) (l : List FltD) : Prop :=
  ∃ v, B = p :: v.ownBlock.toList ∧ w.heap[p]? = some (.cells #[.int .i64 n, .bool dn, v] 39 (0, 0)) ∧ w.ownsRow 0 31 2 v l.length (fcells l)
theorem isM.kept {w w' : World} {p : Nat} {B : List Nat} {n : Int} {dn : Bool} {l : List FltD} {L : List Nat} (h : isM w p B n dn l) (hf : Fr L w w') (hd : ∀ k ∈ B, k ∉ L) : isM w' p B n dn l := by
  obtain ⟨v, rfl, hp, ho⟩ := h
  exact ⟨v, rfl, hf.heap hp (hd _ (by simp)), owns_kept ho hf (fun k hk => hd k (by simp [hk]))⟩
theorem isM.below {w w' : World} {p : Nat} {B : List Nat} {n : Int} {dn : Bool} {l : List FltD} (h : isM w p B n dn l) (hf : Fr [] w w') : isM w' p B n dn l := h.kept hf (by simp)
theorem isM.lt {w : World} {p : Nat} {B : List Nat} {n : Int} {dn : Bool} {l : List FltD} (h : isM w p B n dn l) : ∀ k ∈ B, k < w.heap.size := by
  obtain ⟨v, rfl, hp, ho⟩ := h
  intro k hk
  simp only [List.mem_cons, Option.mem_toList] at hk
  rcases hk with rfl | hk
  · exact (Array.getElem?_eq_some_iff.1 hp).1
  · exact (ho.lt k hk).2
/-- The row is not the block of the meter. -/
theorem row_not_meter {w : World} {p : Nat} {a b c : Value} {v : Value} {m : Nat} {xs : List Value} (hp : w.heap[p]? = some (.cells #[a, b, c] 39 (0, 0))) (ho : w.ownsRow 0 31 2 v m xs) : ∀ k, v.ownBlock = some k → k ≠ p := by
  rintro k hk rfl
  rcases ho.2 with ⟨rfl, _⟩ | ⟨g, cap, cur, rfl, _, hg, _⟩
  · cases hk
  · cases hk
    rw [hp] at hg; simp at hg
theorem three_of_heap {w : World} {p : Nat} {a b c : Value} {t : TypeId} (h : w.heap[p]? = some (.cells #[a, b, c] t (0, 0))) :
    w.cell? ⟨p, 0, none⟩ = some a ∧ w.cell? ⟨p, 1, none⟩ = some b ∧ w.cell? ⟨p, 2, none⟩ = some c ∧ w.frozen? ⟨p, 0, none⟩ = false ∧ w.frozen? ⟨p, 1, none⟩ = false ∧ w.frozen? ⟨p, 2, none⟩ = false :=
  ⟨by rw [cell_of_heap h]; rfl, by rw [cell_of_heap h]; rfl, by rw [cell_of_heap h]; rfl, free_of_heap h 0, free_of_heap h 1, free_of_heap h 2⟩
/-- The meter behind a call that wrote it. -/
def TurnedM (p : Nat) (B : List Nat) (n : Int) (dn : Bool) (l : List FltD) (w w' : World) : Prop := ∃ B', isM w' p B' n dn l ∧ Fr B w w' ∧ ∀ k ∈ B', k ∈ B ∨ w.heap.size ≤ k

def Newm (w : World) (e : Ending) (w' : World) : Prop := ∃ p B, e = .returned (.pointer (some ⟨p, 0, none⟩)) ∧ isM w' p B 0 false [] ∧ Fr [] w w' ∧ ∀ k ∈ B, w.heap.size ≤ k
theorem mnew_any (w : World) : Calls Try.prog 5 #[] w (Newm w) := by
  go_enter Try.func5, Try.ntmps5
  go_wp2_with fail
  go_ret
  exact ⟨_, [w.heap.size], rfl, ⟨.slice none 0 0, rfl, heap_alloc_new _ _, World.ownsRow_nil _ _ _ _⟩, Fr.alloc _ _, by simp⟩
theorem msteps_any (p : Nat) (B : List Nat) (n : Int) (dn : Bool) (l : List FltD) (w : World) (h : isM w p B n dn l) :
    Calls Try.prog 12 #[.pointer (some ⟨p, 0, none⟩)] w fun e w' => e = .returned (.int .i64 n) ∧ w = w' := by
  obtain ⟨v, -, hp, -⟩ := h
  obtain ⟨c0, c1, c2, -, -, -⟩ := three_of_heap hp
  clear hp
  go_enter Try.func12, Try.ntmps12
  go_wp2_with fail
  go_ret
  exact ⟨rfl, rfl⟩
theorem mdown_any (p : Nat) (B : List Nat) (n : Int) (dn : Bool) (l : List FltD) (w : World) (h : isM w p B n dn l) :
    Calls Try.prog 13 #[.pointer (some ⟨p, 0, none⟩)] w fun e w' => e = .returned (.bool dn) ∧ w = w' := by
  obtain ⟨v, -, hp, -⟩ := h
  obtain ⟨c0, c1, c2, -, -, -⟩ := three_of_heap hp
  clear hp
  go_enter Try.func13, Try.ntmps13
  go_wp2_with fail
  go_ret
  exact ⟨rfl, rfl⟩
theorem mfall_any (p : Nat) (B : List Nat) (n : Int) (dn : Bool) (l : List FltD) (w : World) (h : isM w p B n dn l) :
    Calls Try.prog 9 #[.pointer (some ⟨p, 0, none⟩)] w fun e w' => e = .returned (.tuple #[]) ∧ TurnedM p B n true l w w' := by
  obtain ⟨v, rfl, hp, ho⟩ := h
  obtain ⟨c0, c1, c2, f0, f1, f2⟩ := three_of_heap hp
  have HP := Lib.hid hp
  have HO := Lib.hid ho
  clear hp ho
  go_enter Try.func9, Try.ntmps9
  go_wp2_with fail
  go_end0
  have hfs := Fr.set0 w p 1 (.bool true)
  exact ⟨rfl, _, ⟨v, rfl, by simpa using heap_setCell_same (i := 1) HP.out (.bool true), owns_kept HO.out hfs (fun k hk => by simpa using row_not_meter HP.out HO.out k hk)⟩, hfs.mono (by simp), fun k hk => .inl hk⟩
theorem mrise_any (p : Nat) (B : List Nat) (n : Int) (dn : Bool) (l : List FltD) (w : World) (h : isM w p B n dn l) :
    Calls Try.prog 10 #[.pointer (some ⟨p, 0, none⟩)] w fun e w' => e = .returned (.tuple #[]) ∧ TurnedM p B n false [] w w' := by
  obtain ⟨v, rfl, hp, ho⟩ := h
  obtain ⟨c0, c1, c2, f0, f1, f2⟩ := three_of_heap hp
  have HP := Lib.hid hp
  clear hp ho
  go_enter Try.func10, Try.ntmps10
  go_wp2_with fail
  go_end0
  have hfs := Fr.set0 w p 1 (.bool false)
  have h1 := heap_setCell_same (i := 1) HP.out (.bool false)
  have h2 := heap_setCell_same (i := 2) h1 (.slice none 0 0)
  have hft := Fr.set0 (w.setCell ⟨p, 1, none⟩ (.bool false)) p 2 (.slice none 0 0)
  exact ⟨rfl, [p], ⟨.slice none 0 0, rfl, by simpa using h2, World.ownsRow_nil _ _ _ _⟩, (hfs.trans hft (n := [p]) (by simp) (by simp)).mono (by simp), fun k hk => .inl (by simp at hk; simp [hk])⟩

/-- May a fault be armed? -/
def mayF (f : FltD) : Bool := decide (1 ≤ f.kind ∧ f.kind ≤ 3 ∧ 1 ≤ f.at_ ∧ f.at_ ≤ 1099511627776)
set_option maxRecDepth 100000 in
theorem possible_any (f : FltD) (w : World) : Calls Try.prog 18 #[f.val] w fun e w' => e = .returned (.bool (mayF f)) ∧ Fr [] w w' := by
  obtain ⟨a, k⟩ := f
  unfold FltD.val
  have hfa := Fr.alloc w (.cells #[.int .i64 a, .int .i64 k] 31)
  have hmk : mayF ⟨a, k⟩ = (decide (1 ≤ k) && (decide (k ≤ 3) && (decide (1 ≤ a) && decide (a ≤ 1099511627776)))) := by simp [mayF]
  rw [hmk]
  have HF := Lib.hid hfa
  clear hfa hmk
  obtain ⟨b1, hb1⟩ : ∃ b1, b1 = decide (1 ≤ k) := ⟨_, rfl⟩
  obtain ⟨b2, hb2⟩ : ∃ b2, b2 = decide (k ≤ 3) := ⟨_, rfl⟩
  obtain ⟨b3, hb3⟩ : ∃ b3, b3 = decide (1 ≤ a) := ⟨_, rfl⟩
  obtain ⟨b4, hb4⟩ : ∃ b4, b4 = decide (a ≤ 1099511627776) := ⟨_, rfl⟩
  rw [← hb1, ← hb2, ← hb3, ← hb4]
  have h1 := hb1.symm
  have h2 := hb2.symm
  have h3 := hb3.symm
  have h4 := hb4.symm
  clear hb1 hb2 hb3 hb4
  cases b1 <;> (try cases b2) <;> (try cases b3) <;> (try cases b4) <;>
    (go_enter Try.func18, Try.ntmps18
     go_wp2_with fail
     go_ret
     exact ⟨rfl, HF.out⟩)
end Go.Proofs.Ytheanpmgdkajnaa
