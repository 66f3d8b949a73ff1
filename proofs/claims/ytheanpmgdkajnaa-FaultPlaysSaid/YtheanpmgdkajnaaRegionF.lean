/- A region whose order is drawn, walked in one order up to where two writers may come up, and in both ways from there; the frame is any relation of worlds. -/
import Derived.Test.YtheanpmgdkajnaaRegion
namespace Go.Proofs.Ytheanpmgdkajnaa
open Go.RowKit

/-- Of the blocks below B only those of the list may have changed. -/
structure FrB (B : Nat) (l : List Nat) (w w' : World) : Prop where
  size : w.heap.size ≤ w'.heap.size
  block : ∀ k, k < B → k ∉ l → w'.heap[k]? = w.heap[k]?
theorem FrB.refl (B : Nat) (l : List Nat) (w : World) : FrB B l w w := ⟨Nat.le_refl _, fun _ _ _ => rfl⟩
theorem FrB.trans {B : Nat} {l : List Nat} {a b c : World} (h : FrB B l a b) (k : FrB B l b c) : FrB B l a c := ⟨Nat.le_trans h.size k.size, fun i hi hn => (k.block i hi hn).trans (h.block i hi hn)⟩
theorem FrB.of {B : Nat} {l m : List Nat} {a b : World} (h : Fr m a b) (hB : B ≤ a.heap.size) (hm : ∀ i ∈ m, i < B → i ∈ l) : FrB B l a b := ⟨h.size, fun k hk hn => h.block k (by omega) (fun q => hn (hm k q hk))⟩
theorem FrB.heap {B : Nat} {l : List Nat} {w w' : World} (h : FrB B l w w') {p : Nat} {o : Obj} (hp : w.heap[p]? = some o) (hB : p < B) (hn : p ∉ l) : w'.heap[p]? = some o := (h.block p hB hn).trans hp
theorem FrB.cell {B : Nat} {l : List Nat} {w w' : World} (h : FrB B l w w') {p : Addr} {v : Value} (hp : w.cell? p = some v) (hB : p.block < B) (hn : p.block ∉ l) : w'.cell? p = some v :=
  (World.cell?_of_block (h.block p.block hB hn)).trans hp

section
variable {P : Program} {ops : Array Oper} {Q : Exit → Act → World → Prop} {T : World → World → Prop}

theorem one_stepT {o : Oper} {a A : Act} {w : World} {d : Nat} (hT : ∀ w, T w w) (hv : valOp o.op = true) (hd : o.dst = some d) (hdl : d < a.tmps.size)
    (h : ∀ w', T w w' → wpList P ops (GQ fun a' w'' => w'' = w' ∧ a' = A) [o] a w') : ∃ v, YieldsIf P ops (T w) o v a ∧ A = a.put o.dst v := by
  by_cases hw : Region.wanted o (yielded ops a.tmps) = true
  · have key : ∀ w', T w w' → ∃ v, (execOp a.eval o).run P w' = .ok (.value v) w' ∧ a.put o.dst v = A := by
      intro w' hf
      have h1 := h w' hf
      unfold wpList at h1
      rw [if_pos hw] at h1
      rcases h1 with h1 | ⟨_, h1⟩
      · unfold Oper.wp at h1
        cases hr : (execOp a.eval o).run P w' with
        | ok x w1 =>
          obtain ⟨v, rfl⟩ := vals_execOp a.eval o hv P w' w1 x hr
          rw [hr] at h1
          obtain ⟨rfl, h2⟩ : w1 = w' ∧ a.put o.dst v = A := h1
          exact ⟨v, rfl, h2⟩
        | halt x w1 =>
          rw [hr] at h1
          cases x <;> exact h1.elim
      · exact (no_lets _ h1).elim
    obtain ⟨v, hv1, hv2⟩ := key w (hT w)
    refine ⟨v, .inl ⟨hw, fun w' hf => ?_⟩, hv2.symm⟩
    obtain ⟨u, hu1, hu2⟩ := key w' hf
    have : u = v := put_inj (a := a) (d := d) hdl (by rw [← hd, hu2, hv2])
    rw [hu1, this]
  · refine ⟨undef, .inr ⟨by simpa using hw, rfl⟩, ?_⟩
    have h1 := h w (hT w)
    unfold wpList at h1
    rw [if_neg hw] at h1
    exact h1.2.symm

/-- The walk: what writes is marked 'true'; K is what is asked behind the last. -/
def wpT (P : Program) (ops : Array Oper) (T : World → World → Prop) (K : Act → World → Prop) : List (Bool × Oper) → Act → World → Prop
  | [], a, w => K a w
  | (true, o) :: r, a, w => wpList P ops (GQ fun a' w' => T w w' ∧ a'.tmps.size = a.tmps.size ∧ wpT P ops T K r a' w') [o] a w
  | (false, o) :: r, a, w => ∃ A, (∀ w', T w w' → wpList P ops (GQ fun a' w'' => w'' = w' ∧ a' = A) [o] a w') ∧ wpT P ops T K r A w

def okPre (ops : Array Oper) (n : Nat) : List (Nat × Bool) → Array Bool → Bool
  | [], _ => true
  | (i, true) :: r, listed => Region.ready .any ops listed == [i] && okPre ops n r (listed.setIfInBounds i true)
  | (i, false) :: r, listed => (Region.ready .any ops listed).contains i && Region.free .any ops listed i &&
      (match ops[i]? with | some o => valOp o.op && (match o.dst with | some d => decide (d < n) | none => false) | none => false) && okPre ops n r (listed.setIfInBounds i true)
def afterL : List (Nat × Bool) → Array Bool → Array Bool
  | [], l => l
  | x :: r, l => afterL r (l.setIfInBounds x.1 true)

theorem wpT_sound (hT : ∀ w, T w w) (hTT : ∀ a b c, T a b → T b c → T a c) (hs : Region.noSelect ops = true) (hQ : ∀ c a d v w, Q (.panic c) (Act.put a d v) w → Q (.panic c) a w) (n m : Nat) (K : Act → World → Prop) :
    ∀ (order : List (Nat × Bool)) (listed : Array Bool) (fuel : Nat) (a : Act) (w : World), fuel = order.length + m → a.tmps.size = n → okPre ops n order listed = true →
      (∀ a w, a.tmps.size = n → K a w → wpAnyH P .any ops Q (T w) m (afterL order listed) a w) →
      wpT P ops T K (order.map fun x => (x.2, ops[x.1]?.getD default)) a w → wpAnyH P .any ops Q (T w) fuel listed a w
  | [], listed, fuel, a, w, hf, hn, hc, hK, h => by
    simp only [List.length_nil, Nat.zero_add] at hf
    subst hf
    exact hK a w hn h
  | (i, true) :: r, listed, fuel, a, w, hf, hn, hc, hK, h => by
    rw [List.length_cons, Nat.add_right_comm] at hf
    subst hf
    simp only [okPre, Bool.and_eq_true, beq_iff_eq] at hc
    refine wpAnyH_all hc.1 (by simp) ?_
    intro j hj
    obtain rfl := List.mem_singleton.1 hj
    have hmem : j ∈ Region.ready .any ops listed := by rw [hc.1]; simp
    obtain ⟨_, o, ho, _⟩ := mem_ready.1 hmem
    simp only [List.map_cons, ho, Option.getD_some, wpT] at h
    refine wpOp_of_list ho h ?_
    rintro a' w' ⟨hfr, hsz, hg⟩
    refine ⟨hfr, wpAnyH_mono (fun w2 h2 => hTT _ _ _ hfr h2) _ _ _ _ (wpT_sound hT hTT hs hQ n m K r _ _ a' w' rfl (hsz.trans hn) hc.2 hK hg)⟩
  | (i, false) :: r, listed, fuel, a, w, hf, hn, hc, hK, h => by
    rw [List.length_cons, Nat.add_right_comm] at hf
    subst hf
    simp only [okPre, Bool.and_eq_true] at hc
    obtain ⟨⟨⟨h1, h2⟩, h3⟩, h4⟩ := hc
    cases ho : ops[i]? with
    | none => rw [ho] at h3; simp at h3
    | some o =>
      rw [ho] at h3
      simp only [Bool.and_eq_true] at h3
      obtain ⟨hv, hd⟩ := h3
      cases hdst : o.dst with
      | none => rw [hdst] at hd; simp at hd
      | some d =>
        rw [hdst] at hd
        simp only [decide_eq_true_eq] at hd
        simp only [List.map_cons, ho, Option.getD_some, wpT] at h
        obtain ⟨A, hA, hg⟩ := h
        obtain ⟨v, hy, rfl⟩ := one_stepT hT hv hdst (by rw [hn]; exact hd) hA
        exact wpAnyH_take ho hs h2 h1 (fun c a w => hQ c a _ _ w) hy (hT w) (wpT_sound hT hTT hs hQ n m K r _ _ _ w rfl (by rw [size_put]; exact hn) h4 hK hg)

/-- The walk to the end, from any listing. -/
theorem wpT_done (hT : ∀ w, T w w) (hTT : ∀ a b c, T a b → T b c → T a c) (hs : Region.noSelect ops = true) (hQ : ∀ c a d v w, Q (.panic c) (Act.put a d v) w → Q (.panic c) a w) (n : Nat)
    (order : List (Nat × Bool)) (listed : Array Bool) (a : Act) (w : World) (hn : a.tmps.size = n) (hc : okPre ops n order listed = true) (he : Region.ready .any ops (afterL order listed) = [])
    (h : wpT P ops T (fun a w => Q .normal a w) (order.map fun x => (x.2, ops[x.1]?.getD default)) a w) : wpAnyH P .any ops Q (T w) order.length listed a w :=
  wpT_sound hT hTT hs hQ n 0 _ order listed _ a w rfl hn hc (fun a w _ hk => wpAnyH_done he hk 0) h

/-- What is asked where two writers may come up. -/
def forkT (P : Program) (ops : Array Oper) (Q : Exit → Act → World → Prop) (T : World → World → Prop) (i j : Nat) (ordI ordJ : List (Nat × Bool)) (a : Act) (w : World) : Prop :=
  wpT P ops T (fun a w => Q .normal a w) (((i, true) :: ordI).map fun x => (x.2, ops[x.1]?.getD default)) a w ∧
  wpT P ops T (fun a w => Q .normal a w) (((j, true) :: ordJ).map fun x => (x.2, ops[x.1]?.getD default)) a w

/-- THE LAW, with one fork. -/
theorem wp_region_F {id : Nat} {a : Act} {w : World} (T : World → World → Prop) (hT : ∀ w, T w w) (hTT : ∀ a b c, T a b → T b c → T a c) (pre : List (Nat × Bool)) (i j : Nat) (ordI ordJ : List (Nat × Bool)) (n : Nat) (hn : a.tmps.size = n) (hm : P.follows .mixedOrders = true) (hs : Region.noSelect ops = true)
    (hc : (pre.length + (ordI.length + 1) == ops.size && ordI.length == ordJ.length && okPre ops n pre (Array.replicate ops.size false) && Region.ready .any ops (afterL pre (Array.replicate ops.size false)) == [i, j] &&
      okPre ops n ordI ((afterL pre (Array.replicate ops.size false)).setIfInBounds i true) && Region.ready .any ops (afterL ordI ((afterL pre (Array.replicate ops.size false)).setIfInBounds i true)) == [] &&
      okPre ops n ordJ ((afterL pre (Array.replicate ops.size false)).setIfInBounds j true) && Region.ready .any ops (afterL ordJ ((afterL pre (Array.replicate ops.size false)).setIfInBounds j true)) == []) = true)
    (hQ : ∀ c a d v w, Q (.panic c) (Act.put a d v) w → Q (.panic c) a w)
    (h : wpT P ops T (forkT P ops Q T i j ordI ordJ) (pre.map fun x => (x.2, ops[x.1]?.getD default)) a w.drew) : (Code.region id ops true).wp P Q a w := by
  simp only [Bool.and_eq_true, beq_iff_eq] at hc
  obtain ⟨⟨⟨⟨⟨⟨⟨hlen, hl2⟩, hpre⟩, hrd⟩, hI⟩, hIe⟩, hJ⟩, hJe⟩ := hc
  refine wp_region_held (S := T w.drew) hm ?_
  rw [← hlen]
  rw [← hlen] at hpre hrd hI hIe hJ hJe
  refine wpT_sound hT hTT hs hQ n (ordI.length + 1) _ pre _ _ a w.drew rfl hn hpre ?_ h
  intro a w hn hk
  refine wpAnyH_all hrd (by simp) ?_
  intro x hx
  have hmem : x ∈ Region.ready .any ops (afterL pre (Array.replicate (pre.length + (ordI.length + 1)) false)) := by rw [hrd]; exact hx
  obtain ⟨_, o, ho, _⟩ := mem_ready.1 hmem
  have hx' : x = i ∨ x = j := by simpa using hx
  rcases hx' with rfl | rfl
  · have h1 := hk.1
    simp only [List.map_cons, ho, Option.getD_some, wpT] at h1
    refine wpOp_of_list ho h1 ?_
    rintro a' w' ⟨hfr, hsz, hg⟩
    exact ⟨hfr, wpAnyH_mono (fun w2 h2 => hTT _ _ _ hfr h2) _ _ _ _ (wpT_done hT hTT hs hQ n ordI _ a' w' (hsz.trans hn) hI hIe hg)⟩
  · have h1 := hk.2
    simp only [List.map_cons, ho, Option.getD_some, wpT] at h1
    refine wpOp_of_list ho h1 ?_
    rintro a' w' ⟨hfr, hsz, hg⟩
    have hdone := wpT_done hT hTT hs hQ n ordJ _ a' w' (hsz.trans hn) hJ hJe hg
    rw [← hl2] at hdone
    exact ⟨hfr, wpAnyH_mono (fun w2 h2 => hTT _ _ _ hfr h2) _ _ _ _ hdone⟩
/-- The law without a fork. -/
theorem wp_region_T {id : Nat} {a : Act} {w : World} (T : World → World → Prop) (hT : ∀ w, T w w) (hTT : ∀ a b c, T a b → T b c → T a c) (order : List (Nat × Bool)) (n : Nat) (hn : a.tmps.size = n) (hm : P.follows .mixedOrders = true) (hs : Region.noSelect ops = true)
    (hc : (order.length == ops.size && okPre ops n order (Array.replicate ops.size false) && Region.ready .any ops (afterL order (Array.replicate ops.size false)) == []) = true)
    (hQ : ∀ c a d v w, Q (.panic c) (Act.put a d v) w → Q (.panic c) a w)
    (h : wpT P ops T (fun a w => Q .normal a w) (order.map fun x => (x.2, ops[x.1]?.getD default)) a w.drew) : (Code.region id ops true).wp P Q a w := by
  simp only [Bool.and_eq_true, beq_iff_eq] at hc
  refine wp_region_held (S := T w.drew) hm ?_
  have := wpT_done hT hTT hs hQ n order _ a w.drew hn hc.1.2 hc.2 h
  rwa [hc.1.1] at this

theorem wpT_t {K : Act → World → Prop} {o : Oper} {r : List (Bool × Oper)} {a A : Act} {w : World} (h1 : ∀ w', T w w' → wpList P ops (GQ fun a' w'' => w'' = w' ∧ a' = A) [o] a w') (h2 : wpT P ops T K r A w) : wpT P ops T K ((false, o) :: r) a w := ⟨A, h1, h2⟩
theorem wpT_x {K : Act → World → Prop} {o : Oper} {r : List (Bool × Oper)} {a : Act} {w : World} (h : wpList P ops (GQ fun a' w' => T w w' ∧ a'.tmps.size = a.tmps.size ∧ wpT P ops T K r a' w') [o] a w) : wpT P ops T K ((true, o) :: r) a w := h
theorem wpT_end {K : Act → World → Prop} {a : Act} {w : World} (h : K a w) : wpT P ops T K [] a w := h
end
end Go.Proofs.Ytheanpmgdkajnaa
