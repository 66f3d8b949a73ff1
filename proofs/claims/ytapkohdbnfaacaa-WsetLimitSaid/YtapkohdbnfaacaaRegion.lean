/- A region whose order is drawn, walked in ONE order: what is only read is taken as soon as it may come up; what writes comes up alone. -/
import Derived.Test.YtapkohdbnfaacaaBase
import Derived.OrdersHeld
import Derived.RegionTactic
set_option linter.unusedVariables false
set_option linter.unusedSimpArgs false
namespace Go.Proofs.Ytapkohdbnfaacaa
open Go.RowKit

def GQ (R : Act → World → Prop) : Exit → Act → World → Prop
  | .normal, a, w => R a w
  | _, _, _ => False

/-- The operations that yield a value, and nothing else, where they run to their end. -/
def valOp : Op → Bool
  | .move _ | .assign _ | .pick .. | .load .. | .nilCheck _ | .binOp .. | .unOp .. | .convert .. | .slice .. | .fieldAddr .. | .field .. | .indexAddr .. | .index .. | .lookup .. | .extract .. | .build .. | .sliceToArrayPointer .. => true
  | .call { callee := .builtin .len, .. } | .call { callee := .builtin .cap, .. } | .call { callee := .builtin .min, .. } | .call { callee := .builtin .max, .. } => true
  | _ => false

def Vals (m : Sem Next) : Prop := ∀ (P : Program) (w w' : World) (x : Next), m.run P w = .ok x w' → ∃ v, x = .value v
theorem vals_pure (v : Value) : Vals (pure (.value v)) := by
  intro P w w' x h
  rw [Sem.run_pure] at h
  cases h
  exact ⟨v, rfl⟩
theorem vals_bind (s : Sem Value) : Vals (do pure (.value (← s))) := by
  intro P w w' x h
  rw [Sem.run_bind] at h
  cases hs : s.run P w with
  | ok v w1 =>
    rw [hs] at h
    simp only [Result.andThen_ok, Sem.run_pure] at h
    cases h
    exact ⟨v, rfl⟩
  | halt x w1 => rw [hs] at h; cases h
theorem vals_halt (h : Halt) : Vals (Sem.halt h) := by
  intro P w w' x h
  cases h

theorem vals_then {α : Type} (m : Sem α) (f : α → Sem Next) (h : ∀ a, Vals (f a)) : Vals (m >>= f) := by
  intro P w w' x hr
  rw [Sem.run_bind] at hr
  cases hs : m.run P w with
  | ok v w1 =>
    rw [hs] at hr
    simp only [Result.andThen_ok] at hr
    exact h v P w1 w' x hr
  | halt x w1 => rw [hs] at hr; cases hr
theorem vals_panic : Vals (runtimePanic .nilDeref) := vals_then _ _ fun _ => vals_halt _
theorem vals_execOp (ρ : Operand → Value) (o : Oper) (h : valOp o.op = true) : Vals (execOp ρ o) := by
  obtain ⟨dst, op, type, pos, after, guard⟩ := o
  cases op
  case move x => exact vals_pure _
  case assign x => exact vals_pure _
  case pick c a b =>
    intro P w w' x h
    simp only [execOp, Sem.run_bind] at h
    cases hs : (asBool (ρ c)).run P w with
    | ok v w1 =>
      rw [hs] at h
      simp only [Result.andThen_ok, Sem.run_pure] at h
      cases h
      exact ⟨_, rfl⟩
    | halt x w1 => rw [hs] at h; cases h
  case load => exact vals_bind _
  case binOp => exact vals_bind _
  case unOp => exact vals_bind _
  case convert => exact vals_bind _
  case slice => exact vals_bind _
  case fieldAddr => exact vals_bind _
  case field => exact vals_bind _
  case indexAddr => exact vals_bind _
  case index => exact vals_bind _
  case lookup => exact vals_bind _
  case extract => exact vals_bind _
  case build => exact vals_bind _
  case sliceToArrayPointer => exact vals_bind _
  case nilCheck x =>
    unfold execOp
    dsimp only
    split
    · exact vals_panic
    · exact vals_panic
    · exact vals_panic
    · split
      · exact vals_panic
      · refine vals_then _ _ fun p => vals_then _ _ fun b => ?_
        split
        · exact vals_then _ _ fun _ => vals_pure _
        · exact vals_pure _
      · exact vals_pure _
    · exact vals_pure _
  case call c =>
    obtain ⟨callee, args, ats⟩ := c
    cases callee with
    | builtin b =>
      cases b <;> first | (simp [valOp] at h; done) | exact vals_bind _
    | value f => simp [valOp] at h
    | invoke r m => simp [valOp] at h
  all_goals simp [valOp] at h

section
variable {P : Program} {ops : Array Oper} {Q : Exit → Act → World → Prop} {L : List Nat}

theorem put_inj {a : Act} {d : Nat} {v u : Value} (hd : d < a.tmps.size) (h : a.put (some d) v = a.put (some d) u) : v = u := by
  have : (a.put (some d) v).tmps[d]? = (a.put (some d) u).tmps[d]? := by rw [h]
  simpa [Act.put, hd] using this

theorem no_lets (R : Act → World → Prop) : ¬ LetsOut (GQ R) := by
  rintro ⟨a, w, h⟩
  exact h

/-- One operation that yields the same in every world of those to come. -/
theorem one_step {o : Oper} {a A : Act} {w : World} {d : Nat} (hv : valOp o.op = true) (hd : o.dst = some d) (hdl : d < a.tmps.size)
    (h : ∀ w', Fr L w w' → wpList P ops (GQ fun a' w'' => w'' = w' ∧ a' = A) [o] a w') : ∃ v, YieldsIf P ops (Fr L w) o v a ∧ A = a.put o.dst v := by
  by_cases hw : Region.wanted o (yielded ops a.tmps) = true
  · have key : ∀ w', Fr L w w' → ∃ v, (execOp a.eval o).run P w' = .ok (.value v) w' ∧ a.put o.dst v = A := by
      intro w' hf
      have h1 := h w' hf
      unfold wpList at h1
      rw [if_pos hw] at h1
      rcases h1 with h1 | ⟨_, h1⟩
      · unfold Oper.wp at h1
        cases hr : (execOp a.eval o).run P w' with
        | ok x w1 =>
          obtain ⟨v, rfl⟩ := vals_execOp a.eval o hv P w' w1 x hr
          rw [hr] at h1
          obtain ⟨rfl, h2⟩ : w1 = w' ∧ a.put o.dst v = A := h1
          exact ⟨v, rfl, h2⟩
        | halt x w1 =>
          rw [hr] at h1
          cases x <;> exact h1.elim
      · exact (no_lets _ h1).elim
    obtain ⟨v, hv1, hv2⟩ := key w (Fr.refl _ _)
    refine ⟨v, .inl ⟨hw, fun w' hf => ?_⟩, hv2.symm⟩
    obtain ⟨u, hu1, hu2⟩ := key w' hf
    have : u = v := put_inj (a := a) (d := d) hdl (by rw [← hd, hu2, hv2])
    rw [hu1, this]
  · refine ⟨undef, .inr ⟨by simpa using hw, rfl⟩, ?_⟩
    have h1 := h w (Fr.refl _ _)
    unfold wpList at h1
    rw [if_neg hw] at h1
    exact h1.2.symm

theorem wpAnyH_mono {md : Region.Mode} {S S' : World → Prop} (hS : ∀ w, S' w → S w) : ∀ (fuel : Nat) (listed : Array Bool) (a : Act) (w : World), wpAnyH P md ops Q S' fuel listed a w → wpAnyH P md ops Q S fuel listed a w
  | 0, _, _, _, h => h
  | fuel + 1, _, _, _, h => ⟨h.1, fun i hi => wpOp_mono (fun a' w' h' => ⟨hS _ h'.1, wpAnyH_mono hS fuel _ a' w' h'.2⟩) (h.2 i hi)⟩

/-- From the walk of one operation without a panic to the region's own word. -/
theorem wpOp_of_list {i : Nat} {o : Oper} {a : Act} {w : World} {R K : Act → World → Prop} (hi : ops[i]? = some o) (h : wpList P ops (GQ R) [o] a w) (hK : ∀ a w, R a w → K a w) : wpOp P ops Q i K a w := by
  unfold wpOp
  simp only [hi]
  unfold wpList at h
  split
  · rename_i hw
    rw [if_pos hw] at h
    rcases h with h | ⟨_, h⟩
    · left
      unfold Oper.wp at *
      generalize (execOp a.eval o).run P w = r at *
      cases r with
      | ok n w' =>
        cases n <;> simp only [Oper.upon] at h ⊢ <;>
          first
            | exact hK _ _ h
            | exact Calls.mono h (fun e w'' he => by cases e <;> first | exact hK _ _ he | exact (no_lets _ he).elim | exact False.elim he)
            | exact Rows.mono h (fun _ _ he => hK _ _ he)
      | halt x w' => cases x <;> simp only [Oper.upon] at h ⊢ <;> exact h.elim
    · exact (no_lets _ h).elim
  · rename_i hw
    rw [if_neg hw] at h
    exact hK _ _ h

/-- The order in which the region is walked: what writes is marked 'true'. -/
def okOrder (ops : Array Oper) (n : Nat) : List (Nat × Bool) → Array Bool → Bool
  | [], listed => Region.ready .any ops listed == []
  | (i, true) :: r, listed => Region.ready .any ops listed == [i] && okOrder ops n r (listed.setIfInBounds i true)
  | (i, false) :: r, listed => (Region.ready .any ops listed).contains i && Region.free .any ops listed i &&
      (match ops[i]? with | some o => valOp o.op && (match o.dst with | some d => decide (d < n) | none => false) | none => false) && okOrder ops n r (listed.setIfInBounds i true)

def wpG (P : Program) (ops : Array Oper) (Q : Exit → Act → World → Prop) (L : List Nat) : List (Bool × Oper) → Act → World → Prop
  | [], a, w => Q .normal a w
  | (true, o) :: r, a, w => wpList P ops (GQ fun a' w' => Fr L w w' ∧ a'.tmps.size = a.tmps.size ∧ wpG P ops Q L r a' w') [o] a w
  | (false, o) :: r, a, w => ∃ A, (∀ w', Fr L w w' → wpList P ops (GQ fun a' w'' => w'' = w' ∧ a' = A) [o] a w') ∧ wpG P ops Q L r A w

theorem size_put (a : Act) (d : Option Tmp) (v : Value) : (a.put d v).tmps.size = a.tmps.size := by
  cases d <;> simp [Act.put]

theorem wpG_sound (hs : Region.noSelect ops = true) (hQ : ∀ c a d v w, Q (.panic c) (Act.put a d v) w → Q (.panic c) a w) (n : Nat) :
    ∀ (order : List (Nat × Bool)) (listed : Array Bool) (fuel : Nat) (a : Act) (w : World), fuel = order.length → a.tmps.size = n → okOrder ops n order listed = true →
      wpG P ops Q L (order.map fun x => (x.2, ops[x.1]?.getD default)) a w → wpAnyH P .any ops Q (Fr L w) fuel listed a w
  | [], listed, fuel, a, w, hf, hn, hc, h => by
    subst hf
    exact wpAnyH_done (by simpa [okOrder] using hc) h _
  | (i, true) :: r, listed, fuel, a, w, hf, hn, hc, h => by
    subst hf
    simp only [okOrder, Bool.and_eq_true, beq_iff_eq] at hc
    refine wpAnyH_all hc.1 (by simp) ?_
    intro j hj
    obtain rfl := List.mem_singleton.1 hj
    have hmem : j ∈ Region.ready .any ops listed := by rw [hc.1]; simp
    obtain ⟨_, o, ho, _⟩ := mem_ready.1 hmem
    simp only [List.map_cons, ho, Option.getD_some, wpG] at h
    refine wpOp_of_list ho h ?_
    rintro a' w' ⟨hfr, hsz, hg⟩
    refine ⟨hfr, wpAnyH_mono (fun w2 h2 => hfr.trans h2 (fun i hi _ => hi) (fun i hi _ => hi)) _ _ _ _ (wpG_sound hs hQ n r _ _ a' w' rfl (hsz.trans hn) hc.2 hg)⟩
  | (i, false) :: r, listed, fuel, a, w, hf, hn, hc, h => by
    subst hf
    simp only [okOrder, Bool.and_eq_true] at hc
    obtain ⟨⟨⟨h1, h2⟩, h3⟩, h4⟩ := hc
    cases ho : ops[i]? with
    | none => rw [ho] at h3; simp at h3
    | some o =>
      rw [ho] at h3
      simp only [Bool.and_eq_true] at h3
      obtain ⟨hv, hd⟩ := h3
      cases hdst : o.dst with
      | none => rw [hdst] at hd; simp at hd
      | some d =>
        rw [hdst] at hd
        simp only [decide_eq_true_eq] at hd
        simp only [List.map_cons, ho, Option.getD_some, wpG] at h
        obtain ⟨A, hA, hg⟩ := h
        obtain ⟨v, hy, rfl⟩ := one_step hv hdst (by rw [hn]; exact hd) hA
        exact wpAnyH_take ho hs h2 h1 (fun c a w => hQ c a _ _ w) hy (Fr.refl _ _) (wpG_sound hs hQ n r _ _ _ w rfl (by rw [size_put]; exact hn) h4 hg)

/-- THE LAW: a region that draws its order, walked in the one order that is given. -/
theorem wp_region_G {id : Nat} {a : Act} {w : World} (L : List Nat) (order : List (Nat × Bool)) (n : Nat) (hn : a.tmps.size = n) (hm : P.follows .mixedOrders = true) (hs : Region.noSelect ops = true)
    (hc : (order.length == ops.size && okOrder ops n order (Array.replicate ops.size false)) = true) (hQ : ∀ c a d v w, Q (.panic c) (Act.put a d v) w → Q (.panic c) a w)
    (h : ∀ wd, Fr [] w wd → wpG P ops Q L (order.map fun x => (x.2, ops[x.1]?.getD default)) a wd) : (Code.region id ops true).wp P Q a w := by
  simp only [Bool.and_eq_true, beq_iff_eq] at hc
  exact wp_region_held hm (wpG_sound hs hQ n order _ _ _ _ hc.1.symm hn hc.2 (h w.drew (Fr.drew w)))

/-- The same, from the world behind the draw by its name. -/
theorem wp_region_W {id : Nat} {a : Act} {w : World} (L : List Nat) (order : List (Nat × Bool)) (n : Nat) (hn : a.tmps.size = n) (hm : P.follows .mixedOrders = true) (hs : Region.noSelect ops = true)
    (hc : (order.length == ops.size && okOrder ops n order (Array.replicate ops.size false)) = true) (hQ : ∀ c a d v w, Q (.panic c) (Act.put a d v) w → Q (.panic c) a w)
    (h : wpG P ops Q L (order.map fun x => (x.2, ops[x.1]?.getD default)) a w.drew) : (Code.region id ops true).wp P Q a w := by
  simp only [Bool.and_eq_true, beq_iff_eq] at hc
  exact wp_region_held hm (wpG_sound hs hQ n order _ _ _ _ hc.1.symm hn hc.2 h)

theorem wpG_t {o : Oper} {r : List (Bool × Oper)} {a A : Act} {w : World} (h1 : ∀ w', Fr L w w' → wpList P ops (GQ fun a' w'' => w'' = w' ∧ a' = A) [o] a w') (h2 : wpG P ops Q L r A w) : wpG P ops Q L ((false, o) :: r) a w := ⟨A, h1, h2⟩
theorem wpG_x {o : Oper} {r : List (Bool × Oper)} {a : Act} {w : World} (h : wpList P ops (GQ fun a' w' => Fr L w w' ∧ a'.tmps.size = a.tmps.size ∧ wpG P ops Q L r a' w') [o] a w) : wpG P ops Q L ((true, o) :: r) a w := h
theorem wpG_end {a : Act} {w : World} (h : Q .normal a w) : wpG P ops Q L [] a w := h

/-- What holds in every world to come. -/
def Later (L : List Nat) (w : World) (p : World → Prop) : Prop := ∀ w', Fr L w w' → p w'
theorem Later.next {w w2 : World} {p : World → Prop} (h : Later L w p) (hf : Fr L w w2) : Later L w2 p := fun w' hf' => h w' (hf.trans hf' (fun _ hi _ => hi) (fun _ hi _ => hi))
theorem Later.now {w : World} {p : World → Prop} (h : Later L w p) : p w := h w (Fr.refl _ _)
theorem Later.conv {w : World} {v : Value} {bs : List UInt8} (hb : bytesAt w v bs) (hn : ∀ k, v.ownBlock = some k → bs ≠ [] → k < w.heap.size → k ∉ L) (src e dst : TypeId) (hs : P.underlying src = some (.slice e)) (he : P.underlying e = some (.int .u8)) (hd : P.underlying dst = some .string) :
    Later L w fun w' => (convert src dst v).run P w' = .ok (.string ⟨bs.toArray⟩) w' := fun _ hf => run_conv_bytes (hb.kept hf hn) src e dst hs he hd
end

end Go.Proofs.Ytapkohdbnfaacaa
