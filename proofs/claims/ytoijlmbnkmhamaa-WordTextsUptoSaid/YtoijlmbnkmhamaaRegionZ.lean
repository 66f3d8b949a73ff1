/- A law for a region that draws its order and whose last operation writes what others of it read: the frame is asked behind every operation but that one. It holds of every program; nothing here names the program. -/
import Derived.Test.YtoijlmbnkmhamaaRegion
namespace Go.Proofs.Ytoijlmbnkmhamaa

section
variable {P : Program} {ops : Array Oper} {Q : Exit → Act → World → Prop} {md : Region.Mode} {L : List Nat}

/-- Whatever order is drawn, T holds behind every operation but number z. -/
def anyZ (P : Program) (md : Region.Mode) (ops : Array Oper) (Q : Exit → Act → World → Prop) (z : Nat) (T : World → Prop) : Nat → Array Bool → Act → World → Prop
  | 0, listed, a, w => Region.ready md ops listed = [] ∧ Q .normal a w
  | n + 1, listed, a, w => (Region.ready md ops listed = [] → Q .normal a w) ∧
      ∀ i, i ∈ Region.ready md ops listed → wpOp P ops Q i (fun a' w' => (i = z ∨ T w') ∧ anyZ P md ops Q z T n (listed.setIfInBounds i true) a' w') a w

theorem anyZ_any {z : Nat} {T : World → Prop} (n : Nat) : ∀ (listed : Array Bool) (a : Act) (w : World), anyZ P md ops Q z T n listed a w → wpAny P md ops Q n listed a w := by
  induction n with
  | zero => exact fun _ _ _ h => h
  | succ n ih => exact fun listed a w h => ⟨h.1, fun i hi => wpOp_mono (fun a' w' h' => ih _ a' w' h'.2) (h.2 i hi)⟩
theorem anyZ_mono {z : Nat} {T T' : World → Prop} (hT : ∀ w, T' w → T w) (n : Nat) : ∀ (listed : Array Bool) (a : Act) (w : World), anyZ P md ops Q z T' n listed a w → anyZ P md ops Q z T n listed a w := by
  induction n with
  | zero => exact fun _ _ _ h => h
  | succ n ih => exact fun listed a w h => ⟨h.1, fun i hi => wpOp_mono (fun a' w' h' => ⟨h'.1.imp id (hT w'), ih _ a' w' h'.2⟩) (h.2 i hi)⟩

/-- Number z waits for number i. -/
def waits (md : Region.Mode) (ops : Array Oper) (z i : Nat) : Bool :=
  match ops[z]? with
  | some o => o.after.any fun e => Region.binds md e && e.on == i
  | none => false

/-- What yields the same in every world of T may be taken first, if z waits for it. -/
theorem anyZ_first {z i : Nat} {T : World → Prop} {oi : Oper} {v : Value} (hi : ops[i]? = some oi) (hz : waits md ops z i = true) (hsel : ∀ (j : Nat) (o : Oper) cs b, ops[j]? = some o → o.op ≠ .select cs b)
    (hQ : ∀ c a w, Q (.panic c) (a.put oi.dst v) w → Q (.panic c) a w) (n : Nat) : ∀ (listed : Array Bool) (a : Act) (w : World),
      (∀ j oj, ops[j]? = some oj → j ≠ i → listed.getD j true = false → (∀ e ∈ oj.after, Region.binds md e = true → e.on ≠ i) → oi.apart ops oj = true) →
      i ∈ Region.ready md ops listed → YieldsIf P ops T oi v a → T w →
      anyZ P md ops Q z T n (listed.setIfInBounds i true) (a.put oi.dst v) w → anyZ P md ops Q z T (n + 1) listed a w := by
  induction n with
  | zero =>
    intro listed a w _ hr hy hT H
    refine ⟨fun h => (by rw [h] at hr; cases hr), fun j hj => ?_⟩
    by_cases hji : j = i
    · subst hji
      exact hy.wpOp hi hT ⟨.inr hT, H⟩
    · have h0 := ready_mono hj hji
      rw [H.1] at h0
      cases h0
  | succ n ih =>
    intro listed a w hfree hr hy hT H
    refine ⟨fun h => (by rw [h] at hr; cases hr), fun j hj => ?_⟩
    by_cases hji : j = i
    · subst hji
      exact hy.wpOp hi hT ⟨.inr hT, H⟩
    · have h1 := H.2 j (ready_mono hj hji)
      obtain ⟨hjun, oj, hoj, hall⟩ := mem_ready.1 hj
      have hun := (mem_ready.1 hr).1
      have hnot : ∀ e ∈ oj.after, Region.binds md e = true → e.on ≠ i := by
        intro e he hb heq
        have h2 := hall e he hb
        rw [heq] at h2
        rcases Nat.lt_or_ge i listed.size with q | q
        · simp [q] at hun h2; rw [hun] at h2; cases h2
        · simp [Array.getElem?_eq_none q] at h2
      have hjz : j ≠ z := by
        intro e
        subst e
        simp only [waits, hoj] at hz
        obtain ⟨e, he, hb⟩ := Array.any_eq_true'.1 hz
        simp only [Bool.and_eq_true, beq_iff_eq] at hb
        exact hnot e he hb.1 hb.2
      have h2 := wpOp_putIf hoj (hfree j oj hoj hji hjun hnot) (fun cs b => hsel i oi cs b hi) (fun cs b => hsel j oj cs b hoj) hQ hy h1
      refine wpOp_mono (fun a' w' h3 => ?_) h2
      have hT' : T w' := h3.2.1.resolve_left hjz
      refine ⟨.inr hT', ih _ a' w' (fun k ok hk hki hku hno => hfree k ok hk hki ?_ hno) (ready_mono hr (Ne.symm hji)) h3.1 hT' ?_⟩
      · by_cases hjk : j = k
        · subst hjk; exact hjun
        · rw [getD_set_ne true hjk] at hku; exact hku
      · rw [Array.setIfInBounds_comm _ _ hji]
        exact h3.2.2

/-- The walk in one order: what writes is marked 'true'; behind the last operation nothing is asked. -/
def walkZ (P : Program) (ops : Array Oper) (Q : Exit → Act → World → Prop) (L : List Nat) : List (Bool × Oper) → Act → World → Prop
  | [], a, w => Q .normal a w
  | (true, o) :: r, a, w => wpList P ops (GQ fun a' w' => (r = [] ∨ Fr L w w') ∧ a'.tmps.size = a.tmps.size ∧ walkZ P ops Q L r a' w') [o] a w
  | (false, o) :: r, a, w => ∃ A, (∀ w', Fr L w w' → wpList P ops (GQ fun a' w'' => w'' = w' ∧ a' = A) [o] a w') ∧ walkZ P ops Q L r A w

/-- The order ends with z, which waits for everything that is taken first. -/
def okZ (ops : Array Oper) (n z : Nat) : List (Nat × Bool) → Array Bool → Bool
  | [], listed => Region.ready .any ops listed == []
  | (i, true) :: r, listed => Region.ready .any ops listed == [i] && (!r.isEmpty || i == z) && okZ ops n z r (listed.setIfInBounds i true)
  | (i, false) :: r, listed => (Region.ready .any ops listed).contains i && Region.free .any ops listed i && waits .any ops z i &&
      (match ops[i]? with | some o => valOp o.op && (match o.dst with | some d => decide (d < n) | none => false) | none => false) && okZ ops n z r (listed.setIfInBounds i true)

theorem walkZ_sound (hs : Region.noSelect ops = true) (hQ : ∀ c a d v w, Q (.panic c) (Act.put a d v) w → Q (.panic c) a w) (n z : Nat) :
    ∀ (order : List (Nat × Bool)) (listed : Array Bool) (fuel : Nat) (a : Act) (w : World), fuel = order.length → a.tmps.size = n → okZ ops n z order listed = true →
      walkZ P ops Q L (order.map fun x => (x.2, ops[x.1]?.getD default)) a w → anyZ P .any ops Q z (Fr L w) fuel listed a w
  | [], listed, fuel, a, w, hf, hn, hc, h => by
    subst hf
    exact ⟨by simpa [okZ] using hc, h⟩
  | (i, true) :: r, listed, fuel, a, w, hf, hn, hc, h => by
    subst hf
    simp only [okZ, Bool.and_eq_true, beq_iff_eq] at hc
    obtain ⟨⟨h1, h2⟩, h3⟩ := hc
    have hmem : i ∈ Region.ready .any ops listed := by rw [h1]; simp
    obtain ⟨_, o, ho, _⟩ := mem_ready.1 hmem
    simp only [List.map_cons, ho, Option.getD_some, walkZ] at h
    refine ⟨fun e => (by rw [h1] at e; cases e), fun j hj => ?_⟩
    rw [h1] at hj
    obtain rfl := List.mem_singleton.1 hj
    refine wpOp_of_list ho h ?_
    rintro a' w' ⟨hfr, hsz, hg⟩
    have hg' := walkZ_sound hs hQ n z r _ _ a' w' rfl (hsz.trans hn) h3 hg
    rcases hfr with hfr | hfr
    · have hr : r = [] := by simpa using hfr
      subst hr
      refine ⟨.inl (by simpa using h2), ?_⟩
      exact hg'
    · exact ⟨.inr hfr, anyZ_mono (fun w2 hw2 => hfr.trans hw2 (fun i hi _ => hi) (fun i hi _ => hi)) _ _ _ _ hg'⟩
  | (i, false) :: r, listed, fuel, a, w, hf, hn, hc, h => by
    subst hf
    simp only [okZ, Bool.and_eq_true] at hc
    obtain ⟨⟨⟨⟨h1, h2⟩, hw⟩, h3⟩, h4⟩ := hc
    cases ho : ops[i]? with
    | none => rw [ho] at h3; simp at h3
    | some o =>
      rw [ho] at h3
      simp only [Bool.and_eq_true] at h3
      obtain ⟨hv, hd⟩ := h3
      cases hdst : o.dst with
      | none => rw [hdst] at hd; simp at hd
      | some d =>
        rw [hdst] at hd
        simp only [decide_eq_true_eq] at hd
        simp only [List.map_cons, ho, Option.getD_some, walkZ] at h
        obtain ⟨A, hA, hg⟩ := h
        obtain ⟨v, hy, rfl⟩ := one_step hv hdst (by rw [hn]; exact hd) hA
        exact anyZ_first ho hw (Region.noSelect_spec hs) (fun c a w => hQ c a _ _ w) r.length listed a w (Region.free_spec ho h2) (by simpa using h1) hy (Fr.refl _ _)
          (walkZ_sound hs hQ n z r _ _ _ w rfl (by rw [size_put]; exact hn) h4 hg)

/-- THE LAW. -/
theorem wp_region_Z {id : Nat} {a : Act} {w : World} (L : List Nat) (z : Nat) (order : List (Nat × Bool)) (n : Nat) (hn : a.tmps.size = n) (hm : P.follows .mixedOrders = true) (hs : Region.noSelect ops = true)
    (hc : (order.length == ops.size && okZ ops n z order (Array.replicate ops.size false)) = true) (hQ : ∀ c a d v w, Q (.panic c) (Act.put a d v) w → Q (.panic c) a w)
    (h : ∀ wd, Fr [] w wd → walkZ P ops Q L (order.map fun x => (x.2, ops[x.1]?.getD default)) a wd) : (Code.region id ops true).wp P Q a w := by
  simp only [Bool.and_eq_true, beq_iff_eq] at hc
  exact wp_region_any hm (anyZ_any _ _ _ _ (walkZ_sound hs hQ n z order _ _ _ _ hc.1.symm hn hc.2 (h w.drew (Fr.drew w))))

theorem walkZ_t {o : Oper} {r : List (Bool × Oper)} {a A : Act} {w : World} (h1 : ∀ w', Fr L w w' → wpList P ops (GQ fun a' w'' => w'' = w' ∧ a' = A) [o] a w') (h2 : walkZ P ops Q L r A w) : walkZ P ops Q L ((false, o) :: r) a w := ⟨A, h1, h2⟩
theorem walkZ_x {o : Oper} {r : List (Bool × Oper)} {a : Act} {w : World} (h : wpList P ops (GQ fun a' w' => (r = [] ∨ Fr L w w') ∧ a'.tmps.size = a.tmps.size ∧ walkZ P ops Q L r a' w') [o] a w) : walkZ P ops Q L ((true, o) :: r) a w := h
theorem walkZ_end {a : Act} {w : World} (h : Q .normal a w) : walkZ P ops Q L [] a w := h
end
end Go.Proofs.Ytoijlmbnkmhamaa
