/- As RegionY, but the frame is not asked behind several operations that come last, each of which has to wait for what is taken first. It holds of every program; nothing here names the program. -/
import Derived.Test.YtoijlmbnkmhamaaRegionY
namespace Go.Proofs.Ytoijlmbnkmhamaa

section
variable {P : Program} {ops : Array Oper} {Q : Exit → Act → World → Prop} {md : Region.Mode} {L : List Nat}

/-- Whatever order is drawn, T holds behind every operation but those of zs. -/
def anyQ (P : Program) (md : Region.Mode) (ops : Array Oper) (Q : Exit → Act → World → Prop) (zs : List Nat) (T : World → Prop) : Nat → Array Bool → Act → World → Prop
  | 0, listed, a, w => Region.ready md ops listed = [] ∧ Q .normal a w
  | n + 1, listed, a, w => (Region.ready md ops listed = [] → Q .normal a w) ∧
      ∀ i, i ∈ Region.ready md ops listed → wpOp P ops Q i (fun a' w' => (i ∈ zs ∨ T w') ∧ anyQ P md ops Q zs T n (listed.setIfInBounds i true) a' w') a w
theorem anyQ_any {zs : List Nat} {T : World → Prop} (n : Nat) : ∀ (listed : Array Bool) (a : Act) (w : World), anyQ P md ops Q zs T n listed a w → wpAny P md ops Q n listed a w := by
  induction n with
  | zero => exact fun _ _ _ h => h
  | succ n ih => exact fun listed a w h => ⟨h.1, fun i hi => wpOp_mono (fun a' w' h' => ih _ a' w' h'.2) (h.2 i hi)⟩
theorem anyQ_mono {zs : List Nat} {T T' : World → Prop} (hT : ∀ w, T' w → T w) (n : Nat) : ∀ (listed : Array Bool) (a : Act) (w : World), anyQ P md ops Q zs T' n listed a w → anyQ P md ops Q zs T n listed a w := by
  induction n with
  | zero => exact fun _ _ _ h => h
  | succ n ih => exact fun listed a w h => ⟨h.1, fun i hi => wpOp_mono (fun a' w' h' => ⟨h'.1.imp id (hT w'), ih _ a' w' h'.2⟩) (h.2 i hi)⟩
theorem anyQ_first {zs : List Nat} {i m : Nat} {T : World → Prop} {oi : Oper} {v : Value} (hi : ops[i]? = some oi) (hz : ∀ z ∈ zs, waitsY md ops i m z = true) (hsel : ∀ (j : Nat) (o : Oper) cs b, ops[j]? = some o → o.op ≠ .select cs b)
    (hQ : ∀ c a w, Q (.panic c) (a.put oi.dst v) w → Q (.panic c) a w) (n : Nat) : ∀ (listed : Array Bool) (a : Act) (w : World), closedY md ops listed →
      (∀ j oj, ops[j]? = some oj → j ≠ i → listed.getD j true = false → (∀ e ∈ oj.after, Region.binds md e = true → e.on ≠ i) → oi.apart ops oj = true) →
      i ∈ Region.ready md ops listed → YieldsIf P ops T oi v a → T w →
      anyQ P md ops Q zs T n (listed.setIfInBounds i true) (a.put oi.dst v) w → anyQ P md ops Q zs T (n + 1) listed a w := by
  induction n with
  | zero =>
    intro listed a w _ _ hr hy hT H
    refine ⟨fun h => (by rw [h] at hr; cases hr), fun j hj => ?_⟩
    by_cases hji : j = i
    · subst hji
      exact hy.wpOp hi hT ⟨.inr hT, H⟩
    · have h0 := ready_mono hj hji
      rw [H.1] at h0
      cases h0
  | succ n ih =>
    intro listed a w hcl hfree hr hy hT H
    refine ⟨fun h => (by rw [h] at hr; cases hr), fun j hj => ?_⟩
    by_cases hji : j = i
    · subst hji
      exact hy.wpOp hi hT ⟨.inr hT, H⟩
    · have h1 := H.2 j (ready_mono hj hji)
      obtain ⟨hjun, oj, hoj, hall⟩ := mem_ready.1 hj
      have hun := (mem_ready.1 hr).1
      have hnot : ∀ e ∈ oj.after, Region.binds md e = true → e.on ≠ i := by
        intro e he hb heq
        have h2 := hall e he hb
        rw [heq] at h2
        rcases Nat.lt_or_ge i listed.size with q | q
        · simp [q] at hun h2; rw [hun] at h2; cases h2
        · simp [Array.getElem?_eq_none q] at h2
      have hjz : j ∉ zs := by
        intro hm
        have h2 := waitsY_listed hcl i m j (hz j hm) (fun o ho e he hb => by rw [hoj] at ho; cases ho; exact hall e he hb)
        rcases Nat.lt_or_ge i listed.size with q | q
        · simp [q] at hun h2; rw [hun] at h2; cases h2
        · simp [Array.getElem?_eq_none q] at h2
      have h2 := wpOp_putIf hoj (hfree j oj hoj hji hjun hnot) (fun cs b => hsel i oi cs b hi) (fun cs b => hsel j oj cs b hoj) hQ hy h1
      refine wpOp_mono (fun a' w' h3 => ?_) h2
      have hT' : T w' := h3.2.1.resolve_left hjz
      refine ⟨.inr hT', ih _ a' w' (hcl.set hj) (fun k ok hk hki hku hno => hfree k ok hk hki ?_ hno) (ready_mono hr (Ne.symm hji)) h3.1 hT' ?_⟩
      · by_cases hjk : j = k
        · subst hjk; exact hjun
        · rw [getD_set_ne true hjk] at hku; exact hku
      · rw [Array.setIfInBounds_comm _ _ hji]
        exact h3.2.2
/-- The walk in one order: 0 reads, 1 changes the blocks of L alone, 2 whatever it does, nothing but the like comes behind it. -/
def walkQ (P : Program) (ops : Array Oper) (Q : Exit → Act → World → Prop) (L : List Nat) : List (Nat × Oper) → Act → World → Prop
  | [], a, w => Q .normal a w
  | (0, o) :: r, a, w => ∃ A, (∀ w', Fr L w w' → wpList P ops (GQ fun a' w'' => w'' = w' ∧ a' = A) [o] a w') ∧ walkQ P ops Q L r A w
  | (1, o) :: r, a, w => wpList P ops (GQ fun a' w' => Fr L w w' ∧ a'.tmps.size = a.tmps.size ∧ walkQ P ops Q L r a' w') [o] a w
  | (_ + 2, o) :: r, a, w => wpList P ops (GQ fun a' w' => a'.tmps.size = a.tmps.size ∧ walkQ P ops Q L r a' w') [o] a w
def okQ (ops : Array Oper) (n : Nat) (zs : List Nat) : List (Nat × Nat) → Array Bool → Bool
  | [], listed => Region.ready .any ops listed == []
  | (i, 0) :: r, listed => (Region.ready .any ops listed).contains i && Region.free .any ops listed i && zs.all (waitsY .any ops i ops.size) &&
      (match ops[i]? with | some o => valOp o.op && (match o.dst with | some d => decide (d < n) | none => false) | none => false) && okQ ops n zs r (listed.setIfInBounds i true)
  | (i, 1) :: r, listed => Region.ready .any ops listed == [i] && okQ ops n zs r (listed.setIfInBounds i true)
  | (i, _ + 2) :: r, listed => Region.ready .any ops listed == [i] && zs.contains i && r.all (fun x => decide (2 ≤ x.2)) && okQ ops n zs r (listed.setIfInBounds i true)
theorem walkQ_last (n : Nat) (zs : List Nat) (T : World → Prop) :
    ∀ (order : List (Nat × Nat)) (listed : Array Bool) (fuel : Nat) (a : Act) (w : World), fuel = order.length → order.all (fun x => decide (2 ≤ x.2)) = true → okQ ops n zs order listed = true →
      walkQ P ops Q L (order.map fun x => (x.2, ops[x.1]?.getD default)) a w → anyQ P .any ops Q zs T fuel listed a w
  | [], listed, fuel, a, w, hf, _, hc, h => by
    subst hf
    exact ⟨by simpa [okQ] using hc, h⟩
  | (i, 0) :: r, listed, fuel, a, w, _, h2, _, _ => by simp at h2
  | (i, 1) :: r, listed, fuel, a, w, _, h2, _, _ => by simp at h2
  | (i, k + 2) :: r, listed, fuel, a, w, hf, h2, hc, h => by
    subst hf
    simp only [okQ, Bool.and_eq_true, beq_iff_eq] at hc
    obtain ⟨⟨⟨h1, h3⟩, h4⟩, h5⟩ := hc
    have hmem : i ∈ Region.ready .any ops listed := by rw [h1]; simp
    obtain ⟨_, o, ho, _⟩ := mem_ready.1 hmem
    simp only [List.map_cons, ho, Option.getD_some, walkQ] at h
    refine ⟨fun e => (by rw [h1] at e; cases e), fun j hj => ?_⟩
    rw [h1] at hj
    obtain rfl := List.mem_singleton.1 hj
    refine wpOp_of_list ho h ?_
    rintro a' w' ⟨hsz, hg⟩
    exact ⟨.inl (by simpa using h3), walkQ_last n zs T r _ _ a' w' rfl h4 h5 hg⟩
theorem walkQ_sound (hs : Region.noSelect ops = true) (hQ : ∀ c a d v w, Q (.panic c) (Act.put a d v) w → Q (.panic c) a w) (n : Nat) (zs : List Nat) :
    ∀ (order : List (Nat × Nat)) (listed : Array Bool) (fuel : Nat) (a : Act) (w : World), fuel = order.length → a.tmps.size = n → closedY .any ops listed → okQ ops n zs order listed = true →
      walkQ P ops Q L (order.map fun x => (x.2, ops[x.1]?.getD default)) a w → anyQ P .any ops Q zs (Fr L w) fuel listed a w
  | [], listed, fuel, a, w, hf, hn, hcl, hc, h => by
    subst hf
    exact ⟨by simpa [okQ] using hc, h⟩
  | (i, k + 2) :: r, listed, fuel, a, w, hf, hn, hcl, hc, h => by
    have hc' := hc
    simp only [okQ, Bool.and_eq_true, beq_iff_eq] at hc'
    exact walkQ_last n zs _ _ listed fuel a w hf (by simp only [List.all_cons, Bool.and_eq_true]; exact ⟨by simp, hc'.1.2⟩) hc h
  | (i, 1) :: r, listed, fuel, a, w, hf, hn, hcl, hc, h => by
    subst hf
    simp only [okQ, Bool.and_eq_true, beq_iff_eq] at hc
    obtain ⟨h1, h3⟩ := hc
    have hmem : i ∈ Region.ready .any ops listed := by rw [h1]; simp
    obtain ⟨_, o, ho, _⟩ := mem_ready.1 hmem
    simp only [List.map_cons, ho, Option.getD_some, walkQ] at h
    refine ⟨fun e => (by rw [h1] at e; cases e), fun j hj => ?_⟩
    rw [h1] at hj
    obtain rfl := List.mem_singleton.1 hj
    refine wpOp_of_list ho h ?_
    rintro a' w' ⟨hfr, hsz, hg⟩
    have hg' := walkQ_sound hs hQ n zs r _ _ a' w' rfl (hsz.trans hn) (hcl.set hmem) h3 hg
    exact ⟨.inr hfr, anyQ_mono (fun w2 hw2 => hfr.trans hw2 (fun i hi _ => hi) (fun i hi _ => hi)) _ _ _ _ hg'⟩
  | (i, 0) :: r, listed, fuel, a, w, hf, hn, hcl, hc, h => by
    subst hf
    simp only [okQ, Bool.and_eq_true] at hc
    obtain ⟨⟨⟨⟨h1, h2⟩, hw⟩, h3⟩, h4⟩ := hc
    cases ho : ops[i]? with
    | none => rw [ho] at h3; simp at h3
    | some o =>
      rw [ho] at h3
      simp only [Bool.and_eq_true] at h3
      obtain ⟨hv, hd⟩ := h3
      cases hdst : o.dst with
      | none => rw [hdst] at hd; simp at hd
      | some d =>
        rw [hdst] at hd
        simp only [decide_eq_true_eq] at hd
        simp only [List.map_cons, ho, Option.getD_some, walkQ] at h
        obtain ⟨A, hA, hg⟩ := h
        obtain ⟨v, hy, rfl⟩ := one_step hv hdst (by rw [hn]; exact hd) hA
        have hmem : i ∈ Region.ready .any ops listed := by simpa using h1
        exact anyQ_first ho (fun z hm => List.all_eq_true.1 hw z hm) (Region.noSelect_spec hs) (fun c a w => hQ c a _ _ w) r.length listed a w hcl (Region.free_spec ho h2) hmem hy (Fr.refl _ _)
          (walkQ_sound hs hQ n zs r _ _ _ w rfl (by rw [size_put]; exact hn) (hcl.set hmem) h4 hg)
/-- THE LAW. -/
theorem wp_region_Q {id : Nat} {a : Act} {w : World} (L zs : List Nat) (order : List (Nat × Nat)) (n : Nat) (hn : a.tmps.size = n) (hm : P.follows .mixedOrders = true) (hs : Region.noSelect ops = true)
    (hc : (order.length == ops.size && okQ ops n zs order (Array.replicate ops.size false)) = true) (hQ : ∀ c a d v w, Q (.panic c) (Act.put a d v) w → Q (.panic c) a w)
    (h : ∀ wd, Fr [] w wd → walkQ P ops Q L (order.map fun x => (x.2, ops[x.1]?.getD default)) a wd) : (Code.region id ops true).wp P Q a w := by
  simp only [Bool.and_eq_true, beq_iff_eq] at hc
  exact wp_region_any hm (anyQ_any _ _ _ _ (walkQ_sound hs hQ n zs order _ _ _ _ hc.1.symm hn (closedY.start _) hc.2 (h w.drew (Fr.drew w))))
theorem walkQ_t {o : Oper} {r : List (Nat × Oper)} {a A : Act} {w : World} (h1 : ∀ w', Fr L w w' → wpList P ops (GQ fun a' w'' => w'' = w' ∧ a' = A) [o] a w') (h2 : walkQ P ops Q L r A w) : walkQ P ops Q L ((0, o) :: r) a w := ⟨A, h1, h2⟩
theorem walkQ_x {o : Oper} {r : List (Nat × Oper)} {a : Act} {w : World} (h : wpList P ops (GQ fun a' w' => Fr L w w' ∧ a'.tmps.size = a.tmps.size ∧ walkQ P ops Q L r a' w') [o] a w) : walkQ P ops Q L ((1, o) :: r) a w := h
theorem walkQ_z {o : Oper} {r : List (Nat × Oper)} {a : Act} {w : World} (h : wpList P ops (GQ fun a' w' => a'.tmps.size = a.tmps.size ∧ walkQ P ops Q L r a' w') [o] a w) : walkQ P ops Q L ((2, o) :: r) a w := h
theorem walkQ_end {a : Act} {w : World} (h : Q .normal a w) : walkQ P ops Q L [] a w := h
end
end Go.Proofs.Ytoijlmbnkmhamaa
