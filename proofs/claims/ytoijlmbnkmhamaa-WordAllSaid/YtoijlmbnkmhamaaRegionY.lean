/- As RegionZ, but the last operation need wait for what is taken first only by way of others. It holds of every program; nothing here names the program. -/
import Derived.Test.YtoijlmbnkmhamaaRegionZ
namespace Go.Proofs.Ytoijlmbnkmhamaa

section
variable {P : Program} {ops : Array Oper} {Q : Exit → Act → World → Prop} {md : Region.Mode} {L : List Nat}

/-- What is listed, all that it waits for is listed too. -/
def closedY (md : Region.Mode) (ops : Array Oper) (listed : Array Bool) : Prop := ∀ k o, listed.getD k false = true → ops[k]? = some o → ∀ e ∈ o.after, Region.binds md e = true → listed.getD e.on false = true
theorem getD_mono {listed : Array Bool} {j x : Nat} (h : listed.getD x false = true) : (listed.setIfInBounds j true).getD x false = true := by
  by_cases hx : j = x
  · subst hx
    rcases Nat.lt_or_ge j listed.size with q | q
    · simp [q]
    · simp [Array.getElem?_eq_none q] at h
  · rw [getD_set_ne false hx]; exact h
theorem closedY.set {listed : Array Bool} (h : closedY md ops listed) {j : Nat} (hj : j ∈ Region.ready md ops listed) : closedY md ops (listed.setIfInBounds j true) := by
  intro k o hk ho e he hb
  by_cases hx : j = k
  · subst hx
    obtain ⟨_, o', ho', hall⟩ := mem_ready.1 hj
    rw [ho] at ho'
    cases ho'
    exact getD_mono (hall e he hb)
  · rw [getD_set_ne false hx] at hk
    exact getD_mono (h k o hk ho e he hb)
theorem closedY.start (n : Nat) : closedY md ops (Array.replicate n false) := by
  intro k o hk
  by_cases hn : k < n
  · simp [hn] at hk
  · simp [hn] at hk
/-- Number z waits for number i, by way of others too. -/
def waitsY (md : Region.Mode) (ops : Array Oper) (i : Nat) : Nat → Nat → Bool
  | 0, _ => false
  | n + 1, z => match ops[z]? with
    | some o => o.after.any fun e => Region.binds md e && (e.on == i || waitsY md ops i n e.on)
    | none => false
theorem waitsY_listed {listed : Array Bool} (h : closedY md ops listed) (i : Nat) : ∀ (n z : Nat), waitsY md ops i n z = true → (∀ o, ops[z]? = some o → ∀ e ∈ o.after, Region.binds md e = true → listed.getD e.on false = true) → listed.getD i false = true
  | 0, _, hw, _ => by cases hw
  | n + 1, z, hw, hz => by
    unfold waitsY at hw
    cases ho : ops[z]? with
    | none => rw [ho] at hw; cases hw
    | some o =>
      rw [ho] at hw
      obtain ⟨e, he, hb⟩ := Array.any_eq_true'.1 hw
      simp only [Bool.and_eq_true, Bool.or_eq_true, beq_iff_eq] at hb
      have h1 := hz o ho e he hb.1
      rcases hb.2 with h2 | h2
      · rw [← h2]; exact h1
      · exact waitsY_listed h i n e.on h2 (fun o' ho' e' he' hb' => h e.on o' h1 ho' e' he' hb')
theorem anyZ_firstY {z i m : Nat} {T : World → Prop} {oi : Oper} {v : Value} (hi : ops[i]? = some oi) (hz : waitsY md ops i m z = true) (hsel : ∀ (j : Nat) (o : Oper) cs b, ops[j]? = some o → o.op ≠ .select cs b)
    (hQ : ∀ c a w, Q (.panic c) (a.put oi.dst v) w → Q (.panic c) a w) (n : Nat) : ∀ (listed : Array Bool) (a : Act) (w : World), closedY md ops listed →
      (∀ j oj, ops[j]? = some oj → j ≠ i → listed.getD j true = false → (∀ e ∈ oj.after, Region.binds md e = true → e.on ≠ i) → oi.apart ops oj = true) →
      i ∈ Region.ready md ops listed → YieldsIf P ops T oi v a → T w →
      anyZ P md ops Q z T n (listed.setIfInBounds i true) (a.put oi.dst v) w → anyZ P md ops Q z T (n + 1) listed a w := by
  induction n with
  | zero =>
    intro listed a w _ _ hr hy hT H
    refine ⟨fun h => (by rw [h] at hr; cases hr), fun j hj => ?_⟩
    by_cases hji : j = i
    · subst hji
      exact hy.wpOp hi hT ⟨.inr hT, H⟩
    · have h0 := ready_mono hj hji
      rw [H.1] at h0
      cases h0
  | succ n ih =>
    intro listed a w hcl hfree hr hy hT H
    refine ⟨fun h => (by rw [h] at hr; cases hr), fun j hj => ?_⟩
    by_cases hji : j = i
    · subst hji
      exact hy.wpOp hi hT ⟨.inr hT, H⟩
    · have h1 := H.2 j (ready_mono hj hji)
      obtain ⟨hjun, oj, hoj, hall⟩ := mem_ready.1 hj
      have hun := (mem_ready.1 hr).1
      have hnot : ∀ e ∈ oj.after, Region.binds md e = true → e.on ≠ i := by
        intro e he hb heq
        have h2 := hall e he hb
        rw [heq] at h2
        rcases Nat.lt_or_ge i listed.size with q | q
        · simp [q] at hun h2; rw [hun] at h2; cases h2
        · simp [Array.getElem?_eq_none q] at h2
      have hjz : j ≠ z := by
        intro e
        subst e
        have h2 := waitsY_listed hcl i m j hz (fun o ho e he hb => by rw [hoj] at ho; cases ho; exact hall e he hb)
        rcases Nat.lt_or_ge i listed.size with q | q
        · simp [q] at hun h2; rw [hun] at h2; cases h2
        · simp [Array.getElem?_eq_none q] at h2
      have h2 := wpOp_putIf hoj (hfree j oj hoj hji hjun hnot) (fun cs b => hsel i oi cs b hi) (fun cs b => hsel j oj cs b hoj) hQ hy h1
      refine wpOp_mono (fun a' w' h3 => ?_) h2
      have hT' : T w' := h3.2.1.resolve_left hjz
      refine ⟨.inr hT', ih _ a' w' (hcl.set hj) (fun k ok hk hki hku hno => hfree k ok hk hki ?_ hno) (ready_mono hr (Ne.symm hji)) h3.1 hT' ?_⟩
      · by_cases hjk : j = k
        · subst hjk; exact hjun
        · rw [getD_set_ne true hjk] at hku; exact hku
      · rw [Array.setIfInBounds_comm _ _ hji]
        exact h3.2.2

/-- The order ends with z, which waits for everything that is taken first. -/
def okY (ops : Array Oper) (n z : Nat) : List (Nat × Bool) → Array Bool → Bool
  | [], listed => Region.ready .any ops listed == []
  | (i, true) :: r, listed => Region.ready .any ops listed == [i] && (!r.isEmpty || i == z) && okY ops n z r (listed.setIfInBounds i true)
  | (i, false) :: r, listed => (Region.ready .any ops listed).contains i && Region.free .any ops listed i && waitsY .any ops i ops.size z &&
      (match ops[i]? with | some o => valOp o.op && (match o.dst with | some d => decide (d < n) | none => false) | none => false) && okY ops n z r (listed.setIfInBounds i true)

theorem walkY_sound (hs : Region.noSelect ops = true) (hQ : ∀ c a d v w, Q (.panic c) (Act.put a d v) w → Q (.panic c) a w) (n z : Nat) :
    ∀ (order : List (Nat × Bool)) (listed : Array Bool) (fuel : Nat) (a : Act) (w : World), fuel = order.length → a.tmps.size = n → closedY .any ops listed → okY ops n z order listed = true →
      walkZ P ops Q L (order.map fun x => (x.2, ops[x.1]?.getD default)) a w → anyZ P .any ops Q z (Fr L w) fuel listed a w
  | [], listed, fuel, a, w, hf, hn, hcl, hc, h => by
    subst hf
    exact ⟨by simpa [okY] using hc, h⟩
  | (i, true) :: r, listed, fuel, a, w, hf, hn, hcl, hc, h => by
    subst hf
    simp only [okY, Bool.and_eq_true, beq_iff_eq] at hc
    obtain ⟨⟨h1, h2⟩, h3⟩ := hc
    have hmem : i ∈ Region.ready .any ops listed := by rw [h1]; simp
    obtain ⟨_, o, ho, _⟩ := mem_ready.1 hmem
    simp only [List.map_cons, ho, Option.getD_some, walkZ] at h
    refine ⟨fun e => (by rw [h1] at e; cases e), fun j hj => ?_⟩
    rw [h1] at hj
    obtain rfl := List.mem_singleton.1 hj
    refine wpOp_of_list ho h ?_
    rintro a' w' ⟨hfr, hsz, hg⟩
    have hg' := walkY_sound hs hQ n z r _ _ a' w' rfl (hsz.trans hn) (hcl.set hmem) h3 hg
    rcases hfr with hfr | hfr
    · have hr : r = [] := by simpa using hfr
      subst hr
      refine ⟨.inl (by simpa using h2), ?_⟩
      exact hg'
    · exact ⟨.inr hfr, anyZ_mono (fun w2 hw2 => hfr.trans hw2 (fun i hi _ => hi) (fun i hi _ => hi)) _ _ _ _ hg'⟩
  | (i, false) :: r, listed, fuel, a, w, hf, hn, hcl, hc, h => by
    subst hf
    simp only [okY, Bool.and_eq_true] at hc
    obtain ⟨⟨⟨⟨h1, h2⟩, hw⟩, h3⟩, h4⟩ := hc
    cases ho : ops[i]? with
    | none => rw [ho] at h3; simp at h3
    | some o =>
      rw [ho] at h3
      simp only [Bool.and_eq_true] at h3
      obtain ⟨hv, hd⟩ := h3
      cases hdst : o.dst with
      | none => rw [hdst] at hd; simp at hd
      | some d =>
        rw [hdst] at hd
        simp only [decide_eq_true_eq] at hd
        simp only [List.map_cons, ho, Option.getD_some, walkZ] at h
        obtain ⟨A, hA, hg⟩ := h
        obtain ⟨v, hy, rfl⟩ := one_step hv hdst (by rw [hn]; exact hd) hA
        have hmem : i ∈ Region.ready .any ops listed := by simpa using h1
        exact anyZ_firstY ho hw (Region.noSelect_spec hs) (fun c a w => hQ c a _ _ w) r.length listed a w hcl (Region.free_spec ho h2) hmem hy (Fr.refl _ _)
          (walkY_sound hs hQ n z r _ _ _ w rfl (by rw [size_put]; exact hn) (hcl.set hmem) h4 hg)

/-- THE LAW. -/
theorem wp_region_Y {id : Nat} {a : Act} {w : World} (L : List Nat) (z : Nat) (order : List (Nat × Bool)) (n : Nat) (hn : a.tmps.size = n) (hm : P.follows .mixedOrders = true) (hs : Region.noSelect ops = true)
    (hc : (order.length == ops.size && okY ops n z order (Array.replicate ops.size false)) = true) (hQ : ∀ c a d v w, Q (.panic c) (Act.put a d v) w → Q (.panic c) a w)
    (h : ∀ wd, Fr [] w wd → walkZ P ops Q L (order.map fun x => (x.2, ops[x.1]?.getD default)) a wd) : (Code.region id ops true).wp P Q a w := by
  simp only [Bool.and_eq_true, beq_iff_eq] at hc
  exact wp_region_any hm (anyZ_any _ _ _ _ (walkY_sound hs hQ n z order _ _ _ _ hc.1.symm hn (closedY.start _) hc.2 (h w.drew (Fr.drew w))))
end
end Go.Proofs.Ytoijlmbnkmhamaa
