/- What holds of every disk that is reached (layer 11): plain mathematics. -/
import Derived.Test.YtmchnaojlnjmjaaGreatDskMath
import Derived.Test.YtmchnaojlnjmjaaGreatDirOk
import Derived.Test.YtmchnaojlnjmjaaGreatFt
namespace Go.Proofs.YtmchnaojlnjmjaaGreat

theorem ent_apply {l : List Ent} (hs : sortedL l) (o : OpD) : ∀ e ∈ applyL l o, e ∈ l ∨ (o.kind = 0 ∧ e = (o.a, o.n)) ∨ ∃ v, (o.a, v) ∈ l ∧ e = (o.b, v) ∧ o.kind ≠ 0 ∧ o.kind ≠ 1 := by
  intro e he
  obtain ⟨x, n⟩ := e
  have hl := look_mem (sorted_apply hs o) _ he
  rw [look_apply] at hl
  simp only at hl
  by_cases h0 : o.kind = 0
  · rw [if_pos h0] at hl
    by_cases hx : x = o.a
    · rw [if_pos hx] at hl
      exact .inr (.inl ⟨h0, by rw [hx]; simpa using hl.symm⟩)
    · rw [if_neg hx] at hl
      exact .inl (mem_look hl)
  · rw [if_neg h0] at hl
    by_cases h1 : o.kind = 1
    · rw [if_pos h1] at hl
      by_cases hx : x = o.a
      · rw [if_pos hx] at hl; cases hl
      · rw [if_neg hx] at hl; exact .inl (mem_look hl)
    · rw [if_neg h1] at hl
      cases hv : lookL l o.a with
      | none => rw [hv] at hl; exact .inl (mem_look hl)
      | some v =>
        rw [hv] at hl
        simp only at hl
        by_cases hx : x = o.b
        · rw [if_pos hx] at hl
          exact .inr (.inr ⟨v, mem_look hv, by rw [hx]; simpa using hl.symm, h0, h1⟩)
        · rw [if_neg hx] at hl
          by_cases hxa : x = o.a
          · rw [if_pos hxa] at hl; cases hl
          · rw [if_neg hxa] at hl; exact .inl (mem_look hl)
theorem nums_apply {l : List Ent} (hs : sortedL l) (o : OpD) (P : Int → Prop) (h : ∀ e ∈ l, P e.2) (ho : o.kind = 0 → P o.n) : ∀ e ∈ applyL l o, P e.2 := by
  intro e he
  rcases ent_apply hs o e he with q | ⟨q, rfl⟩ | ⟨v, q, rfl, _, _⟩
  · exact h e q
  · exact ho q
  · have := h _ q
    exact this
theorem names_apply {l : List Ent} (hs : sortedL l) (o : OpD) (P : List UInt8 → Prop) (h : ∀ e ∈ l, P e.1) (ha : P o.a) (hb : P o.b) : ∀ e ∈ applyL l o, P e.1 := by
  intro e he
  rcases ent_apply hs o e he with q | ⟨q, rfl⟩ | ⟨v, q, rfl, _, _⟩
  · exact h e q
  · exact ha
  · exact hb
theorem nums_crash (P : Int → Prop) : ∀ (l : List Ent) (r : List OpD) (k : List Bool), sortedL l → (∀ e ∈ l, P e.2) → (∀ o ∈ r, o.kind = 0 → P o.n) → ∀ e ∈ crashL l r k, P e.2
  | l, [], _, _, h, _ => by simpa [crashL] using h
  | l, _ :: _, [], _, h, _ => by simpa [crashL] using h
  | l, _ :: _, false :: _, _, h, _ => by simpa [crashL] using h
  | l, o :: r, true :: k, hs, h, ho => by
    rw [crashL]
    exact nums_crash P _ r k (sorted_apply hs o) (nums_apply hs o P h (ho o (by simp))) (fun p hp => ho p (by simp [hp]))
theorem names_crash (P : List UInt8 → Prop) : ∀ (l : List Ent) (r : List OpD) (k : List Bool), sortedL l → (∀ e ∈ l, P e.1) → (∀ o ∈ r, P o.a ∧ P o.b) → ∀ e ∈ crashL l r k, P e.1
  | l, [], _, _, h, _ => by simpa [crashL] using h
  | l, _ :: _, [], _, h, _ => by simpa [crashL] using h
  | l, _ :: _, false :: _, _, h, _ => by simpa [crashL] using h
  | l, o :: r, true :: k, hs, h, ho => by
    rw [crashL]
    exact names_crash P _ r k (sorted_apply hs o) (names_apply hs o P h (ho o (by simp)).1 (ho o (by simp)).2) (fun p hp => ho p (by simp [hp]))
theorem crashK_le : ∀ (l : List Ent) (r : List OpD) (k : List Bool), (crashL l r k).length ≤ l.length + r.length
  | l, [], _ => by simp [crashL]
  | l, _ :: _, [] => by simp [crashL]
  | l, _ :: _, false :: _ => by simp [crashL]
  | l, o :: r, true :: k => by
    rw [crashL]
    have h1 := crashK_le (applyL l o) r k
    have h2 := applyL_le l o
    rw [List.length_cons]
    omega

/-- All that holds. -/
structure AllOk (d : DskD) (k : Nat) : Prop where
  ok : OkK d k
  kinds : kindsOk d.armed
  okn : okNames d.dn
  oks : okNames d.ds
  oko : okOps d.ops
  al : d.armed.length ≤ k
theorem AllOk.step {d : DskD} {k : Nat} (h : AllOk d k) : AllOk (stepK d) (k + 1) := by
  have o := h.ok
  refine ⟨⟨o.sn, o.ss, o.nums, o.snums, o.onums, o.pre, by have := o.fl; show d.files.length ≤ k + 1; omega, by have := o.nl; show d.dn.length ≤ k + 1; omega, by have := o.sl; show d.ds.length + d.ops.length ≤ k + 1; omega, by have := o.ol; show d.ops.length ≤ k + 1; omega, ?_, ?_, fun f hf => by have := o.len f hf; omega⟩, h.kinds, h.okn, h.oks, h.oko, by have := h.al; show d.armed.length ≤ k + 1; omega⟩
  · show 0 ≤ (if d.down then d.steps else d.steps + 1)
    have := o.st0
    split <;> omega
  · show (if d.down then d.steps else d.steps + 1) ≤ ((k + 1 : Nat) : Int)
    have := o.st
    split <;> omega
theorem AllOk.more {d : DskD} {k : Nat} (h : AllOk d k) : AllOk d (k + 1) := by
  have o := h.ok
  exact ⟨⟨o.sn, o.ss, o.nums, o.snums, o.onums, o.pre, by have := o.fl; omega, by have := o.nl; omega, by have := o.sl; omega, by have := o.ol; omega, o.st0, by have := o.st; omega, fun f hf => by have := o.len f hf; omega⟩, h.kinds, h.okn, h.oks, h.oko, by have := h.al; omega⟩
/-- A file is put in the place of another one. -/
theorem AllOk.put {d : DskD} {k : Nat} (h : AllOk d k) (n : Int) (f : FileD) (hp : f.safe = f.now.take f.safe.length) (hl : f.now.length ≤ 1000 * k) : AllOk (putK d n f) k := by
  have o := h.ok
  have hfl : (putK d n f).files.length = d.files.length := by show (d.files.set n.toNat f).length = _; rw [List.length_set]
  refine ⟨⟨o.sn, o.ss, fun e he => ?_, fun e he => ?_, fun p hp h0 => ?_, fun g hg => ?_, by rw [hfl]; exact o.fl, o.nl, o.sl, o.ol, o.st0, o.st, fun g hg => ?_⟩, h.kinds, h.okn, h.oks, h.oko, h.al⟩
  · rw [hfl]; exact o.nums e he
  · rw [hfl]; exact o.snums e he
  · rw [hfl]; exact o.onums p hp h0
  · rcases List.mem_or_eq_of_mem_set hg with q | rfl
    · exact o.pre g q
    · exact hp
  · rcases List.mem_or_eq_of_mem_set hg with q | rfl
    · exact o.len g q
    · exact hl
theorem file_ok {d : DskD} {k : Nat} (h : AllOk d k) {m : List UInt8} {n : Int} (hl : lookL d.dn m = some n) : (fileK d n).safe = (fileK d n).now.take (fileK d n).safe.length ∧ (fileK d n).now.length ≤ 1000 * k := by
  have hn := (h.ok.nums _ (mem_look hl)).2
  simp only at hn
  have hm : fileK d n ∈ d.files := by unfold fileK; simp only [List.getD, List.getElem?_eq_getElem hn, Option.getD_some]; exact List.getElem_mem hn
  exact ⟨h.ok.pre _ hm, h.ok.len _ hm⟩
/-- The directory is another one. -/
theorem AllOk.dir {d : DskD} {k : Nat} (h : AllOk d k) (o : OpD) (ha : o.a.length ≤ maxLen) (hb : o.b.length ≤ maxLen) (fs : List FileD) (hfs : d.files.length ≤ fs.length) (hfl : fs.length ≤ k + 1) (hfp : ∀ f ∈ fs, f.safe = f.now.take f.safe.length) (hfn : ∀ f ∈ fs, f.now.length ≤ 1000 * (k + 1))
    (ho : o.kind = 0 → 0 ≤ o.n ∧ o.n.toNat < fs.length) : AllOk { stepK d with dn := applyL d.dn o, ops := d.ops ++ [o], files := fs } (k + 1) := by
  have q := h.ok
  have hs := h.step.ok
  have hle := applyL_le d.dn o
  refine ⟨⟨sorted_apply q.sn o, q.ss, nums_apply q.sn o (fun n => 0 ≤ n ∧ n.toNat < fs.length) (fun e he => by have := q.nums e he; omega) ho, fun e he => by have := q.snums e he; show 0 ≤ e.2 ∧ e.2.toNat < fs.length; omega, fun p hp h0 => ?_, hfp, hfl, by have := q.nl; show (applyL d.dn o).length ≤ k + 1; omega, ?_, ?_, hs.st0, hs.st, hfn⟩,
    h.kinds, names_apply q.sn o (fun x => x.length ≤ maxLen) h.okn ha hb, h.oks, fun p hp => ?_, by have := h.al; show d.armed.length ≤ k + 1; omega⟩
  · show 0 ≤ p.n ∧ p.n.toNat < fs.length
    rcases List.mem_append.1 hp with hp | hp
    · have := q.onums p hp h0; omega
    · obtain rfl := List.mem_singleton.1 hp
      exact ho h0
  · have := q.sl
    show d.ds.length + (d.ops ++ [o]).length ≤ k + 1
    rw [List.length_append]; simp; omega
  · have := q.ol
    show (d.ops ++ [o]).length ≤ k + 1
    rw [List.length_append]; simp; omega
  · rcases List.mem_append.1 hp with hp | hp
    · exact h.oko p hp
    · obtain rfl := List.mem_singleton.1 hp
      exact ⟨ha, hb⟩
theorem AllOk.create {d : DskD} {k : Nat} (h : AllOk d k) (m : List UInt8) (hm : m.length ≤ maxLen) : AllOk (createK d m).1 (k + 1) := by
  unfold createK
  split
  · exact h.step
  · split
    · exact h.step
    · split
      · exact h.step
      · split
        · exact h.step
        · refine h.dir _ hm (Nat.zero_le _) (d.files ++ [f0D]) (by simp) (by have := h.ok.fl; simp; omega) (fun f hf => ?_) (fun f hf => ?_) (fun _ => ?_)
          · rcases List.mem_append.1 hf with q | q
            · exact h.ok.pre f q
            · obtain rfl := List.mem_singleton.1 q; rfl
          · rcases List.mem_append.1 hf with q | q
            · have := h.ok.len f q; omega
            · obtain rfl := List.mem_singleton.1 q; simp [f0D]
          · simp
theorem AllOk.drop {d : DskD} {k : Nat} (h : AllOk d k) (m : List UInt8) (hm : m.length ≤ maxLen) : AllOk (dropK d m).1 (k + 1) := by
  unfold dropK
  split
  · exact h.step
  · split
    · exact h.step
    · exact h.dir _ hm (Nat.zero_le _) d.files (Nat.le_refl _) (by have := h.ok.fl; omega) h.ok.pre (fun f hf => by have := h.ok.len f hf; omega) (fun h0 => absurd (show (1 : Int) = 0 from h0) (by decide))
theorem AllOk.move {d : DskD} {k : Nat} (h : AllOk d k) (a b : List UInt8) (ha : a.length ≤ maxLen) (hb : b.length ≤ maxLen) : AllOk (moveK d a b).1 (k + 1) := by
  unfold moveK
  split
  · exact h.step
  · split
    · exact h.step
    · split
      · exact h.step
      · split
        · exact h.step
        · exact h.dir _ ha hb d.files (Nat.le_refl _) (by have := h.ok.fl; omega) h.ok.pre (fun f hf => by have := h.ok.len f hf; omega) (fun h0 => absurd (show (2 : Int) = 0 from h0) (by decide))
theorem AllOk.append {d : DskD} {k : Nat} (h : AllOk d k) (m b : List UInt8) (hb : b.length ≤ 1000) : AllOk (appendK d m b).1 (k + 1) := by
  unfold appendK
  split
  · exact h.step
  · split
    · exact h.step
    · next n hn =>
      obtain ⟨h1, h2⟩ := file_ok h hn
      split
      · exact h.step
      · split
        · exact h.step
        · refine h.step.put _ _ ?_ ?_
          · show (fileK d n).safe = ((fileK d n).now ++ b).take (fileK d n).safe.length
            have hle : (fileK d n).safe.length ≤ (fileK d n).now.length := by have := congrArg List.length h1; simp at this; omega
            rw [List.take_append_of_le_length hle]
            exact h1
          · show ((fileK d n).now ++ b).length ≤ 1000 * (k + 1)
            rw [List.length_append]; omega
theorem AllOk.sync {d : DskD} {k : Nat} (h : AllOk d k) (m : List UInt8) : AllOk (syncK d m).1 (k + 1) := by
  unfold syncK
  split
  · exact h.step
  · split
    · exact h.step
    · next n hn =>
      obtain ⟨h1, h2⟩ := file_ok h hn
      exact h.step.put _ _ (by simp) (by show (fileK d n).now.length ≤ 1000 * (k + 1); omega)
theorem AllOk.flip {d : DskD} {k : Nat} (h : AllOk d k) (m : List UInt8) (bit : Int) : AllOk (flipK d m bit).1 (k + 1) := by
  unfold flipK
  split
  · exact h.more
  · next n hn =>
    obtain ⟨h1, h2⟩ := file_ok h hn
    split
    · exact h.more
    · refine h.more.put _ _ ?_ ?_
      · have hle : (fileK d n).safe.length ≤ (fileK d n).now.length := by have := congrArg List.length h1; simp at this; omega
        show (flipC (fileK d n).now bit).take (fileK d n).safe.length = (flipC (fileK d n).now bit).take ((flipC (fileK d n).now bit).take (fileK d n).safe.length).length
        rw [List.length_take, flipC_length, Nat.min_eq_left hle]
      · show (flipC (fileK d n).now bit).length ≤ 1000 * (k + 1)
        rw [flipC_length]; omega
theorem AllOk.syncDir {d : DskD} {k : Nat} (h : AllOk d k) : AllOk (syncDirK d).1 (k + 1) := by
  unfold syncDirK
  have o := h.step.ok
  split
  · exact h.step
  · exact ⟨⟨o.sn, o.sn, o.nums, o.nums, by simp, o.pre, o.fl, o.nl, by have := o.nl; simp; exact this, by simp, o.st0, o.st, o.len⟩, h.step.kinds, h.step.okn, h.step.okn, by simp [okOps], h.step.al⟩
theorem AllOk.arm {d : DskD} {k : Nat} (h : AllOk d k) (a kind : Int) : AllOk (armK d a kind) (k + 1) := by
  unfold armK
  split
  · next hc =>
    have o := h.more.ok
    refine ⟨⟨o.sn, o.ss, o.nums, o.snums, o.onums, o.pre, o.fl, o.nl, o.sl, o.ol, o.st0, o.st, o.len⟩, fun f hf => ?_, h.okn, h.oks, h.oko, by have := h.al; show (d.armed ++ [_]).length ≤ k + 1; rw [List.length_append]; simp; omega⟩
    rcases List.mem_append.1 hf with q | q
    · exact h.kinds f q
    · obtain rfl := List.mem_singleton.1 q
      exact ⟨hc.2.2.1, hc.2.2.2⟩
  · exact h.more
theorem upL_ok (sizes : List Int) (M : Nat) : ∀ (C : List Ent) (i : Nat) (fs : List FileD) (cuts : List Int), (∀ f ∈ fs, f.safe = f.now.take f.safe.length) → (∀ f ∈ fs, f.now.length ≤ M) → (∀ e ∈ C, 0 ≤ e.2 ∧ e.2.toNat < fs.length) →
    (upL sizes C i fs cuts).length = fs.length ∧ (∀ f ∈ upL sizes C i fs cuts, f.safe = f.now.take f.safe.length) ∧ ∀ f ∈ upL sizes C i fs cuts, f.now.length ≤ M
  | [], _, fs, _, h1, h2, _ => ⟨rfl, h1, h2⟩
  | e :: r, i, fs, cuts, h1, h2, h3 => by
    unfold upL
    have hn := (h3 e (by simp)).2
    have hm : fs.getD e.2.toNat f0D ∈ fs := by simp only [List.getD, List.getElem?_eq_getElem hn, Option.getD_some]; exact List.getElem_mem hn
    have hp := h1 _ hm
    have hl := h2 _ hm
    have hle : (fs.getD e.2.toNat f0D).safe.length ≤ (fs.getD e.2.toNat f0D).now.length := by have := congrArg List.length hp; simp at this; simp; omega
    have hcl := crashC_length (fs.getD e.2.toNat f0D).now (fs.getD e.2.toNat f0D).safe.length (sizes.getD i 0) cuts hle
    obtain ⟨g1, g2, g3⟩ := upL_ok sizes M r (i + 1) (fs.set e.2.toNat ⟨crashC (fs.getD e.2.toNat f0D).now (fs.getD e.2.toNat f0D).safe.length (sizes.getD i 0) cuts, crashC (fs.getD e.2.toNat f0D).now (fs.getD e.2.toNat f0D).safe.length (sizes.getD i 0) cuts⟩)
      (cuts.drop (min (secsC (crashC (fs.getD e.2.toNat f0D).now (fs.getD e.2.toNat f0D).safe.length (sizes.getD i 0) cuts).length (fs.getD e.2.toNat f0D).safe.length) cuts.length))
      (fun f hf => by
        rcases List.mem_or_eq_of_mem_set hf with q | rfl
        · exact h1 f q
        · simp)
      (fun f hf => by
        rcases List.mem_or_eq_of_mem_set hf with q | rfl
        · exact h2 f q
        · simp only; rw [hcl]; unfold sizeC; omega)
      (fun x hx => by rw [List.length_set]; exact h3 x (by simp [hx]))
    rw [List.length_set] at g1
    exact ⟨g1, g2, g3⟩
theorem AllOk.up {d : DskD} {k : Nat} (h : AllOk d k) (ks : List Bool) (sizes cuts : List Int) : AllOk (upK d ks sizes cuts) (k + 1) := by
  have o := h.ok
  have hC := nums_crash (fun n => 0 ≤ n ∧ n.toNat < d.files.length) d.ds d.ops ks o.ss o.snums o.onums
  obtain ⟨g1, g2, g3⟩ := upL_ok sizes (1000 * k) (crashL d.ds d.ops ks) 0 d.files cuts o.pre o.len hC
  have hle := crashK_le d.ds d.ops ks
  have hsl := o.sl
  have hnm := names_crash (fun x => x.length ≤ maxLen) d.ds d.ops ks o.ss h.oks h.oko
  refine ⟨⟨sorted_crash _ _ _ o.ss, sorted_crash _ _ _ o.ss, fun e he => ?_, fun e he => ?_, by simp [upK], g2, ?_, ?_, ?_, by simp [upK], o.st0, by have := o.st; show d.steps ≤ ((k + 1 : Nat) : Int); omega, fun f hf => by have := g3 f hf; omega⟩, by simp [upK, kindsOk], hnm, hnm, by simp [upK, okOps], by simp [upK]⟩
  · show 0 ≤ e.2 ∧ e.2.toNat < (upL sizes (crashL d.ds d.ops ks) 0 d.files cuts).length
    rw [g1]; exact hC e he
  · show 0 ≤ e.2 ∧ e.2.toNat < (upL sizes (crashL d.ds d.ops ks) 0 d.files cuts).length
    rw [g1]; exact hC e he
  · show (upL sizes (crashL d.ds d.ops ks) 0 d.files cuts).length ≤ k + 1
    rw [g1]; have := o.fl; omega
  · show (crashL d.ds d.ops ks).length ≤ k + 1
    omega
  · show (crashL d.ds d.ops ks).length + ([] : List OpD).length ≤ k + 1
    simp; omega
/-- All names are valid. -/
structure RightOk (d : DskD) : Prop where
  dn : ∀ e ∈ d.dn, rightB e.1 = true
  ds : ∀ e ∈ d.ds, rightB e.1 = true
  oa : ∀ o ∈ d.ops, o.kind = 0 → rightB o.a = true
  ob : ∀ o ∈ d.ops, o.kind ≠ 0 → o.kind ≠ 1 → rightB o.b = true
theorem right_apply {l : List Ent} (hs : sortedL l) (o : OpD) (h : ∀ e ∈ l, rightB e.1 = true) (ha : o.kind = 0 → rightB o.a = true) (hb : o.kind ≠ 0 → o.kind ≠ 1 → rightB o.b = true) : ∀ e ∈ applyL l o, rightB e.1 = true := by
  intro e he
  rcases ent_apply hs o e he with q | ⟨q, rfl⟩ | ⟨v, q, rfl, h0, h1⟩
  · exact h e q
  · exact ha q
  · exact hb h0 h1
theorem right_crash : ∀ (l : List Ent) (r : List OpD) (k : List Bool), sortedL l → (∀ e ∈ l, rightB e.1 = true) → (∀ o ∈ r, o.kind = 0 → rightB o.a = true) → (∀ o ∈ r, o.kind ≠ 0 → o.kind ≠ 1 → rightB o.b = true) → ∀ e ∈ crashL l r k, rightB e.1 = true
  | l, [], _, _, h, _, _ => by simpa [crashL] using h
  | l, _ :: _, [], _, h, _, _ => by simpa [crashL] using h
  | l, _ :: _, false :: _, _, h, _, _ => by simpa [crashL] using h
  | l, o :: r, true :: k, hs, h, ha, hb => by
    rw [crashL]
    exact right_crash _ r k (sorted_apply hs o) (right_apply hs o h (ha o (by simp)) (hb o (by simp))) (fun p hp => ha p (by simp [hp])) (fun p hp => hb p (by simp [hp]))
theorem RightOk.same {d d' : DskD} (h : RightOk d) (h1 : d'.dn = d.dn) (h2 : d'.ds = d.ds) (h3 : d'.ops = d.ops) : RightOk d' := ⟨by rw [h1]; exact h.dn, by rw [h2]; exact h.ds, by rw [h3]; exact h.oa, by rw [h3]; exact h.ob⟩
theorem RightOk.dir {d : DskD} {k : Nat} (h : RightOk d) (hk : AllOk d k) (o : OpD) (fs : List FileD) (ha : o.kind = 0 → rightB o.a = true) (hb : o.kind ≠ 0 → o.kind ≠ 1 → rightB o.b = true) : RightOk { stepK d with dn := applyL d.dn o, ops := d.ops ++ [o], files := fs } := by
  refine ⟨right_apply hk.ok.sn o h.dn ha hb, h.ds, fun p hp => ?_, fun p hp => ?_⟩
  · rcases List.mem_append.1 hp with q | q
    · exact h.oa p q
    · obtain rfl := List.mem_singleton.1 q; exact ha
  · rcases List.mem_append.1 hp with q | q
    · exact h.ob p q
    · obtain rfl := List.mem_singleton.1 q; exact hb
theorem RightOk.create {d : DskD} {k : Nat} (h : RightOk d) (hk : AllOk d k) (m : List UInt8) : RightOk (createK d m).1 := by
  unfold createK
  split
  · exact h.same rfl rfl rfl
  · split
    · exact h.same rfl rfl rfl
    · next hr =>
      split
      · exact h.same rfl rfl rfl
      · split
        · exact h.same rfl rfl rfl
        · exact h.dir hk _ _ (fun _ => by simpa using hr) (fun h0 => absurd rfl h0)
theorem RightOk.drop {d : DskD} {k : Nat} (h : RightOk d) (hk : AllOk d k) (m : List UInt8) : RightOk (dropK d m).1 := by
  unfold dropK
  split
  · exact h.same rfl rfl rfl
  · split
    · exact h.same rfl rfl rfl
    · exact h.dir hk _ _ (fun h0 => absurd (show (1 : Int) = 0 from h0) (by decide)) (fun _ h1 => absurd rfl h1)
theorem RightOk.move {d : DskD} {k : Nat} (h : RightOk d) (hk : AllOk d k) (a b : List UInt8) : RightOk (moveK d a b).1 := by
  unfold moveK
  split
  · exact h.same rfl rfl rfl
  · split
    · exact h.same rfl rfl rfl
    · next hr =>
      split
      · exact h.same rfl rfl rfl
      · split
        · exact h.same rfl rfl rfl
        · exact h.dir hk _ _ (fun h0 => absurd (show (2 : Int) = 0 from h0) (by decide)) (fun _ _ => by simpa using hr)
theorem RightOk.append {d : DskD} (h : RightOk d) (m b : List UInt8) : RightOk (appendK d m b).1 := by
  unfold appendK
  split
  · exact h.same rfl rfl rfl
  · split
    · exact h.same rfl rfl rfl
    · split
      · exact h.same rfl rfl rfl
      · split <;> exact h.same rfl rfl rfl
theorem RightOk.sync {d : DskD} (h : RightOk d) (m : List UInt8) : RightOk (syncK d m).1 := by
  unfold syncK
  split
  · exact h.same rfl rfl rfl
  · split <;> exact h.same rfl rfl rfl
theorem RightOk.syncDir {d : DskD} (h : RightOk d) : RightOk (syncDirK d).1 := by
  unfold syncDirK
  split
  · exact h.same rfl rfl rfl
  · exact ⟨h.dn, h.dn, by simp, by simp⟩
theorem RightOk.flip {d : DskD} (h : RightOk d) (m : List UInt8) (bit : Int) : RightOk (flipK d m bit).1 := by
  unfold flipK
  split
  · exact h
  · split
    · exact h
    · exact h.same rfl rfl rfl
theorem RightOk.arm {d : DskD} (h : RightOk d) (a k : Int) : RightOk (armK d a k) := by
  unfold armK
  split
  · exact h.same rfl rfl rfl
  · exact h
theorem RightOk.up {d : DskD} {k : Nat} (h : RightOk d) (hk : AllOk d k) (ks : List Bool) (sizes cuts : List Int) : RightOk (upK d ks sizes cuts) := by
  have := right_crash d.ds d.ops ks hk.ok.ss h.ds h.oa h.ob
  exact ⟨this, this, by simp [upK], by simp [upK]⟩
end Go.Proofs.YtmchnaojlnjmjaaGreat
