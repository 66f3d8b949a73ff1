/- A file that is safe under a safe name stays (layer 11): plain mathematics. -/
import Derived.Test.YtmchnaojlnjmjaaDskAct
namespace Go.Proofs.Ytmchnaojlnjmjaa

/-- The bytes of the name that DiskSafe keeps. -/
def safeN : List UInt8 := [115, 97, 102, 101]
def offOp (o : OpD) : Prop := o.a ≠ safeN ∧ (o.kind ≠ 0 → o.kind ≠ 1 → o.b ≠ safeN) ∧ (o.kind = 0 → o.n ≠ 0)
/-- The name tells of file 0, and no other name does. -/
structure SafeL (l : List Ent) : Prop where
  look : lookL l safeN = some 0
  uniq : ∀ e ∈ l, e.2 = 0 → e.1 = safeN
theorem SafeL.apply {l : List Ent} (hs : sortedL l) (h : SafeL l) (o : OpD) (ho : offOp o) : SafeL (applyL l o) := by
  obtain ⟨ha, hb, hn⟩ := ho
  refine ⟨?_, fun e he => ?_⟩
  · rw [look_apply]
    by_cases h0 : o.kind = 0
    · rw [if_pos h0, if_neg (Ne.symm ha)]; exact h.look
    · rw [if_neg h0]
      by_cases h1 : o.kind = 1
      · rw [if_pos h1, if_neg (Ne.symm ha)]; exact h.look
      · rw [if_neg h1]
        cases lookL l o.a with
        | none => exact h.look
        | some v => simp only; rw [if_neg (Ne.symm (hb h0 h1)), if_neg (Ne.symm ha)]; exact h.look
  · intro hz
    rcases ent_apply hs o e he with q | ⟨q, rfl⟩ | ⟨v, q, rfl, _, _⟩
    · exact h.uniq e q hz
    · exact absurd hz (hn q)
    · exact absurd (h.uniq _ q hz) ha
theorem SafeL.crash : ∀ (l : List Ent) (r : List OpD) (k : List Bool), sortedL l → SafeL l → (∀ o ∈ r, offOp o) → SafeL (crashL l r k)
  | l, [], _, _, h, _ => by simpa [crashL] using h
  | l, _ :: _, [], _, h, _ => by simpa [crashL] using h
  | l, _ :: _, false :: _, _, h, _ => by simpa [crashL] using h
  | l, o :: r, true :: k, hs, h, ho => by
    rw [crashL]
    exact SafeL.crash _ r k (sorted_apply hs o) (h.apply hs o (ho o (by simp))) (fun p hp => ho p (by simp [hp]))
theorem crash_self (now : List UInt8) (size : Int) (cuts : List Int) : crashC now now.length size cuts = now := by
  have hl := crashC_length now now.length size cuts (Nat.le_refl _)
  have hz : sizeC now.length now.length size = 0 := by unfold sizeC; omega
  rw [hz, Nat.add_zero] at hl
  refine List.ext_getElem hl (fun i h1 h2 => ?_)
  rcases crash_keeps now now.length size cuts (Nat.le_refl _) i h1 h2 with q | ⟨q, _⟩
  · exact q
  · omega
theorem upL_safe (sizes : List Int) (data : List UInt8) : ∀ (C : List Ent) (i : Nat) (fs : List FileD) (cuts : List Int), fs[0]? = some ⟨data, data⟩ → (∀ e ∈ C, 0 ≤ e.2) → (upL sizes C i fs cuts)[0]? = some ⟨data, data⟩
  | [], _, fs, _, h, _ => h
  | e :: r, i, fs, cuts, h, hC => by
    unfold upL
    refine upL_safe sizes data r (i + 1) _ _ ?_ (fun x hx => hC x (by simp [hx]))
    have h0 : 0 < fs.length := (List.getElem?_eq_some_iff.1 h).1
    have he := hC e (by simp)
    by_cases hz : e.2.toNat = 0
    · have hg : fs.getD 0 f0D = ⟨data, data⟩ := by simp only [List.getD, h, Option.getD_some]
      simp only [hz, hg, crash_self]
      rw [List.getElem?_set_self h0]
    · rw [List.getElem?_set_ne (by omega)]; exact h
structure SafeOk (data : List UInt8) (d : DskD) : Prop where
  dn : SafeL d.dn
  ds : SafeL d.ds
  ops : ∀ o ∈ d.ops, offOp o
  file : d.files[0]? = some ⟨data, data⟩
theorem SafeOk.same {data : List UInt8} {d d' : DskD} (h : SafeOk data d) (h1 : d'.dn = d.dn) (h2 : d'.ds = d.ds) (h3 : d'.ops = d.ops) (h4 : d'.files = d.files) : SafeOk data d' := ⟨h1 ▸ h.dn, h2 ▸ h.ds, h3 ▸ h.ops, h4 ▸ h.file⟩
theorem SafeOk.dir {data : List UInt8} {d : DskD} {k : Nat} (h : SafeOk data d) (hk : AllOk d k) (o : OpD) (fs : List FileD) (ho : offOp o) (hf : fs[0]? = some ⟨data, data⟩) : SafeOk data { stepK d with dn := applyL d.dn o, ops := d.ops ++ [o], files := fs } :=
  ⟨h.dn.apply hk.ok.sn o ho, h.ds, fun p hp => (List.mem_append.1 hp).elim (h.ops p) (fun q => by obtain rfl := List.mem_singleton.1 q; exact ho), hf⟩
/-- A name that is not the safe one has another file. -/
theorem SafeOk.other {data : List UInt8} {d : DskD} {k : Nat} (h : SafeOk data d) (hk : AllOk d k) {m : List UInt8} (hm : m ≠ safeN) {n : Int} (hl : lookL d.dn m = some n) : n.toNat ≠ 0 := by
  have h1 := mem_look hl
  have h2 := hk.ok.nums _ h1
  intro hz
  exact hm (h.dn.uniq _ h1 (by simp only at h2 ⊢; omega))
theorem SafeOk.put {data : List UInt8} {d : DskD} (h : SafeOk data d) {n : Int} (hn : n.toNat ≠ 0) (f : FileD) : SafeOk data (putK d n f) :=
  ⟨h.dn, h.ds, h.ops, by show (d.files.set n.toNat f)[0]? = _; rw [List.getElem?_set_ne hn]; exact h.file⟩
theorem SafeOk.step {data : List UInt8} {d : DskD} (h : SafeOk data d) : SafeOk data (stepK d) := h.same rfl rfl rfl rfl
theorem SafeOk.create {data : List UInt8} {d : DskD} {k : Nat} (h : SafeOk data d) (hk : AllOk d k) {m : List UInt8} (hm : m ≠ safeN) : SafeOk data (createK d m).1 := by
  have h0 : 0 < d.files.length := (List.getElem?_eq_some_iff.1 h.file).1
  unfold createK
  split
  · exact h.step
  · split
    · exact h.step
    · split
      · exact h.step
      · split
        · exact h.step
        · exact h.dir hk _ _ ⟨hm, fun q => absurd rfl q, fun _ q => by simp only at q; omega⟩ (by rw [List.getElem?_append_left h0]; exact h.file)
theorem SafeOk.append {data : List UInt8} {d : DskD} {k : Nat} (h : SafeOk data d) (hk : AllOk d k) {m : List UInt8} (hm : m ≠ safeN) (b : List UInt8) : SafeOk data (appendK d m b).1 := by
  unfold appendK
  split
  · exact h.step
  · split
    · exact h.step
    · next n hl =>
      split
      · exact h.step
      · split
        · exact h.step
        · exact h.step.put (h.other hk hm hl) _
theorem SafeOk.sync {data : List UInt8} {d : DskD} {k : Nat} (h : SafeOk data d) (hk : AllOk d k) {m : List UInt8} (hm : m ≠ safeN) : SafeOk data (syncK d m).1 := by
  unfold syncK
  split
  · exact h.step
  · split
    · exact h.step
    · next n hl => exact h.step.put (h.other hk hm hl) _
theorem SafeOk.syncDir {data : List UInt8} {d : DskD} (h : SafeOk data d) : SafeOk data (syncDirK d).1 := by
  unfold syncDirK
  split
  · exact h.step
  · exact ⟨h.dn, h.dn, by simp, h.file⟩
theorem SafeOk.move {data : List UInt8} {d : DskD} {k : Nat} (h : SafeOk data d) (hk : AllOk d k) {a b : List UInt8} (ha : a ≠ safeN) (hb : b ≠ safeN) : SafeOk data (moveK d a b).1 := by
  unfold moveK
  split
  · exact h.step
  · split
    · exact h.step
    · split
      · exact h.step
      · split
        · exact h.step
        · exact h.dir hk _ _ ⟨ha, fun _ _ => hb, fun q => absurd (show (2 : Int) = 0 from q) (by decide)⟩ h.file
theorem SafeOk.drop {data : List UInt8} {d : DskD} {k : Nat} (h : SafeOk data d) (hk : AllOk d k) {m : List UInt8} (hm : m ≠ safeN) : SafeOk data (dropK d m).1 := by
  unfold dropK
  split
  · exact h.step
  · split
    · exact h.step
    · exact h.dir hk _ _ ⟨hm, fun _ q => absurd rfl q, fun q => absurd (show (1 : Int) = 0 from q) (by decide)⟩ h.file
theorem SafeOk.arm {data : List UInt8} {d : DskD} (h : SafeOk data d) (a k : Int) : SafeOk data (armK d a k) := by
  unfold armK
  split
  · exact h.same rfl rfl rfl rfl
  · exact h
theorem SafeOk.up {data : List UInt8} {d : DskD} {k : Nat} (h : SafeOk data d) (hk : AllOk d k) (ks : List Bool) (sizes cuts : List Int) : SafeOk data (upK d ks sizes cuts) := by
  have hC := nums_crash (fun n => 0 ≤ n) d.ds d.ops ks hk.ok.ss (fun e he => (hk.ok.snums e he).1) (fun o ho q => (hk.ok.onums o ho q).1)
  have hs := h.ds.crash d.ds d.ops ks hk.ok.ss h.ops
  exact ⟨hs, hs, by simp [upK], upL_safe sizes data _ _ _ _ h.file hC⟩
theorem SafeOk.flip {data : List UInt8} {d : DskD} {k : Nat} (h : SafeOk data d) (hk : AllOk d k) {m : List UInt8} (hm : m ≠ safeN) (bit : Int) : SafeOk data (flipK d m bit).1 := by
  unfold flipK
  split
  · exact h
  · next n hl =>
    split
    · exact h
    · exact h.put (h.other hk hm hl) _
theorem SafeOk.plain {data : List UInt8} {d : DskD} {k : Nat} (h : SafeOk data d) (hk : AllOk d k) (A : ActK) (ha : A.a ≠ safeN) (hb : A.b ≠ safeN) : SafeOk data (plainK d A).1 := by
  unfold plainK
  split
  · exact h.create hk ha
  · split
    · exact h.append hk ha _
    · split
      · exact h.sync hk ha
      · split
        · exact h.syncDir
        · split
          · exact h.move hk ha hb
          · split
            · exact h.drop hk ha
            · split
              · exact h.arm _ _
              · split
                · exact h.same rfl rfl rfl rfl
                · split
                  · exact h.up hk _ _ _
                  · exact h.flip hk ha _
/-- What reading the safe name gives behind a loss. -/
theorem SafeOk.read {data : List UInt8} {d : DskD} (h : SafeOk data d) (hd : d.down = false) : readK d safeN = (data, 0) := by
  unfold readK
  rw [if_neg (by rw [hd]; simp), h.dn.look]
  have h1 : d.files[(0 : Int).toNat]? = some ⟨data, data⟩ := h.file
  simp only [fileK, List.getD, h1, Option.getD_some]
/-- The disk ahead of the acts: made, one file written, both synced. -/
def disk1 : DskD := ⟨[], [], [], [], 1000000, 0, false, []⟩
theorem safe_start (data : List UInt8) (hd : data.length ≤ 200) : (createK disk1 safeN).2 = 0 ∧ (appendK (createK disk1 safeN).1 safeN data).2 = 0 ∧ (syncK (appendK (createK disk1 safeN).1 safeN data).1 safeN).2 = 0 ∧
    (syncDirK (syncK (appendK (createK disk1 safeN).1 safeN data).1 safeN).1).2 = 0 ∧ SafeOk data (syncDirK (syncK (appendK (createK disk1 safeN).1 safeN data).1 safeN).1).1 := by
  have e1 : createK disk1 safeN = (⟨[(safeN, 0)], [], [⟨0, safeN, [], 0⟩], [f0D], 1000000, 1, false, []⟩, 0) := by
    simp [createK, codeK, hitF, codeF, disk1, show rightB safeN = true by decide, lookL, stepK, applyL, withL, withoutL, insL]
  rw [e1]
  have e2 : appendK ⟨[(safeN, 0)], [], [⟨0, safeN, [], 0⟩], [f0D], 1000000, 1, false, []⟩ safeN data = (⟨[(safeN, 0)], [], [⟨0, safeN, [], 0⟩], [⟨data, []⟩], 1000000, 2, false, []⟩, 0) := by
    simp [appendK, codeK, hitF, codeF, stepK, lookL, fileK, f0D, usedK, putK]
    rw [if_neg (by omega), if_neg (by omega)]
  simp only [e2]
  have e3 : syncK ⟨[(safeN, 0)], [], [⟨0, safeN, [], 0⟩], [⟨data, []⟩], 1000000, 2, false, []⟩ safeN = (⟨[(safeN, 0)], [], [⟨0, safeN, [], 0⟩], [⟨data, data⟩], 1000000, 3, false, []⟩, 0) := by
    simp [syncK, codeK, hitF, codeF, stepK, lookL, fileK, f0D, putK]
  simp only [e3]
  have e4 : syncDirK ⟨[(safeN, 0)], [], [⟨0, safeN, [], 0⟩], [⟨data, data⟩], 1000000, 3, false, []⟩ = (⟨[(safeN, 0)], [(safeN, 0)], [], [⟨data, data⟩], 1000000, 4, false, []⟩, 0) := by
    simp [syncDirK, codeK, hitF, codeF, stepK]
  simp only [e4]
  have hs : SafeL [(safeN, 0)] := ⟨by simp [lookL], by simp⟩
  exact ⟨trivial, trivial, trivial, trivial, hs, hs, by simp, rfl⟩
end Go.Proofs.Ytmchnaojlnjmjaa
