/- Several texts in one: DskUs, DskUpL. -/
import Derived.Test.YtmchnaojlnjmjaaGreatDskMath
import Derived.Test.YtmchnaojlnjmjaaGreatBs
/-! How many bytes the first files have (layer 11): plain mathematics. -/
namespace Go.Proofs.YtmchnaojlnjmjaaGreat

def usedTo (d : DskD) (k : Nat) : Nat := ((d.dn.take k).map fun e => (fileK d e.2).now.length).sum
theorem usedTo_all (d : DskD) : usedTo d d.dn.length = usedK d := by unfold usedTo usedK; rw [List.take_length]
theorem usedTo_next (d : DskD) (k : Nat) (hk : k < d.dn.length) : usedTo d (k + 1) = usedTo d k + (fileK d (d.dn[k]'hk).2).now.length := by
  unfold usedTo
  rw [List.take_succ_eq_append_getElem hk, List.map_append, List.sum_append]
  rfl
theorem usedTo_le (d : DskD) (M : Nat) (hM : ∀ f ∈ d.files, f.now.length ≤ M) : ∀ k, k ≤ d.dn.length → usedTo d k ≤ k * M
  | 0, _ => by simp [usedTo]
  | k + 1, hk => by
    rw [usedTo_next d k (by omega), Nat.add_mul]
    have := usedTo_le d M hM k (by omega)
    have : (fileK d (d.dn[k]'(by omega)).2).now.length ≤ M := by
      unfold fileK
      by_cases q : (d.dn[k]'(by omega)).2.toNat < d.files.length
      · simp only [List.getD, List.getElem?_eq_getElem q, Option.getD_some]; exact hM _ (List.getElem_mem q)
      · simp only [List.getD, List.getElem?_eq_none (Nat.le_of_not_lt q), Option.getD_none]; simp [f0D]
    omega
end Go.Proofs.YtmchnaojlnjmjaaGreat

/-! Up's loop over the files, as mathematics (layer 11); the rest of a slice of cells. -/
namespace Go.Proofs.YtmchnaojlnjmjaaGreat
open Go.RowKit

/-- The rest of a slice of cells. -/
theorem cellsAt.rest {w : World} {a : Option Addr} {cap n : Nat} {cs : List Value} (h : cellsAt w (.slice a cs.length cap) cs) (hn : n ≤ cs.length) : cellsAt w (.slice (if cap = n then a else a.map fun x => x.add n) (cs.length - n) (cap - n)) (cs.drop n) := by
  rcases h with ⟨a', c', e, hm, rfl⟩ | ⟨b, off, c, e, h1, h2, h3⟩
  · simp only [Value.slice.injEq, List.length_nil] at e
    obtain ⟨rfl, -, rfl⟩ := e
    simp only [List.length_nil, Nat.le_zero] at hn
    subst hn
    exact .inl ⟨_, _, rfl, by omega, by simp⟩
  · simp only [Value.slice.injEq] at e
    obtain ⟨rfl, -, rfl⟩ := e
    by_cases hc : cap = n
    · have hl : cs.length = n := by omega
      exact .inl ⟨_, _, by rw [hl, Nat.sub_self], by omega, by rw [← hl]; simp⟩
    · refine .inr ⟨b, off + n, cap - n, ?_, by simp; omega, by omega, fun i hi => ?_⟩
      · rw [if_neg hc]
        simp [Addr.add]
      · rw [List.length_drop] at hi
        have := h3 (n + i) (by omega)
        rw [show off + n + i = off + (n + i) from by omega, this]
        simp
theorem upL_step (sizes : List Int) (C : List Ent) (i : Nat) (hi : i < C.length) (fs : List FileD) (cuts : List Int) (f : FileD) (n : Nat) (hn : (C[i]'hi).2 = (n : Int)) (hnl : n < fs.length) (hf : f = fs[n]'hnl) :
    upL sizes (C.drop i) i fs cuts = upL sizes (C.drop (i + 1)) (i + 1) (fs.set n ⟨crashC f.now f.safe.length (sizes.getD i 0) cuts, crashC f.now f.safe.length (sizes.getD i 0) cuts⟩) (cuts.drop (min (secsC (crashC f.now f.safe.length (sizes.getD i 0) cuts).length f.safe.length) cuts.length)) := by
  rw [List.drop_eq_getElem_cons hi]
  unfold upL
  have hg : fs.getD (C[i]'hi).2.toNat f0D = f := by rw [hn, Int.toNat_natCast, hf]; simp only [List.getD, List.getElem?_eq_getElem hnl, Option.getD_some]
  rw [hg, hn, Int.toNat_natCast]
  cases C.drop (i + 1) <;> rfl
/-- The files are as they must be. -/
structure FsOk (fs : List FileD) (M : Nat) : Prop where
  pre : ∀ f ∈ fs, f.safe = f.now.take f.safe.length
  len : ∀ f ∈ fs, f.now.length ≤ M
theorem FsOk.set {fs : List FileD} {M n : Nat} {l : List UInt8} (h : FsOk fs M) (hl : l.length ≤ M) : FsOk (fs.set n ⟨l, l⟩) M := by
  refine ⟨fun f hf => ?_, fun f hf => ?_⟩
  · rcases List.mem_or_eq_of_mem_set hf with q | rfl
    · exact h.pre f q
    · simp
  · rcases List.mem_or_eq_of_mem_set hf with q | rfl
    · exact h.len f q
    · exact hl
end Go.Proofs.YtmchnaojlnjmjaaGreat
