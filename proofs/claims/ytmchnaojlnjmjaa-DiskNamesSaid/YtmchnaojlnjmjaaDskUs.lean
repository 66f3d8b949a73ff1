/- How many bytes the first files have (layer 11): plain mathematics. -/
import Derived.Test.YtmchnaojlnjmjaaDskMath
namespace Go.Proofs.Ytmchnaojlnjmjaa

def usedTo (d : DskD) (k : Nat) : Nat := ((d.dn.take k).map fun e => (fileK d e.2).now.length).sum
theorem usedTo_all (d : DskD) : usedTo d d.dn.length = usedK d := by unfold usedTo usedK; rw [List.take_length]
theorem usedTo_next (d : DskD) (k : Nat) (hk : k < d.dn.length) : usedTo d (k + 1) = usedTo d k + (fileK d (d.dn[k]'hk).2).now.length := by
  unfold usedTo
  rw [List.take_succ_eq_append_getElem hk, List.map_append, List.sum_append]
  rfl
theorem usedTo_le (d : DskD) (M : Nat) (hM : ∀ f ∈ d.files, f.now.length ≤ M) : ∀ k, k ≤ d.dn.length → usedTo d k ≤ k * M
  | 0, _ => by simp [usedTo]
  | k + 1, hk => by
    rw [usedTo_next d k (by omega), Nat.add_mul]
    have := usedTo_le d M hM k (by omega)
    have : (fileK d (d.dn[k]'(by omega)).2).now.length ≤ M := by
      unfold fileK
      by_cases q : (d.dn[k]'(by omega)).2.toNat < d.files.length
      · simp only [List.getD, List.getElem?_eq_getElem q, Option.getD_some]; exact hM _ (List.getElem_mem q)
      · simp only [List.getD, List.getElem?_eq_none (Nat.le_of_not_lt q), Option.getD_none]; simp [f0D]
    omega
end Go.Proofs.Ytmchnaojlnjmjaa
