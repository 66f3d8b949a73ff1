/- WsetLimit (layer 19): the mathematics and the law, over any program that does what it must. -/
import Derived.Test.YtmcekpgmebanaaaWsE
import Derived.Test.YtmcekpgmebanaaaRowStr
set_option linter.unusedVariables false
set_option linter.unusedSimpArgs false
namespace Go.Proofs.Ytmcekpgmebanaaa
open Go.RowKit

/-- All words of one byte below n. -/
def oneW (n : Nat) : Words := (List.range n).map fun i => [UInt8.ofNat i]
theorem oneW_len (n : Nat) : (oneW n).length = n := by simp [oneW]
theorem oneW_next (n : Nat) : oneW (n + 1) = oneW n ++ [[UInt8.ofNat n]] := by unfold oneW; rw [List.range_succ, List.map_append]; rfl
theorem less_one (i j : Nat) (hj : j < 256) (h : i < j) (s t : List UInt8) : lessB (UInt8.ofNat i :: s) (UInt8.ofNat j :: t) = true := by
  have h1 : (UInt8.ofNat i).toNat = i := UInt8.toNat_ofNat_of_lt' (by show i < 256; omega)
  have h2 : (UInt8.ofNat j).toNat = j := UInt8.toNat_ofNat_of_lt' (by show j < 256; omega)
  have hne : UInt8.ofNat i ≠ UInt8.ofNat j := fun e => by rw [e, h2] at h1; omega
  simp [lessB, hne, h1, h2, h]
theorem set_oneW {n : Nat} (hn : n ≤ 256) : setW (oneW n) := by
  unfold setW oneW
  rw [List.pairwise_map]
  refine List.Pairwise.imp_of_mem (R := fun a b => a < b) (fun ha hb h => ?_) List.pairwise_lt_range
  rw [List.mem_range] at ha hb
  exact less_one _ _ (by omega) h [] []
theorem short_oneW {n : Nat} (hn : n ≤ 256) : ShortW (oneW n) := by
  refine ⟨by rw [oneW_len]; omega, fun x hx => ?_⟩
  obtain ⟨i, _, rfl⟩ := List.mem_map.1 hx
  simp
theorem cats2_set {n m : Nat} (hn : n ≤ 256) (hm : m ≤ 256) : setW (catsW 2 (oneW n) (oneW m)) := by
  unfold setW catsW
  rw [List.pairwise_flatMap]
  constructor
  · intro x hx
    obtain ⟨i, hi, rfl⟩ := List.mem_map.1 hx
    unfold oneW
    rw [List.map_map, List.pairwise_map]
    refine List.Pairwise.imp_of_mem (R := fun a b => a < b) (fun ha hb h => ?_) List.pairwise_lt_range
    rw [List.mem_range] at ha hb
    have := less_one _ _ (show _ < 256 by omega) h [] []
    show lessB (cutW ([UInt8.ofNat i] ++ [UInt8.ofNat _]) 2) (cutW ([UInt8.ofNat i] ++ [UInt8.ofNat _]) 2) = true
    show lessB (UInt8.ofNat i :: [UInt8.ofNat _]) (UInt8.ofNat i :: [UInt8.ofNat _]) = true
    rw [show ∀ (c : UInt8) (s t : List UInt8), lessB (c :: s) (c :: t) = lessB s t from fun c s t => by simp [lessB]]
    exact this
  · unfold oneW
    rw [List.pairwise_map]
    refine List.Pairwise.imp_of_mem (R := fun a b => a < b) (fun ha hb h => ?_) List.pairwise_lt_range
    rw [List.mem_range] at ha hb
    intro x hx y hy
    obtain ⟨p, hp, rfl⟩ := List.mem_map.1 hx
    obtain ⟨q, hq, rfl⟩ := List.mem_map.1 hy
    obtain ⟨p', _, rfl⟩ := List.mem_map.1 hp
    obtain ⟨q', _, rfl⟩ := List.mem_map.1 hq
    exact less_one _ _ (by omega) h _ _
theorem cat2_len {n m : Nat} (hn : n ≤ 256) (hm : m ≤ 256) : (catW 2 (oneW n) (oneW m)).length = n * m := by
  unfold catW
  rw [ofW_set (cats2_set hn hm), catsW_len, oneW_len, oneW_len]
theorem cat1_some {n m : Nat} (hn : n ≤ 256) (hm : 0 < m) : catW 1 (oneW n) (oneW m) = oneW n := by
  refine (set_catW _ _ _).one (set_oneW hn) fun x => ?_
  rw [mem_catW]
  constructor
  · rintro ⟨y, hy, z, hz, rfl⟩
    obtain ⟨i, hi, rfl⟩ := List.mem_map.1 hy
    exact List.mem_map.2 ⟨i, hi, rfl⟩
  · intro hx
    obtain ⟨i, hi, rfl⟩ := List.mem_map.1 hx
    exact ⟨_, hx, [UInt8.ofNat 0], List.mem_map.2 ⟨0, List.mem_range.2 hm, rfl⟩, rfl⟩
theorem cat1_none {n : Nat} : catW 1 (oneW n) (oneW 0) = [] := by
  apply List.eq_nil_iff_forall_not_mem.2
  intro x hx
  obtain ⟨y, hy, z, hz, _⟩ := mem_catW.1 hx
  simp [oneW] at hz
end Go.Proofs.Ytmcekpgmebanaaa
