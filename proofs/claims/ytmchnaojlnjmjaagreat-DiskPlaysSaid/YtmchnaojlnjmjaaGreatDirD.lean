/- Package dir: Put, Drop, Move; kept (with slices.Index); maps.Clone. -/
import Derived.Test.YtmchnaojlnjmjaaGreatDirC
import Derived.Shelf.SlMaps.Clone
import Derived.LoopTactic
namespace Go.Proofs.YtmchnaojlnjmjaaGreat
open Go.RowKit Go.Maps

/-- How many are kept: as many as are true ahead of the first that is not. -/
def keptL : List Bool → Nat
  | true :: r => keptL r + 1
  | _ => 0
theorem keptL_le : ∀ l : List Bool, keptL l ≤ l.length
  | [] => Nat.le_refl _
  | true :: r => by simp [keptL, keptL_le r]
  | false :: r => by simp [keptL]
theorem keptL_true : ∀ (l : List Bool) (j : Nat) (h : j < keptL l), l[j]? = some true
  | [], j, h => by simp [keptL] at h
  | false :: r, j, h => by simp [keptL] at h
  | true :: r, 0, _ => rfl
  | true :: r, j + 1, h => by simpa using keptL_true r j (by simpa [keptL] using h)
theorem keptL_false : ∀ l : List Bool, keptL l < l.length → l[keptL l]? = some false
  | [], h => by simp at h
  | false :: r, _ => rfl
  | true :: r, h => by simpa [keptL] using keptL_false r (by simpa [keptL] using h)
/-- The place of the first false; -1: there is none. -/
def idxL (l : List Bool) : Int := if keptL l < l.length then (keptL l : Int) else -1
def IdxRel (w : World) (n : Nat) (i : Value) (wx : World) : Prop := ∃ k : Nat, k ≤ n ∧ i = .int .i64 (k : Int) ∧ w = wx

set_option maxRecDepth 100000 in
theorem sindex_any (ks : List Bool) (v : Value) (w : World) (h : cellsAt w v (ks.map Value.bool)) (hl : ks.length ≤ 1000000000) :
    Calls Tryz.prog 92 #[v, .bool false] w fun e w' => e = .returned (.int .i64 (idxL ks)) ∧ w = w' := by
  have hg := h
  obtain ⟨a, cap, rfl, -, -⟩ := h.form
  rw [List.length_map] at *
  have hle := keptL_le ks
  have HT := Lib.hid (keptL_true ks)
  have HF := Lib.hid (keptL_false ks)
  obtain ⟨I, hI⟩ : ∃ I, I = idxL ks := ⟨_, rfl⟩
  unfold idxL at hI
  obtain ⟨q, hq⟩ : ∃ q, q = keptL ks := ⟨_, rfl⟩
  rw [show idxL ks = I from by rw [hI]; rfl]
  rw [← hq] at HT HF hle hI
  obtain ⟨n, hn⟩ : ∃ n, n = ks.length := ⟨_, rfl⟩
  rw [← hn] at HF hI hle hl hg ⊢
  have HI := Lib.hid hI
  have HN := Lib.hid hn
  have HG := Lib.hid hg
  clear h hq hI hn hg
  go_enter Tryz.func92, Tryz.ntmps92
  go_wp2_with fail
  go_loopw [8] (IdxRel w q) (fun i _ => n - (intOf i).toNat)
  case atStart => exact ⟨0, by omega, rfl, rfl⟩
  case round =>
    obtain ⟨k, hk, rfl, rfl⟩ := hrel
    by_cases hkn : k < n
    · have hd : decide (k < n) = true := decide_eq_true hkn
      obtain ⟨b, off, rfl, -, hc⟩ := HG.out.get (i := k) (by simpa [← HN.out] using hkn)
      have hck := hc k (by simpa [← HN.out] using hkn)
      by_cases hkq : k < q
      · have hbk : (ks.map Value.bool)[k]'(by simpa [← HN.out] using hkn) = .bool true := by
          have := HT.out k hkq
          rw [List.getElem_map]
          rw [List.getElem?_eq_getElem (by rw [← HN.out]; exact hkn)] at this
          rw [Option.some.inj this]
        rw [hbk] at hck
        clear hc hbk
        go_wp2_with fail
        go_roundw
        case rel => exact ⟨k + 1, by omega, by simp, rfl⟩
        case measure => simp [intOf]; omega
      · obtain rfl : k = q := by omega
        have hbk : (ks.map Value.bool)[k]'(by simpa [← HN.out] using hkn) = .bool false := by
          have := HF.out hkn
          rw [List.getElem_map]
          rw [List.getElem?_eq_getElem (by rw [← HN.out]; exact hkn)] at this
          rw [Option.some.inj this]
        rw [hbk] at hck
        have HII := Lib.hid (show I = (k : Int) by rw [HI.out, if_pos hkn])
        clear hc hbk
        go_wp2_with fail
        go_ret
        exact ⟨by rw [HII.out]; rfl, rfl⟩
    · have hd : decide (k < n) = false := decide_eq_false hkn
      have HII := Lib.hid (show I = -1 by rw [HI.out, if_neg (by omega)])
      go_wp2_with fail
      go_ret
      exact ⟨by rw [HII.out]; rfl, rfl⟩

theorem dkept_any (ks : List Bool) (v : Value) (w : World) (h : cellsAt w v (ks.map Value.bool)) (hl : ks.length ≤ 1000000000) :
    Calls Tryz.prog 80 #[v] w fun e w' => e = .returned (.int .i64 (keptL ks : Nat)) ∧ w = w' := by
  have HS := Lib.hid (sindex_any ks v w h hl)
  have hle := keptL_le ks
  obtain ⟨a, cap, rfl, -, -⟩ := h.form
  rw [List.length_map] at *
  unfold idxL at HS
  obtain ⟨q, hq⟩ : ∃ q, q = keptL ks := ⟨_, rfl⟩
  obtain ⟨n, hn⟩ : ∃ n, n = ks.length := ⟨_, rfl⟩
  rw [← hq, ← hn] at HS hle
  rw [← hq, ← hn]
  clear hq hn h
  by_cases hqn : q < n
  · rw [if_pos hqn] at HS
    have hd : decide (0 ≤ (q : Int)) = true := decide_eq_true (by omega)
    go_enter Tryz.func80, Tryz.ntmps80
    go_wp2_with (go_at_call 92; refine HS.out.mono ?_; rintro e w1 ⟨rfl, rfl⟩)
    go_ret
    exact ⟨rfl, rfl⟩
  · rw [if_neg hqn] at HS
    obtain rfl : q = n := by omega
    go_enter Tryz.func80, Tryz.ntmps80
    go_wp2_with (go_at_call 92; refine HS.out.mono ?_; rintro e w1 ⟨rfl, rfl⟩)
    go_ret
    exact ⟨rfl, rfl⟩

/-- maps.Clone of a map of names. -/
def Clonedd (b m : Nat) (l : List Ent) (w : World) (e : Ending) (w' : World) : Prop := e = .returned (.map (some w.heap.size)) ∧ mapIs w' w.heap.size m l ∧ Fr [] w w' ∧ Hid (w'.heap.size = w.heap.size + 1)
set_option maxRecDepth 100000 in
set_option maxHeartbeats 2000000 in
theorem dclone_any (b m : Nat) (l : List Ent) (w : World) (h : mapIs w b m l) : Calls Tryz.prog 81 #[.map (some b)] w (Clonedd b m l w) := by
  obtain ⟨D, ⟨es, clock, hb, F, hs, hD⟩, hat⟩ := h
  have HE := Lib.hid (show mapIs (w.alloc (.map es clock)) w.heap.size m l from ⟨D, ⟨es, clock, heap_alloc_new w _, F, hs, hD⟩, hat⟩)
  have hq := fun w => run_eql_map_nil_sl (P := Tryz.prog) w 98 _ _ (some b) Tryz.underlying98
  clear F hs hD hat
  go_enter Tryz.func81, Tryz.ntmps81
  go_wp2_with fail
  rw [run_callFunc_extern Tryz.func93 (by kernel_rfl) (by kernel_rfl) (by kernel_rfl) (e := Extern.MapsClone.clone) (by kernel_rfl), run_maps_clone_sl w 98 hb]
  simp only [Result.andThen]
  rw [Oper.upon_value]
  go_wp2_with fail
  rw [run_typeAssert_map_sl _ 98 20 _ _ _ Tryz.underlying98]
  simp only [Result.andThen]
  rw [Oper.upon_value]
  go_wp2_with fail
  go_ret
  exact ⟨rfl, HE.out, Fr.alloc _ _, Lib.hid (World.size_alloc _ _)⟩
end Go.Proofs.YtmchnaojlnjmjaaGreat
