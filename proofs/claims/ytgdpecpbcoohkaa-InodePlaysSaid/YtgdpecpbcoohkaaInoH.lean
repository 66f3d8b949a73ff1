/- What the statements of layer 8 call beside inode: few, taken. -/
import Derived.Test.YtgdpecpbcoohkaaInoF
namespace Go.Proofs.Ytgdpecpbcoohkaa
open Go.RowKit

/-- An act as it lies in memory. -/
structure ADat where
  kind : Int
  bv : Value
  b : List UInt8
  n : Int
  cv : Value
  cuts : List Int
def ADat.cells (a : ADat) : List Value := [.int .i64 a.kind, a.bv, .int .i64 a.n, a.cv]
def ADat.ok (w : World) (a : ADat) : Prop := bytesAt w a.bv a.b ∧ cellsAt w a.cv (a.cuts.map (Value.int .i64)) ∧ (-9223372036854775808 ≤ a.n ∧ a.n ≤ 9223372036854775807)
theorem ADat.ok.below {w w' : World} {a : ADat} (h : a.ok w) (hf : Fr [] w w') : a.ok w' := ⟨h.1.below hf, h.2.1.below hf, h.2.2⟩
def fewA (a : ADat) : Prop := a.b.length ≤ 100 ∧ a.cuts.length ≤ 20
instance (a : ADat) : Decidable (fewA a) := by unfold fewA; infer_instance
def fewB (l : List ADat) : Bool := decide (l.length ≤ 30 ∧ ∀ a ∈ l, fewA a)
/-- The cells of one act of a list. -/
theorem act_cells {w : World} {a0 : Option Addr} {n cap : Nat} {l : List ADat} (h : elemsAt w (.slice a0 n cap) 4 (l.map ADat.cells)) (k : Nat) (hk : k < l.length) : ∃ b off, a0 = some ⟨b, off, none⟩ ∧ n = l.length ∧
    w.cell? ⟨b, off + k * 4, none⟩ = some (.int .i64 (l[k]'hk).kind) ∧ w.cell? ⟨b, off + k * 4 + 1, none⟩ = some (l[k]'hk).bv ∧ w.cell? ⟨b, off + k * 4 + 2, none⟩ = some (.int .i64 (l[k]'hk).n) ∧ w.cell? ⟨b, off + k * 4 + 3, none⟩ = some (l[k]'hk).cv := by
  rcases h with ⟨_, _, _, _, e⟩ | ⟨b, off, cap', e, _, _, _, hcell⟩
  · rw [List.map_eq_nil_iff] at e; subst e; simp at hk
  · simp only [Value.slice.injEq, List.length_map] at e
    obtain ⟨rfl, hn, rfl⟩ := e
    obtain ⟨-, h1⟩ := hcell k (by simpa using hk)
    rw [List.getElem_map] at h1
    exact ⟨b, off, rfl, hn, by simpa using h1 0 _ rfl, h1 1 _ rfl, h1 2 _ rfl, h1 3 _ rfl⟩
def FewRel (l : List ADat) (iv : Value) : Prop := ∃ k : Nat, k ≤ l.length ∧ iv = .int .i64 (k : Int) ∧ ∀ j, j < k → ∀ h : j < l.length, fewA (l[j]'h)
set_option maxRecDepth 100000 in
theorem few_any (l : List ADat) (lv : Value) (w : World) (h : elemsAt w lv 4 (l.map ADat.cells)) (hok : ∀ a ∈ l, a.ok w) :
    Calls Try.prog 6 #[lv] w fun e w' => e = .returned (.bool (fewB l)) ∧ w = w' := by
  obtain ⟨a0, c0, rfl, hle, hmx⟩ := h.form
  rw [List.length_map] at h hle ⊢
  have hm' : c0 ≤ 9223372036854775807 := by simpa [maxLen] using hmx
  have HE := Lib.hid h
  have HOK := Lib.hid hok
  clear h hok
  by_cases hl : l.length ≤ 30
  · have hd : decide (30 < (l.length : Int)) = false := decide_eq_false (by omega)
    go_enter Try.func6, Try.ntmps6
    go_wp2_with fail
    go_loop [3] (FewRel l) (fun i => l.length - (intOf i).toNat)
    case atStart => exact ⟨0, Nat.zero_le _, rfl, fun j hj => by omega⟩
    case round =>
      obtain ⟨k, hk, rfl, hall⟩ := hrel
      have HA := Lib.hid hall
      clear hall
      by_cases hkn : k < l.length
      · have hd2 : decide (k < l.length) = true := decide_eq_true hkn
        obtain ⟨b, off, rfl, -, hc0, hc1, hc2, hc3⟩ := act_cells HE.out k hkn
        have hak := HOK.out _ (List.getElem_mem hkn)
        obtain ⟨x1, y1, hbv, -, -⟩ := hak.1.form
        obtain ⟨x2, y2, hcv, -, -⟩ := hak.2.1.form
        rw [List.length_map] at hcv
        rw [hbv] at hc1
        rw [hcv] at hc3
        obtain ⟨A, hA⟩ : ∃ A, A = l[k] := ⟨_, rfl⟩
        rw [← hA] at hc0 hc1 hc2 hc3
        have HAA := Lib.hid hA
        clear hak hbv hcv hA
        by_cases hb : A.b.length ≤ 100
        · have hd3 : decide (100 < (A.b.length : Int)) = false := decide_eq_false (by omega)
          by_cases hcu : A.cuts.length ≤ 20
          · have hd4 : decide (20 < (A.cuts.length : Int)) = false := decide_eq_false (by omega)
            have hfa := Lib.hid (show fewA A from ⟨hb, hcu⟩)
            clear hb hcu
            go_wp2_with fail
            refine ⟨⟨k + 1, by omega, by go_num, fun j hj hjl => ?_⟩, by simp [intOf]; omega⟩
            by_cases e : j = k
            · subst e; rw [← HAA.out]; exact hfa.out
            · exact HA.out j (by omega) hjl
          · have hd4 : decide (20 < (A.cuts.length : Int)) = true := decide_eq_true (by omega)
            have HF := Lib.hid (show fewB l = false from decide_eq_false (fun h => hcu ((h.2 A (HAA.out ▸ List.getElem_mem hkn)).2)))
            clear hb hcu
            go_wp2_with fail
            go_ret
            exact ⟨by rw [HF.out]; rfl, rfl⟩
        · have hd3 : decide (100 < (A.b.length : Int)) = true := decide_eq_true (by omega)
          have HF := Lib.hid (show fewB l = false from decide_eq_false (fun h => hb ((h.2 A (HAA.out ▸ List.getElem_mem hkn)).1)))
          clear hb
          go_wp2_with fail
          go_ret
          exact ⟨by rw [HF.out]; rfl, rfl⟩
      · have hd2 : decide (k < l.length) = false := decide_eq_false hkn
        obtain rfl : k = l.length := by omega
        have HF := Lib.hid (show fewB l = true from decide_eq_true ⟨hl, fun a ha => by
          obtain ⟨i, hi, rfl⟩ := List.getElem_of_mem ha
          exact HA.out i hi hi⟩)
        go_wp2_with fail
        go_ret
        exact ⟨by rw [HF.out]; rfl, rfl⟩
  · have hd : decide (30 < (l.length : Int)) = true := decide_eq_true (by omega)
    have HF := Lib.hid (show fewB l = false from decide_eq_false (fun h => hl h.1))
    clear hl
    go_enter Try.func6, Try.ntmps6
    go_wp2_with fail
    go_ret
    exact ⟨by rw [HF.out]; rfl, rfl⟩
end Go.Proofs.Ytgdpecpbcoohkaa
