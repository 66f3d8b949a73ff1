/- Contracts of slices.Grow and of inode's Append. -/
import Derived.Test.YtmchnaojlnjmjaaInoA
namespace Go.Proofs.Ytmchnaojlnjmjaa
open Go.RowKit

theorem splice_length {α : Type} (L : List α) (off : Nat) (cs : List α) (h : off + cs.length ≤ L.length) : (splice L off cs).length = L.length := by
  simp [splice]; omega
theorem splice_head {α : Type} (L : List α) (off : Nat) (cs : List α) (h : off ≤ L.length) : (splice L off cs).take (off + cs.length) = L.take off ++ cs := by
  have e : (L.take off ++ cs).length = off + cs.length := by simp; omega
  rw [splice, ← List.append_assoc, ← e]
  exact List.take_left
/-- Room for n more bytes behind these. -/
def Grown (w : World) (g : Nat) (now : List UInt8) (n : Nat) (e : Ending) (w' : World) : Prop :=
  ∃ (g' cap' : Nat) (cur' : List Value), e = .returned (.slice (some ⟨g', 0, none⟩) now.length cap') ∧ w'.heap[g']? = some (.cells cur'.toArray 5 (0, 0)) ∧ cur'.length = cap' ∧ now.length + n ≤ cap' ∧ cap' ≤ maxLen ∧
    cur'.take now.length = cellsB now ∧ Fr [] w w' ∧ (g' = g ∨ w.heap.size ≤ g')
set_option maxRecDepth 100000 in
theorem grow_any (g cap n : Nat) (cur : List Value) (now : List UInt8) (w : World) (h : w.heap[g]? = some (.cells cur.toArray 5 (0, 0))) (hc : cur.length = cap) (hle : now.length ≤ cap) (hm : cap ≤ maxLen) (ht : cur.take now.length = cellsB now) (hn : now.length + n ≤ 140737488355328) :
    Calls Try.prog 51 #[.slice (some ⟨g, 0, none⟩) now.length cap, .int .i64 (n : Int)] w (Grown w g now n) := by
  obtain ⟨i, hi, hz0, hz1, hz2⟩ := info_parts infoB
  have hd0 : decide ((n : Int) < 0) = false := decide_eq_false (by omega)
  have hm' : cap ≤ 9223372036854775807 := by simpa [maxLen] using hm
  have HT := Lib.hid ht
  have HH := Lib.hid h
  clear ht h
  obtain ⟨l, hl⟩ : ∃ l, l = now.length := ⟨_, rfl⟩
  unfold Grown
  rw [← hl] at HT hle hn ⊢
  have HL := Lib.hid hl
  clear hl
  by_cases hr : l + n ≤ cap
  · have hd1 : decide (0 < (n : Int) - ((cap : Int) - (l : Int))) = false := decide_eq_false (by omega)
    go_enter Try.func51, Try.ntmps51
    go_wp2_with fail
    go_ret
    exact ⟨g, cap, cur, rfl, HH.out, hc, hr, hm, HT.out, Fr.refl _ _, .inl rfl⟩
  · have hd1 : decide (0 < (n : Int) - ((cap : Int) - (l : Int))) = true := decide_eq_true (by omega)
    obtain ⟨k, hk⟩ : ∃ k, k = l + n - cap := ⟨_, rfl⟩
    have hkn : (n : Int) - ((cap : Int) - (l : Int)) = (k : Int) := by omega
    have hk0 : 0 < k := by omega
    have hck : cap + k = l + n := by omega
    have HCK := Lib.hid hck
    have HHC := Lib.hid hc
    clear hk hck hc
    go_enter Try.func51, Try.ntmps51
    go_wp2_with (at_builtin; refine wpL_appendZeros rfl (.tmp 20) (.tmp 21) 24 3 rfl 5 i (.int .u8 0) .i64 1 Try.underlying24 Try.underlying3 hi hz0 hz1 hz2 rfl (some ⟨g, 0, none⟩) cap cur (.inr ⟨g, rfl, HH.out⟩) HHC.out k rfl rfl hk0 (by have := HCK.out; omega) (by have := HCK.out; simp [maxLen]; omega) ?_; intro w1 ncap cur1 hn1 hm1 hh1 hl1 hf1 hs1; have hlc1 : l ≤ ncap := (by have := HCK.out; omega))
    go_ret
    refine ⟨w.heap.size, ncap, cur ++ cur1, rfl, hh1.out, hl1.out, by rw [← HCK.out]; exact hn1, hm1, ?_, hf1, .inr (Nat.le_refl _)⟩
    rw [List.take_append_of_le_length (by rw [HHC.out]; exact hle)]
    exact HT.out

/-- The file has b more bytes. -/
def Longer (w : World) (p g : Nat) (now b : List UInt8) (s : Nat) (e : Ending) (w' : World) : Prop :=
  ∃ g', e = .returned (.bool true) ∧ isF w' p g' (now ++ b) s ∧ Fr [p, g] w w' ∧ (g' = g ∨ w.heap.size ≤ g')
theorem longer_mk {w w1 w2 : World} {p g g1 s cap cap1 : Nat} {now b : List UInt8} {cur1 : List Value} {bv : Value} (_hbp : b ≠ [] → ∀ k, bv.ownBlock = some k → k ≠ p) (hplt : p < w.heap.size) (hglt : g < w.heap.size) (h8 : s ≤ now.length) (hf1 : Fr [] w w1) (HP1 : w1.heap[p]? = some (.cells #[.slice (some ⟨g, 0, none⟩) now.length cap, .int .i64 (s : Int)] 83 (0, 0)))
    (HL1 : cur1.length = cap1) (hn1 : now.length + b.length ≤ cap1) (hm1 : cap1 ≤ maxLen) (HT1 : cur1.take now.length = cellsB now) (hg1 : g1 = g ∨ w.heap.size ≤ g1) (hg1p : g1 ≠ p)
    (hh2 : w2.heap[g1]? = some (.cells (splice cur1 now.length (cellsB b)).toArray 5 (0, 0))) (hf2 : Fr [g1] (w1.setCell ⟨p, 0, none⟩ (.slice (some ⟨g1, 0, none⟩) (now.length + b.length) cap1)) w2) : Longer w p g now b s (.returned (.bool true)) w2 := by
  have hps := heap_setCell_same HP1 (i := 0) (.slice (some ⟨g1, 0, none⟩) (now.length + b.length) cap1)
  refine ⟨g1, rfl, ⟨cap1, splice cur1 now.length (cellsB b), ?_, hh2, ?_, ?_, hm1, ?_, hg1p, by simp; omega⟩, ?_, hg1⟩
  · rw [List.length_append]; exact hf2.heap hps (by simpa using Ne.symm hg1p)
  · rw [splice_length _ _ _ (by rw [cellsB_length, HL1]; exact hn1), HL1]
  · rw [List.length_append]; exact hn1
  · have e := splice_head cur1 now.length (cellsB b) (by rw [HL1]; omega)
    rw [cellsB_length] at e
    rw [List.length_append, e, HT1, cellsB_append]
  · have hfs := hf1.trans (Fr.set0 w1 p 0 (.slice (some ⟨g1, 0, none⟩) (now.length + b.length) cap1)) (by simp) (n := [p]) (by simp)
    refine hfs.trans hf2 (by simp) (fun i hi hlt => ?_)
    simp only [List.mem_singleton] at hi
    subst hi
    rcases hg1 with rfl | hg1
    · simp
    · omega
theorem iappend_no (p g s : Nat) (now b : List UInt8) (bv : Value) (w : World) (h : isF w p g now s) (hb : bytesAt w bv b) (hl : now.length ≤ 1048576) (hn : 1048576 < now.length + b.length) :
    Calls Try.prog 31 #[.pointer (some ⟨p, 0, none⟩), bv] w fun e w' => e = .returned (.bool false) ∧ w = w' := by
  obtain ⟨cap, hle, hmx, hc0, hc1, hf0, hf1, -⟩ := h.open
  have hbl := hb.lenle
  obtain ⟨a, c, rfl, -, -⟩ := hb.form
  have hd : decide (1048576 - (now.length : Int) < (b.length : Int)) = true := decide_eq_true (by omega)
  clear h hb
  go_enter Try.func31, Try.ntmps31
  go_wp2_with fail
  go_ret
  exact ⟨rfl, rfl⟩
set_option maxRecDepth 100000 in
theorem iappend_yes (p g s : Nat) (now b : List UInt8) (bv : Value) (w : World) (h : isF w p g now s) (hb : bytesAt w bv b) (hn : now.length + b.length ≤ 1048576) (hbp : b ≠ [] → ∀ k, bv.ownBlock = some k → k ≠ p) :
    Calls Try.prog 31 #[.pointer (some ⟨p, 0, none⟩), bv] w (Longer w p g now b s) := by
  obtain ⟨cap, cur, h1, h2, h3, h4, h5, h6, h7, h8⟩ := h
  have hplt := (Array.getElem?_eq_some_iff.1 h1).1
  have hglt := (Array.getElem?_eq_some_iff.1 h2).1
  have hc0 : w.cell? ⟨p, 0, none⟩ = some (.slice (some ⟨g, 0, none⟩) now.length cap) := by rw [cell_of_heap h1]; rfl
  have hf0 := free_of_heap h1 0
  have hmx : cap ≤ 9223372036854775807 := by simpa [maxLen] using h5
  have HG := Lib.hid (grow_any g cap b.length cur now w h2 h3 h4 h5 h6 (by omega))
  obtain ⟨a, c, rfl, hbc, hbm⟩ := hb.form
  have hbm' : c ≤ 9223372036854775807 := by simpa [maxLen] using hbm
  have hd : decide (1048576 - (now.length : Int) < (b.length : Int)) = false := decide_eq_false (by omega)
  have H1 := Lib.hid h1
  have HB := Lib.hid hb
  have H6 := Lib.hid h6
  clear h1 hb h6 h2 h3
  go_enter Try.func31, Try.ntmps31
  go_wp2_with (first
    | (go_at_call 51; refine HG.out.mono ?_; rintro e w1 ⟨g1, cap1, cur1, rfl, hh1, hl1, hn1, hm1, ht1, hf1, hg1⟩; have hp1 := hf1.heap H1.out (by simp); have hfp1 := free_of_heap hp1 0; have hcp1 : w1.cell? ⟨p, 0, none⟩ = some (.slice (some ⟨g, 0, none⟩) now.length cap) := (by rw [cell_of_heap hp1]; rfl); have hg1p : g1 ≠ p := (by rcases hg1 with hg1 | hg1 <;> omega); have HHX := Lib.hid (fun X => (Fr.set0 w1 p 0 X).heap hh1 (by simpa using hg1p)); have HBX := Lib.hid (fun X => (HB.out.below hf1).kept (Fr.set0 w1 p 0 X) (fun k hk hne _ => by simpa using hbp hne k hk)); have HL1 := Lib.hid hl1; have HT1 := Lib.hid ht1; have HP1 := Lib.hid hp1; clear hh1 hl1 ht1 hp1)
    | (refine wpL_copy rfl (.tmp 44) (.tmp 45) 24 24 rfl 5 Try.underlying24 size8 _ _ _ _ b rfl rfl (HBX.out _) (Nat.le_refl _) g1 now.length cur1 5 (HHX.out _) (fun hq => if_neg (by omega)) (by rw [HL1.out]; exact hn1) ?_; intro w2 hh2 hf2 hs2))
  all_goals
    go_ret
    exact longer_mk hbp hplt hglt h8 hf1 HP1.out HL1.out hn1 hm1 HT1.out hg1 hg1p hh2.out hf2
end Go.Proofs.Ytmchnaojlnjmjaa
