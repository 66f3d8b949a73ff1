/- Contracts of package octet's writer: Raw, Len. -/
import Derived.Test.YtijdffpekonklaaOctB
namespace Go.Proofs.Ytijdffpekonklaa
open Go.RowKit

/-- A slice of byte slices; nothing that is read of it lies in the blocks of the list. -/
def rowsAt (l : List Nat) (w : World) (sv : Value) (parts : List (List UInt8)) : Prop :=
  ∃ b off cap vs, sv = .slice (some ⟨b, off, none⟩) parts.length cap ∧ parts.length ≤ cap ∧ cap ≤ maxLen ∧ (vs : List Value).length = parts.length ∧ b ∉ l ∧ b < w.heap.size ∧
    (∀ i (h : i < vs.length), w.cell? ⟨b, off + i, none⟩ = some (vs[i]'h)) ∧
    ∀ i (h : i < vs.length) (h' : i < parts.length), bytesAt w (vs[i]'h) (parts[i]'h') ∧ ∀ k, (vs[i]'h).ownBlock = some k → parts[i]'h' ≠ [] → k ∉ l
theorem rowsAt.kept {l m : List Nat} {w w' : World} {sv : Value} {parts : List (List UInt8)} (h : rowsAt l w sv parts) (hf : Fr l w w') (hm : ∀ k ∈ m, k ∈ l ∨ w.heap.size ≤ k) : rowsAt m w' sv parts := by
  obtain ⟨b, off, cap, vs, rfl, h1, h2, h3, h4, hb, h5, h6⟩ := h
  refine ⟨b, off, cap, vs, rfl, h1, h2, h3, ?_, Nat.lt_of_lt_of_le hb hf.size, fun i hi => hf.cell (h5 i hi) h4, fun i hi hi' => ?_⟩
  · intro q
    rcases hm b q with q | q
    · exact h4 q
    · omega
  · obtain ⟨g1, g2⟩ := h6 i hi hi'
    refine ⟨g1.kept hf fun k hk hn _ => g2 k hk hn, fun k hk hn q => ?_⟩
    rcases hm k q with q | q
    · exact g2 k hk hn q
    · have := g1.lt hn k hk; omega

theorem rowsAt_new (l : List Nat) (w : World) (vs : List Value) (parts : List (List UInt8)) (e : TypeId) (n : Nat) (hn : n = parts.length) (hl : vs.length = parts.length) (hm : parts.length ≤ maxLen) (hs : w.heap.size ∉ l)
    (h : ∀ i (h : i < vs.length) (h' : i < parts.length), bytesAt w (vs[i]'h) (parts[i]'h') ∧ ∀ k, (vs[i]'h).ownBlock = some k → parts[i]'h' ≠ [] → k ∉ l) :
    rowsAt l (w.alloc (.cells vs.toArray e)) (.slice (some ⟨w.heap.size, 0, none⟩) n n) parts := by
  subst hn
  refine ⟨_, 0, parts.length, vs, rfl, Nat.le_refl _, hm, hl, hs, by simp, fun i hi => ?_, fun i hi hi' => ⟨(h i hi hi').1.below (Fr.alloc _ _), (h i hi hi').2⟩⟩
  rw [cell_of_heap (heap_alloc_new w _)]
  simp [hi]

theorem grew_copy {p : Nat} {g : Option Nat} {bs part : List UInt8} {w w1 w2 : World} {b cap : Nat} {cur : List Value} (hne : g ≠ some p) (hplt : p < w.heap.size)
    (hc1 : bs.length + part.length ≤ cap) (hc2 : cap ≤ maxLen) (hp1 : w1.heap[p]? = some (.cells #[.slice (some ⟨b, 0, none⟩) (bs.length + part.length) cap] 65 (0, 0))) (hcl : cur.length = cap) (hct : cur.take bs.length = cellsB bs)
    (hf1 : Fr [p] w w1) (hgb : g = some b ∨ w.heap.size ≤ b) (hh : w2.heap[b]? = some (.cells (splice cur bs.length (cellsB part)).toArray 5 (0, 0))) (hf2 : Fr [b] w1 w2) : Grew w p g (bs ++ part) w2 := by
  have hbp : b ≠ p := by
    rintro rfl
    rcases hgb with rfl | h
    · exact hne rfl
    · omega
  refine ⟨some b, ⟨.slice (some ⟨b, 0, none⟩) (bs.length + part.length) cap, hf2.heap hp1 (by simpa using Ne.symm hbp), ?_, rfl⟩, ?_, ?_⟩
  · rw [show (bs ++ part).length = bs.length + part.length from by simp]
    refine owns_of_heap hh (Nat.zero_le _) ?_ hc1 hc2 ?_
    · rw [length_splice _ _ _ (by simp [cellsB]; omega), hcl]
    · rw [cellsB_append, splice, hct, ← List.append_assoc, List.take_append_of_le_length (by simp [cellsB]), List.take_of_length_le (by simp [cellsB])]
  · refine hf1.trans hf2 (by simp) (fun i hi hlt => ?_)
    rcases hgb with rfl | hgb
    · simp at hi; simp [hi]
    · simp at hi; omega
  · rcases hgb with rfl | hgb
    · exact .inl rfl
    · exact .inr ⟨b, rfl, hgb⟩

/-- Raw: all parts behind the bytes. -/
def RawRel (p : Nat) (g : Option Nat) (bs : List UInt8) (parts : List (List UInt8)) (sv : Value) (w : World) (si : Value) (wr : World) : Prop :=
  ∃ k, k ≤ parts.length ∧ si = .int .i64 (k : Int) ∧ Grew w p g (bs ++ (parts.take k).flatten) wr ∧ rowsAt (p :: g.toList) w sv parts
theorem flatten_take_le (parts : List (List UInt8)) (k : Nat) (h : k < parts.length) : (parts.take k).flatten.length + (parts[k]'h).length ≤ parts.flatten.length := by
  have e : parts.flatten = (parts.take k).flatten ++ ((parts[k]'h) ++ (parts.drop (k + 1)).flatten) := by
    rw [← List.flatten_cons, ← List.drop_eq_getElem_cons h, ← List.flatten_append, List.take_append_drop]
  rw [e]; simp [Nat.add_assoc]
theorem flatten_take_succ (parts : List (List UInt8)) (k : Nat) (h : k < parts.length) : (parts.take (k + 1)).flatten = (parts.take k).flatten ++ (parts[k]'h) := by
  rw [List.take_succ_eq_append_getElem h, List.flatten_append]; simp
theorem raw_any (p : Nat) (g : Option Nat) (bs : List UInt8) (parts : List (List UInt8)) (sv : Value) (w : World) (h : isW w p g bs) (hr : rowsAt (p :: g.toList) w sv parts) (hl : bs.length + parts.flatten.length ≤ 140737488355328) :
    Calls Try.prog 20 #[.pointer (some ⟨p, 0, none⟩), sv] w (fun e w' => e = .returned (.tuple #[]) ∧ Grew w p g (bs ++ parts.flatten) w') := by
  have hr0 := hr
  obtain ⟨b, off, cap, vs, rfl, h1, h2, h3, h4, hb, h5, h6⟩ := hr
  have hm : cap ≤ 9223372036854775807 := by simpa [maxLen] using h2
  go_enter Try.func20, Try.ntmps20
  go_wp2_with fail
  go_loopw [10] (RawRel p g bs parts (.slice (some ⟨b, off, none⟩) parts.length cap) w) (fun i _ => parts.length - (intOf i).toNat)
  case atStart => exact ⟨0, Nat.zero_le _, rfl, by simpa using Grew.same h, hr0⟩
  case round =>
    clear h1 h2 h3 h4 hb h5 h6
    obtain ⟨k, hk, rfl, hgr, hr1⟩ := hrel
    by_cases hkl : k < parts.length
    · have hfl := flatten_take_le parts k hkl
      obtain ⟨g1, hw1, hf1, hg1⟩ := hgr
      have hr2 : rowsAt (p :: g1.toList) wr (.slice (some ⟨b, off, none⟩) parts.length cap) parts := hr1.kept hf1 (by
        intro q hq
        rcases hg1 with rfl | ⟨q', rfl, hq'⟩
        · exact .inl hq
        · simp at hq
          rcases hq with rfl | rfl
          · exact .inl (by simp)
          · exact .inr hq')
      obtain ⟨b', off', cap', vs, he, h1, h2, h3, h4, hb, h5, h6⟩ := hr2
      cases he
      have hcell := h5 k (by omega)
      obtain ⟨hpart, hoff⟩ := h6 k (by omega) hkl
      obtain ⟨v, hv⟩ : ∃ v, v = vs[k]'(by omega) := ⟨_, rfl⟩
      obtain ⟨part, hp⟩ : ∃ part, part = parts[k]'hkl := ⟨_, rfl⟩
      rw [← hv] at hcell hpart hoff
      rw [← hp] at hpart hoff hfl
      clear hv h5 h6
      obtain ⟨bs1, hbs1⟩ : ∃ bs1, bs1 = bs ++ (parts.take k).flatten := ⟨_, rfl⟩
      rw [← hbs1] at hw1
      have hl1 : bs1.length + part.length ≤ 140737488355328 := by rw [hbs1, List.length_append]; omega
      have HP := Lib.hid hp
      have HB := Lib.hid hbs1
      clear hp hbs1
      by_cases hp0 : part = []
      · subst hp0
        obtain ⟨a', c', rfl, -, -⟩ := hpart.form
        simp only [List.length_nil] at *
        go_wp2_with (first
          | (go_at_call 30; refine (extend_zero p g1 bs1 _ hw1 (by omega)).mono ?_; rintro e w1 ⟨_, rfl, dp, cp, rfl, hw2, hf2⟩)
          | (refine wpList_copy_nothing rfl (.tmp 17) (.tmp 18) 22 22 rfl 5 Try.underlying22 infoB1 _ _ _ _ _ _ rfl rfl (by simp) ?_))
        refine ⟨⟨k + 1, by omega, rfl, ?_, hr1⟩, by simp [intOf]; omega⟩
        rw [flatten_take_succ parts k hkl, ← HP.out, List.append_nil, ← HB.out]
        exact .step hf1 hg1 ⟨g1, hw2, hf2.mono (by simp), .inl rfl⟩
      · have hpos : 0 < part.length := List.length_pos_iff.2 hp0
        have hne := hw1.ne
        have hplt := hw1.lt.1
        have hbyt : ∀ w', Fr [p] wr w' → bytesAt w' v part := fun w' hf => hpart.kept hf (fun q hq hn _ => by have := hoff q hq hn; simp at this; simp [this.1])
        have hfrm := hpart.form
        obtain ⟨a', c', rfl, -, -⟩ := hfrm
        have HBY := Lib.hid hbyt
        clear hbyt hoff hpart
        go_wp2_with (first
          | (go_at_call 30; refine (extend_some p g1 bs1 part.length _ hw1 hpos hl1).mono ?_; rintro e w1 ⟨_, rfl, b1, cap1, cur, rfl, hc1, hc2, hp1, hb1, hcl, hct, hf2, hgb⟩; have hby := HBY.out _ hf2)
          | (refine wpL_copy rfl (.tmp 17) (.tmp 18) 22 22 rfl 5 Try.underlying22 infoB1 _ _ _ _ part rfl rfl hby (Nat.le_refl _) b1 bs1.length cur 5 hb1 (fun _ => rfl) (by omega) ?_; intro w2 hh2 hf3 hs2))
        refine ⟨⟨k + 1, by omega, rfl, ?_, hr1⟩, by simp [intOf]; omega⟩
        rw [flatten_take_succ parts k hkl, ← HP.out, ← List.append_assoc, ← HB.out]
        exact .step hf1 hg1 (grew_copy hne hplt hc1 hc2 hp1 hcl hct hf2 hgb hh2.out hf3)
    · obtain rfl : k = parts.length := by omega
      rw [List.take_length] at hgr
      go_wp2
      go_end0
      exact ⟨rfl, hgr⟩

end Go.Proofs.Ytijdffpekonklaa
