/- The program's parser (layer 13): All does what the document's does. -/
import Derived.Test.YtcmgnhjffhaajaaP1
import Derived.Test.YtcmgnhjffhaajaaLexR
import Derived.Test.YtcmgnhjffhaajaaBs
namespace Go.Proofs.Ytcmgnhjffhaajaa
open Go.RowKit

/-- What stands in memory in each state. -/
def StP (base : Nat) (w : World) (p : Nat) (acc : List LineD) : PSt → Prop
  | .nm => NameSt base w p (nameV p) (!acc.isEmpty) acc
  | .co n => ColonSt base w p (colonV p) false acc n
  | .bo n d c => BodySt base w p (bodyV p) false acc n d c
def szP (acc : List LineD) : PSt → Nat
  | .nm => acc.length
  | .co _ => acc.length
  | .bo _ d c => acc.length + d.length + c.length
def fnV (p : Nat) : PSt → Value
  | .nm => nameV p
  | .co _ => colonV p
  | .bo _ _ _ => bodyV p
theorem StP.below {base p : Nat} {w w' : World} {acc : List LineD} {st : PSt} (h : StP base w p acc st) (hf : Fr [] w w') : StP base w' p acc st := by
  cases st with
  | nm => exact NameSt.below h hf
  | co n => exact ColonSt.below h hf
  | bo n d c => exact BodySt.below h hf
theorem StP.obj {base p : Nat} {w : World} {acc : List LineD} {st : PSt} (h : StP base w p acc st) : base ≤ p ∧ ∃ lv wh, w.heap[p]? = some (.cells #[lv, fnV p st, .bool wh] pP (0, 0)) ∧ (∃ x y z, lv = .slice x y z) ∧ (st = .nm → wh = !acc.isEmpty ∧ linesAt w lv acc) ∧ (st ≠ .nm → wh = false) := by
  cases st with
  | nm =>
    obtain ⟨hpb, lv, hp, hl⟩ := h
    obtain ⟨a, c, hv, -, -⟩ := hl.at_.form
    exact ⟨hpb, lv, _, hp, ⟨_, _, _, hv⟩, fun _ => ⟨rfl, hl.at_⟩, fun h => absurd rfl h⟩
  | co n =>
    obtain ⟨hpb, lv, vs, hp, hv, hrow, hold⟩ := h
    obtain ⟨a, c, hv, -, -⟩ := owns_slice hrow
    exact ⟨hpb, lv, _, hp, ⟨_, _, _, hv⟩, (fun h => nomatch h), fun _ => rfl⟩
  | bo n d c =>
    obtain ⟨hpb, lv, vs, av, us, cv, w1, w2, hp, hv, hrow, -⟩ := h
    obtain ⟨a, c, hv, -, -⟩ := owns_slice hrow
    exact ⟨hpb, lv, _, hp, ⟨_, _, _, hv⟩, (fun h => nomatch h), fun _ => rfl⟩
theorem pstep_nm {base p : Nat} {w : World} {acc acc' : List LineD} {st' : PSt} {K : Int} {T : List UInt8} (A : Nat) (hs : stepP acc .nm (K, T) = some (acc', st')) (h : StP base w p acc .nm) (hbase : base ≤ w.heap.size) (hz : szP acc .nm ≤ 900000) :
    szP acc' st' ≤ szP acc .nm + 1 ∧ Calls Try.prog 41 #[.pointer (some ⟨p, 0, none⟩), tkV K T A] w fun e w' => e = .returned (.bool true) ∧ StP base w' p acc' st' ∧ Below base w w' := by
  simp only [stepP] at hs
  split at hs
  · next h1 =>
    cases hs
    obtain rfl : K = 1 := h1
    exact ⟨by simp [szP], pname_yes p base _ _ acc T A w h hbase (by simp only [szP] at hz; omega)⟩
  · cases hs
theorem pstep_co {base p : Nat} {w : World} {acc acc' : List LineD} {n : List UInt8} {st' : PSt} {K : Int} {T : List UInt8} (A : Nat) (hs : stepP acc (.co n) (K, T) = some (acc', st')) (h : StP base w p acc (.co n)) (hbase : base ≤ w.heap.size) (hz : szP acc (.co n) ≤ 900000) :
    szP acc' st' ≤ szP acc (.co n) + 1 ∧ Calls Try.prog 60 #[.pointer (some ⟨p, 0, none⟩), tkV K T A] w fun e w' => e = .returned (.bool true) ∧ StP base w' p acc' st' ∧ Below base w w' := by
  simp only [stepP] at hs
  split at hs
  · next h1 =>
    cases hs
    obtain rfl : K = 3 := h1
    exact ⟨by simp [szP], pcolon_yes p base _ _ acc n T A w h hbase (by simp only [szP] at hz; omega)⟩
  · cases hs
theorem pstep_bo {base p : Nat} {w : World} {acc acc' : List LineD} {n : List UInt8} {d : List (List ItemD)} {c : List ItemD} {st' : PSt} {K : Int} {T : List UInt8} (A : Nat) (hs : stepP acc (.bo n d c) (K, T) = some (acc', st')) (h : StP base w p acc (.bo n d c)) (hbase : base ≤ w.heap.size) (hz : szP acc (.bo n d c) ≤ 900000) :
    szP acc' st' ≤ szP acc (.bo n d c) + 1 ∧ Calls Try.prog 77 #[.pointer (some ⟨p, 0, none⟩), tkV K T A] w fun e w' => e = .returned (.bool true) ∧ StP base w' p acc' st' ∧ Below base w w' := by
  simp only [szP] at hz
  simp only [stepP] at hs
  split at hs
  · next h1 =>
    cases hs
    refine ⟨by simp [szP]; omega, ?_⟩
    rcases h1 with h1 | h1
    · obtain rfl : K = 1 := h1
      exact pbody_item1 p base _ _ acc n d c (by omega) (by omega) T A w h hbase (by omega)
    · obtain rfl : K = 2 := h1
      exact pbody_item2 p base _ _ acc n d c (by omega) (by omega) T A w h hbase (by omega)
  · split at hs
    · next h4 =>
      cases hs
      obtain rfl : K = 4 := h4
      exact ⟨by simp [szP]; omega, pbody_bar p base _ _ acc n d c (by omega) T A w h hbase (by omega)⟩
    · split at hs
      · next h5 =>
        cases hs
        obtain rfl : K = 5 := h5
        refine ⟨by simp [szP]; omega, ?_⟩
        refine (pbody_semi p base _ _ acc n d c T A w h hbase (by omega)).mono ?_
        rintro e w' ⟨he, hst, hb⟩
        refine ⟨he, ?_, hb⟩
        show NameSt base w' p (nameV p) (!(acc ++ [(⟨n, d ++ [c]⟩ : LineD)]).isEmpty) _
        rw [show (!(acc ++ [(⟨n, d ++ [c]⟩ : LineD)]).isEmpty) = true by simp]
        exact hst
      · cases hs
theorem pno_nm {acc : List LineD} {K : Int} {T : List UInt8} (p A : Nat) (w : World) (hs : stepP acc .nm (K, T) = none) : Calls Try.prog 41 #[.pointer (some ⟨p, 0, none⟩), tkV K T A] w fun e w' => e = .returned (.bool false) ∧ Fr [] w w' := by
  simp only [stepP] at hs
  split at hs
  · cases hs
  · next h1 => exact pname_no p K T A h1 w
theorem pno_co {acc : List LineD} {n : List UInt8} {K : Int} {T : List UInt8} (p A : Nat) (w : World) (hs : stepP acc (.co n) (K, T) = none) : Calls Try.prog 60 #[.pointer (some ⟨p, 0, none⟩), tkV K T A] w fun e w' => e = .returned (.bool false) ∧ Fr [] w w' := by
  simp only [stepP] at hs
  split at hs
  · cases hs
  · next h1 => exact pcolon_no p K T A h1 w
theorem pno_bo {acc : List LineD} {n : List UInt8} {d : List (List ItemD)} {c : List ItemD} {K : Int} {T : List UInt8} (p A : Nat) (w : World) (hs : stepP acc (.bo n d c) (K, T) = none) : Calls Try.prog 77 #[.pointer (some ⟨p, 0, none⟩), tkV K T A] w fun e w' => e = .returned (.bool false) ∧ Fr [] w w' := by
  simp only [stepP] at hs
  split at hs
  · cases hs
  · split at hs
    · cases hs
    · split at hs
      · cases hs
      · next h1 h4 h5 => exact pbody_no p K T A (fun e => h1 (.inl e)) (fun e => h1 (.inr e)) h4 h5 w
end Go.Proofs.Ytcmgnhjffhaajaa
