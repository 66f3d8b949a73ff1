/- Several texts in one: LexA, LexCs, LexHs. -/
import Derived.LoopTactic
import Derived.Laws.Slices
import Derived.Laws.ResultCell
import Derived.Deep.DeepCutAuto
import Derived.Test.YtjlkcdmeiakkbaaGreatDoorMm
import Derived.Test.YtjlkcdmeiakkbaaGreatDoorDt
import Derived.Test.YtjlkcdmeiakkbaaGreatDoorBs
set_option linter.unusedVariables false
set_option linter.unusedSimpArgs false
/-! The document's lexer (layer 12): letter, more. Written by wip/tools/gen_la.py. -/
namespace Go.Proofs.YtjlkcdmeiakkbaaGreatDoor
open Go.RowKit

set_option maxRecDepth 100000 in
theorem rletter_any (c : UInt8) (w : World) : Calls Tryz.prog 73 #[.int .u8 (c.toNat : Int)] w fun e w' => e = .returned (.bool (letterB c)) ∧ w = w' := by
  obtain ⟨n, hn⟩ : ∃ n, n = c.toNat := ⟨_, rfl⟩
  rw [← hn]
  have HN := Lib.hid hn
  clear hn
  rcases (show (n < 65) ∨ (65 ≤ n ∧ n < 91) ∨ (91 ≤ n ∧ n < 97) ∨ (97 ≤ n ∧ n < 123) ∨ (123 ≤ n) by omega) with hw | hw | hw | hw | hw
  · -- n < 65
    have q0 : decide (97 ≤ (n : Int)) = false := decide_eq_false (by omega)
    have q1 : decide ((n : Int) ≤ 122) = true := decide_eq_true (by omega)
    have q2 : decide (65 ≤ (n : Int)) = false := decide_eq_false (by omega)
    have q3 : decide ((n : Int) ≤ 90) = true := decide_eq_true (by omega)
    have ho : letterB c = false := by unfold letterB; rw [← HN.out]; simp; omega
    rw [ho]
    clear ho hw
    go_enter Tryz.func73, Tryz.ntmps73
    go_wp2_with fail
    go_ret
    exact ⟨rfl, rfl⟩
  · -- 65 ≤ n ∧ n < 91
    have q0 : decide (97 ≤ (n : Int)) = false := decide_eq_false (by omega)
    have q1 : decide ((n : Int) ≤ 122) = true := decide_eq_true (by omega)
    have q2 : decide (65 ≤ (n : Int)) = true := decide_eq_true (by omega)
    have q3 : decide ((n : Int) ≤ 90) = true := decide_eq_true (by omega)
    have ho : letterB c = true := by unfold letterB; rw [← HN.out]; simp; omega
    rw [ho]
    clear ho hw
    go_enter Tryz.func73, Tryz.ntmps73
    go_wp2_with fail
    go_ret
    exact ⟨rfl, rfl⟩
  · -- 91 ≤ n ∧ n < 97
    have q0 : decide (97 ≤ (n : Int)) = false := decide_eq_false (by omega)
    have q1 : decide ((n : Int) ≤ 122) = true := decide_eq_true (by omega)
    have q2 : decide (65 ≤ (n : Int)) = true := decide_eq_true (by omega)
    have q3 : decide ((n : Int) ≤ 90) = false := decide_eq_false (by omega)
    have ho : letterB c = false := by unfold letterB; rw [← HN.out]; simp; omega
    rw [ho]
    clear ho hw
    go_enter Tryz.func73, Tryz.ntmps73
    go_wp2_with fail
    go_ret
    exact ⟨rfl, rfl⟩
  · -- 97 ≤ n ∧ n < 123
    have q0 : decide (97 ≤ (n : Int)) = true := decide_eq_true (by omega)
    have q1 : decide ((n : Int) ≤ 122) = true := decide_eq_true (by omega)
    have q2 : decide (65 ≤ (n : Int)) = true := decide_eq_true (by omega)
    have q3 : decide ((n : Int) ≤ 90) = false := decide_eq_false (by omega)
    have ho : letterB c = true := by unfold letterB; rw [← HN.out]; simp; omega
    rw [ho]
    clear ho hw
    go_enter Tryz.func73, Tryz.ntmps73
    go_wp2_with fail
    go_ret
    exact ⟨rfl, rfl⟩
  · -- 123 ≤ n
    have q0 : decide (97 ≤ (n : Int)) = true := decide_eq_true (by omega)
    have q1 : decide ((n : Int) ≤ 122) = false := decide_eq_false (by omega)
    have q2 : decide (65 ≤ (n : Int)) = true := decide_eq_true (by omega)
    have q3 : decide ((n : Int) ≤ 90) = false := decide_eq_false (by omega)
    have ho : letterB c = false := by unfold letterB; rw [← HN.out]; simp; omega
    rw [ho]
    clear ho hw
    go_enter Tryz.func73, Tryz.ntmps73
    go_wp2_with fail
    go_ret
    exact ⟨rfl, rfl⟩
set_option maxRecDepth 100000 in
theorem rmore_any (c : UInt8) (w : World) : Calls Tryz.prog 74 #[.int .u8 (c.toNat : Int)] w fun e w' => e = .returned (.bool (moreB c)) ∧ w = w' := by
  have hle := rletter_any c w
  obtain ⟨n, hn⟩ : ∃ n, n = c.toNat := ⟨_, rfl⟩
  rw [← hn] at hle ⊢
  have HN := Lib.hid hn
  clear hn
  cases hlt : letterB c with
  | true =>
    rw [hlt] at hle
    have HL := Lib.hid hle
    have ho : moreB c = true := by unfold moreB; rw [hlt]; rfl
    rw [ho]
    clear ho hlt hle
    go_enter Tryz.func74, Tryz.ntmps74
    go_wp2_with (go_at_call 73; refine HL.out.mono ?_; rintro e w1 ⟨rfl, rfl⟩)
    go_ret
    exact ⟨rfl, rfl⟩
  | false =>
    rw [hlt] at hle
    have HL := Lib.hid hle
    have HLT := Lib.hid hlt
    clear hle hlt
    rcases (show (n < 48) ∨ (48 ≤ n ∧ n < 58) ∨ (58 ≤ n ∧ n < 95) ∨ (n = 95) ∨ (96 ≤ n) by omega) with hw | hw | hw | hw | hw
    · -- n < 48
      have q0 : decide (48 ≤ (n : Int)) = false := decide_eq_false (by omega)
      have q1 : decide ((n : Int) ≤ 57) = true := decide_eq_true (by omega)
      have r0 : ((n : Int) == 95) = false := by rw [beq_eq_false_iff_ne]; omega
      have ho : moreB c = false := by unfold moreB; rw [HLT.out, ← HN.out]; simp; omega
      rw [ho]
      clear ho hw
      go_enter Tryz.func74, Tryz.ntmps74
      go_wp2_with (go_at_call 73; refine HL.out.mono ?_; rintro e w1 ⟨rfl, rfl⟩)
      go_ret
      exact ⟨rfl, rfl⟩
    · -- 48 ≤ n ∧ n < 58
      have q0 : decide (48 ≤ (n : Int)) = true := decide_eq_true (by omega)
      have q1 : decide ((n : Int) ≤ 57) = true := decide_eq_true (by omega)
      have r0 : ((n : Int) == 95) = false := by rw [beq_eq_false_iff_ne]; omega
      have ho : moreB c = true := by unfold moreB; rw [HLT.out, ← HN.out]; simp; omega
      rw [ho]
      clear ho hw
      go_enter Tryz.func74, Tryz.ntmps74
      go_wp2_with (go_at_call 73; refine HL.out.mono ?_; rintro e w1 ⟨rfl, rfl⟩)
      go_ret
      exact ⟨rfl, rfl⟩
    · -- 58 ≤ n ∧ n < 95
      have q0 : decide (48 ≤ (n : Int)) = true := decide_eq_true (by omega)
      have q1 : decide ((n : Int) ≤ 57) = false := decide_eq_false (by omega)
      have r0 : ((n : Int) == 95) = false := by rw [beq_eq_false_iff_ne]; omega
      have ho : moreB c = false := by unfold moreB; rw [HLT.out, ← HN.out]; simp; omega
      rw [ho]
      clear ho hw
      go_enter Tryz.func74, Tryz.ntmps74
      go_wp2_with (go_at_call 73; refine HL.out.mono ?_; rintro e w1 ⟨rfl, rfl⟩)
      go_ret
      exact ⟨rfl, rfl⟩
    · -- n = 95
      have q0 : decide (48 ≤ (n : Int)) = true := decide_eq_true (by omega)
      have q1 : decide ((n : Int) ≤ 57) = false := decide_eq_false (by omega)
      have r0 : ((n : Int) == 95) = true := by rw [hw]; rfl
      have ho : moreB c = true := by unfold moreB; rw [HLT.out, ← HN.out]; simp; omega
      rw [ho]
      clear ho hw
      go_enter Tryz.func74, Tryz.ntmps74
      go_wp2_with (go_at_call 73; refine HL.out.mono ?_; rintro e w1 ⟨rfl, rfl⟩)
      go_ret
      exact ⟨rfl, rfl⟩
    · -- 96 ≤ n
      have q0 : decide (48 ≤ (n : Int)) = true := decide_eq_true (by omega)
      have q1 : decide ((n : Int) ≤ 57) = false := decide_eq_false (by omega)
      have r0 : ((n : Int) == 95) = false := by rw [beq_eq_false_iff_ne]; omega
      have ho : moreB c = false := by unfold moreB; rw [HLT.out, ← HN.out]; simp; omega
      rw [ho]
      clear ho hw
      go_enter Tryz.func74, Tryz.ntmps74
      go_wp2_with (go_at_call 73; refine HL.out.mono ?_; rintro e w1 ⟨rfl, rfl⟩)
      go_ret
      exact ⟨rfl, rfl⟩
end Go.Proofs.YtjlkcdmeiakkbaaGreatDoor

/-! Lexing (layer 12): mathematics and small laws, of no program. -/
namespace Go.Proofs.YtjlkcdmeiakkbaaGreatDoor
open Go.RowKit


theorem extract_mk (l : List UInt8) (a b : Nat) : (ByteArray.mk l.toArray).extract a b = ⟨((l.take b).drop a).toArray⟩ := by
  apply ByteArray.ext
  rw [ByteArray.data_extract]
  simp [List.extract_toArray, List.extract_eq_take_drop]
  exact List.drop_take.symm
/-- 's[l:h]' of a string. -/
theorem run_slice_str {P : Program} (w : World) (t : TypeId) (s : List UInt8) (kl kh : IntKind) (l h : Nat) (ht : P.underlying t = some .string) (h1 : l ≤ h) (h2 : h ≤ s.length) :
    (Instr.slice t (.string ⟨s.toArray⟩) (some (.int kl l)) (some (.int kh h)) none).run P w = .ok (.string ⟨((s.take h).drop l).toArray⟩) w := by
  have hz : (ByteArray.mk s.toArray).size = s.length := by simp [ByteArray.size]
  have e := extract_mk s l h
  simp [Instr.slice, run_underlying ht, Instr.sliceBounds, run_sliceBound, hz, h1, h2, e]
theorem results_cell_tmp2 {fn : Func} {p u x : Tmp} {ty : TypeId} (h : fn.results = #[.cell p ty, .tmp u, .tmp x]) (tmps : Array Value) (P : Program) (w : World) :
    (results fn tmps).run P w = ((asAddr (tmps.getD p undef)).run P w).andThen fun a w₁ => ((loadVar ty a).run P w₁).andThen fun v w₂ => .ok (.tuple #[v, tmps.getD u undef, tmps.getD x undef]) w₂ := by
  simp only [results, h]
  simp [Sem.run_bind, Result.andThen]
theorem results_cell3 {P : Program} {fn : Func} {p u x : Tmp} {ty : TypeId} (h : fn.results = #[.cell p ty, .tmp u, .tmp x]) (tmps : Array Value) (w : World) (g : Nat) (t : TypeId) (cs : Array Value) (d : TypeDesc)
    (hp : tmps.getD p undef = .pointer (some ⟨g, 0, none⟩)) (hg : w.heap[g]? = some (.cells cs t (0, 0)))
    (hu : P.underlying ty = some d) (hd : (match d with | .struct _ | .array _ _ => true | _ => false) = true) (hi : (P.info? ty).map (·.size) = some cs.size) (v y : Value) (hv : tmps.getD u undef = v) (hy : tmps.getD x undef = y) :
    (results fn tmps).run P w = .ok (.tuple #[.agg cs, v, y]) w := by
  rw [results_cell_tmp2 h, hp]
  subst hv
  subst hy
  simp [asAddr, run_loadVar_row w g t ty cs (0, 0) d hg hu hd hi]
theorem tok_set {w : World} {q : Nat} {a b c x y z : Value} {t : TypeId} (h : w.heap[q]? = some (.cells #[a, b, c] t (0, 0))) : (((w.setCell ⟨q, 0, none⟩ x).setCell ⟨q, 1, none⟩ y).setCell ⟨q, 2, none⟩ z).heap[q]? = some (.cells #[x, y, z] t (0, 0)) := by
  have h1 := heap_setCell_same h (i := 0) x
  have h2 := heap_setCell_same h1 (i := 1) y
  have h3 := heap_setCell_same h2 (i := 2) z
  exact h3
/-- A run of bytes that p allows, from a on, ends at k. -/
theorem run_at {p : UInt8 → Bool} {m : List UInt8} {a k : Nat} (h1 : a ≤ k) (h2 : k ≤ m.length) (hall : ∀ j, a ≤ j → j < k → ∀ h : j < m.length, p (m[j]'h) = true) (hend : ∀ h : k < m.length, p (m[k]'h) = false) : (m.drop a).takeWhile p = (m.take k).drop a := by
  have hs : m.drop a = (m.take k).drop a ++ m.drop k := by
    have : m.drop a = (m.take k ++ m.drop k).drop a := by rw [List.take_append_drop]
    rw [this, List.drop_append_of_le_length (by rw [List.length_take]; omega)]
  have ha : ((m.take k).drop a).all p = true := by
    refine List.all_eq_true.2 (fun x hx => ?_)
    obtain ⟨j, hj, rfl⟩ := List.getElem_of_mem hx
    rw [List.length_drop, List.length_take] at hj
    rw [List.getElem_drop, List.getElem_take]
    exact hall _ (by omega) (by omega) (by omega)
  rw [hs]
  by_cases hk : k < m.length
  · rw [List.drop_eq_getElem_cons hk, takeWhile_stop _ _ _ (hend hk), takeWhile_all ha]
  · rw [show m.drop k = [] from List.drop_eq_nil_of_le (by omega), List.append_nil, takeWhile_all ha]
def nextV (a : Nat) (N : NextD) : Value := .tuple #[.agg #[.int .i64 N.kind, encStr N.text, .int .i64 (if N.err = 0 then (a : Int) else 0)], .int .i64 ((a + N.n : Nat) : Int), .int .i64 N.err]
def RunRel (p : UInt8 → Bool) (w : World) (m : List UInt8) (a : Nat) (iv : Value) (wx : World) : Prop := ∃ k : Nat, a ≤ k ∧ k ≤ m.length ∧ iv = .int .i64 (k : Int) ∧ (∀ j, a ≤ j → j < k → ∀ h : j < m.length, p (m[j]'h) = true) ∧ w = wx
theorem run_next {p : UInt8 → Bool} {m : List UInt8} {a k : Nat} (h : ∀ j, a ≤ j → j < k → ∀ h : j < m.length, p (m[j]'h) = true) (hk : k < m.length) (ho : p (m[k]'hk) = true) : ∀ j, a ≤ j → j < k + 1 → ∀ h : j < m.length, p (m[j]'h) = true := by
  intro j hj1 hj hl
  by_cases e : j = k
  · subst e; exact ho
  · exact h j hj1 (by omega) hl
theorem next_letter {c : UInt8} (t : List UInt8) (h : letterB c = true) : nextD c t = if 32 < ((c :: t).takeWhile moreB).length then noneD 19 else ⟨1, (c :: t).takeWhile moreB, ((c :: t).takeWhile moreB).length, 0⟩ := by
  obtain ⟨e1, e2, e3, -⟩ := letter_num h
  unfold nextD
  rw [if_neg e1, if_neg e2, if_neg e3, if_pos h]
theorem toNat_eq {c : UInt8} {k : Nat} (h : c.toNat = k) : c = UInt8.ofNat k := by
  rw [← h]; simp
/-- What begins at a. -/
def RNext (m : List UInt8) (a : Nat) (N : NextD) (w : World) (e : Ending) (w' : World) : Prop := e = .returned (nextV a N) ∧ Fr [] w w'

end Go.Proofs.YtjlkcdmeiakkbaaGreatDoor

/-! What IsName and IsTerm (layer 12) must give. -/
namespace Go.Proofs.YtjlkcdmeiakkbaaGreatDoor
open Go.RowKit


/-- The program's IsName and IsTerm do what the document's do. -/
def ProgIs : Prop := (∀ (m : List UInt8) (w : World), m.length ≤ maxLen → Calls Tryz.prog 23 #[encStr m] w fun e w' => e = .returned (.bool (nameB m)) ∧ Fr [] w w') ∧
  ∀ (m : List UInt8) (w : World), m.length ≤ maxLen → Calls Tryz.prog 24 #[encStr m] w fun e w' => e = .returned (.bool (termB m)) ∧ Fr [] w w'
end Go.Proofs.YtjlkcdmeiakkbaaGreatDoor
