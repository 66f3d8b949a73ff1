/- Stage 17: keys are compared as structs. -/
import Derived.Test.YtjlkcdmeiakkbaaGreatDoorKyA
import Derived.ChangeKeysEq
set_option linter.unusedVariables false
set_option linter.unusedSimpArgs false
namespace Go.Proofs.YtjlkcdmeiakkbaaGreatDoor
open Go.RowKit

theorem eqItems_bytes {P : Program} (d : Nat) (e : TypeId) (l m : List UInt8) (n : Nat) (hl : l.length = n) (hm : m.length = n) (he : P.underlying e = some (.int .u8)) :
    ∀ (is : List Nat), (∀ i ∈ is, i < n) → ∀ w, (Op.eqItems (d + 1) e 1 (cellsB l).toArray (cellsB m).toArray is).run P w = .ok (is.all fun i => l[i]? == m[i]?) w
  | [], _, w => by simp [Op.eqItems]
  | i :: is, h, w => by
    have hi : i < n := h i (by simp)
    have ih := eqItems_bytes d e l m n hl hm he is (fun j hj => h j (by simp [hj])) w
    have hp : (part e (cellsB l).toArray (i * 1)).run P w = .ok (.int .u8 ((l[i]'(by omega)).toNat : Int)) w := by
      simp only [Nat.mul_one]
      simp [part, isAgg, run_underlying he, bytesC_get l i (by omega)]
    have hq : (part e (cellsB m).toArray (i * 1)).run P w = .ok (.int .u8 ((m[i]'(by omega)).toNat : Int)) w := by
      simp only [Nat.mul_one]
      simp [part, isAgg, run_underlying he, bytesC_get m i (by omega)]
    simp only [Op.eqItems, Sem.run_bind, hp, hq, Result.andThen_ok, run_equalIn_int w d e .u8 .u8 _ _ he]
    have hb : ((((l[i]'(by omega)).toNat : Int) == ((m[i]'(by omega)).toNat : Int)) : Bool) = (l[i]? == m[i]?) := by
      rw [List.getElem?_eq_getElem (by omega), List.getElem?_eq_getElem (by omega)]
      rw [Bool.eq_iff_iff, beq_iff_eq, beq_iff_eq]
      constructor
      · intro q
        have q2 : l[i]'(by omega) = m[i]'(by omega) := UInt8.toNat_inj.1 (by omega)
        rw [q2]
      · intro q
        rw [Option.some.inj q]
    rw [hb, List.all_cons]
    cases (l[i]? == m[i]?) <;> simp [ih]
theorem all_eq (l m : List UInt8) (n : Nat) (hl : l.length = n) (hm : m.length = n) : ((List.range n).all fun i => l[i]? == m[i]?) = decide (l = m) := by
  rw [Bool.eq_iff_iff, List.all_eq_true, decide_eq_true_eq]
  constructor
  · intro h
    apply List.ext_getElem?
    intro i
    rcases Nat.lt_or_ge i n with q | q
    · exact beq_iff_eq.1 (h i (List.mem_range.2 q))
    · rw [List.getElem?_eq_none (by omega), List.getElem?_eq_none (by omega)]
  · rintro rfl i _
    exact beq_self_eq_true _
theorem keyC_extract (h : List UInt8) (k : Int) (hl : h.length = 32) : (keyC h k).extract 0 32 = (cellsB h).toArray := by
  have e : (cellsB h).length = 32 := by rw [cellsB_length, hl]
  simp [keyC, e]
theorem fieldsK : (Tryz.prog.fieldsOf 30).toList.map (fun f => (f.type, f.offset, decide (f.name ≠ "_"))) = [(28, 0, true), (3, 32, true)] := by kernel_rfl
theorem aggH : (match Tryz.prog.underlying 28 with | some (.array n e) => (n, e) | _ => (0, 0)) = (32, 5) := by kernel_rfl
theorem equal_keys (h1 h2 : List UInt8) (k1 k2 : Int) (hl1 : h1.length = 32) (hl2 : h2.length = 32) (w : World) :
    (Op.equalIn 10000 30 (.agg (keyC h1 k1)) (.agg (keyC h2 k2))).run Tryz.prog w = .ok (decide (h1 = h2 ∧ k1 = k2)) w := by
  rw [show (10000 : Nat) = 9999 + 1 from rfl, run_equalIn_struct w 9999 _ _ _ (by kernel_rfl) (by kernel_rfl)]
  have hf := fieldsK
  generalize (Tryz.prog.fieldsOf 30).toList = fs at hf ⊢
  have hlen : fs.length = 2 := by have := congrArg List.length hf; simpa using this
  obtain ⟨f1, f2, rfl⟩ : ∃ f1 f2, fs = [f1, f2] := by
    cases fs with
    | nil => cases hlen
    | cons a r =>
      cases r with
      | nil => cases hlen
      | cons b q =>
        cases q with
        | nil => exact ⟨a, b, rfl⟩
        | cons c t => simp at hlen
  simp only [List.map_cons, List.map_nil, List.cons.injEq, Prod.mk.injEq, decide_eq_true_eq, and_true] at hf
  obtain ⟨⟨a1, a2, a3⟩, b1, b2, b3⟩ := hf
  obtain ⟨i22, hi22⟩ : ∃ i, Tryz.prog.info? 28 = some i := by
    have := sizeH hl1
    cases q : Tryz.prog.info? 28 with
    | none => rw [q] at this; simp at this
    | some i => exact ⟨i, rfl⟩
  have hsz : i22.size = 32 := by
    have := sizeH hl1
    rw [hi22, bytesC_size, hl1] at this
    simpa using this
  have hp : ∀ (h : List UInt8) (k : Int), h.length = 32 → (part f1.type (keyC h k) f1.offset).run Tryz.prog w = .ok (.agg (cellsB h).toArray) w := by
    intro h k hl
    rw [a1, a2]
    simp [part, isAgg, run_underlying Tryz.underlying28, run_sizeOf w hi22, hsz, keyC_extract h k hl]
  have hq : ∀ (h : List UInt8) (k : Int), h.length = 32 → (part f2.type (keyC h k) f2.offset).run Tryz.prog w = .ok (.int .i64 k) w := by
    intro h k hl
    rw [b1, b2]
    simp [part, isAgg, run_underlying Tryz.underlying3, keyC_K hl]
  obtain ⟨i5, hi5⟩ : ∃ i, Tryz.prog.info? 5 = some i := by
    have := size8
    cases q : Tryz.prog.info? 5 with
    | none => rw [q] at this; simp at this
    | some i => exact ⟨i, rfl⟩
  have he1 : (Op.equalIn 9999 f1.type (.agg (cellsB h1).toArray) (.agg (cellsB h2).toArray)).run Tryz.prog w = .ok (decide (h1 = h2)) w := by
    rw [a1, show (9999 : Nat) = 9998 + 1 from rfl, run_equalIn_array w 9998 _ _ Tryz.underlying28 (e := 5) (n := 32) hi5,
      show Tryz.prog.cellsOf 5 = 1 by kernel_rfl, show (9998 : Nat) = 9997 + 1 from rfl, eqItems_bytes 9997 _ h1 h2 32 hl1 hl2 Tryz.underlying5 _ (fun i hi => List.mem_range.1 hi) w, all_eq h1 h2 32 hl1 hl2]
  have he2 : (Op.equalIn 9999 f2.type (.int .i64 k1) (.int .i64 k2)).run Tryz.prog w = .ok (k1 == k2) w := by
    rw [b1, show (9999 : Nat) = 9998 + 1 from rfl, run_equalIn_int w 9998 _ .i64 .i64 k1 k2 Tryz.underlying3]
  simp only [Op.eqFields, if_pos a3, if_pos b3, Sem.run_bind, hp h1 k1 hl1, hp h2 k2 hl2, he1, Result.andThen_ok]
  by_cases e1 : h1 = h2
  · subst e1
    rw [decide_eq_true rfl]
    have g1 := hq h1 k1 hl1
    have g2 := hq h1 k2 hl1
    by_cases e2 : k1 = k2
    · subst e2
      simp [g1, he2]
    · have g3 : (k1 == k2) = false := by rw [beq_eq_false_iff_ne]; exact e2
      rw [g3] at he2
      simp [g1, g2, he2, e2]
  · simp [e1]
end Go.Proofs.YtjlkcdmeiakkbaaGreatDoor
