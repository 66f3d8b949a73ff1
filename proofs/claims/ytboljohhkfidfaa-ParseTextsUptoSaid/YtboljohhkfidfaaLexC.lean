/- The document's lexer (layer 12): next. Written by wip/tools/gen_lc.py. -/
import Derived.Test.YtboljohhkfidfaaLexA
import Derived.Test.YtboljohhkfidfaaOwn
import Derived.Laws.Slices
import Derived.Laws.ResultCell
import Derived.Deep.DeepCutAuto
namespace Go.Proofs.Ytboljohhkfidfaa
open Go.RowKit

theorem extract_mk (l : List UInt8) (a b : Nat) : (ByteArray.mk l.toArray).extract a b = ⟨((l.take b).drop a).toArray⟩ := by
  apply ByteArray.ext
  rw [ByteArray.data_extract]
  simp [List.extract_toArray, List.extract_eq_take_drop]
  exact List.drop_take.symm
/-- 's[l:h]' of a string. -/
theorem run_slice_str {P : Program} (w : World) (t : TypeId) (s : List UInt8) (kl kh : IntKind) (l h : Nat) (ht : P.underlying t = some .string) (h1 : l ≤ h) (h2 : h ≤ s.length) :
    (Instr.slice t (.string ⟨s.toArray⟩) (some (.int kl l)) (some (.int kh h)) none).run P w = .ok (.string ⟨((s.take h).drop l).toArray⟩) w := by
  have hz : (ByteArray.mk s.toArray).size = s.length := by simp [ByteArray.size]
  have e := extract_mk s l h
  simp [Instr.slice, run_underlying ht, Instr.sliceBounds, run_sliceBound, hz, h1, h2, e]
theorem results_cell_tmp2 {fn : Func} {p u x : Tmp} {ty : TypeId} (h : fn.results = #[.cell p ty, .tmp u, .tmp x]) (tmps : Array Value) (P : Program) (w : World) :
    (results fn tmps).run P w = ((asAddr (tmps.getD p undef)).run P w).andThen fun a w₁ => ((loadVar ty a).run P w₁).andThen fun v w₂ => .ok (.tuple #[v, tmps.getD u undef, tmps.getD x undef]) w₂ := by
  simp only [results, h]
  simp [Sem.run_bind, Result.andThen]
theorem results_cell3 {P : Program} {fn : Func} {p u x : Tmp} {ty : TypeId} (h : fn.results = #[.cell p ty, .tmp u, .tmp x]) (tmps : Array Value) (w : World) (g : Nat) (t : TypeId) (cs : Array Value) (d : TypeDesc)
    (hp : tmps.getD p undef = .pointer (some ⟨g, 0, none⟩)) (hg : w.heap[g]? = some (.cells cs t (0, 0)))
    (hu : P.underlying ty = some d) (hd : (match d with | .struct _ | .array _ _ => true | _ => false) = true) (hi : (P.info? ty).map (·.size) = some cs.size) (v y : Value) (hv : tmps.getD u undef = v) (hy : tmps.getD x undef = y) :
    (results fn tmps).run P w = .ok (.tuple #[.agg cs, v, y]) w := by
  rw [results_cell_tmp2 h, hp]
  subst hv
  subst hy
  simp [asAddr, run_loadVar_row w g t ty cs (0, 0) d hg hu hd hi]
theorem sizeTok : (Try.prog.info? 56).map (·.size) = some 3 := by kernel_rfl
theorem tok_set {w : World} {q : Nat} {a b c x y z : Value} {t : TypeId} (h : w.heap[q]? = some (.cells #[a, b, c] t (0, 0))) : (((w.setCell ⟨q, 0, none⟩ x).setCell ⟨q, 1, none⟩ y).setCell ⟨q, 2, none⟩ z).heap[q]? = some (.cells #[x, y, z] t (0, 0)) := by
  have h1 := heap_setCell_same h (i := 0) x
  have h2 := heap_setCell_same h1 (i := 1) y
  have h3 := heap_setCell_same h2 (i := 2) z
  exact h3
/-- A run of bytes that p allows, from a on, ends at k. -/
theorem run_at {p : UInt8 → Bool} {m : List UInt8} {a k : Nat} (h1 : a ≤ k) (h2 : k ≤ m.length) (hall : ∀ j, a ≤ j → j < k → ∀ h : j < m.length, p (m[j]'h) = true) (hend : ∀ h : k < m.length, p (m[k]'h) = false) : (m.drop a).takeWhile p = (m.take k).drop a := by
  have hs : m.drop a = (m.take k).drop a ++ m.drop k := by
    have : m.drop a = (m.take k ++ m.drop k).drop a := by rw [List.take_append_drop]
    rw [this, List.drop_append_of_le_length (by rw [List.length_take]; omega)]
  have ha : ((m.take k).drop a).all p = true := by
    refine List.all_eq_true.2 (fun x hx => ?_)
    obtain ⟨j, hj, rfl⟩ := List.getElem_of_mem hx
    rw [List.length_drop, List.length_take] at hj
    rw [List.getElem_drop, List.getElem_take]
    exact hall _ (by omega) (by omega) (by omega)
  rw [hs]
  by_cases hk : k < m.length
  · rw [List.drop_eq_getElem_cons hk, takeWhile_stop _ _ _ (hend hk), takeWhile_all ha]
  · rw [show m.drop k = [] from List.drop_eq_nil_of_le (by omega), List.append_nil, takeWhile_all ha]
def nextV (a : Nat) (N : NextD) : Value := .tuple #[.agg #[.int .i64 N.kind, encStr N.text, .int .i64 (if N.err = 0 then (a : Int) else 0)], .int .i64 ((a + N.n : Nat) : Int), .int .i64 N.err]
def RunRel (p : UInt8 → Bool) (w : World) (m : List UInt8) (a : Nat) (iv : Value) (wx : World) : Prop := ∃ k : Nat, a ≤ k ∧ k ≤ m.length ∧ iv = .int .i64 (k : Int) ∧ (∀ j, a ≤ j → j < k → ∀ h : j < m.length, p (m[j]'h) = true) ∧ w = wx
theorem run_next {p : UInt8 → Bool} {m : List UInt8} {a k : Nat} (h : ∀ j, a ≤ j → j < k → ∀ h : j < m.length, p (m[j]'h) = true) (hk : k < m.length) (ho : p (m[k]'hk) = true) : ∀ j, a ≤ j → j < k + 1 → ∀ h : j < m.length, p (m[j]'h) = true := by
  intro j hj1 hj hl
  by_cases e : j = k
  · subst e; exact ho
  · exact h j hj1 (by omega) hl
theorem next_letter {c : UInt8} (t : List UInt8) (h : letterB c = true) : nextD c t = if 32 < ((c :: t).takeWhile moreB).length then noneD 19 else ⟨1, (c :: t).takeWhile moreB, ((c :: t).takeWhile moreB).length, 0⟩ := by
  obtain ⟨e1, e2, e3, -⟩ := letter_num h
  unfold nextD
  rw [if_neg e1, if_neg e2, if_neg e3, if_pos h]
theorem toNat_eq {c : UInt8} {k : Nat} (h : c.toNat = k) : c = UInt8.ofNat k := by
  rw [← h]; simp
/-- What begins at a. -/
def RNext (m : List UInt8) (a : Nat) (N : NextD) (w : World) (e : Ending) (w' : World) : Prop := e = .returned (nextV a N) ∧ Fr [] w w'

set_option maxRecDepth 100000 in
set_option maxHeartbeats 2000000 in
theorem rnext_one (m : List UInt8) (hm : m.length ≤ 1000000) (a : Nat) (ha : a < m.length) (c : UInt8) (hc : m[a]? = some c) (hw : c.toNat = 58 ∨ c.toNat = 124 ∨ c.toNat = 59) (w : World) (N : NextD) (hN : N = nextD c (m.drop (a + 1))) : Calls Try.prog 22 #[encStr m, .int .i64 (a : Int)] w (RNext m a N w) := by
  have hix := fun wx => run_index_str (P := Try.prog) wx 9 m (a : Int) a c Try.underlying9 rfl hc
  have hle := rletter_any c
  have hb := heap_alloc_new w (.cells #[.int .i64 0, .string { data := #[] }, .int .i64 0] 56)
  have hf := Fr.alloc w (.cells #[.int .i64 0, .string { data := #[] }, .int .i64 0] 56)
  obtain ⟨w0, hw0⟩ : ∃ w0, w0 = w.alloc (.cells #[.int .i64 0, .string { data := #[] }, .int .i64 0] 56) := ⟨_, rfl⟩
  obtain ⟨q, hq⟩ : ∃ q, q = w.heap.size := ⟨_, rfl⟩
  rw [← hw0] at hb hf
  rw [← hq] at hb
  obtain ⟨y0, y1, y2, z0, z1, z2⟩ := three_of_heap hb
  have HB := Lib.hid hb
  have HF := Lib.hid hf
  have HW := Lib.hid hw0
  have HQ := Lib.hid hq
  have hqw : w.heap.size ≤ q := by omega
  clear hb hf hw0 hq
  obtain ⟨n, hn⟩ : ∃ n, n = c.toNat := ⟨_, rfl⟩
  rw [← hn] at hix hle
  have HNN := Lib.hid hn
  have HNX := Lib.hid hN
  clear hN
  have hN1 : N = ⟨if n = 58 then 3 else if n = 124 then 4 else 5, [c], 1, 0⟩ := by
    rw [HNX.out]
    rcases hw with h | h | h
    · rw [HNN.out, h, toNat_eq h]; rfl
    · rw [HNN.out, h, toNat_eq h]; rfl
    · rw [HNN.out, h, toNat_eq h]; rfl
  have HC := Lib.hid (show c = UInt8.ofNat n by rw [HNN.out]; simp)
  rw [← hn] at hw
  clear hn hle hc
  rcases hw with hw | hw | hw

  · have u58 : ((n : Int) == 58) = true := by rw [hw]; rfl
    have hN2 : N = ⟨3, [58], 1, 0⟩ := by rw [hN1, HC.out, hw]; rfl
    have HN2 := Lib.hid hN2
    clear hN1 hN2 hw
    go_enter Try.func22, Try.ntmps22
    go_upto_region 1 with fail
    rw [← HW.out, ← HQ.out]
    clear HW HQ
    go_wp2_with fail
    refine bodyPost_ret (results_cell3 rfl _ _ q 56 _ _ rfl (tok_set HB.out) Try.underlying56 rfl sizeTok (.int .i64 ((a : Int) + 1)) (.int .i64 0) rfl rfl) rfl ⟨?_, HF.out.new ((Fr.set0 _ q 0 _).trans ((Fr.set0 _ q 1 _).trans (Fr.set0 _ q 2 _) (fun _ z _ => z) (fun _ z _ => z)) (fun _ z _ => z) (fun _ z _ => z)) (fun i hi => by have : i = q := (by simpa using hi); omega)⟩
    rw [HN2.out]; rfl

  · have u58 : ((n : Int) == 58) = false := by rw [beq_eq_false_iff_ne]; omega
    have u124 : ((n : Int) == 124) = true := by rw [hw]; rfl
    have hN2 : N = ⟨4, [124], 1, 0⟩ := by rw [hN1, HC.out, hw]; rfl
    have HN2 := Lib.hid hN2
    clear hN1 hN2 hw
    go_enter Try.func22, Try.ntmps22
    go_upto_region 1 with fail
    rw [← HW.out, ← HQ.out]
    clear HW HQ
    go_wp2_with fail
    refine bodyPost_ret (results_cell3 rfl _ _ q 56 _ _ rfl (tok_set HB.out) Try.underlying56 rfl sizeTok (.int .i64 ((a : Int) + 1)) (.int .i64 0) rfl rfl) rfl ⟨?_, HF.out.new ((Fr.set0 _ q 0 _).trans ((Fr.set0 _ q 1 _).trans (Fr.set0 _ q 2 _) (fun _ z _ => z) (fun _ z _ => z)) (fun _ z _ => z) (fun _ z _ => z)) (fun i hi => by have : i = q := (by simpa using hi); omega)⟩
    rw [HN2.out]; rfl

  · have u58 : ((n : Int) == 58) = false := by rw [beq_eq_false_iff_ne]; omega
    have u124 : ((n : Int) == 124) = false := by rw [beq_eq_false_iff_ne]; omega
    have u59 : ((n : Int) == 59) = true := by rw [hw]; rfl
    have hN2 : N = ⟨5, [59], 1, 0⟩ := by rw [hN1, HC.out, hw]; rfl
    have HN2 := Lib.hid hN2
    clear hN1 hN2 hw
    go_enter Try.func22, Try.ntmps22
    go_upto_region 1 with fail
    rw [← HW.out, ← HQ.out]
    clear HW HQ
    go_wp2_with fail
    refine bodyPost_ret (results_cell3 rfl _ _ q 56 _ _ rfl (tok_set HB.out) Try.underlying56 rfl sizeTok (.int .i64 ((a : Int) + 1)) (.int .i64 0) rfl rfl) rfl ⟨?_, HF.out.new ((Fr.set0 _ q 0 _).trans ((Fr.set0 _ q 1 _).trans (Fr.set0 _ q 2 _) (fun _ z _ => z) (fun _ z _ => z)) (fun _ z _ => z) (fun _ z _ => z)) (fun i hi => by have : i = q := (by simpa using hi); omega)⟩
    rw [HN2.out]; rfl

set_option maxRecDepth 100000 in
set_option maxHeartbeats 2000000 in
theorem rnext_none (m : List UInt8) (hm : m.length ≤ 1000000) (a : Nat) (ha : a < m.length) (c : UInt8) (hc : m[a]? = some c) (h1 : c.toNat ≠ 58) (h2 : c.toNat ≠ 124) (h3 : c.toNat ≠ 59) (h4 : letterB c = false) (h5 : c.toNat ≠ 39) (w : World) (N : NextD) (hN : N = nextD c (m.drop (a + 1))) : Calls Try.prog 22 #[encStr m, .int .i64 (a : Int)] w (RNext m a N w) := by
  have hix := fun wx => run_index_str (P := Try.prog) wx 9 m (a : Int) a c Try.underlying9 rfl hc
  have hle := rletter_any c
  have hb := heap_alloc_new w (.cells #[.int .i64 0, .string { data := #[] }, .int .i64 0] 56)
  have hf := Fr.alloc w (.cells #[.int .i64 0, .string { data := #[] }, .int .i64 0] 56)
  obtain ⟨w0, hw0⟩ : ∃ w0, w0 = w.alloc (.cells #[.int .i64 0, .string { data := #[] }, .int .i64 0] 56) := ⟨_, rfl⟩
  obtain ⟨q, hq⟩ : ∃ q, q = w.heap.size := ⟨_, rfl⟩
  rw [← hw0] at hb hf
  rw [← hq] at hb
  obtain ⟨y0, y1, y2, z0, z1, z2⟩ := three_of_heap hb
  have HB := Lib.hid hb
  have HF := Lib.hid hf
  have HW := Lib.hid hw0
  have HQ := Lib.hid hq
  have hqw : w.heap.size ≤ q := by omega
  clear hb hf hw0 hq
  obtain ⟨n, hn⟩ : ∃ n, n = c.toNat := ⟨_, rfl⟩
  rw [← hn] at hix hle
  have HNN := Lib.hid hn
  have HNX := Lib.hid hN
  clear hN
  have hN1 : N = noneD 13 := by
    rw [HNX.out]
    unfold nextD
    rw [if_neg (fun e => h1 (by rw [e]; rfl)), if_neg (fun e => h2 (by rw [e]; rfl)), if_neg (fun e => h3 (by rw [e]; rfl)), if_neg (by rw [h4]; simp), if_neg (fun e => h5 (by rw [e]; rfl))]
  rw [h4] at hle
  have HLE := Lib.hid hle
  have HN2 := Lib.hid hN1
  rw [← hn] at h1 h2 h3 h5
  have u58 : ((n : Int) == 58) = false := by rw [beq_eq_false_iff_ne]; omega
  have u124 : ((n : Int) == 124) = false := by rw [beq_eq_false_iff_ne]; omega
  have u59 : ((n : Int) == 59) = false := by rw [beq_eq_false_iff_ne]; omega
  have u39 : ((n : Int) == 39) = false := by rw [beq_eq_false_iff_ne]; omega
  clear hn hle hc hN1 h1 h2 h3 h4 h5
  go_enter Try.func22, Try.ntmps22
  go_upto_region 1 with fail
  rw [← HW.out, ← HQ.out]
  clear HW HQ
  go_upto_region 9 with (go_at_call 31; refine (HLE.out _).mono ?_; rintro e w1 ⟨rfl, rfl⟩)
  go_wp2_with fail
  refine bodyPost_ret (results_cell3 rfl _ _ q 56 _ _ rfl (tok_set HB.out) Try.underlying56 rfl sizeTok (.int .i64 ((a : Int))) (.int .i64 13) rfl rfl) rfl ⟨?_, HF.out.new ((Fr.set0 _ q 0 _).trans ((Fr.set0 _ q 1 _).trans (Fr.set0 _ q 2 _) (fun _ z _ => z) (fun _ z _ => z)) (fun _ z _ => z) (fun _ z _ => z)) (fun i hi => by have : i = q := (by simpa using hi); omega)⟩
  rw [HN2.out]; rfl

set_option maxRecDepth 100000 in
set_option maxHeartbeats 2000000 in
theorem rnext_name (m : List UInt8) (hm : m.length ≤ 1000000) (a : Nat) (ha : a < m.length) (c : UInt8) (hc : m[a]? = some c) (h4 : letterB c = true) (w : World) (N : NextD) (hN : N = nextD c (m.drop (a + 1))) : Calls Try.prog 22 #[encStr m, .int .i64 (a : Int)] w (RNext m a N w) := by
  have hix := fun wx => run_index_str (P := Try.prog) wx 9 m (a : Int) a c Try.underlying9 rfl hc
  have hle := rletter_any c
  have hb := heap_alloc_new w (.cells #[.int .i64 0, .string { data := #[] }, .int .i64 0] 56)
  have hf := Fr.alloc w (.cells #[.int .i64 0, .string { data := #[] }, .int .i64 0] 56)
  obtain ⟨w0, hw0⟩ : ∃ w0, w0 = w.alloc (.cells #[.int .i64 0, .string { data := #[] }, .int .i64 0] 56) := ⟨_, rfl⟩
  obtain ⟨q, hq⟩ : ∃ q, q = w.heap.size := ⟨_, rfl⟩
  rw [← hw0] at hb hf
  rw [← hq] at hb
  obtain ⟨y0, y1, y2, z0, z1, z2⟩ := three_of_heap hb
  have HB := Lib.hid hb
  have HF := Lib.hid hf
  have HW := Lib.hid hw0
  have HQ := Lib.hid hq
  have hqw : w.heap.size ≤ q := by omega
  clear hb hf hw0 hq
  obtain ⟨n, hn⟩ : ∃ n, n = c.toNat := ⟨_, rfl⟩
  rw [← hn] at hix hle
  have HNN := Lib.hid hn
  have HNX := Lib.hid hN
  clear hN
  have hN1 : N = if 32 < ((m.drop a).takeWhile moreB).length then noneD 19 else ⟨1, (m.drop a).takeWhile moreB, ((m.drop a).takeWhile moreB).length, 0⟩ := by
    have e : c :: m.drop (a + 1) = m.drop a := by
      rw [List.drop_eq_getElem_cons ha]
      rw [List.getElem?_eq_getElem ha] at hc
      rw [Option.some.inj hc]
    rw [HNX.out, next_letter _ h4, e]
  obtain ⟨e1, e2, e3, -, -, -⟩ := letter_num h4
  have h1 : c.toNat ≠ 58 := fun h => e1 (toNat_eq h)
  have h2 : c.toNat ≠ 124 := fun h => e2 (toNat_eq h)
  have h3 : c.toNat ≠ 59 := fun h => e3 (toNat_eq h)
  rw [h4] at hle
  have HLE := Lib.hid hle
  have HN1 := Lib.hid hN1
  rw [← hn] at h1 h2 h3
  have u58 : ((n : Int) == 58) = false := by rw [beq_eq_false_iff_ne]; omega
  have u124 : ((n : Int) == 124) = false := by rw [beq_eq_false_iff_ne]; omega
  have u59 : ((n : Int) == 59) = false := by rw [beq_eq_false_iff_ne]; omega
  clear hn hle hc hN1 h1 h2 h3 h4 e1 e2 e3
  go_enter Try.func22, Try.ntmps22
  go_upto_region 1 with fail
  rw [← HW.out, ← HQ.out]
  clear HW HQ
  go_upto_region 10 with (go_at_call 31; refine (HLE.out _).mono ?_; rintro e w1 ⟨rfl, rfl⟩)
  have hfin : ∀ k, a ≤ k → k ≤ m.length → (∀ j, a ≤ j → j < k → ∀ h : j < m.length, moreB (m[j]'h) = true) → (∀ h : k < m.length, moreB (m[k]'h) = false) → N = if 32 < k - a then noneD 19 else ⟨1, (m.take k).drop a, k - a, 0⟩ := fun k g1 g2 g3 g4 => by
    have hl : ((m.take k).drop a).length = k - a := by rw [List.length_drop, List.length_take]; omega
    rw [HN1.out, run_at g1 g2 g3 g4, hl]
  have HFIN := Lib.hid hfin
  clear hfin hix
  go_wp2_with fail
  go_loopw [8] (RunRel moreB _ m a) (fun iv _ => m.length - (intOf iv).toNat)
  case atStart => exact ⟨a, Nat.le_refl _, by omega, rfl, fun j h1 h2 => by omega, rfl⟩
  case round =>
    obtain ⟨k, hak, hk, rfl, hall, rfl⟩ := hrel
    have HA := Lib.hid hall
    clear hall
    by_cases hkn : k < m.length
    · have hd3 : decide (k < m.length) = true := decide_eq_true hkn
      obtain ⟨d, hd⟩ : ∃ d, d = m[k]'hkn := ⟨_, rfl⟩
      have hix := fun wx => run_index_str (P := Try.prog) wx 9 m (k : Int) k d Try.underlying9 rfl (by rw [hd, List.getElem?_eq_getElem])
      have HC := Lib.hid hd
      have hin := rmore_any d
      clear hd
      cases ho : moreB d with
      | true =>
        rw [ho] at hin
        have HI := Lib.hid hin
        have HO := Lib.hid ho
        clear ho hin
        go_wp2_with (go_at_call 32; refine (HI.out _).mono ?_; rintro e w1 ⟨rfl, rfl⟩)
        exact ⟨⟨k + 1, by omega, by omega, by go_num, run_next HA.out hkn (by rw [← HC.out]; exact HO.out), rfl⟩, by simp [intOf]; omega⟩
      | false =>
        rw [ho] at hin
        have HI := Lib.hid hin
        have HFN := Lib.hid (HFIN.out k hak hk HA.out (fun h => by rw [← HC.out]; exact ho))
        clear ho hin
        by_cases hlong : 32 < k - a
        · have hdl : decide (32 < (k : Int) - (a : Int)) = true := decide_eq_true (by omega)
          have HN2 := Lib.hid (show N = noneD 19 by rw [HFN.out, if_pos hlong])
          clear hlong
          go_upto_region 12 with (go_at_call 32; refine (HI.out _).mono ?_; rintro e w1 ⟨rfl, rfl⟩)
          go_wp2_with fail
          refine bodyPost_ret (results_cell3 rfl _ _ q 56 _ _ rfl (tok_set HB.out) Try.underlying56 rfl sizeTok (.int .i64 ((a : Int))) (.int .i64 19) rfl rfl) rfl ⟨?_, HF.out.new ((Fr.set0 _ q 0 _).trans ((Fr.set0 _ q 1 _).trans (Fr.set0 _ q 2 _) (fun _ z _ => z) (fun _ z _ => z)) (fun _ z _ => z) (fun _ z _ => z)) (fun i hi => by have : i = q := (by simpa using hi); omega)⟩
          rw [HN2.out]; rfl
        · have hdl : decide (32 < (k : Int) - (a : Int)) = false := decide_eq_false (by omega)
          have HN2 := Lib.hid (show N = ⟨1, (m.take k).drop a, k - a, 0⟩ by rw [HFN.out, if_neg hlong])
          clear hlong
          have hsl := fun wx => run_slice_str (P := Try.prog) wx 9 m .i64 .i64 a k Try.underlying9 hak hk
          have HAK := Lib.hid (show a + (k - a) = k by omega)
          go_upto_region 12 with (go_at_call 32; refine (HI.out _).mono ?_; rintro e w1 ⟨rfl, rfl⟩)
          go_wp2_with fail
          refine bodyPost_ret (results_cell3 rfl _ _ q 56 _ _ rfl (tok_set HB.out) Try.underlying56 rfl sizeTok (.int .i64 ((k : Int))) (.int .i64 0) rfl rfl) rfl ⟨?_, HF.out.new ((Fr.set0 _ q 0 _).trans ((Fr.set0 _ q 1 _).trans (Fr.set0 _ q 2 _) (fun _ z _ => z) (fun _ z _ => z)) (fun _ z _ => z) (fun _ z _ => z)) (fun i hi => by have : i = q := (by simpa using hi); omega)⟩
          rw [HN2.out]; unfold nextV; simp only [HAK.out]; rfl
    · have hd3 : decide (k < m.length) = false := decide_eq_false hkn
      obtain rfl : k = m.length := by omega
      have HFN := Lib.hid (HFIN.out _ hak hk HA.out (fun h => absurd h hkn))
      by_cases hlong : 32 < m.length - a
      · have hdl : decide (32 < (m.length : Int) - (a : Int)) = true := decide_eq_true (by omega)
        have HN2 := Lib.hid (show N = noneD 19 by rw [HFN.out, if_pos hlong])
        clear hlong
        go_upto_region 12 with fail
        go_wp2_with fail
        refine bodyPost_ret (results_cell3 rfl _ _ q 56 _ _ rfl (tok_set HB.out) Try.underlying56 rfl sizeTok (.int .i64 ((a : Int))) (.int .i64 19) rfl rfl) rfl ⟨?_, HF.out.new ((Fr.set0 _ q 0 _).trans ((Fr.set0 _ q 1 _).trans (Fr.set0 _ q 2 _) (fun _ z _ => z) (fun _ z _ => z)) (fun _ z _ => z) (fun _ z _ => z)) (fun i hi => by have : i = q := (by simpa using hi); omega)⟩
        rw [HN2.out]; rfl
      · have hdl : decide (32 < (m.length : Int) - (a : Int)) = false := decide_eq_false (by omega)
        have HN2 := Lib.hid (show N = ⟨1, m.drop a, m.length - a, 0⟩ by rw [HFN.out, if_neg hlong, List.take_length])
        clear hlong
        have hsl := fun wx => run_slice_str (P := Try.prog) wx 9 m .i64 .i64 a m.length Try.underlying9 hak hk
        have HAK := Lib.hid (show a + (m.length - a) = m.length by omega)
        go_upto_region 12 with fail
        go_wp2_with fail
        refine bodyPost_ret (results_cell3 rfl _ _ q 56 _ _ rfl (tok_set HB.out) Try.underlying56 rfl sizeTok (.int .i64 ((m.length : Int))) (.int .i64 0) rfl rfl) rfl ⟨?_, HF.out.new ((Fr.set0 _ q 0 _).trans ((Fr.set0 _ q 1 _).trans (Fr.set0 _ q 2 _) (fun _ z _ => z) (fun _ z _ => z)) (fun _ z _ => z) (fun _ z _ => z)) (fun i hi => by have : i = q := (by simpa using hi); omega)⟩
        rw [HN2.out]; unfold nextV; simp only [HAK.out]; rfl
end Go.Proofs.Ytboljohhkfidfaa
