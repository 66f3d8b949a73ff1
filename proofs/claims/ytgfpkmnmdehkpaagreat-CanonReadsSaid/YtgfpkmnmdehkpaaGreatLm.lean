/- Several texts in one: LexM, LexN, LexO, LexQ, LexR. -/
import Derived.Lib.Bytealg
import Derived.Laws.Externs
import Derived.WalkMore
import Derived.Deep.DeepCutAuto
import Derived.Maps.AppendAt
import Derived.Test.YtgfpkmnmdehkpaaGreatLx
import Derived.Test.YtgfpkmnmdehkpaaGreatLs
set_option linter.unusedVariables false
set_option linter.unusedSimpArgs false
/-! The program's lexer (layer 12): strings.IndexByte, comment. -/
namespace Go.Proofs.YtgfpkmnmdehkpaaGreat
open Go.RowKit

/-- Not a line feed. -/
abbrev noLf (c : UInt8) : Bool := !decide (c = 10)
theorem idx_lf : ∀ l : List UInt8, (Lib.indexByte l 10 = -1 ∧ (l.takeWhile noLf).length = l.length) ∨ Lib.indexByte l 10 = ((l.takeWhile noLf).length : Int)
  | [] => .inl ⟨rfl, rfl⟩
  | c :: t => by
    by_cases h : c = 10
    · subst h; right; rfl
    · have hb : (c == 10) = false := by rw [beq_eq_false_iff_ne]; exact h
      have hc : noLf c = true := by simp [noLf, h]
      rw [List.takeWhile_cons, if_pos hc]
      unfold Lib.indexByte
      rw [hb]
      simp only [Bool.false_eq_true, if_false, List.length_cons]
      rcases idx_lf t with ⟨h1, h2⟩ | h1
      · left
        rw [h1, h2]
        exact ⟨rfl, rfl⟩
      · right
        rw [h1, if_neg (by rw [beq_iff_eq]; omega)]
        omega
set_option maxRecDepth 100000 in
theorem plite_any (m : List UInt8) (w : World) : Calls Tryz.prog 153 #[encStr m, .int .u8 10] w fun e w' => e = .returned (.int .i64 (Lib.indexByte m 10)) ∧ w = w' := by
  go_enter Tryz.func153, Tryz.ntmps153
  go_wp2
  rw [run_callFunc_extern (f := 157) Tryz.func157 (by kernel_rfl) (by kernel_rfl) (by kernel_rfl) (e := Extern.BytealgIndexByte.indexByte) (by kernel_rfl), show encStr m = .string ⟨m.toArray⟩ from rfl, Lib.run_indexByteString]
  simp only [Result.andThen]
  rw [Oper.upon_value]
  go_wp2
  go_ret
  exact ⟨rfl, rfl⟩
set_option maxRecDepth 100000 in
theorem pindex_any (m : List UInt8) (w : World) : Calls Tryz.prog 138 #[encStr m, .int .u8 10] w fun e w' => e = .returned (.int .i64 (Lib.indexByte m 10)) ∧ w = w' := by
  have HP := Lib.hid (plite_any m)
  go_enter Tryz.func138, Tryz.ntmps138
  go_wp2_with (go_at_call 153; refine (HP.out _).mono ?_; rintro e w1 ⟨rfl, rfl⟩)
  go_ret
  exact ⟨rfl, rfl⟩
set_option maxRecDepth 100000 in
set_option maxHeartbeats 1000000 in
theorem pcomment_any (m : List UInt8) (hm : m.length ≤ maxLen) (w : World) : Calls Tryz.prog 102 #[encStr m] w fun e w' => e = .returned (.int .i64 ((m.takeWhile noLf).length : Int)) ∧ w = w' := by
  have hm' : m.length ≤ 9223372036854775807 := by simpa [maxLen] using hm
  have hp := pindex_any m
  rcases idx_lf m with ⟨h1, h2⟩ | h1
  · rw [h1] at hp
    have HP := Lib.hid hp
    rw [h2]
    clear hp h1 h2 hm
    go_enter Tryz.func102, Tryz.ntmps102
    go_wp2_with (go_at_call 138; refine (HP.out _).mono ?_; rintro e w1 ⟨rfl, rfl⟩)
    go_ret
    exact ⟨rfl, rfl⟩
  · rw [h1] at hp
    have hle := takeWhile_le noLf m
    obtain ⟨n, hn⟩ : ∃ n, n = (m.takeWhile noLf).length := ⟨_, rfl⟩
    rw [← hn] at hp hle ⊢
    have HP := Lib.hid hp
    clear hp h1 hm hn
    go_enter Tryz.func102, Tryz.ntmps102
    go_wp2_with (go_at_call 138; refine (HP.out _).mono ?_; rintro e w1 ⟨rfl, rfl⟩)
    go_ret
    exact ⟨rfl, rfl⟩
end Go.Proofs.YtgfpkmnmdehkpaaGreat

/-! The program's lexer (layer 12): skip. -/
namespace Go.Proofs.YtgfpkmnmdehkpaaGreat
open Go.RowKit

/-- 's[l:]' of a string. -/
theorem run_slice_from {P : Program} (w : World) (t : TypeId) (s : List UInt8) (kl : IntKind) (l : Nat) (ht : P.underlying t = some .string) (h1 : l ≤ s.length) :
    (Instr.slice t (.string ⟨s.toArray⟩) (some (.int kl l)) none none).run P w = .ok (.string ⟨(s.drop l).toArray⟩) w := by
  have hz : (ByteArray.mk s.toArray).size = s.length := by simp [ByteArray.size]
  have e := extract_mk s l s.length
  rw [List.take_length] at e
  simp [Instr.slice, run_underlying ht, Instr.sliceBounds, run_sliceBound, hz, h1, e]
/-- 's[:h]' of a string. -/
theorem run_slice_to {P : Program} (w : World) (t : TypeId) (s : List UInt8) (kh : IntKind) (h : Nat) (ht : P.underlying t = some .string) (h2 : h ≤ s.length) :
    (Instr.slice t (.string ⟨s.toArray⟩) none (some (.int kh h)) none).run P w = .ok (.string ⟨(s.take h).toArray⟩) w := by
  have hz : (ByteArray.mk s.toArray).size = s.length := by simp [ByteArray.size]
  have e := extract_mk s 0 h
  rw [List.drop_zero] at e
  simp [Instr.slice, run_underlying ht, Instr.sliceBounds, run_sliceBound, hz, h2, e]
/-- Behind the separators that begin at a. -/
def SkipOf (m : List UInt8) (a k : Nat) : Prop := a ≤ k ∧ k ≤ m.length ∧ lexD (m.drop k) k = lexD (m.drop a) a
theorem SkipOf.blank {m : List UInt8} {a k : Nat} {c : UInt8} (h : SkipOf m a k) (hk : k < m.length) (hc : m[k]? = some c) (hb : blankB c = true) : SkipOf m a (k + 1) := by
  refine ⟨by have := h.1; omega, by omega, ?_⟩
  rw [← h.2.2, List.drop_eq_getElem_cons hk]
  rw [List.getElem?_eq_getElem hk] at hc
  rw [Option.some.inj hc, lex_blank _ _ hb]
theorem drop_noLf (t : List UInt8) : t.drop (t.takeWhile noLf).length = restC t := by
  have h := List.takeWhile_append_dropWhile (p := noLf) (l := t)
  unfold restC
  exact (congrArg (List.drop (t.takeWhile noLf).length) h.symm).trans (by rw [List.drop_left])
theorem SkipOf.note {m : List UInt8} {a k : Nat} (h : SkipOf m a k) (hk : k < m.length) (hc : m[k]? = some 35) : 1 ≤ ((m.drop k).takeWhile noLf).length ∧ SkipOf m a (k + ((m.drop k).takeWhile noLf).length) := by
  have hd : m.drop k = 35 :: m.drop (k + 1) := by
    rw [List.getElem?_eq_getElem hk] at hc
    rw [List.drop_eq_getElem_cons hk, Option.some.inj hc]
  have h1 : ((m.drop k).takeWhile noLf).length = ((m.drop (k + 1)).takeWhile noLf).length + 1 := by
    rw [hd, List.takeWhile_cons, if_pos (by rfl), List.length_cons]
  have hle := takeWhile_le noLf (m.drop (k + 1))
  rw [List.length_drop] at hle
  have hr := restC_le (m.drop (k + 1))
  refine ⟨by omega, by have := h.1; omega, by omega, ?_⟩
  rw [← h.2.2, h1, hd, lex_note, ← drop_noLf, List.drop_drop, List.length_drop, List.length_drop]
  congr 1
  · congr 1; omega
  · omega
/-- What skip returns. -/
def Skipped (m : List UInt8) (a : Nat) (w : World) (e : Ending) (w' : World) : Prop := ∃ k : Nat, e = .returned (.int .i64 (k : Int)) ∧ SkipOf m a k ∧ (∀ c, m[k]? = some c → blankB c = false ∧ c ≠ 35) ∧ w = w'
def SkipRel (w : World) (m : List UInt8) (a : Nat) (iv : Value) (wx : World) : Prop := ∃ k : Nat, iv = .int .i64 (k : Int) ∧ SkipOf m a k ∧ w = wx
set_option maxRecDepth 100000 in
set_option maxHeartbeats 2000000 in
theorem pskip_any (m : List UInt8) (hm : m.length ≤ 1000000) (a : Nat) (ha : a ≤ m.length) (w : World) : Calls Tryz.prog 80 #[encStr m, .int .i64 (a : Int)] w (Skipped m a w) := by
  go_enter Tryz.func80, Tryz.ntmps80
  go_wp2_with fail
  go_loopw [1] (SkipRel w m a) (fun iv _ => m.length - (intOf iv).toNat)
  case atStart => exact ⟨a, rfl, ⟨Nat.le_refl _, ha, rfl⟩, rfl⟩
  case round =>
    obtain ⟨k, rfl, hs, rfl⟩ := hrel
    have hk := hs.2.1
    have hak := hs.1
    have HS := Lib.hid hs
    clear hs
    by_cases hkn : k < m.length
    · have hd3 : decide (k < m.length) = true := decide_eq_true hkn
      obtain ⟨c, hc⟩ : ∃ c, m[k]? = some c := ⟨m[k]'hkn, List.getElem?_eq_getElem _⟩
      have hix := fun wx => run_index_str (P := Tryz.prog) wx 9 m (k : Int) k c Tryz.underlying9 rfl hc
      have HC := Lib.hid hc
      clear hc
      obtain ⟨n, hn⟩ : ∃ n, n = c.toNat := ⟨_, rfl⟩
      rw [← hn] at hix
      have HN := Lib.hid hn
      clear hn
      by_cases hbl : blankB c = true
      · have hnx := HS.out.blank hkn HC.out hbl
        have HNX := Lib.hid hnx
        have b35 : ((n : Int) == 35) = false := by
          rw [beq_eq_false_iff_ne]
          intro e
          have : c = 35 := toNat_eq (show c.toNat = 35 by rw [← HN.out]; omega)
          rw [this] at hbl
          exact absurd hbl (by decide)
        have hw : n = 32 ∨ n = 9 ∨ n = 10 ∨ n = 13 := by
          rw [HN.out]
          unfold blankB at hbl
          simpa [or_assoc] using hbl
        clear hbl hnx
        rcases hw with hw | hw | hw | hw
        · have b32 : ((n : Int) == 32) = true := by rw [hw]; rfl
          clear hw
          go_wp2_with fail
          exact ⟨⟨k + 1, by go_num, HNX.out, rfl⟩, by simp [intOf]; omega⟩
        · have b32 : ((n : Int) == 32) = false := by rw [beq_eq_false_iff_ne]; omega
          have b9 : ((n : Int) == 9) = true := by rw [hw]; rfl
          clear hw
          go_wp2_with fail
          exact ⟨⟨k + 1, by go_num, HNX.out, rfl⟩, by simp [intOf]; omega⟩
        · have b32 : ((n : Int) == 32) = false := by rw [beq_eq_false_iff_ne]; omega
          have b9 : ((n : Int) == 9) = false := by rw [beq_eq_false_iff_ne]; omega
          have b10 : ((n : Int) == 10) = true := by rw [hw]; rfl
          clear hw
          go_wp2_with fail
          exact ⟨⟨k + 1, by go_num, HNX.out, rfl⟩, by simp [intOf]; omega⟩
        · have b32 : ((n : Int) == 32) = false := by rw [beq_eq_false_iff_ne]; omega
          have b9 : ((n : Int) == 9) = false := by rw [beq_eq_false_iff_ne]; omega
          have b10 : ((n : Int) == 10) = false := by rw [beq_eq_false_iff_ne]; omega
          have b13 : ((n : Int) == 13) = true := by rw [hw]; rfl
          clear hw
          go_wp2_with fail
          exact ⟨⟨k + 1, by go_num, HNX.out, rfl⟩, by simp [intOf]; omega⟩
      · have HBL := Lib.hid (show blankB c = false by simpa using hbl)
        have hnb : n ≠ 32 ∧ n ≠ 9 ∧ n ≠ 10 ∧ n ≠ 13 := by
          have := HBL.out
          unfold blankB at this
          rw [← HN.out] at this
          simp at this
          omega
        have b32 : ((n : Int) == 32) = false := by rw [beq_eq_false_iff_ne]; omega
        have b9 : ((n : Int) == 9) = false := by rw [beq_eq_false_iff_ne]; omega
        have b10 : ((n : Int) == 10) = false := by rw [beq_eq_false_iff_ne]; omega
        have b13 : ((n : Int) == 13) = false := by rw [beq_eq_false_iff_ne]; omega
        clear hbl hnb
        by_cases h35 : n = 35
        · have b35 : ((n : Int) == 35) = true := by rw [h35]; rfl
          have hc35 : c = 35 := toNat_eq (show c.toNat = 35 by rw [← HN.out]; exact h35)
          obtain ⟨hp, hnx⟩ := HS.out.note hkn (by rw [HC.out, hc35])
          have hcm := pcomment_any (m.drop k) (by rw [List.length_drop]; simp [maxLen]; omega)
          have hsl := fun wx => run_slice_from (P := Tryz.prog) wx 9 m .i64 k Tryz.underlying9 hk
          obtain ⟨q, hq⟩ : ∃ q, q = ((m.drop k).takeWhile noLf).length := ⟨_, rfl⟩
          rw [← hq] at hp hnx hcm
          have hkq := hnx.2.1
          have HNX := Lib.hid hnx
          have HCM := Lib.hid hcm
          clear h35 hc35 hq hnx hcm
          go_wp2_with (go_at_call 102; refine (HCM.out _).mono ?_; rintro e w1 ⟨rfl, rfl⟩)
          refine ⟨⟨k + q, ?_, HNX.out, rfl⟩, ?_⟩
          · go_num
          · simp [intOf]; omega
        · have b35 : ((n : Int) == 35) = false := by rw [beq_eq_false_iff_ne]; omega
          have hc35 : c ≠ 35 := fun e => h35 (by rw [HN.out, e]; rfl)
          have HH := Lib.hid hc35
          clear h35 hc35
          go_wp2_with fail
          go_ret
          exact ⟨k, rfl, HS.out, fun d hd => by rw [HC.out] at hd; rw [← Option.some.inj hd]; exact ⟨HBL.out, HH.out⟩, rfl⟩
    · have hd3 : decide (k < m.length) = false := decide_eq_false hkn
      have hnn : m[k]? = none := List.getElem?_eq_none (by omega)
      have HNN := Lib.hid hnn
      clear hnn
      go_wp2_with fail
      go_ret
      exact ⟨k, rfl, HS.out, (fun d hd => by rw [HNN.out] at hd; cases hd), rfl⟩
end Go.Proofs.YtgfpkmnmdehkpaaGreat

/-! The program's lexer (layer 12): mark, name, term. -/
namespace Go.Proofs.YtgfpkmnmdehkpaaGreat
open Go.RowKit

def tokV (N : NextD) : Value := .tuple #[.agg #[.int .i64 N.kind, encStr N.text, .int .i64 0], .int .i64 (N.n : Int), .int .i64 N.err]
def FirstOf (N : NextD) (w : World) (e : Ending) (w' : World) : Prop := e = .returned (tokV N) ∧ Fr [] w w'
theorem sizePTok : (Tryz.prog.info? 85).map (·.size) = some 3 := by kernel_rfl
set_option maxRecDepth 100000 in
set_option maxHeartbeats 2000000 in
theorem pmark_any (kind : Int) (m : List UInt8) (h1 : 1 ≤ m.length) (w : World) : Calls Tryz.prog 103 #[.int .i64 kind, encStr m] w (FirstOf ⟨kind, m.take 1, 1, 0⟩ w) := by
  have hb := heap_alloc_new w (.cells #[.int .i64 0, .string { data := #[] }, .int .i64 0] 85)
  have hf := Fr.alloc w (.cells #[.int .i64 0, .string { data := #[] }, .int .i64 0] 85)
  obtain ⟨w0, hw0⟩ : ∃ w0, w0 = w.alloc (.cells #[.int .i64 0, .string { data := #[] }, .int .i64 0] 85) := ⟨_, rfl⟩
  obtain ⟨q, hq⟩ : ∃ q, q = w.heap.size := ⟨_, rfl⟩
  rw [← hw0] at hb hf
  rw [← hq] at hb
  obtain ⟨y0, y1, y2, z0, z1, z2⟩ := three_of_heap hb
  have HB := Lib.hid hb
  have HF := Lib.hid hf
  have HW := Lib.hid hw0
  have HQ := Lib.hid hq
  have hqw : w.heap.size ≤ q := by omega
  clear hb hf hw0 hq
  go_enter Tryz.func103, Tryz.ntmps103
  go_upto_region 1 with fail
  rw [← HW.out, ← HQ.out]
  clear HW HQ
  go_wp2_with fail
  refine bodyPost_ret (results_cell3 rfl _ _ q 85 _ _ rfl (tok_set HB.out) Tryz.underlying85 rfl sizePTok (.int .i64 (1)) (.int .i64 0) rfl rfl) rfl ⟨?_, HF.out.new ((Fr.set0 _ q 0 _).trans ((Fr.set0 _ q 1 _).trans (Fr.set0 _ q 2 _) (fun _ z _ => z) (fun _ z _ => z)) (fun _ z _ => z) (fun _ z _ => z)) (fun i hi => by have : i = q := (by simpa using hi); omega)⟩
  unfold tokV
  rw [extract_mk, List.drop_zero]
  rfl
theorem take_takeWhile (p : UInt8 → Bool) (m : List UInt8) : m.take (m.takeWhile p).length = m.takeWhile p := by
  have h := List.takeWhile_append_dropWhile (p := p) (l := m)
  exact (congrArg (List.take (m.takeWhile p).length) h.symm).trans (by rw [List.take_left])
set_option maxRecDepth 100000 in
set_option maxHeartbeats 2000000 in
theorem pname_at (m : List UInt8) (hm : m.length ≤ 1000000) (w : World) : Calls Tryz.prog 105 #[encStr m] w (FirstOf (if 32 < (m.takeWhile moreB).length then noneD 19 else ⟨1, m.takeWhile moreB, (m.takeWhile moreB).length, 0⟩) w) := by
  have hr := prun_more m (by simp [maxLen]; omega)
  have htt := take_takeWhile moreB m
  have hle := takeWhile_le moreB m
  obtain ⟨n, hn⟩ : ∃ n, n = (m.takeWhile moreB).length := ⟨_, rfl⟩
  rw [← hn] at hr htt hle
  have HN := Lib.hid hn
  have HTT := Lib.hid htt
  unfold moreV at hr
  have HR := Lib.hid hr
  rw [← hn, ← htt]
  clear hr hn htt
  have hb := heap_alloc_new w (.cells #[.int .i64 0, .string { data := #[] }, .int .i64 0] 85)
  have hf := Fr.alloc w (.cells #[.int .i64 0, .string { data := #[] }, .int .i64 0] 85)
  obtain ⟨w0, hw0⟩ : ∃ w0, w0 = w.alloc (.cells #[.int .i64 0, .string { data := #[] }, .int .i64 0] 85) := ⟨_, rfl⟩
  obtain ⟨q, hq⟩ : ∃ q, q = w.heap.size := ⟨_, rfl⟩
  rw [← hw0] at hb hf
  rw [← hq] at hb
  obtain ⟨y0, y1, y2, z0, z1, z2⟩ := three_of_heap hb
  have HB := Lib.hid hb
  have HF := Lib.hid hf
  have HW := Lib.hid hw0
  have HQ := Lib.hid hq
  have hqw : w.heap.size ≤ q := by omega
  clear hb hf hw0 hq
  by_cases hlong : 32 < n
  · have hdl : decide (32 < n) = true := decide_eq_true hlong
    have hdl2 : decide (32 < (n : Int)) = true := decide_eq_true (by omega)
    rw [if_pos hlong]
    clear hlong
    go_enter Tryz.func105, Tryz.ntmps105
    go_upto_region 1 with fail
    rw [← HW.out, ← HQ.out]
    clear HW HQ
    go_wp2_with (go_at_call 111; refine (HR.out _).mono ?_; rintro e w1 ⟨rfl, rfl⟩)
    refine bodyPost_ret (results_cell3 rfl _ _ q 85 _ _ rfl (tok_set HB.out) Tryz.underlying85 rfl sizePTok (.int .i64 (0)) (.int .i64 19) rfl rfl) rfl ⟨?_, HF.out.new ((Fr.set0 _ q 0 _).trans ((Fr.set0 _ q 1 _).trans (Fr.set0 _ q 2 _) (fun _ z _ => z) (fun _ z _ => z)) (fun _ z _ => z) (fun _ z _ => z)) (fun i hi => by have : i = q := (by simpa using hi); omega)⟩
    rfl
  · have hdl : decide (32 < n) = false := decide_eq_false hlong
    have hdl2 : decide (32 < (n : Int)) = false := decide_eq_false (by omega)
    have hsl := fun wx => run_slice_to (P := Tryz.prog) wx 9 m .i64 n Tryz.underlying9 hle
    rw [if_neg hlong]
    clear hlong
    go_enter Tryz.func105, Tryz.ntmps105
    go_upto_region 1 with fail
    rw [← HW.out, ← HQ.out]
    clear HW HQ
    go_wp2_with (go_at_call 111; refine (HR.out _).mono ?_; rintro e w1 ⟨rfl, rfl⟩)
    refine bodyPost_ret (results_cell3 rfl _ _ q 85 _ _ rfl (tok_set HB.out) Tryz.underlying85 rfl sizePTok (.int .i64 ((n : Int))) (.int .i64 0) rfl rfl) rfl ⟨?_, HF.out.new ((Fr.set0 _ q 0 _).trans ((Fr.set0 _ q 1 _).trans (Fr.set0 _ q 2 _) (fun _ z _ => z) (fun _ z _ => z)) (fun _ z _ => z) (fun _ z _ => z)) (fun i hi => by have : i = q := (by simpa using hi); omega)⟩
    first | rfl | (unfold tokV; rw [extract_mk, List.drop_zero]; rfl)
theorem termD_bad {t : List UInt8} (h : (t.takeWhile termC).length = 0 ∨ (t.takeWhile termC).length = t.length ∨ ∃ c, t[(t.takeWhile termC).length]? = some c ∧ c ≠ 39) : termD t = noneD 13 := by
  unfold termD
  rw [if_neg]
  rintro ⟨h1, h2⟩
  rw [List.head?_drop] at h1
  rcases h with h | h | ⟨c, h, h3⟩
  · exact h2 (List.eq_nil_of_length_eq_zero h)
  · rw [h, List.getElem?_eq_none (Nat.le_refl _)] at h1; cases h1
  · rw [h] at h1; exact h3 (Option.some.inj h1)
theorem termD_ok {t : List UInt8} (h0 : (t.takeWhile termC).length ≠ 0) (h : t[(t.takeWhile termC).length]? = some 39) : termD t = if 32 < (t.takeWhile termC).length then noneD 19 else ⟨2, t.takeWhile termC, (t.takeWhile termC).length + 2, 0⟩ := by
  unfold termD
  rw [if_pos]
  exact ⟨by rw [List.head?_drop]; exact h, fun e => h0 (by rw [e]; rfl)⟩
set_option maxRecDepth 100000 in
set_option maxHeartbeats 4000000 in
theorem pterm_at (c0 : UInt8) (t : List UInt8) (hm : (c0 :: t).length ≤ 1000000) (w : World) : Calls Tryz.prog 104 #[encStr (c0 :: t)] w (FirstOf (termD t) w) := by
  rw [List.length_cons] at hm
  have hr := prun_term t (by simp [maxLen]; omega)
  have htt := take_takeWhile termC t
  have hle := takeWhile_le termC t
  have hbad := @termD_bad t
  have hok := @termD_ok t
  obtain ⟨n, hn⟩ : ∃ n, n = (t.takeWhile termC).length := ⟨_, rfl⟩
  rw [← hn] at hr htt hle hbad hok
  rw [← htt] at hok
  unfold termV at hr
  have HR := Lib.hid hr
  have HBAD := Lib.hid hbad
  have HOK := Lib.hid hok
  have hsf : ∀ wx, (Instr.slice 9 (.string ⟨(c0 :: t).toArray⟩) (some (.int .i64 1)) none none).run Tryz.prog wx = .ok (.string ⟨t.toArray⟩) wx := fun wx => run_slice_from (P := Tryz.prog) wx 9 (c0 :: t) .i64 1 Tryz.underlying9 (by simp)
  have hsl := fun wx => run_slice_to (P := Tryz.prog) wx 9 t .i64 n Tryz.underlying9 hle
  have hz : (ByteArray.mk (c0 :: t).toArray).size = t.length + 1 := by simp [ByteArray.size]
  have hex : (ByteArray.mk (c0 :: t).toArray).extract 1 (t.length + 1) = ⟨t.toArray⟩ := by
    rw [extract_mk, List.take_of_length_le (by simp)]; rfl
  obtain ⟨m, hmm⟩ : ∃ m, m = c0 :: t := ⟨_, rfl⟩
  have hml : m.length = t.length + 1 := by rw [hmm]; simp
  rw [← hmm] at hsf hz hex ⊢
  have HEX := Lib.hid hex
  have HML := Lib.hid hml
  clear hr hn htt hbad hok hex hz hml hmm
  have hb := heap_alloc_new w (.cells #[.int .i64 0, .string { data := #[] }, .int .i64 0] 85)
  have hf := Fr.alloc w (.cells #[.int .i64 0, .string { data := #[] }, .int .i64 0] 85)
  obtain ⟨w0, hw0⟩ : ∃ w0, w0 = w.alloc (.cells #[.int .i64 0, .string { data := #[] }, .int .i64 0] 85) := ⟨_, rfl⟩
  obtain ⟨q, hq⟩ : ∃ q, q = w.heap.size := ⟨_, rfl⟩
  rw [← hw0] at hb hf
  rw [← hq] at hb
  obtain ⟨y0, y1, y2, z0, z1, z2⟩ := three_of_heap hb
  have HB := Lib.hid hb
  have HF := Lib.hid hf
  have HW := Lib.hid hw0
  have HQ := Lib.hid hq
  have hqw : w.heap.size ≤ q := by omega
  clear hb hf hw0 hq
  by_cases h0 : n = 0
  · have e1 : ((n : Int) == 0) = true := by rw [h0]; rfl
    have e1' : (n == 0) = true := by rw [h0]; rfl
    rw [HBAD.out (.inl h0)]
    clear h0
    go_enter Tryz.func104, Tryz.ntmps104
    go_upto_region 1 with fail
    rw [← HW.out, ← HQ.out]
    clear HW HQ
    go_upto_region 2 with fail
    go_wp2_with (go_at_call 111; refine (HR.out _).mono ?_; rintro e w1 ⟨rfl, rfl⟩)
    refine bodyPost_ret (results_cell3 rfl _ _ q 85 _ _ rfl (tok_set HB.out) Tryz.underlying85 rfl sizePTok (.int .i64 (0)) (.int .i64 13) rfl rfl) rfl ⟨?_, HF.out.new ((Fr.set0 _ q 0 _).trans ((Fr.set0 _ q 1 _).trans (Fr.set0 _ q 2 _) (fun _ z _ => z) (fun _ z _ => z)) (fun _ z _ => z) (fun _ z _ => z)) (fun i hi => by have : i = q := (by simpa using hi); omega)⟩
    rfl
  · have e1 : ((n : Int) == 0) = false := by rw [beq_eq_false_iff_ne]; omega
    have e1' : (n == 0) = false := by rw [beq_eq_false_iff_ne]; exact h0
    by_cases h1 : n = t.length
    · have e2 : ((n : Int) == (t.length : Int)) = true := by rw [h1]; simp
      have e2' : (n == t.length) = true := by rw [h1]; simp
      rw [HBAD.out (.inr (.inl h1))]
      have HH := Lib.hid h1
      clear h0 h1
      go_enter Tryz.func104, Tryz.ntmps104
      go_upto_region 1 with fail
      rw [← HW.out, ← HQ.out]
      clear HW HQ
      go_upto_region 2 with fail
      go_wp2_with (go_at_call 111; refine (HR.out _).mono ?_; rintro e w1 ⟨rfl, rfl⟩)
      refine bodyPost_ret (results_cell3 rfl _ _ q 85 _ _ rfl (tok_set HB.out) Tryz.underlying85 rfl sizePTok (.int .i64 (0)) (.int .i64 13) rfl rfl) rfl ⟨?_, HF.out.new ((Fr.set0 _ q 0 _).trans ((Fr.set0 _ q 1 _).trans (Fr.set0 _ q 2 _) (fun _ z _ => z) (fun _ z _ => z)) (fun _ z _ => z) (fun _ z _ => z)) (fun i hi => by have : i = q := (by simpa using hi); omega)⟩
      rfl
    · have e2 : ((n : Int) == (t.length : Int)) = false := by rw [beq_eq_false_iff_ne]; omega
      have e2' : (n == t.length) = false := by rw [beq_eq_false_iff_ne]; exact h1
      have hlt : n < t.length := by omega
      obtain ⟨c, hc⟩ : ∃ c, t[n]? = some c := ⟨t[n]'hlt, List.getElem?_eq_getElem _⟩
      have hix := fun wx => run_index_str (P := Tryz.prog) wx 9 t (n : Int) n c Tryz.underlying9 rfl hc
      obtain ⟨x, hx⟩ : ∃ x, x = c.toNat := ⟨_, rfl⟩
      rw [← hx] at hix
      have HX := Lib.hid hx
      have HC := Lib.hid hc
      have H0 := Lib.hid h0
      clear hx hc h0 h1
      by_cases h39 : x = 39
      · have e3 : ((x : Int) != 39) = false := by rw [h39]; rfl
        have e3' : ((x : Int) == 39) = true := by rw [h39]; rfl
        have hc39 : c = 39 := toNat_eq (show c.toNat = 39 by rw [← HX.out]; exact h39)
        have hok := HOK.out H0.out (by rw [HC.out, hc39])
        clear h39 hc39
        rw [hok]
        clear hok
        by_cases hlong : 32 < n
        · have hdl : decide (32 < n) = true := decide_eq_true hlong
          have hdl2 : decide (32 < (n : Int)) = true := decide_eq_true (by omega)
          rw [if_pos hlong]
          clear hlong
          go_enter Tryz.func104, Tryz.ntmps104
          go_upto_region 1 with fail
          rw [← HW.out, ← HQ.out]
          clear HW HQ
          go_upto_region 2 with fail
          go_wp2_with (go_at_call 111; refine (HR.out _).mono ?_; rintro e w1 ⟨rfl, rfl⟩)
          refine bodyPost_ret (results_cell3 rfl _ _ q 85 _ _ rfl (tok_set HB.out) Tryz.underlying85 rfl sizePTok (.int .i64 (0)) (.int .i64 19) rfl rfl) rfl ⟨?_, HF.out.new ((Fr.set0 _ q 0 _).trans ((Fr.set0 _ q 1 _).trans (Fr.set0 _ q 2 _) (fun _ z _ => z) (fun _ z _ => z)) (fun _ z _ => z) (fun _ z _ => z)) (fun i hi => by have : i = q := (by simpa using hi); omega)⟩
          rfl
        · have hdl : decide (32 < n) = false := decide_eq_false hlong
          have hdl2 : decide (32 < (n : Int)) = false := decide_eq_false (by omega)
          rw [if_neg hlong]
          clear hlong
          go_enter Tryz.func104, Tryz.ntmps104
          go_upto_region 1 with fail
          rw [← HW.out, ← HQ.out]
          clear HW HQ
          go_upto_region 2 with fail
          go_wp2_with (go_at_call 111; refine (HR.out _).mono ?_; rintro e w1 ⟨rfl, rfl⟩)
          refine bodyPost_ret (results_cell3 rfl _ _ q 85 _ _ rfl (tok_set HB.out) Tryz.underlying85 rfl sizePTok (.int .i64 ((n : Int) + 2)) (.int .i64 0) rfl rfl) rfl ⟨?_, HF.out.new ((Fr.set0 _ q 0 _).trans ((Fr.set0 _ q 1 _).trans (Fr.set0 _ q 2 _) (fun _ z _ => z) (fun _ z _ => z)) (fun _ z _ => z) (fun _ z _ => z)) (fun i hi => by have : i = q := (by simpa using hi); omega)⟩
          first | rfl | (unfold tokV; rw [extract_mk, List.drop_zero]; rfl)
      · have e3 : ((x : Int) != 39) = true := by rw [bne_iff_ne]; omega
        have e3' : ((x : Int) == 39) = false := by rw [beq_eq_false_iff_ne]; omega
        have hc39 : c ≠ 39 := fun e => h39 (by rw [HX.out, e]; rfl)
        rw [HBAD.out (.inr (.inr ⟨c, HC.out, hc39⟩))]
        have HH := Lib.hid hc39
        clear h39 hc39
        go_enter Tryz.func104, Tryz.ntmps104
        go_upto_region 1 with fail
        rw [← HW.out, ← HQ.out]
        clear HW HQ
        go_upto_region 2 with fail
        go_wp2_with (go_at_call 111; refine (HR.out _).mono ?_; rintro e w1 ⟨rfl, rfl⟩)
        refine bodyPost_ret (results_cell3 rfl _ _ q 85 _ _ rfl (tok_set HB.out) Tryz.underlying85 rfl sizePTok (.int .i64 (0)) (.int .i64 13) rfl rfl) rfl ⟨?_, HF.out.new ((Fr.set0 _ q 0 _).trans ((Fr.set0 _ q 1 _).trans (Fr.set0 _ q 2 _) (fun _ z _ => z) (fun _ z _ => z)) (fun _ z _ => z) (fun _ z _ => z)) (fun i hi => by have : i = q := (by simpa using hi); omega)⟩
        rfl
end Go.Proofs.YtgfpkmnmdehkpaaGreat

/-! The program's lexer (layer 12): first. Written by wip/tools/gen_lq.py. -/
namespace Go.Proofs.YtgfpkmnmdehkpaaGreat
open Go.RowKit

/-- A call that hands a token back, its parts told. -/
def TokIs (K : Int) (T : List UInt8) (L : Nat) (E : Int) (w : World) (e : Ending) (w' : World) : Prop := e = .returned (.tuple #[.agg #[.int .i64 K, encStr T, .int .i64 0], .int .i64 (L : Int), .int .i64 E]) ∧ Fr [] w w'
set_option maxRecDepth 100000 in
set_option maxHeartbeats 4000000 in
theorem pfirst_any (c : UInt8) (t : List UInt8) (hm : (c :: t).length ≤ 1000000) (w : World) : Calls Tryz.prog 81 #[encStr (c :: t)] w (FirstOf (nextD c t) w) := by
  have hix := fun wx => run_index_str (P := Tryz.prog) wx 9 (c :: t) 0 0 c Tryz.underlying9 rfl rfl
  have hle := pletter_any c
  have hmk := fun K wx => pmark_any K (c :: t) (by simp) wx
  have hnm := fun wx => pname_at (c :: t) hm wx
  have htm := fun wx => pterm_at c t hm wx
  rw [show (c :: t).take 1 = [c] from rfl] at hmk
  obtain ⟨n, hn⟩ : ∃ n, n = c.toNat := ⟨_, rfl⟩
  rw [← hn] at hix hle
  have HN := Lib.hid hn
  obtain ⟨N, hN⟩ : ∃ N, N = nextD c t := ⟨_, rfl⟩
  rw [← hN]
  have HNX := Lib.hid hN
  obtain ⟨m, hmm⟩ : ∃ m, m = c :: t := ⟨_, rfl⟩
  rw [← hmm] at hix hmk hnm htm ⊢
  have HM := Lib.hid hmm
  have HMK := Lib.hid hmk
  have HNM := Lib.hid hnm
  have HTM := Lib.hid htm
  have HLE := Lib.hid hle
  clear hn hN hmm hmk hnm htm hle hm
  have hb := heap_alloc_new w (.cells #[.int .i64 0, .string { data := #[] }, .int .i64 0] 85)
  have hf := Fr.alloc w (.cells #[.int .i64 0, .string { data := #[] }, .int .i64 0] 85)
  obtain ⟨w0, hw0⟩ : ∃ w0, w0 = w.alloc (.cells #[.int .i64 0, .string { data := #[] }, .int .i64 0] 85) := ⟨_, rfl⟩
  obtain ⟨q, hq⟩ : ∃ q, q = w.heap.size := ⟨_, rfl⟩
  rw [← hw0] at hb hf
  rw [← hq] at hb
  obtain ⟨y0, y1, y2, z0, z1, z2⟩ := three_of_heap hb
  have HB := Lib.hid hb
  have HF := Lib.hid hf
  have HW := Lib.hid hw0
  have HQ := Lib.hid hq
  have hqw : w.heap.size ≤ q := by omega
  clear hb hf hw0 hq
  by_cases hw58 : n = 58
  · have hw := hw58
    have u58 : ((n : Int) == 58) = true := by rw [hw]; rfl
    have hc : c = 58 := toNat_eq (show c.toNat = 58 by rw [← HN.out]; exact hw)
    have hN2 : N = ⟨3, [c], 1, 0⟩ := by rw [HNX.out, hc]; rfl
    have hk0 := fun wx => HMK.out 3 wx
    rw [← hN2] at hk0
    clear hc hN2 hw HNX hw58
    obtain ⟨K, T, L, E⟩ := N
    have HK := Lib.hid (show ∀ wx, Calls Tryz.prog 103 #[.int .i64 3, encStr m] wx (TokIs K T L E wx) from hk0)
    clear hk0
    go_enter Tryz.func81, Tryz.ntmps81
    go_upto_region 1 with fail
    rw [← HW.out, ← HQ.out]
    clear HW HQ
    go_wp2_with (go_at_call 103; refine (HK.out _).mono ?_; rintro e w1 ⟨rfl, hf1⟩; have hb1 := hf1.heap HB.out (by simp); obtain ⟨y0, y1, y2, z0, z1, z2⟩ := three_of_heap hb1; have HB1 := Lib.hid hb1; have HF1 := Lib.hid (HF.out.trans hf1 (by simp) (n := []) (by simp)); clear hb1 hf1)
    refine bodyPost_ret (results_cell3 rfl _ _ q 85 _ _ rfl (tok_set HB1.out) Tryz.underlying85 rfl sizePTok (.int .i64 (L : Int)) (.int .i64 E) rfl rfl) rfl ⟨?_, HF1.out.new ((Fr.set0 _ q 0 _).trans ((Fr.set0 _ q 1 _).trans (Fr.set0 _ q 2 _) (fun _ z _ => z) (fun _ z _ => z)) (fun _ z _ => z) (fun _ z _ => z)) (fun i hi => by have : i = q := (by simpa using hi); omega)⟩
    rfl
  · have HX58 := Lib.hid hw58
    by_cases hw124 : n = 124
    · have hw := hw124
      have u58 : ((n : Int) == 58) = false := by rw [beq_eq_false_iff_ne]; omega
      have u124 : ((n : Int) == 124) = true := by rw [hw]; rfl
      have hc : c = 124 := toNat_eq (show c.toNat = 124 by rw [← HN.out]; exact hw)
      have hN2 : N = ⟨4, [c], 1, 0⟩ := by rw [HNX.out, hc]; rfl
      have hk0 := fun wx => HMK.out 4 wx
      rw [← hN2] at hk0
      clear hc hN2 hw HNX hw58 hw124
      obtain ⟨K, T, L, E⟩ := N
      have HK := Lib.hid (show ∀ wx, Calls Tryz.prog 103 #[.int .i64 4, encStr m] wx (TokIs K T L E wx) from hk0)
      clear hk0
      go_enter Tryz.func81, Tryz.ntmps81
      go_upto_region 1 with fail
      rw [← HW.out, ← HQ.out]
      clear HW HQ
      go_wp2_with (go_at_call 103; refine (HK.out _).mono ?_; rintro e w1 ⟨rfl, hf1⟩; have hb1 := hf1.heap HB.out (by simp); obtain ⟨y0, y1, y2, z0, z1, z2⟩ := three_of_heap hb1; have HB1 := Lib.hid hb1; have HF1 := Lib.hid (HF.out.trans hf1 (by simp) (n := []) (by simp)); clear hb1 hf1)
      refine bodyPost_ret (results_cell3 rfl _ _ q 85 _ _ rfl (tok_set HB1.out) Tryz.underlying85 rfl sizePTok (.int .i64 (L : Int)) (.int .i64 E) rfl rfl) rfl ⟨?_, HF1.out.new ((Fr.set0 _ q 0 _).trans ((Fr.set0 _ q 1 _).trans (Fr.set0 _ q 2 _) (fun _ z _ => z) (fun _ z _ => z)) (fun _ z _ => z) (fun _ z _ => z)) (fun i hi => by have : i = q := (by simpa using hi); omega)⟩
      rfl
    · have HX124 := Lib.hid hw124
      by_cases hw59 : n = 59
      · have hw := hw59
        have u58 : ((n : Int) == 58) = false := by rw [beq_eq_false_iff_ne]; omega
        have u124 : ((n : Int) == 124) = false := by rw [beq_eq_false_iff_ne]; omega
        have u59 : ((n : Int) == 59) = true := by rw [hw]; rfl
        have hc : c = 59 := toNat_eq (show c.toNat = 59 by rw [← HN.out]; exact hw)
        have hN2 : N = ⟨5, [c], 1, 0⟩ := by rw [HNX.out, hc]; rfl
        have hk0 := fun wx => HMK.out 5 wx
        rw [← hN2] at hk0
        clear hc hN2 hw HNX hw58 hw124 hw59
        obtain ⟨K, T, L, E⟩ := N
        have HK := Lib.hid (show ∀ wx, Calls Tryz.prog 103 #[.int .i64 5, encStr m] wx (TokIs K T L E wx) from hk0)
        clear hk0
        go_enter Tryz.func81, Tryz.ntmps81
        go_upto_region 1 with fail
        rw [← HW.out, ← HQ.out]
        clear HW HQ
        go_wp2_with (go_at_call 103; refine (HK.out _).mono ?_; rintro e w1 ⟨rfl, hf1⟩; have hb1 := hf1.heap HB.out (by simp); obtain ⟨y0, y1, y2, z0, z1, z2⟩ := three_of_heap hb1; have HB1 := Lib.hid hb1; have HF1 := Lib.hid (HF.out.trans hf1 (by simp) (n := []) (by simp)); clear hb1 hf1)
        refine bodyPost_ret (results_cell3 rfl _ _ q 85 _ _ rfl (tok_set HB1.out) Tryz.underlying85 rfl sizePTok (.int .i64 (L : Int)) (.int .i64 E) rfl rfl) rfl ⟨?_, HF1.out.new ((Fr.set0 _ q 0 _).trans ((Fr.set0 _ q 1 _).trans (Fr.set0 _ q 2 _) (fun _ z _ => z) (fun _ z _ => z)) (fun _ z _ => z) (fun _ z _ => z)) (fun i hi => by have : i = q := (by simpa using hi); omega)⟩
        rfl
      · have HX59 := Lib.hid hw59
        by_cases hw : n = 39
        · have u58 : ((n : Int) == 58) = false := by rw [beq_eq_false_iff_ne]; omega
          have u124 : ((n : Int) == 124) = false := by rw [beq_eq_false_iff_ne]; omega
          have u59 : ((n : Int) == 59) = false := by rw [beq_eq_false_iff_ne]; omega
          have u39 : ((n : Int) == 39) = true := by rw [hw]; rfl
          have hc : c = 39 := toNat_eq (show c.toNat = 39 by rw [← HN.out]; exact hw)
          have hN2 : N = termD t := by rw [HNX.out, hc]; rfl
          have hk0 := fun wx => HTM.out wx
          rw [← hN2] at hk0
          clear hc hN2 hw HNX hw58 hw124 hw59
          obtain ⟨K, T, L, E⟩ := N
          have HK := Lib.hid (show ∀ wx, Calls Tryz.prog 104 #[encStr m] wx (TokIs K T L E wx) from hk0)
          clear hk0
          go_enter Tryz.func81, Tryz.ntmps81
          go_upto_region 1 with fail
          rw [← HW.out, ← HQ.out]
          clear HW HQ
          go_wp2_with (go_at_call 104; refine (HK.out _).mono ?_; rintro e w1 ⟨rfl, hf1⟩; have hb1 := hf1.heap HB.out (by simp); obtain ⟨y0, y1, y2, z0, z1, z2⟩ := three_of_heap hb1; have HB1 := Lib.hid hb1; have HF1 := Lib.hid (HF.out.trans hf1 (by simp) (n := []) (by simp)); clear hb1 hf1)
          refine bodyPost_ret (results_cell3 rfl _ _ q 85 _ _ rfl (tok_set HB1.out) Tryz.underlying85 rfl sizePTok (.int .i64 (L : Int)) (.int .i64 E) rfl rfl) rfl ⟨?_, HF1.out.new ((Fr.set0 _ q 0 _).trans ((Fr.set0 _ q 1 _).trans (Fr.set0 _ q 2 _) (fun _ z _ => z) (fun _ z _ => z)) (fun _ z _ => z) (fun _ z _ => z)) (fun i hi => by have : i = q := (by simpa using hi); omega)⟩
          rfl
        · have u58 : ((n : Int) == 58) = false := by rw [beq_eq_false_iff_ne]; omega
          have u124 : ((n : Int) == 124) = false := by rw [beq_eq_false_iff_ne]; omega
          have u59 : ((n : Int) == 59) = false := by rw [beq_eq_false_iff_ne]; omega
          have u39 : ((n : Int) == 39) = false := by rw [beq_eq_false_iff_ne]; omega
          obtain ⟨l, hl⟩ : ∃ l, l = letterB c := ⟨_, rfl⟩
          rw [← hl] at HLE
          cases l with
          | true =>
            have hN2 : N = (if 32 < (m.takeWhile moreB).length then noneD 19 else ⟨1, m.takeWhile moreB, (m.takeWhile moreB).length, 0⟩) := by rw [HNX.out, HM.out]; exact next_letter t hl.symm
            have hk0 := fun wx => HNM.out wx
            rw [← hN2] at hk0
            have HL := Lib.hid hl
            clear hN2 hw HNX hl hw58 hw124 hw59
            obtain ⟨K, T, L, E⟩ := N
            have HK := Lib.hid (show ∀ wx, Calls Tryz.prog 105 #[encStr m] wx (TokIs K T L E wx) from hk0)
            clear hk0
            go_enter Tryz.func81, Tryz.ntmps81
            go_upto_region 1 with fail
            rw [← HW.out, ← HQ.out]
            clear HW HQ
            go_wp2_with (first | (go_at_call 85; refine (HLE.out _).mono ?_; rintro e w2 ⟨rfl, rfl⟩) | (go_at_call 105; refine (HK.out _).mono ?_; rintro e w1 ⟨rfl, hf1⟩; have hb1 := hf1.heap HB.out (by simp); obtain ⟨y0, y1, y2, z0, z1, z2⟩ := three_of_heap hb1; have HB1 := Lib.hid hb1; have HF1 := Lib.hid (HF.out.trans hf1 (by simp) (n := []) (by simp)); clear hb1 hf1))
            refine bodyPost_ret (results_cell3 rfl _ _ q 85 _ _ rfl (tok_set HB1.out) Tryz.underlying85 rfl sizePTok (.int .i64 (L : Int)) (.int .i64 E) rfl rfl) rfl ⟨?_, HF1.out.new ((Fr.set0 _ q 0 _).trans ((Fr.set0 _ q 1 _).trans (Fr.set0 _ q 2 _) (fun _ z _ => z) (fun _ z _ => z)) (fun _ z _ => z) (fun _ z _ => z)) (fun i hi => by have : i = q := (by simpa using hi); omega)⟩
            rfl
          | false =>
            have hN2 : N = noneD 13 := by
              rw [HNX.out]
              unfold nextD
              have g : ∀ k : Nat, k < 256 → n ≠ k → c ≠ UInt8.ofNat k := fun k hk h e => h (by rw [HN.out, e]; simp; omega)
              rw [if_neg (show ¬ c = 58 from g 58 (by omega) (by omega)), if_neg (show ¬ c = 124 from g 124 (by omega) (by omega)), if_neg (show ¬ c = 59 from g 59 (by omega) (by omega)), if_neg (by rw [← hl]; simp), if_neg (show ¬ c = 39 from g 39 (by omega) hw)]
            have HN2 := Lib.hid hN2
            have HL := Lib.hid hl
            clear hN2 hw HNX hl hw58 hw124 hw59
            go_enter Tryz.func81, Tryz.ntmps81
            go_upto_region 1 with fail
            rw [← HW.out, ← HQ.out]
            clear HW HQ
            go_wp2_with (go_at_call 85; refine (HLE.out _).mono ?_; rintro e w2 ⟨rfl, rfl⟩)
            refine bodyPost_ret (results_cell3 rfl _ _ q 85 _ _ rfl (tok_set HB.out) Tryz.underlying85 rfl sizePTok (.int .i64 0) (.int .i64 13) rfl rfl) rfl ⟨?_, HF.out.new ((Fr.set0 _ q 0 _).trans ((Fr.set0 _ q 1 _).trans (Fr.set0 _ q 2 _) (fun _ z _ => z) (fun _ z _ => z)) (fun _ z _ => z) (fun _ z _ => z)) (fun i hi => by have : i = q := (by simpa using hi); omega)⟩
            rw [HN2.out]; rfl
end Go.Proofs.YtgfpkmnmdehkpaaGreat

/-! The program's lexer (layer 12): All does what the document's does. -/
namespace Go.Proofs.YtgfpkmnmdehkpaaGreat
open Go.RowKit

theorem infoPTok : (Tryz.prog.info? 85).map (fun i => (i.zero, i.size, i.bytes)) = some (some (.agg #[.int .i64 0, .string { data := #[] }, .int .i64 0]), 3, 32) := by kernel_rfl
def PAllRel (w : World) (m : List UInt8) (R : LexD) (ov iv : Value) (wx : World) : Prop :=
  ∃ (k : Nat) (acc : List TokD), k ≤ m.length ∧ acc.length ≤ k ∧ iv = .int .i64 (k : Int) ∧ wx.ownsRow w.heap.size 85 3 ov acc.length (acc.map TokD.cells).flatten ∧ behindD acc (lexD (m.drop k) k) = R ∧ (∀ c, m[k]? = some c → blankB c = false ∧ c ≠ 35) ∧ Fr [] w wx
set_option maxRecDepth 100000 in
set_option maxHeartbeats 4000000 in
theorem pall_any (m : List UInt8) (hm : m.length ≤ 1000000) (w : World) : Calls Tryz.prog 46 #[encStr m] w (RAll (allD m) w) := by
  obtain ⟨i0, hi, hz0, hz1, hz2⟩ := info_parts infoPTok
  obtain ⟨R, hR⟩ : ∃ R, R = allD m := ⟨_, rfl⟩
  rw [← hR]
  by_cases hbig : 65536 < m.length
  · have hdb : decide (65536 < (m.length : Int)) = true := decide_eq_true (by omega)
    have HR := Lib.hid (show R = ⟨[], 0, 19⟩ by rw [hR]; unfold allD; rw [if_pos hbig])
    clear hR hbig
    go_enter Tryz.func46, Tryz.ntmps46
    go_wp2_with fail
    go_ret3
    refine ⟨.slice none 0 0, by rw [HR.out]; rfl, ?_, Fr.refl _ _⟩
    rw [HR.out]
    exact .inl ⟨_, _, rfl, by simp, rfl⟩
  · have hdb : decide (65536 < (m.length : Int)) = false := decide_eq_false (by omega)
    have hR2 : R = lexD m 0 := by rw [hR]; unfold allD; rw [if_neg hbig]
    have hstart : behindD [] (lexD (m.drop 0) 0) = R := by
      rw [hR2, List.drop_zero]
      unfold behindD
      split
      · next h => rw [List.nil_append]; have := lex_ok h; cases hx : lexD m 0; rw [hx] at h this; simp at h this; rw [h, this]
      · rfl
    have HST := Lib.hid hstart
    have HSK := Lib.hid (fun wx => pskip_any m hm 0 (Nat.zero_le _) wx)
    clear hR hbig hR2 hstart
    go_enter Tryz.func46, Tryz.ntmps46
    go_wp2_with (go_at_call 80; refine (HSK.out _).mono ?_; rintro e w1 ⟨k0, rfl, hs0, hn0, rfl⟩)
    have HS0 := Lib.hid hs0
    have HN0 := Lib.hid hn0
    clear hs0 hn0
    go_loopw [5, 6] (PAllRel _ m R) (fun _ iv _ => m.length - (intOf iv).toNat)
    case atStart => exact ⟨k0, [], HS0.out.2.1, Nat.zero_le _, rfl, World.ownsRow_nil _ _ _ _, by rw [HS0.out.2.2]; exact HST.out, HN0.out, Fr.refl _ _⟩
    case round =>
      clear HS0 HN0
      obtain ⟨k, acc, hk, hac, rfl, hrow, hbh, hfree, hf⟩ := hrel
      have HROW := Lib.hid hrow
      have HBH := Lib.hid hbh
      have HF := Lib.hid hf
      have HFR := Lib.hid hfree
      clear hrow hbh hf hfree
      by_cases hkn : k < m.length
      · have hd3 : decide (k < m.length) = true := decide_eq_true hkn
        obtain ⟨c, hc⟩ : ∃ c, m[k]? = some c := ⟨m[k]'hkn, List.getElem?_eq_getElem _⟩
        have hdr : m.drop k = c :: m.drop (k + 1) := by
          rw [List.drop_eq_getElem_cons hkn]
          rw [List.getElem?_eq_getElem hkn] at hc
          rw [Option.some.inj hc]
        obtain ⟨hbl, hc35⟩ := HFR.out c hc
        have hnx := fun wx => pfirst_any c (m.drop (k + 1)) (by rw [← hdr, List.length_drop]; omega) wx
        have hsl := fun wx => run_slice_from (P := Tryz.prog) wx 9 m .i64 k Tryz.underlying9 hk
        rw [← hdr] at hnx
        have HDR := Lib.hid hdr
        obtain ⟨N, hN⟩ : ∃ N, N = nextD c (m.drop (k + 1)) := ⟨_, rfl⟩
        rw [← hN] at hnx
        by_cases he : N.err = 0
        · have hps := next_pos (c := c) (t := m.drop (k + 1)) (by rw [← hN]; exact he)
          rw [← hN, List.length_cons, List.length_drop] at hps
          have hbb : behindD (acc ++ [⟨N.kind, N.text, k⟩]) (lexD (m.drop (k + N.n)) (k + N.n)) = R := by
            rw [← HBH.out, HDR.out, lex_tok _ _ hbl hc35 (by rw [← hN]; exact he), behind_cons, ← hN, ← HDR.out, List.drop_drop]
          have HBB := Lib.hid hbb
          obtain ⟨K, T, s, E⟩ := N
          obtain rfl : E = 0 := he
          have HNX := Lib.hid (show ∀ wx, Calls Tryz.prog 81 #[encStr (m.drop k)] wx (TokIs K T s 0 wx) from hnx)
          obtain ⟨hp1, hp2⟩ := hps
          have HP1 := Lib.hid hp1
          have hp3 : k + s ≤ m.length := by simp only at hp2; omega
          have HP3 := Lib.hid hp3
          have hsk2 : ∀ wx, Calls Tryz.prog 80 #[encStr m, .int .i64 ((k : Int) + (s : Int))] wx (Skipped m (k + s) wx) := fun wx => by
            have h := pskip_any m hm (k + s) hp3 wx
            rw [show ((k + s : Nat) : Int) = (k : Int) + (s : Int) from by omega] at h
            exact h
          have HSK2 := Lib.hid hsk2
          clear hsk2
          clear hc35 hnx hN hbb hbl hdr hc hp1 hp2
          go_upto_region 7 with (go_at_call 81; refine (HNX.out _).mono ?_; rintro e w1 ⟨rfl, hf1⟩; have HF1 := Lib.hid (HF.out.trans hf1 (by simp) (n := []) (by simp)); have HR1 := Lib.hid (owns_kept HROW.out hf1 (by simp)); clear hf1)
          have hfa := Fr.alloc w1 (.cells #[.int .i64 K, .string { data := T.toArray }, .int .i64 0] 85)
          have hba := heap_alloc_new w1 (.cells #[.int .i64 K, .string { data := T.toArray }, .int .i64 0] 85)
          obtain ⟨w2, hw2⟩ : ∃ w2, w2 = w1.alloc (.cells #[.int .i64 K, .string { data := T.toArray }, .int .i64 0] 85) := ⟨_, rfl⟩
          obtain ⟨q, hq⟩ : ∃ q, q = w1.heap.size := ⟨_, rfl⟩
          rw [← hw2] at hfa hba ⊢
          rw [← hq] at hba ⊢
          obtain ⟨y0, y1, y2, z0, z1, z2⟩ := three_of_heap hba
          have HR2 : Hid (w2.ownsRow w.heap.size 85 3 _ acc.length (acc.map TokD.cells).flatten) := Lib.hid (owns_kept HR1.out hfa (by simp))
          have HF2 := Lib.hid (HF1.out.trans hfa (by simp) (n := []) (by simp))
          have hqw : w.heap.size ≤ q := by rw [hq]; exact HF1.out.size
          have hnq : ∀ i, Value.ownBlock _ = some i → i ∉ [q] := fun i h => by have := (HR1.out.lt i h).2; simp; omega
          have HNQ := Lib.hid hnq
          have HBA := Lib.hid hba
          clear hw2 hq hfa hba hnq
          go_upto_region 10 with fail
          have hfs := Fr.set0 w2 q 2 (.int .i64 (k : Int))
          have hbs : (w2.setCell ⟨q, 2, none⟩ (.int .i64 (k : Int))).heap[q]? = some (.cells #[.int .i64 K, .string { data := T.toArray }, .int .i64 (k : Int)] 85 (0, 0)) := heap_setCell_same HBA.out (i := 2) _
          obtain ⟨w3, hw3⟩ : ∃ w3, w3 = w2.setCell ⟨q, 2, none⟩ (.int .i64 (k : Int)) := ⟨_, rfl⟩
          rw [← hw3] at hfs hbs ⊢
          have HR3 : Hid (w3.ownsRow w.heap.size 85 3 _ acc.length (acc.map TokD.cells).flatten) := Lib.hid (owns_kept HR2.out hfs HNQ.out)
          have HF3 := Lib.hid (HF2.out.new hfs (fun i hi => by have : i = q := (by simpa using hi); omega))
          have hws := HF3.out.size
          clear y0 y1 y2 z0 z1 z2 HBA hfs
          obtain ⟨y0, y1, y2, z0, z1, z2⟩ := three_of_heap hbs
          clear hw3 hbs
          go_upto_region 11 with (at_builtin; refine wpL_appendS rfl _ _ 78 rfl w.heap.size 85 i0 _ 3 32 Tryz.underlying78 hi hz0 hz1 hz2 (by rfl) (by decide) _ _ _ rfl HR3.out (TokD.cells ⟨K, T, k⟩) rfl (by intro u hu; simp [TokD.cells] at hu; rcases hu with rfl | rfl | rfl <;> rfl) rfl (by omega) (by simp [maxLen]; omega) hws ?_; intro v5 w5 hown5 hf5 hb5)
          have hf3 := (Fr.alloc w3 (.cells (TokD.cells ⟨K, T, k⟩).toArray 85)).trans hf5 (by simp) (fun _ hk _ => hk)
          have HF6 := Lib.hid (HF3.out.own HR3.out hf3)
          have HOWN := Lib.hid hown5
          clear hf3 hf5 hb5 hown5
          go_wp2_with (go_at_call 80; refine (HSK2.out _).mono ?_; rintro e w6 ⟨k2, rfl, hs2, hn2, rfl⟩)
          refine ⟨⟨k2, acc ++ [⟨K, T, k⟩], hs2.2.1, by simp; have := hs2.1; have := HP1.out; omega, rfl, by simpa using HOWN.out, by rw [hs2.2.2]; exact HBB.out, hn2, HF6.out⟩, by have := hs2.1; have := HP1.out; have := hs2.2.1; simp [intOf]; omega⟩
        · have hbb : R = ⟨[], k, N.err⟩ := by rw [← HBH.out, HDR.out, lex_err _ _ hbl hc35 (by rw [← hN]; exact he), ← hN, behind_err he]
          have HBB := Lib.hid hbb
          obtain ⟨K, T, s, E⟩ := N
          have HNX := Lib.hid (show ∀ wx, Calls Tryz.prog 81 #[encStr (m.drop k)] wx (TokIs K T s E wx) from hnx)
          have he' : E ≠ 0 := he
          have hee : (E == 0) = false := by rw [beq_eq_false_iff_ne]; exact he'
          have hen : (E != 0) = true := by rw [bne_iff_ne]; exact he'
          clear hc35 hnx he he' hN hbb hbl hdr hc
          go_wp2_with (go_at_call 81; refine (HNX.out _).mono ?_; rintro e w1 ⟨rfl, hf1⟩)
          go_ret3
          refine ⟨.slice none 0 0, by rw [HBB.out]; rfl, ?_, (HF.out.trans hf1 (by simp) (n := []) (by simp)).trans (Fr.alloc _ _) (by simp) (by simp)⟩
          rw [HBB.out]
          exact .inl ⟨_, _, rfl, by simp, rfl⟩
      · have hd3 : decide (k < m.length) = false := decide_eq_false hkn
        obtain rfl : k = m.length := by omega
        have HRR := Lib.hid (show R = ⟨acc, 0, 0⟩ by rw [← HBH.out, List.drop_length, lex_nil]; simp [behindD])
        obtain ⟨a0, c0, rfl, -, -⟩ := owns_slice HROW.out
        go_wp2_with fail
        go_ret3
        refine ⟨.slice a0 acc.length c0, by rw [HRR.out]; rfl, ?_, HF.out⟩
        rw [HRR.out]
        exact elems_of_owns (xs := acc.map TokD.cells) (by rw [List.length_map]; exact HROW.out) (fun x hx => by obtain ⟨f, _, rfl⟩ := List.mem_map.1 hx; rfl)
theorem prog_all : ProgAll := fun m w hm => pall_any m hm w
end Go.Proofs.YtgfpkmnmdehkpaaGreat
