/- The program's lexer (layer 12): skip. -/
import Derived.Test.YtcmgnhjffhaajaaLexM
import Derived.Test.YtcmgnhjffhaajaaLexEs
import Derived.WalkMore
namespace Go.Proofs.Ytcmgnhjffhaajaa
open Go.RowKit

/-- 's[l:]' of a string. -/
theorem run_slice_from {P : Program} (w : World) (t : TypeId) (s : List UInt8) (kl : IntKind) (l : Nat) (ht : P.underlying t = some .string) (h1 : l ≤ s.length) :
    (Instr.slice t (.string ⟨s.toArray⟩) (some (.int kl l)) none none).run P w = .ok (.string ⟨(s.drop l).toArray⟩) w := by
  have hz : (ByteArray.mk s.toArray).size = s.length := by simp [ByteArray.size]
  have e := extract_mk s l s.length
  rw [List.take_length] at e
  simp [Instr.slice, run_underlying ht, Instr.sliceBounds, run_sliceBound, hz, h1, e]
/-- 's[:h]' of a string. -/
theorem run_slice_to {P : Program} (w : World) (t : TypeId) (s : List UInt8) (kh : IntKind) (h : Nat) (ht : P.underlying t = some .string) (h2 : h ≤ s.length) :
    (Instr.slice t (.string ⟨s.toArray⟩) none (some (.int kh h)) none).run P w = .ok (.string ⟨(s.take h).toArray⟩) w := by
  have hz : (ByteArray.mk s.toArray).size = s.length := by simp [ByteArray.size]
  have e := extract_mk s 0 h
  rw [List.drop_zero] at e
  simp [Instr.slice, run_underlying ht, Instr.sliceBounds, run_sliceBound, hz, h2, e]
/-- Behind the separators that begin at a. -/
def SkipOf (m : List UInt8) (a k : Nat) : Prop := a ≤ k ∧ k ≤ m.length ∧ lexD (m.drop k) k = lexD (m.drop a) a
theorem SkipOf.blank {m : List UInt8} {a k : Nat} {c : UInt8} (h : SkipOf m a k) (hk : k < m.length) (hc : m[k]? = some c) (hb : blankB c = true) : SkipOf m a (k + 1) := by
  refine ⟨by have := h.1; omega, by omega, ?_⟩
  rw [← h.2.2, List.drop_eq_getElem_cons hk]
  rw [List.getElem?_eq_getElem hk] at hc
  rw [Option.some.inj hc, lex_blank _ _ hb]
theorem drop_noLf (t : List UInt8) : t.drop (t.takeWhile noLf).length = restC t := by
  have h := List.takeWhile_append_dropWhile (p := noLf) (l := t)
  unfold restC
  exact (congrArg (List.drop (t.takeWhile noLf).length) h.symm).trans (by rw [List.drop_left])
theorem SkipOf.note {m : List UInt8} {a k : Nat} (h : SkipOf m a k) (hk : k < m.length) (hc : m[k]? = some 35) : 1 ≤ ((m.drop k).takeWhile noLf).length ∧ SkipOf m a (k + ((m.drop k).takeWhile noLf).length) := by
  have hd : m.drop k = 35 :: m.drop (k + 1) := by
    rw [List.getElem?_eq_getElem hk] at hc
    rw [List.drop_eq_getElem_cons hk, Option.some.inj hc]
  have h1 : ((m.drop k).takeWhile noLf).length = ((m.drop (k + 1)).takeWhile noLf).length + 1 := by
    rw [hd, List.takeWhile_cons, if_pos (by rfl), List.length_cons]
  have hle := takeWhile_le noLf (m.drop (k + 1))
  rw [List.length_drop] at hle
  have hr := restC_le (m.drop (k + 1))
  refine ⟨by omega, by have := h.1; omega, by omega, ?_⟩
  rw [← h.2.2, h1, hd, lex_note, ← drop_noLf, List.drop_drop, List.length_drop, List.length_drop]
  congr 1
  · congr 1; omega
  · omega
/-- What skip returns. -/
def Skipped (m : List UInt8) (a : Nat) (w : World) (e : Ending) (w' : World) : Prop := ∃ k : Nat, e = .returned (.int .i64 (k : Int)) ∧ SkipOf m a k ∧ (∀ c, m[k]? = some c → blankB c = false ∧ c ≠ 35) ∧ w = w'
def SkipRel (w : World) (m : List UInt8) (a : Nat) (iv : Value) (wx : World) : Prop := ∃ k : Nat, iv = .int .i64 (k : Int) ∧ SkipOf m a k ∧ w = wx
set_option maxRecDepth 100000 in
set_option maxHeartbeats 2000000 in
theorem pskip_any (m : List UInt8) (hm : m.length ≤ 1000000) (a : Nat) (ha : a ≤ m.length) (w : World) : Calls Try.prog 58 #[encStr m, .int .i64 (a : Int)] w (Skipped m a w) := by
  go_enter Try.func58, Try.ntmps58
  go_wp2_with fail
  go_loopw [1] (SkipRel w m a) (fun iv _ => m.length - (intOf iv).toNat)
  case atStart => exact ⟨a, rfl, ⟨Nat.le_refl _, ha, rfl⟩, rfl⟩
  case round =>
    obtain ⟨k, rfl, hs, rfl⟩ := hrel
    have hk := hs.2.1
    have hak := hs.1
    have HS := Lib.hid hs
    clear hs
    by_cases hkn : k < m.length
    · have hd3 : decide (k < m.length) = true := decide_eq_true hkn
      obtain ⟨c, hc⟩ : ∃ c, m[k]? = some c := ⟨m[k]'hkn, List.getElem?_eq_getElem _⟩
      have hix := fun wx => run_index_str (P := Try.prog) wx 9 m (k : Int) k c Try.underlying9 rfl hc
      have HC := Lib.hid hc
      clear hc
      obtain ⟨n, hn⟩ : ∃ n, n = c.toNat := ⟨_, rfl⟩
      rw [← hn] at hix
      have HN := Lib.hid hn
      clear hn
      by_cases hbl : blankB c = true
      · have hnx := HS.out.blank hkn HC.out hbl
        have HNX := Lib.hid hnx
        have b35 : ((n : Int) == 35) = false := by
          rw [beq_eq_false_iff_ne]
          intro e
          have : c = 35 := toNat_eq (show c.toNat = 35 by rw [← HN.out]; omega)
          rw [this] at hbl
          exact absurd hbl (by decide)
        have hw : n = 32 ∨ n = 9 ∨ n = 10 ∨ n = 13 := by
          rw [HN.out]
          unfold blankB at hbl
          simpa [or_assoc] using hbl
        clear hbl hnx
        rcases hw with hw | hw | hw | hw
        · have b32 : ((n : Int) == 32) = true := by rw [hw]; rfl
          clear hw
          go_wp2_with fail
          exact ⟨⟨k + 1, by go_num, HNX.out, rfl⟩, by simp [intOf]; omega⟩
        · have b32 : ((n : Int) == 32) = false := by rw [beq_eq_false_iff_ne]; omega
          have b9 : ((n : Int) == 9) = true := by rw [hw]; rfl
          clear hw
          go_wp2_with fail
          exact ⟨⟨k + 1, by go_num, HNX.out, rfl⟩, by simp [intOf]; omega⟩
        · have b32 : ((n : Int) == 32) = false := by rw [beq_eq_false_iff_ne]; omega
          have b9 : ((n : Int) == 9) = false := by rw [beq_eq_false_iff_ne]; omega
          have b10 : ((n : Int) == 10) = true := by rw [hw]; rfl
          clear hw
          go_wp2_with fail
          exact ⟨⟨k + 1, by go_num, HNX.out, rfl⟩, by simp [intOf]; omega⟩
        · have b32 : ((n : Int) == 32) = false := by rw [beq_eq_false_iff_ne]; omega
          have b9 : ((n : Int) == 9) = false := by rw [beq_eq_false_iff_ne]; omega
          have b10 : ((n : Int) == 10) = false := by rw [beq_eq_false_iff_ne]; omega
          have b13 : ((n : Int) == 13) = true := by rw [hw]; rfl
          clear hw
          go_wp2_with fail
          exact ⟨⟨k + 1, by go_num, HNX.out, rfl⟩, by simp [intOf]; omega⟩
      · have HBL := Lib.hid (show blankB c = false by simpa using hbl)
        have hnb : n ≠ 32 ∧ n ≠ 9 ∧ n ≠ 10 ∧ n ≠ 13 := by
          have := HBL.out
          unfold blankB at this
          rw [← HN.out] at this
          simp at this
          omega
        have b32 : ((n : Int) == 32) = false := by rw [beq_eq_false_iff_ne]; omega
        have b9 : ((n : Int) == 9) = false := by rw [beq_eq_false_iff_ne]; omega
        have b10 : ((n : Int) == 10) = false := by rw [beq_eq_false_iff_ne]; omega
        have b13 : ((n : Int) == 13) = false := by rw [beq_eq_false_iff_ne]; omega
        clear hbl hnb
        by_cases h35 : n = 35
        · have b35 : ((n : Int) == 35) = true := by rw [h35]; rfl
          have hc35 : c = 35 := toNat_eq (show c.toNat = 35 by rw [← HN.out]; exact h35)
          obtain ⟨hp, hnx⟩ := HS.out.note hkn (by rw [HC.out, hc35])
          have hcm := pcomment_any (m.drop k) (by rw [List.length_drop]; simp [maxLen]; omega)
          have hsl := fun wx => run_slice_from (P := Try.prog) wx 9 m .i64 k Try.underlying9 hk
          obtain ⟨q, hq⟩ : ∃ q, q = ((m.drop k).takeWhile noLf).length := ⟨_, rfl⟩
          rw [← hq] at hp hnx hcm
          have hkq := hnx.2.1
          have HNX := Lib.hid hnx
          have HCM := Lib.hid hcm
          clear h35 hc35 hq hnx hcm
          go_wp2_with (go_at_call 72; refine (HCM.out _).mono ?_; rintro e w1 ⟨rfl, rfl⟩)
          refine ⟨⟨k + q, ?_, HNX.out, rfl⟩, ?_⟩
          · go_num
          · simp [intOf]; omega
        · have b35 : ((n : Int) == 35) = false := by rw [beq_eq_false_iff_ne]; omega
          have hc35 : c ≠ 35 := fun e => h35 (by rw [HN.out, e]; rfl)
          have HH := Lib.hid hc35
          clear h35 hc35
          go_wp2_with fail
          go_ret
          exact ⟨k, rfl, HS.out, fun d hd => by rw [HC.out] at hd; rw [← Option.some.inj hd]; exact ⟨HBL.out, HH.out⟩, rfl⟩
    · have hd3 : decide (k < m.length) = false := decide_eq_false hkn
      have hnn : m[k]? = none := List.getElem?_eq_none (by omega)
      have HNN := Lib.hid hnn
      clear hnn
      go_wp2_with fail
      go_ret
      exact ⟨k, rfl, HS.out, (fun d hd => by rw [HNN.out] at hd; cases hd), rfl⟩
end Go.Proofs.Ytcmgnhjffhaajaa
