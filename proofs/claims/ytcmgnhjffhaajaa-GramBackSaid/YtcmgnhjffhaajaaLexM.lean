/- The program's lexer (layer 12): strings.IndexByte, comment. -/
import Derived.Test.YtcmgnhjffhaajaaLexK
import Derived.Lib.Bytealg
import Derived.Laws.Externs
namespace Go.Proofs.Ytcmgnhjffhaajaa
open Go.RowKit

/-- Not a line feed. -/
abbrev noLf (c : UInt8) : Bool := !decide (c = 10)
theorem idx_lf : ∀ l : List UInt8, (Lib.indexByte l 10 = -1 ∧ (l.takeWhile noLf).length = l.length) ∨ Lib.indexByte l 10 = ((l.takeWhile noLf).length : Int)
  | [] => .inl ⟨rfl, rfl⟩
  | c :: t => by
    by_cases h : c = 10
    · subst h; right; rfl
    · have hb : (c == 10) = false := by rw [beq_eq_false_iff_ne]; exact h
      have hc : noLf c = true := by simp [noLf, h]
      rw [List.takeWhile_cons, if_pos hc]
      unfold Lib.indexByte
      rw [hb]
      simp only [Bool.false_eq_true, if_false, List.length_cons]
      rcases idx_lf t with ⟨h1, h2⟩ | h1
      · left
        rw [h1, h2]
        exact ⟨rfl, rfl⟩
      · right
        rw [h1, if_neg (by rw [beq_iff_eq]; omega)]
        omega
set_option maxRecDepth 100000 in
theorem plite_any (m : List UInt8) (w : World) : Calls Try.prog 86 #[encStr m, .int .u8 10] w fun e w' => e = .returned (.int .i64 (Lib.indexByte m 10)) ∧ w = w' := by
  go_enter Try.func86, Try.ntmps86
  go_wp2
  rw [run_callFunc_extern (f := 87) Try.func87 (by kernel_rfl) (by kernel_rfl) (by kernel_rfl) (e := Extern.BytealgIndexByte.indexByte) (by kernel_rfl), show encStr m = .string ⟨m.toArray⟩ from rfl, Lib.run_indexByteString]
  simp only [Result.andThen]
  rw [Oper.upon_value]
  go_wp2
  go_ret
  exact ⟨rfl, rfl⟩
set_option maxRecDepth 100000 in
theorem pindex_any (m : List UInt8) (w : World) : Calls Try.prog 83 #[encStr m, .int .u8 10] w fun e w' => e = .returned (.int .i64 (Lib.indexByte m 10)) ∧ w = w' := by
  have HP := Lib.hid (plite_any m)
  go_enter Try.func83, Try.ntmps83
  go_wp2_with (go_at_call 86; refine (HP.out _).mono ?_; rintro e w1 ⟨rfl, rfl⟩)
  go_ret
  exact ⟨rfl, rfl⟩
set_option maxRecDepth 100000 in
set_option maxHeartbeats 1000000 in
theorem pcomment_any (m : List UInt8) (hm : m.length ≤ maxLen) (w : World) : Calls Try.prog 72 #[encStr m] w fun e w' => e = .returned (.int .i64 ((m.takeWhile noLf).length : Int)) ∧ w = w' := by
  have hm' : m.length ≤ 9223372036854775807 := by simpa [maxLen] using hm
  have hp := pindex_any m
  rcases idx_lf m with ⟨h1, h2⟩ | h1
  · rw [h1] at hp
    have HP := Lib.hid hp
    rw [h2]
    clear hp h1 h2 hm
    go_enter Try.func72, Try.ntmps72
    go_wp2_with (go_at_call 83; refine (HP.out _).mono ?_; rintro e w1 ⟨rfl, rfl⟩)
    go_ret
    exact ⟨rfl, rfl⟩
  · rw [h1] at hp
    have hle := takeWhile_le noLf m
    obtain ⟨n, hn⟩ : ∃ n, n = (m.takeWhile noLf).length := ⟨_, rfl⟩
    rw [← hn] at hp hle ⊢
    have HP := Lib.hid hp
    clear hp h1 hm hn
    go_enter Try.func72, Try.ntmps72
    go_wp2_with (go_at_call 83; refine (HP.out _).mono ?_; rintro e w1 ⟨rfl, rfl⟩)
    go_ret
    exact ⟨rfl, rfl⟩
end Go.Proofs.Ytcmgnhjffhaajaa
