/- The lexer by counted steps, and what it gives of the chapter's examples (layer 12): plain mathematics. -/
import Derived.Test.YtboljohhkfidfaaLexMath
namespace Go.Proofs.Ytboljohhkfidfaa

/-- lexD, by steps that are counted. -/
def lexF : Nat → List UInt8 → Nat → LexD
  | 0, _, _ => ⟨[], 0, 0⟩
  | _ + 1, [], _ => ⟨[], 0, 0⟩
  | k + 1, c :: t, p =>
    if blankB c then lexF k t (p + 1)
    else if c = 35 then lexF k (restC t) (p + 1 + (t.length - (restC t).length))
    else if (nextD c t).err ≠ 0 then ⟨[], p, (nextD c t).err⟩
    else consD ⟨(nextD c t).kind, (nextD c t).text, p⟩ (lexF k (t.drop ((nextD c t).n - 1)) (p + (nextD c t).n))
theorem lex_steps : ∀ (k : Nat) (r : List UInt8) (p : Nat), r.length ≤ k → lexD r p = lexF k r p
  | 0, [], p, _ => by rw [lex_nil]; rfl
  | 0, _ :: _, _, h => by simp at h
  | k + 1, [], p, _ => by rw [lex_nil]; rfl
  | k + 1, c :: t, p, h => by
    have ht : t.length ≤ k := by simpa using h
    have h1 := lex_steps k t (p + 1) ht
    have h2 := lex_steps k (restC t) (p + 1 + (t.length - (restC t).length)) (Nat.le_trans (restC_le t) ht)
    have h3 := lex_steps k (t.drop ((nextD c t).n - 1)) (p + (nextD c t).n) (by rw [List.length_drop]; omega)
    rw [lexD, h1, h2, h3]
    rfl
theorem aw_one : allD [83, 32, 58, 32, 39, 97, 39, 32, 83, 32, 124, 32, 59] = ⟨[⟨1, [83], 0⟩, ⟨3, [58], 2⟩, ⟨2, [97], 4⟩, ⟨1, [83], 8⟩, ⟨4, [124], 10⟩, ⟨5, [59], 12⟩], 0, 0⟩ := by
  unfold allD
  rw [if_neg (by decide), lex_steps 13 _ _ (by decide)]
  rfl
theorem aw_two : allD [83, 32, 58, 32, 36] = ⟨[], 4, 13⟩ := by
  unfold allD
  rw [if_neg (by decide), lex_steps 5 _ _ (by decide)]
  rfl
theorem aw_three : allD [39, 97] = ⟨[], 0, 13⟩ := by
  unfold allD
  rw [if_neg (by decide), lex_steps 2 _ _ (by decide)]
  rfl
end Go.Proofs.Ytboljohhkfidfaa
