/- The program's grammars (layer 14): Of. -/
import Derived.Test.YtcmgnhjffhaajaaGb
namespace Go.Proofs.Ytcmgnhjffhaajaa
open Go.RowKit

def OFV (q : Nat) : Value := .func (.func 20) #[] #[.pointer (some ⟨q, 0, none⟩)]
set_option maxRecDepth 100000 in
theorem pof1_any (r : RuleG) (v : Value) (a : Int) (q : Nat) (w : World) (hq : w.cell? ⟨q, 0, none⟩ = some (.int .i64 a)) (hv : intsAt w v r.right) : Calls Try.prog 20 #[ruleV r.left v, .pointer (some ⟨q, 0, none⟩)] w fun e w' => e = .returned (.bool (r.left == a)) ∧ Fr [] w w' := by
  obtain ⟨a4, c4, rfl, hle, hmx⟩ := hv.form
  unfold ruleV
  obtain ⟨n, hn⟩ : ∃ n, n = r.right.length := ⟨_, rfl⟩
  obtain ⟨l, hl⟩ : ∃ l, l = r.left := ⟨_, rfl⟩
  rw [← hn, ← hl]
  have hb0 := two_of_new w (.int .i64 l) (.slice a4 n c4) 31
  have hf0 := Fr.alloc w (.cells #[.int .i64 l, .slice a4 n c4] 31)
  have hq0 := hf0.cell hq (by simp)
  obtain ⟨x0, x1, -⟩ := two_cells hb0
  obtain ⟨B, hB⟩ : ∃ B, B = (l == a) := ⟨_, rfl⟩
  rw [← hB]
  have hBB := hB.symm
  have HF0 := Lib.hid hf0
  clear hn hl hb0 hf0 hq hv hle hB
  go_enter Try.func20, Try.ntmps20
  go_wp2_with fail
  go_ret
  exact ⟨rfl, HF0.out⟩
theorem pofFrom_step {l : List RuleG} {a : Int} {k : Nat} (hk : k < l.length) : ofFrom (l.drop k) a k = (if (l[k]'hk).left = a then [(k : Int)] else []) ++ ofFrom (l.drop (k + 1)) a (k + 1) := by
  rw [List.drop_eq_getElem_cons hk, ofFrom]
  split <;> rfl
theorem pofFrom_end {l : List RuleG} {a : Int} {k : Nat} (hk : l.length ≤ k) : ofFrom (l.drop k) a k = [] := by
  rw [List.drop_eq_nil_of_le hk]; rfl
def WhRel (w : World) (l : List RuleG) (L : List Int) (a : Int) (v iv : Value) (wx : World) : Prop := ∃ (k : Nat) (pre : List Int), k ≤ l.length ∧ pre.length ≤ k ∧ iv = .int .i64 (k : Int) ∧ wx.ownsRow w.heap.size 3 1 v pre.length (pre.map intV) ∧ L = pre ++ ofFrom (l.drop k) a k ∧ Fr [] w wx
set_option maxRecDepth 100000 in
set_option maxHeartbeats 2000000 in
theorem pwhere_any (l : List RuleG) (lv : Value) (a : Int) (q : Nat) (w : World) (h : rulesAt w lv l) (hl : l.length ≤ 100000) (hq : w.cell? ⟨q, 0, none⟩ = some (.int .i64 a)) : Calls Try.prog 19 #[lv, OFV q] w (ROf (ofFrom l a 0) w) := by
  obtain ⟨iI, hiI, hz0, hz1, hz2⟩ := info_parts infoInt
  obtain ⟨a0, c0, rfl, hle, hmx⟩ := h.form
  have HE := Lib.hid h
  have HQ := Lib.hid hq
  obtain ⟨L, hL⟩ : ∃ L, L = ofFrom l a 0 := ⟨_, rfl⟩
  rw [← hL]
  have HL := Lib.hid hL
  unfold OFV
  clear h hq hL
  go_enter Try.func19, Try.ntmps19
  go_wp2_with fail
  go_loopw [5, 10] (WhRel w l L a) (fun _ iv _ => l.length - (intOf iv).toNat)
  case atStart => exact ⟨0, [], Nat.zero_le _, Nat.le_refl _, rfl, World.ownsRow_nil _ _ _ _, by rw [HL.out]; rfl, Fr.refl _ _⟩
  case round =>
    obtain ⟨k, pre, hk, hpk, rfl, hown, he, hf⟩ := hrel
    have HF := Lib.hid hf
    have HO := Lib.hid hown
    have HEQ := Lib.hid he
    clear hown he
    by_cases hkn : k < l.length
    · have hd1 : decide (k < l.length) = true := decide_eq_true hkn
      obtain ⟨p, off, v, rfl, k0, k1, hv⟩ := rule_cells (HE.out.below hf) k hkn
      have hst := pofFrom_step (a := a) hkn
      obtain ⟨x, hx⟩ : ∃ x, x = l[k]'hkn := ⟨_, rfl⟩
      rw [← hx] at k0 hv hst
      have hof := fun wx (hfx : Fr [] wr wx) => pof1_any x v a q wx ((hf.trans hfx (by simp) (n := []) (by simp)).cell HQ.out (by simp)) (hv.below hfx)
      obtain ⟨a2, c2, rfl, hle2, hmx2⟩ := hv.form
      obtain ⟨n2, hn2⟩ : ∃ n, n = x.right.length := ⟨_, rfl⟩
      obtain ⟨lf, hlf⟩ : ∃ lf, lf = x.left := ⟨_, rfl⟩
      unfold ruleV at hof
      rw [← hn2] at hof k1
      rw [← hlf] at hof k0 hst
      have HOF := Lib.hid hof
      have HST := Lib.hid hst
      have hb0 := two_of_new wr (.int .i64 lf) (.slice a2 n2 c2) 31
      have hf0 := Fr.alloc wr (.cells #[.int .i64 lf, .slice a2 n2 c2] 31)
      obtain ⟨w0, hw0⟩ : ∃ w0, w0 = wr.alloc (.cells #[.int .i64 lf, .slice a2 n2 c2] 31) := ⟨_, rfl⟩
      obtain ⟨q0, hq0⟩ : ∃ q0, q0 = wr.heap.size := ⟨_, rfl⟩
      rw [← hw0] at hb0 hf0
      rw [← hq0] at hb0
      have HB0 := Lib.hid hb0
      have HF0 := Lib.hid hf0
      have HW0 := Lib.hid hw0
      have HQ0 := Lib.hid hq0
      clear hx hof hst hn2 hlf hb0 hf0 hw0 hq0 hv hf hle2 hmx2
      go_upto_region 5 with fail
      rw [← HW0.out, ← HQ0.out]
      clear k0 k1
      obtain ⟨x0, x1, -⟩ := two_cells HB0.out
      by_cases ha : lf = a
      · rw [show (lf == a) = true from by simp [ha]] at HOF
        have HN := Lib.hid (show L = (pre ++ [(k : Int)]) ++ ofFrom (l.drop (k + 1)) a (k + 1) by rw [HEQ.out, HST.out, if_pos ha]; simp)
        clear ha
        go_wp2_with (first
          | (at_builtin; refine wpL_append1 rfl _ _ 28 rfl w.heap.size 3 iI (.int .i64 0) 8 Try.underlying28 hiI hz0 hz1 hz2 rfl _ pre.length (pre.map intV) rfl hown2 _ rfl rfl (by omega) (by simp [maxLen]; omega) hsz2 ?_; intro v' w3 hown3 hf3 hb3)
          | (go_at_call 20; refine (HOF.out _ HF0.out).mono ?_; rintro e w2 ⟨rfl, hf2⟩; have hown2 := owns_kept (owns_kept HO.out HF0.out (by simp)) hf2 (by simp); have HF2 := Lib.hid ((HF.out.trans HF0.out (by simp) (n := []) (by simp)).trans hf2 (by simp) (n := []) (by simp)); have hsz2 := HF2.out.size))
        refine ⟨⟨k + 1, pre ++ [(k : Int)], by omega, by simp; omega, by go_num, ?_, HN.out, HF2.out.own hown2 hf3⟩, by simp [intOf]; omega⟩
        rw [List.map_append, List.length_append]
        exact hown3
      · rw [show (lf == a) = false from by rw [beq_eq_false_iff_ne]; exact ha] at HOF
        have HN := Lib.hid (show L = pre ++ ofFrom (l.drop (k + 1)) a (k + 1) by rw [HEQ.out, HST.out, if_neg ha]; simp)
        clear ha
        go_wp2_with (go_at_call 20; refine (HOF.out _ HF0.out).mono ?_; rintro e w2 ⟨rfl, hf2⟩; have hown2 := owns_kept (owns_kept HO.out HF0.out (by simp)) hf2 (by simp))
        exact ⟨⟨k + 1, pre, by omega, by omega, by go_num, hown2, HN.out, (HF.out.trans HF0.out (by simp) (n := []) (by simp)).trans hf2 (by simp) (by simp)⟩, by simp [intOf]; omega⟩
    · have hd1 : decide (k < l.length) = false := decide_eq_false hkn
      have HN := Lib.hid (show L = pre by rw [HEQ.out, pofFrom_end (by omega)]; simp)
      clear hf
      go_wp2_with fail
      go_ret
      refine ⟨_, rfl, ?_, HF.out⟩
      rw [HN.out]
      exact cellsAt_of_owns (by rw [List.length_map]; exact HO.out)
set_option maxRecDepth 100000 in
set_option maxHeartbeats 1000000 in
theorem pof_any : ProgOf := by
  intro g a gv w hg hz
  obtain ⟨a1, c1, a2, c2, a3, c3, rfl, -, -, ⟨hg3, hle3, -⟩⟩ := hg.parts
  have hb0 := heap_alloc_new w (.cells #[.slice a1 g.names.length c1, .slice a2 g.terms.length c2, .slice a3 g.rules.length c3] 25)
  have hf0 := Fr.alloc w (.cells #[.slice a1 g.names.length c1, .slice a2 g.terms.length c2, .slice a3 g.rules.length c3] 25)
  obtain ⟨w0, hw0⟩ : ∃ w0, w0 = w.alloc (.cells #[.slice a1 g.names.length c1, .slice a2 g.terms.length c2, .slice a3 g.rules.length c3] 25) := ⟨_, rfl⟩
  obtain ⟨q0, hq0⟩ : ∃ q0, q0 = w.heap.size := ⟨_, rfl⟩
  rw [← hw0] at hb0 hf0
  rw [← hq0] at hb0
  have hb1 := heap_alloc_new w0 (.cells #[.int .i64 a] 3)
  have hf1 := Fr.alloc w0 (.cells #[.int .i64 a] 3)
  obtain ⟨w1, hw1⟩ : ∃ w1, w1 = w0.alloc (.cells #[.int .i64 a] 3) := ⟨_, rfl⟩
  obtain ⟨q1, hq1⟩ : ∃ q1, q1 = w0.heap.size := ⟨_, rfl⟩
  rw [← hw1] at hb1 hf1
  rw [← hq1] at hb1
  have hwh := pwhere_any g.rules _ a q1 w1 ((hg3.below hf0).below hf1) hz.rules (by rw [cell_of_heap hb1]; rfl)
  unfold OFV at hwh
  obtain ⟨L, hL⟩ : ∃ L, L = ofG g a := ⟨_, rfl⟩
  rw [show ofFrom g.rules a 0 = L from hL.symm] at hwh
  rw [← hL]
  obtain ⟨n1, hn1⟩ : ∃ n, n = g.names.length := ⟨_, rfl⟩
  obtain ⟨n2, hn2⟩ : ∃ n, n = g.terms.length := ⟨_, rfl⟩
  obtain ⟨n3, hn3⟩ : ∃ n, n = g.rules.length := ⟨_, rfl⟩
  rw [← hn3] at hwh
  rw [← hn1, ← hn2, ← hn3] at hb0 hw0 ⊢
  have HB0 := Lib.hid (hf1.heap hb0 (by simp))
  have HF1 := Lib.hid (hf0.trans hf1 (by simp) (n := []) (by simp))
  have HW0 := Lib.hid hw0
  have HQ0 := Lib.hid hq0
  have HW1 := Lib.hid hw1
  have HQ1 := Lib.hid (show q1 = q0 + 1 by rw [hq1, hw0, World.size_alloc, ← hq0])
  have HWH := Lib.hid hwh
  obtain ⟨x0, x1, x2, -⟩ := three_of_heap HB0.out
  clear hb0 hf0 hw0 hq0 hb1 hf1 hw1 hq1 hwh hg hz hg3 hle3 hL hn1 hn2 hn3
  go_enter Try.func9, Try.ntmps9
  go_upto_region 1 with fail
  rw [← HQ0.out, ← HW0.out, ← HQ1.out, ← HW1.out]
  go_wp2_with (go_at_call 19; refine HWH.out.mono ?_; rintro e w2 ⟨v, rfl, hv, hf2⟩; obtain ⟨a4, c4, rfl, hle4, hmx4⟩ := hv.form)
  go_ret
  exact ⟨_, rfl, hv, HF1.out.trans hf2 (by simp) (by simp)⟩
end Go.Proofs.Ytcmgnhjffhaajaa
