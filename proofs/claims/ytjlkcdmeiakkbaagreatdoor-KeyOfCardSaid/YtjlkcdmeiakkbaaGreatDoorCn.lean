/- Several texts in one: CnA, CnC. -/
import Derived.LoopTactic
import Derived.BigQuiet
import Derived.WalkMore
import Derived.Deep.DeepCutAuto
import Derived.Test.YtjlkcdmeiakkbaaGreatDoorMm
import Derived.Test.YtjlkcdmeiakkbaaGreatDoorDt
import Derived.Test.YtjlkcdmeiakkbaaGreatDoorGa
import Derived.Test.YtjlkcdmeiakkbaaGreatDoorBs
import Derived.Test.YtjlkcdmeiakkbaaGreatDoorGr
set_option linter.unusedVariables false
set_option linter.unusedSimpArgs false
/-! The document's rank and Less of rules (layer 16). -/
namespace Go.Proofs.YtjlkcdmeiakkbaaGreatDoor
open Go.RowKit

set_option maxRecDepth 100000 in
theorem crank_any (s : Int) (h1 : -9223372036854775808 ≤ s) (h2 : s ≤ 1000000) (w : World) : Calls Tryz.prog 80 #[.int .i64 s] w fun e w' => e = .returned (.int .i64 (rankG s)) ∧ w = w' := by
  unfold rankG
  by_cases h : s < 0
  · have hd : decide (s < 0) = true := decide_eq_true h
    rw [if_pos h]
    go_enter Tryz.func80, Tryz.ntmps80
    go_wp2_with fail
    go_ret
    exact ⟨rfl, rfl⟩
  · have hd : decide (s < 0) = false := decide_eq_false h
    rw [if_neg h]
    go_enter Tryz.func80, Tryz.ntmps80
    go_wp2_with fail
    go_ret
    exact ⟨rfl, rfl⟩
def LeRel (w : World) (a b : List Int) (iv : Value) (wx : World) : Prop := ∃ k : Nat, k ≤ a.length ∧ k ≤ b.length ∧ iv = .int .i64 (k : Int) ∧ (∀ j (_ : j < k) (h1 : j < a.length) (h2 : j < b.length), a[j]'h1 = b[j]'h2) ∧ Fr [] w wx
set_option maxRecDepth 100000 in
set_option maxHeartbeats 4000000 in
theorem cless_any (r1 r2 : RuleG) (v1 v2 : Value) (w : World) (h1 : intsAt w v1 r1.right) (h2 : intsAt w v2 r2.right) (b1 : ∀ s ∈ r1.right, -9223372036854775808 ≤ s ∧ s ≤ 1000000) (b2 : ∀ s ∈ r2.right, -9223372036854775808 ≤ s ∧ s ≤ 1000000) :
    Calls Tryz.prog 40 #[ruleV r1.left v1, ruleV r2.left v2] w fun e w' => e = .returned (.bool (lessR r1 r2)) ∧ Fr [] w w' := by
  obtain ⟨l1, a⟩ := r1
  obtain ⟨l2, b⟩ := r2
  simp only at h1 h2 b1 b2
  obtain ⟨a0, c0, rfl, hle0, hmx0⟩ := h1.form
  obtain ⟨a1, c1, rfl, hle1, hmx1⟩ := h2.form
  have hq := two_of_new w (.int .i64 l1) (.slice a0 a.length c0) 36
  have hf0 := Fr.alloc w (.cells #[.int .i64 l1, .slice a0 a.length c0] 36)
  obtain ⟨w0, hw0⟩ : ∃ w0, w0 = w.alloc (.cells #[.int .i64 l1, .slice a0 a.length c0] 36) := ⟨_, rfl⟩
  obtain ⟨q0, hq0⟩ : ∃ q0, q0 = w.heap.size := ⟨_, rfl⟩
  rw [← hw0] at hq hf0
  rw [← hq0] at hq
  have hp := two_of_new w0 (.int .i64 l2) (.slice a1 b.length c1) 36
  have hf1 := Fr.alloc w0 (.cells #[.int .i64 l2, .slice a1 b.length c1] 36)
  obtain ⟨w1, hw1⟩ : ∃ w1, w1 = w0.alloc (.cells #[.int .i64 l2, .slice a1 b.length c1] 36) := ⟨_, rfl⟩
  obtain ⟨q1, hq1⟩ : ∃ q1, q1 = w0.heap.size := ⟨_, rfl⟩
  rw [← hw1] at hp hf1
  rw [← hq1] at hp
  obtain ⟨R, hR⟩ : ∃ R, R = lessR ⟨l1, a⟩ ⟨l2, b⟩ := ⟨_, rfl⟩
  rw [← hR]
  unfold lessR at hR
  simp only at hR
  unfold ruleV
  obtain ⟨n, hn⟩ : ∃ n, n = a.length := ⟨_, rfl⟩
  obtain ⟨m, hm⟩ : ∃ m, m = b.length := ⟨_, rfl⟩
  rw [← hn] at hq hw0 hle0 h1
  rw [← hm] at hp hw1 hle1 h2
  rw [← hn, ← hm]
  have HQ := Lib.hid (hf1.heap hq (by simp))
  have HP := Lib.hid hp
  have HW0 := Lib.hid hw0
  have HQ0 := Lib.hid hq0
  have HW1 := Lib.hid hw1
  have HQ1 := Lib.hid (show q1 = q0 + 1 by rw [hq1, hw0, World.size_alloc, ← hq0])
  have HF := Lib.hid (hf0.trans hf1 (by simp) (n := []) (by simp))
  have HA := Lib.hid ((h1.below hf0).below hf1)
  have HBB := Lib.hid ((h2.below hf0).below hf1)
  have HB1 := Lib.hid b1
  have HB2 := Lib.hid b2
  have HN := Lib.hid hn
  have HM := Lib.hid hm
  obtain ⟨x0, x1, -⟩ := two_cells HQ.out
  obtain ⟨y0, y1, -⟩ := two_cells HP.out
  clear hq hf0 hw0 hq0 hp hf1 hw1 hq1 h1 h2 b1 b2 hn hm
  by_cases t1 : l1 = l2
  rotate_left
  · have d1 : (l1 != l2) = true := by rw [bne_iff_ne]; exact t1
    have HX := Lib.hid (hR.trans (if_neg t1))
    clear t1 hR
    go_enter Tryz.func40, Tryz.ntmps40
    go_upto_region 1 with fail
    rw [← HQ0.out, ← HW0.out, ← HQ1.out, ← HW1.out]
    go_wp2_with fail
    go_ret
    exact ⟨by rw [HX.out]; rfl, HF.out⟩
  have d1 : (l1 != l2) = false := by rw [t1]; simp
  have HX := Lib.hid (hR.trans (if_pos t1))
  clear t1 hR
  go_enter Tryz.func40, Tryz.ntmps40
  go_upto_region 1 with fail
  rw [← HQ0.out, ← HW0.out, ← HQ1.out, ← HW1.out]
  go_wp2_with fail
  go_loopw [5] (LeRel w1 a b) (fun iv _ => n - (intOf iv).toNat)
  case atStart => exact ⟨0, Nat.zero_le _, Nat.zero_le _, rfl, fun j hj => by omega, Fr.refl _ _⟩
  case round =>
    obtain ⟨k, hka, hkb, rfl, hall, hf⟩ := hrel
    have hkn' : k ≤ n := by have := HN.out; omega
    have hkm' : k ≤ m := by have := HM.out; omega
    have HALL := Lib.hid hall
    have HFW := Lib.hid hf
    obtain ⟨x0, x1, -⟩ := two_cells (hf.heap HQ.out (by simp))
    obtain ⟨y0, y1, -⟩ := two_cells (hf.heap HP.out (by simp))
    clear hall
    by_cases hkn : k < n
    rotate_left
    · have hd1 : decide (k < n) = false := decide_eq_false hkn
      have HX2 := Lib.hid (show R = decide ((n : Int) < (m : Int)) by
        rw [HX.out, syms_end a b (fun j h1 h2 => HALL.out j (by have := HN.out; omega) h1 h2), ← HN.out, ← HM.out]
        exact decide_eq_decide.2 (by omega))
      clear hkn hf
      go_wp2_with fail
      go_ret
      exact ⟨by rw [HX2.out]; try simp, HF.out.trans HFW.out (by simp) (by simp)⟩
    have hd1 : decide (k < n) = true := decide_eq_true hkn
    by_cases hkm : k < m
    rotate_left
    · have hd2 : decide (k < m) = false := decide_eq_false hkm
      have HX2 := Lib.hid (show R = decide ((n : Int) < (m : Int)) by
        rw [HX.out, syms_end a b (fun j h1 h2 => HALL.out j (by have := HM.out; omega) h1 h2), ← HN.out, ← HM.out]
        exact decide_eq_decide.2 (by omega))
      clear hkm hf
      go_wp2_with fail
      go_ret
      exact ⟨by rw [HX2.out]; try simp, HF.out.trans HFW.out (by simp) (by simp)⟩
    have hd2 : decide (k < m) = true := decide_eq_true hkm
    have hkA : k < a.length := by have := HN.out; omega
    have hkB : k < b.length := by have := HM.out; omega
    have hA2 := HA.out
    have hB2 := HBB.out
    obtain ⟨b1, o1, rfl, p0⟩ := int_cell (hA2.below hf) k hkA
    obtain ⟨b2, o2, rfl, p1⟩ := int_cell (hB2.below hf) k hkB
    have bx := HB1.out _ (List.getElem_mem hkA)
    have by' := HB2.out _ (List.getElem_mem hkB)
    obtain ⟨x, hx⟩ : ∃ x, x = a[k]'hkA := ⟨_, rfl⟩
    obtain ⟨y, hy⟩ : ∃ y, y = b[k]'hkB := ⟨_, rfl⟩
    rw [← hx] at p0 bx
    rw [← hy] at p1 by'
    have HX0 := Lib.hid hx
    have HY0 := Lib.hid hy
    have HR1 := Lib.hid (fun wx => crank_any x bx.1 bx.2 wx)
    have HR2 := Lib.hid (fun wx => crank_any y by'.1 by'.2 wx)
    clear hx hy hf hA2 hB2 bx by'
    by_cases he : x = y
    · have e1 : (x != y) = false := by rw [he]; simp
      have HE := Lib.hid he
      clear he
      go_upto_region 6 with fail
      go_quiet (fail)
      go_wp2_with fail
      refine ⟨⟨k + 1, by have := HN.out; omega, by have := HM.out; omega, by go_num, fun j hj g1 g2 => ?_, HFW.out.andDrewN _⟩, by simp [intOf]; omega⟩
      by_cases e : j = k
      · subst e; rw [← HX0.out, ← HY0.out]; exact HE.out
      · exact HALL.out j (by omega) g1 g2
    · have e1 : (x != y) = true := by rw [bne_iff_ne]; exact he
      have HX2 := Lib.hid (show R = decide (rankG x < rankG y) by
        rw [HX.out, syms_at k a b hkA hkB (fun j hj h1 h2 => HALL.out j hj h1 h2) (by rw [← HX0.out, ← HY0.out]; exact he), ← HX0.out, ← HY0.out])
      obtain ⟨rx, hrx⟩ : ∃ r, r = rankG x := ⟨_, rfl⟩
      obtain ⟨ry, hry⟩ : ∃ r, r = rankG y := ⟨_, rfl⟩
      rw [← hrx] at HR1 HX2
      rw [← hry] at HR2 HX2
      clear he hrx hry
      go_upto_region 6 with fail
      go_quiet (fail)
      go_upto_region 7 with fail
      have hfw2 := HFW.out.andDrewN nq
      obtain ⟨x0, x1, -⟩ := two_cells (hfw2.heap HQ.out (by simp))
      obtain ⟨y0, y1, -⟩ := two_cells (hfw2.heap HP.out (by simp))
      have p0' : (wr.drewN nq).cell? ⟨b1, o1 + k, none⟩ = some (.int .i64 x) := p0
      have p1' : (wr.drewN nq).cell? ⟨b2, o2 + k, none⟩ = some (.int .i64 y) := p1
      have HFW2 := Lib.hid hfw2
      obtain ⟨w2, hw2⟩ : ∃ w2, w2 = wr.drewN nq := ⟨_, rfl⟩
      rw [← hw2] at x0 x1 y0 y1 p0' p1' HFW2 ⊢
      clear hw2 hfw2 p0 p1
      go_quiet (first | (go_at_call 80; with_reducible refine Calls.quiet_of_same (flip_same (HR1.out _))) | (go_at_call 80; with_reducible refine Calls.quiet_of_same (flip_same (HR2.out _))))
      go_wp2_with fail
      go_ret
      exact ⟨by rw [HX2.out]; rfl, HF.out.trans (HFW2.out.andDrewN _) (by simp) (by simp)⟩
end Go.Proofs.YtjlkcdmeiakkbaaGreatDoor

/-! The document's Text (layer 16). -/
namespace Go.Proofs.YtjlkcdmeiakkbaaGreatDoor
open Go.RowKit

theorem gramAt.cparts {w : World} {gv : Value} {g : GramG} (h : gramAt w gv g) : ∃ a1 c1 a2 c2 a3 c3, gv = .agg #[.slice a1 g.names.length c1, .slice a2 g.terms.length c2, .slice a3 g.rules.length c3] ∧
    (strsAt w (.slice a1 g.names.length c1) g.names ∧ g.names.length ≤ c1 ∧ c1 ≤ 9223372036854775807) ∧ (strsAt w (.slice a2 g.terms.length c2) g.terms ∧ g.terms.length ≤ c2 ∧ c2 ≤ 9223372036854775807) ∧ (rulesAt w (.slice a3 g.rules.length c3) g.rules ∧ g.rules.length ≤ c3 ∧ c3 ≤ 9223372036854775807) := by
  obtain ⟨a, b, c, rfl, h1, h2, h3⟩ := h
  obtain ⟨a1, c1, rfl, x1, y1⟩ := h1.form
  obtain ⟨a2, c2, rfl, x2, y2⟩ := h2.form
  obtain ⟨a3, c3, rfl, x3, y3⟩ := h3.form
  exact ⟨a1, c1, a2, c2, a3, c3, rfl, ⟨h1, x1, y1⟩, ⟨h2, x2, y2⟩, ⟨h3, x3, y3⟩⟩
def altsC (g : GramG) (i k : Nat) : List (List ItemD) := ((g.rules.take k).filter fun r => decide (r.left = (i : Int))).map fun r => r.right.map (itemG g)
theorem altsC_all (g : GramG) (i : Nat) : altsC g i g.rules.length = altsG g i := by unfold altsC altsG; rw [List.take_length]
theorem altsC_yes {g : GramG} {i k : Nat} (h : k < g.rules.length) (e : (g.rules[k]'h).left = (i : Int)) : altsC g i (k + 1) = altsC g i k ++ [(g.rules[k]'h).right.map (itemG g)] := by
  unfold altsC
  rw [List.take_succ_eq_append_getElem h, List.filter_append, List.map_append, List.filter_cons_of_pos (by simpa using e)]
  rfl
theorem altsC_no {g : GramG} {i k : Nat} (h : k < g.rules.length) (e : (g.rules[k]'h).left ≠ (i : Int)) : altsC g i (k + 1) = altsC g i k := by
  unfold altsC
  rw [List.take_succ_eq_append_getElem h, List.filter_append, List.map_append, List.filter_cons_of_neg (by simpa using e)]
  simp
theorem altsC_pre (g : GramG) (i k : Nat) : altsC g i k = (altsG g i).take (altsC g i k).length := by
  have h : altsG g i = altsC g i k ++ ((g.rules.drop k).filter fun r => decide (r.left = (i : Int))).map fun r => r.right.map (itemG g) := by
    unfold altsC altsG
    rw [← List.map_append, ← List.filter_append, List.take_append_drop]
  rw [h, List.take_left]
theorem altsC_len (g : GramG) (i k : Nat) : (altsT (altsC g i k)).length ≤ (altsT (altsG g i)).length := by
  have h1 := altsC_pre g i k
  have h2 : (altsC g i k).length ≤ (altsG g i).length := by
    have := congrArg List.length h1
    rw [List.length_take] at this
    omega
  have h3 := alts_len (l := altsG g i) ((altsG g i).length - (altsC g i k).length) (altsC g i k).length (by omega)
  rw [← h1] at h3
  exact h3
theorem linesG_lenC (g : GramG) : (linesG g).length = g.names.length := by simp [linesG]
theorem linesG_getC {g : GramG} {i : Nat} (h : i < g.names.length) : (linesG g)[i]'(by rw [linesG_lenC]; exact h) = ⟨g.names[i]'h, altsG g i⟩ := by simp [linesG]
theorem altI_next {g : GramG} {l : List Int} {n : Nat} (h : n < l.length) : altT ((l.take (n + 1)).map (itemG g)) = altT ((l.take n).map (itemG g)) ++ itemT (itemG g (l[n]'h)) := by
  rw [List.take_succ_eq_append_getElem h, List.map_append]
  unfold altT
  rw [List.flatMap_append]
  simp
theorem altI_len {g : GramG} {l : List Int} {n : Nat} : (altT ((l.take n).map (itemG g))).length ≤ (altT (l.map (itemG g))).length := by
  have := alt_len (a := l.map (itemG g)) (n := n)
  rwa [← List.map_take] at this
def CtRel (w : World) (pre : Nat → List UInt8) (m : Nat) (sv iv : Value) (wx : World) : Prop := ∃ (i : Nat) (X : Array UInt8), i ≤ m ∧ iv = .int .i64 (i : Int) ∧ sv = .string { data := X } ∧ X = (pre i).toArray ∧ Fr [] w wx
def CmRel (w : World) (Q : List UInt8) (g : GramG) (i : Nat) (sv fv iv : Value) (wx : World) : Prop := ∃ (k : Nat) (X : Array UInt8) (f : Bool), k ≤ g.rules.length ∧ iv = .int .i64 (k : Int) ∧ fv = .bool f ∧ (f = true ↔ altsC g i k = []) ∧ sv = .string { data := X } ∧ X = (Q ++ altsT (altsC g i k)).toArray ∧ Fr [] w wx
set_option maxRecDepth 100000 in
set_option maxHeartbeats 4000000 in
theorem ctext_any (g : GramG) (gv : Value) (w : World) (hg : gramAt w gv g) (hr : ∀ r ∈ g.rules, ∀ s ∈ r.right, -(g.terms.length : Int) ≤ s ∧ s < (g.names.length : Int)) (hs : (textD (linesG g)).length ≤ 9223372036854775804) :
    Calls Tryz.prog 16 #[gv] w fun e w' => e = .returned (encStr (textD (linesG g))) ∧ Fr [] w w' := by
  obtain ⟨a1, c1, a2, c2, a3, c3, rfl, ⟨h1, q1, p1⟩, ⟨h2, q2, p2⟩, ⟨h3, q3, p3⟩⟩ := hg.cparts
  have hb := heap_alloc_new w (.cells #[.slice a1 g.names.length c1, .slice a2 g.terms.length c2, .slice a3 g.rules.length c3] 25)
  have hf0 := Fr.alloc w (.cells #[.slice a1 g.names.length c1, .slice a2 g.terms.length c2, .slice a3 g.rules.length c3] 25)
  obtain ⟨w0, hw0⟩ : ∃ w1, w1 = w.alloc (.cells #[.slice a1 g.names.length c1, .slice a2 g.terms.length c2, .slice a3 g.rules.length c3] 25) := ⟨_, rfl⟩
  obtain ⟨q0, hq0⟩ : ∃ q0, q0 = w.heap.size := ⟨_, rfl⟩
  rw [← hw0] at hb hf0
  rw [← hq0] at hb
  have HS := Lib.hid hs
  have HR := Lib.hid hr
  obtain ⟨n1, hn1⟩ : ∃ n, n = g.names.length := ⟨_, rfl⟩
  obtain ⟨n2, hn2⟩ : ∃ n, n = g.terms.length := ⟨_, rfl⟩
  obtain ⟨n3, hn3⟩ : ∃ n, n = g.rules.length := ⟨_, rfl⟩
  rw [← hn1, ← hn2, ← hn3] at hb hw0
  rw [← hn1] at q1 h1
  rw [← hn2] at q2 h2
  rw [← hn3] at q3 h3
  rw [← hn1, ← hn2, ← hn3]
  have HB := Lib.hid hb
  have HF0 := Lib.hid hf0
  have HW0 := Lib.hid hw0
  have HQ0 := Lib.hid hq0
  have H1 := Lib.hid (h1.below hf0)
  have H2 := Lib.hid (h2.below hf0)
  have H3 := Lib.hid (h3.below hf0)
  have HN1 := Lib.hid hn1
  have HN2 := Lib.hid hn2
  have HN3 := Lib.hid hn3
  obtain ⟨x0, x1, x2, -⟩ := three_of_heap HB.out
  obtain ⟨R, hR⟩ : ∃ R, R = textD (linesG g) := ⟨_, rfl⟩
  rw [← hR]
  have HRR := Lib.hid hR
  clear hb hf0 hw0 hq0 h1 h2 h3 hg hr hs hn1 hn2 hn3 hR
  go_enter Tryz.func16, Tryz.ntmps16
  go_upto_region 1 with fail
  rw [← HW0.out, ← HQ0.out]
  clear x0 x1 x2
  go_wp2_with fail
  go_loopw [3, 4] (CtRel w0 (fun i => textD ((linesG g).take i)) n1) (fun _ iv _ => n1 - (intOf iv).toNat)
  case atStart => exact ⟨0, #[], Nat.zero_le _, rfl, rfl, rfl, Fr.refl _ _⟩
  case round =>
    obtain ⟨i, X, hi, rfl, rfl, hX, hf⟩ := hrel
    have HX := Lib.hid hX
    have HF := Lib.hid hf
    obtain ⟨x0, x1, x2, -⟩ := three_of_heap (hf.heap HB.out (by simp))
    clear hX
    by_cases hin : i < n1
    · have hd1 : decide (i < n1) = true := decide_eq_true hin
      have hil : i < g.names.length := by have := HN1.out; omega
      obtain ⟨b1, off1, rfl, k0⟩ := str_cell (H1.out.below hf) i hil
      have htn := text_next (l := linesG g) (i := i) (by rw [linesG_lenC]; exact hil)
      rw [linesG_getC hil] at htn
      have htl := text_len (l := linesG g) (i := i + 1)
      rw [htn] at htl
      obtain ⟨nm, hnm⟩ : ∃ nm, nm = g.names[i]'hil := ⟨_, rfl⟩
      rw [← hnm] at k0 htn htl
      have HTN := Lib.hid htn
      obtain ⟨T, hT⟩ : ∃ T, T = textD ((linesG g).take i) := ⟨_, rfl⟩
      have hXT : X = T.toArray := by rw [hT]; exact HX.out
      rw [← hT] at htl HTN
      obtain ⟨al, hal⟩ : ∃ al, al = (altsT (altsG g i)).length := ⟨_, rfl⟩
      have hlen : T.length + nm.length + 5 + al ≤ 9223372036854775804 := by
        have := HS.out
        rw [List.length_append] at htl
        simp [lineT] at htl
        omega
      obtain ⟨X1, hX1⟩ : ∃ X1, X1 = (T ++ nm).toArray := ⟨_, rfl⟩
      obtain ⟨X2, hX2⟩ : ∃ X2, X2 = (T ++ nm ++ [32, 58]).toArray := ⟨_, rfl⟩
      have ca := fun wx => cat_run (P := Tryz.prog) (A := X) (B := nm.toArray) (C := X1) hXT rfl hX1 (by simp; omega) wx
      have cb := fun wx => cat_run (P := Tryz.prog) (A := X1) (B := #[32, 58]) (C := X2) (y := [32, 58]) hX1 rfl hX2 (by simp; omega) wx
      obtain ⟨Q, hQ⟩ : ∃ Q, Q = T ++ nm ++ [32, 58] := ⟨_, rfl⟩
      rw [← hQ] at hX2
      have hQl : Q.length + al + 3 ≤ 9223372036854775804 := by rw [hQ]; simp; omega
      have HX2 := Lib.hid hX2
      have HQ := Lib.hid hQ
      have HAL := Lib.hid hal
      clear hX1 hX2 hXT htn htl hnm hT hQ hal hlen hf
      go_upto_region 6 with fail
      clear ca cb k0 x0 x1 x2
      go_wp2_with fail
      go_loopw [3, 5, 6] (CmRel w0 Q g i) (fun _ _ iv _ => n3 - (intOf iv).toNat)
      case atStart => exact ⟨0, X2, true, Nat.zero_le _, rfl, rfl, by simp [altsC], rfl, by rw [HX2.out]; simp [altsC, altsT], HF.out⟩
      case round =>
        clear HX HF
        obtain ⟨k, X3, f, hk, rfl, rfl, hfe, rfl, hX3, hf⟩ := hrel
        have hk3 : k ≤ n3 := by have := HN3.out; omega
        have HX3 := Lib.hid hX3
        have HF := Lib.hid hf
        have HFE := Lib.hid hfe
        obtain ⟨x0, x1, x2, -⟩ := three_of_heap (hf.heap HB.out (by simp))
        clear hX3 hfe
        by_cases hkn : k < n3
        · have hd2 : decide (k < n3) = true := decide_eq_true hkn
          have hkl : k < g.rules.length := by have := HN3.out; omega
          obtain ⟨b2, o2, v2, rfl, z0, z1, hv⟩ := rule_cells H3.out k hkl
          have HVR := Lib.hid (HR.out _ (List.getElem_mem hkl))
          have HYES := Lib.hid (fun e => altsC_yes (i := i) hkl e)
          have HNO := Lib.hid (fun e => altsC_no (i := i) hkl e)
          obtain ⟨r, hr⟩ : ∃ r, r = g.rules[k]'hkl := ⟨_, rfl⟩
          rw [← hr] at z0 hv HVR HYES HNO
          obtain ⟨lf, rg⟩ := r
          simp only at z0 hv HVR HYES HNO
          obtain ⟨a4, c4, rfl, hle4, hmx4⟩ := hv.form
          have HZ1 := Lib.hid z1
          have HV := Lib.hid hv
          replace z0 := hf.cell z0 (by simp)
          replace z1 := hf.cell z1 (by simp)
          clear hf hr hv
          by_cases he : lf = (i : Int)
          · have hne : (lf != (i : Int)) = false := by rw [he]; simp
            have HY := Lib.hid (HYES.out he)
            clear he HYES HNO
            obtain ⟨rn, hrn⟩ : ∃ n, n = rg.length := ⟨_, rfl⟩
            rw [← hrn] at HZ1 z1 hle4
            have HRN := Lib.hid hrn
            obtain ⟨S, hS⟩ : ∃ S, S = Q ++ altsT (altsC g i k) ++ (if altsC g i k = [] then [] else [32, 124]) := ⟨_, rfl⟩
            have HSD := Lib.hid hS
            have hSl : S.length + (altT (rg.map (itemG g))).length + 3 ≤ 9223372036854775804 := by
              have h1 := altsC_len g i (k + 1)
              rw [HY.out, altsT_snoc, ← HAL.out] at h1
              rw [hS]
              simp only [List.length_append] at h1 ⊢
              omega
            clear hS hrn
            cases f with
            | true =>
              have HX4 := Lib.hid (show X3 = S.toArray by rw [HX3.out, HSD.out, if_pos (HFE.out.1 rfl)]; simp)
              go_upto_region 15 with fail
              clear x0 x1 x2 z0 z1
              go_loopw [3, 7] (CtRel w0 (fun n => S ++ altT ((rg.take n).map (itemG g))) rg.length) (fun _ iv _ => rn - (intOf iv).toNat)
              case atStart => exact ⟨0, X3, Nat.zero_le _, rfl, rfl, by rw [HX4.out]; simp [altT], HF.out⟩
              case round =>
                clear HX3
                obtain ⟨n, X6, hn, rfl, rfl, hX6, hf6⟩ := hrel
                have hn3' : n ≤ rn := by have := HRN.out; omega
                have HF6 := Lib.hid hf6
                obtain ⟨x0, x1, x2, -⟩ := three_of_heap (hf6.heap HB.out (by simp))
                have z1 := hf6.cell HZ1.out (by simp)
                by_cases hnn : n < rn
                · have hd3 : decide (n < rn) = true := decide_eq_true hnn
                  have hnl : n < rg.length := by have := HRN.out; omega
                  obtain ⟨b4, o4, rfl, y0⟩ := int_cell (HV.out.below hf6) n hnl
                  have hsr := HVR.out _ (List.getElem_mem hnl)
                  have hin2 := altI_next (g := g) hnl
                  have hil := altI_len (g := g) (l := rg) (n := n + 1)
                  obtain ⟨s, hs⟩ : ∃ s, s = rg[n]'hnl := ⟨_, rfl⟩
                  rw [← hs] at y0 hsr hin2
                  rw [hin2, List.length_append] at hil
                  obtain ⟨U, hU⟩ : ∃ U, U = S ++ altT ((rg.take n).map (itemG g)) := ⟨_, rfl⟩
                  have hX66 : X6 = U.toArray := by rw [hU]; exact hX6
                  have hUl : U.length + (itemT (itemG g s)).length ≤ 9223372036854775804 := by rw [hU, List.length_append]; omega
                  have HI2 := Lib.hid hin2
                  have HU := Lib.hid hU
                  have HSR := Lib.hid hsr
                  clear hX6 hin2 hil hs hU
                  by_cases hneg : s < 0
                  · have d4 : decide (s < 0) = true := decide_eq_true hneg
                    have hsl : (-1 - s).toNat < g.terms.length := by have := HSR.out.1; omega
                    have hs1 : (-1 - s).toNat < n2 := by have := HN2.out; omega
                    have hs0 : -9223372036854775808 ≤ s := by have := HSR.out.1; have := HN2.out; omega
                    obtain ⟨b5, o5, rfl, k0⟩ := str_cell (H2.out.below hf6) (-1 - s).toNat hsl
                    have hit : itemG g s = ⟨true, g.terms[(-1 - s).toNat]'hsl⟩ := by
                      unfold itemG
                      rw [if_pos hneg, getD_lt hsl]
                    obtain ⟨tx, htx⟩ : ∃ tx, tx = g.terms[(-1 - s).toNat]'hsl := ⟨_, rfl⟩
                    rw [← htx] at k0 hit
                    rw [hit] at hUl
                    have hul2 : U.length + tx.length + 3 ≤ 9223372036854775804 := by simp [itemT] at hUl; omega
                    obtain ⟨Y1, hY1⟩ : ∃ Y, Y = (U ++ [32, 39]).toArray := ⟨_, rfl⟩
                    obtain ⟨Y2, hY2⟩ : ∃ Y, Y = (U ++ [32, 39] ++ tx).toArray := ⟨_, rfl⟩
                    obtain ⟨Y3, hY3⟩ : ∃ Y, Y = (U ++ [32, 39] ++ tx ++ [39]).toArray := ⟨_, rfl⟩
                    have ca := fun wx => cat_run (P := Tryz.prog) (A := X6) (B := #[32, 39]) (C := Y1) (y := [32, 39]) hX66 rfl hY1 (by simp; omega) wx
                    have cb := fun wx => cat_run (P := Tryz.prog) (A := Y1) (B := tx.toArray) (C := Y2) hY1 rfl hY2 (by simp; omega) wx
                    have cc := fun wx => cat_run (P := Tryz.prog) (A := Y2) (B := #[39]) (C := Y3) (y := [39]) hY2 rfl hY3 (by simp; omega) wx
                    have HY3 := Lib.hid hY3
                    have HIT := Lib.hid hit
                    clear hY1 hY2 hY3 hX66 hUl hit htx hf6
                    go_wp2_with fail
                    refine ⟨⟨n + 1, Y3, hnl, by go_num, rfl, ?_, HF6.out⟩, by simp [intOf]; omega⟩
                    rw [HY3.out]
                    simp only [HI2.out, HU.out, HIT.out]
                    simp [itemT]
                  · have d4 : decide (s < 0) = false := decide_eq_false hneg
                    obtain ⟨sn, hsn⟩ : ∃ sn : Nat, s = (sn : Int) := ⟨s.toNat, by omega⟩
                    subst hsn
                    have hsl : sn < g.names.length := by have := HSR.out.2; omega
                    have hs1 : sn < n1 := by have := HN1.out; omega
                    obtain ⟨b5, o5, hb5, k0⟩ := str_cell (H1.out.below hf6) sn hsl
                    simp only [Option.some.injEq, Addr.mk.injEq, and_true] at hb5
                    obtain ⟨rfl, rfl⟩ := hb5
                    have hit : itemG g (sn : Int) = ⟨false, g.names[sn]'hsl⟩ := by
                      unfold itemG
                      rw [if_neg (by omega), Int.toNat_natCast, getD_lt hsl]
                    obtain ⟨tx, htx⟩ : ∃ tx, tx = g.names[sn]'hsl := ⟨_, rfl⟩
                    rw [← htx] at k0 hit
                    rw [hit] at hUl
                    have hul2 : U.length + tx.length + 1 ≤ 9223372036854775804 := by simp [itemT] at hUl; omega
                    obtain ⟨Y1, hY1⟩ : ∃ Y, Y = (U ++ [32]).toArray := ⟨_, rfl⟩
                    obtain ⟨Y2, hY2⟩ : ∃ Y, Y = (U ++ [32] ++ tx).toArray := ⟨_, rfl⟩
                    have ca := fun wx => cat_run (P := Tryz.prog) (A := X6) (B := #[32]) (C := Y1) (y := [32]) hX66 rfl hY1 (by simp; omega) wx
                    have cb := fun wx => cat_run (P := Tryz.prog) (A := Y1) (B := tx.toArray) (C := Y2) hY1 rfl hY2 (by simp; omega) wx
                    have HY2 := Lib.hid hY2
                    have HIT := Lib.hid hit
                    clear hY1 hY2 hX66 hUl hit htx hneg hf6
                    go_wp2_with fail
                    refine ⟨⟨n + 1, Y2, hnl, by go_num, rfl, ?_, HF6.out⟩, by simp [intOf]; omega⟩
                    rw [HY2.out]
                    simp only [HI2.out, HU.out, HIT.out]
                    simp [itemT]
                · have hd3 : decide (n < rn) = false := decide_eq_false hnn
                  have HX6 := Lib.hid (show X6 = (Q ++ altsT (altsC g i (k + 1))).toArray by
                    rw [hX6]
                    simp only []
                    rw [show n = rg.length by have := HRN.out; omega, List.take_length, HY.out, altsT_snoc, HSD.out]
                    simp only [List.append_assoc])
                  clear hX6 hf6
                  go_wp2_with fail
                  exact ⟨⟨k + 1, X6, false, hkl, by go_num, rfl, by rw [HY.out]; simp, rfl, HX6.out, HF6.out⟩, by simp [intOf]; omega⟩
            | false =>
              have hnz : altsC g i k ≠ [] := fun e => by have := HFE.out.2 e; simp at this
              obtain ⟨X4, hX4⟩ : ∃ X4, X4 = (Q ++ altsT (altsC g i k) ++ [32, 124]).toArray := ⟨_, rfl⟩
              have hlk : (Q ++ altsT (altsC g i k) ++ [32, 124]).length ≤ 9223372036854775807 := by
                have := HSD.out
                rw [if_neg hnz] at this
                rw [← this]; omega
              have cd := fun wx => cat_run (P := Tryz.prog) (A := X3) (B := #[32, 124]) (C := X4) (y := [32, 124]) HX3.out rfl hX4 hlk wx
              have HX4 := Lib.hid (show X4 = S.toArray by rw [hX4, HSD.out, if_neg hnz])
              clear hnz hX4 hlk
              go_upto_region 15 with fail
              clear x0 x1 x2 z0 z1 cd
              go_loopw [3, 7] (CtRel w0 (fun n => S ++ altT ((rg.take n).map (itemG g))) rg.length) (fun _ iv _ => rn - (intOf iv).toNat)
              case atStart => exact ⟨0, X4, Nat.zero_le _, rfl, rfl, by rw [HX4.out]; simp [altT], HF.out⟩
              case round =>
                clear HX3
                obtain ⟨n, X6, hn, rfl, rfl, hX6, hf6⟩ := hrel
                have hn3' : n ≤ rn := by have := HRN.out; omega
                have HF6 := Lib.hid hf6
                obtain ⟨x0, x1, x2, -⟩ := three_of_heap (hf6.heap HB.out (by simp))
                have z1 := hf6.cell HZ1.out (by simp)
                by_cases hnn : n < rn
                · have hd3 : decide (n < rn) = true := decide_eq_true hnn
                  have hnl : n < rg.length := by have := HRN.out; omega
                  obtain ⟨b4, o4, rfl, y0⟩ := int_cell (HV.out.below hf6) n hnl
                  have hsr := HVR.out _ (List.getElem_mem hnl)
                  have hin2 := altI_next (g := g) hnl
                  have hil := altI_len (g := g) (l := rg) (n := n + 1)
                  obtain ⟨s, hs⟩ : ∃ s, s = rg[n]'hnl := ⟨_, rfl⟩
                  rw [← hs] at y0 hsr hin2
                  rw [hin2, List.length_append] at hil
                  obtain ⟨U, hU⟩ : ∃ U, U = S ++ altT ((rg.take n).map (itemG g)) := ⟨_, rfl⟩
                  have hX66 : X6 = U.toArray := by rw [hU]; exact hX6
                  have hUl : U.length + (itemT (itemG g s)).length ≤ 9223372036854775804 := by rw [hU, List.length_append]; omega
                  have HI2 := Lib.hid hin2
                  have HU := Lib.hid hU
                  have HSR := Lib.hid hsr
                  clear hX6 hin2 hil hs hU
                  by_cases hneg : s < 0
                  · have d4 : decide (s < 0) = true := decide_eq_true hneg
                    have hsl : (-1 - s).toNat < g.terms.length := by have := HSR.out.1; omega
                    have hs1 : (-1 - s).toNat < n2 := by have := HN2.out; omega
                    have hs0 : -9223372036854775808 ≤ s := by have := HSR.out.1; have := HN2.out; omega
                    obtain ⟨b5, o5, rfl, k0⟩ := str_cell (H2.out.below hf6) (-1 - s).toNat hsl
                    have hit : itemG g s = ⟨true, g.terms[(-1 - s).toNat]'hsl⟩ := by
                      unfold itemG
                      rw [if_pos hneg, getD_lt hsl]
                    obtain ⟨tx, htx⟩ : ∃ tx, tx = g.terms[(-1 - s).toNat]'hsl := ⟨_, rfl⟩
                    rw [← htx] at k0 hit
                    rw [hit] at hUl
                    have hul2 : U.length + tx.length + 3 ≤ 9223372036854775804 := by simp [itemT] at hUl; omega
                    obtain ⟨Y1, hY1⟩ : ∃ Y, Y = (U ++ [32, 39]).toArray := ⟨_, rfl⟩
                    obtain ⟨Y2, hY2⟩ : ∃ Y, Y = (U ++ [32, 39] ++ tx).toArray := ⟨_, rfl⟩
                    obtain ⟨Y3, hY3⟩ : ∃ Y, Y = (U ++ [32, 39] ++ tx ++ [39]).toArray := ⟨_, rfl⟩
                    have ca := fun wx => cat_run (P := Tryz.prog) (A := X6) (B := #[32, 39]) (C := Y1) (y := [32, 39]) hX66 rfl hY1 (by simp; omega) wx
                    have cb := fun wx => cat_run (P := Tryz.prog) (A := Y1) (B := tx.toArray) (C := Y2) hY1 rfl hY2 (by simp; omega) wx
                    have cc := fun wx => cat_run (P := Tryz.prog) (A := Y2) (B := #[39]) (C := Y3) (y := [39]) hY2 rfl hY3 (by simp; omega) wx
                    have HY3 := Lib.hid hY3
                    have HIT := Lib.hid hit
                    clear hY1 hY2 hY3 hX66 hUl hit htx hf6
                    go_wp2_with fail
                    refine ⟨⟨n + 1, Y3, hnl, by go_num, rfl, ?_, HF6.out⟩, by simp [intOf]; omega⟩
                    rw [HY3.out]
                    simp only [HI2.out, HU.out, HIT.out]
                    simp [itemT]
                  · have d4 : decide (s < 0) = false := decide_eq_false hneg
                    obtain ⟨sn, hsn⟩ : ∃ sn : Nat, s = (sn : Int) := ⟨s.toNat, by omega⟩
                    subst hsn
                    have hsl : sn < g.names.length := by have := HSR.out.2; omega
                    have hs1 : sn < n1 := by have := HN1.out; omega
                    obtain ⟨b5, o5, hb5, k0⟩ := str_cell (H1.out.below hf6) sn hsl
                    simp only [Option.some.injEq, Addr.mk.injEq, and_true] at hb5
                    obtain ⟨rfl, rfl⟩ := hb5
                    have hit : itemG g (sn : Int) = ⟨false, g.names[sn]'hsl⟩ := by
                      unfold itemG
                      rw [if_neg (by omega), Int.toNat_natCast, getD_lt hsl]
                    obtain ⟨tx, htx⟩ : ∃ tx, tx = g.names[sn]'hsl := ⟨_, rfl⟩
                    rw [← htx] at k0 hit
                    rw [hit] at hUl
                    have hul2 : U.length + tx.length + 1 ≤ 9223372036854775804 := by simp [itemT] at hUl; omega
                    obtain ⟨Y1, hY1⟩ : ∃ Y, Y = (U ++ [32]).toArray := ⟨_, rfl⟩
                    obtain ⟨Y2, hY2⟩ : ∃ Y, Y = (U ++ [32] ++ tx).toArray := ⟨_, rfl⟩
                    have ca := fun wx => cat_run (P := Tryz.prog) (A := X6) (B := #[32]) (C := Y1) (y := [32]) hX66 rfl hY1 (by simp; omega) wx
                    have cb := fun wx => cat_run (P := Tryz.prog) (A := Y1) (B := tx.toArray) (C := Y2) hY1 rfl hY2 (by simp; omega) wx
                    have HY2 := Lib.hid hY2
                    have HIT := Lib.hid hit
                    clear hY1 hY2 hX66 hUl hit htx hneg hf6
                    go_wp2_with fail
                    refine ⟨⟨n + 1, Y2, hnl, by go_num, rfl, ?_, HF6.out⟩, by simp [intOf]; omega⟩
                    rw [HY2.out]
                    simp only [HI2.out, HU.out, HIT.out]
                    simp [itemT]
                · have hd3 : decide (n < rn) = false := decide_eq_false hnn
                  have HX6 := Lib.hid (show X6 = (Q ++ altsT (altsC g i (k + 1))).toArray by
                    rw [hX6]
                    simp only []
                    rw [show n = rg.length by have := HRN.out; omega, List.take_length, HY.out, altsT_snoc, HSD.out]
                    simp only [List.append_assoc])
                  clear hX6 hf6
                  go_wp2_with fail
                  exact ⟨⟨k + 1, X6, false, hkl, by go_num, rfl, by rw [HY.out]; simp, rfl, HX6.out, HF6.out⟩, by simp [intOf]; omega⟩
          · have hne : (lf != (i : Int)) = true := by rw [bne_iff_ne]; exact he
            have HY := Lib.hid (HNO.out he)
            clear he HYES HNO
            go_wp2_with fail
            exact ⟨⟨k + 1, X3, f, hkl, by go_num, rfl, by rw [HY.out]; exact HFE.out, rfl, by rw [HY.out]; exact HX3.out, HF.out⟩, by simp [intOf]; omega⟩
        · have hd2 : decide (k < n3) = false := decide_eq_false hkn
          obtain ⟨X5, hX5⟩ : ∃ X5, X5 = (Q ++ altsT (altsG g i) ++ [32, 59, 10]).toArray := ⟨_, rfl⟩
          have hX33 : X3 = (Q ++ altsT (altsG g i)).toArray := by rw [HX3.out, show k = g.rules.length by have := HN3.out; omega, altsC_all]
          have hbd : (Q ++ altsT (altsG g i) ++ [32, 59, 10]).length ≤ 9223372036854775807 := by
            rw [List.length_append, List.length_append, ← HAL.out]
            simp only [List.length_cons, List.length_nil]
            omega
          have cc := fun wx => cat_run (P := Tryz.prog) (A := X3) (B := #[32, 59, 10]) (C := X5) (y := [32, 59, 10]) hX33 rfl hX5 hbd wx
          have HX5 := Lib.hid hX5
          clear hf hX5 hX33 hbd
          go_wp2_with fail
          refine ⟨⟨i + 1, X5, by omega, by go_num, rfl, ?_, HF.out⟩, by simp [intOf]; omega⟩
          rw [HX5.out]
          simp only [HTN.out, HQ.out]
          simp [lineT]
    · have hd1 : decide (i < n1) = false := decide_eq_false hin
      have HIN := Lib.hid (show i = (linesG g).length by rw [linesG_lenC]; have := HN1.out; omega)
      clear hf
      go_wp2_with fail
      go_ret
      refine ⟨?_, HF0.out.trans HF.out (by simp) (by simp)⟩
      rw [HX.out, HIN.out, List.take_length, HRR.out]
      rfl
end Go.Proofs.YtjlkcdmeiakkbaaGreatDoor
