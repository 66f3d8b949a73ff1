/- CanonSame (layer 16), over any program that does what it must. -/
import Derived.Test.YtgfpkmnmdehkpaaGreatCwA
import Derived.Test.YtgfpkmnmdehkpaaGreatCwC
import Derived.Test.YtgfpkmnmdehkpaaGreatCsA
set_option linter.unusedVariables false
set_option linter.unusedSimpArgs false
namespace Go.Proofs.YtgfpkmnmdehkpaaGreat
open Go.RowKit

/-- The numbers of two names, or of two terminals, as the statement takes them. -/
def BadP (lo : Int) (n : Nat) (a b : Int) : Prop := a < lo ∨ b < lo ∨ (n : Int) ≤ a ∨ (n : Int) ≤ b
noncomputable def pickA (lo : Int) (n : Nat) (a b : Int) : Nat := if boolOf (BadP lo n a b) = true then 0 else a.toNat
noncomputable def pickB (lo : Int) (n : Nat) (a b : Int) : Nat := if boolOf (BadP lo n a b) = true then 0 else b.toNat
theorem pick_bad {lo : Int} {n : Nat} {a b : Int} (h : BadP lo n a b) : pickA lo n a b = 0 ∧ pickB lo n a b = 0 := by unfold pickA pickB; rw [if_pos (boolOf_true h), if_pos (boolOf_true h)]; exact ⟨rfl, rfl⟩
theorem pick_good {lo : Int} {n : Nat} {a b : Int} (h : ¬ BadP lo n a b) (h0 : 0 ≤ lo) : ((pickA lo n a b : Nat) : Int) = a ∧ ((pickB lo n a b : Nat) : Int) = b := by
  unfold pickA pickB
  rw [if_neg (by rw [boolOf_false h]; simp), if_neg (by rw [boolOf_false h]; simp)]
  unfold BadP at h
  omega
theorem pick_lt {lo : Int} {n : Nat} {a b : Int} (h0 : 0 ≤ lo) (hn : 1 ≤ n) : pickA lo n a b < n ∧ pickB lo n a b < n := by
  rcases Classical.em (BadP lo n a b) with h | h
  · rw [(pick_bad h).1, (pick_bad h).2]; omega
  · have := pick_good h h0
    unfold BadP at h
    omega
theorem pick_one {n : Nat} {a b : Int} : (1 ≤ pickA 1 n a b ∧ 1 ≤ pickB 1 n a b) ∨ (pickA 1 n a b = 0 ∧ pickB 1 n a b = 0) := by
  rcases Classical.em (BadP 1 n a b) with h | h
  · exact .inr (pick_bad h)
  · have := pick_good h (by decide)
    unfold BadP at h
    omega
theorem isO_canon {g : GramG} (hv : ValidG g) : isO (canonG g) = true := by
  unfold isO
  rw [show validB (canonG g) = true from boolOf_true (canon_valid hv), canon_twice hv, boolOf_true rfl]
  rfl
set_option maxRecDepth 100000 in
set_option maxHeartbeats 8000000 in
theorem csame_any (hR : ProgCanRead) (hT : ProgCanText) (hI : ProgCanIs) (hO : ProgCanOf) (g : GramG) (gv : Value) (w : World) (hg : gramAt w gv g)
    (ig : IntG g) (gn : ∀ n ∈ g.names, n.length ≤ maxLen) (gt : ∀ n ∈ g.terms, n.length ≤ maxLen) (a b c d i k : Int) :
    Calls Tryz.prog 5 #[gv, .int .i64 a, .int .i64 b, .int .i64 c, .int .i64 d, .int .i64 i, .int .i64 k] w fun e w' => e = .returned (.bool true) ∧ Fr [] w w' := by
  have HAW := Lib.hid (fun wx => cawake_any hR hT hI wx)
  obtain ⟨a1, c1, a2, c2, a3, c3, rfl, -, -, -⟩ := hg.parts
  have hb0 := heap_alloc_new w (.cells #[.slice a1 g.names.length c1, .slice a2 g.terms.length c2, .slice a3 g.rules.length c3] 25)
  have hf0 := Fr.alloc w (.cells #[.slice a1 g.names.length c1, .slice a2 g.terms.length c2, .slice a3 g.rules.length c3] 25)
  obtain ⟨w2, hw2⟩ : ∃ w2, w2 = w.alloc (.cells #[.slice a1 g.names.length c1, .slice a2 g.terms.length c2, .slice a3 g.rules.length c3] 25) := ⟨_, rfl⟩
  obtain ⟨q0, hq0⟩ : ∃ q0, q0 = w.heap.size := ⟨_, rfl⟩
  rw [← hw2] at hb0 hf0
  rw [← hq0] at hb0
  have HBG := Lib.hid hb0
  have HF2 := Lib.hid hf0
  have hg2 := hg.below hf0
  have HFG := Lib.hid (fun wx (hf : Fr [] w2 wx) => rfew_any g _ wx (hg2.below hf) gn gt)
  have HVG := Lib.hid (fun wx (hf : Fr [] w2 wx) (hz : SizeG g) => rvalid_any g _ wx (hg2.below hf) hz)
  have HTG := Lib.hid (fun wx (hf : Fr [] w2 wx) (hz : SizeG g) => hT g _ wx (hg2.below hf) hz ig)
  have HOG := Lib.hid (fun wx (hf : Fr [] w2 wx) (hz : SizeG g) => hO g _ wx (hg2.below hf) hz ig)
  have HSW := Lib.hid (fun wx (hf : Fr [] w2 wx) (hv : ValidG g) => cswap_any g hv _ wx (hg2.below hf))
  have HTP := Lib.hid hT
  have HOP := Lib.hid hO
  have HIP := Lib.hid hI
  have HW2 := Lib.hid hw2
  have HQ0 := Lib.hid hq0
  obtain ⟨n1, hn1⟩ : ∃ n, n = g.names.length := ⟨_, rfl⟩
  obtain ⟨n2, hn2⟩ : ∃ n, n = g.terms.length := ⟨_, rfl⟩
  obtain ⟨n3, hn3⟩ : ∃ n, n = g.rules.length := ⟨_, rfl⟩
  rw [← hn1, ← hn2, ← hn3] at HBG HFG HVG HTG HOG HSW HW2
  rw [← hn1, ← hn2, ← hn3]
  have HN1 := Lib.hid hn1
  have HN2 := Lib.hid hn2
  have HN3 := Lib.hid hn3
  obtain ⟨x0, x1, x2, -⟩ := three_of_heap HBG.out
  clear hb0 hf0 hw2 hq0 hg hg2 hn1 hn2 hn3 ig gn gt hR hT hI hO
  rcases few_two g with kf | kf
  · rw [kf] at HFG
    clear kf
    go_enter Tryz.func5, Tryz.ntmps5
    go_upto_region 1 with fail
    rw [← HW2.out, ← HQ0.out]
    go_wp2_with (first
      | (go_at_call 9; refine (HAW.out _).mono ?_; rintro e w9 ⟨rfl, hf9⟩)
      | (go_at_call 8; refine (HFG.out _ (Fr.refl _ _)).mono ?_; rintro e w3 ⟨rfl, hf3⟩; obtain ⟨x0, x1, x2, -⟩ := three_of_heap (hf3.heap HBG.out (by simp))))
    go_ret
    exact ⟨rfl, (HF2.out.trans hf3 (by simp) (n := []) (by simp)).trans hf9 (by simp) (by simp)⟩
  have HZG := Lib.hid (few_size (g := g) (by rw [kf]; decide))
  rw [kf] at HFG
  clear kf
  cases vg : validB g with
  | false =>
    rw [vg] at HVG
    clear vg
    go_enter Tryz.func5, Tryz.ntmps5
    go_upto_region 1 with fail
    rw [← HW2.out, ← HQ0.out]
    go_wp2_with (first
      | (go_at_call 9; refine (HAW.out _).mono ?_; rintro e w9 ⟨rfl, hf9⟩)
      | (go_at_call 11; refine (HVG.out _ hf3 HZG.out).mono ?_; rintro e w4 ⟨rfl, hf4⟩)
      | (go_at_call 8; refine (HFG.out _ (Fr.refl _ _)).mono ?_; rintro e w3 ⟨rfl, hf3⟩; obtain ⟨x0, x1, x2, -⟩ := three_of_heap (hf3.heap HBG.out (by simp))))
    go_ret
    exact ⟨rfl, ((HF2.out.trans hf3 (by simp) (n := []) (by simp)).trans hf4 (by simp) (n := []) (by simp)).trans hf9 (by simp) (by simp)⟩
  | true =>
  have HVL := Lib.hid (show ValidG g from of_boolOf vg)
  have hone : 1 ≤ n1 := by rw [HN1.out]; exact HVL.out.one
  rw [vg] at HVG
  clear vg
  go_enter Tryz.func5, Tryz.ntmps5
  go_upto_region 1 with fail
  rw [← HW2.out, ← HQ0.out]
  go_upto_region 3 with (first
      | (go_at_call 11; refine (HVG.out _ hf3 HZG.out).mono ?_; rintro e w4 ⟨rfl, hf4⟩; obtain ⟨x0, x1, x2, -⟩ := three_of_heap ((hf3.trans hf4 (by simp) (n := []) (by simp)).heap HBG.out (by simp)))
      | (go_at_call 8; refine (HFG.out _ (Fr.refl _ _)).mono ?_; rintro e w3 ⟨rfl, hf3⟩; obtain ⟨x0, x1, x2, -⟩ := three_of_heap (hf3.heap HBG.out (by simp))))
  have HF24 := Lib.hid (hf3.trans hf4 (by simp) (n := []) (by simp))
  clear hf3 hf4
  obtain ⟨A, hA⟩ : ∃ A, A = pickA 1 n1 a b := ⟨_, rfl⟩
  obtain ⟨B, hB⟩ : ∃ B, B = pickB 1 n1 a b := ⟨_, rfl⟩
  obtain ⟨C, hC⟩ : ∃ C, C = pickA 0 n2 c d := ⟨_, rfl⟩
  obtain ⟨D, hD⟩ : ∃ D, D = pickB 0 n2 c d := ⟨_, rfl⟩
  have HA := Lib.hid hA
  have HB := Lib.hid hB
  have HC := Lib.hid hC
  have HD := Lib.hid hD
  clear hA hB hC hD
  go_cut [44] (fun s wx => s = .bool (boolOf (BadP 1 n1 a b)) ∧ w4 = wx)
  case first =>
    by_cases e0 : a < 1
    · have d0 : decide (a < 1) = true := decide_eq_true e0
      have HBB := Lib.hid (show boolOf (BadP 1 n1 a b) = true from boolOf_true (by unfold BadP; omega))
      clear e0
      go_wp2_with fail
      go_meet
      exact ⟨by rw [HBB.out], rfl⟩
    have d0 : decide (a < 1) = false := decide_eq_false e0
    by_cases e1 : b < 1
    · have d1 : decide (b < 1) = true := decide_eq_true e1
      have HBB := Lib.hid (show boolOf (BadP 1 n1 a b) = true from boolOf_true (by unfold BadP; omega))
      clear e0 e1
      go_wp2_with fail
      go_meet
      exact ⟨by rw [HBB.out], rfl⟩
    have d1 : decide (b < 1) = false := decide_eq_false e1
    by_cases e2 : (n1 : Int) ≤ a
    · have d2 : decide ((n1 : Int) ≤ a) = true := decide_eq_true e2
      have HBB := Lib.hid (show boolOf (BadP 1 n1 a b) = true from boolOf_true (by unfold BadP; omega))
      clear e0 e1 e2
      go_wp2_with fail
      go_meet
      exact ⟨by rw [HBB.out], rfl⟩
    have d2 : decide ((n1 : Int) ≤ a) = false := decide_eq_false e2
    by_cases e3 : (n1 : Int) ≤ b
    · have d3 : decide ((n1 : Int) ≤ b) = true := decide_eq_true e3
      have HBB := Lib.hid (show boolOf (BadP 1 n1 a b) = true from boolOf_true (by unfold BadP; omega))
      clear e0 e1 e2 e3
      go_wp2_with fail
      go_meet
      exact ⟨by rw [HBB.out], rfl⟩
    have d3 : decide ((n1 : Int) ≤ b) = false := decide_eq_false e3
    have HBB := Lib.hid (show boolOf (BadP 1 n1 a b) = false from boolOf_false (by unfold BadP; omega))
    clear e0 e1 e2 e3
    go_wp2_with fail
    go_meet
    exact ⟨by rw [HBB.out], rfl⟩
  case rest =>
  obtain ⟨rfl, rfl⟩ := hcut
  go_upto_if 44 with fail
  go_cut [1, 2] (fun s t wx => s = .int .i64 (A : Int) ∧ t = .int .i64 (B : Int) ∧ w4 = wx)
  case first =>
    rcases Classical.em (BadP 1 n1 a b) with e | e
    · have HPK := Lib.hid (pick_bad e)
      rw [boolOf_true e]
      clear e
      go_wp2_with fail
      go_meet
      refine ⟨?_, ?_, rfl⟩
      · rw [HA.out, HPK.out.1]; rfl
      · rw [HB.out, HPK.out.2]; rfl
    · have HPK := Lib.hid (pick_good e (by decide))
      rw [boolOf_false e]
      clear e
      go_wp2_with fail
      go_meet
      refine ⟨?_, ?_, rfl⟩
      · rw [HA.out, HPK.out.1]
      · rw [HB.out, HPK.out.2]
  case rest =>
  obtain ⟨rfl, rfl, rfl⟩ := hcut
  go_upto_region 6 with fail
  go_cut [64] (fun s wx => s = .bool (boolOf (BadP 0 n2 c d)) ∧ w4 = wx)
  case first =>
    by_cases e0 : c < 0
    · have d0 : decide (c < 0) = true := decide_eq_true e0
      have HBB := Lib.hid (show boolOf (BadP 0 n2 c d) = true from boolOf_true (by unfold BadP; omega))
      clear e0
      go_wp2_with fail
      go_meet
      exact ⟨by rw [HBB.out], rfl⟩
    have d0 : decide (c < 0) = false := decide_eq_false e0
    by_cases e1 : d < 0
    · have d1 : decide (d < 0) = true := decide_eq_true e1
      have HBB := Lib.hid (show boolOf (BadP 0 n2 c d) = true from boolOf_true (by unfold BadP; omega))
      clear e0 e1
      go_wp2_with fail
      go_meet
      exact ⟨by rw [HBB.out], rfl⟩
    have d1 : decide (d < 0) = false := decide_eq_false e1
    by_cases e2 : (n2 : Int) ≤ c
    · have d2 : decide ((n2 : Int) ≤ c) = true := decide_eq_true e2
      have HBB := Lib.hid (show boolOf (BadP 0 n2 c d) = true from boolOf_true (by unfold BadP; omega))
      clear e0 e1 e2
      go_wp2_with fail
      go_meet
      exact ⟨by rw [HBB.out], rfl⟩
    have d2 : decide ((n2 : Int) ≤ c) = false := decide_eq_false e2
    by_cases e3 : (n2 : Int) ≤ d
    · have d3 : decide ((n2 : Int) ≤ d) = true := decide_eq_true e3
      have HBB := Lib.hid (show boolOf (BadP 0 n2 c d) = true from boolOf_true (by unfold BadP; omega))
      clear e0 e1 e2 e3
      go_wp2_with fail
      go_meet
      exact ⟨by rw [HBB.out], rfl⟩
    have d3 : decide ((n2 : Int) ≤ d) = false := decide_eq_false e3
    have HBB := Lib.hid (show boolOf (BadP 0 n2 c d) = false from boolOf_false (by unfold BadP; omega))
    clear e0 e1 e2 e3
    go_wp2_with fail
    go_meet
    exact ⟨by rw [HBB.out], rfl⟩
  case rest =>
  obtain ⟨rfl, rfl⟩ := hcut
  go_upto_if 64 with fail
  go_cut [3, 4] (fun s t wx => s = .int .i64 (C : Int) ∧ t = .int .i64 (D : Int) ∧ w4 = wx)
  case first =>
    rcases Classical.em (BadP 0 n2 c d) with e | e
    · have HPK := Lib.hid (pick_bad e)
      rw [boolOf_true e]
      clear e
      go_wp2_with fail
      go_meet
      refine ⟨?_, ?_, rfl⟩
      · rw [HC.out, HPK.out.1]; rfl
      · rw [HD.out, HPK.out.2]; rfl
    · have HPK := Lib.hid (pick_good e (by decide))
      rw [boolOf_false e]
      clear e
      go_wp2_with fail
      go_meet
      refine ⟨?_, ?_, rfl⟩
      · rw [HC.out, HPK.out.1]
      · rw [HD.out, HPK.out.2]
  case rest =>
  obtain ⟨rfl, rfl, rfl⟩ := hcut
  by_cases e0 : n2 = 0
  · have d0 : ((n2 : Int) == 0) = true := by rw [e0]; rfl
    clear e0
    go_wp2_with (go_at_call 9; refine (HAW.out _).mono ?_; rintro e w9 ⟨rfl, hf9⟩)
    go_ret
    exact ⟨rfl, (HF2.out.trans HF24.out (by simp) (n := []) (by simp)).trans hf9 (by simp) (by simp)⟩
  have d0 : ((n2 : Int) == 0) = false := by rw [beq_eq_false_iff_ne]; omega
  by_cases e1 : i < 0
  · have d1 : decide (i < 0) = true := decide_eq_true e1
    clear e0 e1
    go_wp2_with (go_at_call 9; refine (HAW.out _).mono ?_; rintro e w9 ⟨rfl, hf9⟩)
    go_ret
    exact ⟨rfl, (HF2.out.trans HF24.out (by simp) (n := []) (by simp)).trans hf9 (by simp) (by simp)⟩
  have d1 : decide (i < 0) = false := decide_eq_false e1
  by_cases e2 : k < 0
  · have d2 : decide (k < 0) = true := decide_eq_true e2
    clear e0 e1 e2
    go_wp2_with (go_at_call 9; refine (HAW.out _).mono ?_; rintro e w9 ⟨rfl, hf9⟩)
    go_ret
    exact ⟨rfl, (HF2.out.trans HF24.out (by simp) (n := []) (by simp)).trans hf9 (by simp) (by simp)⟩
  have d2 : decide (k < 0) = false := decide_eq_false e2
  by_cases e3 : (n3 : Int) ≤ i
  · have d3 : decide ((n3 : Int) ≤ i) = true := decide_eq_true e3
    clear e0 e1 e2 e3
    go_wp2_with (go_at_call 9; refine (HAW.out _).mono ?_; rintro e w9 ⟨rfl, hf9⟩)
    go_ret
    exact ⟨rfl, (HF2.out.trans HF24.out (by simp) (n := []) (by simp)).trans hf9 (by simp) (by simp)⟩
  have d3 : decide ((n3 : Int) ≤ i) = false := decide_eq_false e3
  by_cases e4 : (n3 : Int) ≤ k
  · have d4 : decide ((n3 : Int) ≤ k) = true := decide_eq_true e4
    clear e0 e1 e2 e3 e4
    go_wp2_with (go_at_call 9; refine (HAW.out _).mono ?_; rintro e w9 ⟨rfl, hf9⟩)
    go_ret
    exact ⟨rfl, (HF2.out.trans HF24.out (by simp) (n := []) (by simp)).trans hf9 (by simp) (by simp)⟩
  have d4 : decide ((n3 : Int) ≤ k) = false := decide_eq_false e4
  obtain ⟨I, hI⟩ : ∃ I : Nat, i = (I : Int) := ⟨i.toNat, by omega⟩
  obtain ⟨K, hK⟩ : ∃ K : Nat, k = (K : Int) := ⟨k.toNat, by omega⟩
  subst hI
  subst hK
  have hIl : I < n3 := by omega
  have hKl : K < n3 := by omega
  have hAB := pick_lt (lo := 1) (n := n1) (a := a) (b := b) (by decide) hone
  have hCD := pick_lt (lo := 0) (n := n2) (a := c) (b := d) (by decide) (by omega)
  have hab := pick_one (n := n1) (a := a) (b := b)
  rw [← HA.out, ← HB.out] at hAB hab
  rw [← HC.out, ← HD.out] at hCD
  have hsw := fun wx (hf : Fr [] w2 wx) => HSW.out wx hf HVL.out A B C D I K hAB.1 hAB.2 hCD.1 hCD.2 hIl hKl
  have hvh := swap_valid HVL.out (a := A) (b := B) (c := C) (d := D) (i := I) (k := K) (by rw [← HN1.out]; exact hAB.1) (by rw [← HN1.out]; exact hAB.2) hab (by rw [← HN2.out]; exact hCD.1) (by rw [← HN2.out]; exact hCD.2) (by rw [← HN3.out]; exact hIl) (by rw [← HN3.out]; exact hKl)
  have hch := swap_canon HVL.out (a := A) (b := B) (c := C) (d := D) (i := I) (k := K) (by rw [← HN1.out]; exact hAB.1) (by rw [← HN1.out]; exact hAB.2) hab (by rw [← HN2.out]; exact hCD.1) (by rw [← HN2.out]; exact hCD.2) (by rw [← HN3.out]; exact hIl) (by rw [← HN3.out]; exact hKl)
  obtain ⟨h, hh⟩ : ∃ h, h = swapG g A B C D I K := ⟨_, rfl⟩
  rw [← hh] at hvh hch hsw
  have hto : textO h = textO g := by rw [textO_valid hvh, textO_valid HVL.out, hch]
  have hco : canonO h = canonO g := by rw [canonO_valid hvh, canonO_valid HVL.out, hch]
  have HSWP := Lib.hid hsw
  have HTH := Lib.hid (fun hv wx (hx : gramAt wx hv h) => HTP.out h hv wx hx (valid_size hvh) (valid_int hvh))
  have HOH := Lib.hid (fun hv wx (hx : gramAt wx hv h) => HOP.out h hv wx hx (valid_size hvh) (valid_int hvh))
  rw [hto] at HTH
  rw [hco] at HOH
  have hcv := canonO_valid HVL.out
  have HIC := Lib.hid (fun hv wx (hx : gramAt wx hv (canonO g)) => HIP.out (canonO g) hv wx hx (by rw [hcv]; exact valid_size (canon_valid HVL.out)) (by rw [hcv]; exact valid_int (canon_valid HVL.out)))
  rw [show isO (canonO g) = true by rw [hcv]; exact isO_canon HVL.out] at HIC
  have HSM := Lib.hid (fun va vb wx (ha : gramAt wx va (canonO g)) (hb : gramAt wx vb (canonO g)) => rsame_any (canonO g) (canonO g) va vb wx ha hb)
  rw [show sameB (canonO g) (canonO g) = true from boolOf_true rfl] at HSM
  obtain ⟨T, hTT⟩ : ∃ T, T = (textO g).toArray := ⟨_, rfl⟩
  have hTe : encStr (textO g) = .string ⟨T⟩ := by rw [hTT]
  simp only [hTe] at HTG HTH
  obtain ⟨x0, x1, x2, -⟩ := three_of_heap (HF24.out.heap HBG.out (by simp))
  clear e0 e1 e2 e3 e4 hAB hCD hab hvh hch hh hto hco hcv hTT hTe hsw HA HB HC HD HSW HTP HOP HIP hone
  go_upto_region 12 with (go_at_call 20; refine (HSWP.out _ HF24.out).mono ?_; rintro e w5 ⟨hv, rfl, hx5, hf5⟩; obtain ⟨b1, d1', b2, d2', b3, d3', rfl, -, -, -⟩ := hx5.parts)
  have hb6 := heap_alloc_new w5 (.cells #[.slice b1 h.names.length d1', .slice b2 h.terms.length d2', .slice b3 h.rules.length d3'] 25)
  have hf6 := Fr.alloc w5 (.cells #[.slice b1 h.names.length d1', .slice b2 h.terms.length d2', .slice b3 h.rules.length d3'] 25)
  obtain ⟨w6, hw6⟩ : ∃ w6, w6 = w5.alloc (.cells #[.slice b1 h.names.length d1', .slice b2 h.terms.length d2', .slice b3 h.rules.length d3'] 25) := ⟨_, rfl⟩
  obtain ⟨q1, hq1⟩ : ∃ q1, q1 = w5.heap.size := ⟨_, rfl⟩
  rw [← hw6] at hb6 hf6
  rw [← hq1] at hb6
  rw [← hw6, ← hq1]
  have HBH := Lib.hid hb6
  have HX6 := Lib.hid (hx5.below hf6)
  have HF26 := Lib.hid ((HF24.out.trans hf5 (by simp) (n := []) (by simp)).trans hf6 (by simp) (n := []) (by simp))
  clear hb6 hf6 hw6 hq1 hx5 hf5 x0 x1 x2
  refine wp_region_T (Fr []) (fun _ => Fr.refl _ _) (fun _ _ _ h k => h.trans k (fun _ hi _ => hi) (fun _ hi _ => hi)) [(0, false), (2, false), (1, true), (3, true), (4, true), (5, false), (6, false), (8, false), (7, true), (9, true), (10, false), (11, false), (12, false), (13, false), (14, true), (15, true), (16, false), (17, false), (18, true), (19, false), (20, false)] 120 rfl (by kernel_rfl) (by kernel_rfl) (by kernel_rfl) (fun c a d v w h => by cases d <;> exact h) ?_
  simp only [List.map_cons, List.map_nil, List.getElem?_toArray, List.getElem?_cons_succ, List.getElem?_cons_zero, Option.getD_some]
  obtain ⟨w7, hw7⟩ : ∃ w7, w7 = w6.drew := ⟨_, rfl⟩
  have hf7 : Fr [] w6 w7 := by rw [hw7]; exact Fr.drew _
  rw [← hw7]
  have HL := Lib.hid (fun wx (hf : Fr [] w7 wx) => show (wx.heap[q0]? = some (.cells #[.slice a1 n1 c1, .slice a2 n2 c2, .slice a3 n3 c3] 25 (0, 0))) ∧ (wx.heap[q1]? = some (.cells #[.slice b1 h.names.length d1', .slice b2 h.terms.length d2', .slice b3 h.rules.length d3'] 25 (0, 0))) ∧ Fr [] w2 wx ∧ gramAt wx (.agg #[.slice b1 h.names.length d1', .slice b2 h.terms.length d2', .slice b3 h.rules.length d3']) h from by
    have f6 := hf7.trans hf (by simp) (n := []) (by simp)
    have f2 := HF26.out.trans f6 (by simp) (n := []) (by simp)
    exact ⟨f2.heap HBG.out (by simp), f6.heap HBH.out (by simp), f2, HX6.out.below f6⟩)
  clear hw7 hf7
  iterate 2 (apply wpT_t; · (intro w' hf'; obtain ⟨e1, e2, -, -⟩ := HL.out w' hf'; obtain ⟨x0, x1, x2, -⟩ := three_of_heap e1; obtain ⟨y0, y1, y2, -⟩ := three_of_heap e2; clear e1 e2; go_wp2_with fail; exact ⟨rfl, rfl⟩))
  refine wpT_x ?_
  go_wp2_with fail
  refine (HOG.out _ (HL.out w7 (Fr.refl _ _)).2.2.1 HZG.out).mono ?_
  rintro e w8 ⟨va, rfl, hva, hf8⟩
  go_wp2_with fail
  refine ⟨hf8, rfl, ?_⟩
  refine wpT_x ?_
  go_wp2_with fail
  refine (HOH.out _ _ (HL.out w8 hf8).2.2.2).mono ?_
  rintro e w9 ⟨vb, rfl, hvb, hf9⟩
  have gf9 := hf8.trans hf9 (by simp) (n := []) (by simp)
  go_wp2_with fail
  refine ⟨hf9, rfl, ?_⟩
  refine wpT_x ?_
  go_wp2_with fail
  refine (HSM.out _ _ _ (hva.below hf9) hvb).mono ?_
  rintro e w10 ⟨rfl, hf10⟩
  have gf10 := gf9.trans hf10 (by simp) (n := []) (by simp)
  go_wp2_with fail
  refine ⟨hf10, rfl, ?_⟩
  have GF10 := Lib.hid gf10
  clear hva hvb hf8 hf9 hf10 gf9 gf10
  iterate 3 (apply wpT_t; · (intro w' hf'; obtain ⟨e1, e2, -, -⟩ := HL.out w' (GF10.out.trans hf' (by simp) (by simp)); obtain ⟨x0, x1, x2, -⟩ := three_of_heap e1; obtain ⟨y0, y1, y2, -⟩ := three_of_heap e2; clear e1 e2; go_wp2_with fail; exact ⟨rfl, rfl⟩))
  refine wpT_x ?_
  go_wp2_with fail
  refine (HTG.out _ (HL.out w10 GF10.out).2.2.1 HZG.out).mono ?_
  rintro e w11 ⟨rfl, hf11⟩
  have gf11 := GF10.out.trans hf11 (by simp) (n := []) (by simp)
  go_wp2_with fail
  refine ⟨hf11, rfl, ?_⟩
  refine wpT_x ?_
  go_wp2_with fail
  refine (HTH.out _ _ (HL.out w11 gf11).2.2.2).mono ?_
  rintro e w12 ⟨rfl, hf12⟩
  have gf12 := gf11.trans hf12 (by simp) (n := []) (by simp)
  go_wp2_with fail
  refine ⟨hf12, rfl, ?_⟩
  have GF12 := Lib.hid gf12
  clear hf11 hf12 gf11 gf12
  iterate 4 (apply wpT_t; · (intro w' hf'; obtain ⟨e1, e2, -, -⟩ := HL.out w' (GF12.out.trans hf' (by simp) (by simp)); obtain ⟨x0, x1, x2, -⟩ := three_of_heap e1; obtain ⟨y0, y1, y2, -⟩ := three_of_heap e2; clear e1 e2; go_wp2_with fail; exact ⟨rfl, rfl⟩))
  refine wpT_x ?_
  go_wp2_with fail
  refine (HOH.out _ _ (HL.out w12 GF12.out).2.2.2).mono ?_
  rintro e w13 ⟨vc, rfl, hvc, hf13⟩
  go_wp2_with fail
  refine ⟨hf13, rfl, ?_⟩
  refine wpT_x ?_
  go_wp2_with fail
  refine (HIC.out _ _ hvc).mono ?_
  rintro e w14 ⟨rfl, hf14⟩
  have gf14 := (GF12.out.trans hf13 (by simp) (n := []) (by simp)).trans hf14 (by simp) (n := []) (by simp)
  go_wp2_with fail
  refine ⟨hf14, rfl, ?_⟩
  iterate 2 (apply wpT_t; · (intro w' hf'; go_wp2_with fail; exact ⟨rfl, rfl⟩))
  refine wpT_x ?_
  go_wp2_with fail
  refine (HAW.out _).mono ?_
  rintro e w15 ⟨rfl, hf15⟩
  have gf15 := gf14.trans hf15 (by simp) (n := []) (by simp)
  go_wp2_with fail
  refine ⟨hf15, rfl, ?_⟩
  iterate 2 (apply wpT_t; · (intro w' hf'; go_wp2_with fail; exact ⟨rfl, rfl⟩))
  refine wpT_end ?_
  go_wp2_with fail
  go_ret
  exact ⟨rfl, HF2.out.trans (HL.out w15 gf15).2.2.1 (by simp) (by simp)⟩
end Go.Proofs.YtgfpkmnmdehkpaaGreat
