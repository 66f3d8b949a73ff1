/- The program's canonical grammars (layer 16): the orders of names and of terminals, as closures over a grammar's box. -/
import Derived.Test.YtjlkcdmeiakkbaaGreatDoorCs
import Derived.Test.YtjlkcdmeiakkbaaGreatDoorBs
import Derived.Test.YtjlkcdmeiakkbaaGreatDoorDt
set_option linter.unusedVariables false
set_option linter.unusedSimpArgs false
namespace Go.Proofs.YtjlkcdmeiakkbaaGreatDoor
open Go.RowKit Go.Lib

theorem pstr_cmp (a b : List UInt8) (w : World) : Calls Tryz.prog 68 #[encStr a, encStr b] w fun e w' => e = .returned (.int .i64 (compareBytes a b)) ∧ w' = w := by
  have := Tryz.strings_Compare ⟨a.toArray⟩ ⟨b.toArray⟩ w
  simpa [encStr] using this
set_option maxRecDepth 100000 in
set_option maxHeartbeats 1000000 in
theorem pcfN_any (l : List (List UInt8)) (v1 v2 v3 : Value) (q x y : Nat) (w : World) (hb : w.heap[q]? = some (.cells #[v1, v2, v3] 25 (0, 0))) (hl : strsAt w v1 l) (hx : x < l.length) (hy : y < l.length) :
    Calls Tryz.prog 66 #[.int .i64 (x : Int), .int .i64 (y : Int), .pointer (some ⟨q, 0, none⟩)] w fun e w' => e = .returned (.int .i64 (cfN l x y)) ∧ Gw w w' := by
  have HC := Lib.hid (fun wx => pcmpI (x : Int) (y : Int) wx)
  by_cases h0 : x = 0 ∨ y = 0
  · have e : cfN l x y = compareInt x y := by unfold cfN; rw [if_pos h0]
    rw [e]
    obtain ⟨C, hC⟩ : ∃ C, C = compareInt (x : Int) (y : Int) := ⟨_, rfl⟩
    rw [← hC] at HC ⊢
    clear hC e hb hl hx hy
    by_cases hx0 : x = 0
    · subst hx0
      clear h0
      go_enter Tryz.func66, Tryz.ntmps66
      go_wp2_with (go_at_call 67; refine (HC.out _).mono ?_; rintro e w4 ⟨rfl, rfl⟩)
      go_ret
      exact ⟨rfl, Gw.refl _⟩
    · have e1 : ((x : Int) == 0) = false := by rw [beq_eq_false_iff_ne]; omega
      have e2 : ((y : Int) == 0) = true := by rw [beq_iff_eq]; omega
      clear h0 hx0
      go_enter Tryz.func66, Tryz.ntmps66
      go_wp2_with (go_at_call 67; refine (HC.out _).mono ?_; rintro e w4 ⟨rfl, rfl⟩)
      go_ret
      exact ⟨rfl, Gw.refl _⟩
  · have e : cfN l x y = compareBytes (l[x]'hx) (l[y]'hy) := by unfold cfN; rw [if_neg h0, getD_lt hx, getD_lt hy]
    rw [e]
    have HS := Lib.hid (fun wx => pstr_cmp (l[x]'hx) (l[y]'hy) wx)
    have e1 : ((x : Int) == 0) = false := by rw [beq_eq_false_iff_ne]; omega
    have e2 : ((y : Int) == 0) = false := by rw [beq_eq_false_iff_ne]; omega
    obtain ⟨a, cap, rfl, hle, hmx⟩ := hl.form
    obtain ⟨b, off, rfl, -⟩ := str_cell hl x hx
    have HB := Lib.hid hb
    have HL := Lib.hid hl
    obtain ⟨C, hC⟩ : ∃ C, C = compareBytes (l[x]'hx) (l[y]'hy) := ⟨_, rfl⟩
    obtain ⟨sx, hsx⟩ : ∃ s, s = l[x]'hx := ⟨_, rfl⟩
    obtain ⟨sy, hsy⟩ : ∃ s, s = l[y]'hy := ⟨_, rfl⟩
    have HSX := Lib.hid hsx
    have HSY := Lib.hid hsy
    rw [← hC] at HS ⊢
    rw [← hsx, ← hsy] at HS
    obtain ⟨n, hn⟩ : ∃ n, n = l.length := ⟨_, rfl⟩
    have hxn : x < n := by rw [hn]; exact hx
    have hyn : y < n := by rw [hn]; exact hy
    rw [← hn] at HB HL hle
    clear hC e hb hl h0 hsx hsy hn
    go_enter Tryz.func66, Tryz.ntmps66
    go_upto_region 3 with fail
    refine wp_region_T Gw Gw.refl (fun _ _ _ => Gw.trans) [(0, false), (1, false), (2, false), (3, false), (4, false), (5, false), (6, false), (7, false), (8, false), (9, false), (10, true), (11, false)] 26 rfl (by kernel_rfl) (by kernel_rfl) (by kernel_rfl) (fun c a d v w h => by cases d <;> exact h) ?_
    simp only [List.map_cons, List.map_nil, List.getElem?_toArray, List.getElem?_cons_succ, List.getElem?_cons_zero, Option.getD_some]
    obtain ⟨w3, hw3⟩ : ∃ w3, w3 = w.drew := ⟨_, rfl⟩
    have hg3 : Gw w w3 := by rw [hw3]; exact Gw.drew _
    rw [← hw3]
    have HG3 := Lib.hid hg3
    clear hw3 hg3
    iterate 10 (apply wpT_t; · (intro w' hf'; have hfr := (HG3.out.trans hf').fr; obtain ⟨z0, z1, z2, -⟩ := three_of_heap (hfr.heap HB.out (by simp)); obtain ⟨_, _, eb0, k0⟩ := str_cell (HL.out.below hfr) x hx; cases eb0; obtain ⟨_, _, eb, k1⟩ := str_cell (HL.out.below hfr) y hy; cases eb; rw [← HSX.out] at k0; rw [← HSY.out] at k1; clear hfr; go_wp2_with fail; exact ⟨rfl, rfl⟩))
    refine wpT_x ?_
    go_wp2_with fail
    refine (HS.out _).mono ?_
    rintro e w4 ⟨rfl, rfl⟩
    go_wp2_with fail
    refine ⟨Gw.refl _, rfl, ?_⟩
    apply wpT_t
    · intro w' hf'
      go_wp2_with fail
      exact ⟨rfl, rfl⟩
    refine wpT_end ?_
    go_wp2_with fail
    go_ret
    exact ⟨rfl, HG3.out⟩
set_option maxRecDepth 100000 in
set_option maxHeartbeats 1000000 in
theorem pcfT_any (l : List (List UInt8)) (v1 v2 v3 : Value) (q x y : Nat) (w : World) (hb : w.heap[q]? = some (.cells #[v1, v2, v3] 25 (0, 0))) (hl : strsAt w v2 l) (hx : x < l.length) (hy : y < l.length) :
    Calls Tryz.prog 69 #[.int .i64 (x : Int), .int .i64 (y : Int), .pointer (some ⟨q, 0, none⟩)] w fun e w' => e = .returned (.int .i64 (cfT l x y)) ∧ Gw w w' := by
  have e : cfT l x y = compareBytes (l[x]'hx) (l[y]'hy) := by unfold cfT; rw [getD_lt hx, getD_lt hy]
  rw [e]
  have HS := Lib.hid (fun wx => pstr_cmp (l[x]'hx) (l[y]'hy) wx)
  obtain ⟨a, cap, rfl, hle, hmx⟩ := hl.form
  obtain ⟨b, off, rfl, -⟩ := str_cell hl x hx
  have HB := Lib.hid hb
  have HL := Lib.hid hl
  obtain ⟨C, hC⟩ : ∃ C, C = compareBytes (l[x]'hx) (l[y]'hy) := ⟨_, rfl⟩
  obtain ⟨sx, hsx⟩ : ∃ s, s = l[x]'hx := ⟨_, rfl⟩
  obtain ⟨sy, hsy⟩ : ∃ s, s = l[y]'hy := ⟨_, rfl⟩
  have HSX := Lib.hid hsx
  have HSY := Lib.hid hsy
  rw [← hC] at HS ⊢
  rw [← hsx, ← hsy] at HS
  obtain ⟨n, hn⟩ : ∃ n, n = l.length := ⟨_, rfl⟩
  have hxn : x < n := by rw [hn]; exact hx
  have hyn : y < n := by rw [hn]; exact hy
  rw [← hn] at HB HL hle
  clear hC e hb hl hsx hsy hn
  go_enter Tryz.func69, Tryz.ntmps69
  go_upto_region 1 with fail
  refine wp_region_T Gw Gw.refl (fun _ _ _ => Gw.trans) [(0, false), (1, false), (2, false), (3, false), (4, false), (5, false), (6, false), (7, false), (8, false), (9, false), (10, true), (11, false)] 17 rfl (by kernel_rfl) (by kernel_rfl) (by kernel_rfl) (fun c a d v w h => by cases d <;> exact h) ?_
  simp only [List.map_cons, List.map_nil, List.getElem?_toArray, List.getElem?_cons_succ, List.getElem?_cons_zero, Option.getD_some]
  obtain ⟨w3, hw3⟩ : ∃ w3, w3 = w.drew := ⟨_, rfl⟩
  have hg3 : Gw w w3 := by rw [hw3]; exact Gw.drew _
  rw [← hw3]
  have HG3 := Lib.hid hg3
  clear hw3 hg3
  iterate 10 (apply wpT_t; · (intro w' hf'; have hfr := (HG3.out.trans hf').fr; obtain ⟨z0, z1, z2, -⟩ := three_of_heap (hfr.heap HB.out (by simp)); obtain ⟨_, _, eb0, k0⟩ := str_cell (HL.out.below hfr) x hx; cases eb0; obtain ⟨_, _, eb, k1⟩ := str_cell (HL.out.below hfr) y hy; cases eb; rw [← HSX.out] at k0; rw [← HSY.out] at k1; clear hfr; go_wp2_with fail; exact ⟨rfl, rfl⟩))
  refine wpT_x ?_
  go_wp2_with fail
  refine (HS.out _).mono ?_
  rintro e w4 ⟨rfl, rfl⟩
  go_wp2_with fail
  refine ⟨Gw.refl _, rfl, ?_⟩
  apply wpT_t
  · intro w' hf'
    go_wp2_with fail
    exact ⟨rfl, rfl⟩
  refine wpT_end ?_
  go_wp2_with fail
  go_ret
  exact ⟨rfl, HG3.out⟩
end Go.Proofs.YtjlkcdmeiakkbaaGreatDoor
