/- Several texts in one: GpEa, GpFi, GpB, GpC, GpD. -/
import Derived.LoopTactic
import Derived.BigQuiet
import Derived.WalkMore
import Derived.Laws.EntriesVeiled
import Derived.Test.YtgfpkmnmdehkpaaGreatGa
import Derived.Test.YtgfpkmnmdehkpaaGreatBs
import Derived.Test.YtgfpkmnmdehkpaaGreatDt
set_option linter.unusedVariables false
set_option linter.unusedSimpArgs false
/-! The program's grammars (layer 14): all, slices.ContainsFunc and slices.IndexFunc, at the alternatives of a line. Written by wip/tools/gen_gpe.py. -/
namespace Go.Proofs.YtgfpkmnmdehkpaaGreat
open Go.RowKit

/-- The closure of 'all': the predicate, turned round. -/
def CLV_alt (q : Nat) : Value := .func (.func 136) #[] #[.pointer (some ⟨q, 0, none⟩)]
def FV_alt : Value := .func (.func 99) #[] #[]
set_option maxRecDepth 100000 in
theorem pcl_alt (x : (List ItemD)) (v : Value) (B : Bool) (q : Nat) (w : World) (hq : w.cell? ⟨q, 0, none⟩ = some FV_alt) (hv : itemsAt w v x)
    (hc : Calls Tryz.prog 99 #[v] w fun e w' => e = .returned (.bool B) ∧ Fr [] w w') : Calls Tryz.prog 136 #[v, .pointer (some ⟨q, 0, none⟩)] w fun e w' => e = .returned (.bool (!B)) ∧ Fr [] w w' := by
  unfold FV_alt at hq
  obtain ⟨a, c, rfl, h1, h2⟩ := hv.form
  obtain ⟨n, hn⟩ : ∃ n, n = x.length := ⟨_, rfl⟩
  rw [← hn] at hc ⊢
  have HC := Lib.hid hc
  clear hc hv h1 hn
  go_enter Tryz.func136, Tryz.ntmps136
  go_wp2_with (go_at_call 99; refine HC.out.mono ?_; rintro e w1 ⟨rfl, hf1⟩)
  go_ret
  exact ⟨rfl, hf1⟩
def HP_alt (w : World) (l : List (List ItemD)) (p : (List ItemD) → Bool) : Prop := ∀ x ∈ l, ∀ (v : Value) (wx : World), Fr [] w wx → itemsAt wx v x → Calls Tryz.prog 99 #[v] wx fun e w' => e = .returned (.bool (p x)) ∧ Fr [] wx w'
set_option maxRecDepth 100000 in
set_option maxHeartbeats 1000000 in
theorem pidx_alt (l : List (List ItemD)) (p : (List ItemD) → Bool) (lv : Value) (q : Nat) (w : World) (h : altsAt w lv l) (hq : w.cell? ⟨q, 0, none⟩ = some FV_alt) (hp : HP_alt w l p) :
    Calls Tryz.prog 152 #[lv, CLV_alt q] w (IdxP l p w) := by
  obtain ⟨a0, c0, rfl, hle, hmx⟩ := h.form
  have HE := Lib.hid h
  have HP := Lib.hid hp
  have HQ := Lib.hid hq
  unfold CLV_alt
  clear h hp hq
  go_enter Tryz.func152, Tryz.ntmps152
  go_wp2_with fail
  go_loopw [8] (IdxRelP w l p) (fun iv _ => l.length - (intOf iv).toNat)
  case atStart => exact ⟨0, Nat.zero_le _, rfl, fun j hj => by omega, Fr.refl _ _⟩
  case round =>
    obtain ⟨k, hk, rfl, hall, hf⟩ := hrel
    have HA := Lib.hid hall
    have HF := Lib.hid hf
    clear hall
    by_cases hkn : k < l.length
    · have hd2 : decide (k < l.length) = true := decide_eq_true hkn
      obtain ⟨b, off, v, rfl, hc0, hr⟩ := alt_cell (HE.out.below hf) k hkn
      obtain ⟨x, hx⟩ : ∃ x, x = l[k]'hkn := ⟨_, rfl⟩
      rw [← hx] at hr
      have hm : x ∈ l := by rw [hx]; exact List.getElem_mem hkn
      have hcl := pcl_alt x v (p x) q wr (hf.cell HQ.out (by simp)) hr (HP.out x hm v wr hf hr)
      obtain ⟨a, c, rfl, h1, h2⟩ := hr.form
      obtain ⟨n, hn⟩ : ∃ n, n = x.length := ⟨_, rfl⟩
      rw [← hn] at hcl hc0
      clear hr h1 hn
      have HX := Lib.hid hx
      cases hb : p x with
      | false =>
        rw [hb] at hcl
        have HD := Lib.hid hcl
        have HB := Lib.hid hb
        clear hcl hf hx hm hb
        go_wp2_with (go_at_call 136; refine HD.out.mono ?_; rintro e w1 ⟨rfl, hf1⟩)
        go_ret
        exact ⟨_, rfl, .inr ⟨by omega, all_false (l := l) (p := p) hkn (by rw [← HX.out]; exact HB.out)⟩, HF.out.trans hf1 (by simp) (by simp)⟩
      | true =>
        rw [hb] at hcl
        have HD := Lib.hid hcl
        have HB := Lib.hid hb
        clear hcl hf hx hm hb
        go_wp2_with (go_at_call 136; refine HD.out.mono ?_; rintro e w1 ⟨rfl, hf1⟩)
        refine ⟨⟨k + 1, by omega, by go_num, fun j hj hjl => ?_, HF.out.trans hf1 (by simp) (by simp)⟩, by simp [intOf]; omega⟩
        by_cases e : j = k
        · subst e; rw [← HX.out]; exact HB.out
        · exact HA.out j (by omega) hjl
    · have hd2 : decide (k < l.length) = false := decide_eq_false hkn
      have HKN := Lib.hid hkn
      clear hf hkn
      go_wp2_with fail
      go_ret
      exact ⟨_, rfl, .inl ⟨rfl, all_true (l := l) (p := p) (fun j hj => HA.out j (by have := HKN.out; omega) hj)⟩, HF.out⟩
theorem pcon_alt (l : List (List ItemD)) (p : (List ItemD) → Bool) (lv : Value) (q : Nat) (w : World) (h : altsAt w lv l) (hq : w.cell? ⟨q, 0, none⟩ = some FV_alt) (hp : HP_alt w l p) :
    Calls Tryz.prog 135 #[lv, CLV_alt q] w fun e w' => e = .returned (.bool (!l.all p)) ∧ Fr [] w w' := by
  have hix := pidx_alt l p lv q w h hq hp
  obtain ⟨a0, c0, rfl, hle, hmx⟩ := h.form
  unfold CLV_alt at hix ⊢
  cases ha : l.all p with
  | true =>
    have HI := Lib.hid (idxP_yes ha hix)
    clear hix h hq hp ha
    go_enter Tryz.func135, Tryz.ntmps135
    go_wp2_with (go_at_call 152; refine HI.out.mono ?_; rintro e w1 ⟨rfl, hf1⟩)
    go_ret
    exact ⟨rfl, hf1⟩
  | false =>
    have HI := Lib.hid (idxP_no ha hix)
    clear hix h hq hp ha
    go_enter Tryz.func135, Tryz.ntmps135
    go_wp2_with (go_at_call 152; refine HI.out.mono ?_; rintro e w1 ⟨r, rfl, hr, hf1⟩; have hd : decide (0 ≤ r) = true := decide_eq_true hr)
    go_ret
    exact ⟨rfl, hf1⟩
set_option maxRecDepth 100000 in
theorem pall_alt (l : List (List ItemD)) (p : (List ItemD) → Bool) (lv : Value) (w : World) (h : altsAt w lv l) (hp : HP_alt w l p) :
    Calls Tryz.prog 98 #[lv, FV_alt] w fun e w' => e = .returned (.bool (l.all p)) ∧ Fr [] w w' := by
  have hf0 := Fr.alloc w (.cells #[FV_alt] 139)
  have hb0 := heap_alloc_new w (.cells #[FV_alt] 139)
  obtain ⟨w0, hw0⟩ : ∃ w0, w0 = w.alloc (.cells #[FV_alt] 139) := ⟨_, rfl⟩
  obtain ⟨q, hq⟩ : ∃ q, q = w.heap.size := ⟨_, rfl⟩
  rw [← hw0] at hf0 hb0
  rw [← hq] at hb0
  have hcon := pcon_alt l p lv q w0 (h.below hf0) (by rw [cell_of_heap hb0]; rfl) (fun x hx v wx hfx hr => hp x hx v wx (hf0.trans hfx (by simp) (by simp)) hr)
  obtain ⟨a0, c0, rfl, hle, hmx⟩ := h.form
  unfold CLV_alt at hcon
  have HC := Lib.hid hcon
  have HW := Lib.hid hw0
  have HQ := Lib.hid hq
  unfold FV_alt at HW ⊢
  obtain ⟨R, hR⟩ : ∃ R, R = l.all p := ⟨_, rfl⟩
  rw [← hR] at HC ⊢
  clear hcon h hp hw0 hq hb0 hR
  go_enter Tryz.func98, Tryz.ntmps98
  go_upto_region 1 with fail
  rw [← HW.out, ← HQ.out]
  go_wp2_with (go_at_call 135; refine HC.out.mono ?_; rintro e w1 ⟨rfl, hf1⟩)
  go_ret
  exact ⟨by simp, hf0.trans hf1 (by simp) (by simp)⟩
end Go.Proofs.YtgfpkmnmdehkpaaGreat

/-! The program's linesFit's predicate (split out of GpF). -/
namespace Go.Proofs.YtgfpkmnmdehkpaaGreat
open Go.RowKit


set_option maxRecDepth 100000 in
theorem pfit1_any (x : List ItemD) (v : Value) (w : World) (hv : itemsAt w v x) : Calls Tryz.prog 99 #[v] w fun e w' => e = .returned (.bool (decide (x.length ≤ 64))) ∧ Fr [] w w' := by
  obtain ⟨a, c, rfl, h1, h2⟩ := hv.form
  obtain ⟨n, hn⟩ : ∃ n, n = x.length := ⟨_, rfl⟩
  rw [← hn] at h1 ⊢
  clear hv hn
  obtain ⟨d, hd⟩ : ∃ d, d = decide (n ≤ 64) := ⟨_, rfl⟩
  have hd2 : decide ((n : Int) ≤ 64) = d := by rw [hd]; exact decide_eq_decide.2 (by omega)
  rw [← hd]
  clear hd
  go_enter Tryz.func99, Tryz.ntmps99
  go_wp2_with fail
  go_ret
  exact ⟨by first | rfl | (rw [← hd2]; rfl) | simp_all, Fr.refl _ _⟩
end Go.Proofs.YtgfpkmnmdehkpaaGreat

/-! The program's grammars (layer 14): slices.Equal at numbers and texts. Written by wip/tools/gen_gpb.py. -/
namespace Go.Proofs.YtgfpkmnmdehkpaaGreat
open Go.RowKit

/-- Two lists agree up to a place. -/
def EqRelT {α : Type} (w : World) (a b : List α) (iv : Value) (wx : World) : Prop := ∃ k : Nat, k ≤ a.length ∧ iv = .int .i64 (k : Int) ∧ (∀ j (_ : j < k) (h1 : j < a.length) (h2 : j < b.length), a[j]'h1 = b[j]'h2) ∧ Fr [] w wx
set_option maxRecDepth 100000 in
set_option maxHeartbeats 1000000 in
theorem peqi_any (a b : List Int) (va vb : Value) (w : World) (h1 : intsAt w va a) (h2 : intsAt w vb b) : Calls Tryz.prog 97 #[va, vb] w fun e w' => e = .returned (.bool (decide (a = b))) ∧ Fr [] w w' := by
  obtain ⟨a0, c0, rfl, hle, hmx⟩ := h1.form
  obtain ⟨a1, c1, rfl, hle1, hmx1⟩ := h2.form
  have H1 := Lib.hid h1
  have H2 := Lib.hid h2
  clear h1 h2
  obtain ⟨R, hR⟩ : ∃ R, R = decide (a = b) := ⟨_, rfl⟩
  rw [← hR]
  have HR := Lib.hid hR
  clear hR
  by_cases hl : a.length = b.length
  · have hx : ((a.length : Int) != (b.length : Int)) = false := by rw [hl]; simp
    have HL := Lib.hid hl
    have hl1 : a.length ≤ b.length := by omega
    have hl2 : b.length ≤ a.length := by omega
    clear hl
    go_enter Tryz.func97, Tryz.ntmps97
    go_wp2_with fail
    go_loopw [13] (EqRelT w a b) (fun iv _ => a.length - (intOf iv).toNat)
    case atStart => exact ⟨0, Nat.zero_le _, rfl, fun j hj => by omega, Fr.refl _ _⟩
    case round =>
      obtain ⟨k, hk, rfl, hall, hf⟩ := hrel
      have HA := Lib.hid hall
      have HF := Lib.hid hf
      clear hall
      by_cases hkn : k < a.length
      · have hd1 : decide (k < a.length) = true := decide_eq_true hkn
        have hkb : k < b.length := by omega
        obtain ⟨p, off, rfl, hc⟩ := int_cell (H1.out.below hf) k hkn
        obtain ⟨q, off2, rfl, hc2⟩ := int_cell (H2.out.below hf) k hkb
        obtain ⟨x, hx⟩ : ∃ x, x = a[k]'hkn := ⟨_, rfl⟩
        obtain ⟨y, hy⟩ : ∃ y, y = b[k]'hkb := ⟨_, rfl⟩
        rw [← hx] at hc
        rw [← hy] at hc2
        have HX := Lib.hid hx
        have HY := Lib.hid hy
        clear hx hy hf
        by_cases he : x = y
        · have hne : (x != y) = false := by rw [he]; simp
          have hne2 : (!x == y) = false := by rw [he]; simp
          have HE := Lib.hid he
          clear he
          go_upto_region 6 with fail
          go_quiet (fail)
          go_wp2_with fail
          refine ⟨⟨k + 1, by omega, by go_num, fun j hj g1 g2 => ?_, HF.out.andDrewN nq⟩, by simp [intOf]; omega⟩
          by_cases e : j = k
          · subst e; rw [← HX.out, ← HY.out]; exact HE.out
          · exact HA.out j (by omega) g1 g2
        · have hne : (x != y) = true := by rw [bne_iff_ne]; exact he
          have hne2 : (!x == y) = true := by rw [show (x == y) = false from by rw [beq_eq_false_iff_ne]; exact he]; rfl
          have HRF := Lib.hid (show R = false by
            rw [HR.out]; exact decide_eq_false (fun e => he (by rw [HX.out, HY.out]; simp [e])))
          clear he
          go_upto_region 6 with fail
          go_quiet (fail)
          go_wp2_with fail
          go_ret
          exact ⟨by rw [HRF.out]; rfl, HF.out.andDrewN nq⟩
      · have hd1 : decide (k < a.length) = false := decide_eq_false hkn
        have HRT := Lib.hid (show R = true by
          rw [HR.out]
          exact decide_eq_true (List.ext_getElem HL.out (fun j g1 g2 => HA.out j (by omega) g1 g2)))
        clear hf
        go_wp2_with fail
        go_ret
        exact ⟨by rw [HRT.out]; rfl, HF.out⟩
  · have hx : ((a.length : Int) != (b.length : Int)) = true := by rw [bne_iff_ne]; omega
    have HRF := Lib.hid (show R = false by rw [HR.out]; exact decide_eq_false (fun e => hl (by rw [e])))
    clear hl
    go_enter Tryz.func97, Tryz.ntmps97
    go_wp2_with fail
    go_ret
    exact ⟨by rw [HRF.out]; rfl, Fr.refl _ _⟩
set_option maxRecDepth 100000 in
set_option maxHeartbeats 1000000 in
theorem peqs_any (a b : List (List UInt8)) (va vb : Value) (w : World) (h1 : strsAt w va a) (h2 : strsAt w vb b) : Calls Tryz.prog 68 #[va, vb] w fun e w' => e = .returned (.bool (decide (a = b))) ∧ Fr [] w w' := by
  obtain ⟨a0, c0, rfl, hle, hmx⟩ := h1.form
  obtain ⟨a1, c1, rfl, hle1, hmx1⟩ := h2.form
  have H1 := Lib.hid h1
  have H2 := Lib.hid h2
  clear h1 h2
  obtain ⟨R, hR⟩ : ∃ R, R = decide (a = b) := ⟨_, rfl⟩
  rw [← hR]
  have HR := Lib.hid hR
  clear hR
  by_cases hl : a.length = b.length
  · have hx : ((a.length : Int) != (b.length : Int)) = false := by rw [hl]; simp
    have HL := Lib.hid hl
    have hl1 : a.length ≤ b.length := by omega
    have hl2 : b.length ≤ a.length := by omega
    clear hl
    go_enter Tryz.func68, Tryz.ntmps68
    go_wp2_with fail
    go_loopw [13] (EqRelT w a b) (fun iv _ => a.length - (intOf iv).toNat)
    case atStart => exact ⟨0, Nat.zero_le _, rfl, fun j hj => by omega, Fr.refl _ _⟩
    case round =>
      obtain ⟨k, hk, rfl, hall, hf⟩ := hrel
      have HA := Lib.hid hall
      have HF := Lib.hid hf
      clear hall
      by_cases hkn : k < a.length
      · have hd1 : decide (k < a.length) = true := decide_eq_true hkn
        have hkb : k < b.length := by omega
        obtain ⟨p, off, rfl, hc⟩ := str_cell (H1.out.below hf) k hkn
        obtain ⟨q, off2, rfl, hc2⟩ := str_cell (H2.out.below hf) k hkb
        obtain ⟨x, hx⟩ : ∃ x, x = a[k]'hkn := ⟨_, rfl⟩
        obtain ⟨y, hy⟩ : ∃ y, y = b[k]'hkb := ⟨_, rfl⟩
        rw [← hx] at hc
        rw [← hy] at hc2
        have HX := Lib.hid hx
        have HY := Lib.hid hy
        clear hx hy hf
        by_cases he : x = y
        · have hne : (x != y) = false := by rw [he]; simp
          have hne2 : (!x == y) = false := by rw [he]; simp
          have HE := Lib.hid he
          clear he
          go_upto_region 6 with fail
          go_quiet (fail)
          go_wp2_with fail
          refine ⟨⟨k + 1, by omega, by go_num, fun j hj g1 g2 => ?_, HF.out.andDrewN nq⟩, by simp [intOf]; omega⟩
          by_cases e : j = k
          · subst e; rw [← HX.out, ← HY.out]; exact HE.out
          · exact HA.out j (by omega) g1 g2
        · have hne : (x != y) = true := by rw [bne_iff_ne]; exact he
          have hne2 : (!x == y) = true := by rw [show (x == y) = false from by rw [beq_eq_false_iff_ne]; exact he]; rfl
          have HRF := Lib.hid (show R = false by
            rw [HR.out]; exact decide_eq_false (fun e => he (by rw [HX.out, HY.out]; simp [e])))
          clear he
          go_upto_region 6 with fail
          go_quiet (fail)
          go_wp2_with fail
          go_ret
          exact ⟨by rw [HRF.out]; rfl, HF.out.andDrewN nq⟩
      · have hd1 : decide (k < a.length) = false := decide_eq_false hkn
        have HRT := Lib.hid (show R = true by
          rw [HR.out]
          exact decide_eq_true (List.ext_getElem HL.out (fun j g1 g2 => HA.out j (by omega) g1 g2)))
        clear hf
        go_wp2_with fail
        go_ret
        exact ⟨by rw [HRT.out]; rfl, HF.out⟩
  · have hx : ((a.length : Int) != (b.length : Int)) = true := by rw [bne_iff_ne]; omega
    have HRF := Lib.hid (show R = false by rw [HR.out]; exact decide_eq_false (fun e => hl (by rw [e])))
    clear hl
    go_enter Tryz.func68, Tryz.ntmps68
    go_wp2_with fail
    go_ret
    exact ⟨by rw [HRF.out]; rfl, Fr.refl _ _⟩
end Go.Proofs.YtgfpkmnmdehkpaaGreat

/-! The program's grammars (layer 14): sameRule, slices.EqualFunc at it, Same. -/
namespace Go.Proofs.YtgfpkmnmdehkpaaGreat
open Go.RowKit
set_option maxRecDepth 100000 in
set_option maxHeartbeats 1000000 in
theorem psamerule_any (r1 r2 : RuleG) (v1 v2 : Value) (w : World) (h1 : intsAt w v1 r1.right) (h2 : intsAt w v2 r2.right) : Calls Tryz.prog 70 #[ruleV r1.left v1, ruleV r2.left v2] w fun e w' => e = .returned (.bool (boolOf (r1 = r2))) ∧ Fr [] w w' := by
  have heq := fun wx (hfx : Fr [] w wx) => peqi_any r1.right r2.right v1 v2 wx (h1.below hfx) (h2.below hfx)
  obtain ⟨a0, c0, rfl, hle, hmx⟩ := h1.form
  obtain ⟨a1, c1, rfl, hle1, hmx1⟩ := h2.form
  obtain ⟨R, hR⟩ : ∃ R, R = boolOf (r1 = r2) := ⟨_, rfl⟩
  obtain ⟨l1, s1⟩ := r1
  obtain ⟨l2, s2⟩ := r2
  rw [← hR]
  have hyes : l1 = l2 → R = decide (s1 = s2) := fun e => by
    rw [hR]
    by_cases q : s1 = s2
    · rw [decide_eq_true q]; exact boolOf_true (by rw [e, q])
    · rw [decide_eq_false q]; exact boolOf_false (fun h => q (by cases h; rfl))
  have hno : l1 ≠ l2 → R = false := fun e => by rw [hR]; exact boolOf_false (fun h => e (by cases h; rfl))
  simp only at h1 h2 hle hmx hle1 hmx1 heq ⊢
  unfold ruleV
  have hb0 := two_of_new w (.int .i64 l1) (.slice a0 s1.length c0) 49
  have hf0 := Fr.alloc w (.cells #[.int .i64 l1, .slice a0 s1.length c0] 49)
  obtain ⟨w0, hw0⟩ : ∃ w0, w0 = w.alloc (.cells #[.int .i64 l1, .slice a0 s1.length c0] 49) := ⟨_, rfl⟩
  obtain ⟨q0, hq0⟩ : ∃ q0, q0 = w.heap.size := ⟨_, rfl⟩
  rw [← hw0] at hb0 hf0
  rw [← hq0] at hb0
  have hb1 := two_of_new w0 (.int .i64 l2) (.slice a1 s2.length c1) 49
  have hf1 := Fr.alloc w0 (.cells #[.int .i64 l2, .slice a1 s2.length c1] 49)
  obtain ⟨w1, hw1⟩ : ∃ w1, w1 = w0.alloc (.cells #[.int .i64 l2, .slice a1 s2.length c1] 49) := ⟨_, rfl⟩
  obtain ⟨q1, hq1⟩ : ∃ q1, q1 = w0.heap.size := ⟨_, rfl⟩
  rw [← hw1] at hb1 hf1
  rw [← hq1] at hb1
  have HB0 := Lib.hid (hf1.heap hb0 (by simp))
  have HB1 := Lib.hid hb1
  have HF := Lib.hid (hf0.trans hf1 (by simp) (n := []) (by simp))
  have HW0 := Lib.hid hw0
  have HQ0 := Lib.hid hq0
  have HW1 := Lib.hid hw1
  have HQ1 := Lib.hid (show q1 = q0 + 1 by rw [hq1, hw0, World.size_alloc, ← hq0])
  have HE := Lib.hid heq
  clear hR hb0 hf0 hw0 hq0 hb1 hf1 hw1 hq1 h1 h2 heq
  go_enter Tryz.func70, Tryz.ntmps70
  go_upto_region 1 with fail
  rw [← HQ0.out, ← HW0.out, ← HQ1.out, ← HW1.out]
  clear HW0 HQ0 HW1 HQ1
  obtain ⟨y0, y1, -⟩ := two_cells HB0.out
  obtain ⟨x0, x1, -⟩ := two_cells HB1.out
  by_cases he : l1 = l2
  · have hd : (l1 == l2) = true := by simp [he]
    have HR := Lib.hid (hyes he)
    clear he hyes hno
    go_wp2_with (go_at_call 97; refine (HE.out _ HF.out).mono ?_; rintro e w2 ⟨rfl, hf2⟩)
    go_ret
    exact ⟨by rw [HR.out]; rfl, HF.out.trans hf2 (by simp) (by simp)⟩
  · have hd : (l1 == l2) = false := by rw [beq_eq_false_iff_ne]; exact he
    have HR := Lib.hid (hno he)
    clear he hyes hno
    go_wp2_with fail
    go_ret
    exact ⟨by rw [HR.out]; rfl, HF.out⟩
set_option maxRecDepth 100000 in
set_option maxHeartbeats 1000000 in
theorem peqr_any (a b : List RuleG) (va vb : Value) (w : World) (h1 : rulesAt w va a) (h2 : rulesAt w vb b) : Calls Tryz.prog 69 #[va, vb, .func (.func 70) #[] #[]] w fun e w' => e = .returned (.bool (boolOf (a = b))) ∧ Fr [] w w' := by
  obtain ⟨a0, c0, rfl, hle, hmx⟩ := h1.form
  obtain ⟨a1, c1, rfl, hle1, hmx1⟩ := h2.form
  have H1 := Lib.hid h1
  have H2 := Lib.hid h2
  clear h1 h2
  obtain ⟨R, hR⟩ : ∃ R, R = boolOf (a = b) := ⟨_, rfl⟩
  rw [← hR]
  have HR := Lib.hid hR
  clear hR
  by_cases hl : a.length = b.length
  · have hx : ((a.length : Int) != (b.length : Int)) = false := by rw [hl]; simp
    have HL := Lib.hid hl
    have hl1 : a.length ≤ b.length := by omega
    have hl2 : b.length ≤ a.length := by omega
    clear hl
    go_enter Tryz.func69, Tryz.ntmps69
    go_wp2_with fail
    go_loopw [17] (EqRelT w a b) (fun iv _ => a.length - (intOf iv).toNat)
    case atStart => exact ⟨0, Nat.zero_le _, rfl, fun j hj => by omega, Fr.refl _ _⟩
    case round =>
      obtain ⟨k, hk, rfl, hall, hf⟩ := hrel
      have HA := Lib.hid hall
      have HF := Lib.hid hf
      clear hall
      by_cases hkn : k < a.length
      · have hd1 : decide (k < a.length) = true := decide_eq_true hkn
        have hkb : k < b.length := by omega
        obtain ⟨p, off, v1, rfl, k0, k1, hr1⟩ := rule_cells (H1.out.below hf) k hkn
        obtain ⟨q, off2, v2, rfl, m0, m1, hr2⟩ := rule_cells (H2.out.below hf) k hkb
        obtain ⟨x, hx⟩ : ∃ x, x = a[k]'hkn := ⟨_, rfl⟩
        obtain ⟨y, hy⟩ : ∃ y, y = b[k]'hkb := ⟨_, rfl⟩
        rw [← hx] at k0 hr1
        rw [← hy] at m0 hr2
        have hcall := fun wx (hfx : Fr [] wr wx) => psamerule_any x y v1 v2 wx (hr1.below hfx) (hr2.below hfx)
        obtain ⟨a2, c2, rfl, hle2, hmx2⟩ := hr1.form
        obtain ⟨a3, c3, rfl, hle3, hmx3⟩ := hr2.form
        obtain ⟨n2, hn2⟩ : ∃ n, n = x.right.length := ⟨_, rfl⟩
        obtain ⟨n3, hn3⟩ : ∃ n, n = y.right.length := ⟨_, rfl⟩
        rw [← hn2] at k1 hr1 hcall hle2
        rw [← hn3] at m1 hr2 hcall hle3
        obtain ⟨l1, hl1'⟩ : ∃ n, n = x.left := ⟨_, rfl⟩
        obtain ⟨l2, hl2'⟩ : ∃ n, n = y.left := ⟨_, rfl⟩
        rw [← hl1'] at k0 hcall
        rw [← hl2'] at m0 hcall
        unfold ruleV at hcall
        have HX := Lib.hid hx
        have HY := Lib.hid hy
        obtain ⟨B, hB⟩ : ∃ B, B = boolOf (x = y) := ⟨_, rfl⟩
        rw [← hB] at hcall
        have HC := Lib.hid hcall
        have HBB := Lib.hid hB
        have hf0 := Fr.alloc wr (.cells #[.int .i64 l1, .slice a2 n2 c2] 49)
        have hb0 := two_of_new wr (.int .i64 l1) (.slice a2 n2 c2) 49
        obtain ⟨w0, hw0⟩ : ∃ w0, w0 = wr.alloc (.cells #[.int .i64 l1, .slice a2 n2 c2] 49) := ⟨_, rfl⟩
        obtain ⟨q0, hq0⟩ : ∃ q0, q0 = wr.heap.size := ⟨_, rfl⟩
        rw [← hw0] at hf0 hb0
        rw [← hq0] at hb0
        have hf1 := Fr.alloc w0 (.cells #[.int .i64 l2, .slice a3 n3 c3] 49)
        have hb1 := two_of_new w0 (.int .i64 l2) (.slice a3 n3 c3) 49
        obtain ⟨w1, hw1⟩ : ∃ w1, w1 = w0.alloc (.cells #[.int .i64 l2, .slice a3 n3 c3] 49) := ⟨_, rfl⟩
        obtain ⟨q1, hq1⟩ : ∃ q1, q1 = w0.heap.size := ⟨_, rfl⟩
        rw [← hw1] at hf1 hb1
        rw [← hq1] at hb1
        have HF1 := Lib.hid (hf0.trans hf1 (by simp) (n := []) (by simp))
        have HW0 := Lib.hid hw0
        have HQ0 := Lib.hid hq0
        have HW1 := Lib.hid hw1
        have HQ1 := Lib.hid hq1
        have HB0 := Lib.hid (hf1.heap hb0 (by simp))
        have HB1 := Lib.hid hb1
        clear hx hy hf hr1 hr2 hn2 hn3 hl1' hl2' hB hcall hw0 hq0 hf1 hb0 hb1 hw1 hq1
        go_upto_region 6 with fail
        rw [← HQ0.out]
        rw [← HW0.out]
        have m0' := hf0.cell m0 (by simp)
        have m1' := hf0.cell m1 (by simp)
        clear hf0 k0 k1 m0 m1
        go_upto_region 7 with fail
        rw [← HQ1.out]
        rw [← HW1.out]
        clear m0' m1' HQ0 HW0 HQ1 HW1
        obtain ⟨y0, y1, -⟩ := two_cells HB0.out
        obtain ⟨x0, x1, -⟩ := two_cells HB1.out
        cases B with
        | true =>
          go_wp2_with (go_at_call 70; refine (HC.out _ HF1.out).mono ?_; rintro e w2 ⟨rfl, hf2⟩)
          refine ⟨⟨k + 1, by omega, by go_num, fun j hj g1 g2 => ?_, (HF.out.trans HF1.out (by simp) (n := []) (by simp)).trans hf2 (by simp) (by simp)⟩, by simp [intOf]; omega⟩
          by_cases e : j = k
          · subst e; rw [← HX.out, ← HY.out]; exact of_boolOf HBB.out.symm
          · exact HA.out j (by omega) g1 g2
        | false =>
          have HRF := Lib.hid (show R = false by
            rw [HR.out]
            refine boolOf_false (fun e => ?_)
            have : boolOf (x = y) = true := boolOf_true (by rw [HX.out, HY.out]; simp [e])
            rw [← HBB.out] at this
            cases this)
          go_wp2_with (go_at_call 70; refine (HC.out _ HF1.out).mono ?_; rintro e w2 ⟨rfl, hf2⟩)
          go_ret
          exact ⟨by rw [HRF.out]; rfl, (HF.out.trans HF1.out (by simp) (n := []) (by simp)).trans hf2 (by simp) (by simp)⟩
      · have hd1 : decide (k < a.length) = false := decide_eq_false hkn
        have HRT := Lib.hid (show R = true by
          rw [HR.out]
          exact boolOf_true (List.ext_getElem HL.out (fun j g1 g2 => HA.out j (by omega) g1 g2)))
        clear hf
        go_wp2_with fail
        go_ret
        exact ⟨by rw [HRT.out]; rfl, HF.out⟩
  · have hx : ((a.length : Int) != (b.length : Int)) = true := by rw [bne_iff_ne]; omega
    have HRF := Lib.hid (show R = false by rw [HR.out]; exact boolOf_false (fun e => hl (by rw [e])))
    clear hl
    go_enter Tryz.func69, Tryz.ntmps69
    go_wp2_with fail
    go_ret
    exact ⟨by rw [HRF.out]; rfl, Fr.refl _ _⟩
end Go.Proofs.YtgfpkmnmdehkpaaGreat

/-! The program's grammars (layer 14): Same. -/
namespace Go.Proofs.YtgfpkmnmdehkpaaGreat
open Go.RowKit

set_option maxRecDepth 100000 in
set_option maxHeartbeats 2000000 in
theorem psame_any : ProgSame := by
  intro g h gv hv w hg hh _ _
  have hnm := fun wx (hfx : Fr [] w wx) (va vb : Value) (h1 : strsAt w va g.names) (h2 : strsAt w vb h.names) => peqs_any g.names h.names va vb wx (h1.below hfx) (h2.below hfx)
  have htm := fun wx (hfx : Fr [] w wx) (va vb : Value) (h1 : strsAt w va g.terms) (h2 : strsAt w vb h.terms) => peqs_any g.terms h.terms va vb wx (h1.below hfx) (h2.below hfx)
  have hrl := fun wx (hfx : Fr [] w wx) (va vb : Value) (h1 : rulesAt w va g.rules) (h2 : rulesAt w vb h.rules) => peqr_any g.rules h.rules va vb wx (h1.below hfx) (h2.below hfx)
  obtain ⟨a1, c1, a2, c2, a3, c3, rfl, ⟨g1, -, -⟩, ⟨g2, -, -⟩, ⟨g3, -, -⟩⟩ := hg.parts
  obtain ⟨b1, d1, b2, d2, b3, d3, rfl, ⟨k1, -, -⟩, ⟨k2, -, -⟩, ⟨k3, -, -⟩⟩ := hh.parts
  clear hg hh
  obtain ⟨R, hR⟩ : ∃ R, R = sameB g h := ⟨_, rfl⟩
  rw [← hR]
  have HR := Lib.hid hR
  have HN := Lib.hid (fun wx hfx => hnm wx hfx _ _ g1 k1)
  have HT := Lib.hid (fun wx hfx => htm wx hfx _ _ g2 k2)
  have HL := Lib.hid (fun wx hfx => hrl wx hfx _ _ g3 k3)
  obtain ⟨n1, hn1⟩ : ∃ n, n = g.names.length := ⟨_, rfl⟩
  obtain ⟨n2, hn2⟩ : ∃ n, n = g.terms.length := ⟨_, rfl⟩
  obtain ⟨n3, hn3⟩ : ∃ n, n = g.rules.length := ⟨_, rfl⟩
  obtain ⟨m1, hm1⟩ : ∃ n, n = h.names.length := ⟨_, rfl⟩
  obtain ⟨m2, hm2⟩ : ∃ n, n = h.terms.length := ⟨_, rfl⟩
  obtain ⟨m3, hm3⟩ : ∃ n, n = h.rules.length := ⟨_, rfl⟩
  rw [← hn1, ← hm1] at HN
  rw [← hn2, ← hm2] at HT
  rw [← hn3, ← hm3] at HL
  rw [← hn1, ← hn2, ← hn3, ← hm1, ← hm2, ← hm3]
  clear hR hnm htm hrl g1 g2 g3 k1 k2 k3 hn1 hn2 hn3 hm1 hm2 hm3
  have hb0 := heap_alloc_new w (.cells #[.slice a1 n1 c1, .slice a2 n2 c2, .slice a3 n3 c3] 25)
  have hf0 := Fr.alloc w (.cells #[.slice a1 n1 c1, .slice a2 n2 c2, .slice a3 n3 c3] 25)
  obtain ⟨w0, hw0⟩ : ∃ w0, w0 = w.alloc (.cells #[.slice a1 n1 c1, .slice a2 n2 c2, .slice a3 n3 c3] 25) := ⟨_, rfl⟩
  obtain ⟨q0, hq0⟩ : ∃ q0, q0 = w.heap.size := ⟨_, rfl⟩
  rw [← hw0] at hb0 hf0
  rw [← hq0] at hb0
  have hb1 := heap_alloc_new w0 (.cells #[.slice b1 m1 d1, .slice b2 m2 d2, .slice b3 m3 d3] 25)
  have hf1 := Fr.alloc w0 (.cells #[.slice b1 m1 d1, .slice b2 m2 d2, .slice b3 m3 d3] 25)
  obtain ⟨w1, hw1⟩ : ∃ w1, w1 = w0.alloc (.cells #[.slice b1 m1 d1, .slice b2 m2 d2, .slice b3 m3 d3] 25) := ⟨_, rfl⟩
  obtain ⟨q1, hq1⟩ : ∃ q1, q1 = w0.heap.size := ⟨_, rfl⟩
  rw [← hw1] at hb1 hf1
  rw [← hq1] at hb1
  have HB0 := Lib.hid (hf1.heap hb0 (by simp))
  have HB1 := Lib.hid hb1
  have HF := Lib.hid (hf0.trans hf1 (by simp) (n := []) (by simp))
  have HW0 := Lib.hid hw0
  have HQ0 := Lib.hid hq0
  have HW1 := Lib.hid hw1
  have HQ1 := Lib.hid (show q1 = q0 + 1 by rw [hq1, hw0, World.size_alloc, ← hq0])
  clear hb0 hf0 hw0 hq0 hb1 hf1 hw1 hq1
  obtain ⟨y0, y1, y2, -⟩ := three_of_heap HB0.out
  obtain ⟨x0, x1, x2, -⟩ := three_of_heap HB1.out
  by_cases e1 : g.names = h.names
  rotate_left
  · rw [decide_eq_false e1] at HN
    have HX := Lib.hid (show R = false by rw [HR.out]; exact boolOf_false (fun e => e1 (by rw [e])))
    clear e1
    go_enter Tryz.func38, Tryz.ntmps38
    go_upto_region 1 with fail
    rw [← HQ0.out, ← HW0.out, ← HQ1.out, ← HW1.out]
    go_wp2_with (go_at_call 68; refine (HN.out _ HF.out).mono ?_; rintro e w2 ⟨rfl, hf2⟩)
    go_ret
    exact ⟨by rw [HX.out]; rfl, HF.out.trans hf2 (by simp) (by simp)⟩
  rw [decide_eq_true e1] at HN
  by_cases e2 : g.terms = h.terms
  rotate_left
  · rw [decide_eq_false e2] at HT
    have HX := Lib.hid (show R = false by rw [HR.out]; exact boolOf_false (fun e => e2 (by rw [e])))
    clear e1 e2
    go_enter Tryz.func38, Tryz.ntmps38
    go_upto_region 1 with fail
    rw [← HQ0.out, ← HW0.out, ← HQ1.out, ← HW1.out]
    go_wp2_with (first
      | (go_at_call 68; have := w2; refine (HT.out _ HF2.out).mono ?_; rintro e w3 ⟨rfl, hf3⟩)
      | (go_at_call 68; refine (HN.out _ HF.out).mono ?_; rintro e w2 ⟨rfl, hf2⟩; have HF2 := Lib.hid (HF.out.trans hf2 (by simp) (n := []) (by simp)); obtain ⟨y0, y1, y2, -⟩ := three_of_heap (hf2.heap HB0.out (by simp)); obtain ⟨x0, x1, x2, -⟩ := three_of_heap (hf2.heap HB1.out (by simp))))
    go_ret
    exact ⟨by rw [HX.out]; rfl, HF2.out.trans hf3 (by simp) (by simp)⟩
  rw [decide_eq_true e2] at HT
  have hall : R = boolOf (g.rules = h.rules) := by
    rw [HR.out]
    exact boolOf_congr ⟨fun e => by rw [e], fun e => GramG.ext' e1 e2 e⟩
  have HX := Lib.hid hall
  clear e1 e2 hall
  go_enter Tryz.func38, Tryz.ntmps38
  go_upto_region 1 with fail
  rw [← HQ0.out, ← HW0.out, ← HQ1.out, ← HW1.out]
  go_wp2_with (first
    | (go_at_call 69; refine (HL.out _ HF3.out).mono ?_; rintro e w4 ⟨rfl, hf4⟩)
    | (go_at_call 68; have := w2; refine (HT.out _ HF2.out).mono ?_; rintro e w3 ⟨rfl, hf3⟩; have HF3 := Lib.hid (HF2.out.trans hf3 (by simp) (n := []) (by simp)); obtain ⟨y0, y1, y2, -⟩ := three_of_heap (hf3.heap (hf2.heap HB0.out (by simp)) (by simp)); obtain ⟨x0, x1, x2, -⟩ := three_of_heap (hf3.heap (hf2.heap HB1.out (by simp)) (by simp)))
    | (go_at_call 68; refine (HN.out _ HF.out).mono ?_; rintro e w2 ⟨rfl, hf2⟩; have HF2 := Lib.hid (HF.out.trans hf2 (by simp) (n := []) (by simp)); obtain ⟨y0, y1, y2, -⟩ := three_of_heap (hf2.heap HB0.out (by simp)); obtain ⟨x0, x1, x2, -⟩ := three_of_heap (hf2.heap HB1.out (by simp))))
  go_ret
  exact ⟨by rw [HX.out]; rfl, HF3.out.trans hf4 (by simp) (by simp)⟩
end Go.Proofs.YtgfpkmnmdehkpaaGreat
