/- The document's Canon (layer 16): its first region, as one contract of what it leaves. -/
import Derived.Test.YtjlkcdmeiakkbaaGreatDoorCg
import Derived.Test.YtjlkcdmeiakkbaaGreatDoorCnB
import Derived.Test.YtjlkcdmeiakkbaaGreatDoorCn
import Derived.Test.YtjlkcdmeiakkbaaGreatDoorGrmA
import Derived.Test.YtjlkcdmeiakkbaaGreatDoorRu
import Derived.Test.YtjlkcdmeiakkbaaGreatDoorBs
set_option linter.unusedVariables false
set_option linter.unusedSimpArgs false
namespace Go.Proofs.YtjlkcdmeiakkbaaGreatDoor
open Go.RowKit

/-- The box of the grammar that is made: its names and terminals are sorted. -/
def CaMid (w : World) (B : Nat) (g : GramG) (sv : Value) (wx : World) : Prop := ∃ q vn vt, sv = .pointer (some ⟨q, 0, none⟩) ∧ wx.heap[q]? = some (.cells #[vn, vt, .slice none 0 0] 25 (0, 0)) ∧ strsAt wx vn (canonN g) ∧ strsAt wx vt (canonT g) ∧ B ≤ q ∧ Fr [] w wx
def rrG (g : GramG) : List RuleG := g.rules.map fun r => symX (canonN g) (canonT g) (ruleX g.names g.terms r)
theorem rr_rules (g : GramG) : rrG g = (rulesX g).map (symX (canonN g) (canonT g)) := by unfold rrG rulesX; rw [List.map_map]; rfl
theorem rr_get (g : GramG) {n : Nat} (h : n < g.rules.length) : (rrG g)[n]'(by unfold rrG; simpa using h) = symX (canonN g) (canonT g) (ruleX g.names g.terms (g.rules[n]'h)) := by unfold rrG; simp
theorem rr_bound {g : GramG} (hv : ValidG g) (x : RuleG) : ∀ y ∈ (symX (canonN g) (canonT g) (ruleX g.names g.terms x)).right, -9223372036854775808 ≤ y ∧ y ≤ 1000000 := by
  intro y hy
  obtain ⟨i, -, rfl⟩ := List.mem_map.1 hy
  have h1 := find_ge (canonN g) i.text
  have h2 := find_ge (canonT g) i.text
  rw [(canonN_perm g).length_eq] at h1
  rw [(canonT_perm g).length_eq] at h2
  have := hv.syms
  unfold symG
  split <;> omega
/-- The first n rules, sorted. -/
def rrTo (g : GramG) (n : Nat) : List RuleG := ((rrG g).take n).foldl (insB lessR 0) []
def CaRel (w : World) (q : Nat) (g : GramG) (vn vt iv : Value) (wx : World) : Prop := ∃ (n : Nat) (rv : Value) (vs : List Value), n ≤ g.rules.length ∧ iv = .int .i64 (n : Int) ∧ wx.heap[q]? = some (.cells #[vn, vt, rv] 25 (0, 0)) ∧ RuRow w.heap.size rv (rrTo g n) vs wx ∧ Fr [q] w wx
/-- The box of the rule that is made. -/
def CrMid (w : World) (l' : Int) (sv : Value) (wx : World) : Prop := ∃ q, sv = .pointer (some ⟨q, 0, none⟩) ∧ wx.heap[q]? = some (.cells #[.int .i64 l', .slice none 0 0] 36 (0, 0)) ∧ w.heap.size ≤ q ∧ Fr [] w wx
def CkRel (w : World) (q : Nat) (l' : Int) (F : Int → Int) (rg : List Int) (iv : Value) (wx : World) : Prop := ∃ (j : Nat) (rgv : Value), j ≤ rg.length ∧ iv = .int .i64 (j : Int) ∧ wx.heap[q]? = some (.cells #[.int .i64 l', rgv] 36 (0, 0)) ∧ wx.ownsRow q 3 1 rgv j (((rg.take j).map F).map intV) ∧ Fr [] w wx
def CiRel (w : World) (o : List RuleG) (r : RuleG) (av : Value) (wx : World) : Prop := ∃ p : Nat, p ≤ o.length ∧ av = .int .i64 (p : Int) ∧ insPos lessR 0 r o o.length = insPos lessR 0 r o p ∧ Fr [] w wx
theorem rules_one {base : Nat} {rv : Value} {R : List RuleG} {vs : List Value} {w : World} (h : RuRow base rv R vs w) (R' : List RuleG) (vs' : List Value) (hs : ∀ z ∈ R'.zip vs', z ∈ R.zip vs) : ∀ u ∈ ruleVs R' vs', u.oneCell' = true := by
  intro u hu
  unfold ruleVs at hu
  obtain ⟨l, hl, hu2⟩ := List.mem_flatten.1 hu
  obtain ⟨z, hz, rfl⟩ := List.mem_map.1 hl
  have hu3 : u = intV z.1.left ∨ u = z.2 := by simpa using hu2
  rcases hu3 with rfl | rfl
  · rfl
  · have := (right_mem (P := fun v r => w.ownsRow base 3 1 v r.right.length (r.right.map intV)) h.vlen).1 h.right z (hs z hz)
    obtain ⟨a, c, e, -⟩ := owns_slice this
    rw [e]
    rfl
theorem rule_setC {w : World} {p : Nat} {a b : Value} {t : TypeId} (h : w.heap[p]? = some (.cells #[a, b] t (0, 0))) (x y : Value) : ((w.setCell ⟨p, 0, none⟩ x).setCell ⟨p, 1, none⟩ y).heap[p]? = some (.cells #[x, y] t (0, 0)) := by
  have h1 := heap_setCell_same h (i := 0) x
  have h2 := heap_setCell_same h1 (i := 1) y
  exact h2
theorem fr_set2C (w : World) (p : Nat) (x y : Value) : Fr [p] w ((w.setCell ⟨p, 0, none⟩ x).setCell ⟨p, 1, none⟩ y) := (Fr.set0 w p 0 x).trans (Fr.set0 _ p 1 y) (fun _ z _ => z) (fun _ z _ => z)
set_option maxRecDepth 100000 in
set_option maxHeartbeats 8000000 in
theorem rcanon_any (g : GramG) (hv : ValidG g) (gv : Value) (w : World) (hg : gramAt w gv g) : Calls Tryz.prog 17 #[gv] w (RGram (canonG g) w) := by
  obtain ⟨iI, hiI, hi0, hi1, hi2⟩ := info_parts infoInt
  obtain ⟨iR, hiR, hr0, hr1, hr2⟩ := info_parts infoRuleC
  obtain ⟨a1, c1, a2, c2, a3, c3, rfl, ⟨h1, q1, p1⟩, ⟨h2, q2, p2⟩, ⟨h3, q3, p3⟩⟩ := hg.parts
  have hb0 := heap_alloc_new w (.cells #[.slice a1 g.names.length c1, .slice a2 g.terms.length c2, .slice a3 g.rules.length c3] 25)
  have hb1 := heap_alloc_new (w.alloc (.cells #[.slice a1 g.names.length c1, .slice a2 g.terms.length c2, .slice a3 g.rules.length c3] 25)) (.cells #[.slice none 0 0, .slice none 0 0, .slice none 0 0] 25)
  have hf0 := Fr.alloc w (.cells #[.slice a1 g.names.length c1, .slice a2 g.terms.length c2, .slice a3 g.rules.length c3] 25)
  have hf1 := Fr.alloc (w.alloc (.cells #[.slice a1 g.names.length c1, .slice a2 g.terms.length c2, .slice a3 g.rules.length c3] 25)) (.cells #[.slice none 0 0, .slice none 0 0, .slice none 0 0] 25)
  obtain ⟨w2, hw2⟩ : ∃ w2, w2 = (w.alloc (.cells #[.slice a1 g.names.length c1, .slice a2 g.terms.length c2, .slice a3 g.rules.length c3] 25)).alloc (.cells #[.slice none 0 0, .slice none 0 0, .slice none 0 0] 25) := ⟨_, rfl⟩
  obtain ⟨q0, hq0⟩ : ∃ q0, q0 = w.heap.size := ⟨_, rfl⟩
  have hb0' := hf1.heap hb0 (by simp)
  have hf2 := hf0.trans hf1 (by simp) (n := []) (by simp)
  rw [World.size_alloc, ← hq0] at hb1
  rw [← hw2] at hb1 hb0' hf2
  rw [← hq0] at hb0'
  have hsy := hv.syms
  have hfw := hv.few
  have HSN := Lib.hid (fun wx (hf : Fr [] w2 wx) => csorted_any g.names _ 1 wx ((h1.below hf2).below hf) (by omega) (fun x hx => by have := name_len (hv.names x hx); simp [maxLen]; omega) (by decide))
  have HST := Lib.hid (fun wx (hf : Fr [] w2 wx) => csorted_any g.terms _ 0 wx ((h2.below hf2).below hf) (by omega) (fun x hx => by have := term_len (hv.terms x hx); simp [maxLen]; omega) (by decide))
  have HB0 := Lib.hid hb0'
  have HB1 := Lib.hid hb1
  have HF2 := Lib.hid hf2
  have H1 := Lib.hid (h1.below hf2)
  have H2 := Lib.hid (h2.below hf2)
  have H3 := Lib.hid (h3.below hf2)
  have HV := Lib.hid hv
  have HW2 := Lib.hid hw2
  have HQ0 := Lib.hid hq0
  obtain ⟨n1, hn1⟩ : ∃ n, n = g.names.length := ⟨_, rfl⟩
  obtain ⟨n2, hn2⟩ : ∃ n, n = g.terms.length := ⟨_, rfl⟩
  obtain ⟨n3, hn3⟩ : ∃ n, n = g.rules.length := ⟨_, rfl⟩
  have HN1 := Lib.hid hn1
  have HN2 := Lib.hid hn2
  have HN3 := Lib.hid hn3
  rw [← hn1, ← hn2, ← hn3] at HB0 HW2
  rw [← hn1] at H1 q1 hsy HSN
  rw [← hn2] at H2 q2 hsy HST
  rw [← hn3] at H3 q3 hfw
  rw [← hn1, ← hn2, ← hn3]
  clear hb0 hb1 hf0 hf1 hb0' hf2 hw2 hq0 h1 h2 h3 hg hv hn1 hn2 hn3
  go_enter Tryz.func17, Tryz.ntmps17
  go_upto_region 1 with fail
  rw [← HW2.out, ← HQ0.out]
  go_cut [3] (fun s wx => CaMid w2 w2.heap.size g s wx)
  case first =>
    obtain ⟨B, hB⟩ : ∃ B, B = w2.heap.size := ⟨_, rfl⟩
    have hqB : q0 < B := by rw [hB]; exact (Array.getElem?_eq_some_iff.1 HB0.out).1
    refine wp_region_N (Below B) (Below.refl B) (fun _ _ _ => Below.trans) [(0, false), (1, false), (3, false), (4, false)] 5 123 rfl (by kernel_rfl) (by kernel_rfl) (by kernel_rfl) (fun c a d v w h => by cases d <;> exact h) ?_
    simp only [List.map_cons, List.map_nil, List.getElem?_toArray, List.getElem?_cons_succ, List.getElem?_cons_zero, Option.getD_some]
    obtain ⟨v0, hv0⟩ : ∃ v0, v0 = w2.drew := ⟨_, rfl⟩
    have LQ : Hid (∀ w', Below B v0 w' → w'.heap[q0]? = some (.cells #[.slice a1 n1 c1, .slice a2 n2 c2, .slice a3 n3 c3] 25 (0, 0))) := Lib.hid (fun w' hf' => (hf'.block _ hqB).trans (by rw [hv0]; exact HB0.out))
    have F0 := Lib.hid (show Fr [] w2 v0 by rw [hv0]; exact Fr.drew _)
    have SZ0 := Lib.hid (show B ≤ v0.heap.size by rw [hv0, hB]; exact Nat.le_refl _)
    have HBB := Lib.hid hB
    rw [← hv0]
    clear hv0 hB
    iterate 4 (apply wpT_t; · (intro w' hf'; obtain ⟨c0, c1, c2, -, -, -⟩ := three_of_heap (LQ.out w' hf'); go_wp2_with fail; exact ⟨rfl, rfl⟩))
    refine wpT_end ?_
    refine anyH_step (T := Below B) (fun _ _ _ => Below.trans) [2, 7] (by kernel_rfl) (by simp) (fun ix hmi => ?_)
    simp only [List.mem_cons, List.not_mem_nil, or_false] at hmi
    rcases hmi with rfl | rfl
    · skip
      simp only [List.getElem?_toArray, List.getElem?_cons_succ, List.getElem?_cons_zero, Option.getD_some]
      go_wp2_with (go_at_call 39; refine (HSN.out _ F0.out).mono ?_; rintro e v1 ⟨sN, rfl, hs, hf⟩; obtain ⟨fN, kN, rfl, -, -⟩ := hs.form)
      refine ⟨hf.below (by have := SZ0.out; omega) (by simp), ?_⟩
      have SN := Lib.hid hs
      have F1 := Lib.hid (F0.out.trans hf (by simp) (n := []) (by simp))
      have SZ1 := Lib.hid (show B ≤ v1.heap.size by have := SZ0.out; have := hf.size; omega)
      clear hs hf
      refine anyH_step (T := Below B) (fun _ _ _ => Below.trans) [5, 7] (by kernel_rfl) (by simp) (fun ix hmi => ?_)
      simp only [List.mem_cons, List.not_mem_nil, or_false] at hmi
      rcases hmi with rfl | rfl
      · skip
        simp only [List.getElem?_toArray, List.getElem?_cons_succ, List.getElem?_cons_zero, Option.getD_some]
        go_wp2_with (go_at_call 39; refine (HST.out _ F1.out).mono ?_; rintro e v2 ⟨sT, rfl, hs, hf⟩; obtain ⟨fT, kT, rfl, -, -⟩ := hs.form)
        refine ⟨hf.below (by have := SZ1.out; omega) (by simp), ?_⟩
        have ST := Lib.hid hs
        replace SN := Lib.hid (SN.out.below hf)
        have F2 := Lib.hid (F1.out.trans hf (by simp) (n := []) (by simp))
        have SZ2 := Lib.hid (show B ≤ v2.heap.size by have := SZ1.out; have := hf.size; omega)
        clear hs hf
        refine anyH_step (T := Below B) (fun _ _ _ => Below.trans) [6, 7] (by kernel_rfl) (by simp) (fun ix hmi => ?_)
        simp only [List.mem_cons, List.not_mem_nil, or_false] at hmi
        rcases hmi with rfl | rfl
        · skip
          simp only [List.getElem?_toArray, List.getElem?_cons_succ, List.getElem?_cons_zero, Option.getD_some]
          go_wp2_with fail
          obtain ⟨v3, hw⟩ : ∃ k, k = v2 := ⟨_, rfl⟩
          refine ⟨Below.refl _ _, ?_⟩
          have F3 := F2
          have SZ3 := SZ2
          rw [← hw] at SN ST F3 SZ3 ⊢
          clear hw
          refine anyH_step (T := Below B) (fun _ _ _ => Below.trans) [7] (by kernel_rfl) (by simp) (fun ix hmi => ?_)
          simp only [List.mem_cons, List.not_mem_nil, or_false] at hmi
          subst hmi
          simp only [List.getElem?_toArray, List.getElem?_cons_succ, List.getElem?_cons_zero, Option.getD_some]
          go_wp2_with fail
          have hf := Fr.alloc v3 (.cells #[.slice none 0 0, .slice none 0 0, .slice none 0 0] 25)
          have hb := heap_alloc_new v3 (.cells #[.slice none 0 0, .slice none 0 0, .slice none 0 0] 25)
          obtain ⟨q, hq⟩ : ∃ q, q = v3.heap.size := ⟨_, rfl⟩
          obtain ⟨v4, hw⟩ : ∃ k, k = v3.alloc (.cells #[.slice none 0 0, .slice none 0 0, .slice none 0 0] 25) := ⟨_, rfl⟩
          rw [← hw] at hf hb ⊢
          rw [← hq] at hb ⊢
          refine ⟨hf.below (by have := SZ3.out; omega) (by simp), ?_⟩
          have BX := Lib.hid hb
          have GQ := Lib.hid (show B ≤ q by have := SZ3.out; omega)
          replace SN := Lib.hid (SN.out.below hf)
          replace ST := Lib.hid (ST.out.below hf)
          have F4 := Lib.hid (F3.out.trans hf (by simp) (n := []) (by simp))
          have SZ4 := Lib.hid (show B ≤ v4.heap.size by have := SZ3.out; have := hf.size; omega)
          clear hf hb hq hw
          refine anyH_step (T := Below B) (fun _ _ _ => Below.trans) [8] (by kernel_rfl) (by simp) (fun ix hmi => ?_)
          simp only [List.mem_cons, List.not_mem_nil, or_false] at hmi
          subst hmi
          simp only [List.getElem?_toArray, List.getElem?_cons_succ, List.getElem?_cons_zero, Option.getD_some]
          obtain ⟨z0, z1, z2, y0, y1, y2⟩ := three_of_heap BX.out
          go_wp2_with fail
          have hset := fr_set3C v4 q (.slice fN (canonN g).length kN) (.slice fT (canonT g).length kT) (.slice none 0 0)
          have hh := gram_setC BX.out (.slice fN (canonN g).length kN) (.slice fT (canonT g).length kT) (.slice none 0 0)
          have ka := strs_over SN.out BX.out hset
          have kb := strs_over ST.out BX.out hset
          have HSET := Lib.hid hset
          refine ⟨hset.below (by have := SZ4.out; omega) (by have := GQ.out; simp; omega), wpAnyH_done (by kernel_rfl) ?_ _⟩
          clear z0 z1 z2 y0 y1 y2
          go_wp2_with fail
          go_meet
          exact ⟨q, _, _, rfl, hh, ka, kb, by have := GQ.out; have := HBB.out; omega, F4.out.trans hset (by simp) (fun ii hi hlt => by have := GQ.out; have := HBB.out; simp at hi; omega)⟩
        · skip
          simp only [List.getElem?_toArray, List.getElem?_cons_succ, List.getElem?_cons_zero, Option.getD_some]
          go_wp2_with fail
          have hf := Fr.alloc v2 (.cells #[.slice none 0 0, .slice none 0 0, .slice none 0 0] 25)
          have hb := heap_alloc_new v2 (.cells #[.slice none 0 0, .slice none 0 0, .slice none 0 0] 25)
          obtain ⟨q, hq⟩ : ∃ q, q = v2.heap.size := ⟨_, rfl⟩
          obtain ⟨v3, hw⟩ : ∃ k, k = v2.alloc (.cells #[.slice none 0 0, .slice none 0 0, .slice none 0 0] 25) := ⟨_, rfl⟩
          rw [← hw] at hf hb ⊢
          rw [← hq] at hb ⊢
          refine ⟨hf.below (by have := SZ2.out; omega) (by simp), ?_⟩
          have BX := Lib.hid hb
          have GQ := Lib.hid (show B ≤ q by have := SZ2.out; omega)
          replace SN := Lib.hid (SN.out.below hf)
          replace ST := Lib.hid (ST.out.below hf)
          have F3 := Lib.hid (F2.out.trans hf (by simp) (n := []) (by simp))
          have SZ3 := Lib.hid (show B ≤ v3.heap.size by have := SZ2.out; have := hf.size; omega)
          clear hf hb hq hw
          refine anyH_step (T := Below B) (fun _ _ _ => Below.trans) [6] (by kernel_rfl) (by simp) (fun ix hmi => ?_)
          simp only [List.mem_cons, List.not_mem_nil, or_false] at hmi
          subst hmi
          simp only [List.getElem?_toArray, List.getElem?_cons_succ, List.getElem?_cons_zero, Option.getD_some]
          go_wp2_with fail
          obtain ⟨v4, hw⟩ : ∃ k, k = v3 := ⟨_, rfl⟩
          refine ⟨Below.refl _ _, ?_⟩
          have F4 := F3
          have SZ4 := SZ3
          rw [← hw] at SN ST BX F4 SZ4 ⊢
          clear hw
          refine anyH_step (T := Below B) (fun _ _ _ => Below.trans) [8] (by kernel_rfl) (by simp) (fun ix hmi => ?_)
          simp only [List.mem_cons, List.not_mem_nil, or_false] at hmi
          subst hmi
          simp only [List.getElem?_toArray, List.getElem?_cons_succ, List.getElem?_cons_zero, Option.getD_some]
          obtain ⟨z0, z1, z2, y0, y1, y2⟩ := three_of_heap BX.out
          go_wp2_with fail
          have hset := fr_set3C v4 q (.slice fN (canonN g).length kN) (.slice fT (canonT g).length kT) (.slice none 0 0)
          have hh := gram_setC BX.out (.slice fN (canonN g).length kN) (.slice fT (canonT g).length kT) (.slice none 0 0)
          have ka := strs_over SN.out BX.out hset
          have kb := strs_over ST.out BX.out hset
          have HSET := Lib.hid hset
          refine ⟨hset.below (by have := SZ4.out; omega) (by have := GQ.out; simp; omega), wpAnyH_done (by kernel_rfl) ?_ _⟩
          clear z0 z1 z2 y0 y1 y2
          go_wp2_with fail
          go_meet
          exact ⟨q, _, _, rfl, hh, ka, kb, by have := GQ.out; have := HBB.out; omega, F4.out.trans hset (by simp) (fun ii hi hlt => by have := GQ.out; have := HBB.out; simp at hi; omega)⟩
      · skip
        simp only [List.getElem?_toArray, List.getElem?_cons_succ, List.getElem?_cons_zero, Option.getD_some]
        go_wp2_with fail
        have hf := Fr.alloc v1 (.cells #[.slice none 0 0, .slice none 0 0, .slice none 0 0] 25)
        have hb := heap_alloc_new v1 (.cells #[.slice none 0 0, .slice none 0 0, .slice none 0 0] 25)
        obtain ⟨q, hq⟩ : ∃ q, q = v1.heap.size := ⟨_, rfl⟩
        obtain ⟨v2, hw⟩ : ∃ k, k = v1.alloc (.cells #[.slice none 0 0, .slice none 0 0, .slice none 0 0] 25) := ⟨_, rfl⟩
        rw [← hw] at hf hb ⊢
        rw [← hq] at hb ⊢
        refine ⟨hf.below (by have := SZ1.out; omega) (by simp), ?_⟩
        have BX := Lib.hid hb
        have GQ := Lib.hid (show B ≤ q by have := SZ1.out; omega)
        replace SN := Lib.hid (SN.out.below hf)
        have F2 := Lib.hid (F1.out.trans hf (by simp) (n := []) (by simp))
        have SZ2 := Lib.hid (show B ≤ v2.heap.size by have := SZ1.out; have := hf.size; omega)
        clear hf hb hq hw
        refine anyH_step (T := Below B) (fun _ _ _ => Below.trans) [5] (by kernel_rfl) (by simp) (fun ix hmi => ?_)
        simp only [List.mem_cons, List.not_mem_nil, or_false] at hmi
        subst hmi
        simp only [List.getElem?_toArray, List.getElem?_cons_succ, List.getElem?_cons_zero, Option.getD_some]
        go_wp2_with (go_at_call 39; refine (HST.out _ F2.out).mono ?_; rintro e v3 ⟨sT, rfl, hs, hf⟩; obtain ⟨fT, kT, rfl, -, -⟩ := hs.form)
        refine ⟨hf.below (by have := SZ2.out; omega) (by simp), ?_⟩
        have ST := Lib.hid hs
        replace SN := Lib.hid (SN.out.below hf)
        replace BX := Lib.hid (hf.heap BX.out (by simp))
        have F3 := Lib.hid (F2.out.trans hf (by simp) (n := []) (by simp))
        have SZ3 := Lib.hid (show B ≤ v3.heap.size by have := SZ2.out; have := hf.size; omega)
        clear hs hf
        refine anyH_step (T := Below B) (fun _ _ _ => Below.trans) [6] (by kernel_rfl) (by simp) (fun ix hmi => ?_)
        simp only [List.mem_cons, List.not_mem_nil, or_false] at hmi
        subst hmi
        simp only [List.getElem?_toArray, List.getElem?_cons_succ, List.getElem?_cons_zero, Option.getD_some]
        go_wp2_with fail
        obtain ⟨v4, hw⟩ : ∃ k, k = v3 := ⟨_, rfl⟩
        refine ⟨Below.refl _ _, ?_⟩
        have F4 := F3
        have SZ4 := SZ3
        rw [← hw] at SN ST BX F4 SZ4 ⊢
        clear hw
        refine anyH_step (T := Below B) (fun _ _ _ => Below.trans) [8] (by kernel_rfl) (by simp) (fun ix hmi => ?_)
        simp only [List.mem_cons, List.not_mem_nil, or_false] at hmi
        subst hmi
        simp only [List.getElem?_toArray, List.getElem?_cons_succ, List.getElem?_cons_zero, Option.getD_some]
        obtain ⟨z0, z1, z2, y0, y1, y2⟩ := three_of_heap BX.out
        go_wp2_with fail
        have hset := fr_set3C v4 q (.slice fN (canonN g).length kN) (.slice fT (canonT g).length kT) (.slice none 0 0)
        have hh := gram_setC BX.out (.slice fN (canonN g).length kN) (.slice fT (canonT g).length kT) (.slice none 0 0)
        have ka := strs_over SN.out BX.out hset
        have kb := strs_over ST.out BX.out hset
        have HSET := Lib.hid hset
        refine ⟨hset.below (by have := SZ4.out; omega) (by have := GQ.out; simp; omega), wpAnyH_done (by kernel_rfl) ?_ _⟩
        clear z0 z1 z2 y0 y1 y2
        go_wp2_with fail
        go_meet
        exact ⟨q, _, _, rfl, hh, ka, kb, by have := GQ.out; have := HBB.out; omega, F4.out.trans hset (by simp) (fun ii hi hlt => by have := GQ.out; have := HBB.out; simp at hi; omega)⟩
    · skip
      simp only [List.getElem?_toArray, List.getElem?_cons_succ, List.getElem?_cons_zero, Option.getD_some]
      go_wp2_with fail
      have hf := Fr.alloc v0 (.cells #[.slice none 0 0, .slice none 0 0, .slice none 0 0] 25)
      have hb := heap_alloc_new v0 (.cells #[.slice none 0 0, .slice none 0 0, .slice none 0 0] 25)
      obtain ⟨q, hq⟩ : ∃ q, q = v0.heap.size := ⟨_, rfl⟩
      obtain ⟨v1, hw⟩ : ∃ k, k = v0.alloc (.cells #[.slice none 0 0, .slice none 0 0, .slice none 0 0] 25) := ⟨_, rfl⟩
      rw [← hw] at hf hb ⊢
      rw [← hq] at hb ⊢
      refine ⟨hf.below (by have := SZ0.out; omega) (by simp), ?_⟩
      have BX := Lib.hid hb
      have GQ := Lib.hid (show B ≤ q by have := SZ0.out; omega)
      have F1 := Lib.hid (F0.out.trans hf (by simp) (n := []) (by simp))
      have SZ1 := Lib.hid (show B ≤ v1.heap.size by have := SZ0.out; have := hf.size; omega)
      clear hf hb hq hw
      refine anyH_step (T := Below B) (fun _ _ _ => Below.trans) [2] (by kernel_rfl) (by simp) (fun ix hmi => ?_)
      simp only [List.mem_cons, List.not_mem_nil, or_false] at hmi
      subst hmi
      simp only [List.getElem?_toArray, List.getElem?_cons_succ, List.getElem?_cons_zero, Option.getD_some]
      go_wp2_with (go_at_call 39; refine (HSN.out _ F1.out).mono ?_; rintro e v2 ⟨sN, rfl, hs, hf⟩; obtain ⟨fN, kN, rfl, -, -⟩ := hs.form)
      refine ⟨hf.below (by have := SZ1.out; omega) (by simp), ?_⟩
      have SN := Lib.hid hs
      replace BX := Lib.hid (hf.heap BX.out (by simp))
      have F2 := Lib.hid (F1.out.trans hf (by simp) (n := []) (by simp))
      have SZ2 := Lib.hid (show B ≤ v2.heap.size by have := SZ1.out; have := hf.size; omega)
      clear hs hf
      refine anyH_step (T := Below B) (fun _ _ _ => Below.trans) [5] (by kernel_rfl) (by simp) (fun ix hmi => ?_)
      simp only [List.mem_cons, List.not_mem_nil, or_false] at hmi
      subst hmi
      simp only [List.getElem?_toArray, List.getElem?_cons_succ, List.getElem?_cons_zero, Option.getD_some]
      go_wp2_with (go_at_call 39; refine (HST.out _ F2.out).mono ?_; rintro e v3 ⟨sT, rfl, hs, hf⟩; obtain ⟨fT, kT, rfl, -, -⟩ := hs.form)
      refine ⟨hf.below (by have := SZ2.out; omega) (by simp), ?_⟩
      have ST := Lib.hid hs
      replace SN := Lib.hid (SN.out.below hf)
      replace BX := Lib.hid (hf.heap BX.out (by simp))
      have F3 := Lib.hid (F2.out.trans hf (by simp) (n := []) (by simp))
      have SZ3 := Lib.hid (show B ≤ v3.heap.size by have := SZ2.out; have := hf.size; omega)
      clear hs hf
      refine anyH_step (T := Below B) (fun _ _ _ => Below.trans) [6] (by kernel_rfl) (by simp) (fun ix hmi => ?_)
      simp only [List.mem_cons, List.not_mem_nil, or_false] at hmi
      subst hmi
      simp only [List.getElem?_toArray, List.getElem?_cons_succ, List.getElem?_cons_zero, Option.getD_some]
      go_wp2_with fail
      obtain ⟨v4, hw⟩ : ∃ k, k = v3 := ⟨_, rfl⟩
      refine ⟨Below.refl _ _, ?_⟩
      have F4 := F3
      have SZ4 := SZ3
      rw [← hw] at SN ST BX F4 SZ4 ⊢
      clear hw
      refine anyH_step (T := Below B) (fun _ _ _ => Below.trans) [8] (by kernel_rfl) (by simp) (fun ix hmi => ?_)
      simp only [List.mem_cons, List.not_mem_nil, or_false] at hmi
      subst hmi
      simp only [List.getElem?_toArray, List.getElem?_cons_succ, List.getElem?_cons_zero, Option.getD_some]
      obtain ⟨z0, z1, z2, y0, y1, y2⟩ := three_of_heap BX.out
      go_wp2_with fail
      have hset := fr_set3C v4 q (.slice fN (canonN g).length kN) (.slice fT (canonT g).length kT) (.slice none 0 0)
      have hh := gram_setC BX.out (.slice fN (canonN g).length kN) (.slice fT (canonT g).length kT) (.slice none 0 0)
      have ka := strs_over SN.out BX.out hset
      have kb := strs_over ST.out BX.out hset
      have HSET := Lib.hid hset
      refine ⟨hset.below (by have := SZ4.out; omega) (by have := GQ.out; simp; omega), wpAnyH_done (by kernel_rfl) ?_ _⟩
      clear z0 z1 z2 y0 y1 y2
      go_wp2_with fail
      go_meet
      exact ⟨q, _, _, rfl, hh, ka, kb, by have := GQ.out; have := HBB.out; omega, F4.out.trans hset (by simp) (fun ii hi hlt => by have := GQ.out; have := HBB.out; simp at hi; omega)⟩
  case rest =>
    obtain ⟨q5, vn, vt, rfl, hb5, hsn, hst, hge5, hf25⟩ := hcut
    obtain ⟨w5, hw5⟩ : ∃ w5, w5 = wc := ⟨_, rfl⟩
    rw [← hw5] at hb5 hsn hst hf25 ⊢
    clear hw5
    obtain ⟨fN, kN, rfl, -, -⟩ := hsn.form
    obtain ⟨fT, kT, rfl, -, -⟩ := hst.form
    have hq5l : q5 < w5.heap.size := (Array.getElem?_eq_some_iff.1 hb5).1
    have HF25 := Lib.hid hf25
    have HGE5 := Lib.hid hge5
    have HQ5L := Lib.hid hq5l
    have HSN5 := Lib.hid (fun wx (hf : Fr [q5] w5 wx) => strs_over hsn hb5 hf)
    have HST5 := Lib.hid (fun wx (hf : Fr [q5] w5 wx) => strs_over hst hb5 hf)
    have HF2X := Lib.hid (fun wx (hf : Fr [q5] w5 wx) => show Fr [] w2 wx from hf25.trans hf (by simp) (fun ii hi hlt => by simp at hi; omega))
    have HB5 := Lib.hid hb5
    clear hb5 hsn hst hge5 hf25 hq5l HSN HST
    obtain ⟨lN, hlN⟩ : ∃ n, n = (canonN g).length := ⟨_, rfl⟩
    obtain ⟨lT, hlT⟩ : ∃ n, n = (canonT g).length := ⟨_, rfl⟩
    rw [← hlN, ← hlT] at HB5
    rw [← hlN] at HSN5
    rw [← hlT] at HST5
    clear hlN hlT
    go_wp2_with fail
    go_loopw [4] (CaRel w5 q5 g (.slice fN lN kN) (.slice fT lT kT)) (fun iv _ => n3 - (intOf iv).toNat)
    case atStart => exact ⟨0, _, [], Nat.zero_le _, rfl, HB5.out, RuRow.nil _ _, Fr.refl _ _⟩
    case round =>
      obtain ⟨n, rv, vs, hn, rfl, hbx, hru, hf⟩ := hrel
      have hn2' : n ≤ n3 := by rw [HN3.out]; exact hn
      have HRU := Lib.hid hru
      have HF := Lib.hid hf
      have HBX := Lib.hid hbx
      have hf2r := HF2X.out wr hf
      have HF2R := Lib.hid hf2r
      obtain ⟨x0, x1, x2, -⟩ := three_of_heap (hf2r.heap HB0.out (by simp))
      by_cases hnn : n < n3
      · have hd1 : decide (n < n3) = true := decide_eq_true hnn
        have hmr : n < g.rules.length := by rw [← HN3.out]; exact hnn
        obtain ⟨p, off, v, rfl, k0, k1, hv⟩ := rule_cells H3.out n hmr
        obtain ⟨x, hx⟩ : ∃ x, x = g.rules[n]'hmr := ⟨_, rfl⟩
        have hrl := HV.out.rules _ (List.getElem_mem hmr)
        have HRG := Lib.hid (rr_get g hmr)
        rw [← hx] at k0 hv hrl HRG
        obtain ⟨ln, hln⟩ : ∃ ln : Nat, x.left = (ln : Int) := ⟨x.left.toNat, by omega⟩
        have hln1 : ln < g.names.length := by have := hrl.2.1; omega
        rw [hln] at k0
        obtain ⟨a4, c4, rfl, hle4, hmx4⟩ := hv.form
        obtain ⟨bn, on, rfl, kn⟩ := str_cell H1.out ln hln1
        have HRV := Lib.hid hv
        have K0 := Lib.hid (hf2r.cell k0 (by simp))
        have K1 := Lib.hid k1
        have KN := Lib.hid (hf2r.cell kn (by simp))
        have hlnn : ln < n1 := by rw [HN1.out]; exact hln1
        obtain ⟨n4, hn4⟩ : ∃ n4, n4 = x.right.length := ⟨_, rfl⟩
        obtain ⟨nm, hnm⟩ : ∃ nm, nm = g.names[ln]'hln1 := ⟨_, rfl⟩
        have HN4 := Lib.hid hn4
        rw [← hn4] at HRV K1 hle4 hrl
        rw [← hnm] at KN
        have hfd := fun wx (hf : Fr [] wr wx) => rfind_any (canonN g) (.slice fN lN kN) nm wx ((HSN5.out wr HF.out).below hf)
        obtain ⟨l', hl'⟩ : ∃ l', l' = findG (canonN g) nm := ⟨_, rfl⟩
        rw [← hl'] at hfd
        have HFD := Lib.hid hfd
        have HL' := Lib.hid (show l' = (symX (canonN g) (canonT g) (ruleX g.names g.terms x)).left by
          rw [hl', hnm]
          show _ = findG (canonN g) (g.names.getD x.left.toNat [])
          rw [hln, Int.toNat_natCast, getD_lt hln1])
        have h64 : n4 ≤ 64 := hrl.2.2.1
        have HSYM := Lib.hid hrl.2.2.2
        clear hx hn4 hnm hl' hln hv hru hf hf2r hn k0 k1 kn hrl hbx hfd hln1
        go_upto_region 5 with fail
        go_cut [5] (fun s wx => CrMid wr l' s wx)
        case first =>
          obtain ⟨B, hB⟩ : ∃ B, B = wr.heap.size := ⟨_, rfl⟩
          refine wp_region_F (FrB B []) (fun _ => FrB.refl _ _ _) (fun _ _ _ => FrB.trans) [(0, false), (1, false), (2, false), (3, false), (4, false), (5, false), (6, false), (7, false), (8, false), (9, false), (10, false), (11, false)] 12 14 [(13, false), (14, true), (15, true)] [(12, true), (13, false), (15, true)] 123 rfl (by kernel_rfl) (by kernel_rfl) (by kernel_rfl) (fun c a d v w h => by cases d <;> exact h) ?_
          simp only [List.map_cons, List.map_nil, List.getElem?_toArray, List.getElem?_cons_succ, List.getElem?_cons_zero, Option.getD_some]
          obtain ⟨v0, hv0⟩ : ∃ v0, v0 = wr.drew := ⟨_, rfl⟩
          have F0 := Lib.hid (show Fr [] wr v0 by rw [hv0]; exact Fr.drew _)
          have HSZ := Lib.hid (show v0.heap.size = B by rw [hv0, hB]; rfl)
          have HBQ := Lib.hid hB
          have hq0B : q0 < B := by rw [hB]; exact (Array.getElem?_eq_some_iff.1 (HF2R.out.heap HB0.out (by simp))).1
          have hq5B : q5 < B := by rw [hB]; exact (Array.getElem?_eq_some_iff.1 HBX.out).1
          have hpB : p < B := by rw [hB]; exact World.block_lt_of_cell? wr _ K0.out
          have hbB : bn < B := by rw [hB]; exact World.block_lt_of_cell? wr _ KN.out
          have HC := Lib.hid (fun w' (hf' : FrB B [] v0 w') => show (w'.heap[q0]? = some (.cells #[.slice (some ⟨bn, on, none⟩) n1 c1, .slice a2 n2 c2, .slice (some ⟨p, off, none⟩) n3 c3] 25 (0, 0))) ∧ (w'.heap[q5]? = some (.cells #[.slice fN lN kN, .slice fT lT kT, rv] 25 (0, 0))) ∧ w'.cell? ⟨p, off + n * 2, none⟩ = some (.int .i64 (ln : Int)) ∧ w'.cell? ⟨bn, on + ln, none⟩ = some (encStr nm) from
            ⟨hf'.heap (F0.out.heap (HF2R.out.heap HB0.out (by simp)) (by simp)) hq0B (by simp), hf'.heap (F0.out.heap HBX.out (by simp)) hq5B (by simp), hf'.cell (F0.out.cell K0.out (by simp)) hpB (by simp), hf'.cell (F0.out.cell KN.out (by simp)) hbB (by simp)⟩)
          rw [← hv0]
          clear hv0 hB hq0B hq5B hpB hbB
          iterate 12 (apply wpT_t; · (intro w' hf'; obtain ⟨e1, e2, k0, k1⟩ := HC.out w' hf'; obtain ⟨c0, c1, c2, -, -, -⟩ := three_of_heap e1; obtain ⟨d0, d1, d2, -, -, -⟩ := three_of_heap e2; clear e1 e2; go_wp2_with fail; exact ⟨rfl, rfl⟩))
          refine ⟨?fI, ?fJ⟩
          case' fI =>
            simp only [List.map_cons, List.map_nil, List.getElem?_toArray, List.getElem?_cons_succ, List.getElem?_cons_zero, Option.getD_some]
            refine wpT_x ?_
            go_wp2_with (go_at_call 33; refine (HFD.out _ F0.out).mono ?_; rintro e w7 ⟨rfl, hw7⟩; subst hw7)
            refine ⟨FrB.refl _ _ _, rfl, ?_⟩
            apply wpT_t
            · (intro w' hf'; go_wp2_with fail; exact ⟨rfl, rfl⟩)
            refine wpT_x ?_
            go_wp2_with fail
            have hfa := Fr.alloc v0 (.cells #[.int .i64 0, .slice none 0 0] 36)
            have hba := two_of_new v0 (.int .i64 0) (.slice none 0 0) 36
            obtain ⟨q, hq⟩ : ∃ q, q = v0.heap.size := ⟨_, rfl⟩
            obtain ⟨v1, hv1⟩ : ∃ v1, v1 = v0.alloc (.cells #[.int .i64 0, .slice none 0 0] 36) := ⟨_, rfl⟩
            rw [← hv1] at hfa hba ⊢
            rw [← hq] at hba ⊢
            refine ⟨FrB.of hfa (by rw [HSZ.out]; exact Nat.le_refl _) (by simp), rfl, ?_⟩
            have BA := Lib.hid hba
            have GQ := Lib.hid (show B ≤ q by rw [hq, HSZ.out]; exact Nat.le_refl _)
            have FA := Lib.hid (F0.out.trans hfa (by simp) (n := []) (by simp))
            clear hfa hba hq hv1
            refine wpT_x ?_
            obtain ⟨z0, z1, f0, f1⟩ := two_of_box2 BA.out
            go_wp2_with fail
            have hset := fr_set2C v1 q (.int .i64 l') (.slice none 0 0)
            have hh := rule_setC BA.out (.int .i64 l') (.slice none 0 0)
            refine ⟨FrB.of hset (by have := FA.out.size; have := HBQ.out; omega) (fun ii hi hlt => by have := GQ.out; simp at hi; omega), rfl, ?_⟩
            refine wpT_end ?_
            clear z0 z1 f0 f1
            go_wp2_with fail
            go_meet
            exact ⟨q, rfl, hh, by have := GQ.out; have := HBQ.out; omega, FA.out.trans hset (by simp) (fun ii hi hlt => by have := GQ.out; have := HBQ.out; simp at hi; omega)⟩
          case' fJ =>
            simp only [List.map_cons, List.map_nil, List.getElem?_toArray, List.getElem?_cons_succ, List.getElem?_cons_zero, Option.getD_some]
            refine wpT_x ?_
            go_wp2_with fail
            have hfa := Fr.alloc v0 (.cells #[.int .i64 0, .slice none 0 0] 36)
            have hba := two_of_new v0 (.int .i64 0) (.slice none 0 0) 36
            obtain ⟨q, hq⟩ : ∃ q, q = v0.heap.size := ⟨_, rfl⟩
            obtain ⟨v1, hv1⟩ : ∃ v1, v1 = v0.alloc (.cells #[.int .i64 0, .slice none 0 0] 36) := ⟨_, rfl⟩
            rw [← hv1] at hfa hba ⊢
            rw [← hq] at hba ⊢
            refine ⟨FrB.of hfa (by rw [HSZ.out]; exact Nat.le_refl _) (by simp), rfl, ?_⟩
            have BA := Lib.hid hba
            have GQ := Lib.hid (show B ≤ q by rw [hq, HSZ.out]; exact Nat.le_refl _)
            have FA := Lib.hid (F0.out.trans hfa (by simp) (n := []) (by simp))
            clear hfa hba hq hv1
            refine wpT_x ?_
            go_wp2_with (go_at_call 33; refine (HFD.out _ FA.out).mono ?_; rintro e w7 ⟨rfl, hw7⟩; subst hw7)
            refine ⟨FrB.refl _ _ _, rfl, ?_⟩
            apply wpT_t
            · (intro w' hf'; go_wp2_with fail; exact ⟨rfl, rfl⟩)
            refine wpT_x ?_
            obtain ⟨z0, z1, f0, f1⟩ := two_of_box2 BA.out
            go_wp2_with fail
            have hset := fr_set2C v1 q (.int .i64 l') (.slice none 0 0)
            have hh := rule_setC BA.out (.int .i64 l') (.slice none 0 0)
            refine ⟨FrB.of hset (by have := FA.out.size; have := HBQ.out; omega) (fun ii hi hlt => by have := GQ.out; simp at hi; omega), rfl, ?_⟩
            refine wpT_end ?_
            clear z0 z1 f0 f1
            go_wp2_with fail
            go_meet
            exact ⟨q, rfl, hh, by have := GQ.out; have := HBQ.out; omega, FA.out.trans hset (by simp) (fun ii hi hlt => by have := GQ.out; have := HBQ.out; simp at hi; omega)⟩
        case rest =>
          obtain ⟨q6, rfl, hb6, hge6, hf6⟩ := hcut
          obtain ⟨w6, hw6⟩ : ∃ w6, w6 = wc := ⟨_, rfl⟩
          rw [← hw6] at hb6 hf6 ⊢
          clear hw6
          obtain ⟨wo, hwo⟩ : ∃ wo, wo = wr := ⟨_, rfl⟩
          rw [← hwo] at hge6 hf6 HRU HF HBX HF2R
          clear hwo x0 x1 x2 K0 KN HFD
          have HB6 := Lib.hid hb6
          have HF6 := Lib.hid hf6
          have HGE6 := Lib.hid hge6
          obtain ⟨F, hF⟩ : ∃ F : Int → Int, F = fun s => symG (canonN g) (canonT g) (itemG ⟨g.names, g.terms, []⟩ s) := ⟨_, rfl⟩
          have HFF := Lib.hid hF
          clear hF hb6 hf6 hge6
          go_wp2_with fail
          go_loopw [6] (CkRel wo q6 l' F x.right) (fun iv _ => n4 - (intOf iv).toNat)
          case atStart => exact ⟨0, _, Nat.zero_le _, rfl, HB6.out, World.ownsRow_nil _ _ _ _, HF6.out⟩
          case round =>
            obtain ⟨j, rgv, hj, rfl, hbx, hrow, hfj⟩ := hrel
            have hj2 : j ≤ n4 := by rw [HN4.out]; exact hj
            have hf2j := HF2R.out.trans hfj (by simp) (n := []) (by simp)
            have HF2J := Lib.hid hf2j
            have HFJ := Lib.hid hfj
            have HBXJ := Lib.hid hbx
            have HROW := Lib.hid hrow
            obtain ⟨x0, x1, x2, -⟩ := three_of_heap (hf2j.heap HB0.out (by simp))
            have k1 := hf2j.cell K1.out (by simp)
            by_cases hjn : j < n4
            · have hd4 : decide (j < n4) = true := decide_eq_true hjn
              have hjr : j < x.right.length := by rw [← HN4.out]; exact hjn
              obtain ⟨_, _, rfl, g0⟩ := int_cell (HRV.out.below hf2j) j hjr
              have HTK := Lib.hid (show ((x.right.take (j + 1)).map F).map intV = ((x.right.take j).map F).map intV ++ [intV (F (x.right[j]'hjr))] by rw [List.take_succ_eq_append_getElem hjr, List.map_append, List.map_append]; rfl)
              have HSS := Lib.hid (HSYM.out _ (List.getElem_mem hjr))
              obtain ⟨s, hs⟩ : ∃ s, s = x.right[j]'hjr := ⟨_, rfl⟩
              rw [← hs] at g0 HTK HSS
              clear hs
              by_cases hneg : s < 0
              · skip
                have hj3 : (-1 - s).toNat < g.terms.length := by have := HSS.out.1; omega
                obtain ⟨jj, hjj⟩ : ∃ jj, jj = (-1 - s).toNat := ⟨_, rfl⟩
                rw [← hjj] at hj3
                have hjx : -1 - s = (jj : Int) := by omega
                have hjn2 : jj < n2 := by rw [HN2.out]; exact hj3
                obtain ⟨bt, ot, rfl, kt⟩ := str_cell H2.out jj hj3
                have KT := Lib.hid kt
                obtain ⟨tx, htx⟩ : ∃ tx, tx = g.terms[jj]'hj3 := ⟨_, rfl⟩
                rw [← htx] at KT
                obtain ⟨f, hff⟩ : ∃ f, f = findG (canonT g) tx := ⟨_, rfl⟩
                have hfb := find_ge (canonT g) tx
                rw [← hff, (canonT_perm g).length_eq] at hfb
                have hfb2 : -1 ≤ f ∧ f ≤ 256 := by have := HV.out.syms; omega
                have hfd2 := fun wx (hf : Fr [] wo wx) => rfind_any (canonT g) (.slice fT lT kT) tx wx ((HST5.out wo HF.out).below hf)
                rw [← hff] at hfd2
                have HFD2 := Lib.hid hfd2
                have HVAL := Lib.hid (show F s = -1 - f by
                  rw [HFF.out]
                  show symG (canonN g) (canonT g) (itemG ⟨g.names, g.terms, []⟩ s) = _
                  unfold itemG symG
                  rw [if_pos hneg, if_pos rfl, ← hjj, getD_lt hj3, ← htx, ← hff])
                have hd5 : decide (s < 0) = true := decide_eq_true hneg
                clear hjj htx hff hfb hfd2 kt hj3
                clear hneg hbx hrow hfj hf2j hj
                go_upto_region 11 with fail
                clear g0 k1 x0 x1 x2
                obtain ⟨ar, cr, rfl, hcr, hmr2⟩ := owns_slice HROW.out
                refine wp_region_Z (Value.slice ar j cr).ownBlock.toList 15 [(0, false), (1, false), (2, false), (3, false), (4, false), (5, false), (6, false), (7, false), (8, false), (9, false), (10, true), (11, false), (12, true), (13, true), (14, false), (15, true)] 123 rfl (by kernel_rfl) (by kernel_rfl) (by kernel_rfl) (fun c a d v w h => by cases d <;> exact h) (fun w10 hf10 => ?_)
                simp only [List.map_cons, List.map_nil, List.getElem?_toArray, List.getElem?_cons_succ, List.getElem?_cons_zero, Option.getD_some]
                have hrow10 := owns_kept HROW.out hf10 (by simp)
                have hbx10 := hf10.heap HBXJ.out (by simp)
                have hfo10 := HFJ.out.trans hf10 (by simp) (n := []) (by simp)
                have hbo10 := hfo10.heap HBX.out (by simp)
                have hf2x := HF2R.out.trans hfo10 (by simp) (n := []) (by simp)
                have hbg10 := hf2x.heap HB0.out (by simp)
                have hqn : q6 ∉ (Value.slice ar j cr).ownBlock.toList := fun hm => notT_row hrow10 (t := 36) (by decide) q6 hm _ _ _ hbx10 rfl
                have hqo : q5 ∉ (Value.slice ar j cr).ownBlock.toList := fun hm => notT_row hrow10 (t := 25) (by decide) q5 hm _ _ _ hbo10 rfl
                have hqg : q0 ∉ (Value.slice ar j cr).ownBlock.toList := fun hm => notT_row hrow10 (t := 25) (by decide) q0 hm _ _ _ hbg10 rfl
                have hqs : bt ∉ (Value.slice ar j cr).ownBlock.toList := fun hm => by
                  have h1 := (hrow10.lt _ (Option.mem_toList.1 hm)).1
                  have h2 := World.block_lt_of_cell? w2 _ KT.out
                  have h3 := HF2R.out.size
                  have h4 := HGE6.out
                  simp only at h2
                  omega
                have LA : Hid (Later (Value.slice ar j cr).ownBlock.toList w10 (fun w' => (w'.heap[q6]? = some (.cells #[.int .i64 l', .slice ar j cr] 36 (0, 0))) ∧ (w'.heap[q5]? = some (.cells #[.slice fN lN kN, .slice fT lT kT, rv] 25 (0, 0))) ∧ (w'.heap[q0]? = some (.cells #[.slice (some ⟨bn, on, none⟩) n1 c1, .slice (some ⟨bt, ot, none⟩) n2 c2, .slice (some ⟨p, off, none⟩) n3 c3] 25 (0, 0))) ∧ w'.cell? ⟨bt, ot + jj, none⟩ = some (encStr tx))) := Lib.hid (fun w' hf' => ⟨hf'.heap hbx10 hqn, hf'.heap hbo10 hqo, hf'.heap hbg10 hqg, hf'.cell (hf2x.cell KT.out (by simp)) hqs⟩)
                have HR10 := Lib.hid hrow10
                have HF10 := Lib.hid hfo10
                clear hf10 hrow10 hbx10 hbo10 hbg10 hqn hqo hqg hqs hfo10 hf2x
                iterate 10 (apply walkZ_t; · (intro w' hf'; obtain ⟨e1, e2, e3, kt⟩ := LA.out w' hf'; obtain ⟨z0, z1, -⟩ := two_of_box2 e1; obtain ⟨d0, d1, d2, -⟩ := three_of_heap e2; obtain ⟨x0, x1, x2, -⟩ := three_of_heap e3; clear e1 e2 e3; go_wp2_with fail; exact ⟨rfl, rfl⟩))
                refine walkZ_x ?_
                go_wp2_with (go_at_call 33; refine (HFD2.out _ HF10.out).mono ?_; rintro e w11 ⟨rfl, hw11⟩; subst hw11)
                refine ⟨.inr (Fr.refl _ _), rfl, ?_⟩
                apply walkZ_t
                · (intro w' hf'; go_wp2_with fail; exact ⟨rfl, rfl⟩)
                refine walkZ_x ?_
                go_wp2_with fail
                have hfe := Fr.alloc w10 (.cells #[.int .i64 (-1 - f)] 3)
                have HFE := Lib.hid hfe
                refine ⟨hfe.mono (by simp), rfl, ?_⟩
                clear hfe
                refine walkZ_x ?_
                have hB10 : q6 ≤ w10.heap.size := Nat.le_of_lt (Array.getElem?_eq_some_iff.1 (LA.out w10 (Fr.refl _ _)).1).1
                go_wp2_with (at_builtin; refine wpL_appendS rfl _ _ 34 rfl q6 3 iI _ 1 8 Tryz.underlying34 hiI hi0 hi1 hi2 (by rfl) (by decide) (.slice ar j cr) j _ rfl HR10.out [.int .i64 (-1 - f)] rfl (by intro u hu; simp at hu; rcases hu with rfl; rfl) rfl (by omega) (by simp [maxLen]; omega) hB10 ?_; intro v11 w11 hown11 hf11 hb11)
                obtain ⟨ar', cr', rfl, hcr', hmr'⟩ := owns_slice hown11
                have hfT : Fr (Value.slice ar j cr).ownBlock.toList w10 w11 := HFE.out.trans hf11 (by simp) (fun _ hk _ => hk)
                refine ⟨hf11, rfl, ?_⟩
                have hbx11 := (LA.out w11 hfT).1
                have HOW11 := Lib.hid hown11
                have HFT := Lib.hid hfT
                clear hf11 hown11 hb11 hfT hB10
                apply walkZ_t
                · intro w' hf'
                  go_wp2_with fail
                  exact ⟨rfl, rfl⟩
                refine walkZ_x ?_
                obtain ⟨z0, z1, f0, f1⟩ := two_of_box2 hbx11
                go_wp2_with fail
                refine ⟨rfl, ?_⟩
                refine walkZ_end ?_
                have hbx12 := heap_setCell_same hbx11 (i := 1) (.slice ar' (j + 1) cr')
                have hset := Fr.set0 w11 q6 1 (.slice ar' (j + 1) cr')
                have hrow12 := owns_keptT HOW11.out (notT_box hbx11 (by decide)) hset
                have hf11 := HF10.out.trans HFT.out (by simp) (n := []) (fun i hi hlt => by
                  have h1 := (HR10.out.lt i (Option.mem_toList.1 hi)).1
                  have := HGE6.out
                  omega)
                have hf12 := hf11.trans hset (by simp) (n := []) (fun i hi hlt => by have := HGE6.out; simp at hi; omega)
                have HX12 := Lib.hid hbx12
                have HR12 := Lib.hid hrow12
                have HF12 := Lib.hid hf12
                clear hbx12 hset hrow12 hf11 hf12 hbx11 z0 z1 f0 f1
                go_wp2_with fail
                exact ⟨⟨j + 1, _, hjr, by go_num, HX12.out, by rw [HTK.out, HVAL.out]; exact HR12.out, HF12.out⟩, by simp [intOf]; omega⟩
              · skip
                obtain ⟨jj, rfl⟩ : ∃ jj : Nat, s = (jj : Int) := ⟨s.toNat, by omega⟩
                have hj3 : jj < g.names.length := by have := HSS.out.2; omega
                have hjn2 : jj < n1 := by rw [HN1.out]; exact hj3
                obtain ⟨bt, ot, e0, kt⟩ := str_cell H1.out jj hj3
                cases e0
                have KT := Lib.hid kt
                obtain ⟨tx, htx⟩ : ∃ tx, tx = g.names[jj]'hj3 := ⟨_, rfl⟩
                rw [← htx] at KT
                obtain ⟨f, hff⟩ : ∃ f, f = findG (canonN g) tx := ⟨_, rfl⟩
                have hfd2 := fun wx (hf : Fr [] wo wx) => rfind_any (canonN g) (.slice fN lN kN) tx wx ((HSN5.out wo HF.out).below hf)
                rw [← hff] at hfd2
                have HFD2 := Lib.hid hfd2
                have HVAL := Lib.hid (show F (jj : Int) = f by
                  rw [HFF.out]
                  show symG (canonN g) (canonT g) (itemG ⟨g.names, g.terms, []⟩ (jj : Int)) = _
                  unfold itemG symG
                  rw [if_neg hneg, if_neg (by simp), Int.toNat_natCast, getD_lt hj3, ← htx, ← hff])
                have hd5 : decide ((jj : Int) < 0) = false := decide_eq_false hneg
                clear htx hff hfd2 kt hj3
                clear hneg hbx hrow hfj hf2j hj
                go_upto_region 12 with fail
                clear g0 k1 x0 x1 x2
                obtain ⟨ar, cr, rfl, hcr, hmr2⟩ := owns_slice HROW.out
                refine wp_region_Z (Value.slice ar j cr).ownBlock.toList 13 [(0, false), (1, false), (2, false), (3, false), (4, false), (5, false), (6, false), (7, false), (8, false), (9, true), (10, true), (11, true), (12, false), (13, true)] 123 rfl (by kernel_rfl) (by kernel_rfl) (by kernel_rfl) (fun c a d v w h => by cases d <;> exact h) (fun w10 hf10 => ?_)
                simp only [List.map_cons, List.map_nil, List.getElem?_toArray, List.getElem?_cons_succ, List.getElem?_cons_zero, Option.getD_some]
                have hrow10 := owns_kept HROW.out hf10 (by simp)
                have hbx10 := hf10.heap HBXJ.out (by simp)
                have hfo10 := HFJ.out.trans hf10 (by simp) (n := []) (by simp)
                have hbo10 := hfo10.heap HBX.out (by simp)
                have hf2x := HF2R.out.trans hfo10 (by simp) (n := []) (by simp)
                have hbg10 := hf2x.heap HB0.out (by simp)
                have hqn : q6 ∉ (Value.slice ar j cr).ownBlock.toList := fun hm => notT_row hrow10 (t := 36) (by decide) q6 hm _ _ _ hbx10 rfl
                have hqo : q5 ∉ (Value.slice ar j cr).ownBlock.toList := fun hm => notT_row hrow10 (t := 25) (by decide) q5 hm _ _ _ hbo10 rfl
                have hqg : q0 ∉ (Value.slice ar j cr).ownBlock.toList := fun hm => notT_row hrow10 (t := 25) (by decide) q0 hm _ _ _ hbg10 rfl
                have hqs : bn ∉ (Value.slice ar j cr).ownBlock.toList := fun hm => by
                  have h1 := (hrow10.lt _ (Option.mem_toList.1 hm)).1
                  have h2 := World.block_lt_of_cell? w2 _ KT.out
                  have h3 := HF2R.out.size
                  have h4 := HGE6.out
                  simp only at h2
                  omega
                have LA : Hid (Later (Value.slice ar j cr).ownBlock.toList w10 (fun w' => (w'.heap[q6]? = some (.cells #[.int .i64 l', .slice ar j cr] 36 (0, 0))) ∧ (w'.heap[q5]? = some (.cells #[.slice fN lN kN, .slice fT lT kT, rv] 25 (0, 0))) ∧ (w'.heap[q0]? = some (.cells #[.slice (some ⟨bn, on, none⟩) n1 c1, .slice a2 n2 c2, .slice (some ⟨p, off, none⟩) n3 c3] 25 (0, 0))) ∧ w'.cell? ⟨bn, on + jj, none⟩ = some (encStr tx))) := Lib.hid (fun w' hf' => ⟨hf'.heap hbx10 hqn, hf'.heap hbo10 hqo, hf'.heap hbg10 hqg, hf'.cell (hf2x.cell KT.out (by simp)) hqs⟩)
                have HR10 := Lib.hid hrow10
                have HF10 := Lib.hid hfo10
                clear hf10 hrow10 hbx10 hbo10 hbg10 hqn hqo hqg hqs hfo10 hf2x
                iterate 9 (apply walkZ_t; · (intro w' hf'; obtain ⟨e1, e2, e3, kt⟩ := LA.out w' hf'; obtain ⟨z0, z1, -⟩ := two_of_box2 e1; obtain ⟨d0, d1, d2, -⟩ := three_of_heap e2; obtain ⟨x0, x1, x2, -⟩ := three_of_heap e3; clear e1 e2 e3; go_wp2_with fail; exact ⟨rfl, rfl⟩))
                refine walkZ_x ?_
                go_wp2_with (go_at_call 33; refine (HFD2.out _ HF10.out).mono ?_; rintro e w11 ⟨rfl, hw11⟩; subst hw11)
                refine ⟨.inr (Fr.refl _ _), rfl, ?_⟩
                refine walkZ_x ?_
                go_wp2_with fail
                have hfe := Fr.alloc w10 (.cells #[.int .i64 f] 3)
                have HFE := Lib.hid hfe
                refine ⟨hfe.mono (by simp), rfl, ?_⟩
                clear hfe
                refine walkZ_x ?_
                have hB10 : q6 ≤ w10.heap.size := Nat.le_of_lt (Array.getElem?_eq_some_iff.1 (LA.out w10 (Fr.refl _ _)).1).1
                go_wp2_with (at_builtin; refine wpL_appendS rfl _ _ 34 rfl q6 3 iI _ 1 8 Tryz.underlying34 hiI hi0 hi1 hi2 (by rfl) (by decide) (.slice ar j cr) j _ rfl HR10.out [.int .i64 f] rfl (by intro u hu; simp at hu; rcases hu with rfl; rfl) rfl (by omega) (by simp [maxLen]; omega) hB10 ?_; intro v11 w11 hown11 hf11 hb11)
                obtain ⟨ar', cr', rfl, hcr', hmr'⟩ := owns_slice hown11
                have hfT : Fr (Value.slice ar j cr).ownBlock.toList w10 w11 := HFE.out.trans hf11 (by simp) (fun _ hk _ => hk)
                refine ⟨hf11, rfl, ?_⟩
                have hbx11 := (LA.out w11 hfT).1
                have HOW11 := Lib.hid hown11
                have HFT := Lib.hid hfT
                clear hf11 hown11 hb11 hfT hB10
                apply walkZ_t
                · intro w' hf'
                  go_wp2_with fail
                  exact ⟨rfl, rfl⟩
                refine walkZ_x ?_
                obtain ⟨z0, z1, f0, f1⟩ := two_of_box2 hbx11
                go_wp2_with fail
                refine ⟨rfl, ?_⟩
                refine walkZ_end ?_
                have hbx12 := heap_setCell_same hbx11 (i := 1) (.slice ar' (j + 1) cr')
                have hset := Fr.set0 w11 q6 1 (.slice ar' (j + 1) cr')
                have hrow12 := owns_keptT HOW11.out (notT_box hbx11 (by decide)) hset
                have hf11 := HF10.out.trans HFT.out (by simp) (n := []) (fun i hi hlt => by
                  have h1 := (HR10.out.lt i (Option.mem_toList.1 hi)).1
                  have := HGE6.out
                  omega)
                have hf12 := hf11.trans hset (by simp) (n := []) (fun i hi hlt => by have := HGE6.out; simp at hi; omega)
                have HX12 := Lib.hid hbx12
                have HR12 := Lib.hid hrow12
                have HF12 := Lib.hid hf12
                clear hbx12 hset hrow12 hf11 hf12 hbx11 z0 z1 f0 f1
                go_wp2_with fail
                exact ⟨⟨j + 1, _, hjr, by go_num, HX12.out, by rw [HTK.out, HVAL.out]; exact HR12.out, HF12.out⟩, by simp [intOf]; omega⟩
            · have hd4 : decide (j < n4) = false := decide_eq_false hjn
              have hjl : j = x.right.length := by rw [← HN4.out]; omega
              rw [hjl, List.take_length] at hrow
              obtain ⟨ar, cr, rfl, hcr, hmr2⟩ := owns_slice hrow
              obtain ⟨w7, hw7⟩ : ∃ w7, w7 = wr := ⟨_, rfl⟩
              rw [← hw7] at hfj hrow hbx hf2j HFJ HBXJ HF2J x0 x1 x2 k1 ⊢
              clear hw7 HROW
              obtain ⟨o, ho⟩ : ∃ o, o = rrTo g n := ⟨_, rfl⟩
              have hol : o.length = n := by rw [ho]; exact sort_take_len lessR 0 (by unfold rrG; rw [List.length_map]; omega)
              have hru7 := HRU.out.below hfj
              rw [← ho] at hru7
              have hbo7 := hfj.heap HBX.out (by simp)
              obtain ⟨r, hr⟩ : ∃ r, r = symX (canonN g) (canonT g) (ruleX g.names g.terms x) := ⟨_, rfl⟩
              have hrr : r.right = x.right.map F := by
                rw [hr, HFF.out]
                show (x.right.map (itemG ⟨g.names, g.terms, []⟩)).map (symG (canonN g) (canonT g)) = _
                rw [List.map_map]
                rfl
              have hrleft : r.left = l' := by rw [hr]; exact HL'.out.symm
              have HST := Lib.hid (show rrTo g (n + 1) = insB lessR 0 o r by
                unfold rrTo
                rw [sort_step lessR 0 (show n < (rrG g).length by unfold rrG; rw [List.length_map]; exact hmr), HRG.out, ← hr, ho]
                rfl)
              have hkr : w7.ownsRow q6 3 1 (.slice ar x.right.length cr) r.right.length (r.right.map intV) := by
                rw [hrr, List.length_map]
                exact hrow
              have hbd : ∀ y ∈ r.right, -9223372036854775808 ≤ y ∧ y ≤ 1000000 := by rw [hr]; exact rr_bound HV.out x
              have hbdo : ∀ z ∈ o, ∀ y ∈ z.right, -9223372036854775808 ≤ y ∧ y ≤ 1000000 := fun z hz => by
                rw [ho] at hz
                have hz2 := (sortB_fold lessR 0 ((rrG g).take n) []).mem_iff.1 hz
                rw [List.nil_append] at hz2
                obtain ⟨y, -, rfl⟩ := List.mem_map.1 (List.mem_of_mem_take hz2)
                exact rr_bound HV.out y
              obtain ⟨nr, hnr⟩ : ∃ nr, nr = x.right.length := ⟨_, rfl⟩
              rw [← hnr] at hkr hbx hcr HBXJ hrow
              rw [← hrleft] at hbx HBXJ
              have HKR := Lib.hid hkr
              have HBX7 := Lib.hid hbx
              have HRU7 := Lib.hid hru7
              have HBO7 := Lib.hid hbo7
              have HOL := Lib.hid hol
              have HBD := Lib.hid hbd
              have HBDO := Lib.hid hbdo
              have HRAT := Lib.hid (cellsAt_of_owns (by rw [List.length_map]; exact hkr) : intsAt w7 (.slice ar nr cr) r.right)
              obtain ⟨av, cv, rfl, hcv, hmv⟩ := owns_slice hru7.rules
              rw [hol] at hcv
              have hrv := hru7.rules
              rw [hol] at hrv HBO7
              obtain ⟨d0, d1, d2, -⟩ := three_of_heap HBO7.out
              have HRV7 := Lib.hid hrv
              obtain ⟨lr, hlr⟩ : ∃ lr, lr = r.left := ⟨_, rfl⟩
              rw [← hlr] at HBX7
              have HLR := Lib.hid hlr
              clear hrow hbx hfj hf2j hj hru7 hbo7 hr hrr hrleft hkr hbd hbdo hjl hnr hol hrv HBXJ ho hlr
              go_upto_region 13 with fail
              clear k1 x0 x1 x2
              obtain ⟨lo, hlo⟩ : ∃ lo, lo = o.length := ⟨_, rfl⟩
              go_wp2_with fail
              clear d0 d1 d2
              go_loopw [8] (CiRel w7 o r) (fun av _ => (intOf av).toNat)
              case atStart => exact ⟨n, by rw [HOL.out]; exact Nat.le_refl _, rfl, by rw [HOL.out], Fr.refl _ _⟩
              case round =>
                obtain ⟨pp, hp, rfl, hpos, hf⟩ := hrel
                have hpk : pp ≤ n := by rw [← HOL.out]; exact hp
                have HPOS := Lib.hid hpos
                have HFI := Lib.hid hf
                obtain ⟨z0, z1, -⟩ := two_of_box2 (hf.heap HBX7.out (by simp))
                obtain ⟨d0, d1, d2, -⟩ := three_of_heap (hf.heap HBO7.out (by simp))
                clear hpos hf hp
                have hcase : (av = none ∧ n ≤ 0 ∧ cv ≤ 0) ∨ ∃ gg, av = some ⟨gg, 0, none⟩ := by
                  rcases HRV7.out.2 with ⟨e, h0⟩ | ⟨gg, cap, cur, e, -, -, -⟩
                  · injection e with e1 e2 e3
                    exact .inl ⟨e1, by omega, by omega⟩
                  · injection e with e1
                    exact .inr ⟨gg, e1⟩
                rcases hcase with ⟨rfl, hnz, hcz⟩ | ⟨gg, rfl⟩
                · have hpz : pp ≤ 0 := by omega
                  have hsp : ¬ 0 < pp := by omega
                  have hd6 : decide (0 < pp) = false := decide_eq_false hsp
                  have HINS := Lib.hid (show insPos lessR 0 r o o.length = pp by
                    rw [HPOS.out]
                    obtain rfl : pp = 0 := by omega
                    rfl)
                  clear hsp
                  go_upto_region 14 with fail
                  clear z0 z1 d0 d1 d2
                  refine wp_region_G [] [(0, false), (1, false), (2, false), (3, false), (4, false), (5, false), (6, false), (7, false), (8, false), (9, false), (10, true), (11, false)] 123 rfl (by kernel_rfl) (by kernel_rfl) (by kernel_rfl) (fun c a d v w h => by cases d <;> exact h) (fun w8 hf8 => ?_)
                  simp only [List.map_cons, List.map_nil, List.getElem?_toArray, List.getElem?_cons_succ, List.getElem?_cons_zero, Option.getD_some]
                  have HF8 := Lib.hid (HFI.out.trans hf8 (by simp) (n := []) (by simp))
                  clear hf8
                  iterate 10 (apply wpG_t; · (intro w' hf'; go_wp2_with fail; exact ⟨rfl, rfl⟩))
                  refine wpG_x ?_
                  go_wp2_with fail
                  refine ⟨Fr.refl _ _, rfl, ?_⟩
                  apply wpG_t
                  · (intro w' hf'; go_wp2_with fail; exact ⟨rfl, rfl⟩)
                  refine wpG_end ?_
                  clear HPOS HFI
                  go_upto_region 16 with fail
                  have hz : w5.heap.size ≤ w8.heap.size := by have h1 := HF.out.size; have h2 := HFJ.out.size; have h3 := HF8.out.size; omega
                  have hown0 : (w8.alloc (.cells #[] 36)).ownsRow w8.heap.size 36 2 (.slice (some ⟨w8.heap.size, 0, none⟩) 0 0) 0 [] := ⟨rfl, .inr ⟨w8.heap.size, 0, #[], rfl, Nat.le_refl _, heap_alloc_new _ _, Nat.le_refl _, by decide, rfl, rfl⟩⟩
                  have hfa := Fr.alloc w8 (.cells #[] 36)
                  have HX2 := Lib.hid (fun wx (hfx : Fr [] w8 wx) => show (wx.heap[q6]? = some (.cells #[.int .i64 lr, .slice ar nr cr] 36 (0, 0))) ∧ (wx.heap[q5]? = some (.cells #[.slice fN lN kN, .slice fT lT kT, .slice none n cv] 25 (0, 0))) from ⟨(HF8.out.trans hfx (by simp) (n := []) (by simp)).heap HBX7.out (by simp), (HF8.out.trans hfx (by simp) (n := []) (by simp)).heap HBO7.out (by simp)⟩)
                  have hp1 : pp ≤ 100001 := by omega
                  have hk1 : n ≤ 4096 := by omega
                  have hvl := HRU7.out.vlen
                  have HZA := Lib.hid hfa
                  have HO0 := Lib.hid hown0
                  have HKB := Lib.hid (show w7.ownsRow w5.heap.size 3 1 (.slice ar nr cr) r.right.length (r.right.map intV) from owns_base HKR.out (fun jx hjx => by have h1 := (HKR.out.lt jx hjx).1; have h2 := HGE6.out; have h3 := HF.out.size; omega))
                  obtain ⟨d0, d1, d2, -⟩ := three_of_heap ((HX2.out _ HZA.out).2)
                  clear hown0 hfa
                  go_wp2_with (first
                    | (at_builtin; have := w10; refine wpL_appendE rfl _ _ 23 rfl w8.heap.size 36 iR (.agg #[.int .i64 0, .slice none 0 0]) 2 32 Tryz.underlying23 hiR hr0 hr1 hr2 rfl (by decide) v10 (0 + 0 + 1) _ rfl HO10.out (.slice none (n - pp) (cv - pp)) 0 [] rfl rfl (by simp) (.inl ⟨by rw [show n - pp = 0 by omega, show cv - pp = 0 by omega], rfl⟩) (by omega) (by simp only [maxLen]; omega) HF10.out.size ?_; intro v11 w11 hown11 hf11; have HF11 := Lib.hid (Fr.own HF10.out HO10.out hf11); obtain ⟨ae, ce, rfl, hce, hme⟩ := owns_slice hown11; obtain ⟨le, hle⟩ : ∃ le, le = 0 + 0 + 1 + 0 := ⟨_, rfl⟩; rw [← hle] at hown11 hce ⊢; have HLE := Lib.hid hle; have HO11 := Lib.hid hown11; clear hle; obtain ⟨d0, d1, d2, e0, e1, e2⟩ := three_of_heap ((HX2.out w11 HF11.out).2))
                    | (at_builtin; have := w9; refine wpL_appendS rfl _ _ 23 rfl w8.heap.size 36 iR _ 2 32 Tryz.underlying23 hiR hr0 hr1 hr2 (by rfl) (by decide) v9 (0 + 0) _ rfl HO9.out [.int .i64 lr, .slice ar nr cr] rfl (by intro u hu; simp at hu; rcases hu with rfl | rfl <;> rfl) rfl (by omega) (by simp only [maxLen]; omega) HF9.out.size ?_; intro v10 w10 hown10 hf10 hb10; have HF10 := Lib.hid (Fr.own HF9.out HO9.out ((Fr.alloc w9 (.cells [Value.int .i64 lr, .slice ar nr cr].toArray 36)).trans hf10 (by simp) (n := v9.ownBlock.toList) (fun _ hi _ => hi))); have HO10 := Lib.hid hown10; obtain ⟨d0, d1, d2, -⟩ := three_of_heap ((HX2.out w10 HF10.out).2))
                    | (at_builtin; refine wpL_appendE rfl _ _ 23 rfl w8.heap.size 36 iR (.agg #[.int .i64 0, .slice none 0 0]) 2 32 Tryz.underlying23 hiR hr0 hr1 hr2 rfl (by decide) _ 0 _ rfl HO0.out (.slice none 0 0) 0 [] rfl rfl (by simp) (.inl ⟨rfl, rfl⟩) (by omega) (by simp only [maxLen]; omega) HZA.out.size ?_; intro v9 w9 hown9 hf9; have HF9 := Lib.hid (Fr.own HZA.out HO0.out hf9); have HO9 := Lib.hid hown9; obtain ⟨z0, z1, -⟩ := two_of_box2 ((HX2.out w9 HF9.out).1)))
                  have h11 := HO11.out
                  have hnum : le = n + 1 := by have := HLE.out; omega
                  subst hnum
                  have hown : w11.ownsRow w8.heap.size 36 2 (.slice ae (n + 1) ce) (o.length + 1) (ruleVs (o.take 0) (vs.take 0) ++ [intV r.left, .slice ar nr cr] ++ ruleVs (o.drop 0) (vs.drop 0)) := by
                    rw [← HLR.out, HOL.out]
                    have ho0 : o = [] := List.eq_nil_of_length_eq_zero (by rw [HOL.out]; omega)
                    have hv0 : vs = [] := List.eq_nil_of_length_eq_zero (by rw [hvl, HOL.out]; omega)
                    rw [ho0, hv0]
                    simpa [ruleVs, intV] using h11
                  have hins := RuRow.ins HRU7.out (HF8.out.trans HF11.out (by simp) (n := []) (by simp)) 0 r hz HKB.out hown
                  rw [show o.take 0 ++ r :: o.drop 0 = rrTo g (n + 1) by rw [HST.out]; unfold insB; rw [HINS.out, show pp = 0 by omega]] at hins
                  have hb11 := (HX2.out w11 HF11.out).2
                  have hset := Fr.set0 w11 q5 2 (.slice ae (n + 1) ce)
                  have hb12 : (w11.setCell ⟨q5, 2, none⟩ (.slice ae (n + 1) ce)).heap[q5]? = some (.cells #[.slice fN lN kN, .slice fT lT kT, .slice ae (n + 1) ce] 25 (0, 0)) := heap_setCell_same hb11 (i := 2) (.slice ae (n + 1) ce)
                  have hru12 := hins.keptT (notT_box hb11 (by decide)) (notT_box hb11 (by decide)) hset
                  exact ⟨⟨n + 1, .slice ae (n + 1) ce, _, hmr, by go_num, hb12, hru12, ((HF.out.trans (HFJ.out.trans (HF8.out.trans HF11.out (by simp) (n := []) (by simp)) (by simp) (n := []) (by simp)) (fun _ hi _ => hi) (n := [q5]) (by simp))).trans hset (fun _ hi _ => hi) (fun _ hi _ => hi)⟩, by simp [intOf]; omega⟩
                by_cases hsp : 0 < pp
                case' pos =>
                  have hd6 : decide (0 < pp) = true := decide_eq_true hsp
                  obtain ⟨q, hpq1⟩ : ∃ q, pp = q + 1 := ⟨pp - 1, by omega⟩
                  have hpq : (pp : Int) - 1 = (q : Int) := by omega
                  have hqo : q < o.length := by rw [HOL.out]; omega
                  have hqk : q < n := by omega
                  obtain ⟨_, _, vy, e0, g0, g1, hvy⟩ := rule_cells (HRU7.out.at) q hqo
                  cases e0
                  simp only [Nat.zero_add] at g0 g1
                  obtain ⟨y, hy⟩ : ∃ y, y = o[q]'hqo := ⟨_, rfl⟩
                  have hyb := HBDO.out _ (List.getElem_mem hqo)
                  rw [← hy] at g0 hvy hyb
                  obtain ⟨ay, cy, rfl, -, -⟩ := hvy.form
                  have HLS := Lib.hid (fun wx (hfx : Fr [] w7 wx) => cless_any r y _ _ wx (HRAT.out.below hfx) (hvy.below hfx) HBD.out hyb)
                  rw [← HLR.out] at HLS
                  unfold ruleV at HLS
                  have HIN := Lib.hid (show insPos lessR 0 r o pp = if lessR r y = true then insPos lessR 0 r o q else pp by
                    rw [hpq1]
                    have e1 : insPos lessR 0 r o (q + 1) = if 0 < q + 1 ∧ (o[q]?.map (lessR r)) = some true then insPos lessR 0 r o q else q + 1 := rfl
                    rw [e1, List.getElem?_eq_getElem hqo, ← hy]
                    by_cases cc : lessR r y = true
                    · rw [if_pos cc, if_pos ⟨by omega, by rw [← cc]; rfl⟩]
                    · rw [if_neg cc, if_neg (fun z => cc (by simpa using z.2))])
                  have G0 := Lib.hid g0
                  have G1 := Lib.hid g1
                  obtain ⟨L, hL⟩ : ∃ L, L = lessR r y := ⟨_, rfl⟩
                  rw [← hL] at HLS HIN
                  obtain ⟨ly, hly⟩ : ∃ ly, ly = y.left := ⟨_, rfl⟩
                  obtain ⟨ny, hny⟩ : ∃ ny, ny = y.right.length := ⟨_, rfl⟩
                  rw [← hly, ← hny] at HLS
                  rw [← hly] at G0
                  rw [← hny] at G1
                  have HPQ := Lib.hid hpq1
                  have HPI := Lib.hid hpq
                  clear hy hyb hvy g0 g1 hL hpq1 hpq hsp hqo hly hny
                  go_upto_region 14 with fail
                  clear z0 z1 d0 d1 d2
                  refine wp_region_G [] [(0, false), (1, false), (2, false), (3, false), (4, false), (5, false), (6, false), (7, false), (8, false), (9, false), (10, true), (11, false)] 123 rfl (by kernel_rfl) (by kernel_rfl) (by kernel_rfl) (fun c a d v w h => by cases d <;> exact h) (fun w6 hf6 => ?_)
                  simp only [List.map_cons, List.map_nil, List.getElem?_toArray, List.getElem?_cons_succ, List.getElem?_cons_zero, Option.getD_some]
                  have HF6' := Lib.hid (HFI.out.trans hf6 (by simp) (n := []) (by simp))
                  clear hf6
                  iterate 10 (apply wpG_t; · (intro w' hf'; have hff := HF6'.out.trans hf' (by simp) (n := []) (by simp); obtain ⟨z0, z1, -⟩ := two_of_box2 (hff.heap HBX7.out (by simp)); obtain ⟨d0, d1, d2, -⟩ := three_of_heap (hff.heap HBO7.out (by simp)); have g0 := hff.cell G0.out (by simp); have g1 := hff.cell G1.out (by simp); have hpq := HPI.out; clear hff; go_wp2_with fail; exact ⟨rfl, rfl⟩))
                  refine wpG_x ?_
                  go_wp2_with (go_at_call 40; refine (HLS.out _ HF6'.out).mono ?_; rintro e w8 ⟨rfl, hf8⟩)
                  refine ⟨hf8, rfl, ?_⟩
                  have HF8 := Lib.hid (HF6'.out.trans hf8 (by simp) (n := []) (by simp))
                  clear hf8
                  apply wpG_t
                  · (intro w' hf'; go_wp2_with fail; exact ⟨rfl, rfl⟩)
                  refine wpG_end ?_
                  cases L
                  case' true =>
                    go_wp2_with fail
                    refine ⟨⟨q, by have := HOL.out; omega, by rw [HPI.out], by rw [HPOS.out, HIN.out, if_pos rfl], HF8.out⟩, ?_⟩
                    rw [HPI.out]
                    simp [intOf]
                    have := HPQ.out
                    omega
                  case' false =>
                    have HINS := Lib.hid (show insPos lessR 0 r o o.length = pp by rw [HPOS.out, HIN.out, if_neg (by decide)])
                    clear HLS HIN G0 G1 HPQ HPI HPOS HFI HF6'
                    go_upto_region 16 with fail
                case' neg =>
                  have hd6 : decide (0 < pp) = false := decide_eq_false hsp
                  have HINS := Lib.hid (show insPos lessR 0 r o o.length = pp by
                    rw [HPOS.out]
                    obtain rfl : pp = 0 := by omega
                    rfl)
                  clear hsp
                  go_upto_region 14 with fail
                  clear z0 z1 d0 d1 d2
                  refine wp_region_G [] [(0, false), (1, false), (2, false), (3, false), (4, false), (5, false), (6, false), (7, false), (8, false), (9, false), (10, true), (11, false)] 123 rfl (by kernel_rfl) (by kernel_rfl) (by kernel_rfl) (fun c a d v w h => by cases d <;> exact h) (fun w8 hf8 => ?_)
                  simp only [List.map_cons, List.map_nil, List.getElem?_toArray, List.getElem?_cons_succ, List.getElem?_cons_zero, Option.getD_some]
                  have HF8 := Lib.hid (HFI.out.trans hf8 (by simp) (n := []) (by simp))
                  clear hf8
                  iterate 10 (apply wpG_t; · (intro w' hf'; go_wp2_with fail; exact ⟨rfl, rfl⟩))
                  refine wpG_x ?_
                  go_wp2_with fail
                  refine ⟨Fr.refl _ _, rfl, ?_⟩
                  apply wpG_t
                  · (intro w' hf'; go_wp2_with fail; exact ⟨rfl, rfl⟩)
                  refine wpG_end ?_
                  clear HPOS HFI
                  go_upto_region 16 with fail
                all_goals
                  have hz : w5.heap.size ≤ w8.heap.size := by have h1 := HF.out.size; have h2 := HFJ.out.size; have h3 := HF8.out.size; omega
                  have hown0 : (w8.alloc (.cells #[] 36)).ownsRow w8.heap.size 36 2 (.slice (some ⟨w8.heap.size, 0, none⟩) 0 0) 0 [] := ⟨rfl, .inr ⟨w8.heap.size, 0, #[], rfl, Nat.le_refl _, heap_alloc_new _ _, Nat.le_refl _, by decide, rfl, rfl⟩⟩
                  have hfa := Fr.alloc w8 (.cells #[] 36)
                  have HX2 := Lib.hid (fun wx (hfx : Fr [] w8 wx) => show (wx.heap[q6]? = some (.cells #[.int .i64 lr, .slice ar nr cr] 36 (0, 0))) ∧ (wx.heap[q5]? = some (.cells #[.slice fN lN kN, .slice fT lT kT, .slice (some ⟨gg, 0, none⟩) n cv] 25 (0, 0))) from ⟨(HF8.out.trans hfx (by simp) (n := []) (by simp)).heap HBX7.out (by simp), (HF8.out.trans hfx (by simp) (n := []) (by simp)).heap HBO7.out (by simp)⟩)
                  have hp1 : pp ≤ 100001 := by omega
                  have hk1 : n ≤ 4096 := by omega
                  have hvl := HRU7.out.vlen
                  have HZA := Lib.hid hfa
                  have HO0 := Lib.hid hown0
                  have HKB := Lib.hid (show w7.ownsRow w5.heap.size 3 1 (.slice ar nr cr) r.right.length (r.right.map intV) from owns_base HKR.out (fun jx hjx => by have h1 := (HKR.out.lt jx hjx).1; have h2 := HGE6.out; have h3 := HF.out.size; omega))
                  have HRX := Lib.hid (fun wx (hfx : Fr [] w8 wx) => owns_kept HRV7.out (HF8.out.trans hfx (by simp) (n := []) (by simp)) (by simp))
                  have hl1 : (ruleVs (o.take pp) (vs.take pp)).length = pp * 2 := by rw [ruleVs_len (by rw [List.length_take, List.length_take, hvl]), List.length_take, HOL.out]; omega
                  have hl3 : (ruleVs (o.drop pp) (vs.drop pp)).length = (n - pp) * 2 := by rw [ruleVs_len (by rw [List.length_drop, List.length_drop, hvl]), List.length_drop, HOL.out]
                  have HL1 := Lib.hid hl1
                  have HL3 := Lib.hid hl3
                  have HS1 := Lib.hid (fun wx (hfx : Fr [] w8 wx) => fun jx u (hj : (ruleVs (o.take pp) (vs.take pp))[jx]? = some u) => row_frontS (HRX.out wx hfx) (pp * 2) jx u (by rw [ruleVs_take]; exact hj))
                  have HS3 := Lib.hid (fun wx (hfx : Fr [] w8 wx) => fun jx u (hj : (ruleVs (o.drop pp) (vs.drop pp))[jx]? = some u) => row_backS (HRX.out wx hfx) (pp * 2) jx u (by rw [ruleVs_drop]; exact hj))
                  have HU1 := Lib.hid (rules_one HRU7.out (o.take pp) (vs.take pp) (fun z hz => by rw [← zip_take] at hz; exact List.mem_of_mem_take hz))
                  have HU3 := Lib.hid (rules_one HRU7.out (o.drop pp) (vs.drop pp) (fun z hz => by rw [← zip_drop] at hz; exact List.mem_of_mem_drop hz))
                  clear hl1 hl3
                  by_cases hcp : cv = pp
                  · obtain rfl : pp = cv := hcp.symm
                    obtain rfl : n = pp := by omega
                    obtain ⟨d0, d1, d2, -⟩ := three_of_heap ((HX2.out _ HZA.out).2)
                    clear hown0 hfa
                    go_wp2_with (first
                      | (at_builtin; have := w10; refine wpL_appendE rfl _ _ 23 rfl w8.heap.size 36 iR (.agg #[.int .i64 0, .slice none 0 0]) 2 32 Tryz.underlying23 hiR hr0 hr1 hr2 rfl (by decide) v10 (0 + n + 1) _ rfl HO10.out (.slice (some ⟨gg, 0, none⟩) 0 0) 0 [] rfl rfl (by simp) (.inr ⟨_, _, rfl, by intro jx u hj; simp at hj⟩) (by omega) (by simp only [maxLen]; omega) HF10.out.size ?_; intro v11 w11 hown11 hf11; have HF11 := Lib.hid (Fr.own HF10.out HO10.out hf11); obtain ⟨ae, ce, rfl, hce, hme⟩ := owns_slice hown11; obtain ⟨le, hle⟩ : ∃ le, le = 0 + n + 1 + 0 := ⟨_, rfl⟩; rw [← hle] at hown11 hce ⊢; have HLE := Lib.hid hle; have HO11 := Lib.hid hown11; clear hle; obtain ⟨d0, d1, d2, e0, e1, e2⟩ := three_of_heap ((HX2.out w11 HF11.out).2))
                      | (at_builtin; have := w9; refine wpL_appendS rfl _ _ 23 rfl w8.heap.size 36 iR _ 2 32 Tryz.underlying23 hiR hr0 hr1 hr2 (by rfl) (by decide) v9 (0 + n) _ rfl HO9.out [.int .i64 lr, .slice ar nr cr] rfl (by intro u hu; simp at hu; rcases hu with rfl | rfl <;> rfl) rfl (by omega) (by simp only [maxLen]; omega) HF9.out.size ?_; intro v10 w10 hown10 hf10 hb10; have HF10 := Lib.hid (Fr.own HF9.out HO9.out ((Fr.alloc w9 (.cells [Value.int .i64 lr, .slice ar nr cr].toArray 36)).trans hf10 (by simp) (n := v9.ownBlock.toList) (fun _ hi _ => hi))); have HO10 := Lib.hid hown10; obtain ⟨d0, d1, d2, -⟩ := three_of_heap ((HX2.out w10 HF10.out).2))
                      | (at_builtin; refine wpL_appendE rfl _ _ 23 rfl w8.heap.size 36 iR (.agg #[.int .i64 0, .slice none 0 0]) 2 32 Tryz.underlying23 hiR hr0 hr1 hr2 rfl (by decide) _ 0 _ rfl HO0.out (.slice (some ⟨gg, 0, none⟩) n n) n (ruleVs (o.take n) (vs.take n)) rfl HL1.out HU1.out (.inr ⟨_, _, rfl, HS1.out _ HZA.out⟩) (by omega) (by simp only [maxLen]; omega) HZA.out.size ?_; intro v9 w9 hown9 hf9; have HF9 := Lib.hid (Fr.own HZA.out HO0.out hf9); have HO9 := Lib.hid hown9; obtain ⟨z0, z1, -⟩ := two_of_box2 ((HX2.out w9 HF9.out).1)))
                    have h11 := HO11.out
                    have hnum : le = n + 1 := by have := HLE.out; omega
                    subst hnum
                    have hown : w11.ownsRow w8.heap.size 36 2 (.slice ae (n + 1) ce) (o.length + 1) (ruleVs (o.take n) (vs.take n) ++ [intV r.left, .slice ar nr cr] ++ ruleVs (o.drop n) (vs.drop n)) := by
                      rw [← HLR.out, HOL.out]
                      rw [show o.drop n = [] from List.drop_eq_nil_of_le (by rw [HOL.out]; exact Nat.le_refl _), show vs.drop n = [] from List.drop_eq_nil_of_le (by rw [hvl, HOL.out]; exact Nat.le_refl _)]
                      simpa [ruleVs, intV] using h11
                    have hins := RuRow.ins HRU7.out (HF8.out.trans HF11.out (by simp) (n := []) (by simp)) n r hz HKB.out hown
                    rw [show o.take n ++ r :: o.drop n = rrTo g (n + 1) by rw [HST.out]; unfold insB; rw [HINS.out]] at hins
                    have hb11 := (HX2.out w11 HF11.out).2
                    have hset := Fr.set0 w11 q5 2 (.slice ae (n + 1) ce)
                    have hb12 : (w11.setCell ⟨q5, 2, none⟩ (.slice ae (n + 1) ce)).heap[q5]? = some (.cells #[.slice fN lN kN, .slice fT lT kT, .slice ae (n + 1) ce] 25 (0, 0)) := heap_setCell_same hb11 (i := 2) (.slice ae (n + 1) ce)
                    have hru12 := hins.keptT (notT_box hb11 (by decide)) (notT_box hb11 (by decide)) hset
                    exact ⟨⟨n + 1, .slice ae (n + 1) ce, _, hmr, by go_num, hb12, hru12, ((HF.out.trans (HFJ.out.trans (HF8.out.trans HF11.out (by simp) (n := []) (by simp)) (by simp) (n := []) (by simp)) (fun _ hi _ => hi) (n := [q5]) (by simp))).trans hset (fun _ hi _ => hi) (fun _ hi _ => hi)⟩, by simp [intOf]; omega⟩
                  · skip
                    obtain ⟨d0, d1, d2, -⟩ := three_of_heap ((HX2.out _ HZA.out).2)
                    clear hown0 hfa
                    go_wp2_with (first
                      | (at_builtin; have := w10; refine wpL_appendE rfl _ _ 23 rfl w8.heap.size 36 iR (.agg #[.int .i64 0, .slice none 0 0]) 2 32 Tryz.underlying23 hiR hr0 hr1 hr2 rfl (by decide) v10 (0 + pp + 1) _ rfl HO10.out (.slice (some ⟨gg, pp * 2, none⟩) (n - pp) (cv - pp)) (n - pp) (ruleVs (o.drop pp) (vs.drop pp)) rfl HL3.out HU3.out (.inr ⟨_, _, rfl, HS3.out w10 HF10.out⟩) (by omega) (by simp only [maxLen]; omega) HF10.out.size ?_; intro v11 w11 hown11 hf11; have HF11 := Lib.hid (Fr.own HF10.out HO10.out hf11); obtain ⟨ae, ce, rfl, hce, hme⟩ := owns_slice hown11; obtain ⟨le, hle⟩ : ∃ le, le = 0 + pp + 1 + (n - pp) := ⟨_, rfl⟩; rw [← hle] at hown11 hce ⊢; have HLE := Lib.hid hle; have HO11 := Lib.hid hown11; clear hle; obtain ⟨d0, d1, d2, e0, e1, e2⟩ := three_of_heap ((HX2.out w11 HF11.out).2))
                      | (at_builtin; have := w9; refine wpL_appendS rfl _ _ 23 rfl w8.heap.size 36 iR _ 2 32 Tryz.underlying23 hiR hr0 hr1 hr2 (by rfl) (by decide) v9 (0 + pp) _ rfl HO9.out [.int .i64 lr, .slice ar nr cr] rfl (by intro u hu; simp at hu; rcases hu with rfl | rfl <;> rfl) rfl (by omega) (by simp only [maxLen]; omega) HF9.out.size ?_; intro v10 w10 hown10 hf10 hb10; have HF10 := Lib.hid (Fr.own HF9.out HO9.out ((Fr.alloc w9 (.cells [Value.int .i64 lr, .slice ar nr cr].toArray 36)).trans hf10 (by simp) (n := v9.ownBlock.toList) (fun _ hi _ => hi))); have HO10 := Lib.hid hown10; obtain ⟨d0, d1, d2, -⟩ := three_of_heap ((HX2.out w10 HF10.out).2))
                      | (at_builtin; refine wpL_appendE rfl _ _ 23 rfl w8.heap.size 36 iR (.agg #[.int .i64 0, .slice none 0 0]) 2 32 Tryz.underlying23 hiR hr0 hr1 hr2 rfl (by decide) _ 0 _ rfl HO0.out (.slice (some ⟨gg, 0, none⟩) pp cv) pp (ruleVs (o.take pp) (vs.take pp)) rfl HL1.out HU1.out (.inr ⟨_, _, rfl, HS1.out _ HZA.out⟩) (by omega) (by simp only [maxLen]; omega) HZA.out.size ?_; intro v9 w9 hown9 hf9; have HF9 := Lib.hid (Fr.own HZA.out HO0.out hf9); have HO9 := Lib.hid hown9; obtain ⟨z0, z1, -⟩ := two_of_box2 ((HX2.out w9 HF9.out).1)))
                    have h11 := HO11.out
                    have hnum : le = n + 1 := by have := HLE.out; omega
                    subst hnum
                    have hown : w11.ownsRow w8.heap.size 36 2 (.slice ae (n + 1) ce) (o.length + 1) (ruleVs (o.take pp) (vs.take pp) ++ [intV r.left, .slice ar nr cr] ++ ruleVs (o.drop pp) (vs.drop pp)) := by
                      rw [← HLR.out, HOL.out]
                      simpa [intV] using h11
                    have hins := RuRow.ins HRU7.out (HF8.out.trans HF11.out (by simp) (n := []) (by simp)) pp r hz HKB.out hown
                    rw [show o.take pp ++ r :: o.drop pp = rrTo g (n + 1) by rw [HST.out]; unfold insB; rw [HINS.out]] at hins
                    have hb11 := (HX2.out w11 HF11.out).2
                    have hset := Fr.set0 w11 q5 2 (.slice ae (n + 1) ce)
                    have hb12 : (w11.setCell ⟨q5, 2, none⟩ (.slice ae (n + 1) ce)).heap[q5]? = some (.cells #[.slice fN lN kN, .slice fT lT kT, .slice ae (n + 1) ce] 25 (0, 0)) := heap_setCell_same hb11 (i := 2) (.slice ae (n + 1) ce)
                    have hru12 := hins.keptT (notT_box hb11 (by decide)) (notT_box hb11 (by decide)) hset
                    exact ⟨⟨n + 1, .slice ae (n + 1) ce, _, hmr, by go_num, hb12, hru12, ((HF.out.trans (HFJ.out.trans (HF8.out.trans HF11.out (by simp) (n := []) (by simp)) (by simp) (n := []) (by simp)) (fun _ hi _ => hi) (n := [q5]) (by simp))).trans hset (fun _ hi _ => hi) (fun _ hi _ => hi)⟩, by simp [intOf]; omega⟩
      · have hd1 : decide (n < n3) = false := decide_eq_false hnn
        have hnl : n = g.rules.length := by rw [← HN3.out]; omega
        obtain ⟨av, cv, rfl, hcv, hmv⟩ := owns_slice hru.rules
        have hb8 := hf2r.heap HB1.out (by simp)
        obtain ⟨z0, z1, z2, y0, y1, y2⟩ := three_of_heap hb8
        obtain ⟨d0, d1, d2, -⟩ := three_of_heap hbx
        have HNL := Lib.hid hnl
        have HB8 := Lib.hid hb8
        clear hru hf hf2r hn hnl hb8 hbx hcv hmv
        go_wp2_with fail
        have hset := fr_set3C wr (q0 + 1) (.slice fN lN kN) (.slice fT lT kT) (.slice av (rrTo g n).length cv)
        have hh := gram_setC HB8.out (.slice fN lN kN) (.slice fT lT kT) (.slice av (rrTo g n).length cv)
        have hst1 := strs_over (HSN5.out wr HF.out) HB8.out hset
        have hst2 := strs_over (HST5.out wr HF.out) HB8.out hset
        have hrr1 := HRU.out.keptT (notT_box HB8.out (by decide)) (notT_box HB8.out (by decide)) hset
        refine bodyPost_ret (results_cell_row rfl _ _ (q0 + 1) 25 #[.slice fN lN kN, .slice fT lT kT, .slice av (rrTo g n).length cv] (0, 0) _ rfl hh Tryz.underlying25 rfl sizeGramC) rfl ⟨_, rfl, ?_, ?_⟩
        · refine ⟨_, _, _, rfl, hst1, hst2, ?_⟩
          rw [show (canonG g).rules = rrTo g n by
            unfold rrTo
            rw [HNL.out, List.take_of_length_le (by unfold rrG; simp), rr_rules]
            rfl]
          exact hrr1.at
        · exact ((HF2.out.trans HF2R.out (by simp) (n := []) (by simp)).trans hset (by simp) (fun ii hi hlt => by have := HQ0.out; simp at hi; omega))
end Go.Proofs.YtjlkcdmeiakkbaaGreatDoor
