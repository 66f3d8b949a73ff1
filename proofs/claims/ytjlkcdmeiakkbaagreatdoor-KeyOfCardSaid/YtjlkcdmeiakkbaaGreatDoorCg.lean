/- Several texts in one: CpI, CpKt. -/
import Derived.Laws.ResultCell
import Derived.Test.YtjlkcdmeiakkbaaGreatDoorCpD
import Derived.Test.YtjlkcdmeiakkbaaGreatDoorCf
import Derived.Test.YtjlkcdmeiakkbaaGreatDoorGc
import Derived.Test.YtjlkcdmeiakkbaaGreatDoorDt
import Derived.Test.YtjlkcdmeiakkbaaGreatDoorMm
import Derived.Test.YtjlkcdmeiakkbaaGreatDoorGd
import Derived.Test.YtjlkcdmeiakkbaaGreatDoorP3
set_option linter.unusedVariables false
set_option linter.unusedSimpArgs false
/-! The program's canonical grammars (layer 16): Of. -/
namespace Go.Proofs.YtjlkcdmeiakkbaaGreatDoor
open Go.RowKit Go.Lib Go.Sort

theorem sizeGramC : (Tryz.prog.info? 25).map (·.size) = some 3 := by kernel_rfl
theorem gram_setC {w : World} {p : Nat} {a b c : Value} {t : TypeId} (h : w.heap[p]? = some (.cells #[a, b, c] t (0, 0))) (x y z : Value) : (((w.setCell ⟨p, 0, none⟩ x).setCell ⟨p, 1, none⟩ y).setCell ⟨p, 2, none⟩ z).heap[p]? = some (.cells #[x, y, z] t (0, 0)) := by
  have h1 := heap_setCell_same h (i := 0) x
  have h2 := heap_setCell_same h1 (i := 1) y
  have h3 := heap_setCell_same h2 (i := 2) z
  exact h3
theorem fr_set3C (w : World) (p : Nat) (x y z : Value) : Fr [p] w (((w.setCell ⟨p, 0, none⟩ x).setCell ⟨p, 1, none⟩ y).setCell ⟨p, 2, none⟩ z) :=
  ((Fr.set0 w p 0 x).trans (Fr.set0 _ p 1 y) (fun _ z _ => z) (fun _ z _ => z)).trans (Fr.set0 _ p 2 z) (fun _ z _ => z) (fun _ z _ => z)
theorem gram_nilC (w : World) : gramAt w (.agg #[.slice none 0 0, .slice none 0 0, .slice none 0 0]) emptyG := by
  refine ⟨_, _, _, rfl, cellsAt.nil w, cellsAt.nil w, [], rfl, ?_, fun i h => by simp at h⟩
  exact .inl ⟨_, _, rfl, by simp, rfl⟩
/-- A cell that holds something else than a grammar's block lies in another block. -/
theorem apart_of_cell {w : World} {q b off : Nat} {x s1 s2 s3 : Value} {t : TypeId} (hq : w.heap[q]? = some (.cells #[s1, s2, s3] t (0, 0))) (hc : w.cell? ⟨b, off, none⟩ = some x) (h1 : x ≠ s1) (h2 : x ≠ s2) (h3 : x ≠ s3) : b ≠ q := by
  rintro rfl
  rw [cell_of_heap hq] at hc
  rcases off with _ | _ | _ | off
  · exact h1 (by simpa using hc.symm)
  · exact h2 (by simpa using hc.symm)
  · exact h3 (by simpa using hc.symm)
  · simp at hc
theorem cells_over {w w' : World} {q : Nat} {v : Value} {cs : List Value} {a1 a2 a3 : Option Addr} {n1 n2 n3 k1 k2 k3 : Nat} {t : TypeId} (h : cellsAt w v cs) (hs : ∀ x ∈ cs, ∀ a n k, x ≠ .slice a n k) (hq : w.heap[q]? = some (.cells #[.slice a1 n1 k1, .slice a2 n2 k2, .slice a3 n3 k3] t (0, 0))) (hf : Fr [q] w w') : cellsAt w' v cs := by
  refine cellsAt.kept h hf (fun k hk hne hlt => ?_)
  obtain ⟨a, cap, rfl, -, -⟩ := cellsAt.form h
  have hpos : 0 < cs.length := List.length_pos_iff.2 hne
  obtain ⟨b, off, rfl, -, hx⟩ := cellsAt.get h (i := 0) hpos
  have hb : b = k := by simpa [Value.ownBlock] using hk
  subst hb
  have h0 := hx 0 hpos
  have hm := hs _ (List.getElem_mem hpos)
  simp only [List.mem_singleton]
  exact apart_of_cell hq h0 (hm _ _ _) (hm _ _ _) (hm _ _ _)
theorem strs_over {w w' : World} {q : Nat} {v : Value} {l : List (List UInt8)} {a1 a2 a3 : Option Addr} {n1 n2 n3 k1 k2 k3 : Nat} {t : TypeId} (h : strsAt w v l) (hq : w.heap[q]? = some (.cells #[.slice a1 n1 k1, .slice a2 n2 k2, .slice a3 n3 k3] t (0, 0))) (hf : Fr [q] w w') : strsAt w' v l :=
  cells_over h (fun x hx a n k => by obtain ⟨y, -, rfl⟩ := List.mem_map.1 hx; simp [encStr]) hq hf
theorem ints_over {w w' : World} {q : Nat} {v : Value} {l : List Int} {a1 a2 a3 : Option Addr} {n1 n2 n3 k1 k2 k3 : Nat} {t : TypeId} (h : intsAt w v l) (hq : w.heap[q]? = some (.cells #[.slice a1 n1 k1, .slice a2 n2 k2, .slice a3 n3 k3] t (0, 0))) (hf : Fr [q] w w') : intsAt w' v l :=
  cells_over h (fun x hx a n k => by obtain ⟨y, -, rfl⟩ := List.mem_map.1 hx; simp [intV]) hq hf
theorem rules_over {w w' : World} {q : Nat} {v : Value} {l : List RuleG} {a1 a2 a3 : Option Addr} {n1 n2 n3 k1 k2 k3 : Nat} {t : TypeId} (h : rulesAt w v l) (hq : w.heap[q]? = some (.cells #[.slice a1 n1 k1, .slice a2 n2 k2, .slice a3 n3 k3] t (0, 0))) (hf : Fr [q] w w') : rulesAt w' v l := by
  obtain ⟨vs, e, hc, hi⟩ := h
  refine ⟨vs, e, ?_, fun i a b => ints_over (hi i a b) hq hf⟩
  rcases hc with h0 | ⟨b, off, cap, rfl, h1, h2, hb, hcell⟩
  · exact .inl h0
  · refine .inr ⟨b, off, cap, rfl, h1, h2, Nat.lt_of_lt_of_le hb hf.size, fun i hi' => ⟨(hcell i hi').1, fun j u hj => ?_⟩⟩
    have hne : b ≠ q := by
      have hx := (hcell i hi').2 0 _ (by rw [List.getElem_map]; rfl)
      exact apart_of_cell hq hx (by simp [intV]) (by simp [intV]) (by simp [intV])
    exact hf.cell ((hcell i hi').2 j u hj) (by simpa using hne)
theorem places_le {n : Nat} {cf : Nat → Nat → Int} {p : List Nat} (h : SortedN n cf p) (hn : n ≤ 256) : ∀ x ∈ placesN p, 0 ≤ x ∧ x ≤ 500 := by
  intro x hx
  unfold placesN at hx
  obtain ⟨k, hk, rfl⟩ := List.mem_map.1 hx
  have := List.idxOf_le_length (a := k) (l := p)
  rw [h.len] at this
  omega
theorem ren_ok {g : GramG} (hv : ValidG g) {cn ct : Nat → Nat → Int} {pn pt : List Nat} (hn : SortedN g.names.length cn pn) (ht : SortedN g.terms.length ct pt) : RenOk (placesN pn) (placesN pt) where
  ln := by have := hv.syms; rw [places_len, hn.len]; omega
  lt := by have := hv.syms; rw [places_len, ht.len]; omega
  vn := places_le hn (by have := hv.syms; omega)
  vt := places_le ht (by have := hv.syms; omega)
theorem syms_ok {g : GramG} (hv : ValidG g) {cn ct : Nat → Nat → Int} {pn pt : List Nat} (hn : SortedN g.names.length cn pn) (ht : SortedN g.terms.length ct pt) : ∀ r ∈ g.rules, SymsOk (placesN pn) (placesN pt) r := by
  intro r hr
  obtain ⟨h1, h2, h3, h4⟩ := hv.rules r hr
  refine ⟨⟨h1, by rw [places_len, hn.len]; exact h2⟩, fun s hs => ?_, by omega⟩
  rw [places_len, places_len, hn.len, ht.len]
  exact h4 s hs
set_option maxRecDepth 100000 in
set_option maxHeartbeats 4000000 in
theorem pcanof_any : ProgCanOf := by
  intro g gv w hg hz hi
  have hval := fun wx (hf : Fr [] w wx) => pvalid_any g gv wx (hg.below hf) hz hi
  obtain ⟨C, hC⟩ : ∃ C, C = canonO g := ⟨_, rfl⟩
  rw [← hC]
  obtain ⟨a1, c1, a2, c2, a3, c3, rfl, ⟨h1, q1, p1⟩, ⟨h2, q2, p2⟩, ⟨h3, q3, p3⟩⟩ := hg.parts
  have hb0 := heap_alloc_new w (.cells #[.slice a1 g.names.length c1, .slice a2 g.terms.length c2, .slice a3 g.rules.length c3] 25)
  have hb1 := heap_alloc_new (w.alloc (.cells #[.slice a1 g.names.length c1, .slice a2 g.terms.length c2, .slice a3 g.rules.length c3] 25)) (.cells #[.slice none 0 0, .slice none 0 0, .slice none 0 0] 25)
  have hf0 := Fr.alloc w (.cells #[.slice a1 g.names.length c1, .slice a2 g.terms.length c2, .slice a3 g.rules.length c3] 25)
  have hf1 := Fr.alloc (w.alloc (.cells #[.slice a1 g.names.length c1, .slice a2 g.terms.length c2, .slice a3 g.rules.length c3] 25)) (.cells #[.slice none 0 0, .slice none 0 0, .slice none 0 0] 25)
  obtain ⟨w2, hw2⟩ : ∃ w2, w2 = (w.alloc (.cells #[.slice a1 g.names.length c1, .slice a2 g.terms.length c2, .slice a3 g.rules.length c3] 25)).alloc (.cells #[.slice none 0 0, .slice none 0 0, .slice none 0 0] 25) := ⟨_, rfl⟩
  obtain ⟨q0, hq0⟩ : ∃ q0, q0 = w.heap.size := ⟨_, rfl⟩
  have hb0' := hf1.heap hb0 (by simp)
  have hf2 := hf0.trans hf1 (by simp) (n := []) (by simp)
  rw [World.size_alloc, ← hq0] at hb1
  rw [← hw2] at hb1 hb0' hf2
  rw [← hq0] at hb0'
  have HB0 := Lib.hid hb0'
  have HB1 := Lib.hid hb1
  have HF2 := Lib.hid hf2
  have HVAL := Lib.hid (hval _ hf2)
  have H1 := Lib.hid (h1.below hf2)
  have H2 := Lib.hid (h2.below hf2)
  have H3 := Lib.hid (h3.below hf2)
  have HW2 := Lib.hid hw2
  have HQ0 := Lib.hid hq0
  obtain ⟨n1, hn1⟩ : ∃ n, n = g.names.length := ⟨_, rfl⟩
  obtain ⟨n2, hn2⟩ : ∃ n, n = g.terms.length := ⟨_, rfl⟩
  obtain ⟨n3, hn3⟩ : ∃ n, n = g.rules.length := ⟨_, rfl⟩
  have HN1 := Lib.hid hn1
  have HN2 := Lib.hid hn2
  have HN3 := Lib.hid hn3
  rw [← hn1, ← hn2, ← hn3] at HB0 HVAL HW2
  rw [← hn1] at H1 q1
  rw [← hn2] at H2 q2
  rw [← hn3] at H3 q3
  rw [← hn1, ← hn2, ← hn3]
  obtain ⟨x0, x1, x2, -⟩ := three_of_heap HB0.out
  have HC := Lib.hid hC
  have HZ := Lib.hid hz
  clear hb0 hb1 hf0 hf1 hb0' hf2 hw2 hq0 h1 h2 h3 hg hval hn1 hn2 hn3 hC hi hz
  cases hvb : validB g with
  | false =>
    rw [hvb] at HVAL
    have HE := Lib.hid (show C = emptyG by rw [HC.out]; unfold canonO; rw [hvb]; rfl)
    clear hvb
    go_enter Tryz.func31, Tryz.ntmps31
    go_upto_region 1 with fail
    rw [← HW2.out, ← HQ0.out]
    go_wp2_with (go_at_call 10; refine HVAL.out.mono ?_; rintro e w3 ⟨rfl, hf3⟩; have hb3 := hf3.heap HB1.out (by simp); obtain ⟨z0, z1, z2, y0, y1, y2⟩ := three_of_heap hb3)
    have hh := gram_setC hb3 (.slice none 0 0) (.slice none 0 0) (.slice none 0 0)
    refine bodyPost_ret (results_cell_row rfl _ _ (q0 + 1) 25 #[.slice none 0 0, .slice none 0 0, .slice none 0 0] (0, 0) _ rfl hh Tryz.underlying25 rfl sizeGramC) rfl ⟨_, rfl, by rw [HE.out]; exact gram_nilC _, ?_⟩
    exact (HF2.out.trans hf3 (by simp) (n := []) (by simp)).trans (fr_set3C _ _ _ _ _) (by simp) (fun i hi hlt => by have := HQ0.out; simp at hi; omega)
  | true =>
    rw [hvb] at HVAL
    have hv : ValidG g := of_boolOf hvb
    have hsy := hv.syms
    have HV := Lib.hid hv
    have HE := Lib.hid (show C = canonG g by rw [HC.out]; unfold canonO; rw [hvb]; rfl)
    have egN : ∀ args w, (callFunc 66 args).run Tryz.prog w = .ok (.enter 66 args) w := enters_of Tryz.func66 (by kernel_rfl) rfl
    have egT : ∀ args w, (callFunc 69 args).run Tryz.prog w = .ok (.enter 69 args) w := enters_of Tryz.func69 (by kernel_rfl) rfl
    have HON := Lib.hid (fun wx (hf : Fr [] w2 wx) => pordered_any n1 (by have := HN1.out; omega) (cfN g.names) (by rw [HN1.out]; exact ordN g.names _) 66 #[.pointer (some ⟨q0, 0, none⟩)] egN wx (fun wy hy x y hx hy' => pcfN_any g.names _ _ _ q0 x y wy ((hf.trans hy (by simp) (n := []) (by simp)).heap HB0.out (by simp)) (H1.out.below (hf.trans hy (by simp) (n := []) (by simp))) (by rw [← HN1.out]; exact hx) (by rw [← HN1.out]; exact hy')))
    have HOT := Lib.hid (fun wx (hf : Fr [] w2 wx) => pordered_any n2 (by have := HN2.out; omega) (cfT g.terms) (by rw [HN2.out]; exact ordT g.terms _) 69 #[.pointer (some ⟨q0, 0, none⟩)] egT wx (fun wy hy x y hx hy' => pcfT_any g.terms _ _ _ q0 x y wy ((hf.trans hy (by simp) (n := []) (by simp)).heap HB0.out (by simp)) (H2.out.below (hf.trans hy (by simp) (n := []) (by simp))) (by rw [← HN2.out]; exact hx) (by rw [← HN2.out]; exact hy')))
    clear hvb hv egN egT
    go_enter Tryz.func31, Tryz.ntmps31
    go_upto_region 1 with fail
    rw [← HW2.out, ← HQ0.out]
    go_upto_region 3 with (go_at_call 10; refine HVAL.out.mono ?_; rintro e w3 ⟨rfl, hf3⟩; obtain ⟨y0, y1, y2, -⟩ := three_of_heap (hf3.heap HB0.out (by simp)))
    go_upto_region 4 with (go_at_call 65; refine (HON.out _ hf3).mono ?_; rintro e w4 ⟨v1, pn, rfl, hpn, hin, hf4⟩)
    have hf24 := hf3.trans hf4 (by simp) (n := []) (by simp)
    clear y0 y1 y2
    obtain ⟨y0, y1, y2, -⟩ := three_of_heap (hf24.heap HB0.out (by simp))
    go_upto_region 5 with (go_at_call 65; refine (HOT.out _ hf24).mono ?_; rintro e w5 ⟨v2, pt, rfl, hpt, hit, hf5⟩)
    have hf25 := hf24.trans hf5 (by simp) (n := []) (by simp)
    have hin5 := hin.below hf5
    have hpnN : SortedN g.names.length (cfN g.names) pn := by rw [← HN1.out]; exact hpn
    have hptN : SortedN g.terms.length (cfT g.terms) pt := by rw [← HN2.out]; exact hpt
    have hln : pn.length = n1 := hpn.len
    have hlt : pt.length = n2 := hpt.len
    refine wp_region_T (Fr [q0 + 1]) (fun _ => Fr.refl _ _) (fun _ _ _ h k => h.trans k (fun _ hi _ => hi) (fun _ hi _ => hi)) [(0, false), (1, false), (2, false), (4, false), (5, false), (6, false), (8, false), (9, false), (10, false), (12, false), (3, true), (7, true), (11, true), (13, true), (14, true), (15, false), (16, true)] 35 rfl (by kernel_rfl) (by kernel_rfl) (by kernel_rfl) (fun c a d v w h => by cases d <;> exact h) ?_
    simp only [List.map_cons, List.map_nil, List.getElem?_toArray, List.getElem?_cons_succ, List.getElem?_cons_zero, Option.getD_some]
    obtain ⟨w6, hw6⟩ : ∃ w6, w6 = w5.drew := ⟨_, rfl⟩
    have hf26 : Fr [] w2 w6 := by rw [hw6]; exact hf25.andDrew
    have hin6 : intsAt w6 v1 (natsV pn) := by rw [hw6]; exact hin5.below (Fr.drew _)
    have hit6 : intsAt w6 v2 (natsV pt) := by rw [hw6]; exact hit.below (Fr.drew _)
    rw [← hw6]
    have HF26 := Lib.hid hf26
    have HPN := Lib.hid hpnN
    have HPT := Lib.hid hptN
    have HLN := Lib.hid hln
    have HLT := Lib.hid hlt
    have HPA := Lib.hid (fun wx (hf : Fr [] w6 wx) => ppick_any g.names pn _ v1 wx (H1.out.below (hf26.trans hf (by simp) (n := []) (by simp))) (hin6.below hf) (fun k hk => hpnN.lt hk) (by have := HN1.out; have := HN2.out; omega))
    have HPB := Lib.hid (fun wx (hf : Fr [] w6 wx) => ppick_any g.terms pt _ v2 wx (H2.out.below (hf26.trans hf (by simp) (n := []) (by simp))) (hit6.below hf) (fun k hk => hptN.lt hk) (by have := HN1.out; have := HN2.out; omega))
    have HPC := Lib.hid (fun wx (hf : Fr [] w6 wx) => pplN_any pn v1 wx (hin6.below hf) hpn.nodup (fun k hk => by rw [hln]; exact hpn.lt hk) (fun k hk => hpn.has (by rw [← hln]; exact hk)) (by have := HN1.out; have := HN2.out; omega))
    have HPD := Lib.hid (fun wx (hf : Fr [] w6 wx) => pplN_any pt v2 wx (hit6.below hf) hpt.nodup (fun k hk => by rw [hlt]; exact hpt.lt hk) (fun k hk => hpt.has (by rw [← hlt]; exact hk)) (by have := HN1.out; have := HN2.out; omega))
    have HPE := Lib.hid (fun wx nv tv (hf : Fr [] w6 wx) (hnv : intsAt wx nv (placesN pn)) (htv : intsAt wx tv (placesN pt)) => prew_any g.rules _ _ (ren_ok HV.out hpnN hptN) _ nv tv wx (H3.out.below (hf26.trans hf (by simp) (n := []) (by simp))) hnv htv (syms_ok HV.out hpnN hptN) (by have := HV.out.few; omega))
    clear hw6 hf26 hin6 hit6 hpnN hptN hln hlt hf25 hin5 hin hit hpn hpt hf5 hf24 hf4 hf3 y0 y1 y2
    iterate 10 (apply wpT_t; · (intro w' hf'; obtain ⟨y0, y1, y2, -⟩ := three_of_heap (hf'.heap (HF26.out.heap HB0.out (by simp)) (by simp)); go_wp2_with fail; exact ⟨rfl, rfl⟩))
    refine wpT_x ?_
    go_wp2_with fail
    refine (HPA.out _ (Fr.refl _ _)).mono ?_
    rintro e w7 ⟨va, rfl, hva, hf7⟩
    go_wp2_with fail
    refine ⟨hf7.mono (by simp), rfl, ?_⟩
    refine wpT_x ?_
    go_wp2_with fail
    refine (HPB.out _ hf7).mono ?_
    rintro e w8 ⟨vb, rfl, hvb, hf8⟩
    have hf68 := hf7.trans hf8 (by simp) (n := []) (by simp)
    go_wp2_with fail
    refine ⟨hf8.mono (by simp), rfl, ?_⟩
    refine wpT_x ?_
    go_wp2_with fail
    refine (HPC.out _ hf68).mono ?_
    rintro e w9 ⟨vc, rfl, hvc, hf9⟩
    have hf69 := hf68.trans hf9 (by simp) (n := []) (by simp)
    go_wp2_with fail
    refine ⟨hf9.mono (by simp), rfl, ?_⟩
    refine wpT_x ?_
    go_wp2_with fail
    refine (HPD.out _ hf69).mono ?_
    rintro e w10 ⟨vd, rfl, hvd, hf10⟩
    have hf610 := hf69.trans hf10 (by simp) (n := []) (by simp)
    go_wp2_with fail
    refine ⟨hf10.mono (by simp), rfl, ?_⟩
    refine wpT_x ?_
    go_wp2_with fail
    refine (HPE.out _ vc vd hf610 (hvc.below hf10) hvd).mono ?_
    rintro e w11 ⟨ve, pr, rfl, hpr, hve, hf11⟩
    have hf211 := (HF26.out.trans hf610 (by simp) (n := []) (by simp)).trans hf11 (by simp) (n := []) (by simp)
    have hva11 := (((hva.below hf8).below hf9).below hf10).below hf11
    have hvb11 := ((hvb.below hf9).below hf10).below hf11
    obtain ⟨fa, ca, rfl, -, -⟩ := hva11.form
    obtain ⟨fb, cb, rfl, -, -⟩ := hvb11.form
    obtain ⟨fe, ce, rfl, -, -⟩ := hve.form
    go_wp2_with fail
    refine ⟨hf11.mono (by simp), rfl, ?_⟩
    apply wpT_t
    · intro w' hf'
      go_wp2_with fail
      exact ⟨rfl, rfl⟩
    have hb11 := hf211.heap HB1.out (by simp)
    obtain ⟨z0, z1, z2, y0, y1, y2⟩ := three_of_heap hb11
    have HVA := Lib.hid hva11
    have HVB := Lib.hid hvb11
    have HVE := Lib.hid hve
    have HB11 := Lib.hid hb11
    have HF211 := Lib.hid hf211
    have HPR := Lib.hid hpr
    clear hva hvb hvc hvd hve hva11 hvb11 hb11 hf211 hf7 hf8 hf9 hf10 hf11 hf68 hf69 hf610 hpr
    refine wpT_x ?_
    go_wp2_with fail
    refine ⟨fr_set3C _ _ _ _ _, rfl, ?_⟩
    refine wpT_end ?_
    have hset := fr_set3C w11 (q0 + 1) (.slice fa (pickN g.names pn).length ca) (.slice fb (pickN g.terms pt).length cb) (.slice fe (pickR (g.rules.map (renR (placesN pn) (placesN pt))) pr).length ce)
    have hh := gram_setC HB11.out (.slice fa (pickN g.names pn).length ca) (.slice fb (pickN g.terms pt).length cb) (.slice fe (pickR (g.rules.map (renR (placesN pn) (placesN pt))) pr).length ce)
    have ka := strs_over HVA.out HB11.out hset
    have kb := strs_over HVB.out HB11.out hset
    have ke := rules_over HVE.out HB11.out hset
    have hcan := canon_parts HV.out HPN.out HPT.out HPR.out
    have HKA := Lib.hid ka
    have HKB := Lib.hid kb
    have HKE := Lib.hid ke
    have HH := Lib.hid hh
    have HSET := Lib.hid hset
    have HCAN := Lib.hid hcan
    clear hset hh ka kb ke hcan z0 z1 z2 y0 y1 y2
    go_wp2_with fail
    refine bodyPost_ret (results_cell_row rfl _ _ (q0 + 1) 25 #[.slice fa (pickN g.names pn).length ca, .slice fb (pickN g.terms pt).length cb, .slice fe (pickR (g.rules.map (renR (placesN pn) (placesN pt))) pr).length ce] (0, 0) _ rfl HH.out Tryz.underlying25 rfl sizeGramC) rfl ⟨_, rfl, ?_, ?_⟩
    · rw [HE.out, ← HCAN.out]
      exact ⟨_, _, _, rfl, HKA.out, HKB.out, HKE.out⟩
    · exact (HF2.out.trans HF211.out (by simp) (n := []) (by simp)).trans HSET.out (by simp) (fun i hi hlt => by have := HQ0.out; simp at hi; omega)
end Go.Proofs.YtjlkcdmeiakkbaaGreatDoor

/-! The program's canonical grammars (layer 16): Text. -/
namespace Go.Proofs.YtjlkcdmeiakkbaaGreatDoor
open Go.RowKit


theorem canonO_size (g : GramG) : SizeG (canonO g) ∧ IntG (canonO g) := by
  unfold canonO
  split
  · next h => exact ⟨valid_size (canon_valid (of_boolOf h)), valid_int (canon_valid (of_boolOf h))⟩
  · exact ⟨empty_size, empty_int⟩
theorem textO_lines (g : GramG) : textD (linesOf (canonO g)) = textO g := by
  unfold textO linesOf canonO
  by_cases h : validB g = true
  · rw [if_pos h, if_pos h, if_pos (show validB (canonG g) = true from boolOf_true (canon_valid (of_boolOf h)))]
  · rw [if_neg h, if_neg h, if_neg ?_]
    · rfl
    · intro hh
      exact empty_not (of_boolOf hh)
theorem textO_len (g : GramG) : (textO g).length ≤ 10000000000 := by
  unfold textO
  split
  · next h =>
    rw [canon_weight (of_boolOf h)]
    have := weight_most (of_boolOf h)
    omega
  · simp
set_option maxRecDepth 100000 in
set_option maxHeartbeats 1000000 in
theorem pcantext_any : ProgCanText := by
  intro g gv w hg hz hi
  have hof := fun wx (hf : Fr [] w wx) => pcanof_any g gv wx (hg.below hf) hz hi
  obtain ⟨a1, c1, a2, c2, a3, c3, rfl, -, -, -⟩ := hg.parts
  have hb0 := heap_alloc_new w (.cells #[.slice a1 g.names.length c1, .slice a2 g.terms.length c2, .slice a3 g.rules.length c3] 25)
  have hf0 := Fr.alloc w (.cells #[.slice a1 g.names.length c1, .slice a2 g.terms.length c2, .slice a3 g.rules.length c3] 25)
  obtain ⟨w2, hw2⟩ : ∃ w2, w2 = w.alloc (.cells #[.slice a1 g.names.length c1, .slice a2 g.terms.length c2, .slice a3 g.rules.length c3] 25) := ⟨_, rfl⟩
  obtain ⟨q0, hq0⟩ : ∃ q0, q0 = w.heap.size := ⟨_, rfl⟩
  rw [← hw2] at hb0 hf0
  rw [← hq0] at hb0
  have HF0 := Lib.hid hf0
  have HOF := Lib.hid (hof w2 hf0)
  have HW2 := Lib.hid hw2
  have HQ0 := Lib.hid hq0
  have HLN := Lib.hid (fun cv wx (hc : gramAt wx cv (canonO g)) => plines_any (canonO g) cv wx hc (canonO_size g).1 (canonO_size g).2)
  have HTX := Lib.hid (fun lv wx (hl : linesAt wx lv (linesOf (canonO g))) => prog_txt (linesOf (canonO g)) lv wx hl (by rw [textO_lines]; exact textO_len g))
  rw [textO_lines] at HTX
  obtain ⟨n1, hn1⟩ : ∃ n, n = g.names.length := ⟨_, rfl⟩
  obtain ⟨n2, hn2⟩ : ∃ n, n = g.terms.length := ⟨_, rfl⟩
  obtain ⟨n3, hn3⟩ : ∃ n, n = g.rules.length := ⟨_, rfl⟩
  rw [← hn1, ← hn2, ← hn3] at hb0 HOF HW2
  rw [← hn1, ← hn2, ← hn3]
  obtain ⟨x0, x1, x2, -⟩ := three_of_heap hb0
  clear hb0 hf0 hof hw2 hq0 hg hn1 hn2 hn3 hz hi
  go_enter Tryz.func13, Tryz.ntmps13
  go_upto_region 1 with fail
  rw [← HW2.out, ← HQ0.out]
  go_wp2_with (first
    | (go_at_call 29; refine (HTX.out _ _ hl4).mono ?_; rintro e w5 ⟨rfl, hf5⟩)
    | (go_at_call 30; refine (HLN.out _ _ hc3).mono ?_; rintro e w4 ⟨lv, rfl, hl4, hf4⟩)
    | (go_at_call 31; refine HOF.out.mono ?_; rintro e w3 ⟨cv, rfl, hc3, hf3⟩))
  go_ret
  exact ⟨rfl, ((HF0.out.trans hf3 (by simp) (n := []) (by simp)).trans hf4 (by simp) (n := []) (by simp)).trans hf5 (by simp) (by simp)⟩
end Go.Proofs.YtjlkcdmeiakkbaaGreatDoor
