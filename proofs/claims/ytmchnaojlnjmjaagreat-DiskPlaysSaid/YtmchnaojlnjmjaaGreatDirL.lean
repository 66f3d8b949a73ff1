/- The document's Do (layer 9). Its last region (fifteen orders of what it makes) is written by wip/tools/gen_dirL.py. -/
import Derived.Test.YtmchnaojlnjmjaaGreatDirK
import Derived.Test.YtmchnaojlnjmjaaGreatBs
import Derived.Deep.DeepCutAuto
namespace Go.Proofs.YtmchnaojlnjmjaaGreat
open Go.RowKit Go.Maps

theorem infoRO : (Tryz.prog.info? 105).map (fun i => (i.zero, i.size, i.bytes)) = some (some (.agg #[.int .i64 0, .string ⟨#[]⟩, .string ⟨#[]⟩, .int .i64 0]), 4, 48) := by kernel_rfl
theorem pcells_one (l : List OpD) : ∀ u ∈ (l.map OpD.pcells).flatten, u.oneCell' = true := by
  intro u hu
  obtain ⟨x, hx, hux⟩ := List.mem_flatten.1 hu
  obtain ⟨o, _, rfl⟩ := List.mem_map.1 hx
  simp [OpD.pcells] at hux
  rcases hux with rfl | rfl | rfl | rfl <;> rfl
theorem pcells_len (l : List OpD) : (l.map OpD.pcells).flatten.length = l.length * 4 := by
  induction l with
  | nil => rfl
  | cons o r ih => simp only [List.map_cons, List.flatten_cons, List.length_append, ih, List.length_cons]; simp [OpD.pcells]; omega
/-- What was done, as a source of append. -/
theorem ops_src {w : World} {ov : Value} {l : List OpD} (h : opsR w ov l) : (ov = .slice none 0 0 ∧ l.length = 0) ∨ ∃ ad c, ov = .slice (some ad) l.length c ∧ ∀ j u, (l.map OpD.pcells).flatten[j]? = some u → w.cell? (ad.add j) = some u := by
  have hc := fun g hg => World.ownsRow.cells (g := g) h hg
  rcases h.2 with ⟨h1, h2⟩ | ⟨g, cap, cur, rfl, _⟩
  · exact .inl ⟨h1, h2⟩
  · exact .inr ⟨_, _, rfl, hc g rfl⟩
theorem ownsB {w w' : World} {B base sz n : Nat} {e : TypeId} {v : Value} {xs : List Value} (h : w.ownsRow base e sz v n xs) (hf : Below B w w') (hB : ∀ k, v.ownBlock = some k → k < B) : w'.ownsRow base e sz v n xs := by
  refine ⟨h.1, ?_⟩
  rcases h.2 with h2 | ⟨g, cap, cur, rfl, hb, hg, r⟩
  · exact .inl h2
  · exact .inr ⟨g, cap, cur, rfl, hb, (hf.block g (hB g rfl)).trans hg, r⟩
def Didd (now : List Ent) (sv : Value) (ops : List OpD) (w : World) (e : Ending) (w' : World) : Prop := ∃ nv ov, e = .returned (.agg #[nv, sv, ov]) ∧ namesR w' 0 nv now ∧ opsR w' ov ops ∧ Fr [] w w'
theorem dirs_boxes (w : World) (F A R : Array Value) (tF tA : TypeId) : Fr [] w (((w.alloc (.cells F tF)).alloc (.cells A tA)).alloc (.cells R tF)) ∧ (((w.alloc (.cells F tF)).alloc (.cells A tA)).alloc (.cells R tF)).heap[w.heap.size]? = some (.cells F tF (0, 0)) ∧
    (((w.alloc (.cells F tF)).alloc (.cells A tA)).alloc (.cells R tF)).heap[w.heap.size + 1]? = some (.cells A tA (0, 0)) ∧ (((w.alloc (.cells F tF)).alloc (.cells A tA)).alloc (.cells R tF)).heap[w.heap.size + 1 + 1]? = some (.cells R tF (0, 0)) ∧
    (((w.alloc (.cells F tF)).alloc (.cells A tA)).alloc (.cells R tF)).heap.size = w.heap.size + 3 := by
  have h1 := heap_alloc_new w (.cells F tF)
  have h2 := heap_alloc_new (w.alloc (.cells F tF)) (.cells A tA)
  have h3 := heap_alloc_new ((w.alloc (.cells F tF)).alloc (.cells A tA)) (.cells R tF)
  have f1 := Fr.alloc w (.cells F tF)
  have f2 := Fr.alloc (w.alloc (.cells F tF)) (.cells A tA)
  have f3 := Fr.alloc ((w.alloc (.cells F tF)).alloc (.cells A tA)) (.cells R tF)
  rw [World.size_alloc] at h2 h3
  rw [World.size_alloc] at h3
  exact ⟨(f1.trans f2 (by simp) (n := []) (by simp)).trans f3 (by simp) (by simp), f3.heap (f2.heap h1 (by simp)) (by simp), f3.heap h2 (by simp), h3, by simp⟩
/-- The end of Do's last region. -/
theorem rdo_end {w wd wz : World} {B bR : Nat} {now : List Ent} {sv nv ov : Value} {ops : List OpD} (hwB : w.heap.size ≤ B) (hf : Fr [] w wd) (hB : B ≤ wd.heap.size) (hb : Below B wd wz) (hn : namesR wz 0 nv now) (ho : wz.ownsRow bR 105 4 ov ops.length (ops.map OpD.pcells).flatten)
    (hP : wz.heap[B]? = some (.cells #[.slice none 0 0, .slice none 0 0, .slice none 0 0] 30 (0, 0))) :
    namesR (((wz.setCell ⟨B, 0, none⟩ nv).setCell ⟨B, 1, none⟩ sv).setCell ⟨B, 2, none⟩ ov) 0 nv now ∧ opsR (((wz.setCell ⟨B, 0, none⟩ nv).setCell ⟨B, 1, none⟩ sv).setCell ⟨B, 2, none⟩ ov) ov ops ∧ Fr [] w (((wz.setCell ⟨B, 0, none⟩ nv).setCell ⟨B, 1, none⟩ sv).setCell ⟨B, 2, none⟩ ov) := by
  have hfs := Fr.set3 wz B nv sv ov
  refine ⟨owns_kept hn hfs (fun k hk => by simpa using owns_ne hn hP (by decide) k hk), owns_kept (owns_base ho (fun _ _ => Nat.zero_le _)) hfs (fun k hk => by simpa using owns_ne ho hP (by decide) k hk), ?_⟩
  have h1 : Below w.heap.size w wz := (hf.below (Nat.le_refl _) (by simp)).trans (hb.mono hwB)
  exact (Fr.of_below h1).trans hfs (by simp) (by simp; omega)
theorem fresh_apart {w : World} {b b2 B : Nat} {e t : TypeId} {c0 c1 c2 c3 : Value} {fr : Nat × Nat} (h1 : w.heap[b]? = some (.cells #[c0, c1, c2, c3] t fr)) (h2 : w.ownsRow B e 4 (.slice (some ⟨b2, 0, none⟩) 0 0) 0 []) : b ∉ (Value.slice (some ⟨b2, 0, none⟩) 0 0).ownBlock.toList := by
  intro hm
  have hb : b = b2 := by simpa [Value.ownBlock] using hm
  subst hb
  rcases h2.2 with ⟨h4, _⟩ | ⟨g4, cap4, cur4, h5, _, h6, _, _, h7, _⟩
  · cases h4
  · simp only [Value.slice.injEq, Option.some.injEq, Addr.mk.injEq] at h5
    obtain ⟨⟨rfl, -, -⟩, -, rfl⟩ := h5
    rw [h1] at h6
    simp only [Option.some.injEq, Obj.cells.injEq] at h6
    obtain ⟨rfl, -, -⟩ := h6
    simp at h7
theorem pcells_at {w : World} {b : Nat} {kd on : Int} {oa ob : List UInt8} {t : TypeId} {fr : Nat × Nat} (h : w.heap[b]? = some (.cells #[.int .i64 kd, encStr oa, encStr ob, .int .i64 on] t fr)) : ∀ j u, (OpD.pcells ⟨kd, oa, ob, on⟩)[j]? = some u → w.cell? ((⟨b, 0, none⟩ : Addr).add j) = some u := by
  intro j u hu
  have hadd : (⟨b, 0, none⟩ : Addr).add j = ⟨b, j, none⟩ := by unfold Addr.add; split <;> simp_all
  rw [hadd, cell_of_heap h]
  simpa [OpD.pcells] using hu
theorem rdo_fin {w wz : World} {B : Nat} {now : List Ent} {ops : List OpD} {sv nv ov : Value} {tm : Array Value} (hh : wz.heap[B]? = some (.cells #[nv, sv, ov] 30 (0, 0))) (h1 : namesR wz 0 nv now) (h2 : opsR wz ov ops) (h3 : Fr [] w wz) (ht : tm.getD 4 undef = .pointer (some ⟨B, 0, none⟩) := by rfl) :
    bodyPost Tryz.prog Tryz.f59 (Didd now sv ops w) Exit.ret { tmps := tm, defers := [] } wz :=
  bodyPost_ret (results_cell_row rfl _ _ B 30 #[nv, sv, ov] (0, 0) _ ht hh Tryz.underlying30 rfl sizeDir) rfl ⟨_, _, rfl, h1, h2, h3⟩
set_option maxRecDepth 100000 in
set_option maxHeartbeats 4000000 in
theorem rdo_any (now safe : List Ent) (ops : List OpD) (o : OpD) (nv sv ov : Value) (w : World) (hN : namesR w 0 nv now) (hS : namesR w 0 sv safe) (hO : opsR w ov ops)
    (hl : now.length ≤ 1000) (hol : ops.length ≤ 1000) (hok : okNames now) (ha : o.a.length ≤ maxLen) (hb : o.b.length ≤ maxLen) (hne : ¬ (o.kind = 2 ∧ o.a = o.b)) :
    Calls Tryz.prog 59 #[.agg #[nv, sv, ov], o.pval] w (Didd (applyL now o) sv (ops ++ [o]) w) := by
  obtain ⟨i0, hi, hz0, hz1, hz2⟩ := info_parts infoRO
  have HAP := Lib.hid (fun v wx (hx : namesR wx 0 v now) => rapply_any now o v wx hx (by omega) hok ha hb)
  have HNI := Lib.hid hN
  have HOI := Lib.hid hO
  have HNL := Lib.hid (fun k hk => (hN.lt k hk).2)
  have HOL := Lib.hid (fun k hk => (hO.lt k hk).2)
  obtain ⟨a0, c0, rfl, -, -⟩ := owns_slice' hN
  obtain ⟨a1, c1, rfl, -, -⟩ := owns_slice' hS
  obtain ⟨a2, c2, rfl, -, -⟩ := owns_slice hO
  obtain ⟨L, hL⟩ : ∃ L, L = applyL now o := ⟨_, rfl⟩
  have HPL := Lib.hid (show (o.pcells).length = 1 * 4 from rfl)
  have HPO : Hid (∀ u ∈ o.pcells, u.oneCell' = true) := Lib.hid (by intro u hu; simp [OpD.pcells] at hu; rcases hu with rfl | rfl | rfl | rfl <;> rfl)
  have HFL : Hid (((ops ++ [o]).map OpD.pcells).flatten = (ops.map OpD.pcells).flatten ++ o.pcells) := Lib.hid (by simp)
  have HLE : Hid ((ops ++ [o]).length = ops.length + 1) := Lib.hid (by simp)
  have hPC : o.pcells = [.int .i64 o.kind, encStr o.a, encStr o.b, .int .i64 o.n] := rfl
  have HPC := Lib.hid hPC
  unfold OpD.pval at HAP ⊢
  obtain ⟨kd, oa, ob, on⟩ := o
  simp only at ha hb hne HAP HPC ⊢
  obtain ⟨cells, hcells⟩ : ∃ cells, cells = (ops.map OpD.pcells).flatten := ⟨_, rfl⟩
  have HC1 := Lib.hid (pcells_one ops)
  have HC2 := Lib.hid (pcells_len ops)
  have HSRC := Lib.hid (fun wx hx => ops_src (w := wx) (ov := .slice a2 ops.length c2) (l := ops) hx)
  rw [← hcells] at HC1 HC2 HSRC HFL
  rw [← hL] at HAP ⊢
  obtain ⟨hfw, hB1, hB2, hB3, hsz⟩ := dirs_boxes w #[.slice a0 now.length c0, .slice a1 safe.length c1, .slice a2 ops.length c2] #[.int .i64 kd, encStr oa, encStr ob, .int .i64 on] #[.slice none 0 0, .slice none 0 0, .slice none 0 0] 30 105
  obtain ⟨w0, hw0⟩ : ∃ w0, w0 = ((w.alloc (.cells #[.slice a0 now.length c0, .slice a1 safe.length c1, .slice a2 ops.length c2] 30)).alloc (.cells #[.int .i64 kd, encStr oa, encStr ob, .int .i64 on] 105)).alloc (.cells #[.slice none 0 0, .slice none 0 0, .slice none 0 0] 30) := ⟨_, rfl⟩
  rw [← hw0] at hfw hB1 hB2 hB3 hsz
  have hguard : (kd == 2 && oa == ob) = false := by
    rw [Bool.and_eq_false_iff]
    by_cases k2 : kd = 2
    · right; rw [beq_eq_false_iff_ne]; exact fun q => hne ⟨k2, q⟩
    · left; rw [beq_eq_false_iff_ne]; exact k2
  have HG := Lib.hid hguard
  have HNE := Lib.hid hne
  have HFW := Lib.hid hfw
  have HB1 := Lib.hid hB1
  have HB2 := Lib.hid hB2
  have HB3 := Lib.hid hB3
  have HSZ := Lib.hid hsz
  have HW0 := Lib.hid hw0
  have HCE := Lib.hid hcells
  clear hN hS hO hL hPC hcells hfw hB1 hB2 hB3 hsz hw0 hguard hne ha hb hok
  have hcase : ((kd == 2) = false) ∨ ((kd == 2) = true ∧ (oa == ob) = false) := by
    by_cases k2 : kd = 2
    · right
      exact ⟨by rw [k2]; rfl, by rw [beq_eq_false_iff_ne]; exact fun q => HNE.out ⟨k2, q⟩⟩
    · left; rw [beq_eq_false_iff_ne]; exact k2
  go_enter Tryz.func59, Tryz.ntmps59
  go_upto_region 1 with fail
  rw [← HW0.out]
  go_cut [14] (fun s14 wx => s14 = .bool false ∧ w0 = wx)
  case first =>
    obtain ⟨d0, d1, d2, d3⟩ := four_of_heap HB2.out
    rcases hcase with hk | ⟨hk, hab⟩
    · go_wp2_with fail
      go_meet
      exact ⟨rfl, rfl⟩
    · go_wp2_with fail
      go_meet
      exact ⟨rfl, rfl⟩
  case rest =>
    clear hcase
    obtain ⟨rfl, rfl⟩ := hcut
    go_wp2_with fail
    obtain ⟨B, hBdef⟩ : ∃ B, B = w.heap.size + 1 + 1 := ⟨_, rfl⟩
    rw [← hBdef] at HB3
    rw [← hBdef]
    have hB0 : w.heap.size < B := by omega
    have hB1' : w.heap.size + 1 < B := by omega
    have hwB : w.heap.size ≤ B := by omega
    have hsb : w0.heap.size = B + 1 := by have := HSZ.out; omega
    clear hBdef
    refine wp_region_N (Below B) (Below.refl B) (fun _ _ _ => Below.trans) [(0, false), (1, false), (2, false), (4, false), (5, false), (7, false), (8, false), (10, false)] 7 30 rfl (by kernel_rfl) (by kernel_rfl) (by kernel_rfl) (fun c a d v w h => by cases d <;> exact h) ?_
    simp only [List.map_cons, List.map_nil, List.getElem?_toArray, List.getElem?_cons_succ, List.getElem?_cons_zero, Option.getD_some]
    have hfd := HFW.out.trans (Fr.drew w0) (by simp) (n := []) (by simp)
    have hBd : B < w0.drew.heap.size := by show B < w0.heap.size; omega
    have hP0 : w0.drew.heap[B]? = _ := HB3.out
    have hQ1 : w0.drew.heap[w.heap.size]? = _ := HB1.out
    have hQ2 : w0.drew.heap[w.heap.size + 1]? = _ := HB2.out
    obtain ⟨w1, hw1⟩ : ∃ w1, w1 = w0.drew := ⟨_, rfl⟩
    rw [← hw1] at hfd hBd hP0 hQ1 hQ2 ⊢
    have HFD := Lib.hid hfd
    have HBD := Lib.hid hBd
    have LB1 : Hid (∀ w', Below B w1 w' → w'.heap[w.heap.size]? = some (.cells #[.slice a0 now.length c0, .slice a1 safe.length c1, .slice a2 ops.length c2] 30 (0, 0))) := Lib.hid (fun w' hf' => (hf'.block _ hB0).trans hQ1)
    have LB2 : Hid (∀ w', Below B w1 w' → w'.heap[w.heap.size + 1]? = some (.cells #[.int .i64 kd, encStr oa, encStr ob, .int .i64 on] 105 (0, 0))) := Lib.hid (fun w' hf' => (hf'.block _ hB1').trans hQ2)
    have HA : Hid (∀ wx, Below B w1 wx → Calls Tryz.prog 85 #[.slice a0 now.length c0, .agg #[.int .i64 kd, encStr oa, encStr ob, .int .i64 on]] wx (Appl L wx)) := Lib.hid (fun wx hx => HAP.out _ wx (ownsB (namesR.below HNI.out hfd) hx (fun k hk => by have := HNL.out k hk; omega)))
    have HO : Hid (∀ wx, Below B w1 wx → (Value.slice a2 ops.length c2 = .slice none 0 0 ∧ ops.length = 0) ∨ ∃ ad c, Value.slice a2 ops.length c2 = .slice (some ad) ops.length c ∧ ∀ j u, cells[j]? = some u → wx.cell? (ad.add j) = some u) := Lib.hid (fun wx hx => HSRC.out wx (ownsB (opsR.below HOI.out hfd) hx (fun k hk => by have := HOL.out k hk; omega)))
    have P1 := Lib.hid hP0
    have B1 := Lib.hid (Below.refl B w1)
    clear hfd hBd hP0 hQ1 hQ2 hw1 HAP HNI HOI HNL HOL HSRC HB1 HB2 HB3 HFW HW0 HSZ HG HNE hB0 hB1' hsb
    repeat (apply wpT_t; · (intro w' hf'; obtain ⟨c0, c1, c2, -, -, -⟩ := three_of_heap (LB1.out w' hf'); obtain ⟨d0, d1, d2, d3⟩ := four_of_heap (LB2.out w' hf'); go_wp2_with fail; exact ⟨rfl, rfl⟩))
    refine wpT_end ?_
    refine anyH_step (T := Below B) (fun _ _ _ => Below.trans) [3, 6, 11] (by kernel_rfl) (by simp) (fun ix hmi => ?_)
    simp only [List.mem_cons, List.not_mem_nil, or_false] at hmi
    rcases hmi with rfl | rfl | rfl
    · skip
      simp only [List.getElem?_toArray, List.getElem?_cons_succ, List.getElem?_cons_zero, Option.getD_some]
      go_wp2_with (go_at_call 85; refine (HA.out w1 B1.out).mono ?_; rintro e w2 ⟨v19, rfl, hn, hf⟩; obtain ⟨x19, y19, rfl, -, -⟩ := owns_slice' hn)
      have hbl : Below B w1 w2 := hf.below (by have := B1.out.size; have := HBD.out; omega) (by simp)
      refine ⟨hbl, ?_⟩
      have B2 := Lib.hid (B1.out.trans hbl)
      have P2 := Lib.hid (Fr.heap hf P1.out (by simp))
      have N2 := Lib.hid hn
      clear hn hf hbl
      refine anyH_step (T := Below B) (fun _ _ _ => Below.trans) [6, 11] (by kernel_rfl) (by simp) (fun ix hmi => ?_)
      simp only [List.mem_cons, List.not_mem_nil, or_false] at hmi
      rcases hmi with rfl | rfl
      · skip
        simp only [List.getElem?_toArray, List.getElem?_cons_succ, List.getElem?_cons_zero, Option.getD_some]
        go_wp2_with fail
        have hf := Fr.alloc w2 (.cells #[] 105)
        have he : (w2.alloc (.cells #[] 105)).ownsRow B 105 4 (.slice (some ⟨w2.heap.size, 0, none⟩) 0 0) 0 [] := World.ownsRow_made w2 #[] 0 (by have := B2.out.size; have := HBD.out; omega) (by simp) (by simp)
        obtain ⟨w3, hw⟩ : ∃ w3, w3 = w2.alloc (.cells #[] 105) := ⟨_, rfl⟩
        obtain ⟨b22, hb⟩ : ∃ b22, b22 = w2.heap.size := ⟨_, rfl⟩
        rw [← hw] at hf he ⊢
        rw [← hb] at he ⊢
        have hbl : Below B w2 w3 := hf.below (by have := B2.out.size; have := HBD.out; omega) (by simp)
        refine ⟨hbl, ?_⟩
        have B3 := Lib.hid (B2.out.trans hbl)
        have P3 := Lib.hid (Fr.heap hf P2.out (by simp))
        have N3 := Lib.hid (owns_kept N2.out hf (by simp))
        have E3 := Lib.hid he
        clear he hf hbl hw hb
        refine anyH_step (T := Below B) (fun _ _ _ => Below.trans) [9, 11] (by kernel_rfl) (by simp) (fun ix hmi => ?_)
        simp only [List.mem_cons, List.not_mem_nil, or_false] at hmi
        rcases hmi with rfl | rfl
        · skip
          simp only [List.getElem?_toArray, List.getElem?_cons_succ, List.getElem?_cons_zero, Option.getD_some]
          go_wp2_with (at_builtin; refine wpL_appendE rfl (.tmp 22) (.tmp 24) 28 rfl B 105 i0 _ 4 48 Tryz.underlying28 hi hz0 hz1 hz2 (by rfl) (by decide) _ 0 [] rfl E3.out _ ops.length cells rfl HC2.out HC1.out (HO.out w3 B3.out) (by omega) (by simp [maxLen]; omega) (by have := B3.out.size; have := HBD.out; omega) ?_; intro v25 w4 ho hf; rw [Nat.zero_add, List.nil_append] at ho; obtain ⟨x25, y25, rfl, -, -⟩ := owns_slice ho)
          have hbl : Below B w3 w4 := hf.below (by have := B3.out.size; have := HBD.out; omega) (fun k hk => (E3.out.lt k (Option.mem_toList.1 hk)).1)
          refine ⟨hbl, ?_⟩
          have B4 := Lib.hid (B3.out.trans hbl)
          have P4 := Lib.hid (Fr.heap hf P3.out (heap_apart P3.out E3.out (by decide)))
          have N4 := Lib.hid (owns_kept N3.out hf (rows_apart N3.out E3.out (by decide)))
          have O4 := Lib.hid ho
          clear ho hf hbl
          refine anyH_step (T := Below B) (fun _ _ _ => Below.trans) [11] (by kernel_rfl) (by simp) (fun ix hmi => ?_)
          obtain rfl : ix = 11 := by simpa using hmi
          simp only [List.getElem?_toArray, List.getElem?_cons_succ, List.getElem?_cons_zero, Option.getD_some]
          go_wp2_with fail
          have hf := Fr.alloc w4 (.cells #[.int .i64 kd, encStr oa, encStr ob, .int .i64 on] 105)
          have hx := heap_alloc_new w4 (.cells #[.int .i64 kd, encStr oa, encStr ob, .int .i64 on] 105)
          obtain ⟨w5, hw⟩ : ∃ w5, w5 = w4.alloc (.cells #[.int .i64 kd, encStr oa, encStr ob, .int .i64 on] 105) := ⟨_, rfl⟩
          obtain ⟨b27, hb⟩ : ∃ b27, b27 = w4.heap.size := ⟨_, rfl⟩
          rw [← hw] at hf hx ⊢
          rw [← hb] at hx ⊢
          have hbl : Below B w4 w5 := hf.below (by have := B4.out.size; have := HBD.out; omega) (by simp)
          refine ⟨hbl, ?_⟩
          have B5 := Lib.hid (B4.out.trans hbl)
          have P5 := Lib.hid (Fr.heap hf P4.out (by simp))
          have N5 := Lib.hid (owns_kept N4.out hf (by simp))
          have O5 := Lib.hid (owns_kept O4.out hf (by simp))
          have X5 := Lib.hid hx
          clear hx hf hbl hw hb
          refine anyH_step (T := Below B) (fun _ _ _ => Below.trans) [12] (by kernel_rfl) (by simp) (fun ix hmi => ?_)
          obtain rfl : ix = 12 := by simpa using hmi
          simp only [List.getElem?_toArray, List.getElem?_cons_succ, List.getElem?_cons_zero, Option.getD_some]
          go_wp2_with (at_builtin; refine wpL_appendE rfl (.tmp 25) (.tmp 27) 28 rfl B 105 i0 _ 4 48 Tryz.underlying28 hi hz0 hz1 hz2 (by rfl) (by decide) _ _ cells rfl O5.out _ 1 (OpD.pcells ⟨kd, oa, ob, on⟩) rfl HPL.out HPO.out (.inr ⟨⟨b27, 0, none⟩, 1, rfl, pcells_at X5.out⟩) (by omega) (by simp [maxLen]; omega) (by have := B5.out.size; have := HBD.out; omega) ?_; intro v28 w6 ho hf; obtain ⟨x28, y28, rfl, -, -⟩ := owns_slice ho)
          have hbl : Below B w5 w6 := hf.below (by have := B5.out.size; have := HBD.out; omega) (fun k hk => (O5.out.lt k (Option.mem_toList.1 hk)).1)
          refine ⟨hbl, ?_⟩
          have B6 := Lib.hid (B5.out.trans hbl)
          have P6 := Lib.hid (Fr.heap hf P5.out (heap_apart P5.out O5.out (by decide)))
          have N6 := Lib.hid (owns_kept N5.out hf (rows_apart N5.out O5.out (by decide)))
          have Z6 := Lib.hid ho
          clear ho hf hbl
          refine anyH_step (T := Below B) (fun _ _ _ => Below.trans) [13] (by kernel_rfl) (by simp) (fun ix hmi => ?_)
          obtain rfl : ix = 13 := by simpa using hmi
          simp only [List.getElem?_toArray, List.getElem?_cons_succ, List.getElem?_cons_zero, Option.getD_some]
          go_wp2_with fail
          refine ⟨Below.refl B w6, ?_⟩
          refine anyH_step (T := Below B) (fun _ _ _ => Below.trans) [14] (by kernel_rfl) (by simp) (fun ix hmi => ?_)
          obtain rfl : ix = 14 := by simpa using hmi
          simp only [List.getElem?_toArray, List.getElem?_cons_succ, List.getElem?_cons_zero, Option.getD_some]
          obtain ⟨g0, g1, g2, r0, r1, r2⟩ := three_of_heap P6.out
          go_wp2_with fail
          obtain ⟨q1, q2, q3⟩ := rdo_end (sv := .slice a1 safe.length c1) (ov := .slice x28 (ops.length + 1) y28) (ops := ops ++ [⟨kd, oa, ob, on⟩]) hwB HFD.out (Nat.le_of_lt HBD.out) B6.out N6.out (by rw [HLE.out, HFL.out]; exact Z6.out) P6.out
          have hh := heap_set3 (x := .slice x19 L.length y19) (y := .slice a1 safe.length c1) (z := .slice x28 (ops.length + 1) y28) P6.out
          clear g0 g1 g2 r0 r1 r2
          refine ⟨((Below.refl B w6).setCell (Nat.le_refl _) _ |>.setCell (Nat.le_refl _) _ |>.setCell (Nat.le_refl _) _), wpAnyH_done (by kernel_rfl) ?_ _⟩
          go_wp2_with fail
          exact rdo_fin hh q1 q2 q3
        · skip
          simp only [List.getElem?_toArray, List.getElem?_cons_succ, List.getElem?_cons_zero, Option.getD_some]
          go_wp2_with fail
          have hf := Fr.alloc w3 (.cells #[.int .i64 kd, encStr oa, encStr ob, .int .i64 on] 105)
          have hx := heap_alloc_new w3 (.cells #[.int .i64 kd, encStr oa, encStr ob, .int .i64 on] 105)
          obtain ⟨w4, hw⟩ : ∃ w4, w4 = w3.alloc (.cells #[.int .i64 kd, encStr oa, encStr ob, .int .i64 on] 105) := ⟨_, rfl⟩
          obtain ⟨b27, hb⟩ : ∃ b27, b27 = w3.heap.size := ⟨_, rfl⟩
          rw [← hw] at hf hx ⊢
          rw [← hb] at hx ⊢
          have hbl : Below B w3 w4 := hf.below (by have := B3.out.size; have := HBD.out; omega) (by simp)
          refine ⟨hbl, ?_⟩
          have B4 := Lib.hid (B3.out.trans hbl)
          have P4 := Lib.hid (Fr.heap hf P3.out (by simp))
          have N4 := Lib.hid (owns_kept N3.out hf (by simp))
          have E4 := Lib.hid (owns_kept E3.out hf (by simp))
          have X4 := Lib.hid hx
          clear hx hf hbl hw hb
          refine anyH_step (T := Below B) (fun _ _ _ => Below.trans) [9] (by kernel_rfl) (by simp) (fun ix hmi => ?_)
          obtain rfl : ix = 9 := by simpa using hmi
          simp only [List.getElem?_toArray, List.getElem?_cons_succ, List.getElem?_cons_zero, Option.getD_some]
          go_wp2_with (at_builtin; refine wpL_appendE rfl (.tmp 22) (.tmp 24) 28 rfl B 105 i0 _ 4 48 Tryz.underlying28 hi hz0 hz1 hz2 (by rfl) (by decide) _ 0 [] rfl E4.out _ ops.length cells rfl HC2.out HC1.out (HO.out w4 B4.out) (by omega) (by simp [maxLen]; omega) (by have := B4.out.size; have := HBD.out; omega) ?_; intro v25 w5 ho hf; rw [Nat.zero_add, List.nil_append] at ho; obtain ⟨x25, y25, rfl, -, -⟩ := owns_slice ho)
          have hbl : Below B w4 w5 := hf.below (by have := B4.out.size; have := HBD.out; omega) (fun k hk => (E4.out.lt k (Option.mem_toList.1 hk)).1)
          refine ⟨hbl, ?_⟩
          have B5 := Lib.hid (B4.out.trans hbl)
          have P5 := Lib.hid (Fr.heap hf P4.out (heap_apart P4.out E4.out (by decide)))
          have N5 := Lib.hid (owns_kept N4.out hf (rows_apart N4.out E4.out (by decide)))
          have X5 := Lib.hid (Fr.heap hf X4.out (fresh_apart X4.out E4.out))
          have O5 := Lib.hid ho
          clear ho hf hbl
          refine anyH_step (T := Below B) (fun _ _ _ => Below.trans) [12] (by kernel_rfl) (by simp) (fun ix hmi => ?_)
          obtain rfl : ix = 12 := by simpa using hmi
          simp only [List.getElem?_toArray, List.getElem?_cons_succ, List.getElem?_cons_zero, Option.getD_some]
          go_wp2_with (at_builtin; refine wpL_appendE rfl (.tmp 25) (.tmp 27) 28 rfl B 105 i0 _ 4 48 Tryz.underlying28 hi hz0 hz1 hz2 (by rfl) (by decide) _ _ cells rfl O5.out _ 1 (OpD.pcells ⟨kd, oa, ob, on⟩) rfl HPL.out HPO.out (.inr ⟨⟨b27, 0, none⟩, 1, rfl, pcells_at X5.out⟩) (by omega) (by simp [maxLen]; omega) (by have := B5.out.size; have := HBD.out; omega) ?_; intro v28 w6 ho hf; obtain ⟨x28, y28, rfl, -, -⟩ := owns_slice ho)
          have hbl : Below B w5 w6 := hf.below (by have := B5.out.size; have := HBD.out; omega) (fun k hk => (O5.out.lt k (Option.mem_toList.1 hk)).1)
          refine ⟨hbl, ?_⟩
          have B6 := Lib.hid (B5.out.trans hbl)
          have P6 := Lib.hid (Fr.heap hf P5.out (heap_apart P5.out O5.out (by decide)))
          have N6 := Lib.hid (owns_kept N5.out hf (rows_apart N5.out O5.out (by decide)))
          have Z6 := Lib.hid ho
          clear ho hf hbl
          refine anyH_step (T := Below B) (fun _ _ _ => Below.trans) [13] (by kernel_rfl) (by simp) (fun ix hmi => ?_)
          obtain rfl : ix = 13 := by simpa using hmi
          simp only [List.getElem?_toArray, List.getElem?_cons_succ, List.getElem?_cons_zero, Option.getD_some]
          go_wp2_with fail
          refine ⟨Below.refl B w6, ?_⟩
          refine anyH_step (T := Below B) (fun _ _ _ => Below.trans) [14] (by kernel_rfl) (by simp) (fun ix hmi => ?_)
          obtain rfl : ix = 14 := by simpa using hmi
          simp only [List.getElem?_toArray, List.getElem?_cons_succ, List.getElem?_cons_zero, Option.getD_some]
          obtain ⟨g0, g1, g2, r0, r1, r2⟩ := three_of_heap P6.out
          go_wp2_with fail
          obtain ⟨q1, q2, q3⟩ := rdo_end (sv := .slice a1 safe.length c1) (ov := .slice x28 (ops.length + 1) y28) (ops := ops ++ [⟨kd, oa, ob, on⟩]) hwB HFD.out (Nat.le_of_lt HBD.out) B6.out N6.out (by rw [HLE.out, HFL.out]; exact Z6.out) P6.out
          have hh := heap_set3 (x := .slice x19 L.length y19) (y := .slice a1 safe.length c1) (z := .slice x28 (ops.length + 1) y28) P6.out
          clear g0 g1 g2 r0 r1 r2
          refine ⟨((Below.refl B w6).setCell (Nat.le_refl _) _ |>.setCell (Nat.le_refl _) _ |>.setCell (Nat.le_refl _) _), wpAnyH_done (by kernel_rfl) ?_ _⟩
          go_wp2_with fail
          exact rdo_fin hh q1 q2 q3
      · skip
        simp only [List.getElem?_toArray, List.getElem?_cons_succ, List.getElem?_cons_zero, Option.getD_some]
        go_wp2_with fail
        have hf := Fr.alloc w2 (.cells #[.int .i64 kd, encStr oa, encStr ob, .int .i64 on] 105)
        have hx := heap_alloc_new w2 (.cells #[.int .i64 kd, encStr oa, encStr ob, .int .i64 on] 105)
        obtain ⟨w3, hw⟩ : ∃ w3, w3 = w2.alloc (.cells #[.int .i64 kd, encStr oa, encStr ob, .int .i64 on] 105) := ⟨_, rfl⟩
        obtain ⟨b27, hb⟩ : ∃ b27, b27 = w2.heap.size := ⟨_, rfl⟩
        rw [← hw] at hf hx ⊢
        rw [← hb] at hx ⊢
        have hbl : Below B w2 w3 := hf.below (by have := B2.out.size; have := HBD.out; omega) (by simp)
        refine ⟨hbl, ?_⟩
        have B3 := Lib.hid (B2.out.trans hbl)
        have P3 := Lib.hid (Fr.heap hf P2.out (by simp))
        have N3 := Lib.hid (owns_kept N2.out hf (by simp))
        have X3 := Lib.hid hx
        clear hx hf hbl hw hb
        refine anyH_step (T := Below B) (fun _ _ _ => Below.trans) [6] (by kernel_rfl) (by simp) (fun ix hmi => ?_)
        obtain rfl : ix = 6 := by simpa using hmi
        simp only [List.getElem?_toArray, List.getElem?_cons_succ, List.getElem?_cons_zero, Option.getD_some]
        go_wp2_with fail
        have hf := Fr.alloc w3 (.cells #[] 105)
        have he : (w3.alloc (.cells #[] 105)).ownsRow B 105 4 (.slice (some ⟨w3.heap.size, 0, none⟩) 0 0) 0 [] := World.ownsRow_made w3 #[] 0 (by have := B3.out.size; have := HBD.out; omega) (by simp) (by simp)
        obtain ⟨w4, hw⟩ : ∃ w4, w4 = w3.alloc (.cells #[] 105) := ⟨_, rfl⟩
        obtain ⟨b22, hb⟩ : ∃ b22, b22 = w3.heap.size := ⟨_, rfl⟩
        rw [← hw] at hf he ⊢
        rw [← hb] at he ⊢
        have hbl : Below B w3 w4 := hf.below (by have := B3.out.size; have := HBD.out; omega) (by simp)
        refine ⟨hbl, ?_⟩
        have B4 := Lib.hid (B3.out.trans hbl)
        have P4 := Lib.hid (Fr.heap hf P3.out (by simp))
        have N4 := Lib.hid (owns_kept N3.out hf (by simp))
        have X4 := Lib.hid (Fr.heap hf X3.out (by simp))
        have E4 := Lib.hid he
        clear he hf hbl hw hb
        refine anyH_step (T := Below B) (fun _ _ _ => Below.trans) [9] (by kernel_rfl) (by simp) (fun ix hmi => ?_)
        obtain rfl : ix = 9 := by simpa using hmi
        simp only [List.getElem?_toArray, List.getElem?_cons_succ, List.getElem?_cons_zero, Option.getD_some]
        go_wp2_with (at_builtin; refine wpL_appendE rfl (.tmp 22) (.tmp 24) 28 rfl B 105 i0 _ 4 48 Tryz.underlying28 hi hz0 hz1 hz2 (by rfl) (by decide) _ 0 [] rfl E4.out _ ops.length cells rfl HC2.out HC1.out (HO.out w4 B4.out) (by omega) (by simp [maxLen]; omega) (by have := B4.out.size; have := HBD.out; omega) ?_; intro v25 w5 ho hf; rw [Nat.zero_add, List.nil_append] at ho; obtain ⟨x25, y25, rfl, -, -⟩ := owns_slice ho)
        have hbl : Below B w4 w5 := hf.below (by have := B4.out.size; have := HBD.out; omega) (fun k hk => (E4.out.lt k (Option.mem_toList.1 hk)).1)
        refine ⟨hbl, ?_⟩
        have B5 := Lib.hid (B4.out.trans hbl)
        have P5 := Lib.hid (Fr.heap hf P4.out (heap_apart P4.out E4.out (by decide)))
        have N5 := Lib.hid (owns_kept N4.out hf (rows_apart N4.out E4.out (by decide)))
        have X5 := Lib.hid (Fr.heap hf X4.out (fresh_apart X4.out E4.out))
        have O5 := Lib.hid ho
        clear ho hf hbl
        refine anyH_step (T := Below B) (fun _ _ _ => Below.trans) [12] (by kernel_rfl) (by simp) (fun ix hmi => ?_)
        obtain rfl : ix = 12 := by simpa using hmi
        simp only [List.getElem?_toArray, List.getElem?_cons_succ, List.getElem?_cons_zero, Option.getD_some]
        go_wp2_with (at_builtin; refine wpL_appendE rfl (.tmp 25) (.tmp 27) 28 rfl B 105 i0 _ 4 48 Tryz.underlying28 hi hz0 hz1 hz2 (by rfl) (by decide) _ _ cells rfl O5.out _ 1 (OpD.pcells ⟨kd, oa, ob, on⟩) rfl HPL.out HPO.out (.inr ⟨⟨b27, 0, none⟩, 1, rfl, pcells_at X5.out⟩) (by omega) (by simp [maxLen]; omega) (by have := B5.out.size; have := HBD.out; omega) ?_; intro v28 w6 ho hf; obtain ⟨x28, y28, rfl, -, -⟩ := owns_slice ho)
        have hbl : Below B w5 w6 := hf.below (by have := B5.out.size; have := HBD.out; omega) (fun k hk => (O5.out.lt k (Option.mem_toList.1 hk)).1)
        refine ⟨hbl, ?_⟩
        have B6 := Lib.hid (B5.out.trans hbl)
        have P6 := Lib.hid (Fr.heap hf P5.out (heap_apart P5.out O5.out (by decide)))
        have N6 := Lib.hid (owns_kept N5.out hf (rows_apart N5.out O5.out (by decide)))
        have Z6 := Lib.hid ho
        clear ho hf hbl
        refine anyH_step (T := Below B) (fun _ _ _ => Below.trans) [13] (by kernel_rfl) (by simp) (fun ix hmi => ?_)
        obtain rfl : ix = 13 := by simpa using hmi
        simp only [List.getElem?_toArray, List.getElem?_cons_succ, List.getElem?_cons_zero, Option.getD_some]
        go_wp2_with fail
        refine ⟨Below.refl B w6, ?_⟩
        refine anyH_step (T := Below B) (fun _ _ _ => Below.trans) [14] (by kernel_rfl) (by simp) (fun ix hmi => ?_)
        obtain rfl : ix = 14 := by simpa using hmi
        simp only [List.getElem?_toArray, List.getElem?_cons_succ, List.getElem?_cons_zero, Option.getD_some]
        obtain ⟨g0, g1, g2, r0, r1, r2⟩ := three_of_heap P6.out
        go_wp2_with fail
        obtain ⟨q1, q2, q3⟩ := rdo_end (sv := .slice a1 safe.length c1) (ov := .slice x28 (ops.length + 1) y28) (ops := ops ++ [⟨kd, oa, ob, on⟩]) hwB HFD.out (Nat.le_of_lt HBD.out) B6.out N6.out (by rw [HLE.out, HFL.out]; exact Z6.out) P6.out
        have hh := heap_set3 (x := .slice x19 L.length y19) (y := .slice a1 safe.length c1) (z := .slice x28 (ops.length + 1) y28) P6.out
        clear g0 g1 g2 r0 r1 r2
        refine ⟨((Below.refl B w6).setCell (Nat.le_refl _) _ |>.setCell (Nat.le_refl _) _ |>.setCell (Nat.le_refl _) _), wpAnyH_done (by kernel_rfl) ?_ _⟩
        go_wp2_with fail
        exact rdo_fin hh q1 q2 q3
    · skip
      simp only [List.getElem?_toArray, List.getElem?_cons_succ, List.getElem?_cons_zero, Option.getD_some]
      go_wp2_with fail
      have hf := Fr.alloc w1 (.cells #[] 105)
      have he : (w1.alloc (.cells #[] 105)).ownsRow B 105 4 (.slice (some ⟨w1.heap.size, 0, none⟩) 0 0) 0 [] := World.ownsRow_made w1 #[] 0 (by have := B1.out.size; have := HBD.out; omega) (by simp) (by simp)
      obtain ⟨w2, hw⟩ : ∃ w2, w2 = w1.alloc (.cells #[] 105) := ⟨_, rfl⟩
      obtain ⟨b22, hb⟩ : ∃ b22, b22 = w1.heap.size := ⟨_, rfl⟩
      rw [← hw] at hf he ⊢
      rw [← hb] at he ⊢
      have hbl : Below B w1 w2 := hf.below (by have := B1.out.size; have := HBD.out; omega) (by simp)
      refine ⟨hbl, ?_⟩
      have B2 := Lib.hid (B1.out.trans hbl)
      have P2 := Lib.hid (Fr.heap hf P1.out (by simp))
      have E2 := Lib.hid he
      clear he hf hbl hw hb
      refine anyH_step (T := Below B) (fun _ _ _ => Below.trans) [3, 11] (by kernel_rfl) (by simp) (fun ix hmi => ?_)
      simp only [List.mem_cons, List.not_mem_nil, or_false] at hmi
      rcases hmi with rfl | rfl
      · skip
        simp only [List.getElem?_toArray, List.getElem?_cons_succ, List.getElem?_cons_zero, Option.getD_some]
        go_wp2_with (go_at_call 85; refine (HA.out w2 B2.out).mono ?_; rintro e w3 ⟨v19, rfl, hn, hf⟩; obtain ⟨x19, y19, rfl, -, -⟩ := owns_slice' hn)
        have hbl : Below B w2 w3 := hf.below (by have := B2.out.size; have := HBD.out; omega) (by simp)
        refine ⟨hbl, ?_⟩
        have B3 := Lib.hid (B2.out.trans hbl)
        have P3 := Lib.hid (Fr.heap hf P2.out (by simp))
        have E3 := Lib.hid (owns_kept E2.out hf (by simp))
        have N3 := Lib.hid hn
        clear hn hf hbl
        refine anyH_step (T := Below B) (fun _ _ _ => Below.trans) [9, 11] (by kernel_rfl) (by simp) (fun ix hmi => ?_)
        simp only [List.mem_cons, List.not_mem_nil, or_false] at hmi
        rcases hmi with rfl | rfl
        · skip
          simp only [List.getElem?_toArray, List.getElem?_cons_succ, List.getElem?_cons_zero, Option.getD_some]
          go_wp2_with (at_builtin; refine wpL_appendE rfl (.tmp 22) (.tmp 24) 28 rfl B 105 i0 _ 4 48 Tryz.underlying28 hi hz0 hz1 hz2 (by rfl) (by decide) _ 0 [] rfl E3.out _ ops.length cells rfl HC2.out HC1.out (HO.out w3 B3.out) (by omega) (by simp [maxLen]; omega) (by have := B3.out.size; have := HBD.out; omega) ?_; intro v25 w4 ho hf; rw [Nat.zero_add, List.nil_append] at ho; obtain ⟨x25, y25, rfl, -, -⟩ := owns_slice ho)
          have hbl : Below B w3 w4 := hf.below (by have := B3.out.size; have := HBD.out; omega) (fun k hk => (E3.out.lt k (Option.mem_toList.1 hk)).1)
          refine ⟨hbl, ?_⟩
          have B4 := Lib.hid (B3.out.trans hbl)
          have P4 := Lib.hid (Fr.heap hf P3.out (heap_apart P3.out E3.out (by decide)))
          have N4 := Lib.hid (owns_kept N3.out hf (rows_apart N3.out E3.out (by decide)))
          have O4 := Lib.hid ho
          clear ho hf hbl
          refine anyH_step (T := Below B) (fun _ _ _ => Below.trans) [11] (by kernel_rfl) (by simp) (fun ix hmi => ?_)
          obtain rfl : ix = 11 := by simpa using hmi
          simp only [List.getElem?_toArray, List.getElem?_cons_succ, List.getElem?_cons_zero, Option.getD_some]
          go_wp2_with fail
          have hf := Fr.alloc w4 (.cells #[.int .i64 kd, encStr oa, encStr ob, .int .i64 on] 105)
          have hx := heap_alloc_new w4 (.cells #[.int .i64 kd, encStr oa, encStr ob, .int .i64 on] 105)
          obtain ⟨w5, hw⟩ : ∃ w5, w5 = w4.alloc (.cells #[.int .i64 kd, encStr oa, encStr ob, .int .i64 on] 105) := ⟨_, rfl⟩
          obtain ⟨b27, hb⟩ : ∃ b27, b27 = w4.heap.size := ⟨_, rfl⟩
          rw [← hw] at hf hx ⊢
          rw [← hb] at hx ⊢
          have hbl : Below B w4 w5 := hf.below (by have := B4.out.size; have := HBD.out; omega) (by simp)
          refine ⟨hbl, ?_⟩
          have B5 := Lib.hid (B4.out.trans hbl)
          have P5 := Lib.hid (Fr.heap hf P4.out (by simp))
          have N5 := Lib.hid (owns_kept N4.out hf (by simp))
          have O5 := Lib.hid (owns_kept O4.out hf (by simp))
          have X5 := Lib.hid hx
          clear hx hf hbl hw hb
          refine anyH_step (T := Below B) (fun _ _ _ => Below.trans) [12] (by kernel_rfl) (by simp) (fun ix hmi => ?_)
          obtain rfl : ix = 12 := by simpa using hmi
          simp only [List.getElem?_toArray, List.getElem?_cons_succ, List.getElem?_cons_zero, Option.getD_some]
          go_wp2_with (at_builtin; refine wpL_appendE rfl (.tmp 25) (.tmp 27) 28 rfl B 105 i0 _ 4 48 Tryz.underlying28 hi hz0 hz1 hz2 (by rfl) (by decide) _ _ cells rfl O5.out _ 1 (OpD.pcells ⟨kd, oa, ob, on⟩) rfl HPL.out HPO.out (.inr ⟨⟨b27, 0, none⟩, 1, rfl, pcells_at X5.out⟩) (by omega) (by simp [maxLen]; omega) (by have := B5.out.size; have := HBD.out; omega) ?_; intro v28 w6 ho hf; obtain ⟨x28, y28, rfl, -, -⟩ := owns_slice ho)
          have hbl : Below B w5 w6 := hf.below (by have := B5.out.size; have := HBD.out; omega) (fun k hk => (O5.out.lt k (Option.mem_toList.1 hk)).1)
          refine ⟨hbl, ?_⟩
          have B6 := Lib.hid (B5.out.trans hbl)
          have P6 := Lib.hid (Fr.heap hf P5.out (heap_apart P5.out O5.out (by decide)))
          have N6 := Lib.hid (owns_kept N5.out hf (rows_apart N5.out O5.out (by decide)))
          have Z6 := Lib.hid ho
          clear ho hf hbl
          refine anyH_step (T := Below B) (fun _ _ _ => Below.trans) [13] (by kernel_rfl) (by simp) (fun ix hmi => ?_)
          obtain rfl : ix = 13 := by simpa using hmi
          simp only [List.getElem?_toArray, List.getElem?_cons_succ, List.getElem?_cons_zero, Option.getD_some]
          go_wp2_with fail
          refine ⟨Below.refl B w6, ?_⟩
          refine anyH_step (T := Below B) (fun _ _ _ => Below.trans) [14] (by kernel_rfl) (by simp) (fun ix hmi => ?_)
          obtain rfl : ix = 14 := by simpa using hmi
          simp only [List.getElem?_toArray, List.getElem?_cons_succ, List.getElem?_cons_zero, Option.getD_some]
          obtain ⟨g0, g1, g2, r0, r1, r2⟩ := three_of_heap P6.out
          go_wp2_with fail
          obtain ⟨q1, q2, q3⟩ := rdo_end (sv := .slice a1 safe.length c1) (ov := .slice x28 (ops.length + 1) y28) (ops := ops ++ [⟨kd, oa, ob, on⟩]) hwB HFD.out (Nat.le_of_lt HBD.out) B6.out N6.out (by rw [HLE.out, HFL.out]; exact Z6.out) P6.out
          have hh := heap_set3 (x := .slice x19 L.length y19) (y := .slice a1 safe.length c1) (z := .slice x28 (ops.length + 1) y28) P6.out
          clear g0 g1 g2 r0 r1 r2
          refine ⟨((Below.refl B w6).setCell (Nat.le_refl _) _ |>.setCell (Nat.le_refl _) _ |>.setCell (Nat.le_refl _) _), wpAnyH_done (by kernel_rfl) ?_ _⟩
          go_wp2_with fail
          exact rdo_fin hh q1 q2 q3
        · skip
          simp only [List.getElem?_toArray, List.getElem?_cons_succ, List.getElem?_cons_zero, Option.getD_some]
          go_wp2_with fail
          have hf := Fr.alloc w3 (.cells #[.int .i64 kd, encStr oa, encStr ob, .int .i64 on] 105)
          have hx := heap_alloc_new w3 (.cells #[.int .i64 kd, encStr oa, encStr ob, .int .i64 on] 105)
          obtain ⟨w4, hw⟩ : ∃ w4, w4 = w3.alloc (.cells #[.int .i64 kd, encStr oa, encStr ob, .int .i64 on] 105) := ⟨_, rfl⟩
          obtain ⟨b27, hb⟩ : ∃ b27, b27 = w3.heap.size := ⟨_, rfl⟩
          rw [← hw] at hf hx ⊢
          rw [← hb] at hx ⊢
          have hbl : Below B w3 w4 := hf.below (by have := B3.out.size; have := HBD.out; omega) (by simp)
          refine ⟨hbl, ?_⟩
          have B4 := Lib.hid (B3.out.trans hbl)
          have P4 := Lib.hid (Fr.heap hf P3.out (by simp))
          have E4 := Lib.hid (owns_kept E3.out hf (by simp))
          have N4 := Lib.hid (owns_kept N3.out hf (by simp))
          have X4 := Lib.hid hx
          clear hx hf hbl hw hb
          refine anyH_step (T := Below B) (fun _ _ _ => Below.trans) [9] (by kernel_rfl) (by simp) (fun ix hmi => ?_)
          obtain rfl : ix = 9 := by simpa using hmi
          simp only [List.getElem?_toArray, List.getElem?_cons_succ, List.getElem?_cons_zero, Option.getD_some]
          go_wp2_with (at_builtin; refine wpL_appendE rfl (.tmp 22) (.tmp 24) 28 rfl B 105 i0 _ 4 48 Tryz.underlying28 hi hz0 hz1 hz2 (by rfl) (by decide) _ 0 [] rfl E4.out _ ops.length cells rfl HC2.out HC1.out (HO.out w4 B4.out) (by omega) (by simp [maxLen]; omega) (by have := B4.out.size; have := HBD.out; omega) ?_; intro v25 w5 ho hf; rw [Nat.zero_add, List.nil_append] at ho; obtain ⟨x25, y25, rfl, -, -⟩ := owns_slice ho)
          have hbl : Below B w4 w5 := hf.below (by have := B4.out.size; have := HBD.out; omega) (fun k hk => (E4.out.lt k (Option.mem_toList.1 hk)).1)
          refine ⟨hbl, ?_⟩
          have B5 := Lib.hid (B4.out.trans hbl)
          have P5 := Lib.hid (Fr.heap hf P4.out (heap_apart P4.out E4.out (by decide)))
          have N5 := Lib.hid (owns_kept N4.out hf (rows_apart N4.out E4.out (by decide)))
          have X5 := Lib.hid (Fr.heap hf X4.out (fresh_apart X4.out E4.out))
          have O5 := Lib.hid ho
          clear ho hf hbl
          refine anyH_step (T := Below B) (fun _ _ _ => Below.trans) [12] (by kernel_rfl) (by simp) (fun ix hmi => ?_)
          obtain rfl : ix = 12 := by simpa using hmi
          simp only [List.getElem?_toArray, List.getElem?_cons_succ, List.getElem?_cons_zero, Option.getD_some]
          go_wp2_with (at_builtin; refine wpL_appendE rfl (.tmp 25) (.tmp 27) 28 rfl B 105 i0 _ 4 48 Tryz.underlying28 hi hz0 hz1 hz2 (by rfl) (by decide) _ _ cells rfl O5.out _ 1 (OpD.pcells ⟨kd, oa, ob, on⟩) rfl HPL.out HPO.out (.inr ⟨⟨b27, 0, none⟩, 1, rfl, pcells_at X5.out⟩) (by omega) (by simp [maxLen]; omega) (by have := B5.out.size; have := HBD.out; omega) ?_; intro v28 w6 ho hf; obtain ⟨x28, y28, rfl, -, -⟩ := owns_slice ho)
          have hbl : Below B w5 w6 := hf.below (by have := B5.out.size; have := HBD.out; omega) (fun k hk => (O5.out.lt k (Option.mem_toList.1 hk)).1)
          refine ⟨hbl, ?_⟩
          have B6 := Lib.hid (B5.out.trans hbl)
          have P6 := Lib.hid (Fr.heap hf P5.out (heap_apart P5.out O5.out (by decide)))
          have N6 := Lib.hid (owns_kept N5.out hf (rows_apart N5.out O5.out (by decide)))
          have Z6 := Lib.hid ho
          clear ho hf hbl
          refine anyH_step (T := Below B) (fun _ _ _ => Below.trans) [13] (by kernel_rfl) (by simp) (fun ix hmi => ?_)
          obtain rfl : ix = 13 := by simpa using hmi
          simp only [List.getElem?_toArray, List.getElem?_cons_succ, List.getElem?_cons_zero, Option.getD_some]
          go_wp2_with fail
          refine ⟨Below.refl B w6, ?_⟩
          refine anyH_step (T := Below B) (fun _ _ _ => Below.trans) [14] (by kernel_rfl) (by simp) (fun ix hmi => ?_)
          obtain rfl : ix = 14 := by simpa using hmi
          simp only [List.getElem?_toArray, List.getElem?_cons_succ, List.getElem?_cons_zero, Option.getD_some]
          obtain ⟨g0, g1, g2, r0, r1, r2⟩ := three_of_heap P6.out
          go_wp2_with fail
          obtain ⟨q1, q2, q3⟩ := rdo_end (sv := .slice a1 safe.length c1) (ov := .slice x28 (ops.length + 1) y28) (ops := ops ++ [⟨kd, oa, ob, on⟩]) hwB HFD.out (Nat.le_of_lt HBD.out) B6.out N6.out (by rw [HLE.out, HFL.out]; exact Z6.out) P6.out
          have hh := heap_set3 (x := .slice x19 L.length y19) (y := .slice a1 safe.length c1) (z := .slice x28 (ops.length + 1) y28) P6.out
          clear g0 g1 g2 r0 r1 r2
          refine ⟨((Below.refl B w6).setCell (Nat.le_refl _) _ |>.setCell (Nat.le_refl _) _ |>.setCell (Nat.le_refl _) _), wpAnyH_done (by kernel_rfl) ?_ _⟩
          go_wp2_with fail
          exact rdo_fin hh q1 q2 q3
      · skip
        simp only [List.getElem?_toArray, List.getElem?_cons_succ, List.getElem?_cons_zero, Option.getD_some]
        go_wp2_with fail
        have hf := Fr.alloc w2 (.cells #[.int .i64 kd, encStr oa, encStr ob, .int .i64 on] 105)
        have hx := heap_alloc_new w2 (.cells #[.int .i64 kd, encStr oa, encStr ob, .int .i64 on] 105)
        obtain ⟨w3, hw⟩ : ∃ w3, w3 = w2.alloc (.cells #[.int .i64 kd, encStr oa, encStr ob, .int .i64 on] 105) := ⟨_, rfl⟩
        obtain ⟨b27, hb⟩ : ∃ b27, b27 = w2.heap.size := ⟨_, rfl⟩
        rw [← hw] at hf hx ⊢
        rw [← hb] at hx ⊢
        have hbl : Below B w2 w3 := hf.below (by have := B2.out.size; have := HBD.out; omega) (by simp)
        refine ⟨hbl, ?_⟩
        have B3 := Lib.hid (B2.out.trans hbl)
        have P3 := Lib.hid (Fr.heap hf P2.out (by simp))
        have E3 := Lib.hid (owns_kept E2.out hf (by simp))
        have X3 := Lib.hid hx
        clear hx hf hbl hw hb
        refine anyH_step (T := Below B) (fun _ _ _ => Below.trans) [3] (by kernel_rfl) (by simp) (fun ix hmi => ?_)
        obtain rfl : ix = 3 := by simpa using hmi
        simp only [List.getElem?_toArray, List.getElem?_cons_succ, List.getElem?_cons_zero, Option.getD_some]
        go_wp2_with (go_at_call 85; refine (HA.out w3 B3.out).mono ?_; rintro e w4 ⟨v19, rfl, hn, hf⟩; obtain ⟨x19, y19, rfl, -, -⟩ := owns_slice' hn)
        have hbl : Below B w3 w4 := hf.below (by have := B3.out.size; have := HBD.out; omega) (by simp)
        refine ⟨hbl, ?_⟩
        have B4 := Lib.hid (B3.out.trans hbl)
        have P4 := Lib.hid (Fr.heap hf P3.out (by simp))
        have E4 := Lib.hid (owns_kept E3.out hf (by simp))
        have X4 := Lib.hid (Fr.heap hf X3.out (by simp))
        have N4 := Lib.hid hn
        clear hn hf hbl
        refine anyH_step (T := Below B) (fun _ _ _ => Below.trans) [9] (by kernel_rfl) (by simp) (fun ix hmi => ?_)
        obtain rfl : ix = 9 := by simpa using hmi
        simp only [List.getElem?_toArray, List.getElem?_cons_succ, List.getElem?_cons_zero, Option.getD_some]
        go_wp2_with (at_builtin; refine wpL_appendE rfl (.tmp 22) (.tmp 24) 28 rfl B 105 i0 _ 4 48 Tryz.underlying28 hi hz0 hz1 hz2 (by rfl) (by decide) _ 0 [] rfl E4.out _ ops.length cells rfl HC2.out HC1.out (HO.out w4 B4.out) (by omega) (by simp [maxLen]; omega) (by have := B4.out.size; have := HBD.out; omega) ?_; intro v25 w5 ho hf; rw [Nat.zero_add, List.nil_append] at ho; obtain ⟨x25, y25, rfl, -, -⟩ := owns_slice ho)
        have hbl : Below B w4 w5 := hf.below (by have := B4.out.size; have := HBD.out; omega) (fun k hk => (E4.out.lt k (Option.mem_toList.1 hk)).1)
        refine ⟨hbl, ?_⟩
        have B5 := Lib.hid (B4.out.trans hbl)
        have P5 := Lib.hid (Fr.heap hf P4.out (heap_apart P4.out E4.out (by decide)))
        have X5 := Lib.hid (Fr.heap hf X4.out (fresh_apart X4.out E4.out))
        have N5 := Lib.hid (owns_kept N4.out hf (rows_apart N4.out E4.out (by decide)))
        have O5 := Lib.hid ho
        clear ho hf hbl
        refine anyH_step (T := Below B) (fun _ _ _ => Below.trans) [12] (by kernel_rfl) (by simp) (fun ix hmi => ?_)
        obtain rfl : ix = 12 := by simpa using hmi
        simp only [List.getElem?_toArray, List.getElem?_cons_succ, List.getElem?_cons_zero, Option.getD_some]
        go_wp2_with (at_builtin; refine wpL_appendE rfl (.tmp 25) (.tmp 27) 28 rfl B 105 i0 _ 4 48 Tryz.underlying28 hi hz0 hz1 hz2 (by rfl) (by decide) _ _ cells rfl O5.out _ 1 (OpD.pcells ⟨kd, oa, ob, on⟩) rfl HPL.out HPO.out (.inr ⟨⟨b27, 0, none⟩, 1, rfl, pcells_at X5.out⟩) (by omega) (by simp [maxLen]; omega) (by have := B5.out.size; have := HBD.out; omega) ?_; intro v28 w6 ho hf; obtain ⟨x28, y28, rfl, -, -⟩ := owns_slice ho)
        have hbl : Below B w5 w6 := hf.below (by have := B5.out.size; have := HBD.out; omega) (fun k hk => (O5.out.lt k (Option.mem_toList.1 hk)).1)
        refine ⟨hbl, ?_⟩
        have B6 := Lib.hid (B5.out.trans hbl)
        have P6 := Lib.hid (Fr.heap hf P5.out (heap_apart P5.out O5.out (by decide)))
        have N6 := Lib.hid (owns_kept N5.out hf (rows_apart N5.out O5.out (by decide)))
        have Z6 := Lib.hid ho
        clear ho hf hbl
        refine anyH_step (T := Below B) (fun _ _ _ => Below.trans) [13] (by kernel_rfl) (by simp) (fun ix hmi => ?_)
        obtain rfl : ix = 13 := by simpa using hmi
        simp only [List.getElem?_toArray, List.getElem?_cons_succ, List.getElem?_cons_zero, Option.getD_some]
        go_wp2_with fail
        refine ⟨Below.refl B w6, ?_⟩
        refine anyH_step (T := Below B) (fun _ _ _ => Below.trans) [14] (by kernel_rfl) (by simp) (fun ix hmi => ?_)
        obtain rfl : ix = 14 := by simpa using hmi
        simp only [List.getElem?_toArray, List.getElem?_cons_succ, List.getElem?_cons_zero, Option.getD_some]
        obtain ⟨g0, g1, g2, r0, r1, r2⟩ := three_of_heap P6.out
        go_wp2_with fail
        obtain ⟨q1, q2, q3⟩ := rdo_end (sv := .slice a1 safe.length c1) (ov := .slice x28 (ops.length + 1) y28) (ops := ops ++ [⟨kd, oa, ob, on⟩]) hwB HFD.out (Nat.le_of_lt HBD.out) B6.out N6.out (by rw [HLE.out, HFL.out]; exact Z6.out) P6.out
        have hh := heap_set3 (x := .slice x19 L.length y19) (y := .slice a1 safe.length c1) (z := .slice x28 (ops.length + 1) y28) P6.out
        clear g0 g1 g2 r0 r1 r2
        refine ⟨((Below.refl B w6).setCell (Nat.le_refl _) _ |>.setCell (Nat.le_refl _) _ |>.setCell (Nat.le_refl _) _), wpAnyH_done (by kernel_rfl) ?_ _⟩
        go_wp2_with fail
        exact rdo_fin hh q1 q2 q3
    · skip
      simp only [List.getElem?_toArray, List.getElem?_cons_succ, List.getElem?_cons_zero, Option.getD_some]
      go_wp2_with fail
      have hf := Fr.alloc w1 (.cells #[.int .i64 kd, encStr oa, encStr ob, .int .i64 on] 105)
      have hx := heap_alloc_new w1 (.cells #[.int .i64 kd, encStr oa, encStr ob, .int .i64 on] 105)
      obtain ⟨w2, hw⟩ : ∃ w2, w2 = w1.alloc (.cells #[.int .i64 kd, encStr oa, encStr ob, .int .i64 on] 105) := ⟨_, rfl⟩
      obtain ⟨b27, hb⟩ : ∃ b27, b27 = w1.heap.size := ⟨_, rfl⟩
      rw [← hw] at hf hx ⊢
      rw [← hb] at hx ⊢
      have hbl : Below B w1 w2 := hf.below (by have := B1.out.size; have := HBD.out; omega) (by simp)
      refine ⟨hbl, ?_⟩
      have B2 := Lib.hid (B1.out.trans hbl)
      have P2 := Lib.hid (Fr.heap hf P1.out (by simp))
      have X2 := Lib.hid hx
      clear hx hf hbl hw hb
      refine anyH_step (T := Below B) (fun _ _ _ => Below.trans) [3, 6] (by kernel_rfl) (by simp) (fun ix hmi => ?_)
      simp only [List.mem_cons, List.not_mem_nil, or_false] at hmi
      rcases hmi with rfl | rfl
      · skip
        simp only [List.getElem?_toArray, List.getElem?_cons_succ, List.getElem?_cons_zero, Option.getD_some]
        go_wp2_with (go_at_call 85; refine (HA.out w2 B2.out).mono ?_; rintro e w3 ⟨v19, rfl, hn, hf⟩; obtain ⟨x19, y19, rfl, -, -⟩ := owns_slice' hn)
        have hbl : Below B w2 w3 := hf.below (by have := B2.out.size; have := HBD.out; omega) (by simp)
        refine ⟨hbl, ?_⟩
        have B3 := Lib.hid (B2.out.trans hbl)
        have P3 := Lib.hid (Fr.heap hf P2.out (by simp))
        have X3 := Lib.hid (Fr.heap hf X2.out (by simp))
        have N3 := Lib.hid hn
        clear hn hf hbl
        refine anyH_step (T := Below B) (fun _ _ _ => Below.trans) [6] (by kernel_rfl) (by simp) (fun ix hmi => ?_)
        obtain rfl : ix = 6 := by simpa using hmi
        simp only [List.getElem?_toArray, List.getElem?_cons_succ, List.getElem?_cons_zero, Option.getD_some]
        go_wp2_with fail
        have hf := Fr.alloc w3 (.cells #[] 105)
        have he : (w3.alloc (.cells #[] 105)).ownsRow B 105 4 (.slice (some ⟨w3.heap.size, 0, none⟩) 0 0) 0 [] := World.ownsRow_made w3 #[] 0 (by have := B3.out.size; have := HBD.out; omega) (by simp) (by simp)
        obtain ⟨w4, hw⟩ : ∃ w4, w4 = w3.alloc (.cells #[] 105) := ⟨_, rfl⟩
        obtain ⟨b22, hb⟩ : ∃ b22, b22 = w3.heap.size := ⟨_, rfl⟩
        rw [← hw] at hf he ⊢
        rw [← hb] at he ⊢
        have hbl : Below B w3 w4 := hf.below (by have := B3.out.size; have := HBD.out; omega) (by simp)
        refine ⟨hbl, ?_⟩
        have B4 := Lib.hid (B3.out.trans hbl)
        have P4 := Lib.hid (Fr.heap hf P3.out (by simp))
        have X4 := Lib.hid (Fr.heap hf X3.out (by simp))
        have N4 := Lib.hid (owns_kept N3.out hf (by simp))
        have E4 := Lib.hid he
        clear he hf hbl hw hb
        refine anyH_step (T := Below B) (fun _ _ _ => Below.trans) [9] (by kernel_rfl) (by simp) (fun ix hmi => ?_)
        obtain rfl : ix = 9 := by simpa using hmi
        simp only [List.getElem?_toArray, List.getElem?_cons_succ, List.getElem?_cons_zero, Option.getD_some]
        go_wp2_with (at_builtin; refine wpL_appendE rfl (.tmp 22) (.tmp 24) 28 rfl B 105 i0 _ 4 48 Tryz.underlying28 hi hz0 hz1 hz2 (by rfl) (by decide) _ 0 [] rfl E4.out _ ops.length cells rfl HC2.out HC1.out (HO.out w4 B4.out) (by omega) (by simp [maxLen]; omega) (by have := B4.out.size; have := HBD.out; omega) ?_; intro v25 w5 ho hf; rw [Nat.zero_add, List.nil_append] at ho; obtain ⟨x25, y25, rfl, -, -⟩ := owns_slice ho)
        have hbl : Below B w4 w5 := hf.below (by have := B4.out.size; have := HBD.out; omega) (fun k hk => (E4.out.lt k (Option.mem_toList.1 hk)).1)
        refine ⟨hbl, ?_⟩
        have B5 := Lib.hid (B4.out.trans hbl)
        have P5 := Lib.hid (Fr.heap hf P4.out (heap_apart P4.out E4.out (by decide)))
        have X5 := Lib.hid (Fr.heap hf X4.out (fresh_apart X4.out E4.out))
        have N5 := Lib.hid (owns_kept N4.out hf (rows_apart N4.out E4.out (by decide)))
        have O5 := Lib.hid ho
        clear ho hf hbl
        refine anyH_step (T := Below B) (fun _ _ _ => Below.trans) [12] (by kernel_rfl) (by simp) (fun ix hmi => ?_)
        obtain rfl : ix = 12 := by simpa using hmi
        simp only [List.getElem?_toArray, List.getElem?_cons_succ, List.getElem?_cons_zero, Option.getD_some]
        go_wp2_with (at_builtin; refine wpL_appendE rfl (.tmp 25) (.tmp 27) 28 rfl B 105 i0 _ 4 48 Tryz.underlying28 hi hz0 hz1 hz2 (by rfl) (by decide) _ _ cells rfl O5.out _ 1 (OpD.pcells ⟨kd, oa, ob, on⟩) rfl HPL.out HPO.out (.inr ⟨⟨b27, 0, none⟩, 1, rfl, pcells_at X5.out⟩) (by omega) (by simp [maxLen]; omega) (by have := B5.out.size; have := HBD.out; omega) ?_; intro v28 w6 ho hf; obtain ⟨x28, y28, rfl, -, -⟩ := owns_slice ho)
        have hbl : Below B w5 w6 := hf.below (by have := B5.out.size; have := HBD.out; omega) (fun k hk => (O5.out.lt k (Option.mem_toList.1 hk)).1)
        refine ⟨hbl, ?_⟩
        have B6 := Lib.hid (B5.out.trans hbl)
        have P6 := Lib.hid (Fr.heap hf P5.out (heap_apart P5.out O5.out (by decide)))
        have N6 := Lib.hid (owns_kept N5.out hf (rows_apart N5.out O5.out (by decide)))
        have Z6 := Lib.hid ho
        clear ho hf hbl
        refine anyH_step (T := Below B) (fun _ _ _ => Below.trans) [13] (by kernel_rfl) (by simp) (fun ix hmi => ?_)
        obtain rfl : ix = 13 := by simpa using hmi
        simp only [List.getElem?_toArray, List.getElem?_cons_succ, List.getElem?_cons_zero, Option.getD_some]
        go_wp2_with fail
        refine ⟨Below.refl B w6, ?_⟩
        refine anyH_step (T := Below B) (fun _ _ _ => Below.trans) [14] (by kernel_rfl) (by simp) (fun ix hmi => ?_)
        obtain rfl : ix = 14 := by simpa using hmi
        simp only [List.getElem?_toArray, List.getElem?_cons_succ, List.getElem?_cons_zero, Option.getD_some]
        obtain ⟨g0, g1, g2, r0, r1, r2⟩ := three_of_heap P6.out
        go_wp2_with fail
        obtain ⟨q1, q2, q3⟩ := rdo_end (sv := .slice a1 safe.length c1) (ov := .slice x28 (ops.length + 1) y28) (ops := ops ++ [⟨kd, oa, ob, on⟩]) hwB HFD.out (Nat.le_of_lt HBD.out) B6.out N6.out (by rw [HLE.out, HFL.out]; exact Z6.out) P6.out
        have hh := heap_set3 (x := .slice x19 L.length y19) (y := .slice a1 safe.length c1) (z := .slice x28 (ops.length + 1) y28) P6.out
        clear g0 g1 g2 r0 r1 r2
        refine ⟨((Below.refl B w6).setCell (Nat.le_refl _) _ |>.setCell (Nat.le_refl _) _ |>.setCell (Nat.le_refl _) _), wpAnyH_done (by kernel_rfl) ?_ _⟩
        go_wp2_with fail
        exact rdo_fin hh q1 q2 q3
      · skip
        simp only [List.getElem?_toArray, List.getElem?_cons_succ, List.getElem?_cons_zero, Option.getD_some]
        go_wp2_with fail
        have hf := Fr.alloc w2 (.cells #[] 105)
        have he : (w2.alloc (.cells #[] 105)).ownsRow B 105 4 (.slice (some ⟨w2.heap.size, 0, none⟩) 0 0) 0 [] := World.ownsRow_made w2 #[] 0 (by have := B2.out.size; have := HBD.out; omega) (by simp) (by simp)
        obtain ⟨w3, hw⟩ : ∃ w3, w3 = w2.alloc (.cells #[] 105) := ⟨_, rfl⟩
        obtain ⟨b22, hb⟩ : ∃ b22, b22 = w2.heap.size := ⟨_, rfl⟩
        rw [← hw] at hf he ⊢
        rw [← hb] at he ⊢
        have hbl : Below B w2 w3 := hf.below (by have := B2.out.size; have := HBD.out; omega) (by simp)
        refine ⟨hbl, ?_⟩
        have B3 := Lib.hid (B2.out.trans hbl)
        have P3 := Lib.hid (Fr.heap hf P2.out (by simp))
        have X3 := Lib.hid (Fr.heap hf X2.out (by simp))
        have E3 := Lib.hid he
        clear he hf hbl hw hb
        refine anyH_step (T := Below B) (fun _ _ _ => Below.trans) [3] (by kernel_rfl) (by simp) (fun ix hmi => ?_)
        obtain rfl : ix = 3 := by simpa using hmi
        simp only [List.getElem?_toArray, List.getElem?_cons_succ, List.getElem?_cons_zero, Option.getD_some]
        go_wp2_with (go_at_call 85; refine (HA.out w3 B3.out).mono ?_; rintro e w4 ⟨v19, rfl, hn, hf⟩; obtain ⟨x19, y19, rfl, -, -⟩ := owns_slice' hn)
        have hbl : Below B w3 w4 := hf.below (by have := B3.out.size; have := HBD.out; omega) (by simp)
        refine ⟨hbl, ?_⟩
        have B4 := Lib.hid (B3.out.trans hbl)
        have P4 := Lib.hid (Fr.heap hf P3.out (by simp))
        have X4 := Lib.hid (Fr.heap hf X3.out (by simp))
        have E4 := Lib.hid (owns_kept E3.out hf (by simp))
        have N4 := Lib.hid hn
        clear hn hf hbl
        refine anyH_step (T := Below B) (fun _ _ _ => Below.trans) [9] (by kernel_rfl) (by simp) (fun ix hmi => ?_)
        obtain rfl : ix = 9 := by simpa using hmi
        simp only [List.getElem?_toArray, List.getElem?_cons_succ, List.getElem?_cons_zero, Option.getD_some]
        go_wp2_with (at_builtin; refine wpL_appendE rfl (.tmp 22) (.tmp 24) 28 rfl B 105 i0 _ 4 48 Tryz.underlying28 hi hz0 hz1 hz2 (by rfl) (by decide) _ 0 [] rfl E4.out _ ops.length cells rfl HC2.out HC1.out (HO.out w4 B4.out) (by omega) (by simp [maxLen]; omega) (by have := B4.out.size; have := HBD.out; omega) ?_; intro v25 w5 ho hf; rw [Nat.zero_add, List.nil_append] at ho; obtain ⟨x25, y25, rfl, -, -⟩ := owns_slice ho)
        have hbl : Below B w4 w5 := hf.below (by have := B4.out.size; have := HBD.out; omega) (fun k hk => (E4.out.lt k (Option.mem_toList.1 hk)).1)
        refine ⟨hbl, ?_⟩
        have B5 := Lib.hid (B4.out.trans hbl)
        have P5 := Lib.hid (Fr.heap hf P4.out (heap_apart P4.out E4.out (by decide)))
        have X5 := Lib.hid (Fr.heap hf X4.out (fresh_apart X4.out E4.out))
        have N5 := Lib.hid (owns_kept N4.out hf (rows_apart N4.out E4.out (by decide)))
        have O5 := Lib.hid ho
        clear ho hf hbl
        refine anyH_step (T := Below B) (fun _ _ _ => Below.trans) [12] (by kernel_rfl) (by simp) (fun ix hmi => ?_)
        obtain rfl : ix = 12 := by simpa using hmi
        simp only [List.getElem?_toArray, List.getElem?_cons_succ, List.getElem?_cons_zero, Option.getD_some]
        go_wp2_with (at_builtin; refine wpL_appendE rfl (.tmp 25) (.tmp 27) 28 rfl B 105 i0 _ 4 48 Tryz.underlying28 hi hz0 hz1 hz2 (by rfl) (by decide) _ _ cells rfl O5.out _ 1 (OpD.pcells ⟨kd, oa, ob, on⟩) rfl HPL.out HPO.out (.inr ⟨⟨b27, 0, none⟩, 1, rfl, pcells_at X5.out⟩) (by omega) (by simp [maxLen]; omega) (by have := B5.out.size; have := HBD.out; omega) ?_; intro v28 w6 ho hf; obtain ⟨x28, y28, rfl, -, -⟩ := owns_slice ho)
        have hbl : Below B w5 w6 := hf.below (by have := B5.out.size; have := HBD.out; omega) (fun k hk => (O5.out.lt k (Option.mem_toList.1 hk)).1)
        refine ⟨hbl, ?_⟩
        have B6 := Lib.hid (B5.out.trans hbl)
        have P6 := Lib.hid (Fr.heap hf P5.out (heap_apart P5.out O5.out (by decide)))
        have N6 := Lib.hid (owns_kept N5.out hf (rows_apart N5.out O5.out (by decide)))
        have Z6 := Lib.hid ho
        clear ho hf hbl
        refine anyH_step (T := Below B) (fun _ _ _ => Below.trans) [13] (by kernel_rfl) (by simp) (fun ix hmi => ?_)
        obtain rfl : ix = 13 := by simpa using hmi
        simp only [List.getElem?_toArray, List.getElem?_cons_succ, List.getElem?_cons_zero, Option.getD_some]
        go_wp2_with fail
        refine ⟨Below.refl B w6, ?_⟩
        refine anyH_step (T := Below B) (fun _ _ _ => Below.trans) [14] (by kernel_rfl) (by simp) (fun ix hmi => ?_)
        obtain rfl : ix = 14 := by simpa using hmi
        simp only [List.getElem?_toArray, List.getElem?_cons_succ, List.getElem?_cons_zero, Option.getD_some]
        obtain ⟨g0, g1, g2, r0, r1, r2⟩ := three_of_heap P6.out
        go_wp2_with fail
        obtain ⟨q1, q2, q3⟩ := rdo_end (sv := .slice a1 safe.length c1) (ov := .slice x28 (ops.length + 1) y28) (ops := ops ++ [⟨kd, oa, ob, on⟩]) hwB HFD.out (Nat.le_of_lt HBD.out) B6.out N6.out (by rw [HLE.out, HFL.out]; exact Z6.out) P6.out
        have hh := heap_set3 (x := .slice x19 L.length y19) (y := .slice a1 safe.length c1) (z := .slice x28 (ops.length + 1) y28) P6.out
        clear g0 g1 g2 r0 r1 r2
        refine ⟨((Below.refl B w6).setCell (Nat.le_refl _) _ |>.setCell (Nat.le_refl _) _ |>.setCell (Nat.le_refl _) _), wpAnyH_done (by kernel_rfl) ?_ _⟩
        go_wp2_with fail
        exact rdo_fin hh q1 q2 q3
end Go.Proofs.YtmchnaojlnjmjaaGreat
