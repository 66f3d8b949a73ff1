/- CanonReads (layer 16), over any program that does what it must. -/
import Derived.Test.YtgfpkmnmdehkpaaGreatCwA
import Derived.Test.YtgfpkmnmdehkpaaGreatCwB
import Derived.Test.YtgfpkmnmdehkpaaGreatCdA
import Derived.Test.YtgfpkmnmdehkpaaGreatDrA
import Derived.Test.YtgfpkmnmdehkpaaGreatParB
import Derived.Test.YtgfpkmnmdehkpaaGreatGrmD
set_option linter.unusedVariables false
set_option linter.unusedSimpArgs false
namespace Go.Proofs.YtgfpkmnmdehkpaaGreat
open Go.RowKit

/-- What a text up to 2000 bytes long is read as: three ways. -/
theorem reads_ways {m : List UInt8} (hm : m.length ≤ 2000) :
    ((parD m).err ≠ 0 ∧ readO m = ⟨emptyG, (parD m).at_, (parD m).err⟩) ∨
    ((parD m).err = 0 ∧ SizeL (parD m).lines ∧ (resolveG (parD m).lines).err ≠ 0 ∧ readO m = ⟨emptyG, 0, (resolveG (parD m).lines).err⟩) ∨
    ((parD m).err = 0 ∧ SizeL (parD m).lines ∧ (resolveG (parD m).lines).err = 0 ∧ ValidG (resolveG (parD m).lines).g ∧ readO m = ⟨canonG (resolveG (parD m).lines).g, 0, 0⟩) := by
  unfold readO
  by_cases h1 : (parD m).err ≠ 0
  · rw [if_pos h1]
    exact .inl ⟨h1, rfl⟩
  rw [if_neg h1]
  have h1' : (parD m).err = 0 := by simpa using h1
  obtain ⟨hok, hne, hlen⟩ := par_lines hm h1'
  have hz := size_lines hlen
  by_cases h2 : (resolveG (parD m).lines).err ≠ 0
  · rw [if_pos h2]
    exact .inr (.inl ⟨h1', hz, h2, rfl⟩)
  rw [if_neg h2]
  have h2' : (resolveG (parD m).lines).err = 0 := by simpa using h2
  rcases res_valid hok hne with ⟨-, h⟩ | ⟨h, -⟩
  · exact .inr (.inr ⟨h1', hz, h2', h, rfl⟩)
  · exact absurd h2' h
set_option maxRecDepth 100000 in
set_option maxHeartbeats 8000000 in
theorem creads_any (hR : ProgCanRead) (hT : ProgCanText) (hI : ProgCanIs) (m : List UInt8) (hm : m.length ≤ maxLen) (w : World) : Calls Tryz.prog 4 #[encStr m] w fun e w' => e = .returned (.bool true) ∧ Fr [] w w' := by
  have HAW := Lib.hid (fun wx => cawake_any hR hT hI wx)
  obtain ⟨n, hn⟩ : ∃ n, n = m.length := ⟨_, rfl⟩
  have hm' : n ≤ 9223372036854775807 := by rw [hn]; simpa [maxLen] using hm
  by_cases hbig : 2000 < n
  · have hd : decide (2000 < (n : Int)) = true := decide_eq_true (by omega)
    rw [show encStr m = .string ⟨m.toArray⟩ from rfl]
    have hsz : (⟨m.toArray⟩ : ByteArray).size = n := by rw [hn]; simp [ByteArray.size]
    have hsz2 : m.toArray.size = n := by rw [hn]; simp
    obtain ⟨T, hTT⟩ : ∃ T, T = m.toArray := ⟨_, rfl⟩
    rw [← hTT] at hsz hsz2 ⊢
    clear hTT hR hT hI hm hbig hn
    go_enter Tryz.func4, Tryz.ntmps4
    go_wp2_with (go_at_call 9; refine (HAW.out _).mono ?_; rintro e w7 ⟨rfl, hf7⟩)
    go_ret
    exact ⟨rfl, hf7⟩
  have hlen : m.length ≤ 2000 := by omega
  have hd : decide (2000 < (n : Int)) = false := decide_eq_false (by omega)
  have hrd := fun wx => hR m wx (by omega)
  have hpa := fun wx => rpar_any m (by omega) wx
  have hways := reads_ways hlen
  rw [show encStr m = .string ⟨m.toArray⟩ from rfl] at hrd hpa ⊢
  have hsz : (⟨m.toArray⟩ : ByteArray).size = n := by rw [hn]; simp [ByteArray.size]
  have hsz2 : m.toArray.size = n := by rw [hn]; simp
  obtain ⟨M, hM⟩ : ∃ M, M = m.toArray := ⟨_, rfl⟩
  rw [← hM] at hsz hsz2 hrd hpa ⊢
  obtain ⟨P, hP⟩ : ∃ P, P = parD m := ⟨_, rfl⟩
  rw [← hP] at hpa hways
  obtain ⟨O, hO⟩ : ∃ O, O = readO m := ⟨_, rfl⟩
  rw [← hO] at hrd hways
  clear hM hR hT hI hm hbig hn hlen hP hO
  obtain ⟨ls, pat, per⟩ := P
  simp only at hpa hways
  rcases hways with ⟨he, hO⟩ | ⟨he, hz, hr, hO⟩ | ⟨he, hz, hr, hv, hO⟩
  · obtain ⟨E, hE⟩ : ∃ E, E = emptyG := ⟨_, rfl⟩
    have HNE := Lib.hid (fun wx => show gramAt wx (.agg #[.slice none 0 0, .slice none 0 0, .slice none 0 0]) E by rw [hE]; exact gram_nilC wx)
    rw [hO, ← hE] at hrd
    have HSM := Lib.hid (fun va vb wx (ha : gramAt wx va E) (hb : gramAt wx vb E) => rsame_any E E va vb wx ha hb)
    rw [show sameB E E = true from boolOf_true rfl] at HSM
    have HRD := Lib.hid hrd
    have HPA := Lib.hid hpa
    have x1 : (per != 0) = true := by simpa [bne_iff_ne] using he
    have x2 : (per == per) = true := by simp
    have x3 : ((pat : Int) == (pat : Int)) = true := by simp
    clear hrd hpa hO hE he
    go_enter Tryz.func4, Tryz.ntmps4
    go_upto_region 4 with (go_at_call 17; refine (HRD.out _).mono ?_; rintro e w1 ⟨va, rfl, hva, hf1⟩; obtain ⟨b1, d1, b2, d2, b3, d3, rfl, -, -, -⟩ := hva.parts)
    have hb5 := heap_alloc_new w1 (.cells #[.slice b1 E.names.length d1, .slice b2 E.terms.length d2, .slice b3 E.rules.length d3] 25)
    have hf5 := Fr.alloc w1 (.cells #[.slice b1 E.names.length d1, .slice b2 E.terms.length d2, .slice b3 E.rules.length d3] 25)
    obtain ⟨w5, hw5⟩ : ∃ w5, w5 = w1.alloc (.cells #[.slice b1 E.names.length d1, .slice b2 E.terms.length d2, .slice b3 E.rules.length d3] 25) := ⟨_, rfl⟩
    obtain ⟨q1, hq1⟩ : ∃ q1, q1 = w1.heap.size := ⟨_, rfl⟩
    rw [← hw5] at hb5 hf5
    rw [← hq1] at hb5
    rw [← hw5, ← hq1]
    have HB5 := Lib.hid hb5
    have HV5 := Lib.hid (hva.below hf5)
    have HF5 := Lib.hid (hf1.trans hf5 (by simp) (n := []) (by simp))
    clear hb5 hf5 hw5 hq1 hva hf1
    go_wp2_with (first
      | (go_at_call 9; refine (HAW.out _).mono ?_; rintro e w10 ⟨rfl, hf10⟩)
      | (go_at_call 12; refine (HSM.out _ _ w6 (HV5.out.below hf6) (HNE.out w6)).mono ?_; rintro e w7 ⟨rfl, hf7⟩)
      | (go_at_call 18; refine (HPA.out _).mono ?_; rintro e w6 ⟨lv, rfl, hl6, hf6⟩; obtain ⟨fa, ca, rfl, -, -⟩ := hl6.form; obtain ⟨y0, y1, y2, -⟩ := three_of_heap (hf6.heap HB5.out (by simp))))
    go_ret
    exact ⟨rfl, ((HF5.out.trans hf6 (by simp) (n := []) (by simp)).trans hf7 (by simp) (n := []) (by simp)).trans hf10 (by simp) (by simp)⟩
  · obtain ⟨E, hE⟩ : ∃ E, E = emptyG := ⟨_, rfl⟩
    have HNE := Lib.hid (fun wx => show gramAt wx (.agg #[.slice none 0 0, .slice none 0 0, .slice none 0 0]) E by rw [hE]; exact gram_nilC wx)
    rw [hO, ← hE] at hrd
    have HSM := Lib.hid (fun va vb wx (ha : gramAt wx va E) (hb : gramAt wx vb E) => rsame_any E E va vb wx ha hb)
    rw [show sameB E E = true from boolOf_true rfl] at HSM
    have hrs := fun lv wx h => rresolve_any ls lv wx h hz
    obtain ⟨Rs, hRs⟩ : ∃ Rs, Rs = resolveG ls := ⟨_, rfl⟩
    rw [← hRs] at hrs hr hrd
    obtain ⟨X, er⟩ := Rs
    simp only at hrs hr hrd
    have HRD := Lib.hid hrd
    have HPA := Lib.hid hpa
    have HRS := Lib.hid hrs
    have x1 : (per != 0) = false := by rw [he]; rfl
    have x2 : (er != 0) = true := by simpa [bne_iff_ne] using hr
    have x3 : (er == er) = true := by simp
    clear hrd hpa hrs hO hE he hr hRs hz
    go_enter Tryz.func4, Tryz.ntmps4
    go_upto_region 4 with (go_at_call 17; refine (HRD.out _).mono ?_; rintro e w1 ⟨va, rfl, hva, hf1⟩; obtain ⟨b1, d1, b2, d2, b3, d3, rfl, -, -, -⟩ := hva.parts)
    have hb5 := heap_alloc_new w1 (.cells #[.slice b1 E.names.length d1, .slice b2 E.terms.length d2, .slice b3 E.rules.length d3] 25)
    have hf5 := Fr.alloc w1 (.cells #[.slice b1 E.names.length d1, .slice b2 E.terms.length d2, .slice b3 E.rules.length d3] 25)
    obtain ⟨w5, hw5⟩ : ∃ w5, w5 = w1.alloc (.cells #[.slice b1 E.names.length d1, .slice b2 E.terms.length d2, .slice b3 E.rules.length d3] 25) := ⟨_, rfl⟩
    obtain ⟨q1, hq1⟩ : ∃ q1, q1 = w1.heap.size := ⟨_, rfl⟩
    rw [← hw5] at hb5 hf5
    rw [← hq1] at hb5
    rw [← hw5, ← hq1]
    have HB5 := Lib.hid hb5
    have HV5 := Lib.hid (hva.below hf5)
    have HF5 := Lib.hid (hf1.trans hf5 (by simp) (n := []) (by simp))
    clear hb5 hf5 hw5 hq1 hva hf1
    go_upto_region 8 with (first
      | (go_at_call 19; refine (HRS.out _ _ hl6).mono ?_; rintro e w7 ⟨xv, rfl, hx7, hf7⟩; obtain ⟨g1, k1, g2, k2, g3, k3, rfl, -, -, -⟩ := hx7.parts)
      | (go_at_call 18; refine (HPA.out _).mono ?_; rintro e w6 ⟨lv, rfl, hl6, hf6⟩; obtain ⟨fa, ca, rfl, -, -⟩ := hl6.form))
    have hf8 := Fr.alloc w7 (.cells #[.slice g1 X.names.length k1, .slice g2 X.terms.length k2, .slice g3 X.rules.length k3] 25)
    obtain ⟨w8, hw8⟩ : ∃ w8, w8 = w7.alloc (.cells #[.slice g1 X.names.length k1, .slice g2 X.terms.length k2, .slice g3 X.rules.length k3] 25) := ⟨_, rfl⟩
    rw [← hw8] at hf8
    rw [← hw8]
    have HF58 := Lib.hid ((hf6.trans hf7 (by simp) (n := []) (by simp)).trans hf8 (by simp) (n := []) (by simp))
    clear hf6 hf7 hf8 hx7 hl6 hw8
    obtain ⟨y0, y1, y2, -⟩ := three_of_heap (HF58.out.heap HB5.out (by simp))
    go_wp2_with (first
      | (go_at_call 9; refine (HAW.out _).mono ?_; rintro e w10 ⟨rfl, hf10⟩)
      | (go_at_call 12; refine (HSM.out _ _ w8 (HV5.out.below HF58.out) (HNE.out w8)).mono ?_; rintro e w9 ⟨rfl, hf9⟩))
    go_ret
    exact ⟨rfl, ((HF5.out.trans HF58.out (by simp) (n := []) (by simp)).trans hf9 (by simp) (n := []) (by simp)).trans hf10 (by simp) (by simp)⟩
  · have hrs := fun lv wx h => rresolve_any ls lv wx h hz
    obtain ⟨Rs, hRs⟩ : ∃ Rs, Rs = resolveG ls := ⟨_, rfl⟩
    rw [← hRs] at hrs hr hv hO
    obtain ⟨X, er⟩ := Rs
    simp only at hrs hr hv hO
    rw [hO] at hrd
    have hcn := fun gv wx h => rcanon_any X hv gv wx h
    obtain ⟨C, hC⟩ : ∃ C, C = canonG X := ⟨_, rfl⟩
    rw [← hC] at hrd hcn
    have HSM := Lib.hid (fun va vb wx (ha : gramAt wx va C) (hb : gramAt wx vb C) => rsame_any C C va vb wx ha hb)
    rw [show sameB C C = true from boolOf_true rfl] at HSM
    have HRD := Lib.hid hrd
    have HPA := Lib.hid hpa
    have HRS := Lib.hid hrs
    have HCN := Lib.hid hcn
    have x1 : (per != 0) = false := by rw [he]; rfl
    have x2 : (er != 0) = false := by rw [hr]; rfl
    clear hrd hpa hrs hcn hO he hr hRs hz hv hC
    go_enter Tryz.func4, Tryz.ntmps4
    go_upto_region 4 with (go_at_call 17; refine (HRD.out _).mono ?_; rintro e w1 ⟨va, rfl, hva, hf1⟩; obtain ⟨b1, d1, b2, d2, b3, d3, rfl, -, -, -⟩ := hva.parts)
    have hb5 := heap_alloc_new w1 (.cells #[.slice b1 C.names.length d1, .slice b2 C.terms.length d2, .slice b3 C.rules.length d3] 25)
    have hf5 := Fr.alloc w1 (.cells #[.slice b1 C.names.length d1, .slice b2 C.terms.length d2, .slice b3 C.rules.length d3] 25)
    obtain ⟨w5, hw5⟩ : ∃ w5, w5 = w1.alloc (.cells #[.slice b1 C.names.length d1, .slice b2 C.terms.length d2, .slice b3 C.rules.length d3] 25) := ⟨_, rfl⟩
    obtain ⟨q1, hq1⟩ : ∃ q1, q1 = w1.heap.size := ⟨_, rfl⟩
    rw [← hw5] at hb5 hf5
    rw [← hq1] at hb5
    rw [← hw5, ← hq1]
    have HB5 := Lib.hid hb5
    have HV5 := Lib.hid (hva.below hf5)
    have HF5 := Lib.hid (hf1.trans hf5 (by simp) (n := []) (by simp))
    clear hb5 hf5 hw5 hq1 hva hf1
    go_upto_region 8 with (first
      | (go_at_call 19; refine (HRS.out _ _ hl6).mono ?_; rintro e w7 ⟨xv, rfl, hx7, hf7⟩; obtain ⟨g1, k1, g2, k2, g3, k3, rfl, -, -, -⟩ := hx7.parts)
      | (go_at_call 18; refine (HPA.out _).mono ?_; rintro e w6 ⟨lv, rfl, hl6, hf6⟩; obtain ⟨fa, ca, rfl, -, -⟩ := hl6.form))
    have hb8 := heap_alloc_new w7 (.cells #[.slice g1 X.names.length k1, .slice g2 X.terms.length k2, .slice g3 X.rules.length k3] 25)
    have hf8 := Fr.alloc w7 (.cells #[.slice g1 X.names.length k1, .slice g2 X.terms.length k2, .slice g3 X.rules.length k3] 25)
    obtain ⟨w8, hw8⟩ : ∃ w8, w8 = w7.alloc (.cells #[.slice g1 X.names.length k1, .slice g2 X.terms.length k2, .slice g3 X.rules.length k3] 25) := ⟨_, rfl⟩
    obtain ⟨q2, hq2⟩ : ∃ q2, q2 = w7.heap.size := ⟨_, rfl⟩
    rw [← hw8] at hb8 hf8
    rw [← hq2] at hb8
    rw [← hw8, ← hq2]
    have HB8 := Lib.hid hb8
    have HX8 := Lib.hid (hx7.below hf8)
    have HF58 := Lib.hid ((hf6.trans hf7 (by simp) (n := []) (by simp)).trans hf8 (by simp) (n := []) (by simp))
    clear hf6 hf7 hf8 hx7 hl6 hw8 hq2 hb8
    go_upto_region 10 with fail
    refine wp_region_T (Fr []) (fun _ => Fr.refl _ _) (fun _ _ _ h k => h.trans k (fun _ hi _ => hi) (fun _ hi _ => hi)) [(0, false), (1, false), (2, true), (3, true), (4, false), (5, false), (6, false), (7, false), (8, false), (9, false), (10, false), (11, false), (12, false), (13, true), (14, false), (15, false)] 82 rfl (by kernel_rfl) (by kernel_rfl) (by kernel_rfl) (fun c a d v w h => by cases d <;> exact h) ?_
    simp only [List.map_cons, List.map_nil, List.getElem?_toArray, List.getElem?_cons_succ, List.getElem?_cons_zero, Option.getD_some]
    obtain ⟨w9, hw9⟩ : ∃ w9, w9 = w8.drew := ⟨_, rfl⟩
    have hf9 : Fr [] w8 w9 := by rw [hw9]; exact Fr.drew _
    rw [← hw9]
    have HL := Lib.hid (fun wx (hf : Fr [] w9 wx) => show (wx.heap[q1]? = some (.cells #[.slice b1 C.names.length d1, .slice b2 C.terms.length d2, .slice b3 C.rules.length d3] 25 (0, 0))) ∧ (wx.heap[q2]? = some (.cells #[.slice g1 X.names.length k1, .slice g2 X.terms.length k2, .slice g3 X.rules.length k3] 25 (0, 0))) ∧ Fr [] w5 wx ∧ gramAt wx (.agg #[.slice b1 C.names.length d1, .slice b2 C.terms.length d2, .slice b3 C.rules.length d3]) C ∧ gramAt wx (.agg #[.slice g1 X.names.length k1, .slice g2 X.terms.length k2, .slice g3 X.rules.length k3]) X from by
      have f8 := hf9.trans hf (by simp) (n := []) (by simp)
      have f5 := HF58.out.trans f8 (by simp) (n := []) (by simp)
      exact ⟨f5.heap HB5.out (by simp), f8.heap HB8.out (by simp), f5, HV5.out.below f5, HX8.out.below f8⟩)
    clear hw9 hf9
    iterate 2 (apply wpT_t; · (intro w' hf'; obtain ⟨e1, e2, -, -, -⟩ := HL.out w' hf'; obtain ⟨x0, x1, x2, -⟩ := three_of_heap e1; obtain ⟨y0, y1, y2, -⟩ := three_of_heap e2; clear e1 e2; go_wp2_with fail; exact ⟨rfl, rfl⟩))
    refine wpT_x ?_
    go_wp2_with fail
    refine (HCN.out _ _ (HL.out w9 (Fr.refl _ _)).2.2.2.2).mono ?_
    rintro e w10 ⟨vb, rfl, hvb, hf10⟩
    go_wp2_with fail
    refine ⟨hf10, rfl, ?_⟩
    refine wpT_x ?_
    go_wp2_with fail
    refine (HSM.out _ _ _ (HL.out w10 hf10).2.2.2.1 hvb).mono ?_
    rintro e w11 ⟨rfl, hf11⟩
    have gf11 := hf10.trans hf11 (by simp) (n := []) (by simp)
    go_wp2_with fail
    refine ⟨hf11, rfl, ?_⟩
    iterate 9 (apply wpT_t; · (intro w' hf'; go_wp2_with fail; exact ⟨rfl, rfl⟩))
    refine wpT_x ?_
    go_wp2_with fail
    refine (HAW.out _).mono ?_
    rintro e w12 ⟨rfl, hf12⟩
    have gf12 := gf11.trans hf12 (by simp) (n := []) (by simp)
    go_wp2_with fail
    refine ⟨hf12, rfl, ?_⟩
    iterate 2 (apply wpT_t; · (intro w' hf'; go_wp2_with fail; exact ⟨rfl, rfl⟩))
    refine wpT_end ?_
    go_wp2_with fail
    go_ret
    exact ⟨rfl, HF5.out.trans (HL.out w12 gf12).2.2.1 (by simp) (by simp)⟩
end Go.Proofs.YtgfpkmnmdehkpaaGreat
