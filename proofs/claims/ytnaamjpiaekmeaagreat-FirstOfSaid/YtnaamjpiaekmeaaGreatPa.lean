/- Several texts in one: WpA, WpB, WpC, WpD, WpF. -/
import Derived.LoopTactic
import Derived.WalkMore
import Derived.Deep.DeepCutAuto
import Derived.Test.YtnaamjpiaekmeaaGreatTb
import Derived.Test.YtnaamjpiaekmeaaGreatMm
import Derived.Test.YtnaamjpiaekmeaaGreatGa
import Derived.Test.YtnaamjpiaekmeaaGreatBs
import Derived.Test.YtnaamjpiaekmeaaGreatShelf
set_option linter.unusedVariables false
set_option linter.unusedSimpArgs false
namespace Go.Proofs.YtnaamjpiaekmeaaGreat
open Go.RowKit
def LnRel (w : World) (right s : List Int) (sv iv : Value) (wx : World) : Prop := ∃ (k : Nat) (a : Nat), k ≤ right.length ∧ sv = .int .i64 (a : Int) ∧ iv = .int .i64 (k : Int) ∧ a ≤ 1000000 * k ∧ lenGo s right 0 = lenGo s (right.drop k) (a : Int) ∧ Fr [] w wx
set_option maxRecDepth 100000 in
set_option maxHeartbeats 1000000 in
theorem plenof_any (right s : List Int) (rv sv : Value) (w : World) (h1 : intsAt w rv right) (h2 : intsAt w sv s) (hok : LenOk s) (hlen : right.length ≤ 1000) (hsym : ∀ x ∈ right, x < (s.length : Int)) :
  Calls Tryz.prog 94 #[rv, sv] w fun e w' => e = .returned (.int .i64 (lenOf s right)) ∧ Fr [] w w' := by
 obtain ⟨a0, c0, rfl, hle, hmx⟩ := h1.form
 obtain ⟨a1, c1, rfl, hle1, hmx1⟩ := h2.form
 have H1 := Lib.hid h1
 have H2 := Lib.hid h2
 have HO := Lib.hid hok
 have HS := Lib.hid hsym
 have HI := Lib.hid (fun (x : Int) wx => pgterm_any x wx)
 obtain ⟨R, hR⟩ : ∃ R, R = lenOf s right := ⟨_, rfl⟩
 rw [← hR]
 have HR := Lib.hid hR
 clear h1 h2 hok hsym hR
 go_enter Tryz.func94, Tryz.ntmps94
 go_wp2_with fail
 go_loopw [5, 10] (LnRel w right s) (fun _ iv _ => right.length - (intOf iv).toNat)
 case atStart => exact ⟨0, 0, Nat.zero_le _, rfl, rfl, by omega, rfl, Fr.refl _ _⟩
 case round =>
  obtain ⟨k, a, hk, rfl, rfl, hak, hgo, hf⟩ := hrel
  have HF := Lib.hid hf
  have HG := Lib.hid hgo
  clear hgo
  by_cases hkn : k < right.length
  ·have hd2 : decide (k < right.length) = true := decide_eq_true hkn
   obtain ⟨b, off, rfl, hc⟩ := int_cell (H1.out.below hf) k hkn
   have HD := Lib.hid (List.drop_eq_getElem_cons hkn)
   have hm := HS.out _ (List.getElem_mem hkn)
   obtain ⟨x, hx⟩ : ∃ x, x = right[k]'hkn := ⟨_, rfl⟩
   rw [← hx] at hc hm
   have HX := Lib.hid hx
   clear hx
   by_cases hneg : x < 0
   ·have hi := HI.out x
    rw [decide_eq_true hneg] at hi
    have HN := Lib.hid hneg
    have HI1 := Lib.hid hi
    clear hi hneg hf hm
    go_wp2_with (go_at_call 55; refine (HI1.out _).mono ?_; rintro e w1 ⟨rfl, hf1⟩)
    refine ⟨⟨k + 1, a + 1, by omega, by go_num, by go_num, by omega, ?_, HF.out.trans hf1 (by simp) (by simp)⟩, by simp [intOf]; omega⟩
    rw [HG.out, HD.out, lenGo, ← HX.out, symLen_neg HN.out, if_neg (by decide)]
    exact congrArg (lenGo s _) (by omega)
   ·have hi := HI.out x
    rw [decide_eq_false hneg] at hi
    have HI1 := Lib.hid hi
    obtain ⟨m, rfl⟩ : ∃ m : Nat, x = (m : Int) := ⟨x.toNat, by omega⟩
    have hml : m < s.length := by omega
    have HL := Lib.hid (symLen_nat hml)
    obtain ⟨b1, off1, rfl, hc1⟩ := int_cell (H2.out.below hf) m hml
    have hv := HO.out _ (List.getElem_mem hml)
    obtain ⟨v, hvv⟩ : ∃ v, v = s[m]'hml := ⟨_, rfl⟩
    rw [← hvv] at hc1 hv
    have HV := Lib.hid hvv
    have HC1 := Lib.hid hc1
    clear hi hneg hf hm hvv hc1
    by_cases hn : v = -1
    ·have e1 : (v == -1) = true := by rw [hn]; rfl
     have HN := Lib.hid hn
     clear hn
     go_wp2_with (go_at_call 55; refine (HI1.out _).mono ?_; rintro e w1 ⟨rfl, hf1⟩; have hc2 := hf1.cell HC1.out (by simp))
     go_ret
     refine ⟨?_, HF.out.trans hf1 (by simp) (by simp)⟩
     rw [HR.out, lenOf, HG.out, HD.out, lenGo, ← HX.out, HL.out, ← HV.out, if_pos HN.out]
     rfl
    ·have e1 : (v == -1) = false := by rw [beq_eq_false_iff_ne]; exact hn
     obtain ⟨u, rfl⟩ : ∃ u : Nat, v = (u : Int) := ⟨v.toNat, by omega⟩
     have hu : u ≤ 1000000 := by omega
     clear hn hv
     go_wp2_with (go_at_call 55; refine (HI1.out _).mono ?_; rintro e w1 ⟨rfl, hf1⟩; have hc2 := hf1.cell HC1.out (by simp))
     refine ⟨⟨k + 1, a + u, by omega, by go_num, by go_num, by omega, ?_, HF.out.trans hf1 (by simp) (by simp)⟩, by simp [intOf]; omega⟩
     rw [HG.out, HD.out, lenGo, ← HX.out, HL.out, ← HV.out, if_neg (by omega)]
     exact congrArg (lenGo s _) (by omega)
  ·have hd2 : decide (k < right.length) = false := decide_eq_false hkn
   have HE := Lib.hid (show right.drop k = [] from List.drop_eq_nil_of_le (by omega))
   have HKN := Lib.hid hkn
   clear hf hkn
   go_wp2_with fail
   all_goals go_ret
   all_goals refine ⟨?_, HF.out⟩
   all_goals rw [HR.out, lenOf, HG.out, HE.out, lenGo]
   all_goals show Ending.returned (Value.int .i64 _) = _
   all_goals congr 2
   all_goals split <;> omega
end Go.Proofs.YtnaamjpiaekmeaaGreat
namespace Go.Proofs.YtnaamjpiaekmeaaGreat
open Go.RowKit
theorem infoIntW : (Tryz.prog.info? 3).map (fun i => (i.zero, i.size, i.bytes)) = some (some (.int .i64 0), 1, 8) := by kernel_rfl
theorem size8I : (Tryz.prog.info? 3).map (·.size) = some 1 := by kernel_rfl
def intRow (w : World) (g : Nat) (l : List Int) : Prop := w.heap[g]? = some (.cells (l.map intV).toArray 3 (0, 0))
theorem intRow.below {w w' : World} {g : Nat} {l : List Int} (h : intRow w g l) (hf : Fr [] w w') : intRow w' g l := hf.heap h (by simp)
theorem intRow.at {w : World} {g : Nat} {l : List Int} (h : intRow w g l) (hm : l.length ≤ maxLen) (n : Nat) (hn : n = l.length) : intsAt w (.slice (some ⟨g, 0, none⟩) n n) l := by
 subst hn
 refine .inr ⟨g, 0, l.length, by rw [List.length_map], by rw [List.length_map]; exact Nat.le_refl _, hm, fun i hi => ?_⟩
 rw [cell_of_heap h]
 simp only [List.length_map] at hi
 simp [hi]
theorem intRow.set {w : World} {g : Nat} {l : List Int} (h : intRow w g l) (k : Nat) (v : Int) : intRow (w.setCell ⟨g, k, none⟩ (.int .i64 v)) g (l.set k v) := by
 unfold intRow at h ⊢
 rw [heap_setCell_same h]
 simp [List.map_set, intV]
def part2 (a : Int) (n c : Nat) : List Int := List.replicate c a ++ List.replicate (n - c) 0
theorem part2_len {a : Int} {n c : Nat} (h : c ≤ n) : (part2 a n c).length = n := by simp [part2]; omega
theorem part2_full (a : Int) (n : Nat) : part2 a n n = List.replicate n a := by simp [part2]
theorem splice_part2 {a : Int} {n c m : Nat} (h : c + m ≤ n) : splice ((part2 a n c).map intV) c (List.replicate m (intV a)) = (part2 a n (c + m)).map intV := by
 have h1 : (List.replicate c a).length = c := by simp
 unfold splice part2
 simp only [List.map_append, List.map_replicate, List.length_replicate]
 rw [List.take_append_of_le_length (by simp), List.take_of_length_le (by simp), List.drop_append, List.drop_eq_nil_of_le (by simp), List.drop_replicate, List.length_replicate, List.nil_append, ← List.append_assoc, List.replicate_append_replicate]
 rw [show n - c - (c + m - c) = n - (c + m) by omega]
theorem wpL_copyC {P : Program} {w : World} {ops : Array Oper} {rest : List Oper} {o : Oper} {a : Act} {Q : Exit → Act → World → Prop} (hgd : o.guard = none) (d s : Operand) (dT sT : TypeId)
  (ho : o.op = .call { callee := .builtin .copy, args := #[d, s], argTypes := #[dT, sT] }) (elem : TypeId) (hu : P.underlying dT = some (.slice elem)) (hsz : (P.info? elem).map (·.size) = some 1)
  (g off dLen dCap : Nat) (ad : Addr) (sLen sCap : Nat) (hd : a.eval d = .slice (some ⟨g, off, none⟩) dLen dCap) (hs : a.eval s = .slice (some ad) sLen sCap)
  (cur : List Value) (t : TypeId) (hg : w.heap[g]? = some (.cells cur.toArray t (0, 0))) (cs : List Value) (hn : cs.length = Nat.min sLen dLen)
  (hsrc : ∀ j v, cs[j]? = some v → w.cell? (ad.add j) = some v) (hfit : off + cs.length ≤ cur.length) (h1 : ∀ v ∈ cs, v.oneCell' = true)
  (h : ∀ w', Hid (w'.heap[g]? = some (.cells (splice cur off cs).toArray t (0, 0))) → Fr [g] w w' → wpList P ops Q rest (a.put o.dst (goInt cs.length)) w') : wpList P ops Q (o :: rest) a w := by
 refine wpList_copy_own hgd d s dT sT ho elem hu hsz g off dLen dCap ad sLen sCap hd hs cur.toArray t hg cs hn hsrc (by simpa using hfit) h1 ?_
 exact h _ (show _ = _ by simpa [splice] using setRow_heap w g _ _ t _ hg) (Fr.setRow _ _ _)
def RpRel (w : World) (g n : Nat) (a : Int) (cv : Value) (wx : World) : Prop := ∃ c : Nat, c ≤ n ∧ (0 < n → 0 < c) ∧ cv = .int .i64 (c : Int) ∧ intRow wx g (part2 a n c) ∧ Fr [] w wx
def RRep (n : Nat) (a : Int) (w : World) (e : Ending) (w' : World) : Prop := ∃ g, w.heap.size ≤ g ∧ e = .returned (.slice (some ⟨g, 0, none⟩) n n) ∧ intRow w' g (List.replicate n a) ∧ Fr [] w w'
set_option maxRecDepth 100000 in
set_option maxHeartbeats 2000000 in
theorem prepeat_any (a : Int) (n cx : Nat) (ax : Option Addr) (w : World) (h : intsAt w (.slice ax 1 cx) [a]) (hn : n ≤ 1000000) (hn1 : 1 ≤ n) :
  Calls Tryz.prog 91 #[.slice ax 1 cx, .int .i64 (n : Int)] w (RRep n a w) := by
 obtain ⟨iI, hiI, hz0, hz1, hz2⟩ := info_parts infoIntW
 have hmul := Tryz.bits_Mul 1 n (by decide) (by omega)
 have e0 : 1 * n / 18446744073709551616 = 0 := by omega
 have e1 : 1 * n % 18446744073709551616 = n := by omega
 have hmul2 : ∀ wx, Calls Tryz.prog 96 #[.int .u64 1, .int .u64 (n : Int)] wx fun e w' => e = .returned (.tuple #[.int .u64 0, .int .u64 (n : Int)]) ∧ w' = wx := fun wx => by
  have := hmul wx
  rw [e0, e1] at this
  exact this
 have HMUL := Lib.hid hmul2
 have HX := Lib.hid h
 have d1 : decide ((n : Int) < 0) = false := decide_eq_false (by omega)
 have d2 : decide ((9223372036854775807 : Int) < (n : Int)) = false := decide_eq_false (by omega)
 clear hmul e0 e1 hmul2 h
 go_enter Tryz.func91, Tryz.ntmps91
 obtain ⟨bx, ox, rfl, hcx⟩ := int_cell HX.out 0 (by simp)
 have hsrc : ∀ wx, Fr [] w wx → ∀ (j : Nat) (v : Value), [intV a][j]? = some v → wx.cell? ((⟨bx, ox, none⟩ : Addr).add j) = some v := by
  intro wx hfx j v hj
  cases j with
  | succ j => simp at hj
  | zero =>
    simp at hj
    have hadd : (⟨bx, ox, none⟩ : Addr).add 0 = ⟨bx, ox + 0, none⟩ := by unfold Addr.add; split <;> simp_all
    rw [hadd, ← hj]
    exact hfx.cell hcx (by simp)
 have HSRC := Lib.hid hsrc
 clear hsrc hcx
 go_wp2_with (first
  | (go_at_call 96; refine (HMUL.out _).mono ?_; rintro e w1 ⟨rfl, hw1⟩; rw [hw1])
  | (refine wpL_make rfl _ _ 39 rfl 3 iI (.int .i64 0) 8 Tryz.underlying39 hiI hz0 hz1 hz2 rfl n rfl rfl (by omega) (by simp [maxLen]; omega) ?_; intro w2 hh2 hf2 hs2)
  | (refine wpList_copy_splice rfl _ _ 39 39 rfl 3 Tryz.underlying39 size8I (some ⟨w.heap.size, 0, none⟩) (some ⟨bx, ox, none⟩) n n 1 cx rfl rfl w.heap.size 0 ((part2 a n 0).map intV) 3 (by have := hh2.out; simpa [part2, intV] using this) [intV a] (by simp [Nat.min_def]; omega) (fun _ => ⟨rfl, _, rfl, HSRC.out _ hf2⟩) (by simp [part2]; omega) (by simp [intV, Value.oneCell']) w.heap.size w (Fr.below hf2 (Nat.le_refl _) (by simp)) (Nat.le_refl _) ?_; intro w3 hh3 hb3; have hs3 := splice_part2 (a := a) (n := n) (c := 0) (m := 1) (by omega)))
 obtain ⟨g, hg⟩ : ∃ g, g = w.heap.size := ⟨_, rfl⟩
 have HG := Lib.hid hg
 have HR3 := Lib.hid (show intRow w3 g (part2 a n 1) by unfold intRow; rw [hg, hh3.out]; rw [show [intV a] = List.replicate 1 (intV a) from rfl, hs3])
 have HF3 := Lib.hid (Fr.of_below hb3)
 have HGL := Lib.hid (show w.heap.size ≤ g by omega)
 rw [← hg]
 clear hh3 hb3 hs3 hh2 hf2 hs2 hw1 hg
 go_loopw [8] (RpRel w g n a) (fun cv _ => n - (intOf cv).toNat)
 case atStart => exact ⟨1, by omega, by omega, rfl, HR3.out, HF3.out⟩
 case round =>
  obtain ⟨c, hc, hc0, rfl, hrow, hf⟩ := hrel
  have HROW := Lib.hid hrow
  have HF := Lib.hid hf
  by_cases hcn : c < n
  ·have hd1 : decide (c < n) = true := decide_eq_true hcn
   obtain ⟨m, hm⟩ : ∃ m, m = min c (n - c) := ⟨_, rfl⟩
   have hm1 : c + m ≤ n := by omega
   have hm2 : m ≤ c := by omega
   have hm3 : 0 < m := by have := hc0 (by omega); omega
   have HM := Lib.hid hm
   have hml : m ≤ n - c := by omega
   clear hrow hf hm
   go_wp2_with fail
   have hcc : ∀ (j : Nat) (v : Value), (List.replicate m (intV a))[j]? = some v → wr.cell? ((⟨g, 0, none⟩ : Addr).add j) = some v := by
    intro j v hj
    have hadd : (⟨g, 0, none⟩ : Addr).add j = ⟨g, 0 + j, none⟩ := by unfold Addr.add; split <;> simp_all
    rw [List.getElem?_replicate] at hj
    split at hj
    ·next q =>
     rw [hadd, cell_of_heap HROW.out, ← hj]
     simp only [part2, Nat.zero_add, List.map_append, List.map_replicate, List.getElem?_toArray]
     rw [List.getElem?_append_left (by simp; omega), List.getElem?_replicate, if_pos (by omega)]
    ·cases hj
   have HCC := Lib.hid hcc
   have hsp := splice_part2 (a := a) hm1
   have hlen : c + m ≤ ((part2 a n c).map intV).length := by rw [List.length_map, part2_len hc]; exact hm1
   have hmin : (List.replicate m (intV a)).length = Nat.min c (n - c) := by rw [List.length_replicate]; exact HM.out
   have HLEN := Lib.hid hlen
   have HMIN := Lib.hid hmin
   have HSP := Lib.hid hsp
   have hcn' : ¬ n = c := by omega
   have e1 : List.length (List.replicate m (intV a)) = m := List.length_replicate
   have E1 := Lib.hid e1
   clear hcc hsp hlen hmin e1
   refine wp_region_W [g] [(0, false), (1, false), (2, false), (3, false), (4, false), (5, false), (6, false), (7, true), (8, false), (9, false)] 48 rfl (by kernel_rfl) (by kernel_rfl) (by kernel_rfl) (fun c a d v w h => by cases d <;> exact h) ?_
   simp only [List.map_cons, List.map_nil, List.getElem?_toArray, List.getElem?_cons_succ, List.getElem?_cons_zero, Option.getD_some]
   have HROW2 := Lib.hid (HROW.out.below (Fr.drew wr))
   have HFD := Lib.hid (HF.out.andDrew)
   have HCC2 := Lib.hid (show ∀ (j : Nat) (v : Value), (List.replicate m (intV a))[j]? = some v → wr.drew.cell? ((⟨g, 0, none⟩ : Addr).add j) = some v from HCC.out)
   obtain ⟨wd, hwd⟩ : ∃ wd, wd = wr.drew := ⟨_, rfl⟩
   rw [← hwd] at HROW2 HFD HCC2 ⊢
   clear hwd
   iterate 7 (apply wpG_t; · (intro w' hf'; go_wp2; exact ⟨rfl, rfl⟩))
   refine wpG_x ?_
   refine wpL_copyC rfl _ _ 39 39 rfl 3 Tryz.underlying39 size8I g c (n - c) (n - c) ⟨g, 0, none⟩ c n (by simp [Act.eval, Act.put, hcn']) rfl ((part2 a n c).map intV) 3 HROW2.out (List.replicate m (intV a)) HMIN.out HCC2.out (by rw [E1.out]; exact HLEN.out) (fun v hv => by rw [List.eq_of_mem_replicate hv]; rfl) ?_
   intro w4 hh4 hf4
   rw [E1.out]
   go_wp2
   refine ⟨hf4, rfl, ?_⟩
   iterate 2 (apply wpG_t; · (intro w' hf'; go_wp2; exact ⟨rfl, rfl⟩))
   refine wpG_end ?_
   go_wp2_with fail
   refine ⟨⟨c + m, hm1, by omega, by go_num, by unfold intRow; rw [hh4.out, HSP.out], HFD.out.trans hf4 (by simp) (fun i hi hlt => by have := HGL.out; simp at hi; omega)⟩, by simp [intOf]; omega⟩
  ·have hd1 : decide (c < n) = false := decide_eq_false hcn
   have HE := Lib.hid (show c = n by omega)
   clear hrow hf hcn
   go_wp2_with fail
   go_ret
   exact ⟨g, HGL.out, rfl, by have := HROW.out; rwa [HE.out, part2_full] at this, HF.out⟩
end Go.Proofs.YtnaamjpiaekmeaaGreat
namespace Go.Proofs.YtnaamjpiaekmeaaGreat
open Go.RowKit
def boxAt (w : World) (p : Nat) (t : TypeId) (v : Value) : Prop := w.heap[p]? = some (.cells #[v] t (0, 0))
theorem boxAt.cell {w : World} {p : Nat} {t : TypeId} {v : Value} (h : boxAt w p t v) : w.cell? ⟨p, 0, none⟩ = some v := by
 rw [cell_of_heap h]; rfl
theorem boxAt.kept {w w' : World} {p : Nat} {t : TypeId} {v : Value} {L : List Nat} (h : boxAt w p t v) (hf : Fr L w w') (hp : p ∉ L) : boxAt w' p t v := hf.heap h hp
def RuleOk (N T : Nat) (r : RuleG) : Prop := 0 ≤ r.left ∧ r.left < (N : Int) ∧ r.right.length ≤ 64 ∧ ∀ x ∈ r.right, -(T : Int) ≤ x ∧ x < (N : Int)
def RStepL (b : Nat) (s : List Int) (r : RuleG) (w : World) (e : Ending) (w' : World) : Prop := e = .returned (.bool (stepL s r).2) ∧ intRow w' b (stepL s r).1 ∧ Fr [b] w w'
theorem intRow.free {w : World} {g : Nat} {l : List Int} (h : intRow w g l) (i : Nat) : w.frozen? ⟨g, i, none⟩ = false := free_of_heap h i
theorem intRow.cell {w : World} {g : Nat} {l : List Int} (h : intRow w g l) {i : Nat} (hi : i < l.length) : w.cell? ⟨g, i, none⟩ = some (.int .i64 (l[i]'hi)) := by
 rw [cell_of_heap h]
 simp [hi, intV]
set_option maxRecDepth 100000 in
set_option maxHeartbeats 2000000 in
theorem pstepl_any (r : RuleG) (v : Value) (p b n T : Nat) (s : List Int) (w : World) (hv : intsAt w v r.right) (hp : boxAt w p 39 (.slice (some ⟨b, 0, none⟩) n n)) (hb : intRow w b s) (hn : n = s.length) (hn2 : n ≤ 1000000) (hok : LenOk s) (hr : RuleOk n T r) :
  Calls Tryz.prog 93 #[ruleV r.left v, .pointer (some ⟨p, 0, none⟩)] w (RStepL b s r w) := by
 obtain ⟨lf, rg⟩ := r
 obtain ⟨h0, h1, h2, h3⟩ := hr
 simp only at hv h0 h1 h2 h3
 obtain ⟨i, rfl⟩ : ∃ i : Nat, lf = (i : Int) := ⟨lf.toNat, by omega⟩
 have hin : i < n := by omega
 have his : i < s.length := by omega
 obtain ⟨a0, c0, rfl, hle, hmx⟩ := hv.form
 have hpb : p ≠ b := fun e => by
  subst e
  unfold boxAt at hp; unfold intRow at hb
  rw [hp] at hb
  injection hb with hb
  injection hb with hb
  have := congrArg (·[0]?) hb
  cases hs : s with
  | nil => rw [hs] at his; simp at his
  | cons x s => rw [hs] at this; simp [intV] at this
 have hat := hb.at (by simp [maxLen]; omega) n hn
 have hq := two_of_new w (.int .i64 (i : Int)) (.slice a0 rg.length c0) 46
 have hf0 := Fr.alloc w (.cells #[.int .i64 (i : Int), .slice a0 rg.length c0] 46)
 obtain ⟨w0, hw0⟩ : ∃ w0, w0 = w.alloc (.cells #[.int .i64 (i : Int), .slice a0 rg.length c0] 46) := ⟨_, rfl⟩
 obtain ⟨q0, hq0⟩ : ∃ q0, q0 = w.heap.size := ⟨_, rfl⟩
 rw [← hw0] at hq hf0
 rw [← hq0] at hq
 have hlen := plenof_any rg s (.slice a0 rg.length c0) (.slice (some ⟨b, 0, none⟩) n n) w0 (hv.below hf0) (hat.below hf0) hok (by omega) (fun x hx => by have := (h3 x hx).2; omega)
 obtain ⟨L, hL⟩ : ∃ L, L = lenOf s rg := ⟨_, rfl⟩
 rw [← hL] at hlen
 obtain ⟨u, hu⟩ : ∃ u, u = s[i]'his := ⟨_, rfl⟩
 have hgd : (s[((i : Int)).toNat]?).getD (-1) = u := by rw [Int.toNat_natCast, List.getElem?_eq_getElem his, hu]; rfl
 have hc := hb.cell his
 rw [← hu] at hc
 obtain ⟨rn, hrn⟩ : ∃ k, k = rg.length := ⟨_, rfl⟩
 rw [← hrn] at hle hlen hw0 hq
 have HLEN := Lib.hid hlen
 have HQ := Lib.hid hq
 have HF0 := Lib.hid hf0
 have HW0 := Lib.hid hw0
 have HQ0 := Lib.hid hq0
 have HP := Lib.hid (hp.kept hf0 (by simp))
 have HB := Lib.hid (hb.below hf0)
 have HC := Lib.hid (hf0.cell hc (by simp))
 have HPB := Lib.hid hpb
 have HHN := Lib.hid hn
 obtain ⟨R, hR⟩ : ∃ R, R = stepL s ⟨(i : Int), rg⟩ := ⟨_, rfl⟩
 unfold RStepL
 rw [← hR]
 unfold stepL at hR
 simp only at hR
 rw [hgd, ← hL, Int.toNat_natCast] at hR
 obtain ⟨x0, x1, -⟩ := two_cells HQ.out
 have y0 := HP.out.cell
 unfold ruleV
 rw [← hrn]
 clear hlen hq hf0 hw0 hq0 hp hb hc hpb hn hat hv hok h3 hmx hgd hL hu hrn
 by_cases t1 : L = -1
 ·have d1 : (L == -1) = true := by rw [t1]; rfl
  have HR := Lib.hid (hR.trans (if_pos (.inl t1)))
  clear t1 hR
  go_enter Tryz.func93, Tryz.ntmps93
  go_upto_region 1 with fail
  rw [← HW0.out, ← HQ0.out]
  go_wp2_with (go_at_call 94; refine HLEN.out.mono ?_; rintro e w1 ⟨rfl, hf1⟩; obtain ⟨x0, x1, -⟩ := two_cells (hf1.heap HQ.out (by simp)); have y0 := (HP.out.kept hf1 (by simp)).cell)
  go_ret
  exact ⟨by rw [HR.out]; rfl, by rw [HR.out]; exact HB.out.below hf1, (HF0.out.trans hf1 (by simp) (n := []) (by simp)).mono (by simp)⟩
 have d1 : (L == -1) = false := by rw [beq_eq_false_iff_ne]; exact t1
 by_cases t2 : u = -1
 ·have d2 : (u != -1) = false := by rw [t2]; rfl
  have HR := Lib.hid (hR.trans (if_neg (by rintro (q | ⟨q, -⟩); exact t1 q; exact q t2)))
  clear t1 t2 hR
  go_enter Tryz.func93, Tryz.ntmps93
  go_upto_region 1 with fail
  rw [← HW0.out, ← HQ0.out]
  go_wp2_with (go_at_call 94; refine HLEN.out.mono ?_; rintro e w1 ⟨rfl, hf1⟩; obtain ⟨x0, x1, -⟩ := two_cells (hf1.heap HQ.out (by simp)); have y0 := (HP.out.kept hf1 (by simp)).cell; have hb1 := HB.out.below hf1; have z0 := hf1.cell HC.out (by simp); have z1 := hb1.free i)
  go_ret
  exact ⟨by rw [HR.out]; rfl, by rw [HR.out]; exact hb1.set _ _, (HF0.out.trans hf1 (by simp) (n := []) (by simp)).trans (Fr.set0 _ _ _ _) (by simp) (by simp)⟩
 have d2 : (u != -1) = true := by rw [bne_iff_ne]; exact t2
 by_cases t3 : u ≤ L
 ·have d3 : decide (u ≤ L) = true := decide_eq_true t3
  have HR := Lib.hid (hR.trans (if_pos (.inr ⟨t2, t3⟩)))
  clear t1 t2 t3 hR
  go_enter Tryz.func93, Tryz.ntmps93
  go_upto_region 1 with fail
  rw [← HW0.out, ← HQ0.out]
  go_wp2_with (go_at_call 94; refine HLEN.out.mono ?_; rintro e w1 ⟨rfl, hf1⟩; obtain ⟨x0, x1, -⟩ := two_cells (hf1.heap HQ.out (by simp)); have y0 := (HP.out.kept hf1 (by simp)).cell; have hb1 := HB.out.below hf1; have z0 := hf1.cell HC.out (by simp); have z1 := hb1.free i)
  go_ret
  exact ⟨by rw [HR.out]; rfl, by rw [HR.out]; exact hb1, (HF0.out.trans hf1 (by simp) (n := []) (by simp)).mono (by simp)⟩
 ·have d3 : decide (u ≤ L) = false := decide_eq_false t3
  have HR := Lib.hid (hR.trans (if_neg (by rintro (q | ⟨-, q⟩); exact t1 q; exact t3 q)))
  clear t1 t2 t3 hR
  go_enter Tryz.func93, Tryz.ntmps93
  go_upto_region 1 with fail
  rw [← HW0.out, ← HQ0.out]
  go_wp2_with (go_at_call 94; refine HLEN.out.mono ?_; rintro e w1 ⟨rfl, hf1⟩; obtain ⟨x0, x1, -⟩ := two_cells (hf1.heap HQ.out (by simp)); have y0 := (HP.out.kept hf1 (by simp)).cell; have hb1 := HB.out.below hf1; have z0 := hf1.cell HC.out (by simp); have z1 := hb1.free i)
  go_ret
  exact ⟨by rw [HR.out]; rfl, by rw [HR.out]; exact hb1.set _ _, (HF0.out.trans hf1 (by simp) (n := []) (by simp)).trans (Fr.set0 _ _ _ _) (by simp) (by simp)⟩
end Go.Proofs.YtnaamjpiaekmeaaGreat
namespace Go.Proofs.YtnaamjpiaekmeaaGreat
open Go.RowKit
def TK_l (p : Nat) : Value := .func (.func 93) #[] #[.pointer (some ⟨p, 0, none⟩)]
def PrRel_l {σ : Type} (F : σ → RuleG → σ × Bool) (St : World → σ → Prop) (rules : List RuleG) (N : Nat) (s : σ) (L : List Nat) (w : World) (iv : Value) (wx : World) : Prop :=
 ∃ (k : Nat) (st : σ), k ≤ N ∧ iv = .int .i64 (k : Int) ∧ St wx st ∧ propF F rules N s = propF F rules (N - k) st ∧ Fr L w wx
def RdRel_l {σ : Type} (F : σ → RuleG → σ × Bool) (St : World → σ → Prop) (rules : List RuleG) (s : σ) (L : List Nat) (w : World) (mv iv : Value) (wx : World) : Prop :=
 ∃ (k : Nat) (st : σ) (m : Bool), k ≤ rules.length ∧ mv = .bool m ∧ iv = .int .i64 (k : Int) ∧ St wx st ∧ roundF F rules (s, false) = roundF F (rules.drop k) (st, m) ∧ Fr L w wx
def RProp_l {σ : Type} (F : σ → RuleG → σ × Bool) (St : World → σ → Prop) (g : GramG) (s : σ) (L : List Nat) (w : World) (e : Ending) (w' : World) : Prop :=
 e = .returned (.tuple #[]) ∧ St w' (propF F g.rules g.names.length s) ∧ Fr L w w'
def HT_l (p : Nat) {σ : Type} (F : σ → RuleG → σ × Bool) (St : World → σ → Prop) (g : GramG) (L : List Nat) : Prop :=
 ∀ (wx : World) (s : σ) (r : RuleG) (v : Value), r ∈ g.rules → St wx s → intsAt wx v r.right → Calls Tryz.prog 93 #[ruleV r.left v, .pointer (some ⟨p, 0, none⟩)] wx fun e w' => e = .returned (.bool (F s r).2) ∧ St w' (F s r).1 ∧ Fr L wx w'
set_option maxRecDepth 100000 in
set_option maxHeartbeats 4000000 in
theorem pprop_l (p : Nat) {σ : Type} (F : σ → RuleG → σ × Bool) (St : World → σ → Prop) (g : GramG) (gv : Value) (L : List Nat) (s : σ) (wb w : World) (hg : gramAt wb gv g) (hwb : Fr [] wb w) (hL : ∀ k ∈ L, wb.heap.size ≤ k ∧ k < w.heap.size)
  (ht : HT_l p F St g L) (hS : ∀ wx wy s, St wx s → Fr [] wx wy → St wy s) (hs : St w s) :
  Calls Tryz.prog 92 #[gv, TK_l p] w (RProp_l F St g s L w) := by
 obtain ⟨a1, c1, a2, c2, a3, c3, rfl, ⟨-, q1, p1⟩, ⟨-, q2, p2⟩, ⟨h3, q3, p3⟩⟩ := hg.parts
 have hb := heap_alloc_new w (.cells #[.slice a1 g.names.length c1, .slice a2 g.terms.length c2, .slice a3 g.rules.length c3] 25)
 have hf0 := Fr.alloc w (.cells #[.slice a1 g.names.length c1, .slice a2 g.terms.length c2, .slice a3 g.rules.length c3] 25)
 obtain ⟨w1, hw1⟩ : ∃ w1, w1 = w.alloc (.cells #[.slice a1 g.names.length c1, .slice a2 g.terms.length c2, .slice a3 g.rules.length c3] 25) := ⟨_, rfl⟩
 obtain ⟨q0, hq0⟩ : ∃ q0, q0 = w.heap.size := ⟨_, rfl⟩
 rw [← hw1] at hb hf0
 rw [← hq0] at hb
 have hqL : q0 ∉ L := fun hm => by have := hL q0 hm; omega
 have hb1 : Fr [] wb w1 := hwb.trans hf0 (by simp) (by simp)
 obtain ⟨N, hN⟩ : ∃ n, n = g.names.length := ⟨_, rfl⟩
 obtain ⟨n2, hn2⟩ : ∃ n, n = g.terms.length := ⟨_, rfl⟩
 obtain ⟨n3, hn3⟩ : ∃ n, n = g.rules.length := ⟨_, rfl⟩
 unfold RProp_l
 rw [← hN, ← hn2, ← hn3] at hb hw1
 rw [← hN, ← hn2, ← hn3]
 rw [← hn3] at h3
 rw [← hN] at q1
 rw [← hn3] at q3
 have HB := Lib.hid hb
 have HF0 := Lib.hid hf0
 have HW1 := Lib.hid hw1
 have HQ0 := Lib.hid hq0
 have HB1 := Lib.hid hb1
 have HQL := Lib.hid hqL
 have HL := Lib.hid hL
 have HT := Lib.hid ht
 have HS := Lib.hid hS
 have H3 := Lib.hid h3
 have HS1 := Lib.hid (hS _ _ _ hs hf0)
 have HN3 := Lib.hid hn3
 have HW := Lib.hid (show ∀ wx, Fr L w1 wx → Fr [] wb wx from fun wx hfx => hb1.trans hfx (by simp) (fun i hi hlt => by have := (hL i hi).1; omega))
 unfold TK_l
 clear hb hf0 hw1 hq0 hb1 hqL hL ht hS h3 hs hg hwb hN hn2 hn3 q2 p2
 obtain ⟨x0, x1, x2, -⟩ := three_of_heap HB.out
 go_enter Tryz.func92, Tryz.ntmps92
 go_upto_region 1 with fail
 rw [← HW1.out, ← HQ0.out]
 go_wp2_with fail
 clear x0 x1 x2
 go_loopw [10] (PrRel_l F St g.rules N s L w1) (fun iv _ => N - (intOf iv).toNat)
 case atStart => exact ⟨0, s, Nat.zero_le _, rfl, HS1.out, rfl, Fr.refl _ _⟩
 case round =>
  obtain ⟨k, st, hk, rfl, hst, hpf, hf⟩ := hrel
  have HF := Lib.hid hf
  have HST := Lib.hid hst
  have HPF := Lib.hid hpf
  obtain ⟨x0, x1, x2, -⟩ := three_of_heap (hf.heap HB.out HQL.out)
  clear hf hst hpf
  by_cases hkn : k < N
  ·have hd1 : decide (k < N) = true := decide_eq_true hkn
   go_wp2_with fail
   clear x0 x1 x2
   obtain ⟨wo, hwo⟩ : ∃ wo, wo = wr := ⟨_, rfl⟩
   rw [← hwo] at HF HST ⊢
   clear hwo
   go_loopw [4, 15] (RdRel_l F St g.rules st L w1) (fun _ iv _ => n3 - (intOf iv).toNat)
   case atStart => exact ⟨0, st, false, Nat.zero_le _, rfl, rfl, HST.out, rfl, HF.out⟩
   case round =>
    obtain ⟨j, sj, m, hj, rfl, rfl, hsj, hrd, hfj⟩ := hrel
    have hj3 : j ≤ n3 := by have := HN3.out; omega
    have HFJ := Lib.hid hfj
    have HSJ := Lib.hid hsj
    have HRD := Lib.hid hrd
    obtain ⟨x0, x1, x2, -⟩ := three_of_heap (hfj.heap HB.out HQL.out)
    by_cases hjn : j < n3
    ·have hd2 : decide (j < n3) = true := decide_eq_true hjn
     have hjr : j < g.rules.length := by have := HN3.out; omega
     obtain ⟨b1, o1, v1, rfl, z0, z1, hv1⟩ := rule_cells (H3.out.below (HW.out _ hfj)) j hjr
     have hm := List.getElem_mem hjr
     have HDR := Lib.hid (round_drop F hjr sj m)
     obtain ⟨r, hr⟩ : ∃ r, r = g.rules[j]'hjr := ⟨_, rfl⟩
     rw [← hr] at z0 hv1 hm
     have HR := Lib.hid hr
     obtain ⟨a4, c4, rfl, hle4, hmx4⟩ := hv1.form
     obtain ⟨n4, hn4⟩ : ∃ n, n = r.right.length := ⟨_, rfl⟩
     obtain ⟨lf, hlf⟩ : ∃ l, l = r.left := ⟨_, rfl⟩
     have hq := two_of_new wr (.int .i64 lf) (.slice a4 n4 c4) 46
     have hfq := Fr.alloc wr (.cells #[.int .i64 lf, .slice a4 n4 c4] 46)
     obtain ⟨w2, hw2⟩ : ∃ w2, w2 = wr.alloc (.cells #[.int .i64 lf, .slice a4 n4 c4] 46) := ⟨_, rfl⟩
     obtain ⟨q2, hq2⟩ : ∃ q2, q2 = wr.heap.size := ⟨_, rfl⟩
     rw [← hw2] at hq hfq
     rw [← hq2] at hq
     have hcl := HT.out w2 sj r (.slice a4 r.right.length c4) hm (HS.out _ _ _ hsj hfq) (hv1.below hfq)
     rw [← hlf, ← hn4] at hcl
     rw [← hlf] at z0
     rw [← hn4] at z1
     unfold ruleV at hcl
     have HCL := Lib.hid hcl
     have HQ := Lib.hid hq
     have HFQ := Lib.hid hfq
     have HW2 := Lib.hid hw2
     have HQ2 := Lib.hid hq2
     obtain ⟨x3, x4, -⟩ := two_cells hq
     have hfin : ∀ w3, St w3 (F sj r).1 → Fr L w2 w3 → RdRel_l F St g.rules st L w1 (.bool (m || (F sj r).2)) (.int .i64 ((j + 1 : Nat) : Int)) w3 := fun w3 hs3 hf3 =>
      ⟨j + 1, _, _, by omega, rfl, rfl, hs3, by rw [HRD.out, HDR.out, ← HR.out], (HFJ.out.trans HFQ.out (fun i hi _ => hi) (by simp) (n := L)).trans hf3 (fun i hi _ => hi) (fun i hi _ => hi)⟩
     have HFIN := Lib.hid hfin
     clear hcl hq hfq hw2 hq2 hr hm hv1 hle4 hmx4 hn4 hlf hfj hsj hrd hfin
     go_upto_region 7 with fail
     rw [← HW2.out, ← HQ2.out]
     clear z0 z1 x0 x1 x2
     cases hb : (F sj r).2 with
     | true =>
       rw [hb] at HCL HFIN
       clear hb
       go_wp2_with (go_at_call 93; refine HCL.out.mono ?_; rintro e w3 ⟨rfl, hs3, hf3⟩)
       refine ⟨?_, by simp [intOf]; omega⟩
       have := HFIN.out _ hs3 hf3
       rw [Bool.or_true] at this
       exact this
     | false =>
       rw [hb] at HCL HFIN
       clear hb
       go_wp2_with (go_at_call 93; refine HCL.out.mono ?_; rintro e w3 ⟨rfl, hs3, hf3⟩)
       refine ⟨?_, by simp [intOf]; omega⟩
       have := HFIN.out _ hs3 hf3
       rw [Bool.or_false] at this
       exact this
    ·have hd2 : decide (j < n3) = false := decide_eq_false hjn
     have HE := Lib.hid (show roundF F g.rules (st, false) = (sj, m) by rw [hrd, round_end F (by have := HN3.out; omega)])
     have HSTEP := Lib.hid (show propF F g.rules (N - k) st = if m = true then propF F g.rules (N - (k + 1)) sj else sj by
      rw [show N - k = (N - (k + 1)) + 1 by omega, propF, HE.out])
     clear hfj hsj hrd
     cases m with
     | true =>
       go_wp2_with fail
       refine ⟨⟨k + 1, sj, by omega, by go_num, HSJ.out, by rw [HPF.out, HSTEP.out, if_pos rfl], HFJ.out⟩, by simp [intOf]; omega⟩
     | false =>
       go_wp2_with fail
       refine bodyPost_ret (results_none rfl _ _ _) rfl ?_
       refine ⟨rfl, ?_, HF0.out.trans HFJ.out (by simp) (fun i hi _ => hi)⟩
       rw [HPF.out, HSTEP.out, if_neg (by decide)]
       exact HSJ.out
  ·have hd1 : decide (k < N) = false := decide_eq_false hkn
   have HE := Lib.hid (show N - k = 0 by omega)
   clear hkn
   go_wp2_with fail
   go_end0
   refine ⟨rfl, ?_, HF0.out.trans HF.out (by simp) (fun i hi _ => hi)⟩
   rw [HPF.out, HE.out, propF]
   exact HST.out
end Go.Proofs.YtnaamjpiaekmeaaGreat
namespace Go.Proofs.YtnaamjpiaekmeaaGreat
open Go.RowKit
def StL (p b n : Nat) (w : World) (s : List Int) : Prop := boxAt w p 39 (.slice (some ⟨b, 0, none⟩) n n) ∧ intRow w b s ∧ s.length = n ∧ LenOk s
theorem ht_l {g : GramG} (hv : ValidG g) {p b : Nat} (hpb : p ≠ b) : HT_l p stepL (StL p b g.names.length) g [b] := by
 intro wx s r v hr hst hi
 obtain ⟨h1, h2, h3, h4⟩ := hst
 refine (pstepl_any r v p b g.names.length g.terms.length s wx hi h1 h2 h3.symm (by have := hv.syms; omega) h4 (hv.rules r hr)).mono ?_
 rintro e w' ⟨he, hrow, hf⟩
 exact ⟨he, ⟨h1.kept hf (by simpa using hpb), hrow, by rw [stepL_len, h3], stepL_ok h4⟩, hf⟩
def RLens (g : GramG) (w : World) (e : Ending) (w' : World) : Prop := ∃ b, w.heap.size ≤ b ∧ e = .returned (.slice (some ⟨b, 0, none⟩) g.names.length g.names.length) ∧ intRow w' b (lensP g) ∧ (lensP g).length = g.names.length ∧ LenOk (lensP g) ∧ Fr [] w w'
set_option maxRecDepth 100000 in
set_option maxHeartbeats 4000000 in
theorem plengths_any (g : GramG) (gv : Value) (w : World) (hg : gramAt w gv g) (hv : ValidG g) : Calls Tryz.prog 49 #[gv] w (RLens g w) := by
 obtain ⟨a1, c1, a2, c2, a3, c3, rfl, ⟨-, q1, p1⟩, ⟨-, q2, p2⟩, ⟨h3, q3, p3⟩⟩ := hg.parts
 have hb := heap_alloc_new w (.cells #[.slice a1 g.names.length c1, .slice a2 g.terms.length c2, .slice a3 g.rules.length c3] 25)
 have hf0 := Fr.alloc w (.cells #[.slice a1 g.names.length c1, .slice a2 g.terms.length c2, .slice a3 g.rules.length c3] 25)
 obtain ⟨w0, hw0⟩ : ∃ w1, w1 = w.alloc (.cells #[.slice a1 g.names.length c1, .slice a2 g.terms.length c2, .slice a3 g.rules.length c3] 25) := ⟨_, rfl⟩
 obtain ⟨q0, hq0⟩ : ∃ q0, q0 = w.heap.size := ⟨_, rfl⟩
 rw [← hw0] at hb hf0
 rw [← hq0] at hb
 have hsm : g.names.length ≤ 1000000 := by have := hv.syms; omega
 have hone := hv.one
 have HSZ := Lib.hid (show w.heap.size ≤ w0.heap.size from hf0.size)
 have hint := cellsAt_new w0 [.int .i64 (-1)] 3 1 rfl (by decide)
 have hfi := Fr.alloc w0 (.cells #[.int .i64 (-1)] 3)
 have hrep := prepeat_any (-1) g.names.length 1 _ _ hint hsm hone
 have HG := Lib.hid hg
 have HV := Lib.hid hv
 obtain ⟨N, hN⟩ : ∃ n, n = g.names.length := ⟨_, rfl⟩
 obtain ⟨n2, hn2⟩ : ∃ n, n = g.terms.length := ⟨_, rfl⟩
 obtain ⟨n3, hn3⟩ : ∃ n, n = g.rules.length := ⟨_, rfl⟩
 unfold RLens
 rw [← hN] at hrep hsm hone q1
 rw [← hN, ← hn2, ← hn3] at hb hw0
 rw [← hN, ← hn2, ← hn3]
 have HB := Lib.hid hb
 have HF0 := Lib.hid hf0
 have HW0 := Lib.hid hw0
 have HQ0 := Lib.hid hq0
 have HREP := Lib.hid hrep
 have HFI := Lib.hid hfi
 have HN := Lib.hid hN
 have HN2 := Lib.hid hn2
 have HN3 := Lib.hid hn3
 obtain ⟨x0, x1, x2, -⟩ := three_of_heap (HFI.out.heap HB.out (by simp))
 clear hb hf0 hw0 hq0 hrep hfi hN hn2 hn3 h3 hg hv hint hone q2 p2 q3 p3
 go_enter Tryz.func49, Tryz.ntmps49
 go_upto_region 1 with fail
 rw [← HW0.out, ← HQ0.out]
 go_upto_region 2 with (go_at_call 91; refine HREP.out.mono ?_; rintro e w2 ⟨b, hbb, rfl, hrow, hf2⟩)
 have hfb := Fr.alloc w2 (.cells #[.slice (some ⟨b, 0, none⟩) N N] 39)
 have hbx := heap_alloc_new w2 (.cells #[.slice (some ⟨b, 0, none⟩) N N] 39)
 have HBL := Lib.hid (show b < w2.heap.size from (Array.getElem?_eq_some_iff.1 hrow).1)
 have HBB := Lib.hid (show w.heap.size ≤ b by have h1 := HSZ.out; have h2 := HFI.out.size; omega)
 have hrow3 := hrow.below hfb
 have hfa : Fr [] w w2 := HF0.out.trans (HFI.out.trans hf2 (by simp) (n := []) (by simp)) (by simp) (by simp)
 have hfa3 : Fr [] w (w2.alloc (.cells #[.slice (some ⟨b, 0, none⟩) N N] 39)) := hfa.trans hfb (by simp) (by simp)
 have hbq := (HFI.out.trans (hf2.trans hfb (by simp) (n := []) (by simp)) (by simp) (n := []) (by simp)).heap HB.out (by simp)
 obtain ⟨w3, hw3⟩ : ∃ w3, w3 = w2.alloc (.cells #[.slice (some ⟨b, 0, none⟩) N N] 39) := ⟨_, rfl⟩
 obtain ⟨p, hp⟩ : ∃ p, p = w2.heap.size := ⟨_, rfl⟩
 have HPB := Lib.hid (show p ≠ b by have := HBL.out; omega)
 have HSZ3 := Lib.hid (show b < w3.heap.size by rw [hw3, World.size_alloc]; have := HBL.out; omega)
 rw [← hw3] at hbx hrow3 hfa3 hbq
 rw [← hp] at hbx
 rw [← hw3, ← hp]
 clear hw3 hp hfb hfa hf2 hrow hbb x0 x1 x2
 obtain ⟨x0, x1, x2, -⟩ := three_of_heap hbq
 have hst : StL p b g.names.length w3 (List.replicate g.names.length (-1)) := by
  refine ⟨by rw [← HN.out]; exact hbx, by rw [← HN.out]; exact hrow3, by simp, fun v hv => by rw [List.eq_of_mem_replicate hv]; omega⟩
 have hpr := pprop_l p stepL (StL p b g.names.length) g _ [b] (List.replicate g.names.length (-1)) w w3 HG.out hfa3 (fun k hk => by simp at hk; subst hk; exact ⟨HBB.out, HSZ3.out⟩) (ht_l HV.out HPB.out)
  (fun wx wy s h hf => ⟨h.1.kept hf (by simp), h.2.1.below hf, h.2.2⟩) hst
 unfold TK_l at hpr
 rw [← HN.out, ← HN2.out, ← HN3.out] at hpr
 have HPR := Lib.hid hpr
 have HF3 := Lib.hid hfa3
 clear hpr hst hfa3 hbq hrow3 hbx
 go_wp2_with (go_at_call 92; refine HPR.out.mono ?_; rintro e w4 ⟨rfl, ⟨hb4, hrow4, hl4, hok4⟩, hf4⟩; have y0 := hb4.cell)
 go_ret
 unfold lensP
 rw [HN.out] at hrow4 hl4 hok4 ⊢
 exact ⟨b, HBB.out, rfl, hrow4, hl4, hok4, HF3.out.trans hf4 (by simp) (fun i hi hlt => by have := HBB.out; simp at hi; omega)⟩
end Go.Proofs.YtnaamjpiaekmeaaGreat
