/- Several texts in one: CpG, CpH. -/
import Derived.Test.YtjlkcdmeiakkbaaGreatDoorCe
import Derived.Test.YtjlkcdmeiakkbaaGreatDoorCs
import Derived.Test.YtjlkcdmeiakkbaaGreatDoorBs
import Derived.Test.YtjlkcdmeiakkbaaGreatDoorGc
set_option linter.unusedVariables false
set_option linter.unusedSimpArgs false
/-! The program's canonical grammars (layer 16): new numbers; rules rewritten. -/
namespace Go.Proofs.YtjlkcdmeiakkbaaGreatDoor
open Go.RowKit Go.Lib Go.Sort

/-- The box of a slice of numbers. -/
def boxI (w : World) (p : Nat) (v : Value) : Prop := w.heap[p]? = some (.cells #[v] 34 (0, 0))
theorem boxI.cell {w : World} {p : Nat} {v : Value} (h : boxI w p v) : w.cell? ⟨p, 0, none⟩ = some v := by rw [cell_of_heap h]; rfl
/-- Symbols that may be, and places that are small. -/
structure RenOk (qn qt : List Int) : Prop where
  ln : qn.length ≤ 1000
  lt : qt.length ≤ 1000
  vn : ∀ x ∈ qn, 0 ≤ x ∧ x ≤ 500
  vt : ∀ x ∈ qt, 0 ≤ x ∧ x ≤ 500
set_option maxRecDepth 100000 in
set_option maxHeartbeats 1000000 in
theorem pren_any (qn qt : List Int) (hok : RenOk qn qt) (nv tv : Value) (b4 b5 : Nat) (s : Int) (w : World) (h4 : boxI w b4 nv) (h5 : boxI w b5 tv) (hn : intsAt w nv qn) (ht : intsAt w tv qt) (hs : -(qt.length : Int) ≤ s ∧ s < (qn.length : Int)) :
    Calls Tryz.prog 104 #[.int .i64 s, .pointer (some ⟨b5, 0, none⟩), .pointer (some ⟨b4, 0, none⟩)] w fun e w' => e = .returned (.int .i64 (renS qn qt s)) ∧ w' = w := by
  have HT := Lib.hid (fun wx => pterm_same s wx)
  have hln := hok.ln
  have hlt := hok.lt
  have k4 := h4.cell
  have k5 := h5.cell
  clear h4 h5
  by_cases h : s < 0
  · rw [decide_eq_true h] at HT
    have hj : (-1 - s).toNat < qt.length := by omega
    obtain ⟨j, hjj⟩ : ∃ j, j = (-1 - s).toNat := ⟨_, rfl⟩
    rw [← hjj] at hj
    have hjx : -1 - s = (j : Int) := by omega
    obtain ⟨a, c, rfl, -, -⟩ := ht.form
    obtain ⟨b, off, rfl, hc⟩ := int_cell ht j hj
    have hv := hok.vt _ (List.getElem_mem hj)
    have hr : renS qn qt s = -1 - qt[j]'hj := by
      unfold renS
      rw [if_pos h, ← hjj, show qt.getD j 0 = qt[j]'hj by simp [List.getD, List.getElem?_eq_getElem hj]]
    rw [hr]
    obtain ⟨x, hx⟩ : ∃ x, x = qt[j]'hj := ⟨_, rfl⟩
    rw [← hx] at hc hv ⊢
    have hs1 := hs.1
    obtain ⟨n, hn'⟩ : ∃ n, n = qt.length := ⟨_, rfl⟩
    rw [← hn'] at hj k5 hlt hs1
    clear hx hr hjj h hn ht hs hn' hok
    go_enter Tryz.func104, Tryz.ntmps104
    go_wp2_with (go_at_call 91; refine (HT.out _).mono ?_; rintro e w4 ⟨rfl, rfl⟩)
    go_ret
    exact ⟨rfl, rfl⟩
  · rw [decide_eq_false h] at HT
    obtain ⟨j, rfl⟩ : ∃ j : Nat, s = (j : Int) := ⟨s.toNat, by omega⟩
    have hj : j < qn.length := by omega
    obtain ⟨a, c, rfl, -, -⟩ := hn.form
    obtain ⟨b, off, rfl, hc⟩ := int_cell hn j hj
    have hr : renS qn qt (j : Int) = qn[j]'hj := by
      unfold renS
      rw [if_neg h, Int.toNat_natCast, show qn.getD j 0 = qn[j]'hj by simp [List.getD, List.getElem?_eq_getElem hj]]
    rw [hr]
    obtain ⟨x, hx⟩ : ∃ x, x = qn[j]'hj := ⟨_, rfl⟩
    rw [← hx] at hc ⊢
    obtain ⟨n, hn'⟩ : ∃ n, n = qn.length := ⟨_, rfl⟩
    rw [← hn'] at hj k4 hln
    clear hx hr h hn ht hs hn' hok
    go_enter Tryz.func104, Tryz.ntmps104
    go_wp2_with (go_at_call 91; refine (HT.out _).mono ?_; rintro e w4 ⟨rfl, rfl⟩)
    go_ret
    exact ⟨rfl, rfl⟩
end Go.Proofs.YtjlkcdmeiakkbaaGreatDoor

/-! The program's canonical grammars (layer 16): rules rewritten and sorted. -/
namespace Go.Proofs.YtjlkcdmeiakkbaaGreatDoor
open Go.RowKit Go.Lib Go.Sort

def RRw (l : List RuleG) (w : World) (e : Ending) (w' : World) : Prop := ∃ v p, e = .returned v ∧ SortedN l.length (cfR l) p ∧ rulesAt w' v (pickR l p) ∧ Fr [] w w'
theorem ren_ge {qn qt : List Int} (hok : RenOk qn qt) {s : Int} (hs : -(qt.length : Int) ≤ s ∧ s < (qn.length : Int)) : -1000 ≤ renS qn qt s := by
  unfold renS
  split
  · next h =>
    have hj : (-1 - s).toNat < qt.length := by omega
    rw [show qt.getD (-1 - s).toNat 0 = qt[(-1 - s).toNat]'hj by simp [List.getD, List.getElem?_eq_getElem hj]]
    have := hok.vt _ (List.getElem_mem hj)
    omega
  · next h =>
    have hj : s.toNat < qn.length := by omega
    rw [show qn.getD s.toNat 0 = qn[s.toNat]'hj by simp [List.getD, List.getElem?_eq_getElem hj]]
    have := hok.vn _ (List.getElem_mem hj)
    omega
/-- Rules whose symbols may be. -/
def SymsOk (qn qt : List Int) (r : RuleG) : Prop := (0 ≤ r.left ∧ r.left < (qn.length : Int)) ∧ (∀ s ∈ r.right, -(qt.length : Int) ≤ s ∧ s < (qn.length : Int)) ∧ r.right.length ≤ 100000
theorem ren_few {qn qt : List Int} (hok : RenOk qn qt) {rs : List RuleG} (h : ∀ r ∈ rs, SymsOk qn qt r) : ∀ r ∈ rs.map (renR qn qt), FewS r := by
  intro r hr
  obtain ⟨x, hx, rfl⟩ := List.mem_map.1 hr
  intro s hs
  obtain ⟨y, hy, rfl⟩ := List.mem_map.1 hs
  exact ren_ge hok ((h x hx).2.1 y hy)
def zRule : Value × Value := (.int .i64 0, .slice none 0 0)
def pairsR (l : List RuleG) (vs : List Value) : List (Value × Value) := (l.zip vs).map fun p => (intV p.1.left, p.2)
theorem pairs_row {l : List RuleG} {vs : List Value} : flatP (pairsR l vs) = rowR l vs := by
  unfold pairsR rowR
  exact flatP_map _ (fun p : RuleG × Value => intV p.1.left) (fun p => p.2)
/-- The first k rules have been rewritten. -/
def RwAt (w : World) (base b : Nat) (l : List RuleG) (k : Nat) (vs : List Value) : Prop :=
  vs.length = k ∧ rowP w b 36 (pairsR (l.take k) vs ++ List.replicate (l.length - k) zRule) ∧ ∀ i (h : i < vs.length) (h' : i < l.length), intsAt w (vs[i]'h) (l[i]'h').right ∧ (vs[i]'h).ownBlock ≠ some b
def RwRel (w : World) (b : Nat) (l : List RuleG) (iv : Value) (wx : World) : Prop := ∃ k vs, k ≤ l.length ∧ iv = .int .i64 (k : Int) ∧ RwAt wx w.heap.size b l k vs ∧ Fr [] w wx
theorem infoRuleC : (Tryz.prog.info? 36).map (fun i => (i.zero, i.size, i.bytes)) = some (some (.agg #[.int .i64 0, .slice none 0 0]), 2, 32) := by kernel_rfl
theorem pairs_len {l : List RuleG} {vs : List Value} {k : Nat} (h : vs.length = k) (hk : k ≤ l.length) : (pairsR (l.take k) vs).length = k := by
  unfold pairsR
  rw [List.length_map, List.length_zip, List.length_take]
  omega
theorem rows_len {l : List RuleG} {vs : List Value} {k : Nat} (h : vs.length = k) (hk : k ≤ l.length) : (pairsR (l.take k) vs ++ List.replicate (l.length - k) zRule).length = l.length := by
  rw [List.length_append, pairs_len h hk, List.length_replicate]
  omega
theorem pairs_next {l : List RuleG} {vs : List Value} {k : Nat} (h : vs.length = k) (hk : k < l.length) (v : Value) :
    (pairsR (l.take k) vs ++ List.replicate (l.length - k) zRule).set k (intV (l[k]'hk).left, v) = pairsR (l.take (k + 1)) (vs ++ [v]) ++ List.replicate (l.length - (k + 1)) zRule := by
  have hpl := pairs_len (l := l) h (by omega)
  rw [List.set_append_right _ _ (by omega), hpl, Nat.sub_self, show l.length - k = (l.length - (k + 1)) + 1 by omega, List.replicate_succ, List.set_cons_zero]
  have e : pairsR (l.take (k + 1)) (vs ++ [v]) = pairsR (l.take k) vs ++ [(intV (l[k]'hk).left, v)] := by
    unfold pairsR
    rw [List.take_succ_eq_append_getElem hk, List.zip_append (by rw [List.length_take]; omega), List.map_append]
    rfl
  rw [e, List.append_assoc]
  rfl
/-- The numbers of a rule's right side are being filled in. -/
def InRelC (w : World) (bn : Nat) (T : List Value) (iv : Value) (wx : World) : Prop := ∃ j : Nat, j ≤ T.length ∧ iv = .int .i64 (j : Int) ∧ fillAt wx bn 3 (.int .i64 0) T j ∧ Fr [bn] w wx
set_option maxRecDepth 100000 in
set_option maxHeartbeats 4000000 in
theorem prew_any (rs : List RuleG) (qn qt : List Int) (hok : RenOk qn qt) (rv nv tv : Value) (w : World) (hr : rulesAt w rv rs) (hn : intsAt w nv qn) (ht : intsAt w tv qt) (hsym : ∀ r ∈ rs, SymsOk qn qt r) (hlen : rs.length ≤ 100000) :
    Calls Tryz.prog 71 #[rv, nv, tv] w (RRw (rs.map (renR qn qt)) w) := by
  obtain ⟨iI, hiI, hz0, hz1, hz2⟩ := info_parts infoRuleC
  obtain ⟨iS, hiS, hy0, hy1, hy2⟩ := info_parts infoInt
  obtain ⟨a0, c0, rfl, hle, hmx⟩ := hr.form
  obtain ⟨a1, c1, rfl, -, -⟩ := hn.form
  obtain ⟨a2, c2, rfl, -, -⟩ := ht.form
  have hfew := ren_few hok hsym
  obtain ⟨l, hl⟩ : ∃ l, l = rs.map (renR qn qt) := ⟨_, rfl⟩
  have hll : l.length = rs.length := by rw [hl, List.length_map]
  have hlg : ∀ i (h : i < rs.length) (h' : i < l.length), l[i]'h' = renR qn qt (rs[i]'h) := fun i h h' => by simp [hl]
  rw [← hl] at hfew ⊢
  -- the boxes
  have hb4 := heap_alloc_new w (.cells #[.slice a1 qn.length c1] 34)
  have hb5 := heap_alloc_new (w.alloc (.cells #[.slice a1 qn.length c1] 34)) (.cells #[.slice a2 qt.length c2] 34)
  have hf4 := Fr.alloc w (.cells #[.slice a1 qn.length c1] 34)
  have hf5 := Fr.alloc (w.alloc (.cells #[.slice a1 qn.length c1] 34)) (.cells #[.slice a2 qt.length c2] 34)
  obtain ⟨w2, hw2⟩ : ∃ w2, w2 = (w.alloc (.cells #[.slice a1 qn.length c1] 34)).alloc (.cells #[.slice a2 qt.length c2] 34) := ⟨_, rfl⟩
  obtain ⟨q0, hq0⟩ : ∃ q0, q0 = w.heap.size := ⟨_, rfl⟩
  have hb4' := hf5.heap hb4 (by simp)
  have hf2 := hf4.trans hf5 (by simp) (n := []) (by simp)
  rw [World.size_alloc, ← hq0] at hb5
  rw [← hw2] at hb5 hb4' hf2
  rw [← hq0] at hb4'
  have HB4 := Lib.hid (show boxI w2 q0 _ from hb4')
  have HB5 := Lib.hid (show boxI w2 (q0 + 1) _ from hb5)
  have HF2 := Lib.hid hf2
  have HR := Lib.hid (hr.below hf2)
  have HREN := Lib.hid (fun s wx (hf : Fr [] w2 wx) => pren_any qn qt hok _ _ q0 (q0 + 1) s wx (hf.heap HB4.out (by simp)) (hf.heap HB5.out (by simp)) ((hn.below hf2).below hf) ((ht.below hf2).below hf))
  have HSYM := Lib.hid hsym
  have HFEW := Lib.hid hfew
  have HLG := Lib.hid hlg
  have HW2 := Lib.hid hw2
  have HQ0 := Lib.hid hq0
  have HLL := Lib.hid hll
  obtain ⟨n, hnn⟩ : ∃ n, n = rs.length := ⟨_, rfl⟩
  obtain ⟨n1, hn1⟩ : ∃ n, n = qn.length := ⟨_, rfl⟩
  obtain ⟨n2, hn2⟩ : ∃ n, n = qt.length := ⟨_, rfl⟩
  have HN := Lib.hid hnn
  rw [← hnn] at hle hlen HR
  rw [← hn1, ← hn2] at HW2
  rw [← hn1] at HB4
  rw [← hn2] at HB5
  rw [← hnn, ← hn1, ← hn2]
  clear hb4 hb5 hf4 hf5 hb4' hf2 hw2 hq0 hr hn ht hsym hfew hlg hl hll hok hnn hn1 hn2
  go_enter Tryz.func71, Tryz.ntmps71
  go_upto_region 1 with fail
  rw [← HW2.out, ← HQ0.out]
  go_upto_region 3 with (refine wpL_make2 rfl _ _ 23 rfl 36 iI (.agg #[.int .i64 0, .slice none 0 0]) _ _ 32 Tryz.underlying23 hiI hz0 hz1 hz2 (by rfl) n rfl rfl (by omega) (by simp [maxLen]; omega) ?_; intro w3 hh3 hf3 hs3)
  obtain ⟨b, hb⟩ : ∃ b, b = w2.heap.size := ⟨_, rfl⟩
  have HB := Lib.hid (show w2.heap.size ≤ b by omega)
  have HM0 := Lib.hid (show RwAt w3 w2.heap.size w2.heap.size l 0 [] from ⟨rfl, by rw [Nat.sub_zero, HLL.out, ← HN.out]; exact hh3.out, fun i h => by simp at h⟩)
  rw [← hb] at HM0
  rw [← hb]
  have HF3 := Lib.hid hf3
  clear hh3 hf3 hs3 hb
  go_wp2_with fail
  go_loopw [19] (RwRel w2 b l) (fun iv _ => n - (intOf iv).toNat)
  case atStart => exact ⟨0, [], Nat.zero_le _, rfl, HM0.out, HF3.out⟩
  case round =>
    obtain ⟨k, vs, hk, rfl, hm, hf⟩ := hrel
    have HF := Lib.hid hf
    have HM := Lib.hid hm
    have hk2 : k ≤ n := by rw [HN.out, ← HLL.out]; exact hk
    by_cases hkn : k < n
    · have hd1 : decide (k < n) = true := decide_eq_true hkn
      have hkr : k < rs.length := by rw [← HN.out]; exact hkn
      have hkl : k < l.length := by rw [HLL.out]; exact hkr
      obtain ⟨p, off, v, rfl, k0, k1, hv⟩ := rule_cells HR.out k hkr
      have k0 := hf.cell k0 (by simp)
      have k1 := hf.cell k1 (by simp)
      obtain ⟨x, hx⟩ : ∃ x, x = rs[k]'hkr := ⟨_, rfl⟩
      have hsz := HSYM.out _ (List.getElem_mem hkr)
      have hgt := HLG.out k hkr hkl
      rw [← hx] at k0 hv hsz hgt
      obtain ⟨a3, c3, rfl, hle3, hmx3⟩ := hv.form
      have HV := Lib.hid hv
      have HSZ := Lib.hid hsz
      have HGT := Lib.hid hgt
      have hsz3 := hsz.2.2
      obtain ⟨n3, hn3⟩ : ∃ n3, n3 = x.right.length := ⟨_, rfl⟩
      obtain ⟨lf, hlf⟩ : ∃ lf, lf = x.left := ⟨_, rfl⟩
      have HN3 := Lib.hid hn3
      have HLF := Lib.hid hlf
      rw [← hn3] at HV k1 hle3 hsz3
      rw [← hlf] at k0
      clear hx hgt hn3 hlf hv hsz hm hf hk
      go_upto_region 6 with fail
      obtain ⟨w4, hw4⟩ : ∃ w4, w4 = wr.alloc (.cells #[.int .i64 lf, .slice a3 n3 c3] 36) := ⟨_, rfl⟩
      obtain ⟨q4, hq4⟩ : ∃ q, q = wr.heap.size := ⟨_, rfl⟩
      have hb4 := two_of_new wr (.int .i64 lf) (.slice a3 n3 c3) 36
      have hf4 := Fr.alloc wr (.cells #[.int .i64 lf, .slice a3 n3 c3] 36)
      have hz4 : w4.heap.size = q4 + 1 := by rw [hw4, hq4]; simp
      rw [← hw4] at hb4 hf4
      rw [← hq4] at hb4
      rw [← hw4, ← hq4]
      have HQ4 := Lib.hid hq4
      obtain ⟨w5, hw5⟩ : ∃ w5, w5 = w4.drew := ⟨_, rfl⟩
      have hf5 : Fr [] wr w5 := by rw [hw5]; exact hf4.andDrew
      have hb5 : w5.heap[q4]? = some (.cells #[.int .i64 lf, .slice a3 n3 c3] 36 (0, 0)) := by rw [hw5]; exact (Fr.drew w4).heap hb4 (by simp)
      have hz5 : w5.heap.size = q4 + 1 := by rw [hw5]; exact hz4
      have HB5Q := Lib.hid hb5
      have HF5 := Lib.hid hf5
      have HZ5 := Lib.hid hz5
      have hm5 : rowP w5 b 36 (pairsR (l.take k) vs ++ List.replicate (l.length - k) zRule) := HM.out.2.1.below hf5
      have HM5 := Lib.hid hm5
      have hpl := rows_len (l := l) HM.out.1 (show k ≤ l.length by omega)
      have HPL := Lib.hid hpl
      have hql : q0 + 1 < q4 := by rw [HQ4.out]; exact Nat.lt_of_lt_of_le (Array.getElem?_eq_some_iff.1 HB5.out).1 HF.out.size
      have hbq : b < q4 := by rw [HQ4.out]; exact HM.out.2.1.lt
      have HBQ := Lib.hid hbq
      have hren := HREN.out lf
      have HRN := Lib.hid (fun wx (hf : Fr [] w2 wx) => hren wx hf (by have := HSZ.out.1; have := HLF.out; omega))
      obtain ⟨lf', hlf'⟩ : ∃ x, x = renS qn qt lf := ⟨_, rfl⟩
      rw [← hlf'] at HRN
      have HLF' := Lib.hid hlf'
      have HW5 := Lib.hid (HF.out.trans hf5 (by simp) (n := []) (by simp))
      clear hw4 hq4 hb4 hf4 hz4 hb5 hf5 hz5 hm5 hpl hql hbq hren hlf' k0 k1
      refine wp_region_F (Fr [b]) (fun _ => Fr.refl _ _) (fun _ _ _ h k => h.trans k (fun _ hi _ => hi) (fun _ hi _ => hi)) [(0, false), (1, false), (2, false), (3, false), (4, false), (6, false), (7, false), (8, false)] 5 9 [(9, true), (10, false), (11, false), (12, true)] [(5, true), (10, false), (11, false), (12, true)] 59 rfl (by kernel_rfl) (by kernel_rfl) (by kernel_rfl) (fun c a d v w h => by cases d <;> exact h) ?_
      simp only [List.map_cons, List.map_nil, List.getElem?_toArray, List.getElem?_cons_succ, List.getElem?_cons_zero, Option.getD_some]
      rw [← hw5]
      clear hw5
      iterate 8 (apply wpT_t; · (intro w' hf'; obtain ⟨z0, z1, -⟩ := two_cells (hf'.heap HB5Q.out (by have := HBQ.out; simp; omega)); go_wp2_with fail; exact ⟨rfl, rfl⟩))
      refine ⟨?fI, ?fJ⟩
      case' fI =>
        simp only [List.map_cons, List.map_nil, List.getElem?_toArray, List.getElem?_cons_succ, List.getElem?_cons_zero, Option.getD_some]
        refine wpT_x ?_
        go_wp2_with fail
        refine (HRN.out _ HW5.out).mono ?_
        rintro e w6 ⟨rfl, hw6⟩
        have hw6 := hw6.symm
        subst hw6
        go_wp2_with fail
        refine ⟨Fr.refl _ _, rfl, ?_⟩
        refine wpT_x ?_
        go_wp2_with (refine wpL_make rfl _ _ 34 rfl 3 iS (.int .i64 0) 8 Tryz.underlying34 hiS hy0 hy1 hy2 rfl n3 rfl rfl (by omega) (by simp [maxLen]; omega) ?_; intro w6 hh6 hf6 hs6)
        refine ⟨hf6.mono (by simp), rfl, ?_⟩
        rw [HZ5.out] at hh6
        have HH6 := Lib.hid hh6.out
        have HF6 := Lib.hid hf6
        clear hh6 hf6 hs6
      case' fJ =>
        simp only [List.map_cons, List.map_nil, List.getElem?_toArray, List.getElem?_cons_succ, List.getElem?_cons_zero, Option.getD_some]
        refine wpT_x ?_
        go_wp2_with (refine wpL_make rfl _ _ 34 rfl 3 iS (.int .i64 0) 8 Tryz.underlying34 hiS hy0 hy1 hy2 rfl n3 rfl rfl (by omega) (by simp [maxLen]; omega) ?_; intro w6 hh6 hf6 hs6)
        refine ⟨hf6.mono (by simp), rfl, ?_⟩
        rw [HZ5.out] at hh6
        have HH6 := Lib.hid hh6.out
        have HF6 := Lib.hid hf6
        clear hh6 hf6 hs6
        refine wpT_x ?_
        go_wp2_with fail
        refine (HRN.out _ (HW5.out.trans HF6.out (by simp) (n := []) (by simp))).mono ?_
        rintro e w7 ⟨rfl, hw7⟩
        have hw7 := hw7.symm
        subst hw7
        go_wp2_with fail
        refine ⟨Fr.refl _ _, rfl, ?_⟩
      all_goals
        rw [HZ5.out]
        obtain ⟨bn, hbn⟩ : ∃ bn, bn = q4 + 1 := ⟨_, rfl⟩
        rw [← hbn] at HH6 ⊢
        have HBN := Lib.hid hbn
        clear hbn
        iterate 2 (apply wpT_t; · (intro w' hf'; go_wp2_with fail; exact ⟨rfl, rfl⟩))
        refine wpT_x ?_
        have hm6 := HM5.out.below HF6.out
        have f0 := hm6.free (k * 2)
        have f1 := hm6.free (k * 2 + 1)
        obtain ⟨u0, u1⟩ := hm6.get k (by rw [HPL.out]; exact hkl)
        have HM6 := Lib.hid hm6
        clear hm6
        go_wp2_with fail
        have hrow7 := HM6.out.set2 k (by rw [HPL.out]; exact hkl) (.int .i64 lf') (.slice (some ⟨bn, 0, none⟩) n3 n3)
        have hf7 : Fr [b] w6 ((w6.setCell ⟨b, k * 2, none⟩ (.int .i64 lf')).setCell ⟨b, k * 2 + 1, none⟩ (.slice (some ⟨bn, 0, none⟩) n3 n3)) := (Fr.set0 _ _ _ _).trans (Fr.set0 _ _ _ _) (fun _ hi _ => hi) (fun _ hi _ => hi)
        refine ⟨hf7, rfl, ?_⟩
        refine wpT_end ?_
        obtain ⟨w7, hw7⟩ : ∃ w7, w7 = (w6.setCell ⟨b, k * 2, none⟩ (.int .i64 lf')).setCell ⟨b, k * 2 + 1, none⟩ (.slice (some ⟨bn, 0, none⟩) n3 n3) := ⟨_, rfl⟩
        rw [← hw7] at hf7 hrow7 ⊢
        have hbw : w2.heap.size ≤ b := HB.out
        have hfw7 : Fr [] w2 w7 := (HW5.out.trans HF6.out (by simp) (n := []) (by simp)).trans hf7 (by simp) (fun i hi hlt => by simp at hi; omega)
        have hfr7 : Fr [b] wr w7 := (HF5.out.trans HF6.out (by simp) (n := []) (by simp)).trans hf7 (by simp) (fun _ hi _ => hi)
        have hbx7 : w7.heap[q4]? = some (.cells #[.int .i64 lf, .slice a3 n3 c3] 36 (0, 0)) := hf7.heap (HF6.out.heap HB5Q.out (by simp)) (by have := HBQ.out; simp; omega)
        obtain ⟨T, hT⟩ : ∃ T, T = (l[k]'hkl).right.map intV := ⟨_, rfl⟩
        have hTl : T.length = n3 := by rw [hT, List.length_map, HGT.out, HN3.out]; unfold renR; rw [List.length_map]
        have hfill7 : fillAt w7 bn 3 (.int .i64 0) T 0 := fill_kept (fill_zero (l := T) hTl.symm HH6.out) hf7 (by have := HBQ.out; have := HBN.out; simp; omega)
        have HROW7 := Lib.hid hrow7
        have HFW7 := Lib.hid hfw7
        have HFR7 := Lib.hid hfr7
        have HBX7 := Lib.hid hbx7
        have HT := Lib.hid hT
        have HTL := Lib.hid hTl
        have HFL7 := Lib.hid hfill7
        obtain ⟨z0, z1, -⟩ := two_cells hbx7
        clear hf7 hrow7 hw7 hfw7 hfr7 hbx7 hT hTl hfill7 u0 u1 f0 f1
        go_wp2_with fail
        clear z0 z1
        go_loopw [39] (InRelC w7 bn T) (fun iv _ => n3 - (intOf iv).toNat)
        case atStart => exact ⟨0, Nat.zero_le _, rfl, HFL7.out, Fr.refl _ _⟩
        case round =>
          obtain ⟨j, hj, rfl, hfl, hfj⟩ := hrel
          have HFLJ := Lib.hid hfl
          have HFJ := Lib.hid hfj
          have hj2 : j ≤ n3 := by rw [← HTL.out]; exact hj
          have hbnw : w2.heap.size ≤ bn := by have := HBN.out; have := HBQ.out; omega
          have hfx : Fr [] w2 wr := HFW7.out.trans hfj (by simp) (fun i hi hlt => by simp at hi; omega)
          have HFX := Lib.hid hfx
          by_cases hjn : j < n3
          · have hd3 : decide (j < n3) = true := decide_eq_true hjn
            have hjr : j < x.right.length := by rw [← HN3.out]; exact hjn
            have hjT : j < T.length := by rw [HTL.out]; exact hjn
            obtain ⟨_, _, rfl, g0⟩ := int_cell (HV.out.below hfx) j hjr
            have hys := HSZ.out.2.1 _ (List.getElem_mem hjr)
            have hTj : T[j]? = some (intV (renS qn qt (x.right[j]'hjr))) := by
              rw [HT.out, HGT.out]
              unfold renR
              simp only
              rw [List.getElem?_map, List.getElem?_map, List.getElem?_eq_getElem hjr]
              rfl
            obtain ⟨y, hy⟩ : ∃ y, y = x.right[j]'hjr := ⟨_, rfl⟩
            rw [← hy] at g0 hys hTj
            have HRY := Lib.hid (fun wx (hf : Fr [] w2 wx) => HREN.out y wx hf hys)
            obtain ⟨y', hy'⟩ : ∃ y', y' = renS qn qt y := ⟨_, rfl⟩
            rw [← hy'] at HRY hTj
            have HTJ := Lib.hid hTj
            clear hy hy' hys hTj hfl hj
            go_upto_region 10 with fail
            refine wp_region_T (Fr [bn]) (fun _ => Fr.refl _ _) (fun _ _ _ h k => h.trans k (fun _ hi _ => hi) (fun _ hi _ => hi)) [(0, false), (1, false), (2, false), (3, false), (4, false), (5, false), (6, false), (7, false), (8, true), (9, false), (10, true)] 59 rfl (by kernel_rfl) (by kernel_rfl) (by kernel_rfl) (fun c a d v w h => by cases d <;> exact h) ?_
            simp only [List.map_cons, List.map_nil, List.getElem?_toArray, List.getElem?_cons_succ, List.getElem?_cons_zero, Option.getD_some]
            obtain ⟨w8, hw8⟩ : ∃ w8, w8 = wr.drew := ⟨_, rfl⟩
            have hf8 : Fr [bn] w7 w8 := by rw [hw8]; exact hfj.andDrew
            have hx8 : Fr [] w2 w8 := by rw [hw8]; exact hfx.andDrew
            have hl8 : fillAt w8 bn 3 (.int .i64 0) T j := by rw [hw8]; exact fill_below HFLJ.out (Fr.drew _)
            rw [← hw8]
            have HF8 := Lib.hid hf8
            have HX8 := Lib.hid hx8
            have HL8 := Lib.hid hl8
            clear hw8 hf8 hx8 hl8 hfj hfx g0
            have hbb : bn ≠ b := by have := HBN.out; have := HBQ.out; omega
            have HBB := Lib.hid hbb
            clear hbb
            iterate 8 (apply wpT_t; · (intro w' hf'; have hrow := HROW7.out.kept (HF8.out.trans hf' (fun _ hi _ => hi) (n := [bn]) (fun _ hi _ => hi)) (by have := HBB.out; simp; omega); obtain ⟨-, u1⟩ := hrow.get k (by rw [List.length_set, HPL.out]; exact hkl); rw [List.getElem_set_self] at u1; clear hrow; go_wp2_with fail; exact ⟨rfl, rfl⟩))
            refine wpT_x ?_
            go_wp2_with fail
            refine (HRY.out _ HX8.out).mono ?_
            rintro e w9 ⟨rfl, hw9⟩
            have hw9 := hw9.symm
            subst hw9
            go_wp2_with fail
            refine ⟨Fr.refl _ _, rfl, ?_⟩
            apply wpT_t
            · intro w' hf'
              go_wp2_with fail
              exact ⟨rfl, rfl⟩
            refine wpT_x ?_
            have f0 := fill_free HL8.out j
            have g0 := fill_cell HL8.out hjT
            go_wp2_with fail
            refine ⟨Fr.set0 _ _ _ _, rfl, ?_⟩
            refine wpT_end ?_
            clear f0 g0
            go_wp2_with fail
            refine ⟨⟨j + 1, hjT, by go_num, fill_next HL8.out hjT ?_, HF8.out.trans (Fr.set0 _ _ _ _) (fun _ hi _ => hi) (fun _ hi _ => hi)⟩, by simp [intOf]; omega⟩
            have := HTJ.out
            rw [List.getElem?_eq_getElem hjT] at this
            exact (Option.some.inj this).symm
          · have hd3 : decide (j < n3) = false := decide_eq_false hjn
            have hjT : j = T.length := by rw [HTL.out]; omega
            have hend := fill_end hfl hjT (by rw [HTL.out]; simp [maxLen]; omega)
            rw [HTL.out] at hend
            have hbb : bn ≠ b := by have := HBN.out; have := HBQ.out; omega
            have hrw := HROW7.out.kept hfj (by simp; omega)
            rw [show (Value.int .i64 lf' : Value) = intV (l[k]'hkl).left by rw [HGT.out, HLF'.out, HLF.out]; rfl, pairs_next HM.out.1 hkl] at hrw
            have hfrx := HFR7.out.trans hfj (fun _ hi _ => hi) (n := [b]) (fun i hi hlt => by have := HBN.out; have := HQ4.out; simp at hi; omega)
            have hfin : RwAt wr w2.heap.size b l (k + 1) (vs ++ [.slice (some ⟨bn, 0, none⟩) n3 n3]) := by
              refine ⟨by rw [List.length_append, HM.out.1]; rfl, hrw, fun i h h' => ?_⟩
              rcases Nat.lt_or_ge i k with hi | hi
              · have hiv : i < vs.length := by rw [HM.out.1]; exact hi
                rw [List.getElem_append_left hiv]
                obtain ⟨m1, m2⟩ := HM.out.2.2 i hiv h'
                refine ⟨cellsAt.kept m1 hfrx (fun kk e _ _ => ?_), m2⟩
                simp only [List.mem_singleton]
                exact fun e2 => m2 (by rw [e, e2])
              · have hik : i = k := by rw [List.length_append, HM.out.1] at h; simp at h; omega
                subst hik
                have hv : (vs ++ [Value.slice (some ⟨bn, 0, none⟩) n3 n3])[i]'h = .slice (some ⟨bn, 0, none⟩) n3 n3 := by
                  rw [List.getElem_append_right (by rw [HM.out.1]; exact Nat.le_refl _)]
                  simp
                rw [hv]
                refine ⟨?_, ?_⟩
                · unfold intsAt
                  rw [← HT.out]
                  exact hend
                · simp [Value.ownBlock]
                  omega
            have HFIN := Lib.hid hfin
            clear hfl hj hfj hfx hjT hend hbb hrw hfrx hfin
            go_wp2_with fail
            exact ⟨⟨k + 1, _, hkl, by go_num, HFIN.out, HFX.out⟩, by simp [intOf]; omega⟩
    · have hd1 : decide (k < n) = false := decide_eq_false hkn
      have hkl : k = l.length := by rw [HLL.out, ← HN.out]; omega
      have hvs : vs.length = l.length := by rw [HM.out.1]; exact hkl
      have hrow : wr.heap[b]? = some (.cells (rowR l vs).toArray 36 (0, 0)) := by
        have := HM.out.2.1
        rw [hkl, List.take_length, Nat.sub_self, List.replicate_zero, List.append_nil] at this
        unfold rowP at this
        rw [pairs_row] at this
        exact this
      have hsrt := psortR_any l vs hvs (by rw [HLL.out, ← HN.out]; omega) HFEW.out b n 36 wr hrow (by rw [HLL.out, ← HN.out]; exact Nat.le_refl _) (by simp [maxLen]; omega) (fun wx hfx i h h' => by
        obtain ⟨m1, m2⟩ := HM.out.2.2 i h h'
        refine cellsAt.kept m1 hfx (fun kk e _ _ => ?_)
        simp only [List.mem_singleton]
        exact fun e2 => m2 (by rw [e, e2]))
      rw [HLL.out, ← HN.out] at hsrt
      unfold FV_rules at hsrt
      have HSRT := Lib.hid hsrt
      clear hm hf hk hkl hvs hrow hsrt
      go_wp2_with (go_at_call 105; refine HSRT.out.mono ?_; rintro e w9 ⟨rfl, hres⟩)
      go_ret
      obtain ⟨p', hp, hru, hf9⟩ := hres
      exact ⟨_, p', rfl, hp, hru, (HF2.out.trans HF.out (by simp) (n := []) (by simp)).trans hf9 (by simp) (fun i hi hlt => by have := HB.out; have := HF2.out.size; simp at hi; omega)⟩
end Go.Proofs.YtjlkcdmeiakkbaaGreatDoor
