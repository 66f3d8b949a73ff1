/- The document's Resolve (layer 14). -/
import Derived.Test.YtgfpkmnmdehkpaaGreatDt
import Derived.Test.YtgfpkmnmdehkpaaGreatGe
import Derived.Test.YtgfpkmnmdehkpaaGreatGrmA
import Derived.Test.YtgfpkmnmdehkpaaGreatGr
import Derived.Test.YtgfpkmnmdehkpaaGreatRuRow
import Derived.Test.YtgfpkmnmdehkpaaGreatCg
import Derived.Test.YtgfpkmnmdehkpaaGreatBs
set_option linter.unusedVariables false
set_option linter.unusedSimpArgs false
namespace Go.Proofs.YtgfpkmnmdehkpaaGreat
open Go.RowKit

def DrO (w : World) (ls : List LineD) (sv iv : Value) (wx : World) : Prop := ∃ k : Nat, k ≤ ls.length ∧ iv = .int .i64 (k : Int) ∧ sv = .int .i64 (sumA (ls.take k) : Int) ∧ (∀ j (_ : j < k) (h : j < ls.length), altsFit (ls[j]'h) = true) ∧ w = wx
def DrI (w : World) (al : List (List ItemD)) (kv : Value) (wx : World) : Prop := ∃ k : Nat, k ≤ al.length ∧ kv = .int .i64 (k : Int) ∧ (∀ j (_ : j < k) (h : j < al.length), (al[j]'h).length ≤ 64) ∧ w = wx
/-- The first names stand in the grammar that is made. -/
def DrN (w : World) (q : Nat) (N : List (List UInt8)) (iv : Value) (wx : World) : Prop := ∃ (k : Nat) (nv : Value), k ≤ N.length ∧ iv = .int .i64 (k : Int) ∧ wx.heap[q]? = some (.cells #[nv, .slice none 0 0, .slice none 0 0] 25 (0, 0)) ∧ wx.ownsRow w.heap.size 9 1 nv k ((N.take k).map encStr) ∧ (N.take k).Nodup ∧ Fr [q] w wx
/-- What has been made: terminals and rules in the grammar's box; the names stand in an older row. -/
structure DSt (wA : World) (q : Nat) (nv tv rv : Value) (T : List (List UInt8)) (R : List RuleG) (vs : List Value) (wx : World) : Prop where
  obj : wx.heap[q]? = some (.cells #[nv, tv, rv] 25 (0, 0))
  terms : wx.ownsRow wA.heap.size 9 1 tv T.length (T.map encStr)
  rules : RuRow wA.heap.size rv R vs wx
  fr : Fr [q] wA wx
theorem DSt.below {wA : World} {q : Nat} {nv tv rv : Value} {T : List (List UInt8)} {R : List RuleG} {vs : List Value} {wx wy : World} (h : DSt wA q nv tv rv T R vs wx) (hf : Fr [] wx wy) : DSt wA q nv tv rv T R vs wy :=
  ⟨hf.heap h.obj (by simp), owns_kept h.terms hf (by simp), h.rules.below hf, h.fr.trans hf (fun _ z _ => z) (by simp)⟩
def goodI (N : List (List UInt8)) (l : List ItemD) : Prop := ∀ i ∈ l, i.term = false → i.text ∈ N
/-- The outer loop: lines. -/
def DrP (wA : World) (q : Nat) (nv : Value) (N Tf : List (List UInt8)) (ls : List LineD) (iv : Value) (wx : World) : Prop := ∃ (k : Nat) (tv rv : Value) (vs : List Value), k ≤ ls.length ∧ iv = .int .i64 (k : Int) ∧ DSt wA q nv tv rv (termsOf (itemsOf (ls.take k))) (rulesOf N Tf (ls.take k)) vs wx ∧ goodI N (itemsOf (ls.take k))
/-- The middle loop: alternatives of the line k. -/
def DrK (wA : World) (q : Nat) (nv : Value) (N Tf : List (List UInt8)) (T0 : List (List UInt8)) (R0 : List RuleG) (k : Nat) (al : List (List ItemD)) (iv : Value) (wx : World) : Prop := ∃ (m : Nat) (tv rv : Value) (vs : List Value), m ≤ al.length ∧ iv = .int .i64 (m : Int) ∧ DSt wA q nv tv rv ((al.take m).flatten.foldl addT T0) (R0 ++ (al.take m).map fun a => ⟨(k : Int), a.map (symG N Tf)⟩) vs wx ∧ goodI N (al.take m).flatten
/-- The inner loop: items of one alternative; the rules stand as they did, the rule is in a box of its own. -/
def DrJ (wA : World) (q qr : Nat) (nv rv : Value) (N Tf : List (List UInt8)) (T0 : List (List UInt8)) (R : List RuleG) (vs : List Value) (k : Nat) (alt : List ItemD) (iv : Value) (wx : World) : Prop := ∃ (j : Nat) (tv rgv : Value), j ≤ alt.length ∧ iv = .int .i64 (j : Int) ∧ DSt wA q nv tv rv ((alt.take j).foldl addT T0) R vs wx ∧ wx.heap[qr]? = some (.cells #[.int .i64 (k : Int), rgv] 49 (0, 0)) ∧ wx.ownsRow qr 3 1 rgv j (((alt.take j).map (symG N Tf)).map intV) ∧ goodI N (alt.take j)
theorem RuRow.keptLt {base qr : Nat} {rv : Value} {R : List RuleG} {vs : List Value} {wx wy : World} {L : List Nat} (h : RuRow base rv R vs wx) (h1 : ∀ g ∈ rv.ownBlock, g < qr) (h2 : ∀ i (hi : i < vs.length), ∀ g ∈ (vs[i]'hi).ownBlock, g < qr) (hL : ∀ k ∈ L, qr ≤ k) (hf : Fr L wx wy) : RuRow base rv R vs wy :=
  ⟨owns_kept h.rules hf (fun k hk hm => by have := h1 k hk; have := hL k hm; omega), h.vlen, fun i a b => owns_kept (h.right i a b) hf (fun k hk hm => by have := h2 i a k hk; have := hL k hm; omega)⟩
/-- Newer blocks, of no strings, are written. -/
theorem DSt.up {wA : World} {q qr : Nat} {nv tv rv : Value} {T : List (List UInt8)} {R : List RuleG} {vs : List Value} {wx wy : World} {L : List Nat} (h : DSt wA q nv tv rv T R vs wx) (hs : notT wx L 9) (hg : q ∉ L) (h1 : ∀ g ∈ rv.ownBlock, g < qr) (h2 : ∀ i (hi : i < vs.length), ∀ g ∈ (vs[i]'hi).ownBlock, g < qr) (hL : ∀ k ∈ L, qr ≤ k) (hA : wA.heap.size ≤ qr) (hf : Fr L wx wy) : DSt wA q nv tv rv T R vs wy :=
  ⟨hf.heap h.obj hg, owns_keptT h.terms hs hf, h.rules.keptLt h1 h2 hL hf, h.fr.trans hf (fun _ z _ => z) (fun k hk hlt => by have := hL k hk; omega)⟩
/-- One terminal more. -/
theorem DSt.term {wA : World} {q : Nat} {nv tv rv tv' : Value} {T : List (List UInt8)} {R : List RuleG} {vs : List Value} {wx w1 : World} {x : List UInt8} (h : DSt wA q nv tv rv T R vs wx) (hown : w1.ownsRow wA.heap.size 9 1 tv' (T.length + 1) (T.map encStr ++ [encStr x])) (hf : Fr tv.ownBlock.toList wx w1) : DSt wA q nv tv' rv (T ++ [x]) R vs (w1.setCell ⟨q, 1, none⟩ tv') := by
  have hq : q ∉ tv.ownBlock.toList := fun hm => notT_row h.terms (t := 25) (by decide) q hm _ _ _ h.obj rfl
  have hb := hf.heap h.obj hq
  have hset := Fr.set0 w1 q 1 tv'
  refine ⟨heap_setCell_same hb (i := 1) tv', ?_, (h.rules.keptT (notT_row h.terms (by decide)) (notT_row h.terms (by decide)) hf).keptT (notT_box hb (by decide)) (notT_box hb (by decide)) hset, (h.fr.trans hf (fun _ z _ => z) (n := [q]) (fun k hk hlt => ?_)).trans hset (fun _ z _ => z) (fun _ z _ => z)⟩
  · rw [List.length_append, List.map_append]
    exact owns_keptT hown (notT_box hb (by decide)) hset
  · have := (h.terms.lt k (Option.mem_toList.1 hk)).1
    omega
/-- One rule more. -/
theorem DSt.rule {wA : World} {q : Nat} {nv tv rv rv' kv : Value} {T : List (List UInt8)} {R : List RuleG} {vs : List Value} {wx w1 : World} (h : DSt wA q nv tv rv T R vs wx) (r : RuleG) (hk : wx.ownsRow wA.heap.size 3 1 kv r.right.length (r.right.map intV)) (hown : w1.ownsRow wA.heap.size 49 2 rv' (R.length + 1) (ruleVs R vs ++ [intV r.left, kv])) (hf : Fr rv.ownBlock.toList wx w1) : DSt wA q nv tv rv' T (R ++ [r]) (vs ++ [kv]) (w1.setCell ⟨q, 2, none⟩ rv') := by
  have hq : q ∉ rv.ownBlock.toList := fun hm => notT_row h.rules.rules (t := 25) (by decide) q hm _ _ _ h.obj rfl
  have hb := hf.heap h.obj hq
  have hset := Fr.set0 w1 q 2 rv'
  refine ⟨heap_setCell_same hb (i := 2) rv', owns_keptT (owns_keptT h.terms (notT_row h.rules.rules (by decide)) hf) (notT_box hb (by decide)) hset, (RuRow.add h.rules r hk hown hf).keptT (notT_box hb (by decide)) (notT_box hb (by decide)) hset, (h.fr.trans hf (fun _ z _ => z) (n := [q]) (fun k hk hlt => ?_)).trans hset (fun _ z _ => z) (fun _ z _ => z)⟩
  have := (h.rules.rules.lt k (Option.mem_toList.1 hk)).1
  omega
theorem DrJ.step {wA : World} {q qr : Nat} {nv tv rv rgv rgv' iv : Value} {N Tf T1 Tn : List (List UInt8)} {R : List RuleG} {vs : List Value} {k j : Nat} {alt : List ItemD} {y : ItemD} {w7 w8 : World} (hjr : j < alt.length) (hiv : iv = .int .i64 ((j + 1 : Nat) : Int)) (hy : alt.take (j + 1) = alt.take j ++ [y]) (hst : DSt wA q nv tv rv Tn R vs w7) (hTn : Tn = addT ((alt.take j).foldl addT T1) y)
    (hb : w7.heap[qr]? = some (.cells #[.int .i64 (k : Int), rgv] 49 (0, 0))) (hrow : w7.ownsRow qr 3 1 rgv j (((alt.take j).map (symG N Tf)).map intV)) (hg : goodI N (alt.take j)) (hy2 : y.term = false → y.text ∈ N) (h1 : ∀ g ∈ rv.ownBlock, g < qr) (h2 : ∀ i (hi : i < vs.length), ∀ g ∈ (vs[i]'hi).ownBlock, g < qr) (hA : wA.heap.size ≤ qr) (hq : q < qr)
    (hown : w8.ownsRow qr 3 1 rgv' (j + 1) (((alt.take j).map (symG N Tf)).map intV ++ [intV (symG N Tf y)])) (hf : Fr rgv.ownBlock.toList w7 w8) : DrJ wA q qr nv rv N Tf T1 R vs k alt iv (w8.setCell ⟨qr, 1, none⟩ rgv') := by
  have hn : qr ∉ rgv.ownBlock.toList := fun hm => notT_row hrow (t := 49) (by decide) qr hm _ _ _ hb rfl
  have hb8 := hf.heap hb hn
  have hset := Fr.set0 w8 qr 1 rgv'
  have hst8 := hst.up (notT_row hrow (by decide)) (fun hm => notT_row hrow (t := 25) (by decide) q hm _ _ _ hst.obj rfl) h1 h2 (fun k hk => (hrow.lt k (Option.mem_toList.1 hk)).1) hA hf
  have hst9 := hst8.up (L := [qr]) (notT_box hb8 (by decide)) (by simp; omega) h1 h2 (by simp) hA hset
  refine ⟨j + 1, tv, rgv', hjr, hiv, ?_, heap_setCell_same hb8 (i := 1) rgv', ?_, ?_⟩
  · rw [hy, List.foldl_append]
    show DSt wA q nv tv rv (addT _ y) R vs _
    rw [← hTn]
    exact hst9
  · rw [hy, List.map_append, List.map_append]
    exact owns_keptT hown (notT_box hb8 (by decide)) hset
  · rw [hy]
    intro i hi ht
    rcases List.mem_append.1 hi with h | h
    · exact hg i h ht
    · obtain rfl : i = y := by simpa using h
      exact hy2 ht
theorem infoIntD : (Tryz.prog.info? 3).map (fun i => (i.zero, i.size, i.bytes)) = some (some (.int .i64 0), 1, 8) := by kernel_rfl
theorem tf_pre {ls : List LineD} {i k : Nat} (hi : i < ls.length) (hk : k < (ls[i]'hi).alts.length) : ∃ S, termsOf (itemsOf ls) = ((ls[i]'hi).alts[k]'hk).foldl addT (((ls[i]'hi).alts.take k).flatten.foldl addT (termsOf (itemsOf (ls.take i)))) ++ S := by
  obtain ⟨S, hS⟩ := items_pre hi (k + 1)
  rw [flat_next hk] at hS
  have e : termsOf (itemsOf ls) = S.foldl addT (((ls[i]'hi).alts[k]'hk).foldl addT (((ls[i]'hi).alts.take k).flatten.foldl addT (termsOf (itemsOf (ls.take i))))) := by
    unfold termsOf
    rw [hS, List.foldl_append, List.foldl_append, List.foldl_append]
  obtain ⟨S', h'⟩ := acc_pre S (((ls[i]'hi).alts[k]'hk).foldl addT (((ls[i]'hi).alts.take k).flatten.foldl addT (termsOf (itemsOf (ls.take i)))))
  exact ⟨S', e.trans h'⟩
theorem tf_len {ls : List LineD} (hB : ¬ BoundL ls) : (termsOf (itemsOf ls)).length ≤ 262144 := by
  have h1 : ∀ l ∈ ls, ∀ a ∈ l.alts, a.length ≤ 64 := fun l hl a ha => Nat.le_of_not_lt fun q => hB (.inl ⟨l, hl, a, ha, q⟩)
  have h2 : sumA ls ≤ 4096 := Nat.le_of_not_lt fun q => hB (.inr (.inl q))
  have h3 := items_len h1
  have h4 := acc_len (itemsOf ls) []
  unfold termsOf
  simp at h4
  omega
theorem infoStrD : (Tryz.prog.info? 9).map (fun i => (i.zero, i.size, i.bytes)) = some (some (.string ⟨#[]⟩), 1, 16) := by kernel_rfl
theorem take_nodup {N : List (List UInt8)} {k : Nat} (hk : k < N.length) (h : (N.take k).Nodup) (hx : N[k]'hk ∉ N.take k) : (N.take (k + 1)).Nodup := by
  rw [List.take_succ_eq_append_getElem hk, List.nodup_append]
  refine ⟨h, by simp, fun a ha b hb => ?_⟩
  have : b = N[k]'hk := by simpa using hb
  rintro rfl
  exact hx (this ▸ ha)
theorem take_twice {N : List (List UInt8)} {k : Nat} (hk : k < N.length) (hx : N[k]'hk ∈ N.take k) : ¬ N.Nodup := by
  intro h
  obtain ⟨j, hj, e⟩ := List.getElem_of_mem hx
  rw [List.getElem_take] at e
  have hjk : j < k := by rw [List.length_take] at hj; omega
  exact nodup_iff.1 h k hk j hjk e
theorem alts_fit {l : LineD} (h : ∀ j (h : j < l.alts.length), (l.alts[j]'h).length ≤ 64) : altsFit l = true := by
  unfold altsFit
  rw [List.all_eq_true]
  intro a ha
  obtain ⟨j, hj, rfl⟩ := List.getElem_of_mem ha
  exact decide_eq_true (h j hj)
theorem alts_unfit {l : LineD} {j : Nat} (h : j < l.alts.length) (hb : 64 < (l.alts[j]'h).length) : altsFit l = false := by
  unfold altsFit
  rw [Bool.eq_false_iff]
  intro e
  rw [List.all_eq_true] at e
  have := of_decide_eq_true (e _ (List.getElem_mem h))
  omega
theorem lfit_no {ls : List LineD} {k : Nat} (hk : k < ls.length) (h : altsFit (ls[k]'hk) = false) : lfitB ls = false := by
  unfold lfitB
  rw [all_false (l := ls) (p := altsFit) hk h]
  rfl
set_option maxRecDepth 100000 in
set_option maxHeartbeats 8000000 in
theorem rresolve_any (ls : List LineD) (lv : Value) (w : World) (hls : linesAt w lv ls) (hz : SizeL ls) : Calls Tryz.prog 19 #[lv] w (RRes (resolveG ls) w) := by
  obtain ⟨a0, c0, rfl, hle, hmx⟩ := hls.form
  obtain ⟨n, hn⟩ : ∃ n, n = ls.length := ⟨_, rfl⟩
  rw [← hn] at hle
  have hb0 := heap_alloc_new w (.cells #[.slice none 0 0, .slice none 0 0, .slice none 0 0] 25)
  have hf0 := Fr.alloc w (.cells #[.slice none 0 0, .slice none 0 0, .slice none 0 0] 25)
  have hb1 := heap_alloc_new (w.alloc (.cells #[.slice none 0 0, .slice none 0 0, .slice none 0 0] 25)) (.cells #[.slice none 0 0, .slice none 0 0, .slice none 0 0] 25)
  have hf1 := Fr.alloc (w.alloc (.cells #[.slice none 0 0, .slice none 0 0, .slice none 0 0] 25)) (.cells #[.slice none 0 0, .slice none 0 0, .slice none 0 0] 25)
  obtain ⟨w2, hw2⟩ : ∃ w2, w2 = (w.alloc (.cells #[.slice none 0 0, .slice none 0 0, .slice none 0 0] 25)).alloc (.cells #[.slice none 0 0, .slice none 0 0, .slice none 0 0] 25) := ⟨_, rfl⟩
  obtain ⟨q0, hq0⟩ : ∃ q0, q0 = w.heap.size := ⟨_, rfl⟩
  have hb0' := hf1.heap hb0 (by simp)
  have hf2 := hf0.trans hf1 (by simp) (n := []) (by simp)
  rw [World.size_alloc, ← hq0] at hb1
  rw [← hw2] at hb1 hb0' hf2
  rw [← hq0] at hb0'
  have hls2 := hls.below hf2
  rw [← hn] at hls2 ⊢
  have hlb := lfit_bound ls
  obtain ⟨Q, hQ⟩ : ∃ Q, Q = resolveG ls := ⟨_, rfl⟩
  rw [← hQ]
  unfold resolveG at hQ
  rw [hlb] at hQ
  have HN := Lib.hid hn
  have HZ := Lib.hid hz
  have HLS := Lib.hid hls2
  have HB0 := Lib.hid hb0'
  have HB1 := Lib.hid hb1
  have HF2 := Lib.hid hf2
  have HW2 := Lib.hid hw2
  have HQ0 := Lib.hid hq0
  have HQ := Lib.hid hQ
  have HERR := Lib.hid (fun (wx : World) (e : Int) (hfx : Fr [q0 + 1] w2 wx) (hq : Q = ⟨emptyG, e⟩) => show Fr [] w (((wx.setCell ⟨q0, 0, none⟩ (.slice none 0 0)).setCell ⟨q0, 1, none⟩ (.slice none 0 0)).setCell ⟨q0, 2, none⟩ (.slice none 0 0)) ∧ gramAt (((wx.setCell ⟨q0, 0, none⟩ (.slice none 0 0)).setCell ⟨q0, 1, none⟩ (.slice none 0 0)).setCell ⟨q0, 2, none⟩ (.slice none 0 0)) (.agg #[.slice none 0 0, .slice none 0 0, .slice none 0 0]) Q.g ∧ e = Q.err from
    ⟨((hf2.trans hfx (by simp) (n := []) (fun i hi hlt => by simp at hi; omega))).trans (fr_set3 wx q0 _ _ _) (by simp) (fun i hi hlt => by simp at hi; omega), by rw [hq]; exact gram_nil _, by rw [hq]⟩)
  have hzl := hz.lines
  have HL0 := Lib.hid (show linesAt w (.slice a0 n c0) ls from by rw [hn]; exact hls)
  have HFW := Lib.hid (fun wx (hf : Fr [q0 + 1] w2 wx) => show Fr [] w wx from hf2.trans hf (by simp) (n := []) (fun i hi hlt => by simp at hi; omega))
  have HLW := Lib.hid (fun wx (hf : Fr [q0 + 1] w2 wx) => show linesAt wx (.slice a0 n c0) ls from by rw [hn]; exact hls.below (hf2.trans hf (by simp) (n := []) (fun i hi hlt => by simp at hi; omega)))
  obtain ⟨iS, hiS, hs0, hs1, hs2⟩ := info_parts infoStrD
  obtain ⟨iI, hiI, hI0, hI1, hI2⟩ := info_parts infoIntD
  obtain ⟨iR, hiR, hr0, hr1, hr2⟩ := info_parts infoRuleC
  rw [← hn] at hzl
  clear hb0 hb1 hf0 hf1 hb0' hf2 hw2 hq0 hls hls2 hz hn hlb hQ
  go_enter Tryz.func19, Tryz.ntmps19
  go_upto_region 2 with fail
  rw [← HW2.out, ← HQ0.out]
  go_wp2_with fail
  go_loopw [5, 6] (DrO w2 ls) (fun _ iv _ => n - (intOf iv).toNat)
  case atStart => exact ⟨0, Nat.zero_le _, rfl, by simp [sumA], fun j hj => by omega, rfl⟩
  case round =>
    obtain ⟨k, hk, rfl, rfl, hall, rfl⟩ := hrel
    have hk' : k ≤ n := by have := HN.out; omega
    have hsum := sumA_le HZ.out.alts k hk
    have HA := Lib.hid hall
    clear hall
    by_cases hkn : k < n
    · have hd1 : decide (k < n) = true := decide_eq_true hkn
      have hkr : k < ls.length := by have := HN.out; omega
      obtain ⟨p, off, v, rfl, k0, k1, hv⟩ := line_cells HLS.out k hkr
      have hzx := HZ.out.alts _ (List.getElem_mem hkr)
      have hsn := sumA_next hkr
      obtain ⟨x, hx⟩ : ∃ x, x = ls[k]'hkr := ⟨_, rfl⟩
      rw [← hx] at hv hzx hsn
      obtain ⟨a2, c2, rfl, hle2, hmx2⟩ := hv.form
      obtain ⟨m, hm⟩ : ∃ m, m = x.alts.length := ⟨_, rfl⟩
      obtain ⟨s, hs⟩ : ∃ s, s = sumA (ls.take k) := ⟨_, rfl⟩
      have HV := Lib.hid hv
      rw [← hm] at k1 hzx hsn hle2 HV
      rw [← hs] at hsn hsum ⊢
      have HX := Lib.hid hx
      have HSN := Lib.hid hsn
      have HM := Lib.hid hm
      clear hx hsn hm hs hv k0 hk
      go_wp2_with fail
      go_loopw [7] (DrI w2 x.alts) (fun iv _ => m - (intOf iv).toNat)
      case atStart => exact ⟨0, Nat.zero_le _, rfl, fun j hj => by omega, rfl⟩
      case round =>
        obtain ⟨j, hj, rfl, hfit, rfl⟩ := hrel
        have hj' : j ≤ m := by have := HM.out; omega
        have HFIT := Lib.hid hfit
        clear hfit hj
        by_cases hjm : j < m
        · have hd2 : decide (j < m) = true := decide_eq_true hjm
          have hjr : j < x.alts.length := by have := HM.out; omega
          obtain ⟨b3, o3, v3, rfl, g0, hi3⟩ := alt_cells HV.out j hjr
          obtain ⟨a4, c4, rfl, hle4, hmx4⟩ := hi3.form
          obtain ⟨l4, hl4⟩ : ∃ l4, l4 = (x.alts[j]'hjr).length := ⟨_, rfl⟩
          rw [← hl4] at g0 hle4
          have HL4 := Lib.hid hl4
          clear hi3 hl4
          by_cases hb : 64 < l4
          · have hd3 : decide (64 < (l4 : Int)) = true := decide_eq_true (by omega)
            have HQE := Lib.hid (show Q = ⟨emptyG, 19⟩ by
              have hk2 : k < ls.length := by have := HN.out; omega
              rw [HQ.out, lfit_no (k := k) hk2 (by rw [← HX.out]; exact alts_unfit hjr (by rw [← HL4.out]; exact hb))]
              rfl)
            obtain ⟨x0, x1, x2, z0, z1, z2⟩ := three_of_heap HB0.out
            clear hb
            go_wp2_with fail
            have hh := gram_set HB0.out (.slice none 0 0) (.slice none 0 0) (.slice none 0 0)
            obtain ⟨r1, r2, r3⟩ := HERR.out _ 19 (Fr.refl _ _) HQE.out
            exact bodyPost_ret (results_gram rfl _ _ q0 25 #[.slice none 0 0, .slice none 0 0, .slice none 0 0] _ rfl hh Tryz.underlying25 rfl sizeGram _ rfl) rfl ⟨_, by rw [← r3]; rfl, r2, r1⟩
          · have hd3 : decide (64 < (l4 : Int)) = false := decide_eq_false (by omega)
            have HB3 := Lib.hid hb
            clear hb
            go_wp2_with fail
            exact ⟨⟨j + 1, hjr, by go_num, fun i hi hl => by
              by_cases e : i = j
              · subst e; rw [← HL4.out]; have := HB3.out; omega
              · exact HFIT.out i (by omega) hl, rfl⟩, by simp [intOf]; omega⟩
        · have hd2 : decide (j < m) = false := decide_eq_false hjm
          have HAF := Lib.hid (show altsFit x = true from alts_fit fun i hi => HFIT.out i (by have := HM.out; omega) hi)
          go_wp2_with fail
          exact ⟨⟨k + 1, by have := HN.out; omega, by go_num, by rw [HSN.out]; go_num, fun i hi hl => by
            by_cases e : i = k
            · subst e; rw [← HX.out]; exact HAF.out
            · exact HA.out i (by omega) hl, rfl⟩, by simp [intOf]; omega⟩
    · have hd1 : decide (k < n) = false := decide_eq_false hkn
      have hkl : k = ls.length := by have := HN.out; omega
      have hR2 : lfitB ls = (decide (sumA (ls.take k) ≤ 4096) && decide (n ≤ 256)) := by
        unfold lfitB
        rw [all_true (l := ls) (p := altsFit) (fun j hj => HA.out j (by omega) hj), hkl, List.take_length, ← HN.out]; rfl
      obtain ⟨s, hs⟩ : ∃ s, s = sumA (ls.take k) := ⟨_, rfl⟩
      have hsa : s = sumA ls := by rw [hs, hkl, List.take_length]
      rw [← hs] at hR2 hsum ⊢
      have HSA := Lib.hid hsa
      clear hkl hs hsa hk HA
      by_cases c1 : 4096 < s
      · have e1 : decide (4096 < (s : Int)) = true := decide_eq_true (by omega)
        have HQE := Lib.hid (show Q = ⟨emptyG, 19⟩ by rw [HQ.out, hR2, decide_eq_false (by omega)]; rfl)
        obtain ⟨x0, x1, x2, z0, z1, z2⟩ := three_of_heap HB0.out
        clear hR2 c1
        go_wp2_with fail
        have hh := gram_set HB0.out (.slice none 0 0) (.slice none 0 0) (.slice none 0 0)
        obtain ⟨r1, r2, r3⟩ := HERR.out _ 19 (Fr.refl _ _) HQE.out
        exact bodyPost_ret (results_gram rfl _ _ q0 25 #[.slice none 0 0, .slice none 0 0, .slice none 0 0] _ rfl hh Tryz.underlying25 rfl sizeGram _ rfl) rfl ⟨_, by rw [← r3]; rfl, r2, r1⟩
      have e1 : decide (4096 < (s : Int)) = false := decide_eq_false (by omega)
      by_cases c2 : 256 < n
      · have e2 : decide (256 < (n : Int)) = true := decide_eq_true (by omega)
        have HQE := Lib.hid (show Q = ⟨emptyG, 19⟩ by rw [HQ.out, hR2, decide_eq_false (show ¬ n ≤ 256 by omega), Bool.and_false]; rfl)
        obtain ⟨x0, x1, x2, z0, z1, z2⟩ := three_of_heap HB0.out
        clear hR2 c1 c2
        go_wp2_with fail
        have hh := gram_set HB0.out (.slice none 0 0) (.slice none 0 0) (.slice none 0 0)
        obtain ⟨r1, r2, r3⟩ := HERR.out _ 19 (Fr.refl _ _) HQE.out
        exact bodyPost_ret (results_gram rfl _ _ q0 25 #[.slice none 0 0, .slice none 0 0, .slice none 0 0] _ rfl hh Tryz.underlying25 rfl sizeGram _ rfl) rfl ⟨_, by rw [← r3]; rfl, r2, r1⟩
      have e2 : decide (256 < (n : Int)) = false := decide_eq_false (by omega)
      have hfb : lfitB ls = true := by rw [hR2, decide_eq_true (show s ≤ 4096 by omega), decide_eq_true (show n ≤ 256 by omega)]; rfl
      have HNB := Lib.hid (show ¬ BoundL ls from fun h => by have := boolOf_true h; rw [lfit_bound, hfb] at this; cases this)
      obtain ⟨N, hN⟩ : ∃ N, N = ls.map (·.name) := ⟨_, rfl⟩
      have hNl : N.length = n := by rw [hN, List.length_map, HN.out]
      have hQ2 := HQ.out
      rw [hfb, if_neg (by simp), ← hN] at hQ2
      have HQ2 := Lib.hid hQ2
      have HNN := Lib.hid hN
      have HNL := Lib.hid hNl
      have HNX := Lib.hid (show ∀ x ∈ N, x.length ≤ 100000 by rw [hN]; intro x hx; obtain ⟨l, hl, rfl⟩ := List.mem_map.1 hx; exact HZ.out.name l hl)
      have hn256 : n ≤ 256 := by omega
      clear hR2 c1 c2 hfb hN hNl hQ2
      go_wp2_with fail
      go_loopw [8] (DrN w2 (q0 + 1) N) (fun iv _ => n - (intOf iv).toNat)
      case atStart => exact ⟨0, _, Nat.zero_le _, rfl, HB1.out, World.ownsRow_nil _ _ _ _, by simp, Fr.refl _ _⟩
      case round =>
        obtain ⟨i, nv, hi, rfl, hbx, hrow, hnd, hf⟩ := hrel
        have hi2 : i ≤ n := by rw [← HNL.out]; exact hi
        have HF := Lib.hid hf
        have HBX := Lib.hid hbx
        have HROW := Lib.hid hrow
        have HND := Lib.hid hnd
        obtain ⟨an, cn, rfl, hcn, hmn⟩ := owns_slice hrow
        clear hf hrow hnd hi
        by_cases hin : i < n
        · have hd4 : decide (i < n) = true := decide_eq_true hin
          have hir : i < ls.length := by have := HN.out; omega
          have hiN : i < N.length := by rw [HNL.out]; exact hin
          obtain ⟨p, off, v, e0, k0, -, -⟩ := line_cells (HLW.out wr HF.out) i hir
          subst e0
          obtain ⟨x, hx⟩ : ∃ x, x = N[i]'hiN := ⟨_, rfl⟩
          have hxe : (ls[i]'hir).name = x := by rw [hx]; simp only [HNN.out, List.getElem_map]
          obtain ⟨T, hsv⟩ : ∃ T : Array UInt8, Value.string ⟨T⟩ = encStr x := ⟨x.toArray, rfl⟩
          rw [hxe, ← hsv] at k0
          have hfd := fun wx (hfx : Fr [] wr wx) => rfind_any (N.take i) (.slice an i cn) x wx (show strsAt wx (.slice an i cn) (N.take i) from cellsAt_of_owns (by rw [List.length_map, List.length_take, Nat.min_eq_left (by omega)]; exact owns_kept HROW.out hfx (by simp)))
          rw [← hsv] at hfd
          obtain ⟨f, hff⟩ : ∃ f, f = findG (N.take i) x := ⟨_, rfl⟩
          rw [← hff] at hfd
          have HFD := Lib.hid hfd
          have HFF := Lib.hid hff
          have HSV := Lib.hid hsv
          have HX := Lib.hid hx
          have K0 := Lib.hid k0
          obtain ⟨y0, y1, y2, -⟩ := three_of_heap hbx
          clear hxe hsv hfd hff hx hir hbx
          go_upto_region 17 with fail
          clear y0 y1 y2 k0
          refine wp_region_T (Fr []) (fun _ => Fr.refl _ _) (fun _ _ _ h k => h.trans k (fun _ hi _ => hi) (fun _ hi _ => hi)) [(0, false), (1, false), (2, false), (3, false), (4, false), (5, false), (6, false), (7, true), (8, false)] 187 rfl (by kernel_rfl) (by kernel_rfl) (by kernel_rfl) (fun c a d v w h => by cases d <;> exact h) ?_
          simp only [List.map_cons, List.map_nil, List.getElem?_toArray, List.getElem?_cons_succ, List.getElem?_cons_zero, Option.getD_some]
          obtain ⟨w3, hw3⟩ : ∃ w3, w3 = wr.drew := ⟨_, rfl⟩
          have HF3 := Lib.hid (show Fr [] wr w3 by rw [hw3]; exact Fr.drew _)
          rw [← hw3]
          clear hw3
          have HL := Lib.hid (fun wx (hfx : Fr [] w3 wx) => show (wx.heap[q0 + 1]? = some (.cells #[.slice an i cn, .slice none 0 0, .slice none 0 0] 25 (0, 0))) ∧ wx.cell? ⟨p, off + i * 2, none⟩ = some (.string ⟨T⟩) from ⟨(HF3.out.trans hfx (by simp) (n := []) (by simp)).heap HBX.out (by simp), (HF3.out.trans hfx (by simp) (n := []) (by simp)).cell K0.out (by simp)⟩)
          iterate 7 (apply wpT_t; · (intro w' hf'; obtain ⟨e1, k0⟩ := HL.out w' hf'; obtain ⟨y0, y1, y2, -⟩ := three_of_heap e1; clear e1; go_wp2_with fail; exact ⟨rfl, rfl⟩))
          refine wpT_x ?_
          go_wp2_with (go_at_call 34; refine (HFD.out _ HF3.out).mono ?_; rintro e w4 ⟨rfl, hw4⟩; subst hw4)
          refine ⟨Fr.refl _ _, rfl, ?_⟩
          by_cases hm : x ∈ N.take i
          · have hge : 0 ≤ f := by
              obtain ⟨j, hj, e, -⟩ := find_yes hm
              rw [HFF.out, e]
              omega
            have hd5 : decide (f < 0) = false := decide_eq_false (by omega)
            have hd6 : decide (0 ≤ f) = true := decide_eq_true hge
            apply wpT_t
            · (intro w' hf'; go_wp2_with fail; exact ⟨rfl, rfl⟩)
            refine wpT_end ?_
            have HQE := Lib.hid (show Q = ⟨emptyG, 15⟩ by
              rw [HQ2.out, if_pos (boolOf_false (take_twice hiN (by rw [← HX.out]; exact hm)))])
            have HF23 := Lib.hid (HF.out.trans HF3.out (fun _ h _ => h) (n := [q0 + 1]) (by simp))
            have HB3 := Lib.hid (HF23.out.heap HB0.out (by simp))
            obtain ⟨x0, x1, x2, z0, z1, z2⟩ := three_of_heap HB3.out
            clear hm hge
            go_wp2_with fail
            have hh := gram_set HB3.out (.slice none 0 0) (.slice none 0 0) (.slice none 0 0)
            obtain ⟨r1, r2, r3⟩ := HERR.out _ 15 HF23.out HQE.out
            exact bodyPost_ret (results_gram rfl _ _ q0 25 #[.slice none 0 0, .slice none 0 0, .slice none 0 0] _ rfl hh Tryz.underlying25 rfl sizeGram _ rfl) rfl ⟨_, by rw [← r3]; rfl, r2, r1⟩
          · have hlt : f = -1 := by rw [HFF.out]; exact find_no hm
            have hd5 : decide (f < 0) = true := decide_eq_true (by omega)
            have hd6 : decide (0 ≤ f) = false := decide_eq_false (by omega)
            apply wpT_t
            · (intro w' hf'; go_wp2_with fail; exact ⟨rfl, rfl⟩)
            refine wpT_end ?_
            have HNM := Lib.hid hm
            clear hm hlt
            go_upto_region 19 with fail
            have HK2 := Lib.hid (show w2.cell? ⟨p, off + i * 2, none⟩ = some (.string ⟨T⟩) from by
              obtain ⟨p', off', v', e1, k1, -, -⟩ := line_cells HLS.out i (by have := HN.out; omega)
              cases e1
              rw [k1, HSV.out, HX.out]
              simp only [HNN.out, List.getElem_map])
            refine wp_region_Z (Value.slice an i cn).ownBlock.toList 10 [(0, false), (1, false), (2, false), (3, false), (4, false), (5, false), (6, false), (7, true), (8, true), (9, false), (10, true)] 187 rfl (by kernel_rfl) (by kernel_rfl) (by kernel_rfl) (fun c a d v w h => by cases d <;> exact h) (fun w10 hf10 => ?_)
            simp only [List.map_cons, List.map_nil, List.getElem?_toArray, List.getElem?_cons_succ, List.getElem?_cons_zero, Option.getD_some]
            have hf13 := HF3.out.trans hf10 (by simp) (n := []) (by simp)
            have hrow10 := owns_kept HROW.out hf13 (by simp)
            have hbx10 := hf13.heap HBX.out (by simp)
            have hk10 := hf13.cell K0.out (by simp)
            have hqn : q0 + 1 ∉ (Value.slice an i cn).ownBlock.toList := fun hm => notT_row hrow10 (t := 25) (by decide) (q0 + 1) hm _ _ _ hbx10 rfl
            have hpn : p ∉ (Value.slice an i cn).ownBlock.toList := fun hm => by
              have h1 := (hrow10.lt _ (Option.mem_toList.1 hm)).1
              have h2 := World.block_lt_of_cell? w2 _ HK2.out
              simp only at h2
              omega
            have LA : Hid (Later (Value.slice an i cn).ownBlock.toList w10 (fun w' => (w'.heap[q0 + 1]? = some (.cells #[.slice an i cn, .slice none 0 0, .slice none 0 0] 25 (0, 0))) ∧ w'.cell? ⟨p, off + i * 2, none⟩ = some (.string ⟨T⟩))) := Lib.hid (fun w' hf' => ⟨hf'.heap hbx10 hqn, hf'.cell hk10 hpn⟩)
            have HR10 := Lib.hid hrow10
            have HF10 := Lib.hid (HF.out.trans hf13 (fun _ h _ => h) (n := [q0 + 1]) (by simp))
            have HQ2L := Lib.hid (show w2.heap.size ≤ w10.heap.size from HF10.out.size)
            clear hf10 hf13 hrow10 hbx10 hk10 hqn hpn
            iterate 7 (apply walkZ_t; · (intro w' hf'; obtain ⟨e1, k0⟩ := LA.out w' hf'; obtain ⟨y0, y1, y2, -⟩ := three_of_heap e1; clear e1; go_wp2_with fail; exact ⟨rfl, rfl⟩))
            refine walkZ_x ?_
            go_wp2_with fail
            have hfe := Fr.alloc w10 (.cells #[.string ⟨T⟩] 9)
            have HFE := Lib.hid hfe
            refine ⟨hfe.mono (by simp), rfl, ?_⟩
            clear hfe
            refine walkZ_x ?_
            go_wp2_with (at_builtin; refine wpL_appendS rfl _ _ 22 rfl w2.heap.size 9 iS _ 1 16 Tryz.underlying22 hiS hs0 hs1 hs2 (by rfl) (by decide) (.slice an i cn) i _ rfl HR10.out [.string ⟨T⟩] rfl (by intro u hu; simp at hu; subst hu; rfl) rfl (by omega) (by simp [maxLen]; omega) HQ2L.out ?_; intro v11 w11 hown11 hf11 hb11)
            obtain ⟨ar', cr', rfl, hcr', hmr'⟩ := owns_slice hown11
            have hfT : Fr (Value.slice an i cn).ownBlock.toList w10 w11 := HFE.out.trans hf11 (by simp) (fun _ hk _ => hk)
            refine ⟨hf11, rfl, ?_⟩
            have hbx11 := (LA.out w11 hfT).1
            have HOW11 := Lib.hid hown11
            have HFT := Lib.hid hfT
            clear hf11 hown11 hb11 hfT
            apply walkZ_t
            · intro w' hf'
              go_wp2_with fail
              exact ⟨rfl, rfl⟩
            refine walkZ_x ?_
            obtain ⟨z0, z1, z2, f0, f1, f2⟩ := three_of_heap hbx11
            go_wp2_with fail
            refine ⟨rfl, ?_⟩
            refine walkZ_end ?_
            have hbx12 := heap_setCell_same hbx11 (i := 0) (.slice ar' (i + 1) cr')
            have hset := Fr.set0 w11 (q0 + 1) 0 (.slice ar' (i + 1) cr')
            have hrow12 := owns_keptT HOW11.out (notT_box hbx11 (by decide)) hset
            have hf11 := HF10.out.trans HFT.out (fun _ h _ => h) (n := [q0 + 1]) (fun ii hi hlt => by
              have h1 := (HR10.out.lt ii (Option.mem_toList.1 hi)).1
              omega)
            have hf12 := hf11.trans hset (fun _ h _ => h) (n := [q0 + 1]) (fun _ h _ => h)
            have HX12 := Lib.hid hbx12
            have HR12 := Lib.hid hrow12
            have HF12 := Lib.hid hf12
            clear hbx12 hset hrow12 hf11 hf12 hbx11 z0 z1 z2 f0 f1 f2
            go_wp2_with fail
            refine ⟨⟨i + 1, _, hiN, by go_num, HX12.out, ?_, take_nodup hiN HND.out (by rw [← HX.out]; exact HNM.out), HF12.out⟩, by simp [intOf]; omega⟩
            rw [List.take_succ_eq_append_getElem hiN, List.map_append, ← HX.out]
            show World.ownsRow _ _ _ _ _ _ (_ ++ [encStr x])
            rw [← HSV.out]
            exact HR12.out
        · have hd4 : decide (i < n) = false := decide_eq_false hin
          have hil : i = n := by omega
          have hNn : N.take i = N := by rw [hil, ← HNL.out, List.take_length]
          obtain ⟨w3, hw3⟩ : ∃ w3, w3 = wr := ⟨_, rfl⟩
          rw [hNn, ← hw3] at HROW
          rw [hNn] at HND
          rw [← hw3] at HBX HF ⊢
          have HIL := Lib.hid hil
          obtain ⟨NV, hNV⟩ : ∃ NV, NV = Value.slice an i cn := ⟨_, rfl⟩
          have HNM := Lib.hid (fun wx (hf : Fr [q0 + 1] w3 wx) => show wx.ownsRow w2.heap.size 9 1 NV i (N.map encStr) from by rw [hNV]; exact owns_keptT HROW.out (notT_box HBX.out (by decide)) hf)
          rw [← hNV] at HBX
          have HFW3 := Lib.hid (fun wx (hf : Fr [q0 + 1] w3 wx) => show Fr [] w wx from HFW.out wx (HF.out.trans hf (fun _ z _ => z) (fun _ z _ => z)))
          have HG0 := Lib.hid (fun wx (hf : Fr [q0 + 1] w3 wx) => show wx.heap[q0]? = some (.cells #[.slice none 0 0, .slice none 0 0, .slice none 0 0] 25 (0, 0)) from (HF.out.trans hf (fun _ z _ => z) (fun _ z _ => z)).heap HB0.out (by simp))
          have HER3 := Lib.hid (fun wx e (hf : Fr [q0 + 1] w3 wx) => HERR.out wx e (HF.out.trans hf (fun _ z _ => z) (fun _ z _ => z)))
          obtain ⟨Tf, hTf⟩ : ∃ Tf, Tf = termsOf (itemsOf ls) := ⟨_, rfl⟩
          have HTF := Lib.hid hTf
          have hq2 := HQ2.out
          rw [boolOf_true HND.out, if_neg (by simp)] at hq2
          have HQ3 := Lib.hid hq2
          clear hil hNn hw3 hNV hTf hq2 hbx hin HQ HQ2 HLS HLW HROW hcn hmn HW2
          go_wp2_with fail
          go_loopw [9] (DrP w3 (q0 + 1) NV N Tf ls) (fun iv _ => n - (intOf iv).toNat)
          case atStart => exact ⟨0, _, _, [], Nat.zero_le _, rfl, ⟨HBX.out, World.ownsRow_nil _ _ _ _, RuRow.nil _ _, Fr.refl _ _⟩, fun i hi => by simp [itemsOf] at hi⟩
          case round =>
            obtain ⟨i1, tv, rv, vs, hi1, rfl, hst, hgood⟩ := hrel
            have hi1' : i1 ≤ n := by have := HN.out; omega
            have HST := Lib.hid hst
            have HGOOD := Lib.hid hgood
            have HFR := Lib.hid (HFW3.out wr hst.fr)
            clear hst hgood hi1
            by_cases hin : i1 < n
            · have hd5 : decide (i1 < n) = true := decide_eq_true hin
              have hir : i1 < ls.length := by have := HN.out; omega
              obtain ⟨p, off, v, e0, -, k1, hv⟩ := line_cells HL0.out i1 hir
              subst e0
              obtain ⟨x, hx⟩ : ∃ x, x = ls[i1]'hir := ⟨_, rfl⟩
              rw [← hx] at hv
              obtain ⟨a2, c2, rfl, hle2, hmx2⟩ := hv.form
              obtain ⟨m, hm⟩ : ∃ m, m = x.alts.length := ⟨_, rfl⟩
              have HV := Lib.hid hv
              rw [← hm] at k1 hle2 HV
              have HX := Lib.hid hx
              have HM := Lib.hid hm
              have K1 := Lib.hid k1
              clear hx hm hv k1
              go_wp2_with fail
              go_loopw [10] (DrK w3 (q0 + 1) NV N Tf (termsOf (itemsOf (ls.take i1))) (rulesOf N Tf (ls.take i1)) i1 x.alts) (fun iv _ => m - (intOf iv).toNat)
              case atStart => exact ⟨0, _, _, vs, Nat.zero_le _, rfl, by simpa using HST.out, fun i hi => by simp at hi⟩
              case round =>
                obtain ⟨k2, tv2, rv2, vs2, hk2, rfl, hst2, hgood2⟩ := hrel
                have hk2' : k2 ≤ m := by have := HM.out; omega
                have HST2 := Lib.hid hst2
                have HGOOD2 := Lib.hid hgood2
                have HFR2 := Lib.hid (HFW3.out wr hst2.fr)
                have k1 := HFR2.out.cell K1.out (by simp)
                clear hst2 hgood2 hk2
                by_cases hkm : k2 < m
                · have hd6 : decide (k2 < m) = true := decide_eq_true hkm
                  have hkr : k2 < x.alts.length := by have := HM.out; omega
                  obtain ⟨b3, o3, v3, rfl, g0, hi3⟩ := alt_cells HV.out k2 hkr
                  obtain ⟨a4, c4, rfl, hle4, hmx4⟩ := hi3.form
                  obtain ⟨alt, halt⟩ : ∃ alt, alt = x.alts[k2]'hkr := ⟨_, rfl⟩
                  rw [← halt] at g0 hle4 hi3
                  obtain ⟨l4, hl4⟩ : ∃ l4, l4 = alt.length := ⟨_, rfl⟩
                  rw [← hl4] at g0 hle4 hi3
                  have HI3 := Lib.hid hi3
                  have HALT := Lib.hid halt
                  have HL4 := Lib.hid hl4
                  have G0 := Lib.hid g0
                  clear hi3 halt hl4 g0
                  have hpre := tf_pre (ls := ls) (i := i1) (k := k2) (by have := HN.out; omega) (by rw [← HX.out]; exact hkr)
                  simp only [← HX.out, ← HALT.out, ← HTF.out] at hpre
                  obtain ⟨T1, hT1⟩ : ∃ T1, T1 = (x.alts.take k2).flatten.foldl addT (termsOf (itemsOf (ls.take i1))) := ⟨_, rfl⟩
                  obtain ⟨R1, hR1⟩ : ∃ R1, R1 = rulesOf N Tf (ls.take i1) ++ (x.alts.take k2).map fun a => ⟨(i1 : Int), a.map (symG N Tf)⟩ := ⟨_, rfl⟩
                  rw [← hT1] at hpre
                  rw [← hT1, ← hR1] at HST2
                  have HPRE := Lib.hid hpre
                  have HT1 := Lib.hid hT1
                  have HR1 := Lib.hid hR1
                  have hb5 := heap_alloc_new wr (.cells #[.int .i64 (i1 : Int), .slice none 0 0] 49)
                  have hf5 := Fr.alloc wr (.cells #[.int .i64 (i1 : Int), .slice none 0 0] 49)
                  obtain ⟨w5, hw5⟩ : ∃ w5, w5 = wr.alloc (.cells #[.int .i64 (i1 : Int), .slice none 0 0] 49) := ⟨_, rfl⟩
                  obtain ⟨qr, hqr⟩ : ∃ qr, qr = wr.heap.size := ⟨_, rfl⟩
                  rw [← hw5] at hb5 hf5
                  rw [← hqr] at hb5
                  have HB5 := Lib.hid hb5
                  have HST5 := Lib.hid (HST2.out.below hf5)
                  have HQR := Lib.hid (show w3.heap.size ≤ qr from by rw [hqr]; exact HST2.out.fr.size)
                  have HLT1 := Lib.hid (fun g (hg : g ∈ rv2.ownBlock) => show g < qr from by rw [hqr]; exact (HST2.out.rules.rules.lt g hg).2)
                  have HLT2 := Lib.hid (fun i (hi : i < vs2.length) g (hg : g ∈ (vs2[i]'hi).ownBlock) => show g < qr from by rw [hqr]; exact ((HST2.out.rules.right i hi (by rw [← HST2.out.rules.vlen]; exact hi)).lt g hg).2)
                  have HQG := Lib.hid (show q0 + 1 < qr from by rw [hqr]; exact (Array.getElem?_eq_some_iff.1 HST2.out.obj).1)
                  have HW5 := Lib.hid hw5
                  have HQR2 := Lib.hid hqr
                  clear hpre hT1 hR1 hb5 hf5 hw5 hqr
                  go_upto_region 27 with fail
                  rw [← HW5.out, ← HQR2.out]
                  clear k1
                  go_wp2_with fail
                  go_loopw [12] (DrJ w3 (q0 + 1) qr NV rv2 N Tf T1 R1 vs2 i1 alt) (fun iv _ => l4 - (intOf iv).toNat)
                  case atStart => exact ⟨0, _, _, Nat.zero_le _, rfl, HST5.out, HB5.out, World.ownsRow_nil _ _ _ _, fun i hi => by simp at hi⟩
                  case round =>
                    obtain ⟨j, tv3, rgv, hj, rfl, hst3, hbr, hrow3, hgood3⟩ := hrel
                    have hj' : j ≤ l4 := by have := HL4.out; omega
                    have HST3 := Lib.hid hst3
                    have HBR := Lib.hid hbr
                    have HROW3 := Lib.hid hrow3
                    have HGOOD3 := Lib.hid hgood3
                    have HFR3 := Lib.hid (HFW3.out wr hst3.fr)
                    have k1 := HFR3.out.cell K1.out (by simp)
                    have g0 := HFR3.out.cell G0.out (by simp)
                    clear hst3 hbr hrow3 hgood3 hj
                    by_cases hjl : j < l4
                    · have hd7 : decide (j < l4) = true := decide_eq_true hjl
                      have hjr : j < alt.length := by have := HL4.out; omega
                      obtain ⟨b6, o6, rfl, m0, m1⟩ := item_cells HI3.out j hjr
                      have HTK := Lib.hid (show alt.take (j + 1) = alt.take j ++ [alt[j]'hjr] from List.take_succ_eq_append_getElem hjr)
                      obtain ⟨y, hy⟩ : ∃ y, y = alt[j]'hjr := ⟨_, rfl⟩
                      rw [← hy] at m0 m1 HTK
                      have HYM := Lib.hid (show y ∈ alt from by rw [hy]; exact List.getElem_mem hjr)
                      obtain ⟨tb, htb⟩ : ∃ tb, tb = y.term := ⟨_, rfl⟩
                      obtain ⟨TX, htx⟩ : ∃ TX : Array UInt8, Value.string ⟨TX⟩ = encStr y.text := ⟨y.text.toArray, rfl⟩
                      rw [← htb] at m0
                      rw [← htx] at m1
                      have M0 := HFR3.out.cell m0 (by simp)
                      have M1 := HFR3.out.cell m1 (by simp)
                      have HTB := Lib.hid htb
                      have HTX := Lib.hid htx
                      have hb7 := heap_alloc_new wr (.cells #[.bool tb, .string ⟨TX⟩] 76)
                      have hf7 := Fr.alloc wr (.cells #[.bool tb, .string ⟨TX⟩] 76)
                      obtain ⟨w7, hw7⟩ : ∃ w7, w7 = wr.alloc (.cells #[.bool tb, .string ⟨TX⟩] 76) := ⟨_, rfl⟩
                      obtain ⟨q7, hq7⟩ : ∃ q7, q7 = wr.heap.size := ⟨_, rfl⟩
                      rw [← hw7] at hb7 hf7
                      rw [← hq7] at hb7
                      have HB7 := Lib.hid hb7
                      have HST7 := Lib.hid (HST3.out.below hf7)
                      have HBR7 := Lib.hid (hf7.heap HBR.out (by simp))
                      have HROW7 := Lib.hid (owns_kept HROW3.out hf7 (by simp))
                      have HQR7 := Lib.hid (show qr ≤ w7.heap.size from by have := (Array.getElem?_eq_some_iff.1 HBR7.out).1; omega)
                      have HW7 := Lib.hid hw7
                      have HQ7 := Lib.hid hq7
                      clear hy htb htx m0 m1 hb7 hf7 hw7 hq7
                      go_upto_region 31 with fail
                      rw [← HW7.out, ← HQ7.out]
                      clear M0 M1 k1 g0
                      obtain ⟨ar, cr, rfl, hcr, hmr⟩ := owns_slice HROW7.out
                      have HNR := Lib.hid (show qr ∉ (Value.slice ar j cr).ownBlock.toList from fun hm => notT_row HROW7.out (t := 49) (by decide) qr hm _ _ _ HBR7.out rfl)
                      obtain ⟨T3, hT3⟩ : ∃ T3, T3 = (alt.take j).foldl addT T1 := ⟨_, rfl⟩
                      have hpre3 := acc_later HPRE.out j
                      rw [← hT3] at HST7 hpre3
                      have HT3 := Lib.hid hT3
                      have HPRE3 := Lib.hid hpre3
                      have hT3l : T3.length ≤ 262144 := by
                        obtain ⟨S, hS⟩ := hpre3
                        have h1 := tf_len HNB.out
                        rw [← HTF.out, hS, List.length_append] at h1
                        omega
                      obtain ⟨at3, ct3, rfl, hct, hmt⟩ := owns_slice HST7.out.terms
                      obtain ⟨u0, u1, -⟩ := two_of_box2 HB7.out
                      obtain ⟨y0, y1, y2, yf0, yf1, yf2⟩ := three_of_heap HST7.out.obj
                      obtain ⟨r0, r1, rf0, rf1⟩ := two_of_box2 HBR7.out
                      have hjb : j ≤ 100000 := by
                        have h1 := HL4.out
                        have h2 := HZ.out.items x (by rw [HX.out]; exact List.getElem_mem _) alt (by rw [HALT.out]; exact List.getElem_mem _)
                        omega
                      clear hT3 hpre3
                      cases tb with
                      | true =>
                        have hfd := rfind_any T3 (.slice at3 T3.length ct3) y.text w7 (show strsAt w7 (.slice at3 T3.length ct3) T3 from cellsAt_of_owns (by rw [List.length_map]; exact HST7.out.terms))
                        rw [← HTX.out] at hfd
                        obtain ⟨f, hff⟩ : ∃ f, f = findG T3 y.text := ⟨_, rfl⟩
                        rw [← hff] at hfd
                        obtain ⟨lt, hlt⟩ : ∃ lt, lt = T3.length := ⟨_, rfl⟩
                        rw [← hlt] at hfd y1 hT3l
                        have HFD := Lib.hid hfd
                        have HLT := Lib.hid hlt
                        have hsym : symG N Tf y = -1 - findG Tf y.text := by unfold symG; rw [if_pos HTB.out.symm]
                        by_cases hm : y.text ∈ T3
                        · obtain ⟨hr1, hr2⟩ := find_range hm
                          rw [← hff, ← HLT.out] at hr2
                          rw [← hff] at hr1
                          have hd8 : decide (f < 0) = false := decide_eq_false (by omega)
                          have HVAL := Lib.hid (show symG N Tf y = -1 - f from by
                            obtain ⟨S, hS⟩ := HPRE3.out
                            rw [hsym, hS, find_prefix hm, ← hff])
                          have HTN := Lib.hid (show T3 = addT ((alt.take j).foldl addT T1) y from by
                            rw [← HT3.out]
                            unfold addT
                            rw [if_neg (fun h => h.2 hm)])
                          clear hm hsym hff hfd hlt
                          go_wp2_with (first
                            | (at_builtin; refine wpL_appendS rfl _ _ 47 rfl qr 3 iI _ 1 8 Tryz.underlying47 hiI hI0 hI1 hI2 (by rfl) (by decide) (.slice ar j cr) j _ rfl HROW7.out [.int .i64 (-1 - f)] rfl (by intro u hu; simp at hu; subst hu; rfl) rfl (by omega) (by simp [maxLen]; omega) HQR7.out ?_; intro v8 w8 hown8 hf8 hb8; obtain ⟨a8, c8, rfl, hc8, hm8⟩ := owns_slice hown8; have HFT := Lib.hid ((Fr.alloc w7 (.cells [Value.int .i64 (-1 - f)].toArray 3)).trans hf8 (by simp) (n := (Value.slice ar j cr).ownBlock.toList) (fun _ hi _ => hi)); have HOW8 := Lib.hid hown8; have HB8 := Lib.hid (HFT.out.heap HBR7.out HNR.out); obtain ⟨r0, r1, rf0, rf1⟩ := two_of_box2 HB8.out)
                            | (go_at_call 34; refine HFD.out.mono ?_; rintro e w9 ⟨rfl, hw9⟩; subst hw9))
                          exact ⟨DrJ.step hjr (by go_num) HTK.out HST7.out HTN.out HBR7.out HROW7.out HGOOD3.out (fun h => by rw [← HTB.out] at h; cases h) HLT1.out HLT2.out HQR.out HQG.out (by rw [HVAL.out]; exact HOW8.out) HFT.out, by simp [intOf]; omega⟩
                        · have hfn : f = -1 := by rw [hff]; exact find_no hm
                          have hd8 : decide (f < 0) = true := decide_eq_true (by omega)
                          have HTN := Lib.hid (show T3 ++ [y.text] = addT ((alt.take j).foldl addT T1) y from by
                            rw [← HT3.out]
                            unfold addT
                            rw [if_pos ⟨HTB.out.symm, hm⟩])
                          have HVAL := Lib.hid (show symG N Tf y = -1 - (lt : Int) from by
                            obtain ⟨S, hS⟩ := acc_later HPRE.out (j + 1)
                            rw [HTK.out, List.foldl_append] at hS
                            have hS2 : Tf = (T3 ++ [y.text]) ++ S := by rw [HTN.out]; exact hS
                            rw [hsym, hS2, find_prefix (by simp), find_new hm, HLT.out])
                          have HTR7 := Lib.hid (show w7.ownsRow w3.heap.size 9 1 (.slice at3 lt ct3) lt (T3.map encStr) from by rw [HLT.out]; exact HST7.out.terms)
                          have hst7 := HST7.out
                          rw [← HLT.out] at hst7
                          have HST7' := Lib.hid hst7
                          have HNT := Lib.hid (show qr ∉ (Value.slice at3 lt ct3).ownBlock.toList from fun hm => notT_row HTR7.out (t := 49) (by decide) qr hm _ _ _ HBR7.out rfl)
                          have HNG := Lib.hid (show q0 + 1 ∉ (Value.slice at3 lt ct3).ownBlock.toList from fun hm => notT_row HTR7.out (t := 25) (by decide) (q0 + 1) hm _ _ _ hst7.obj rfl)
                          have HW37 := Lib.hid (show w3.heap.size ≤ w7.heap.size from hst7.fr.size)
                          clear hm hsym hff hfd hlt hfn hst7
                          go_upto_region 36 with (first
                            | (at_builtin; refine wpL_appendS rfl _ _ 22 rfl w3.heap.size 9 iS _ 1 16 Tryz.underlying22 hiS hs0 hs1 hs2 (by rfl) (by decide) (.slice at3 lt ct3) lt _ rfl HTR7.out [.string ⟨TX⟩] rfl (by intro u hu; simp at hu; subst hu; rfl) rfl (by omega) (by simp [maxLen]; omega) HW37.out ?_; intro v8 w8 hown8 hf8 hb8; obtain ⟨a8, c8, rfl, hc8, hm8⟩ := owns_slice hown8; have HFS := Lib.hid ((Fr.alloc w7 (.cells [Value.string ⟨TX⟩].toArray 9)).trans hf8 (by simp) (n := (Value.slice at3 lt ct3).ownBlock.toList) (fun _ hi _ => hi)); have HOS := Lib.hid hown8; have HG8 := Lib.hid (HFS.out.heap HST7'.out.obj HNG.out); obtain ⟨y0, y1, y2, yf0, yf1, yf2⟩ := three_of_heap HG8.out)
                            | (go_at_call 34; refine HFD.out.mono ?_; rintro e w9 ⟨rfl, hw9⟩; subst hw9))
                          have hst9 := HST7'.out.term (x := y.text) (tv' := .slice a8 (lt + 1) c8) (by rw [← HLT.out, ← HTX.out]; exact HOS.out) HFS.out
                          have hset := Fr.set0 w8 (q0 + 1) 1 (.slice a8 (lt + 1) c8)
                          obtain ⟨w9, hw9⟩ : ∃ w9, w9 = w8.setCell ⟨q0 + 1, 1, none⟩ (.slice a8 (lt + 1) c8) := ⟨_, rfl⟩
                          rw [← hw9] at hst9 hset
                          rw [← hw9]
                          have HST9 := Lib.hid hst9
                          have HBR9 := Lib.hid (hset.heap (HFS.out.heap HBR7.out HNT.out) (by have := HQG.out; simp; omega))
                          have HROW9 := Lib.hid (owns_keptT (owns_keptT HROW7.out (notT_row HTR7.out (by decide)) HFS.out) (notT_box HG8.out (by decide)) hset)
                          have HQR9 := Lib.hid (show qr ≤ w9.heap.size from by have := (Array.getElem?_eq_some_iff.1 HBR9.out).1; omega)
                          clear hst9 hset hw9
                          obtain ⟨r0, r1, rf0, rf1⟩ := two_of_box2 HBR9.out
                          go_wp2_with (at_builtin; refine wpL_appendS rfl _ _ 47 rfl qr 3 iI _ 1 8 Tryz.underlying47 hiI hI0 hI1 hI2 (by rfl) (by decide) (.slice ar j cr) j _ rfl HROW9.out [.int .i64 (-1 - (lt : Int))] rfl (by intro u hu; simp at hu; subst hu; rfl) rfl (by omega) (by simp [maxLen]; omega) HQR9.out ?_; intro v10 w10 hown10 hf10 hb10; obtain ⟨a8, c8, rfl, hc8, hm8⟩ := owns_slice hown10; have HFT := Lib.hid ((Fr.alloc w9 (.cells [Value.int .i64 (-1 - (lt : Int))].toArray 3)).trans hf10 (by simp) (n := (Value.slice ar j cr).ownBlock.toList) (fun _ hi _ => hi)); have HOW8 := Lib.hid hown10; have HB8 := Lib.hid (HFT.out.heap HBR9.out HNR.out); obtain ⟨r0, r1, rf0, rf1⟩ := two_of_box2 HB8.out)
                          exact ⟨DrJ.step hjr (by go_num) HTK.out HST9.out HTN.out HBR9.out HROW9.out HGOOD3.out (fun h => by rw [← HTB.out] at h; cases h) HLT1.out HLT2.out HQR.out HQG.out (by rw [HVAL.out]; exact HOW8.out) HFT.out, by simp [intOf]; omega⟩
                      | false =>
                        have hfd := rfind_any N NV y.text w7 (show strsAt w7 NV N from cellsAt_of_owns (by rw [List.length_map, HNL.out, ← HIL.out]; exact HNM.out w7 HST7.out.fr))
                        rw [← HTX.out] at hfd
                        obtain ⟨f, hff⟩ : ∃ f, f = findG N y.text := ⟨_, rfl⟩
                        rw [← hff] at hfd
                        have HFD := Lib.hid hfd
                        have hsym : symG N Tf y = f := by unfold symG; rw [if_neg (by rw [← HTB.out]; simp), hff]
                        by_cases hm : y.text ∈ N
                        · obtain ⟨hg1, hg2⟩ := find_range hm
                          rw [← hff, HNL.out] at hg2
                          rw [← hff] at hg1
                          have hd8 : decide (f < 0) = false := decide_eq_false (by omega)
                          have HVAL := Lib.hid hsym
                          have HMN := Lib.hid hm
                          have HTN := Lib.hid (show T3 = addT ((alt.take j).foldl addT T1) y from by
                            rw [← HT3.out]
                            unfold addT
                            rw [if_neg (fun h => by rw [← HTB.out] at h; cases h.1)])
                          clear hm hsym hff hfd
                          go_wp2_with (first
                            | (at_builtin; refine wpL_appendS rfl _ _ 47 rfl qr 3 iI _ 1 8 Tryz.underlying47 hiI hI0 hI1 hI2 (by rfl) (by decide) (.slice ar j cr) j _ rfl HROW7.out [.int .i64 f] rfl (by intro u hu; simp at hu; subst hu; rfl) rfl (by omega) (by simp [maxLen]; omega) HQR7.out ?_; intro v8 w8 hown8 hf8 hb8; obtain ⟨a8, c8, rfl, hc8, hm8⟩ := owns_slice hown8; have HFT := Lib.hid ((Fr.alloc w7 (.cells [Value.int .i64 f].toArray 3)).trans hf8 (by simp) (n := (Value.slice ar j cr).ownBlock.toList) (fun _ hi _ => hi)); have HOW8 := Lib.hid hown8; have HB8 := Lib.hid (HFT.out.heap HBR7.out HNR.out); obtain ⟨r0, r1, rf0, rf1⟩ := two_of_box2 HB8.out)
                            | (go_at_call 34; refine HFD.out.mono ?_; rintro e w9 ⟨rfl, hw9⟩; subst hw9))
                          exact ⟨DrJ.step hjr (by go_num) HTK.out HST7.out HTN.out HBR7.out HROW7.out HGOOD3.out (fun _ => HMN.out) HLT1.out HLT2.out HQR.out HQG.out (by rw [HVAL.out]; exact HOW8.out) HFT.out, by simp [intOf]; omega⟩
                        · have hfn : f = -1 := by rw [hff]; exact find_no hm
                          have hd8 : decide (f < 0) = true := decide_eq_true (by omega)
                          have HQE := Lib.hid (show Q = ⟨emptyG, 16⟩ by
                            rw [HQ3.out, if_pos (boolOf_true ⟨y, items_mem.2 ⟨x, by rw [HX.out]; exact List.getElem_mem _, alt, by rw [HALT.out]; exact List.getElem_mem _, HYM.out⟩, HTB.out.symm, by rw [← HNN.out]; exact hm⟩)])
                          have HG07 := Lib.hid (HG0.out w7 HST7.out.fr)
                          obtain ⟨x0, x1, x2, z0, z1, z2⟩ := three_of_heap HG07.out
                          clear hm hsym hff hfd hfn
                          go_wp2_with (go_at_call 34; refine HFD.out.mono ?_; rintro e w9 ⟨rfl, hw9⟩; subst hw9)
                          have hh := gram_set HG07.out (.slice none 0 0) (.slice none 0 0) (.slice none 0 0)
                          obtain ⟨r1, r2, r3⟩ := HER3.out _ 16 HST7.out.fr HQE.out
                          exact bodyPost_ret (results_gram rfl _ _ q0 25 #[.slice none 0 0, .slice none 0 0, .slice none 0 0] _ rfl hh Tryz.underlying25 rfl sizeGram _ rfl) rfl ⟨_, by rw [← r3]; rfl, r2, r1⟩
                    · have hd7 : decide (j < l4) = false := decide_eq_false hjl
                      have hjl2 : j = alt.length := by have := HL4.out; omega
                      have hta : alt.take j = alt := by rw [hjl2, List.take_length]
                      rw [hta] at HST3 HROW3 HGOOD3
                      obtain ⟨ar, cr, rfl, hcr, hmr⟩ := owns_slice HROW3.out
                      obtain ⟨av, cv, e1, hcv, hmv⟩ := owns_slice HST3.out.rules.rules
                      subst e1
                      have hRl : R1.length ≤ 200000 := by
                        have h1 := HR1.out
                        have h2 := rulesUp_len N Tf ls i1 (by have := HN.out; omega)
                        have h3 := sumA_mono (ls := ls) i1
                        have h4 : sumA ls ≤ 4096 := Nat.le_of_not_lt fun q => HNB.out (.inr (.inl q))
                        have h5 := HZ.out.alts x (by rw [HX.out]; exact List.getElem_mem _)
                        rw [h1, List.length_append, List.length_map, List.length_take]
                        omega
                      have HKR := Lib.hid (show wr.ownsRow w3.heap.size 3 1 (.slice ar j cr) (alt.map (symG N Tf)).length ((alt.map (symG N Tf)).map intV) from by
                        rw [List.length_map, ← hjl2]
                        exact owns_base HROW3.out (fun jx hjx => Nat.le_trans HQR.out (HROW3.out.lt jx hjx).1))
                      have HW3R := Lib.hid (show w3.heap.size ≤ wr.heap.size from HST3.out.fr.size)
                      have hrules := HST3.out.rules.rules
                      obtain ⟨lr, hlr⟩ : ∃ lr, lr = R1.length := ⟨_, rfl⟩
                      have hst3 := HST3.out
                      rw [← hlr] at hrules hst3 hRl
                      have HSTL := Lib.hid hst3
                      have HLR := Lib.hid hlr
                      have HRU := Lib.hid hrules
                      have HNG := Lib.hid (show q0 + 1 ∉ (Value.slice av lr cv).ownBlock.toList from fun hm => notT_row hrules (t := 25) (by decide) (q0 + 1) hm _ _ _ hst3.obj rfl)
                      obtain ⟨y0, y1, y2, yf0, yf1, yf2⟩ := three_of_heap hst3.obj
                      obtain ⟨r0, r1, rf0, rf1⟩ := two_of_box2 HBR.out
                      clear hjl hjl2 hta hst3 hrules hlr
                      go_wp2_with (at_builtin; refine wpL_appendS rfl _ _ 23 rfl w3.heap.size 49 iR _ 2 32 Tryz.underlying23 hiR hr0 hr1 hr2 (by rfl) (by decide) (.slice av lr cv) lr _ rfl HRU.out [.int .i64 (i1 : Int), .slice ar j cr] rfl (by intro u hu; simp at hu; rcases hu with rfl | rfl <;> rfl) rfl (by omega) (by simp [maxLen]; omega) HW3R.out ?_; intro v8 w8 hown8 hf8 hb8; obtain ⟨a8, c8, rfl, hc8, hm8⟩ := owns_slice hown8; have HFT := Lib.hid ((Fr.alloc wr (.cells [Value.int .i64 (i1 : Int), .slice ar j cr].toArray 49)).trans hf8 (by simp) (n := (Value.slice av lr cv).ownBlock.toList) (fun _ hi _ => hi)); have HOW8 := Lib.hid hown8; have HG8 := Lib.hid (HFT.out.heap HSTL.out.obj HNG.out); obtain ⟨y0, y1, y2, yf0, yf1, yf2⟩ := three_of_heap HG8.out)
                      have hst9 := HSTL.out.rule ⟨(i1 : Int), alt.map (symG N Tf)⟩ (rv' := .slice a8 (lr + 1) c8) HKR.out (by rw [← HLR.out]; exact HOW8.out) HFT.out
                      have hkr2 : k2 < x.alts.length := by have := HM.out; omega
                      refine ⟨⟨k2 + 1, tv3, .slice a8 (lr + 1) c8, vs2 ++ [.slice ar j cr], hkr2, by go_num, ?_, ?_⟩, by simp [intOf]; omega⟩
                      · rw [flat_next hkr2, ← HALT.out, List.foldl_append, ← HT1.out, List.take_succ_eq_append_getElem hkr2, List.map_append, ← List.append_assoc, ← HR1.out, ← HALT.out]
                        exact hst9
                      · rw [flat_next hkr2, ← HALT.out]
                        intro z hz ht
                        rcases List.mem_append.1 hz with h | h
                        · exact HGOOD2.out z h ht
                        · exact HGOOD3.out z h ht
                · have hd6 : decide (k2 < m) = false := decide_eq_false hkm
                  have hkl : x.alts.take k2 = x.alts := List.take_of_length_le (by have := HM.out; omega)
                  rw [hkl] at HST2 HGOOD2
                  have hir2 : i1 < ls.length := by have := HN.out; omega
                  have HIR2 := Lib.hid hir2
                  clear hkm hkl
                  go_wp2_with fail
                  refine ⟨⟨i1 + 1, tv2, rv2, vs2, HIR2.out, by go_num, ?_, ?_⟩, by simp [intOf]; omega⟩
                  · rw [itemsOf_next HIR2.out, rulesOf_next N Tf HIR2.out, ← HX.out]
                    unfold termsOf
                    rw [List.foldl_append]
                    exact HST2.out
                  · rw [itemsOf_next HIR2.out, ← HX.out]
                    intro z hz ht
                    rcases List.mem_append.1 hz with h | h
                    · exact HGOOD.out z h ht
                    · exact HGOOD2.out z h ht
            · have hd5 : decide (i1 < n) = false := decide_eq_false hin
              have hil2 : ls.take i1 = ls := List.take_of_length_le (by have := HN.out; omega)
              rw [hil2, ← HTF.out] at HST
              rw [hil2] at HGOOD
              have hnu : ¬ UndefL ls := by
                rintro ⟨z, hz, ht, hx⟩
                exact hx (by rw [← HNN.out]; exact HGOOD.out z hz ht)
              have hq3 := HQ3.out
              rw [boolOf_false hnu, if_neg (by simp)] at hq3
              have hgo : gramOf ls = ⟨N, Tf, rulesOf N Tf ls⟩ := by unfold gramOf; rw [← HNN.out, ← HTF.out]
              rw [hgo] at hq3
              simp only at hq3
              have hTl : Tf.length ≤ 262144 := by rw [HTF.out]; exact tf_len HNB.out
              obtain ⟨lt, hlt⟩ : ∃ lt, lt = Tf.length := ⟨_, rfl⟩
              rw [HNL.out, ← hlt] at hq3
              rw [← hlt] at hTl
              obtain ⟨at3, ct3, e1, hct, hmt⟩ := owns_slice HST.out.terms
              rw [← hlt] at e1
              subst e1
              have HLTT := Lib.hid hlt
              obtain ⟨av, cv, e2, -, -⟩ := owns_slice HST.out.rules.rules
              obtain ⟨lr, hlr⟩ : ∃ lr, lr = (rulesOf N Tf ls).length := ⟨_, rfl⟩
              rw [← hlr] at e2
              subst e2
              clear hlr
              have hgl := HG0.out wr HST.out.fr
              obtain ⟨x0, x1, x2, z0, z1, z2⟩ := three_of_heap hgl
              obtain ⟨y0, y1, y2, -⟩ := three_of_heap HST.out.obj
              have HGL := Lib.hid hgl
              obtain ⟨an, cn, hnv, -, -⟩ := owns_slice (HNM.out w3 (Fr.refl _ _))
              rw [show i = n from HIL.out] at hnv
              subst hnv
              clear hin hil2 hnu hgo hlt hgl
              by_cases c3 : 256 < n + lt
              · have hd6 : decide (256 < (n : Int) + (lt : Int)) = true := decide_eq_true (by omega)
                have HQE := Lib.hid (show Q = ⟨emptyG, 19⟩ by rw [hq3, if_pos c3])
                clear hq3 c3
                go_wp2_with fail
                have hh := gram_set HGL.out (.slice none 0 0) (.slice none 0 0) (.slice none 0 0)
                obtain ⟨r1, r2, r3⟩ := HER3.out _ 19 HST.out.fr HQE.out
                exact bodyPost_ret (results_gram rfl _ _ q0 25 #[.slice none 0 0, .slice none 0 0, .slice none 0 0] _ rfl hh Tryz.underlying25 rfl sizeGram _ rfl) rfl ⟨_, by rw [← r3]; rfl, r2, r1⟩
              · have hd6 : decide (256 < (n : Int) + (lt : Int)) = false := decide_eq_false (by omega)
                rw [if_neg c3] at hq3
                have htw := rtwice_any (rulesOf N Tf ls) (.slice av lr cv) wr HST.out.rules.at
                cases htb : twiceB (rulesOf N Tf ls) with
                | true =>
                  rw [htb] at htw
                  have HTW := Lib.hid htw
                  have HQE := Lib.hid (show Q = ⟨emptyG, 15⟩ by
                    rw [hq3, if_pos (by unfold twiceB at htb; exact boolOf_false (of_boolOf htb))])
                  clear hq3 c3 htb htw x0 x1 x2 z0 z1 z2
                  go_wp2_with (go_at_call 36; refine HTW.out.mono ?_; rintro e w6 ⟨rfl, hf6⟩; have HF6 := Lib.hid hf6; have HG6 := Lib.hid (hf6.heap HGL.out (by simp)); obtain ⟨x0, x1, x2, z0, z1, z2⟩ := three_of_heap HG6.out)
                  have hh := gram_set HG6.out (.slice none 0 0) (.slice none 0 0) (.slice none 0 0)
                  obtain ⟨r1, r2, r3⟩ := HER3.out _ 15 (HST.out.fr.trans HF6.out (fun _ z _ => z) (by simp)) HQE.out
                  exact bodyPost_ret (results_gram rfl _ _ q0 25 #[.slice none 0 0, .slice none 0 0, .slice none 0 0] _ rfl hh Tryz.underlying25 rfl sizeGram _ rfl) rfl ⟨_, by rw [← r3]; rfl, r2, r1⟩
                | false =>
                  rw [htb] at htw
                  have HTW := Lib.hid htw
                  have HQE := Lib.hid (show Q = ⟨⟨N, Tf, rulesOf N Tf ls⟩, 0⟩ by
                    rw [hq3, if_neg (by unfold twiceB at htb; rw [boolOf_true (Classical.byContradiction fun q => by rw [boolOf_true q] at htb; cases htb)]; simp)])
                  clear hq3 c3 htb htw x0 x1 x2 z0 z1 z2 y0 y1 y2
                  obtain ⟨y0, y1, y2, -⟩ := three_of_heap HST.out.obj
                  go_wp2_with (go_at_call 36; refine HTW.out.mono ?_; rintro e w6 ⟨rfl, hf6⟩; have HF6 := Lib.hid hf6; have HG6 := Lib.hid (hf6.heap HGL.out (by simp)); have HS6 := Lib.hid (HST.out.below hf6); obtain ⟨x0, x1, x2, z0, z1, z2⟩ := three_of_heap HG6.out; obtain ⟨y0, y1, y2, -⟩ := three_of_heap HS6.out.obj)
                  have hset := fr_set3 w6 q0 (.slice an n cn) (.slice at3 lt ct3) (.slice av lr cv)
                  have hh := gram_set HG6.out (.slice an n cn) (.slice at3 lt ct3) (.slice av lr cv)
                  have hfr6 := HST.out.fr.trans HF6.out (fun _ z _ => z) (n := [q0 + 1]) (by simp)
                  have hnm := owns_keptT (HNM.out w6 hfr6) (notT_box HG6.out (by decide)) hset
                  have htr := owns_keptT HS6.out.terms (notT_box HG6.out (by decide)) hset
                  have hru := HS6.out.rules.keptT (notT_box HG6.out (by decide)) (notT_box HG6.out (by decide)) hset
                  refine bodyPost_ret (results_gram rfl _ _ q0 25 #[.slice an n cn, .slice at3 lt ct3, .slice av lr cv] _ rfl hh Tryz.underlying25 rfl sizeGram _ rfl) rfl ⟨_, by rw [HQE.out]; rfl, ?_, ?_⟩
                  · rw [HQE.out]
                    refine ⟨_, _, _, rfl, ?_, ?_, hru.at⟩
                    · rw [show i = (N.map encStr).length by rw [List.length_map, HNL.out]; exact HIL.out] at hnm
                      exact cellsAt_of_owns hnm
                    · exact cellsAt_of_owns (by rw [List.length_map]; exact htr)
                  · exact (HFW3.out w6 hfr6).trans hset (by simp) (fun ii hi hlt => by have := HQ0.out; simp at hi; omega)
end Go.Proofs.YtgfpkmnmdehkpaaGreat
