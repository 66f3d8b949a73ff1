/- The program's first sets (layer 20): a search that has found nothing. -/
import Derived.Test.YtmcekpgmebanaaaSm
import Derived.Test.YtmcekpgmebanaaaBs
import Derived.Test.YtmcekpgmebanaaaGa
import Derived.Test.YtmcekpgmebanaaaFo
set_option linter.unusedVariables false
set_option linter.unusedSimpArgs false
namespace Go.Proofs.Ytmcekpgmebanaaa
open Go.RowKit

theorem infoStrs : (Try.prog.info? 22).map (fun i => (i.zero, i.size, i.bytes)) = some (some (.slice none 0 0), 1, 24) := by kernel_rfl
theorem infoInts : (Try.prog.info? 39).map (fun i => (i.zero, i.size, i.bytes)) = some (some (.slice none 0 0), 1, 24) := by kernel_rfl
/-- What each maker makes. -/
def NsG (W n1 n3 : Nat) (i : Nat) (v : Value) (w : World) : Prop :=
  (i = 5 ∧ ∃ b, v = .slice (some ⟨b, 0, none⟩) n1 n1 ∧ W ≤ b ∧ w.heap[b]? = some (.cells (List.replicate n1 (Value.slice none 0 0)).toArray 22 (0, 0))) ∨
  ((i = 9 ∨ i = 13) ∧ ∃ b, v = .slice (some ⟨b, 0, none⟩) n1 n1 ∧ W ≤ b ∧ w.heap[b]? = some (.cells (List.replicate n1 (Value.slice none 0 0)).toArray 39 (0, 0))) ∨
  (i = 14 ∧ ∃ b, v = .slice (some ⟨b, 0, none⟩) 1 1 ∧ W ≤ b ∧ boolRow w b [true]) ∨
  (i = 18 ∧ ∃ b, v = .slice (some ⟨b, 0, none⟩) n3 n3 ∧ W ≤ b ∧ boolRow w b (List.replicate n3 true))
def NsX (v u : Value) : Prop := ∀ k, v.ownBlock = some k → u.ownBlock ≠ some k
theorem NsG.later {W n1 n3 i : Nat} {v : Value} {w w' : World} (hf : Fr [] w w') (h : NsG W n1 n3 i v w) : NsG W n1 n3 i v w' := by
  rcases h with ⟨e, b, h1, h2, h3⟩ | ⟨e, b, h1, h2, h3⟩ | ⟨e, b, h1, h2, h3⟩ | ⟨e, b, h1, h2, h3⟩
  · exact .inl ⟨e, b, h1, h2, hf.heap h3 (by simp)⟩
  · exact .inr (.inl ⟨e, b, h1, h2, hf.heap h3 (by simp)⟩)
  · exact .inr (.inr (.inl ⟨e, b, h1, h2, h3.below hf⟩))
  · exact .inr (.inr (.inr ⟨e, b, h1, h2, h3.below hf⟩))
theorem NsG.lt {W n1 n3 i : Nat} {v : Value} {w : World} (h : NsG W n1 n3 i v w) : ∃ b n, v = .slice (some ⟨b, 0, none⟩) n n ∧ b < w.heap.size := by
  rcases h with ⟨e, b, h1, h2, h3⟩ | ⟨e, b, h1, h2, h3⟩ | ⟨e, b, h1, h2, h3⟩ | ⟨e, b, h1, h2, h3⟩
  · exact ⟨b, _, h1, (Array.getElem?_eq_some_iff.1 h3).1⟩
  · exact ⟨b, _, h1, (Array.getElem?_eq_some_iff.1 h3).1⟩
  · exact ⟨b, _, h1, (Array.getElem?_eq_some_iff.1 h3).1⟩
  · exact ⟨b, _, h1, (Array.getElem?_eq_some_iff.1 h3).1⟩
theorem NsG.apart {W n1 n3 : Nat} {w : World} {b n : Nat} (hb : w.heap.size ≤ b) (j : Nat) (u : Value) (h : NsG W n1 n3 j u w) : NsX (.slice (some ⟨b, 0, none⟩) n n) u ∧ NsX u (.slice (some ⟨b, 0, none⟩) n n) := by
  obtain ⟨c, m, rfl, hc⟩ := h.lt
  constructor
  · intro k h1 h2
    simp [Value.ownBlock] at h1 h2
    omega
  · intro k h1 h2
    simp [Value.ownBlock] at h1 h2
    omega
/-- The search's object, its sets and what is due, while the places of the rules are collected. -/
structure NwS (w : World) (p bs bd : Nat) (O : Array Value) (N R : Nat) : Prop where
  obj : w.heap[p]? = some (.cells O 73 (0, 0))
  sets : w.heap[bs]? = some (.cells (List.replicate N (Value.slice none 0 0)).toArray 22 (0, 0))
  due : boolRow w bd (List.replicate R true)
theorem NwS.later {w w' : World} {p bs bd N R : Nat} {O : Array Value} (h : NwS w p bs bd O N R) (hf : Fr [] w w') : NwS w' p bs bd O N R := ⟨hf.heap h.obj (by simp), hf.heap h.sets (by simp), h.due.below hf⟩
theorem NwS.push {w w7 : World} {p bs bd N R base br i n : Nat} {O : Array Value} {v v' : Value} {xs : List Value} {cr : Array Value} (h : NwS w p bs bd O N R) (hown : w.ownsRow base 3 1 v n xs) (hf : Fr v.ownBlock.toList w w7) (hrow : w.heap[br]? = some (.cells cr 39 (0, 0))) : NwS (w7.setCell ⟨br, i, none⟩ v') p bs bd O N R :=
  ⟨keepT h.obj hown hf hrow (by decide) (by decide), keepT h.sets hown hf hrow (by decide) (by decide), keepT h.due hown hf hrow (by decide) (by decide)⟩
def NwO (g : GramG) (w0 : World) (p bs bd br bu n1 n3 : Nat) (O : Array Value) (iv : Value) (wx : World) : Prop := ∃ (i : Nat) (rv uv : List Value), i ≤ n3 ∧ iv = .int .i64 (i : Int) ∧ GrI wx w0.heap.size br bu rv uv (RLs g.rules n1 i) (ULs g.rules n1 i) ∧ NwS wx p bs bd O n1 n3 ∧ Fr [] w0 wx
def NwI (g : GramG) (w0 : World) (p bs bd br bu n1 n3 : Nat) (O : Array Value) (i : Nat) (r : RuleG) (jv : Value) (wx : World) : Prop := ∃ (j : Nat) (rv uv : List Value), j ≤ r.right.length ∧ jv = .int .i64 (j : Int) ∧ GrI wx w0.heap.size br bu rv uv (RLs g.rules n1 (i + 1)) (UPs g.rules n1 i r.right j) ∧ NwS wx p bs bd O n1 n3 ∧ Fr [] w0 wx
def NwGot (g : GramG) (k : Int) (x1 x2 x3 : Value) (w : World) (e : Ending) (w' : World) : Prop := ∃ p bs bd br bu vs rv uv, e = .returned (.pointer (some ⟨p, 0, none⟩)) ∧ w.heap.size ≤ bs ∧ w.heap.size ≤ bd ∧
  SchAt w' p bs bd br bu x1 x2 x3 k g.names.length g.rules.length vs (List.replicate g.names.length []) (List.replicate g.rules.length true) rv uv (RLs g.rules g.names.length g.rules.length) (ULs g.rules g.names.length g.rules.length) ∧ Fr [] w w'
set_option maxRecDepth 100000 in
set_option maxHeartbeats 8000000 in
theorem pnew (g : GramG) (gv : Value) (k : Int) (w : World) (hg : gramAt w gv g) (hv : ValidG g) (x1 x2 x3 : Value) (hx : gv = .agg #[x1, x2, x3]) : Calls Try.prog 39 #[gv, .int .i64 k] w (NwGot g k x1 x2 x3 w) := by
  obtain ⟨iS, hiS, hS0, hS1, hS2⟩ := info_parts infoStrs
  obtain ⟨iI, hiI, hI0, hI1, hI2⟩ := info_parts infoInts
  obtain ⟨iN, hiN, hN0, hN1, hN2⟩ := info_parts infoIntW
  obtain ⟨a1, c1, a2, c2, a3, c3, e, HF0, HB⟩ := box_gram hg
  rw [hx] at e
  simp only [Value.agg.injEq, Array.mk.injEq, List.cons.injEq, and_true] at e
  obtain ⟨rfl, rfl, rfl⟩ := e
  subst hx
  have hgr : rulesAt w (.slice a3 g.rules.length c3) g.rules := by
    obtain ⟨x, y, z, e, -, -, h⟩ := hg
    simp only [Value.agg.injEq, Array.mk.injEq, List.cons.injEq, and_true] at e
    rw [e.2.2]; exact h
  obtain ⟨w0, hw0⟩ : ∃ w0, w0 = w.alloc (.cells #[.slice a1 g.names.length c1, .slice a2 g.terms.length c2, .slice a3 g.rules.length c3] 44) := ⟨_, rfl⟩
  obtain ⟨q0, hq0⟩ : ∃ q0, q0 = w.heap.size := ⟨_, rfl⟩
  rw [← hw0] at HF0 HB
  rw [← hq0] at HB
  have HW0 := Lib.hid hw0
  have HQ0 := Lib.hid hq0
  have HV := Lib.hid hv
  have HGR := Lib.hid (fun wx (hf : Fr [] w wx) => hgr.below hf)
  have hN256 : g.names.length ≤ 256 := by have := hv.syms; omega
  have hR3 : g.rules.length ≤ 4096 := hv.few
  have hR1 : 1 ≤ g.rules.length := by
    obtain ⟨r, hr, -⟩ := hv.has 0 hv.one
    exact List.length_pos_iff.2 (fun e => by rw [e] at hr; simp at hr)
  obtain ⟨n2, hn2⟩ : ∃ n, n = g.terms.length := ⟨_, rfl⟩
  obtain ⟨n1, hn1⟩ : ∃ n, n = g.names.length := ⟨_, rfl⟩
  obtain ⟨n3, hn3⟩ : ∃ n, n = g.rules.length := ⟨_, rfl⟩
  have HN1 := Lib.hid hn1
  have HN3 := Lib.hid hn3
  rw [← hn1, ← hn2, ← hn3] at HB HW0 ⊢
  rw [← hn3] at HGR hR3 hR1
  rw [← hn1] at hN256
  obtain ⟨x0, x1, x2, -⟩ := three_of_heap HB.out
  clear hw0 hq0 hg hv hgr hn1 hn2 hn3
  go_enter Try.func39, Try.ntmps39
  go_upto_region 1 with fail
  rw [← HW0.out, ← HQ0.out]
  refine wp_region_M (Fr []) (Fr.refl []) (fun a b c h k => h.trans k (by simp) (by simp)) [(0, false), (1, false), (2, false), (3, false), (4, false), (6, false), (7, false), (8, false), (10, false), (11, false), (12, false), (15, false), (16, false), (17, false)] [⟨5, 15, []⟩, ⟨9, 19, []⟩, ⟨13, 23, []⟩, ⟨14, 24, []⟩, ⟨18, 28, [14]⟩] [(19, false), (20, true), (21, false)] (NsG w0.heap.size n1 n3) NsX (fun i v w w' h k => k.later h) 86 rfl (by kernel_rfl) (by kernel_rfl) (by kernel_rfl) (fun c a d v w h => by cases d <;> exact h) ?_
  simp only [List.map_cons, List.map_nil, List.getElem?_toArray, List.getElem?_cons_succ, List.getElem?_cons_zero, Option.getD_some]
  obtain ⟨wd, hwd⟩ : ∃ wd, wd = w0.drew := ⟨_, rfl⟩
  have HFD := Lib.hid (show Fr [] w0 wd by rw [hwd]; exact Fr.drew w0)
  rw [← hwd]
  clear hwd x0 x1 x2
  repeat (apply wpT_t; · (intro w' hf'; obtain ⟨x0, x1, x2, -⟩ := three_of_heap ((HFD.out.tr0 hf').heap HB.out (by simp)); go_wp2_with fail; exact ⟨rfl, rfl⟩))
  refine wpT_end ⟨?_, ?_⟩
  · intro m hm
    simp only [List.mem_cons, List.not_mem_nil, or_false] at hm
    rcases hm with rfl | rfl | rfl | rfl | rfl
    · intro vs w' hf' hd
      simp only [putM, List.foldl_cons, List.foldl_nil, List.getElem?_toArray, List.getElem?_cons_succ, List.getElem?_cons_zero, Option.getD_some]
      generalize vs 5 = v5
      generalize vs 9 = v9
      generalize vs 13 = v13
      generalize vs 14 = v14
      generalize vs 18 = v18
      have hW := (HFD.out.tr0 hf').size
      go_wp2_with (at_make; refine wpL_make rfl _ _ 45 rfl 22 iS (.slice none 0 0) 24 Try.underlying45 hiS hS0 hS1 hS2 rfl n1 rfl rfl (by omega) (by simp only [maxLen]; omega) ?_; intro w4 hrow4 hf4 hs4)
      exact ⟨hf4, _, .inl ⟨rfl, _, rfl, hW, hrow4.out⟩, fun j u hj => NsG.apart (Nat.le_refl _) j u hj, rfl⟩
    · intro vs w' hf' hd
      simp only [putM, List.foldl_cons, List.foldl_nil, List.getElem?_toArray, List.getElem?_cons_succ, List.getElem?_cons_zero, Option.getD_some]
      generalize vs 5 = v5
      generalize vs 9 = v9
      generalize vs 13 = v13
      generalize vs 14 = v14
      generalize vs 18 = v18
      have hW := (HFD.out.tr0 hf').size
      go_wp2_with (at_make; refine wpL_make rfl _ _ 71 rfl 39 iI (.slice none 0 0) 24 Try.underlying71 hiI hI0 hI1 hI2 rfl n1 rfl rfl (by omega) (by simp only [maxLen]; omega) ?_; intro w4 hrow4 hf4 hs4)
      exact ⟨hf4, _, .inr (.inl ⟨.inl rfl, _, rfl, hW, hrow4.out⟩), fun j u hj => NsG.apart (Nat.le_refl _) j u hj, rfl⟩
    · intro vs w' hf' hd
      simp only [putM, List.foldl_cons, List.foldl_nil, List.getElem?_toArray, List.getElem?_cons_succ, List.getElem?_cons_zero, Option.getD_some]
      generalize vs 5 = v5
      generalize vs 9 = v9
      generalize vs 13 = v13
      generalize vs 14 = v14
      generalize vs 18 = v18
      have hW := (HFD.out.tr0 hf').size
      go_wp2_with (at_make; refine wpL_make rfl _ _ 71 rfl 39 iI (.slice none 0 0) 24 Try.underlying71 hiI hI0 hI1 hI2 rfl n1 rfl rfl (by omega) (by simp only [maxLen]; omega) ?_; intro w4 hrow4 hf4 hs4)
      exact ⟨hf4, _, .inr (.inl ⟨.inr rfl, _, rfl, hW, hrow4.out⟩), fun j u hj => NsG.apart (Nat.le_refl _) j u hj, rfl⟩
    · intro vs w' hf' hd
      simp only [putM, List.foldl_cons, List.foldl_nil, List.getElem?_toArray, List.getElem?_cons_succ, List.getElem?_cons_zero, Option.getD_some]
      generalize vs 5 = v5
      generalize vs 9 = v9
      generalize vs 13 = v13
      generalize vs 14 = v14
      generalize vs 18 = v18
      have hW := (HFD.out.tr0 hf').size
      have hfA := Fr.alloc w' (.cells #[.bool true] 4)
      have hbA : boolRow (w'.alloc (.cells #[.bool true] 4)) w'.heap.size [true] := heap_alloc_new w' _
      go_wp2_with fail
      exact ⟨hfA, _, .inr (.inr (.inl ⟨rfl, _, rfl, hW, hbA⟩)), fun j u hj => NsG.apart (Nat.le_refl _) j u hj, rfl⟩
    · intro vs w' hf' hd
      simp only [putM, List.foldl_cons, List.foldl_nil, List.getElem?_toArray, List.getElem?_cons_succ, List.getElem?_cons_zero, Option.getD_some]
      generalize vs 5 = v5
      generalize vs 9 = v9
      generalize vs 13 = v13
      have h14 := hd 14 (by simp)
      have hW := (HFD.out.tr0 hf').size
      obtain ⟨b14, e14, hb14, hr14⟩ : ∃ b, vs 14 = .slice (some ⟨b, 0, none⟩) 1 1 ∧ w0.heap.size ≤ b ∧ boolRow w' b [true] := by
        rcases h14 with ⟨e, _⟩ | ⟨e, _⟩ | ⟨_, h⟩ | ⟨e, _⟩
        · omega
        · omega
        · exact h
        · omega
      rw [e14]
      generalize vs 18 = v18
      have hrep := prepeat_b true n3 1 (some ⟨b14, 0, none⟩) w' (hr14.at (show 1 ≤ maxLen by decide) 1 rfl) (by omega) hR1
      have HRP := Lib.hid hrep
      clear hrep hd h14 e14 hr14 hb14
      go_wp2_with (go_at_call 55; refine HRP.out.mono ?_; rintro e w4 ⟨b4, hb4, rfl, hr4, hf4⟩)
      exact ⟨hf4, _, .inr (.inr (.inr ⟨rfl, _, rfl, by omega, hr4⟩)), fun j u hj => NsG.apart hb4 j u hj, rfl⟩
  · intro vs w' hf' hG hX
    simp only [putM, List.foldl_cons, List.foldl_nil, List.getElem?_toArray, List.getElem?_cons_succ, List.getElem?_cons_zero, Option.getD_some]
    obtain ⟨bs, e5, hbs, hs5⟩ : ∃ b, vs 5 = .slice (some ⟨b, 0, none⟩) n1 n1 ∧ w0.heap.size ≤ b ∧ w'.heap[b]? = some (.cells (List.replicate n1 (Value.slice none 0 0)).toArray 22 (0, 0)) := by
      rcases hG ⟨5, 15, []⟩ (by simp) with ⟨_, h⟩ | ⟨e, _⟩ | ⟨e, _⟩ | ⟨e, _⟩
      · exact h
      all_goals (simp at e)
    obtain ⟨br, e9, hbr, hr9⟩ : ∃ b, vs 9 = .slice (some ⟨b, 0, none⟩) n1 n1 ∧ w0.heap.size ≤ b ∧ w'.heap[b]? = some (.cells (List.replicate n1 (Value.slice none 0 0)).toArray 39 (0, 0)) := by
      rcases hG ⟨9, 19, []⟩ (by simp) with ⟨e, _⟩ | ⟨_, h⟩ | ⟨e, _⟩ | ⟨e, _⟩
      · simp at e
      · exact h
      all_goals (simp at e)
    obtain ⟨bu, e13, hbu, hr13⟩ : ∃ b, vs 13 = .slice (some ⟨b, 0, none⟩) n1 n1 ∧ w0.heap.size ≤ b ∧ w'.heap[b]? = some (.cells (List.replicate n1 (Value.slice none 0 0)).toArray 39 (0, 0)) := by
      rcases hG ⟨13, 23, []⟩ (by simp) with ⟨e, _⟩ | ⟨_, h⟩ | ⟨e, _⟩ | ⟨e, _⟩
      · simp at e
      · exact h
      all_goals (simp at e)
    obtain ⟨bd, e18, hbd, hr18⟩ : ∃ b, vs 18 = .slice (some ⟨b, 0, none⟩) n3 n3 ∧ w0.heap.size ≤ b ∧ boolRow w' b (List.replicate n3 true) := by
      rcases hG ⟨18, 28, [14]⟩ (by simp) with ⟨e, _⟩ | ⟨e, _⟩ | ⟨e, _⟩ | ⟨_, h⟩
      · simp at e
      · simp at e
      · simp at e
      · exact h
    have hne : br ≠ bu := fun e => by
      have := hX ⟨9, 19, []⟩ (by simp) ⟨13, 23, []⟩ (by simp) (by decide)
      simp only [e9, e13] at this
      exact this br (by simp [Value.ownBlock]) (by simp [Value.ownBlock, e])
    have HS5 := Lib.hid hs5
    have HR9 := Lib.hid hr9
    have HR13 := Lib.hid hr13
    have HR18 := Lib.hid hr18
    have HFW := Lib.hid (HFD.out.tr0 hf')
    have HNE := Lib.hid hne
    have HLE := Lib.hid (show w0.heap.size ≤ bs ∧ w0.heap.size ≤ br ∧ w0.heap.size ≤ bu ∧ w0.heap.size ≤ bd from ⟨hbs, hbr, hbu, hbd⟩)
    rw [e5, e9, e13, e18]
    generalize vs 14 = v14
    clear hG hX e5 e9 e13 e18 hs5 hr9 hr13 hr18 hne hf' hbs hbr hbu hbd
    apply wpT_t
    · intro w2 hf2
      go_wp2_with fail
      exact ⟨rfl, rfl⟩
    refine wpT_x ?_
    go_wp2_with fail
    refine ⟨Fr.alloc _ _, rfl, ?_⟩
    apply wpT_t
    · intro w2 hf2
      go_wp2_with fail
      exact ⟨rfl, rfl⟩
    refine wpT_end ?_
    obtain ⟨O, hO⟩ : ∃ O, O = #[Value.slice a1 n1 c1, Value.slice a2 n2 c2, Value.slice a3 n3 c3, Value.int .i64 k, Value.slice (some ⟨bs, 0, none⟩) n1 n1, Value.slice (some ⟨br, 0, none⟩) n1 n1, Value.slice (some ⟨bu, 0, none⟩) n1 n1, Value.slice (some ⟨bd, 0, none⟩) n3 n3] := ⟨_, rfl⟩
    have hobj := heap_alloc_new w' (.cells #[Value.slice a1 n1 c1, Value.slice a2 n2 c2, Value.slice a3 n3 c3, Value.int .i64 k, Value.slice (some ⟨bs, 0, none⟩) n1 n1, Value.slice (some ⟨br, 0, none⟩) n1 n1, Value.slice (some ⟨bu, 0, none⟩) n1 n1, Value.slice (some ⟨bd, 0, none⟩) n3 n3] 73)
    have hfO := Fr.alloc w' (.cells #[Value.slice a1 n1 c1, Value.slice a2 n2 c2, Value.slice a3 n3 c3, Value.int .i64 k, Value.slice (some ⟨bs, 0, none⟩) n1 n1, Value.slice (some ⟨br, 0, none⟩) n1 n1, Value.slice (some ⟨bu, 0, none⟩) n1 n1, Value.slice (some ⟨bd, 0, none⟩) n3 n3] 73)
    obtain ⟨w1, hw1⟩ : ∃ w1, w1 = w'.alloc (.cells #[Value.slice a1 n1 c1, Value.slice a2 n2 c2, Value.slice a3 n3 c3, Value.int .i64 k, Value.slice (some ⟨bs, 0, none⟩) n1 n1, Value.slice (some ⟨br, 0, none⟩) n1 n1, Value.slice (some ⟨bu, 0, none⟩) n1 n1, Value.slice (some ⟨bd, 0, none⟩) n3 n3] 73) := ⟨_, rfl⟩
    obtain ⟨p, hp⟩ : ∃ p, p = w'.heap.size := ⟨_, rfl⟩
    rw [← hw1] at hobj hfO ⊢
    rw [← hp] at hobj ⊢
    rw [← hO] at hobj
    have HO := Lib.hid hO
    have HS1 := Lib.hid (show NwS w1 p bs bd O n1 n3 from ⟨hobj, hfO.heap HS5.out (by simp), HR18.out.below hfO⟩)
    have HG1 := Lib.hid (show GrI w1 w0.heap.size br bu (List.replicate n1 (.slice none 0 0)) (List.replicate n1 (.slice none 0 0)) (RLs g.rules n1 0) (ULs g.rules n1 0) by rw [RLs_zero, ULs_zero]; exact GrI.start (hfO.heap HR9.out (by simp)) (hfO.heap HR13.out (by simp)) HNE.out)
    have HF1 := Lib.hid (HFW.out.tr0 hfO)
    obtain ⟨x0, x1, x2, -⟩ := three_of_heap (HF1.out.heap HB.out (by simp))
    clear hO hobj hfO hw1 hp HS5 HR9 HR13 HR18 HFW HFD
    go_wp2_with fail
    clear x0 x1 x2
    go_loopw [34] (NwO g w0 p bs bd br bu n1 n3 O) (fun iv _ => n3 - (intOf iv).toNat)
    case atStart => exact ⟨0, _, _, Nat.zero_le _, rfl, HG1.out, HS1.out, HF1.out⟩
    case round =>
      clear HG1 HS1 HF1
      obtain ⟨i, rv, uv, hi, rfl, hgr, hns, hfr⟩ := hrel
      have HGI := Lib.hid hgr
      have HNS := Lib.hid hns
      have HFR := Lib.hid hfr
      by_cases hin : i < n3
      · have hd1 : decide (i < n3) = true := decide_eq_true hin
        have hil : i < g.rules.length := by rw [← HN3.out]; exact hin
        obtain ⟨b3, o3, v3, e3, k0, k1, hiv⟩ := rule_cells (HGR.out w (Fr.refl _ _)) i hil
        subst e3
        replace k0 := (HF0.out.tr0 hfr).cell k0 (by simp)
        replace k1 := (HF0.out.tr0 hfr).cell k1 (by simp)
        have hrm := List.getElem_mem hil
        have hri : g.rules[i]? = some (g.rules[i]'hil) := List.getElem?_eq_getElem hil
        obtain ⟨r, hr⟩ : ∃ r, r = g.rules[i]'hil := ⟨_, rfl⟩
        rw [← hr] at k0 hrm hiv hri
        obtain ⟨hr1, hr2, hr3, hr4⟩ := HV.out.rules r hrm
        obtain ⟨la, hla⟩ := Int.eq_ofNat_of_zero_le hr1
        have hlaN : la < n1 := by rw [HN1.out]; omega
        rw [hla] at k0
        obtain ⟨a7, c7, rfl, hc7, hm7⟩ := hiv.form
        obtain ⟨nr, hnr⟩ : ∃ nr, nr = r.right.length := ⟨_, rfl⟩
        rw [← hnr] at hiv k1 hc7
        have hlr : la < rv.length := by rw [hgr.r.len, RLs_len]; exact hlaN
        have hll : la < (RLs g.rules n1 i).length := by rw [RLs_len]; exact hlaN
        have hown := hgr.r.own la hlr hll
        rw [RLs_get hll] at hown
        obtain ⟨av, hav⟩ : ∃ av, av = rv[la]'hlr := ⟨_, rfl⟩
        rw [← hav] at hown
        obtain ⟨xs, hxs⟩ : ∃ xs, xs = rIdx g.rules la i := ⟨_, rfl⟩
        have hxl : xs.length ≤ 4096 := by rw [hxs]; have := rIdx_len g.rules la i; omega
        rw [← hxs] at hown
        have hnext := RLs_next hri hla hll
        rw [RLs_get hll, ← hxs] at hnext
        have hbA := heap_alloc_new wr (.cells #[.int .i64 (la : Int), .slice a7 nr c7] 41)
        have hfA := Fr.alloc wr (.cells #[.int .i64 (la : Int), .slice a7 nr c7] 41)
        obtain ⟨wA, hwA⟩ : ∃ wA, wA = wr.alloc (.cells #[.int .i64 (la : Int), .slice a7 nr c7] 41) := ⟨_, rfl⟩
        obtain ⟨q3, hq3⟩ : ∃ q, q = wr.heap.size := ⟨_, rfl⟩
        rw [← hwA] at hbA hfA
        rw [← hq3] at hbA
        have HBA := Lib.hid hbA
        have HFA := Lib.hid hfA
        have HWA := Lib.hid hwA
        have HQ3 := Lib.hid hq3
        have HOWN := Lib.hid (owns_kept hown hfA (by simp))
        have HAV := Lib.hid hav
        have HXS := Lib.hid hxs
        have HNEXT := Lib.hid hnext
        have HRI := Lib.hid hri
        have HIV := Lib.hid (fun wx (hf : Fr [] w wx) => hiv.below hf)
        have hsyr : ∀ s ∈ r.right, s < (n1 : Int) ∧ -256 ≤ s := fun s hs => by have h5 := hr4 s hs; have h6 := HV.out.syms; rw [HN1.out]; omega
        have HSYR := Lib.hid hsyr
        have HNR := Lib.hid hnr
        have hnr64 : nr ≤ 64 := by rw [hnr]; exact hr3
        clear hr hrm hri hla hr1 hr2 hr3 hr4 hiv hgr hns hfr hown hav hxs hnext hbA hfA hwA hq3 hsyr hnr
        go_upto_region 5 with fail
        rw [← HWA.out, ← HQ3.out]
        clear k0 k1
        obtain ⟨a5, c5, rfl, hc5, hm5⟩ := owns_slice HOWN.out
        refine wp_region_Y (Value.slice a5 xs.length c5).ownBlock.toList 18 [(0, false), (1, false), (2, false), (3, false), (4, false), (5, false), (6, false), (7, false), (8, false), (9, false), (10, false), (11, false), (12, false), (13, false), (14, false), (15, true), (16, true), (17, true), (18, true)] 86 rfl (by kernel_rfl) (by kernel_rfl) (by kernel_rfl) (fun c a d v w h => by cases d <;> exact h) (fun w4 hf4 => ?_)
        simp only [List.map_cons, List.map_nil, List.getElem?_toArray, List.getElem?_cons_succ, List.getElem?_cons_zero, Option.getD_some]
        have hG4 := (HGI.out.later HFA.out).later hf4
        have hS4 := (HNS.out.later HFA.out).later hf4
        have hO4 := owns_kept HOWN.out hf4 (by simp)
        have hB4 := hf4.heap HBA.out (by simp)
        have hnp := own_ne hO4 hS4.obj (by decide)
        have hnq := own_ne hO4 hB4 (by decide)
        have hnr' := own_ne hO4 hG4.r.row (by decide)
        have hcellr := hG4.r.cell hlr
        rw [← HAV.out] at hcellr
        have LA : Hid (Later (Value.slice a5 xs.length c5).ownBlock.toList w4 (fun w' => w'.heap[p]? = some (.cells O 73 (0, 0)) ∧ w'.heap[q3]? = some (.cells #[.int .i64 (la : Int), .slice a7 nr c7] 41 (0, 0)) ∧ w'.cell? ⟨br, la, none⟩ = some (.slice a5 xs.length c5) ∧ w'.frozen? ⟨br, la, none⟩ = false)) := Lib.hid (fun w' hf' => ⟨hf'.heap hS4.obj hnp, hf'.heap hB4 hnq, hf'.cell hcellr hnr', free_of_heap (hf'.heap hG4.r.row hnr') la⟩)
        have HG4 := Lib.hid hG4
        have HS4 := Lib.hid hS4
        have HO4 := Lib.hid hO4
        have HB4 := Lib.hid hB4
        have HF4 := Lib.hid ((HFR.out.tr0 HFA.out).tr0 hf4)
        clear hG4 hS4 hO4 hB4 hf4 hnp hnq hnr' hcellr
        repeat (apply walkZ_t; · (intro w' hf'; obtain ⟨l1, l2, l3, l4⟩ := LA.out w' hf'; rw [HO.out] at l1; obtain ⟨y0, y1, -⟩ := two_cells l2; have p5 : w'.cell? ⟨p, 5, none⟩ = some (.slice (some ⟨br, 0, none⟩) n1 n1) := (by rw [cell_of_heap l1]; rfl); go_wp2_with fail; exact ⟨rfl, rfl⟩))
        refine walkZ_x ?_
        go_wp2_with fail
        have hfe := Fr.alloc w4 (.cells #[.int .i64 (i : Int)] 3)
        refine ⟨hfe.mono (by simp), rfl, ?_⟩
        have hB8 : w0.heap.size ≤ w4.heap.size := HF4.out.size
        refine walkZ_x ?_
        go_wp2_with (at_builtin; refine wpL_appendS rfl _ _ 39 rfl w0.heap.size 3 iN _ 1 8 Try.underlying39 hiN hN0 hN1 hN2 (by rfl) (by decide) (.slice a5 xs.length c5) xs.length (xs.map intV) rfl HO4.out [.int .i64 (i : Int)] rfl (by intro u hu; simp at hu; rcases hu with rfl; rfl) rfl (by omega) (by simp [maxLen]; omega) hB8 ?_; intro v9 w9 hown9 hf9 hb9)
        obtain ⟨a9, c9, rfl, hc9, hm9⟩ := owns_slice hown9
        refine ⟨hf9, rfl, ?_⟩
        have hf49 : Fr (Value.slice a5 xs.length c5).ownBlock.toList w4 w9 := hfe.trans hf9 (by simp) (fun _ hk _ => hk)
        obtain ⟨l1, l2, l3, l4⟩ := LA.out w9 hf49
        have HF49 := Lib.hid hf49
        have HO9 := Lib.hid hown9
        have HB9 := Lib.hid hb9
        clear hf49 hown9 hb9 hf9 hfe l1 l2
        refine walkZ_x ?_
        go_wp2_with fail
        refine ⟨Fr.refl _ _, rfl, ?_⟩
        refine walkZ_x ?_
        go_wp2_with fail
        refine ⟨rfl, walkZ_end ?_⟩
        have hown4 : w4.ownsRow w0.heap.size 3 1 (rv[la]'hlr) xs.length (xs.map intV) := by rw [← HAV.out]; exact HO4.out
        have hll : la < (RLs g.rules n1 i).length := by rw [RLs_len]; exact hlaN
        have hgn := HG4.out.push (v' := .slice a9 (xs.length + 1) c9) (x := (i : Int)) hlr hll (w7 := w9) (by rw [RLs_get hll, ← HXS.out]; exact HO9.out) (by rw [← HAV.out]; exact HF49.out) (by rw [← HAV.out]; exact HB9.out)
        rw [RLs_get hll, ← HXS.out, ← HNEXT.out] at hgn
        have hsn := HS4.out.push (i := la) (v' := .slice a9 (xs.length + 1) c9) hown4 (by rw [← HAV.out]; exact HF49.out) HG4.out.r.row
        have hbn := keepT (i := la) (v' := .slice a9 (xs.length + 1) c9) HB4.out hown4 (by rw [← HAV.out]; exact HF49.out) HG4.out.r.row (by decide) (by decide)
        have hfn := HG4.out.fr (v' := .slice a9 (xs.length + 1) c9) hlr (w7 := w9) (by rw [← HAV.out]; exact HF49.out) HF4.out (Nat.le_refl _) HLE.out.2.1
        obtain ⟨w10, hw10⟩ : ∃ x, x = w9.setCell ⟨br, la, none⟩ (.slice a9 (xs.length + 1) c9) := ⟨_, rfl⟩
        rw [← hw10] at hgn hsn hbn hfn ⊢
        rw [← UPs_zero g.rules n1 i r.right] at hgn
        have HST := Lib.hid (show NwI g w0 p bs bd br bu n1 n3 O i r (.int .i64 0) w10 from ⟨0, _, uv, Nat.zero_le _, rfl, hgn, hsn, hfn⟩)
        obtain ⟨y0, y1, -⟩ := two_cells hbn
        clear hown4 hgn hsn hbn hfn hw10 LA HG4 HS4 HO4 HB4 HF4 HF49 HO9 HB9 HGI HNS HFR l3 l4
        go_wp2_with fail
        clear y0 y1
        go_loopw [60] (NwI g w0 p bs bd br bu n1 n3 O i r) (fun jv _ => nr - (intOf jv).toNat)
        case atStart => exact HST.out
        case round =>
          clear HST
          obtain ⟨j, rv2, uv2, hj, rfl, hgr, hns, hfr⟩ := hrel
          rw [← HNR.out] at hj
          have HGI := Lib.hid hgr
          have HNS := Lib.hid hns
          have HFR := Lib.hid hfr
          by_cases hjn : j < nr
          · have hd3 : decide (j < nr) = true := decide_eq_true hjn
            have hjl : j < r.right.length := by rw [← HNR.out]; exact hjn
            obtain ⟨b8, o8, rfl, hcell⟩ := int_cell (HIV.out wr (HF0.out.tr0 hfr)) j hjl
            have hsr := HSYR.out _ (List.getElem_mem hjl)
            obtain ⟨s, hs⟩ : ∃ s, s = r.right[j]'hjl := ⟨_, rfl⟩
            rw [← hs] at hcell hsr
            obtain ⟨hsr1, hsr2⟩ := hsr
            have HSE := Lib.hid hs
            have HIT := Lib.hid (isTerm_f s wr)
            by_cases hneg : s < 0
            · have hd4 : decide (s < 0) = true := decide_eq_true hneg
              rw [hd4] at HIT
              have hgn := hgr
              rw [← UPs_skip hjl (by rw [← hs]; exact hneg)] at hgn
              have HGN := Lib.hid hgn
              clear hgr hns hfr hs hgn
              go_wp2_with (go_at_call 56; refine HIT.out.mono ?_; rintro e w11 ⟨rfl, rfl⟩)
              go_roundw
              case rel => exact ⟨j + 1, rv2, uv2, by rw [← HNR.out]; omega, by go_num, HGN.out, HNS.out, HFR.out⟩
              case measure => simp [intOf]; omega
            · have hd4 : decide (s < 0) = false := decide_eq_false hneg
              rw [hd4] at HIT
              obtain ⟨c, hc⟩ := Int.eq_ofNat_of_zero_le (show 0 ≤ s by omega)
              subst hc
              have hcN : c < n1 := by omega
              have hlu : c < uv2.length := by rw [hgr.u.len, UPs_len]; exact hcN
              have hlp : c < (UPs g.rules n1 i r.right j).length := by rw [UPs_len]; exact hcN
              have hown := hgr.u.own c hlu hlp
              have hnext := UPs_next hjl hs.symm hlp
              obtain ⟨xs2, hxs⟩ : ∃ x, x = (UPs g.rules n1 i r.right j)[c]'hlp := ⟨_, rfl⟩
              have hxl2 : xs2.length ≤ 300000 := by
                have h5 := uIdx_len g.rules c (fun r hr => (HV.out.rules r hr).2.2.1) i
                have h6 : (r.right.take j).count (c : Int) ≤ (r.right.take j).length := List.count_le_length
                rw [List.length_take] at h6
                rw [hxs, UPs_get hlp, List.length_append, List.length_replicate]
                omega
              obtain ⟨av2, hav⟩ : ∃ av, av = uv2[c]'hlu := ⟨_, rfl⟩
              rw [← hxs, ← hav] at hown
              rw [← hxs] at hnext
              have HOWN2 := Lib.hid hown
              have HAV2 := Lib.hid hav
              have HXS2 := Lib.hid hxs
              have HNEXT2 := Lib.hid hnext
              clear hgr hns hfr hs hown hav hxs hnext hneg hsr2
              go_upto_region 10 with (go_at_call 56; refine HIT.out.mono ?_; rintro e w11 ⟨rfl, rfl⟩)
              obtain ⟨a5, c5, rfl, hc5, hm5⟩ := owns_slice HOWN2.out
              refine wp_region_Y (Value.slice a5 xs2.length c5).ownBlock.toList 16 [(0, false), (1, false), (2, false), (3, false), (4, false), (5, false), (6, false), (7, false), (8, false), (9, false), (10, false), (11, false), (12, false), (13, true), (14, true), (15, true), (16, true)] 86 rfl (by kernel_rfl) (by kernel_rfl) (by kernel_rfl) (fun c a d v w h => by cases d <;> exact h) (fun w4 hf4 => ?_)
              simp only [List.map_cons, List.map_nil, List.getElem?_toArray, List.getElem?_cons_succ, List.getElem?_cons_zero, Option.getD_some]
              have hG4 := HGI.out.later hf4
              have hS4 := HNS.out.later hf4
              have hO4 := owns_kept HOWN2.out hf4 (by simp)
              have hnp := own_ne hO4 hS4.obj (by decide)
              have hnr' := own_ne hO4 hG4.u.row (by decide)
              have hcellr := hG4.u.cell hlu
              rw [← HAV2.out] at hcellr
              have LA : Hid (Later (Value.slice a5 xs2.length c5).ownBlock.toList w4 (fun w' => w'.heap[p]? = some (.cells O 73 (0, 0)) ∧ w'.cell? ⟨bu, c, none⟩ = some (.slice a5 xs2.length c5) ∧ w'.frozen? ⟨bu, c, none⟩ = false)) := Lib.hid (fun w' hf' => ⟨hf'.heap hS4.obj hnp, hf'.cell hcellr hnr', free_of_heap (hf'.heap hG4.u.row hnr') c⟩)
              have HG4 := Lib.hid hG4
              have HS4 := Lib.hid hS4
              have HO4 := Lib.hid hO4
              have HF4 := Lib.hid (HFR.out.tr0 hf4)
              clear hG4 hS4 hO4 hf4 hnp hnr' hcellr hcell
              repeat (apply walkZ_t; · (intro w' hf'; obtain ⟨l1, l3, l4⟩ := LA.out w' hf'; rw [HO.out] at l1; have p6 : w'.cell? ⟨p, 6, none⟩ = some (.slice (some ⟨bu, 0, none⟩) n1 n1) := (by rw [cell_of_heap l1]; rfl); go_wp2_with fail; exact ⟨rfl, rfl⟩))
              refine walkZ_x ?_
              go_wp2_with fail
              have hfe := Fr.alloc w4 (.cells #[.int .i64 (i : Int)] 3)
              refine ⟨hfe.mono (by simp), rfl, ?_⟩
              have hB8 : w0.heap.size ≤ w4.heap.size := HF4.out.size
              refine walkZ_x ?_
              go_wp2_with (at_builtin; refine wpL_appendS rfl _ _ 39 rfl w0.heap.size 3 iN _ 1 8 Try.underlying39 hiN hN0 hN1 hN2 (by rfl) (by decide) (.slice a5 xs2.length c5) xs2.length (xs2.map intV) rfl HO4.out [.int .i64 (i : Int)] rfl (by intro u hu; simp at hu; rcases hu with rfl; rfl) rfl (by omega) (by simp [maxLen]; omega) hB8 ?_; intro v9 w9 hown9 hf9 hb9)
              obtain ⟨a9, c9, rfl, hc9, hm9⟩ := owns_slice hown9
              refine ⟨hf9, rfl, ?_⟩
              have hf49 : Fr (Value.slice a5 xs2.length c5).ownBlock.toList w4 w9 := hfe.trans hf9 (by simp) (fun _ hk _ => hk)
              obtain ⟨l1, l3, l4⟩ := LA.out w9 hf49
              have HF49 := Lib.hid hf49
              have HO9 := Lib.hid hown9
              have HB9 := Lib.hid hb9
              clear hf49 hown9 hb9 hf9 hfe l1
              refine walkZ_x ?_
              go_wp2_with fail
              refine ⟨Fr.refl _ _, rfl, ?_⟩
              refine walkZ_x ?_
              go_wp2_with fail
              refine ⟨rfl, walkZ_end ?_⟩
              have hown4 : w4.ownsRow w0.heap.size 3 1 (uv2[c]'hlu) xs2.length (xs2.map intV) := by rw [← HAV2.out]; exact HO4.out
              have hgn := HG4.out.symm.push (v' := .slice a9 (xs2.length + 1) c9) (x := (i : Int)) hlu hlp (w7 := w9) (by rw [← HXS2.out]; exact HO9.out) (by rw [← HAV2.out]; exact HF49.out) (by rw [← HAV2.out]; exact HB9.out)
              rw [← HXS2.out, ← HNEXT2.out] at hgn
              have hsn := HS4.out.push (i := c) (v' := .slice a9 (xs2.length + 1) c9) hown4 (by rw [← HAV2.out]; exact HF49.out) HG4.out.u.row
              have hfn := HG4.out.symm.fr (v' := .slice a9 (xs2.length + 1) c9) hlu (w7 := w9) (by rw [← HAV2.out]; exact HF49.out) HF4.out (Nat.le_refl _) HLE.out.2.2.1
              have HGN := Lib.hid hgn.symm
              have HSN := Lib.hid hsn
              have HFN := Lib.hid hfn
              clear hown4 hgn hsn hfn LA HG4 HS4 HO4 HF4 HF49 HO9 HB9 HGI HNS HFR l3 l4
              go_wp2_with fail
              go_roundw
              case rel => exact ⟨j + 1, rv2, _, by rw [← HNR.out]; omega, by go_num, HGN.out, HSN.out, HFN.out⟩
              case measure => simp [intOf]; omega
          · have hd3 : decide (j < nr) = false := decide_eq_false hjn
            have hje : j = r.right.length := by rw [← HNR.out]; omega
            rw [hje, UPs_full HRI.out] at hgr
            have HGX := Lib.hid hgr
            clear hgr hns hfr
            go_wp2_with fail
            exact ⟨⟨i + 1, rv2, uv2, by omega, by go_num, HGX.out, HNS.out, HFR.out⟩, by simp [intOf]; omega⟩
      · have hd1 : decide (i < n3) = false := decide_eq_false hin
        have hie : i = n3 := by omega
        clear hgr hns hfr
        go_wp2_with fail
        go_ret
        have hO := HO.out
        have h9 := HGI.out
        rw [hie, HN3.out, HN1.out] at h9
        refine ⟨p, bs, bd, br, bu, List.replicate g.names.length (.slice none 0 0), rv, uv, rfl, ?_, ?_, ⟨?_, ?_, ?_, ?_, ?_⟩, HF0.out.tr0 HFR.out⟩
        · have h5 := HLE.out.1; have h6 := HF0.out.size; omega
        · have h5 := HLE.out.2.2.2; have h6 := HF0.out.size; omega
        · rw [HNS.out.obj, hO, HN1.out, HN3.out]
        · have h5 := HNS.out.sets
          rw [HN1.out] at h5
          exact SetB.new h5
        · have h5 := HNS.out.due
          rw [HN3.out] at h5
          exact h5
        · exact h9.r.re
        · exact h9.u.re
end Go.Proofs.Ytmcekpgmebanaaa
