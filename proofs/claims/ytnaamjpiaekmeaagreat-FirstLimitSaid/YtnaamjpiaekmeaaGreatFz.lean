/- Several texts in one: FsN, FsS, FpK. -/
import Derived.WalkMore
import Derived.Test.YtnaamjpiaekmeaaGreatFq
import Derived.Test.YtnaamjpiaekmeaaGreatBs
import Derived.Test.YtnaamjpiaekmeaaGreatGa
import Derived.Test.YtnaamjpiaekmeaaGreatTb
import Derived.Test.YtnaamjpiaekmeaaGreatPr
import Derived.Test.YtnaamjpiaekmeaaGreatWpI
import Derived.Test.YtnaamjpiaekmeaaGreatFo
import Derived.Test.YtnaamjpiaekmeaaGreatWlJ
import Derived.Test.YtnaamjpiaekmeaaGreatWpCk
set_option linter.unusedVariables false
set_option linter.unusedSimpArgs false
namespace Go.Proofs.YtnaamjpiaekmeaaGreat
open Go.RowKit Go.Maps
theorem infoInts : (Tryz.prog.info? 39).map (fun i => (i.zero, i.size, i.bytes)) = some (some (.slice none 0 0), 1, 24) := by kernel_rfl
theorem infoPtrU : (Tryz.prog.info? 89).map (fun i => (i.zero, i.size, i.bytes)) = some (some (.pointer none), 1, 8) := by kernel_rfl
def NsG (k : Int) (W n1 n3 : Nat) (i : Nat) (v : Value) (w : World) : Prop :=
 (i = 6 ∧ ∃ b, v = .slice (some ⟨b, 0, none⟩) n1 n1 ∧ W ≤ b ∧ w.heap[b]? = some (.cells (List.replicate n1 [Value.int .i64 0, Value.slice none 0 0, Value.bool false]).flatten.toArray 93 (0, 0))) ∨
 ((i = 10 ∨ i = 14) ∧ ∃ b, v = .slice (some ⟨b, 0, none⟩) n1 n1 ∧ W ≤ b ∧ w.heap[b]? = some (.cells (List.replicate n1 (Value.slice none 0 0)).toArray 39 (0, 0))) ∨
 (i = 15 ∧ ∃ b, v = .slice (some ⟨b, 0, none⟩) 1 1 ∧ W ≤ b ∧ boolRow w b [true]) ∨
 (i = 19 ∧ ∃ b, v = .slice (some ⟨b, 0, none⟩) n3 n3 ∧ W ≤ b ∧ boolRow w b (List.replicate n3 true)) ∨
 (i = 2 ∧ ∃ q, v = .pointer (some ⟨q + 2, 0, none⟩) ∧ W ≤ q ∧ PoolAt w q k [] 0)
def NsX (v u : Value) : Prop := ∀ k, v.ownBlock = some k → u.ownBlock ≠ some k
theorem NsG.later {k : Int} {W n1 n3 i : Nat} {v : Value} {w w' : World} (hf : Fr [] w w') (h : NsG k W n1 n3 i v w) : NsG k W n1 n3 i v w' := by
 rcases h with ⟨e, b, h1, h2, h3⟩ | ⟨e, b, h1, h2, h3⟩ | ⟨e, b, h1, h2, h3⟩ | ⟨e, b, h1, h2, h3⟩ | ⟨e, q, h1, h2, h3⟩
 ·exact .inl ⟨e, b, h1, h2, hf.heap h3 (by simp)⟩
 ·exact .inr (.inl ⟨e, b, h1, h2, hf.heap h3 (by simp)⟩)
 ·exact .inr (.inr (.inl ⟨e, b, h1, h2, h3.below hf⟩))
 ·exact .inr (.inr (.inr (.inl ⟨e, b, h1, h2, h3.below hf⟩)))
 ·exact .inr (.inr (.inr (.inr ⟨e, q, h1, h2, h3.later hf⟩)))
theorem NsG.lt {k : Int} {W n1 n3 i : Nat} {v : Value} {w : World} (h : NsG k W n1 n3 i v w) : ∀ c, v.ownBlock = some c → c < w.heap.size := fun c hc => by
 rcases h with ⟨e, b, rfl, h2, h3⟩ | ⟨e, b, rfl, h2, h3⟩ | ⟨e, b, rfl, h2, h3⟩ | ⟨e, b, rfl, h2, h3⟩ | ⟨e, q, rfl, h2, h3⟩
 ·cases hc; exact (Array.getElem?_eq_some_iff.1 h3).1
 ·cases hc; exact (Array.getElem?_eq_some_iff.1 h3).1
 ·cases hc; exact (Array.getElem?_eq_some_iff.1 h3).1
 ·cases hc; exact (Array.getElem?_eq_some_iff.1 h3).1
 ·cases hc
theorem NsG.apart {k : Int} {W n1 n3 : Nat} {w : World} {b n : Nat} (hb : w.heap.size ≤ b) (j : Nat) (u : Value) (h : NsG k W n1 n3 j u w) : NsX (.slice (some ⟨b, 0, none⟩) n n) u ∧ NsX u (.slice (some ⟨b, 0, none⟩) n n) := by
 constructor
 ·intro c h1 h2
  have := h.lt c h2
  simp [Value.ownBlock] at h1
  omega
 ·intro c h1 h2
  have := h.lt c h1
  simp [Value.ownBlock] at h2
  omega
theorem NsG.apartP {k : Int} {W n1 n3 : Nat} {w : World} {a : Option Addr} (j : Nat) (u : Value) (_ : NsG k W n1 n3 j u w) : NsX (.pointer a) u ∧ NsX u (.pointer a) :=
 ⟨fun c h1 _ => (by cases h1), fun c _ h2 => (by cases h2)⟩
def NwL (w0 : World) (p q bn br bu bd N R : Nat) (k : Int) (x1 x2 x3 iv : Value) (wx : World) : Prop := ∃ (us : List Nat) (v : Value), us.length ≤ N ∧ iv = .int .i64 (us.length : Int) ∧ NwW w0 wx p q bn br bu bd N R k x1 x2 x3 us v
def NwO (g : GramG) (w0 : World) (p q bn bd br bu n1 n3 M : Nat) (O : Array Value) (tv wv : Value) (k : Int) (T : List Words) (m : Nat) (us : List Nat) (ts : List (List Value)) (iv : Value) (wx : World) : Prop := ∃ (i : Nat) (rv uv : List Value), i ≤ n3 ∧ iv = .int .i64 (i : Int) ∧ GrI wx w0.heap.size br bu rv uv (RLs g.rules n1 i) (ULs g.rules n1 i) ∧ (QuI wx rv ∧ QuI wx uv) ∧ NwTz wx p q bn bd O tv wv k n1 n3 M T m us ts ∧ Fr [] w0 wx
def NwI (g : GramG) (w0 : World) (p q bn bd br bu n1 n3 M : Nat) (O : Array Value) (tv wv : Value) (k : Int) (T : List Words) (m : Nat) (us : List Nat) (ts : List (List Value)) (i : Nat) (r : RuleG) (jv : Value) (wx : World) : Prop := ∃ (j : Nat) (rv uv : List Value), j ≤ r.right.length ∧ jv = .int .i64 (j : Int) ∧ GrI wx w0.heap.size br bu rv uv (RLs g.rules n1 (i + 1)) (UPs g.rules n1 i r.right j) ∧ (QuI wx rv ∧ QuI wx uv) ∧ NwTz wx p q bn bd O tv wv k n1 n3 M T m us ts ∧ Fr [] w0 wx
def NwGot (g : GramG) (k : Int) (x1 x2 x3 : Value) (w : World) (e : Ending) (w' : World) : Prop := ∃ (c : SeaC) (T : List Words), e = .returned (.pointer (some ⟨c.p, 0, none⟩)) ∧ c.x1 = x1 ∧ c.x2 = x2 ∧ c.x3 = x3 ∧ c.k = k ∧ c.N = g.names.length ∧ c.R = g.rules.length ∧ c.M = g.terms.length ∧ c.rl = RLs g.rules c.N c.R ∧ c.ul = ULs g.rules c.N c.R ∧ (∀ b ∈ c.wb, w.heap.size ≤ b) ∧
 SeaAt w' c T 1000 (List.replicate g.names.length []) (List.replicate g.names.length [.int .i64 0, .slice none 0 0, .bool false]) (List.replicate g.names.length []) (List.replicate g.rules.length true) ∧ Fr [] w w'
set_option maxRecDepth 100000 in
set_option maxHeartbeats 8000000 in
theorem pnew (g : GramG) (gv : Value) (k : Int) (w : World) (hg : gramAt w gv g) (hv : ValidG g) (x1 x2 x3 : Value) (hx : gv = .agg #[x1, x2, x3]) (hk1 : 1 ≤ k) (hk4 : k ≤ 4) : Calls Tryz.prog 25 #[gv, .int .i64 k] w (NwGot g k x1 x2 x3 w) := by
 obtain ⟨iS, hiS, hS0, hS1, hS2⟩ := info_parts infoSet
 obtain ⟨iP, hiP, hP0, hP1, hP2⟩ := info_parts infoPtrU
 obtain ⟨iI, hiI, hI0, hI1, hI2⟩ := info_parts infoInts
 obtain ⟨iN, hiN, hN0, hN1, hN2⟩ := info_parts infoIntW
 obtain ⟨a1, c1, a2, c2, a3, c3, e, HF0, HB⟩ := box_gram hg
 rw [hx] at e
 simp only [Value.agg.injEq, Array.mk.injEq, List.cons.injEq, and_true] at e
 obtain ⟨rfl, rfl, rfl⟩ := e
 subst hx
 have hgr : rulesAt w (.slice a3 g.rules.length c3) g.rules := by
  obtain ⟨x, y, z, e, -, -, h⟩ := hg
  simp only [Value.agg.injEq, Array.mk.injEq, List.cons.injEq, and_true] at e
  rw [e.2.2]; exact h
 obtain ⟨w0, hw0⟩ : ∃ w0, w0 = w.alloc (.cells #[.slice a1 g.names.length c1, .slice a2 g.terms.length c2, .slice a3 g.rules.length c3] 25) := ⟨_, rfl⟩
 obtain ⟨q0, hq0⟩ : ∃ q0, q0 = w.heap.size := ⟨_, rfl⟩
 rw [← hw0] at HF0 HB
 rw [← hq0] at HB
 have HW0 := Lib.hid hw0
 have HQ0 := Lib.hid hq0
 have HV := Lib.hid hv
 have HGR := Lib.hid (fun wx (hf : Fr [] w wx) => hgr.below hf)
 have hM256 : g.terms.length ≤ 256 := by have := hv.syms; omega
 have hN256 : g.names.length ≤ 256 := by have := hv.syms; omega
 have hR3 : g.rules.length ≤ 4096 := hv.few
 have hR1 : 1 ≤ g.rules.length := by
  obtain ⟨r, hr, -⟩ := hv.has 0 hv.one
  exact List.length_pos_iff.2 (fun e => by rw [e] at hr; simp at hr)
 obtain ⟨n2, hn2⟩ : ∃ n, n = g.terms.length := ⟨_, rfl⟩
 obtain ⟨n1, hn1⟩ : ∃ n, n = g.names.length := ⟨_, rfl⟩
 obtain ⟨n3, hn3⟩ : ∃ n, n = g.rules.length := ⟨_, rfl⟩
 have HN1 := Lib.hid hn1
 have HN3 := Lib.hid hn3
 rw [← hn1, ← hn2, ← hn3] at HB HW0 ⊢
 rw [← hn3] at HGR hR3 hR1
 rw [← hn2] at hM256
 have HN2 := Lib.hid hn2
 rw [← hn1] at hN256
 obtain ⟨x0, x1, x2, -⟩ := three_of_heap HB.out
 clear hw0 hq0 hg hv hgr hn1 hn2 hn3
 go_enter Tryz.func25, Tryz.ntmps25
 go_upto_region 1 with fail
 rw [← HW0.out, ← HQ0.out]
 refine wp_region_M (Fr []) (Fr.refl []) (fun a b c h k => h.trans k (by simp) (by simp)) [(0, false), (1, false), (3, false), (4, false), (5, false), (7, false), (8, false), (9, false), (11, false), (12, false), (13, false), (16, false), (17, false), (18, false)] [⟨2, 12, []⟩, ⟨6, 16, []⟩, ⟨10, 20, []⟩, ⟨14, 24, []⟩, ⟨15, 25, []⟩, ⟨19, 29, [15]⟩] [(20, false), (21, true), (22, false)] (NsG k w0.heap.size n1 n3) NsX (fun i v w w' h k => k.later h) 118 rfl (by kernel_rfl) (by kernel_rfl) (by kernel_rfl) (fun c a d v w h => by cases d <;> exact h) ?_
 simp only [List.map_cons, List.map_nil, List.getElem?_toArray, List.getElem?_cons_succ, List.getElem?_cons_zero, Option.getD_some]
 obtain ⟨wd, hwd⟩ : ∃ wd, wd = w0.drew := ⟨_, rfl⟩
 have HFD := Lib.hid (show Fr [] w0 wd by rw [hwd]; exact Fr.drew w0)
 rw [← hwd]
 clear hwd x0 x1 x2
 repeat (apply wpT_t; · (intro w' hf'; obtain ⟨x0, x1, x2, -⟩ := three_of_heap ((HFD.out.tr0 hf').heap HB.out (by simp)); go_wp2_with fail; exact ⟨rfl, rfl⟩))
 refine wpT_end ⟨?_, ?_⟩
 ·intro m hm
  simp only [List.mem_cons, List.not_mem_nil, or_false] at hm
  rcases hm with rfl | rfl | rfl | rfl | rfl | rfl
  ·intro vs w' hf' hd
   simp only [putM, List.foldl_cons, List.foldl_nil, List.getElem?_toArray, List.getElem?_cons_succ, List.getElem?_cons_zero, Option.getD_some]
   generalize vs 2 = v2
   generalize vs 6 = v6
   generalize vs 10 = v10
   generalize vs 14 = v14
   generalize vs 15 = v15
   generalize vs 19 = v19
   have hW := (HFD.out.tr0 hf').size
   go_wp2_with (go_at_call 51; refine (ppoolnew k w').mono ?_; rintro e w4 ⟨rfl, hp4, hf4⟩)
   exact ⟨hf4, _, .inr (.inr (.inr (.inr ⟨rfl, _, rfl, hW, hp4⟩))), fun j u hj => NsG.apartP j u hj, rfl⟩
  ·intro vs w' hf' hd
   simp only [putM, List.foldl_cons, List.foldl_nil, List.getElem?_toArray, List.getElem?_cons_succ, List.getElem?_cons_zero, Option.getD_some]
   generalize vs 2 = v2
   generalize vs 6 = v6
   generalize vs 10 = v10
   generalize vs 14 = v14
   generalize vs 15 = v15
   generalize vs 19 = v19
   have hW := (HFD.out.tr0 hf').size
   go_wp2_with (at_make; refine wpL_make3 rfl _ _ 62 rfl 93 iS (.int .i64 0) (.slice none 0 0) (.bool false) 40 Tryz.underlying62 hiS hS0 hS1 hS2 n1 rfl rfl (by omega) (by simp only [maxLen]; omega) ?_; intro w4 hrow4 hf4)
   exact ⟨hf4, _, .inl ⟨rfl, _, rfl, hW, hrow4.out⟩, fun j u hj => NsG.apart (Nat.le_refl _) j u hj, rfl⟩
  ·intro vs w' hf' hd
   simp only [putM, List.foldl_cons, List.foldl_nil, List.getElem?_toArray, List.getElem?_cons_succ, List.getElem?_cons_zero, Option.getD_some]
   generalize vs 2 = v2
   generalize vs 6 = v6
   generalize vs 10 = v10
   generalize vs 14 = v14
   generalize vs 15 = v15
   generalize vs 19 = v19
   have hW := (HFD.out.tr0 hf').size
   go_wp2_with (at_make; refine wpL_make rfl _ _ 64 rfl 39 iI (.slice none 0 0) 24 Tryz.underlying64 hiI hI0 hI1 hI2 rfl n1 rfl rfl (by omega) (by simp only [maxLen]; omega) ?_; intro w4 hrow4 hf4 hs4)
   exact ⟨hf4, _, .inr (.inl ⟨.inl rfl, _, rfl, hW, hrow4.out⟩), fun j u hj => NsG.apart (Nat.le_refl _) j u hj, rfl⟩
  ·intro vs w' hf' hd
   simp only [putM, List.foldl_cons, List.foldl_nil, List.getElem?_toArray, List.getElem?_cons_succ, List.getElem?_cons_zero, Option.getD_some]
   generalize vs 2 = v2
   generalize vs 6 = v6
   generalize vs 10 = v10
   generalize vs 14 = v14
   generalize vs 15 = v15
   generalize vs 19 = v19
   have hW := (HFD.out.tr0 hf').size
   go_wp2_with (at_make; refine wpL_make rfl _ _ 64 rfl 39 iI (.slice none 0 0) 24 Tryz.underlying64 hiI hI0 hI1 hI2 rfl n1 rfl rfl (by omega) (by simp only [maxLen]; omega) ?_; intro w4 hrow4 hf4 hs4)
   exact ⟨hf4, _, .inr (.inl ⟨.inr rfl, _, rfl, hW, hrow4.out⟩), fun j u hj => NsG.apart (Nat.le_refl _) j u hj, rfl⟩
  ·intro vs w' hf' hd
   simp only [putM, List.foldl_cons, List.foldl_nil, List.getElem?_toArray, List.getElem?_cons_succ, List.getElem?_cons_zero, Option.getD_some]
   generalize vs 2 = v2
   generalize vs 6 = v6
   generalize vs 10 = v10
   generalize vs 14 = v14
   generalize vs 15 = v15
   generalize vs 19 = v19
   have hW := (HFD.out.tr0 hf').size
   have hfA := Fr.alloc w' (.cells #[.bool true] 4)
   have hbA : boolRow (w'.alloc (.cells #[.bool true] 4)) w'.heap.size [true] := heap_alloc_new w' _
   go_wp2_with fail
   exact ⟨hfA, _, .inr (.inr (.inl ⟨rfl, _, rfl, hW, hbA⟩)), fun j u hj => NsG.apart (Nat.le_refl _) j u hj, rfl⟩
  ·intro vs w' hf' hd
   simp only [putM, List.foldl_cons, List.foldl_nil, List.getElem?_toArray, List.getElem?_cons_succ, List.getElem?_cons_zero, Option.getD_some]
   generalize vs 2 = v2
   generalize vs 6 = v6
   generalize vs 10 = v10
   generalize vs 14 = v14
   have h14 := hd 15 (by simp)
   have hW := (HFD.out.tr0 hf').size
   obtain ⟨b14, e14, hb14, hr14⟩ : ∃ b, vs 15 = .slice (some ⟨b, 0, none⟩) 1 1 ∧ w0.heap.size ≤ b ∧ boolRow w' b [true] := by
    rcases h14 with ⟨e, _⟩ | ⟨e, _⟩ | ⟨_, h⟩ | ⟨e, _⟩ | ⟨e, _⟩
    ·omega
    ·omega
    ·exact h
    ·omega
    ·omega
   rw [e14]
   generalize vs 19 = v19
   have hrep := prepeat_b true n3 1 (some ⟨b14, 0, none⟩) w' (hr14.at (show 1 ≤ maxLen by decide) 1 rfl) (by omega) hR1
   have HRP := Lib.hid hrep
   clear hrep hd h14 e14 hr14 hb14
   go_wp2_with (go_at_call 52; refine HRP.out.mono ?_; rintro e w4 ⟨b4, hb4, rfl, hr4, hf4⟩)
   exact ⟨hf4, _, .inr (.inr (.inr (.inl ⟨rfl, _, rfl, by omega, hr4⟩))), fun j u hj => NsG.apart hb4 j u hj, rfl⟩
 ·intro vs w' hf' hG hX
  simp only [putM, List.foldl_cons, List.foldl_nil, List.getElem?_toArray, List.getElem?_cons_succ, List.getElem?_cons_zero, Option.getD_some]
  obtain ⟨q, e2, hqq, hs2⟩ : ∃ q, vs 2 = .pointer (some ⟨q + 2, 0, none⟩) ∧ w0.heap.size ≤ q ∧ PoolAt w' q k [] 0 := by
   rcases hG ⟨2, 12, []⟩ (by simp) with ⟨e, _⟩ | ⟨e, _⟩ | ⟨e, _⟩ | ⟨e, _⟩ | ⟨_, h⟩
   ·simp at e
   ·simp at e
   ·simp at e
   ·simp at e
   ·exact h
  obtain ⟨bn, e5, hbn, hs5⟩ : ∃ b, vs 6 = .slice (some ⟨b, 0, none⟩) n1 n1 ∧ w0.heap.size ≤ b ∧ w'.heap[b]? = some (.cells (List.replicate n1 [Value.int .i64 0, Value.slice none 0 0, Value.bool false]).flatten.toArray 93 (0, 0)) := by
   rcases hG ⟨6, 16, []⟩ (by simp) with ⟨_, h⟩ | ⟨e, _⟩ | ⟨e, _⟩ | ⟨e, _⟩ | ⟨e, _⟩
   ·exact h
   all_goals (simp at e)
  obtain ⟨br, e9, hbr, hr9⟩ : ∃ b, vs 10 = .slice (some ⟨b, 0, none⟩) n1 n1 ∧ w0.heap.size ≤ b ∧ w'.heap[b]? = some (.cells (List.replicate n1 (Value.slice none 0 0)).toArray 39 (0, 0)) := by
   rcases hG ⟨10, 20, []⟩ (by simp) with ⟨e, _⟩ | ⟨_, h⟩ | ⟨e, _⟩ | ⟨e, _⟩ | ⟨e, _⟩
   ·simp at e
   ·exact h
   all_goals (simp at e)
  obtain ⟨bu, e13, hbu, hr13⟩ : ∃ b, vs 14 = .slice (some ⟨b, 0, none⟩) n1 n1 ∧ w0.heap.size ≤ b ∧ w'.heap[b]? = some (.cells (List.replicate n1 (Value.slice none 0 0)).toArray 39 (0, 0)) := by
   rcases hG ⟨14, 24, []⟩ (by simp) with ⟨e, _⟩ | ⟨_, h⟩ | ⟨e, _⟩ | ⟨e, _⟩ | ⟨e, _⟩
   ·simp at e
   ·exact h
   all_goals (simp at e)
  obtain ⟨bd, e18, hbd, hr18⟩ : ∃ b, vs 19 = .slice (some ⟨b, 0, none⟩) n3 n3 ∧ w0.heap.size ≤ b ∧ boolRow w' b (List.replicate n3 true) := by
   rcases hG ⟨19, 29, [15]⟩ (by simp) with ⟨e, _⟩ | ⟨e, _⟩ | ⟨e, _⟩ | ⟨_, h⟩ | ⟨e, _⟩
   ·simp at e
   ·simp at e
   ·simp at e
   ·exact h
   ·simp at e
  have hne : br ≠ bu := fun e => by
   have := hX ⟨10, 20, []⟩ (by simp) ⟨14, 24, []⟩ (by simp) (by decide)
   simp only [e9, e13] at this
   exact this br (by simp [Value.ownBlock]) (by simp [Value.ownBlock, e])
  have HMB := Lib.hid (show NwB w' bn br bu bd n1 n3 from ⟨hs5, hr9, hr13, hr18⟩)
  have HPQ := Lib.hid hs2
  have HFW := Lib.hid (HFD.out.tr0 hf')
  have HNE := Lib.hid hne
  have HLE := Lib.hid (show w0.heap.size ≤ q ∧ w0.heap.size ≤ bn ∧ w0.heap.size ≤ br ∧ w0.heap.size ≤ bu ∧ w0.heap.size ≤ bd from ⟨hqq, hbn, hbr, hbu, hbd⟩)
  rw [e2, e5, e9, e13, e18]
  generalize vs 15 = v15
  clear hG hX e2 e5 e9 e13 e18 hs2 hs5 hr9 hr13 hr18 hne hf' hbn hbr hbu hbd hqq
  apply wpT_t
  ·intro w2 hf2
   go_wp2_with fail
   exact ⟨rfl, rfl⟩
  refine wpT_x ?_
  go_wp2_with fail
  refine ⟨Fr.alloc _ _, rfl, ?_⟩
  apply wpT_t
  ·intro w2 hf2
   go_wp2_with fail
   exact ⟨rfl, rfl⟩
  refine wpT_end ?_
  have hobj := heap_alloc_new w' (.cells #[Value.slice a1 n1 c1, Value.slice a2 n2 c2, Value.slice a3 n3 c3, Value.pointer (some ⟨q + 2, 0, none⟩), Value.slice (some ⟨bn, 0, none⟩) n1 n1, Value.slice none 0 0, Value.slice none 0 0, Value.slice (some ⟨br, 0, none⟩) n1 n1, Value.slice (some ⟨bu, 0, none⟩) n1 n1, Value.slice (some ⟨bd, 0, none⟩) n3 n3] 66)
  have hfO := Fr.alloc w' (.cells #[Value.slice a1 n1 c1, Value.slice a2 n2 c2, Value.slice a3 n3 c3, Value.pointer (some ⟨q + 2, 0, none⟩), Value.slice (some ⟨bn, 0, none⟩) n1 n1, Value.slice none 0 0, Value.slice none 0 0, Value.slice (some ⟨br, 0, none⟩) n1 n1, Value.slice (some ⟨bu, 0, none⟩) n1 n1, Value.slice (some ⟨bd, 0, none⟩) n3 n3] 66)
  obtain ⟨w1, hw1⟩ : ∃ w1, w1 = w'.alloc (.cells #[Value.slice a1 n1 c1, Value.slice a2 n2 c2, Value.slice a3 n3 c3, Value.pointer (some ⟨q + 2, 0, none⟩), Value.slice (some ⟨bn, 0, none⟩) n1 n1, Value.slice none 0 0, Value.slice none 0 0, Value.slice (some ⟨br, 0, none⟩) n1 n1, Value.slice (some ⟨bu, 0, none⟩) n1 n1, Value.slice (some ⟨bd, 0, none⟩) n3 n3] 66) := ⟨_, rfl⟩
  obtain ⟨p, hp⟩ : ∃ p, p = w'.heap.size := ⟨_, rfl⟩
  rw [← hw1] at hobj hfO ⊢
  rw [← hp] at hobj ⊢
  have HLP := Lib.hid (show w0.heap.size ≤ p by rw [hp]; exact HFW.out.size)
  have HW1 := Lib.hid (show NwW w0 w1 p q bn br bu bd n1 n3 k (.slice a1 n1 c1) (.slice a2 n2 c2) (.slice a3 n3 c3) [] (.slice none 0 0) from ⟨hobj, ownsS.nil _ _ _ _, CoreAt.start (HPQ.out.later hfO), by simp, HMB.out.keep hfO (by simp), HFW.out.tr0 hfO⟩)
  obtain ⟨x0, x1, x2, -⟩ := three_of_heap (HW1.out.fr.heap HB.out (by simp))
  clear hobj hfO hw1 hp HMB HPQ HFW HFD
  go_wp2_with fail
  clear x0 x1 x2
  go_loopw [35] (NwL w0 p q bn br bu bd n1 n3 k (.slice a1 n1 c1) (.slice a2 n2 c2) (.slice a3 n3 c3)) (fun iv _ => n1 - (intOf iv).toNat)
  case atStart => exact ⟨[], _, Nat.zero_le _, rfl, HW1.out⟩
  case round =>
   clear HW1
   obtain ⟨us, v, hi, rfl, hws⟩ := hrel
   have HWS := Lib.hid hws
   obtain ⟨i, hie⟩ : ∃ i, i = us.length := ⟨_, rfl⟩
   have HIE := Lib.hid hie
   rw [← hie] at hi ⊢
   by_cases hin : i < n1
   ·have hd1 : decide (i < n1) = true := decide_eq_true hin
    obtain ⟨a5, c5, rfl, hc5, hm5⟩ := owns_slice hws.row.owns
    clear hws hie
    go_upto_region 4 with fail
    refine wp_region_Y (Value.slice a5 us.length c5).ownBlock.toList 14 [(0, false), (1, false), (2, false), (3, false), (4, false), (5, false), (6, false), (7, false), (8, false), (9, true), (10, true), (11, true), (12, true), (13, true), (14, true)] 118 rfl (by kernel_rfl) (by kernel_rfl) (by kernel_rfl) (fun c a d v w h => by cases d <;> exact h) (fun w4 hf4 => ?_)
    simp only [List.map_cons, List.map_nil, List.getElem?_toArray, List.getElem?_cons_succ, List.getElem?_cons_zero, Option.getD_some]
    have h4 := HWS.out.later hf4
    have hnp : p ∉ (Value.slice a5 us.length c5).ownBlock.toList := fun hm => by
     obtain ⟨cs, hc⟩ := owns_block h4.row.owns hm
     exact ne_type hc h4.obj (by decide) rfl
    have LA : Hid (Later (Value.slice a5 us.length c5).ownBlock.toList w4 (fun w' => w'.cell? ⟨p, 3, none⟩ = some (.pointer (some ⟨q + 2, 0, none⟩)) ∧ w'.cell? ⟨p, 6, none⟩ = some (.slice a5 us.length c5) ∧ w'.frozen? ⟨p, 6, none⟩ = false)) := Lib.hid (fun w' hf' => ⟨by rw [cell_of_heap (hf'.heap h4.obj hnp)]; rfl, by rw [cell_of_heap (hf'.heap h4.obj hnp)]; rfl, free_of_heap (hf'.heap h4.obj hnp) 6⟩)
    have H4 := Lib.hid h4
    clear h4 hf4 hnp
    repeat (apply walkZ_t; · (intro w' hf'; obtain ⟨p3, p6, p7⟩ := LA.out w' hf'; go_wp2_with fail; exact ⟨rfl, rfl⟩))
    refine walkZ_x ?_
    go_wp2_with (go_at_call 53; refine (punew q k [] w4).mono ?_; rintro e w5 ⟨rfl, hu5, hf5, hs5⟩)
    refine ⟨.inr (hf5.mono (by simp)), rfl, ?_⟩
    have HF5 := Lib.hid hf5
    have HU5 := Lib.hid hu5
    have hro5 := H4.out.row.kept hf5 (by simp)
    have hsz5 : w0.heap.size ≤ w5.heap.size := Nat.le_trans H4.out.fr.size hf5.size
    have HRO5 := Lib.hid hro5
    clear hf5 hu5 hs5 hro5
    refine walkZ_x ?_
    go_wp2_with fail
    refine ⟨(Fr.alloc w5 _).mono (by simp), rfl, ?_⟩
    refine walkZ_x ?_
    have hul : us.length ≤ 256 := by rw [← HIE.out]; omega
    go_wp2_with (at_builtin; refine wpL_appendSA rfl _ _ 63 rfl w0.heap.size 89 iP (.pointer none) 1 8 Tryz.underlying63 hiP hP0 hP1 hP2 rfl (by decide) (fun z hz x e => by subst e; simp [Value.cells] at hz) (.slice a5 us.length c5) us.length _ rfl HRO5.out [.pointer (some ⟨w4.heap.size + 2, 0, none⟩)] rfl (by simp [Value.oneCell']) (by simp [notS]) rfl (by omega) (by simp only [maxLen]; omega) hsz5 ?_; intro v8 w8 hown8 hf8 hb8)
    have hf8w : Fr (Value.slice a5 us.length c5).ownBlock.toList w5 w8 := (Fr.alloc w5 _).trans hf8 (by simp) (fun _ hk _ => hk)
    have hf58 : Fr (Value.slice a5 us.length c5).ownBlock.toList w4 w8 := (HF5.out.tr0 (Fr.alloc w5 _)).trans hf8 (by simp) (fun _ hk _ => hk)
    refine ⟨hf8, rfl, ?_⟩
    obtain ⟨a8, c8, rfl, hc8, hm8⟩ := owns_slice hown8.owns
    obtain ⟨p3, p6, p7⟩ := LA.out w8 hf58
    have HO8 := Lib.hid hown8
    clear hf58 hown8 hb8
    refine walkZ_x ?_
    go_wp2_with fail
    refine ⟨Fr.refl _ _, rfl, ?_⟩
    refine walkZ_x ?_
    go_wp2_with fail
    refine ⟨Fr.refl _ _, rfl, ?_⟩
    refine walkZ_x ?_
    go_wp2_with fail
    refine ⟨rfl, walkZ_end ?_⟩
    have hnx := H4.out.next HLP.out (notS_slice _ _ _) (notS_slice _ _ _) (notS_slice _ _ _) HF5.out HU5.out HO8.out hf8w
    have HNX := Lib.hid hnx
    have hll : (us ++ [w4.heap.size]).length = i + 1 := by rw [List.length_append, List.length_singleton, HIE.out]
    have HLL := Lib.hid hll
    clear hnx hll H4 HF5 HU5 HRO5 HO8 HWS LA p3 p6 p7 hf8w
    go_wp2_with fail
    go_roundw
    case rel => exact ⟨us ++ [w4.heap.size], _, by rw [HLL.out]; omega, by rw [HLL.out]; go_num, HNX.out⟩
    case measure => simp [intOf]; omega
   ·have hd1 : decide (i < n1) = false := decide_eq_false hin
    have hie1 : us.length = n1 := by rw [← hie]; omega
    obtain ⟨a4, c4, rfl, hc5, hm5⟩ := owns_slice hws.row.owns
    have HUL := Lib.hid hie1
    have HBIG := Lib.hid hws.big
    clear hws hie hie1
    go_upto_region 6 with fail
    refine wp_region_Y (plB q) 11 [(0, false), (1, false), (2, false), (3, false), (4, false), (5, false), (6, false), (7, false), (8, true), (9, true), (10, true), (11, true)] 118 rfl (by kernel_rfl) (by kernel_rfl) (by kernel_rfl) (fun c a d v w h => by cases d <;> exact h) (fun w4 hf4 => ?_)
    simp only [List.map_cons, List.map_nil, List.getElem?_toArray, List.getElem?_cons_succ, List.getElem?_cons_zero, Option.getD_some]
    have h4 := HWS.out.later hf4
    have hT : ∀ b ∈ plB q, ∀ cs t fr, w4.heap[b]? = some (.cells cs t fr) → t = 132 := fun b hb cs t fr hc => h4.core.pool.notT hb hc
    have hbx := h4.fr.heap HB.out (by simp)
    have hnq : q0 ∉ plB q := fun hm => absurd (hT _ hm _ _ _ hbx) (by decide)
    have hnp : p ∉ plB q := fun hm => absurd (hT _ hm _ _ _ h4.obj) (by decide)
    have LA : Hid (Later (plB q) w4 (fun w' => w'.cell? ⟨p, 3, none⟩ = some (.pointer (some ⟨q + 2, 0, none⟩)) ∧ w'.cell? ⟨p, 5, none⟩ = some (.slice none 0 0) ∧ w'.frozen? ⟨p, 5, none⟩ = false ∧ w'.heap[q0]? = some (.cells #[Value.slice a1 n1 c1, Value.slice a2 n2 c2, Value.slice a3 n3 c3] 25 (0, 0)))) := Lib.hid (fun w' hf' => ⟨by rw [cell_of_heap (hf'.heap h4.obj hnp)]; rfl, by rw [cell_of_heap (hf'.heap h4.obj hnp)]; rfl, free_of_heap (hf'.heap h4.obj hnp) 5, hf'.heap hbx hnq⟩)
    have HTM := Lib.hid (pterms q 0 k [] n2 w4 h4.core.pool hk1 hk4 hM256 (by omega))
    have H4 := Lib.hid h4
    clear h4 hf4 hnp hnq hbx hT HWS
    repeat (apply walkZ_t; · (intro w' hf'; obtain ⟨p3, p4, p5, pb⟩ := LA.out w' hf'; obtain ⟨x0, x1, x2, -⟩ := three_of_heap pb; go_wp2_with fail; exact ⟨rfl, rfl⟩))
    refine walkZ_x ?_
    go_wp2_with (go_at_call 54; refine HTM.out.mono ?_; rintro e w5 ⟨tv, U, ts, rfl, hrow5, hset5, hp5, hf5⟩)
    refine ⟨.inr hf5, rfl, ?_⟩
    have htm := H4.out.terms HUL.out HNE.out HLP.out HLE.out.1 HLE.out.2.1 (notS_slice _ _ _) (notS_slice _ _ _) (notS_slice _ _ _) hrow5 hset5 hp5 hf5 (by omega)
    obtain ⟨ta, tc, rfl, htc5, htm5⟩ := owns_slice hrow5.owns
    obtain ⟨tn, htn5⟩ : ∃ tn, tn = ts.length := ⟨_, rfl⟩
    rw [← htn5] at htm htc5 ⊢
    clear htn5
    have HTP := Lib.hid htm
    obtain ⟨p3, p4, p5, pb⟩ := LA.out w5 hf5
    clear htm hrow5 hset5 hp5 hf5 HTM H4 LA pb
    refine walkZ_x ?_
    go_wp2_with fail
    refine ⟨Fr.refl _ _, rfl, ?_⟩
    refine walkZ_x ?_
    go_wp2_with fail
    refine ⟨Fr.refl _ _, rfl, ?_⟩
    refine walkZ_x ?_
    go_wp2_with fail
    refine ⟨rfl, walkZ_end ?_⟩
    obtain ⟨w6, hw6⟩ : ∃ x, x = w5.setCell ⟨p, 5, none⟩ (.slice ta tn tc) := ⟨_, rfl⟩
    obtain ⟨T, hT⟩ : ∃ T : List Words, T = [] ++ U := ⟨_, rfl⟩
    obtain ⟨O, hO⟩ : ∃ O, O = nwObj (.slice a1 n1 c1) (.slice a2 n2 c2) (.slice a3 n3 c3) q bn br bu bd n1 n3 (.slice ta tn tc) (.slice a4 us.length c4) := ⟨_, rfl⟩
    obtain ⟨hz, hg, hf6, htn⟩ := HTP.out
    rw [← hw6] at hz hg hf6 ⊢
    rw [← hT, ← hO] at hz
    have HO := Lib.hid hO
    have HS1 := Lib.hid hz
    have HG1 := Lib.hid (show GrI w6 w0.heap.size br bu (List.replicate n1 (.slice none 0 0)) (List.replicate n1 (.slice none 0 0)) (RLs g.rules n1 0) (ULs g.rules n1 0) by rw [RLs_zero, ULs_zero]; exact hg)
    have HF1 := Lib.hid hf6
    have HTN := Lib.hid htn
    obtain ⟨x0, x1, x2, -⟩ := three_of_heap (HF1.out.heap HB.out (by simp))
    clear hw6 hT hO hz hg hf6 htn HTP p3 p4 p5 hin hd1 hi HIE
    go_wp2_with fail
    clear x0 x1 x2
    go_loopw [66] (NwO g w0 p q bn bd br bu n1 n3 n2 O (.slice ta tn tc) (.slice a4 us.length c4) k T 1000 us ts) (fun iv _ => n3 - (intOf iv).toNat)
    case atStart => exact ⟨0, _, _, Nat.zero_le _, rfl, HG1.out, ⟨quI_start _ _, quI_start _ _⟩, HS1.out, HF1.out⟩
    case round =>
     clear HG1 HS1 HF1
     obtain ⟨i, rv, uv, hi, rfl, hgr, hqu, hns, hfr⟩ := hrel
     have HGI := Lib.hid hgr
     have HNS := Lib.hid hns; have HQU := Lib.hid hqu; clear hqu
     have HFR := Lib.hid hfr
     by_cases hin : i < n3
     ·have hd1 : decide (i < n3) = true := decide_eq_true hin
      have hil : i < g.rules.length := by rw [← HN3.out]; exact hin
      obtain ⟨b3, o3, v3, e3, k0, k1, hiv⟩ := rule_cells (HGR.out w (Fr.refl _ _)) i hil
      subst e3
      replace k0 := (HF0.out.tr0 hfr).cell k0 (by simp)
      replace k1 := (HF0.out.tr0 hfr).cell k1 (by simp)
      have hrm := List.getElem_mem hil
      have hri : g.rules[i]? = some (g.rules[i]'hil) := List.getElem?_eq_getElem hil
      obtain ⟨r, hr⟩ : ∃ r, r = g.rules[i]'hil := ⟨_, rfl⟩
      rw [← hr] at k0 hrm hiv hri
      obtain ⟨hr1, hr2, hr3, hr4⟩ := HV.out.rules r hrm
      obtain ⟨la, hla⟩ := Int.eq_ofNat_of_zero_le hr1
      have hlaN : la < n1 := by rw [HN1.out]; omega
      rw [hla] at k0
      obtain ⟨a7, c7, rfl, hc7, hm7⟩ := hiv.form
      obtain ⟨nr, hnr⟩ : ∃ nr, nr = r.right.length := ⟨_, rfl⟩
      rw [← hnr] at hiv k1 hc7
      have hlr : la < rv.length := by rw [hgr.r.len, RLs_len]; exact hlaN
      have hll : la < (RLs g.rules n1 i).length := by rw [RLs_len]; exact hlaN
      have hown := hgr.r.own la hlr hll
      rw [RLs_get hll] at hown
      obtain ⟨av, hav⟩ : ∃ av, av = rv[la]'hlr := ⟨_, rfl⟩
      rw [← hav] at hown
      obtain ⟨xs, hxs⟩ : ∃ xs, xs = rIdx g.rules la i := ⟨_, rfl⟩
      have hxl : xs.length ≤ 4096 := by rw [hxs]; have := rIdx_len g.rules la i; omega
      rw [← hxs] at hown
      have hnext := RLs_next hri hla hll
      rw [RLs_get hll, ← hxs] at hnext
      have hbA := heap_alloc_new wr (.cells #[.int .i64 (la : Int), .slice a7 nr c7] 46)
      have hfA := Fr.alloc wr (.cells #[.int .i64 (la : Int), .slice a7 nr c7] 46)
      obtain ⟨wA, hwA⟩ : ∃ wA, wA = wr.alloc (.cells #[.int .i64 (la : Int), .slice a7 nr c7] 46) := ⟨_, rfl⟩
      obtain ⟨q3, hq3⟩ : ∃ q, q = wr.heap.size := ⟨_, rfl⟩
      rw [← hwA] at hbA hfA
      rw [← hq3] at hbA
      have HBA := Lib.hid hbA
      have HFA := Lib.hid hfA
      have HWA := Lib.hid hwA
      have HQ3 := Lib.hid hq3
      have HOWN := Lib.hid (owns_kept hown hfA (by simp))
      have HAV := Lib.hid hav
      have HXS := Lib.hid hxs
      have HNEXT := Lib.hid hnext
      have HRI := Lib.hid hri
      have HIV := Lib.hid (fun wx (hf : Fr [] w wx) => hiv.below hf)
      have hsyr : ∀ s ∈ r.right, s < (n1 : Int) ∧ -256 ≤ s := fun s hs => by have h5 := hr4 s hs; have h6 := HV.out.syms; rw [HN1.out]; omega
      have HSYR := Lib.hid hsyr
      have HNR := Lib.hid hnr
      have hnr64 : nr ≤ 64 := by rw [hnr]; exact hr3
      clear hr hrm hri hla hr1 hr2 hr3 hr4 hiv hgr hns hfr hown hav hxs hnext hbA hfA hwA hq3 hsyr hnr
      go_upto_region 10 with fail
      rw [← HWA.out, ← HQ3.out]
      clear k0 k1
      obtain ⟨a5, c5, rfl, hc5, hm5⟩ := owns_slice HOWN.out
      refine wp_region_Y (Value.slice a5 xs.length c5).ownBlock.toList 18 [(0, false), (1, false), (2, false), (3, false), (4, false), (5, false), (6, false), (7, false), (8, false), (9, false), (10, false), (11, false), (12, false), (13, false), (14, false), (15, true), (16, true), (17, true), (18, true)] 118 rfl (by kernel_rfl) (by kernel_rfl) (by kernel_rfl) (fun c a d v w h => by cases d <;> exact h) (fun w4 hf4 => ?_)
      simp only [List.map_cons, List.map_nil, List.getElem?_toArray, List.getElem?_cons_succ, List.getElem?_cons_zero, Option.getD_some]
      have hG4 := (HGI.out.later HFA.out).later hf4
      have hQ4 := quI_later (quI_later HQU.out HGI.out HFA.out) (HGI.out.later HFA.out) hf4
      have hS4 := (HNS.out.later HFA.out).later hf4
      have hO4 := owns_kept HOWN.out hf4 (by simp)
      have hB4 := hf4.heap HBA.out (by simp)
      have hnp := own_ne hO4 hS4.obj (by decide)
      have hnq := own_ne hO4 hB4 (by decide)
      have hnr' := own_ne hO4 hG4.r.row (by decide)
      have hcellr := hG4.r.cell hlr
      rw [← HAV.out] at hcellr
      have LA : Hid (Later (Value.slice a5 xs.length c5).ownBlock.toList w4 (fun w' => w'.heap[p]? = some (.cells O 66 (0, 0)) ∧ w'.heap[q3]? = some (.cells #[.int .i64 (la : Int), .slice a7 nr c7] 46 (0, 0)) ∧ w'.cell? ⟨br, la, none⟩ = some (.slice a5 xs.length c5) ∧ w'.frozen? ⟨br, la, none⟩ = false)) := Lib.hid (fun w' hf' => ⟨hf'.heap hS4.obj hnp, hf'.heap hB4 hnq, hf'.cell hcellr hnr', free_of_heap (hf'.heap hG4.r.row hnr') la⟩)
      have HG4 := Lib.hid hG4
      have HS4 := Lib.hid hS4
      have HO4 := Lib.hid hO4
      have HB4 := Lib.hid hB4
      have HOS4 := Lib.hid (ownsS_of hO4 (by have hq := hQ4.1 la hlr; rw [← HAV.out] at hq; exact hq))
      have HQ4 := Lib.hid hQ4
      have HF4 := Lib.hid ((HFR.out.tr0 HFA.out).tr0 hf4)
      clear hG4 hS4 hO4 hQ4 hB4 hf4 hnp hnq hnr' hcellr
      repeat (apply walkZ_t; · (intro w' hf'; obtain ⟨l1, l2, l3, l4⟩ := LA.out w' hf'; rw [HO.out] at l1; obtain ⟨y0, y1, -⟩ := two_cells l2; have p5 : w'.cell? ⟨p, 7, none⟩ = some (.slice (some ⟨br, 0, none⟩) n1 n1) := (by rw [cell_of_heap l1]; rfl); go_wp2_with fail; exact ⟨rfl, rfl⟩))
      refine walkZ_x ?_
      go_wp2_with fail
      have hfe := Fr.alloc w4 (.cells #[.int .i64 (i : Int)] 3)
      refine ⟨hfe.mono (by simp), rfl, ?_⟩
      have hB8 : w0.heap.size ≤ w4.heap.size := HF4.out.size
      refine walkZ_x ?_
      go_wp2_with (at_builtin; refine wpL_appendSA rfl _ _ 39 rfl w0.heap.size 3 iN (.int .i64 0) 1 8 Tryz.underlying39 hiN hN0 hN1 hN2 rfl (by decide) zeroInt (.slice a5 xs.length c5) xs.length (xs.map intV) rfl HOS4.out [.int .i64 (i : Int)] rfl (by simp [Value.oneCell']) (by simp [notS]) rfl (by omega) (by simp [maxLen]; omega) hB8 ?_; intro v9 w9 hown9 hf9 hb9)
      obtain ⟨a9, c9, rfl, hc9, hm9⟩ := owns_slice hown9.owns
      refine ⟨hf9, rfl, ?_⟩
      have hf49 : Fr (Value.slice a5 xs.length c5).ownBlock.toList w4 w9 := hfe.trans hf9 (by simp) (fun _ hk _ => hk)
      obtain ⟨l1, l2, l3, l4⟩ := LA.out w9 hf49
      have HF49 := Lib.hid hf49
      have HO9 := Lib.hid hown9
      have HB9 := Lib.hid hb9
      clear hf49 hown9 hb9 hf9 hfe l1 l2
      refine walkZ_x ?_
      go_wp2_with fail
      refine ⟨Fr.refl _ _, rfl, ?_⟩
      refine walkZ_x ?_
      go_wp2_with fail
      refine ⟨rfl, walkZ_end ?_⟩
      have hown4 : w4.ownsRow w0.heap.size 3 1 (rv[la]'hlr) xs.length (xs.map intV) := by rw [← HAV.out]; exact HO4.out
      have hll : la < (RLs g.rules n1 i).length := by rw [RLs_len]; exact hlaN
      have hgn := HG4.out.push (v' := .slice a9 (xs.length + 1) c9) (x := (i : Int)) hlr hll (w7 := w9) (by rw [RLs_get hll, ← HXS.out]; exact HO9.out.owns) (by rw [← HAV.out]; exact HF49.out) (by rw [← HAV.out]; exact HB9.out)
      rw [RLs_get hll, ← HXS.out, ← HNEXT.out] at hgn
      have hsn : NwTz _ _ _ _ _ _ _ _ _ _ _ _ _ _ _ _ := NwT.push HS4.out HG4.out HQ4.out.1 hlr (w9 := w9) (by rw [← HAV.out]; exact HF49.out) (.slice a9 (xs.length + 1) c9)
      have hqn := QuI.push HG4.out HQ4.out.1 HQ4.out.2 hlr (w' := w9) (by rw [← HAV.out]; exact HF49.out) HO9.out
      have hbn := keepT (i := la) (v' := .slice a9 (xs.length + 1) c9) HB4.out hown4 (by rw [← HAV.out]; exact HF49.out) HG4.out.r.row (by decide) (by decide)
      have hfn := HG4.out.fr (v' := .slice a9 (xs.length + 1) c9) hlr (w7 := w9) (by rw [← HAV.out]; exact HF49.out) HF4.out (Nat.le_refl _) HLE.out.2.2.1
      obtain ⟨w10, hw10⟩ : ∃ x, x = w9.setCell ⟨br, la, none⟩ (.slice a9 (xs.length + 1) c9) := ⟨_, rfl⟩
      rw [← hw10] at hgn hsn hbn hfn hqn ⊢
      rw [← UPs_zero g.rules n1 i r.right] at hgn
      have HST := Lib.hid (show NwI g w0 p q bn bd br bu n1 n3 n2 O (.slice ta tn tc) (.slice a4 us.length c4) k T 1000 us ts i r (.int .i64 0) w10 from ⟨0, _, uv, Nat.zero_le _, rfl, hgn, hqn, hsn, hfn⟩)
      obtain ⟨y0, y1, -⟩ := two_cells hbn
      clear hown4 hgn hsn hbn hfn hqn hw10 LA HG4 HS4 HO4 HOS4 HQ4 HB4 HF4 HF49 HO9 HB9 HGI HNS HQU HFR l3 l4
      go_wp2_with fail
      clear y0 y1
      go_loopw [92] (NwI g w0 p q bn bd br bu n1 n3 n2 O (.slice ta tn tc) (.slice a4 us.length c4) k T 1000 us ts i r) (fun jv _ => nr - (intOf jv).toNat)
      case atStart => exact HST.out
      case round =>
       clear HST
       obtain ⟨j, rv2, uv2, hj, rfl, hgr, hqu, hns, hfr⟩ := hrel
       rw [← HNR.out] at hj
       have HGI := Lib.hid hgr
       have HNS := Lib.hid hns; have HQU := Lib.hid hqu; clear hqu
       have HFR := Lib.hid hfr
       by_cases hjn : j < nr
       ·have hd3 : decide (j < nr) = true := decide_eq_true hjn
        have hjl : j < r.right.length := by rw [← HNR.out]; exact hjn
        obtain ⟨b8, o8, rfl, hcell⟩ := int_cell (HIV.out wr (HF0.out.tr0 hfr)) j hjl
        have hsr := HSYR.out _ (List.getElem_mem hjl)
        obtain ⟨s, hs⟩ : ∃ s, s = r.right[j]'hjl := ⟨_, rfl⟩
        rw [← hs] at hcell hsr
        obtain ⟨hsr1, hsr2⟩ := hsr
        have HSE := Lib.hid hs
        have HIT := Lib.hid (isTerm_f s wr)
        by_cases hneg : s < 0
        ·have hd4 : decide (s < 0) = true := decide_eq_true hneg
         rw [hd4] at HIT
         have hgn := hgr
         rw [← UPs_skip hjl (by rw [← hs]; exact hneg)] at hgn
         have HGN := Lib.hid hgn
         clear hgr hns hfr hs hgn
         go_wp2_with (go_at_call 55; refine HIT.out.mono ?_; rintro e w11 ⟨rfl, rfl⟩)
         go_roundw
         case rel => exact ⟨j + 1, rv2, uv2, by rw [← HNR.out]; omega, by go_num, HGN.out, HQU.out, HNS.out, HFR.out⟩
         case measure => simp [intOf]; omega
        ·have hd4 : decide (s < 0) = false := decide_eq_false hneg
         rw [hd4] at HIT
         obtain ⟨c, hc⟩ := Int.eq_ofNat_of_zero_le (show 0 ≤ s by omega)
         subst hc
         have hcN : c < n1 := by omega
         have hlu : c < uv2.length := by rw [hgr.u.len, UPs_len]; exact hcN
         have hlp : c < (UPs g.rules n1 i r.right j).length := by rw [UPs_len]; exact hcN
         have hown := hgr.u.own c hlu hlp
         have hnext := UPs_next hjl hs.symm hlp
         obtain ⟨xs2, hxs⟩ : ∃ x, x = (UPs g.rules n1 i r.right j)[c]'hlp := ⟨_, rfl⟩
         have hxl2 : xs2.length ≤ 300000 := by
          have h5 := uIdx_len g.rules c (fun r hr => (HV.out.rules r hr).2.2.1) i
          have h6 : (r.right.take j).count (c : Int) ≤ (r.right.take j).length := List.count_le_length
          rw [List.length_take] at h6
          rw [hxs, UPs_get hlp, List.length_append, List.length_replicate]
          omega
         obtain ⟨av2, hav⟩ : ∃ av, av = uv2[c]'hlu := ⟨_, rfl⟩
         rw [← hxs, ← hav] at hown
         rw [← hxs] at hnext
         have HOWN2 := Lib.hid hown
         have HAV2 := Lib.hid hav
         have HXS2 := Lib.hid hxs
         have HNEXT2 := Lib.hid hnext
         clear hgr hns hfr hs hown hav hxs hnext hneg hsr2
         go_upto_region 15 with (go_at_call 55; refine HIT.out.mono ?_; rintro e w11 ⟨rfl, rfl⟩)
         obtain ⟨a5, c5, rfl, hc5, hm5⟩ := owns_slice HOWN2.out
         refine wp_region_Y (Value.slice a5 xs2.length c5).ownBlock.toList 16 [(0, false), (1, false), (2, false), (3, false), (4, false), (5, false), (6, false), (7, false), (8, false), (9, false), (10, false), (11, false), (12, false), (13, true), (14, true), (15, true), (16, true)] 118 rfl (by kernel_rfl) (by kernel_rfl) (by kernel_rfl) (fun c a d v w h => by cases d <;> exact h) (fun w4 hf4 => ?_)
         simp only [List.map_cons, List.map_nil, List.getElem?_toArray, List.getElem?_cons_succ, List.getElem?_cons_zero, Option.getD_some]
         have hG4 := HGI.out.later hf4
         have hQ4 := quI_later HQU.out HGI.out hf4
         have hS4 := HNS.out.later hf4
         have hO4 := owns_kept HOWN2.out hf4 (by simp)
         have hnp := own_ne hO4 hS4.obj (by decide)
         have hnr' := own_ne hO4 hG4.u.row (by decide)
         have hcellr := hG4.u.cell hlu
         rw [← HAV2.out] at hcellr
         have LA : Hid (Later (Value.slice a5 xs2.length c5).ownBlock.toList w4 (fun w' => w'.heap[p]? = some (.cells O 66 (0, 0)) ∧ w'.cell? ⟨bu, c, none⟩ = some (.slice a5 xs2.length c5) ∧ w'.frozen? ⟨bu, c, none⟩ = false)) := Lib.hid (fun w' hf' => ⟨hf'.heap hS4.obj hnp, hf'.cell hcellr hnr', free_of_heap (hf'.heap hG4.u.row hnr') c⟩)
         have HG4 := Lib.hid hG4
         have HS4 := Lib.hid hS4
         have HO4 := Lib.hid hO4
         have HOS4 := Lib.hid (ownsS_of hO4 (by have hq := hQ4.2 c hlu; rw [← HAV2.out] at hq; exact hq))
         have HQ4 := Lib.hid hQ4
         have HF4 := Lib.hid (HFR.out.tr0 hf4)
         clear hG4 hS4 hO4 hQ4 hf4 hnp hnr' hcellr hcell
         repeat (apply walkZ_t; · (intro w' hf'; obtain ⟨l1, l3, l4⟩ := LA.out w' hf'; rw [HO.out] at l1; have p6 : w'.cell? ⟨p, 8, none⟩ = some (.slice (some ⟨bu, 0, none⟩) n1 n1) := (by rw [cell_of_heap l1]; rfl); go_wp2_with fail; exact ⟨rfl, rfl⟩))
         refine walkZ_x ?_
         go_wp2_with fail
         have hfe := Fr.alloc w4 (.cells #[.int .i64 (i : Int)] 3)
         refine ⟨hfe.mono (by simp), rfl, ?_⟩
         have hB8 : w0.heap.size ≤ w4.heap.size := HF4.out.size
         refine walkZ_x ?_
         go_wp2_with (at_builtin; refine wpL_appendSA rfl _ _ 39 rfl w0.heap.size 3 iN (.int .i64 0) 1 8 Tryz.underlying39 hiN hN0 hN1 hN2 rfl (by decide) zeroInt (.slice a5 xs2.length c5) xs2.length (xs2.map intV) rfl HOS4.out [.int .i64 (i : Int)] rfl (by simp [Value.oneCell']) (by simp [notS]) rfl (by omega) (by simp [maxLen]; omega) hB8 ?_; intro v9 w9 hown9 hf9 hb9)
         obtain ⟨a9, c9, rfl, hc9, hm9⟩ := owns_slice hown9.owns
         refine ⟨hf9, rfl, ?_⟩
         have hf49 : Fr (Value.slice a5 xs2.length c5).ownBlock.toList w4 w9 := hfe.trans hf9 (by simp) (fun _ hk _ => hk)
         obtain ⟨l1, l3, l4⟩ := LA.out w9 hf49
         have HF49 := Lib.hid hf49
         have HO9 := Lib.hid hown9
         have HB9 := Lib.hid hb9
         clear hf49 hown9 hb9 hf9 hfe l1
         refine walkZ_x ?_
         go_wp2_with fail
         refine ⟨Fr.refl _ _, rfl, ?_⟩
         refine walkZ_x ?_
         go_wp2_with fail
         refine ⟨rfl, walkZ_end ?_⟩
         have hown4 : w4.ownsRow w0.heap.size 3 1 (uv2[c]'hlu) xs2.length (xs2.map intV) := by rw [← HAV2.out]; exact HO4.out
         have hgn := HG4.out.symm.push (v' := .slice a9 (xs2.length + 1) c9) (x := (i : Int)) hlu hlp (w7 := w9) (by rw [← HXS2.out]; exact HO9.out.owns) (by rw [← HAV2.out]; exact HF49.out) (by rw [← HAV2.out]; exact HB9.out)
         rw [← HXS2.out, ← HNEXT2.out] at hgn
         have hsn : NwTz _ _ _ _ _ _ _ _ _ _ _ _ _ _ _ _ := NwT.push HS4.out HG4.out.symm HQ4.out.2 hlu (w9 := w9) (by rw [← HAV2.out]; exact HF49.out) (.slice a9 (xs2.length + 1) c9)
         have hqn := QuI.push HG4.out.symm HQ4.out.2 HQ4.out.1 hlu (w' := w9) (by rw [← HAV2.out]; exact HF49.out) HO9.out
         have hfn := HG4.out.symm.fr (v' := .slice a9 (xs2.length + 1) c9) hlu (w7 := w9) (by rw [← HAV2.out]; exact HF49.out) HF4.out (Nat.le_refl _) HLE.out.2.2.2.1
         have HGN := Lib.hid hgn.symm
         have HSN := Lib.hid hsn
         have HFN := Lib.hid hfn
         have HQN := Lib.hid hqn
         clear hown4 hgn hsn hfn hqn LA HG4 HS4 HO4 HOS4 HQ4 HF4 HF49 HO9 HB9 HGI HNS HQU HFR l3 l4
         go_wp2_with fail
         go_roundw
         case rel => exact ⟨j + 1, rv2, _, by rw [← HNR.out]; omega, by go_num, HGN.out, ⟨HQN.out.2, HQN.out.1⟩, HSN.out, HFN.out⟩
         case measure => simp [intOf]; omega
       ·have hd3 : decide (j < nr) = false := decide_eq_false hjn
        have hje : j = r.right.length := by rw [← HNR.out]; omega
        rw [hje, UPs_full HRI.out] at hgr
        have HGX := Lib.hid hgr
        clear hgr hns hfr
        go_wp2_with fail
        exact ⟨⟨i + 1, rv2, uv2, by omega, by go_num, HGX.out, HQU.out, HNS.out, HFR.out⟩, by simp [intOf]; omega⟩
     ·have hd1 : decide (i < n3) = false := decide_eq_false hin
      have hie : i = n3 := by omega
      clear hgr hns hfr
      go_wp2_with fail
      go_ret
      have h5 := HNS.out
      have h9 := HGI.out
      rw [HO.out] at h5
      rw [hie] at h9
      have hd := NwTz.done h5 h9 HTN.out hN256
      rw [HN1.out, HN3.out, HN2.out] at hd
      rw [HN1.out, HN3.out] at h9
      refine ⟨⟨p, q, bn, bd, br, bu, g.names.length, g.rules.length, g.terms.length, .slice a1 g.names.length c1, .slice a2 g.terms.length c2, .slice a3 g.rules.length c3, .slice ta tn tc, .slice a4 us.length c4, k, rv, uv, RLs g.rules g.names.length g.rules.length, ULs g.rules g.names.length g.rules.length, us, ts⟩, T, rfl, ?_, ?_, ?_, rfl, rfl, rfl, rfl, rfl, rfl, ?_, hd, HF0.out.tr0 HFR.out⟩
      ·rw [HN1.out]
      ·rw [HN2.out]
      ·rw [HN3.out]
      ·intro b hb
       have h6 := HF0.out.size
       have h7 := HLE.out
       have h8 := HBIG.out
       unfold SeaC.wb at hb
       rcases List.mem_cons.1 hb with rfl | hb
       ·exact Nat.le_trans h6 h7.2.1
       rcases List.mem_cons.1 hb with rfl | hb
       ·exact Nat.le_trans h6 h7.2.2.2.2
       ·rcases List.mem_append.1 hb with hb | hb
        ·rw [mem_plB] at hb
         have := h7.1
         simp only at hb
         omega
        ·obtain ⟨u, hu, hb⟩ := List.mem_flatMap.1 hb
         rw [mem_plB] at hb
         have := h8 u hu
         omega
end Go.Proofs.YtnaamjpiaekmeaaGreat
namespace Go.Proofs.YtnaamjpiaekmeaaGreat
open Go.RowKit Go.Maps
set_option maxRecDepth 100000 in
set_option maxHeartbeats 8000000 in
theorem psets_bad (hCk : ProgCheck) (g : GramG) (gv : Value) (k : Int) (w : World) (hg : gramAt w gv g) (hz : SizeG g) (hi : IntG g) (hb : k < 1 ∨ 4 < k ∨ checkG g ≠ 0) : Calls Tryz.prog 11 #[gv, .int .i64 k] w (FirstGot g k w) := by
 obtain ⟨a1, c1, a2, c2, a3, c3, rfl, HF0, HB⟩ := box_gram hg
 obtain ⟨w0, hw0⟩ : ∃ w0, w0 = w.alloc (.cells #[.slice a1 g.names.length c1, .slice a2 g.terms.length c2, .slice a3 g.rules.length c3] 25) := ⟨_, rfl⟩
 obtain ⟨q0, hq0⟩ : ∃ q0, q0 = w.heap.size := ⟨_, rfl⟩
 rw [← hw0] at HF0 HB
 rw [← hq0] at HB
 have HCK := Lib.hid (hCk g _ w0 (hg.below HF0.out) hz hi)
 have HW0 := Lib.hid hw0
 have HQ0 := Lib.hid hq0
 have HOUT := Lib.hid (show FirstOut g k [] 1 from .inl ⟨hb, rfl, rfl⟩)
 obtain ⟨n2, hn2⟩ : ∃ n, n = g.terms.length := ⟨_, rfl⟩
 obtain ⟨n1, hn1⟩ : ∃ n, n = g.names.length := ⟨_, rfl⟩
 obtain ⟨n3, hn3⟩ : ∃ n, n = g.rules.length := ⟨_, rfl⟩
 rw [← hn1, ← hn2, ← hn3] at HB HW0 HCK ⊢
 obtain ⟨C, hC⟩ : ∃ C, C = checkG g := ⟨_, rfl⟩
 rw [← hC] at HCK hb
 obtain ⟨x0, x1, x2, -⟩ := three_of_heap HB.out
 clear hw0 hq0 hg hz hi hCk hn1 hn2 hn3 hC
 have fin : ∀ wx, Fr [] w wx → FirstGot g k w (.returned (.tuple #[.slice none 0 0, .int .i64 1])) wx := fun wx hf => ⟨_, [], 1, rfl, sets_nil wx, HOUT.out, hf⟩
 have HFIN := Lib.hid fin
 clear fin
 by_cases h0 : C = 0
 ·have d0 : (C == 0) = true := by rw [beq_iff_eq]; exact h0
  have d0b : (C != 0) = false := by rw [bne_eq_false_iff_eq]; exact h0
  have d0c : (!(C == 0)) = false := by rw [d0]; rfl
  by_cases h1 : k < 1
  ·have d1 : decide (k < 1) = true := decide_eq_true h1
   clear h1 hb h0
   go_enter Tryz.func11, Tryz.ntmps11
   go_upto_region 1 with fail
   rw [← HW0.out, ← HQ0.out]
   go_step3
   go_wp2_with (go_at_call 24; refine HCK.out.mono ?_; rintro e w3 ⟨rfl, hf3⟩)
   rw [Exit.noGoto_ret]
   go_ret2
   exact HFIN.out _ (HF0.out.tr0 hf3)
  ·have d1 : decide (k < 1) = false := decide_eq_false h1
   have h2 : 4 < k := by omega
   have d2 : decide (4 < k) = true := decide_eq_true h2
   clear h1 h2 hb h0
   go_enter Tryz.func11, Tryz.ntmps11
   go_upto_region 1 with fail
   rw [← HW0.out, ← HQ0.out]
   go_step3
   go_wp2_with (go_at_call 24; refine HCK.out.mono ?_; rintro e w3 ⟨rfl, hf3⟩)
   rw [Exit.noGoto_ret]
   go_ret2
   exact HFIN.out _ (HF0.out.tr0 hf3)
 ·have d3 : (C == 0) = false := by rw [beq_eq_false_iff_ne]; exact h0
  have d3b : (C != 0) = true := by rw [bne_iff_ne]; exact h0
  have d3c : (!(C == 0)) = true := by rw [d3]; rfl
  clear hb h0
  go_enter Tryz.func11, Tryz.ntmps11
  go_upto_region 1 with fail
  rw [← HW0.out, ← HQ0.out]
  go_step3
  go_wp2_with (go_at_call 24; refine HCK.out.mono ?_; rintro e w3 ⟨rfl, hf3⟩)
  rw [Exit.noGoto_ret]
  go_ret2
  exact HFIN.out _ (HF0.out.tr0 hf3)
def lenV : Option Value → Nat
 | some (.slice _ m _) => m
 | _ => 0
def sumV (w : World) (b n : Nat) : Nat := ((List.range n).map fun a => lenV (w.cell? ⟨b, a * 3 + 1, none⟩)).sum
theorem SeaAt.sum {w : World} {c : SeaC} {T : List Words} {m : Nat} {Ks : List Words} {xs : List (List Value)} {ls : List Words} {D : List Bool} (h : SeaAt w c T m Ks xs ls D) : sumV w c.bn ls.length = (ls.map List.length).sum := by
 unfold sumV
 congr 1
 apply List.ext_getElem
 ·simp
 ·intro i h1 h2
  have hi : i < ls.length := by simpa using h1
  have hv : i < xs.length := by rw [h.sets.len]; exact hi
  simp only [List.getElem_map, List.getElem_range]
  obtain ⟨n, a, c', b, e, -⟩ := h.sets.at_ i hv hi
  rw [(names_cells h.names h.sets.three hv e).2.1]
  rfl
theorem SeaAt.wb_lt {w : World} {c : SeaC} {T : List Words} {m : Nat} {Ks : List Words} {xs : List (List Value)} {ls : List Words} {D : List Bool} (h : SeaAt w c T m Ks xs ls D) : ∀ b ∈ c.wb, b < w.heap.size := fun b hb => by
 unfold SeaC.wb at hb
 rcases List.mem_cons.1 hb with rfl | hb
 ·exact (Array.getElem?_eq_some_iff.1 h.names).1
 rcases List.mem_cons.1 hb with rfl | hb
 ·have h2 := h.due
  unfold boolRow at h2
  exact (Array.getElem?_eq_some_iff.1 h2).1
 rcases mem_coreB hb with hb | ⟨i, hi, hb⟩
 ·rw [mem_plB] at hb
  obtain ⟨c', _, _, h9⟩ := h.core.pool.obj
  have := (Array.getElem?_eq_some_iff.1 h9).1
  omega
 ·rw [mem_plB] at hb
  obtain ⟨n, y, b', V, h9, _⟩ := (h.core.unis i hi (by rw [← h.core.len]; exact hi)).obj
  have := (Array.getElem?_eq_some_iff.1 h9).1
  omega
theorem SeaR.later {g : GramG} {c : SeaC} {T : List Words} {m : Nat} {w w' : World} {ls : List Words} {D : List Bool} (h : SeaR g c T m w ls D) (hf : Fr [] w w') : SeaR g c T m w' ls D := by
 obtain ⟨U, Ks, xs, h1, h2, h3⟩ := h
 exact ⟨U, Ks, xs, h1.later hf, h2, h3⟩
theorem SeaR.mono {g : GramG} {c : SeaC} {T : List Words} {m m' : Nat} {w : World} {ls : List Words} {D : List Bool} (h : SeaR g c T m w ls D) (hm : m ≤ m') : SeaR g c T m' w ls D := by
 obtain ⟨U, Ks, xs, h1, h2, h3⟩ := h
 exact ⟨U, Ks, xs, h1.mono hm, h2, h3⟩
theorem SeaR.sum {g : GramG} {c : SeaC} {T : List Words} {m : Nat} {w : World} {ls : List Words} {D : List Bool} (h : SeaR g c T m w ls D) : sumV w c.bn ls.length = (ls.map List.length).sum := by
 obtain ⟨U, Ks, xs, h1, h2, h3⟩ := h
 exact h1.sum
def StRel (g : GramG) (c : SeaC) (T : List Words) (w1 : World) (wx : World) : Prop :=
 ∃ (ls : List Words) (D : List Bool), SeaR g c T (1000 + 281600000 * (ls.map List.length).sum) wx ls D ∧ Fr c.wb w1 wx
theorem small_sum {ls : List Words} {N : Nat} (hl : ls.length = N) (h : ∀ i (h : i < ls.length), (ls[i]'h).length ≤ 4096) : (ls.map List.length).sum ≤ N * 4096 := by
 rw [← hl]
 exact sum_most ls 4096 (fun l hm => by obtain ⟨i, hi, rfl⟩ := List.getElem_of_mem hm; exact h i hi)
theorem RestU.start (n : Nat) : RestU (List.replicate n []) (List.replicate n []) := ⟨by simp, fun i h1 h2 => by
 simp only [List.getElem_replicate]
 simp [ofW]⟩
set_option maxRecDepth 100000 in
set_option maxHeartbeats 8000000 in
theorem psets_good (hW : ProgWCat) (hCk : ProgCheck) (g : GramG) (gv : Value) (k : Int) (w : World) (hg : gramAt w gv g) (hz : SizeG g) (hi : IntG g) (hk1 : 1 ≤ k) (hk4 : k ≤ 4) (hc : checkG g = 0) : Calls Tryz.prog 11 #[gv, .int .i64 k] w (FirstGot g k w) := by
 obtain ⟨a1, c1, a2, c2, a3, c3, rfl, HF0, HB⟩ := box_gram hg
 have hgr : rulesAt w (.slice a3 g.rules.length c3) g.rules := by
  obtain ⟨x, y, z, e, -, -, h⟩ := hg
  simp only [Value.agg.injEq, Array.mk.injEq, List.cons.injEq, and_true] at e
  rw [e.2.2]; exact h
 obtain ⟨w0, hw0⟩ : ∃ w0, w0 = w.alloc (.cells #[.slice a1 g.names.length c1, .slice a2 g.terms.length c2, .slice a3 g.rules.length c3] 25) := ⟨_, rfl⟩
 obtain ⟨q0, hq0⟩ : ∃ q0, q0 = w.heap.size := ⟨_, rfl⟩
 rw [← hw0] at HF0 HB
 rw [← hq0] at HB
 have hv := check_valid hc
 have HCK := Lib.hid (hCk g _ w0 (hg.below HF0.out) hz hi)
 rw [hc] at HCK
 have HW0 := Lib.hid hw0
 have HQ0 := Lib.hid hq0
 have HV := Lib.hid hv
 have HC := Lib.hid hc
 have HGA := Lib.hid (fun wx (hf : Fr [] w wx) => pnew g _ k wx (hg.below hf) hv _ _ _ rfl hk1 hk4)
 have HGR := Lib.hid (fun wx (hf : Fr [] w wx) => hgr.below hf)
 have hN256 : g.names.length ≤ 256 := by have := hv.syms; omega
 obtain ⟨n2, hn2⟩ : ∃ n, n = g.terms.length := ⟨_, rfl⟩
 obtain ⟨n1, hn1⟩ : ∃ n, n = g.names.length := ⟨_, rfl⟩
 obtain ⟨n3, hn3⟩ : ∃ n, n = g.rules.length := ⟨_, rfl⟩
 have HGA2 := Lib.hid (show ∀ wx, Fr [] w wx → Calls Tryz.prog 25 #[.agg #[.slice a1 n1 c1, .slice a2 n2 c2, .slice a3 n3 c3], .int .i64 k] wx (NwGot g k (.slice a1 n1 c1) (.slice a2 n2 c2) (.slice a3 n3 c3) wx) from fun wx hf => by
  rw [hn1, hn2, hn3]
  exact HGA.out wx hf)
 have HN1 := Lib.hid hn1
 have HN3 := Lib.hid hn3
 rw [← hn1, ← hn2, ← hn3] at HB HW0 HCK ⊢
 rw [← hn3] at HGR
 rw [← hn1] at hN256
 obtain ⟨x0, x1, x2, -⟩ := three_of_heap HB.out
 have d0 : ((0 : Int) == 0) = true := rfl
 have d1 : decide (k < 1) = false := decide_eq_false (by omega)
 have d2 : decide (4 < k) = false := decide_eq_false (by omega)
 clear hw0 hq0 hg hz hi hCk hn1 hn2 hn3 hv hgr hc HGA
 go_enter Tryz.func11, Tryz.ntmps11
 go_upto_region 1 with fail
 rw [← HW0.out, ← HQ0.out]
 go_step3
 go_upto_region 3 with (go_at_call 24; refine HCK.out.mono ?_; rintro e w3 ⟨rfl, hf3⟩; have HF3 := Lib.hid (HF0.out.tr0 hf3); have HB3 := Lib.hid (hf3.heap HB.out (by simp)); clear hf3 x0 x1 x2; obtain ⟨x0, x1, x2, -⟩ := three_of_heap HB3.out)
 go_upto_region 4 with (go_at_call 25; refine (HGA2.out _ HF3.out).mono ?_; rintro e w4 ⟨c, T, rfl, hx1, hx2, hx3, hck, hcN, hcR, hcM, hcrl, hcul, hwb, hsc, hf4⟩; have HX := Lib.hid (show c.x1 = .slice a1 n1 c1 ∧ c.x3 = .slice a3 n3 c3 from ⟨hx1, hx3⟩); have HCK2 := Lib.hid hck; have HCN := Lib.hid hcN; have HCR := Lib.hid hcR; have HCM := Lib.hid hcM; have HCL := Lib.hid (show c.rl = RLs g.rules c.N c.R ∧ c.ul = ULs g.rules c.N c.R from ⟨hcrl, hcul⟩); have HSC := Lib.hid hsc; have HF4 := Lib.hid hf4; have HWB := Lib.hid hwb; clear hx1 hx2 hx3 hck hcN hcR hcM hcrl hcul hwb hsc hf4 x0 x1 x2)
 have hfa := Fr.alloc w4 (.cells #[.pointer (some ⟨c.p, 0, none⟩)] 57)
 have hba := heap_alloc_new w4 (.cells #[.pointer (some ⟨c.p, 0, none⟩)] 57)
 obtain ⟨w5, hw5⟩ : ∃ x, x = w4.alloc (.cells #[.pointer (some ⟨c.p, 0, none⟩)] 57) := ⟨_, rfl⟩
 obtain ⟨q6, hq6⟩ : ∃ x, x = w4.heap.size := ⟨_, rfl⟩
 rw [← hw5] at hfa hba ⊢
 rw [← hq6] at hba ⊢
 have HB5 := Lib.hid ((HF4.out.tr0 hfa).heap HB3.out (by simp))
 have HBA := Lib.hid hba
 have HF5 := Lib.hid ((HF3.out.tr0 HF4.out).tr0 hfa)
 have HS0 := Lib.hid (show SeaR g c T 1000 w5 (List.replicate g.names.length []) (List.replicate g.rules.length true) from ⟨[], _, _, by rw [List.append_nil]; exact HSC.out.later hfa, SchS.start g c.k, RestU.start _⟩)
 have HSG := Lib.hid (show SeaG g c from ⟨HV.out, by rw [HCK2.out]; exact hk1, by rw [HCK2.out]; exact hk4, HCN.out, HCR.out, HCM.out, HCL.out.1, HCL.out.2⟩)
 have hcn1 : c.N = n1 := by rw [HCN.out, HN1.out]
 have hcr3 : c.R = n3 := by rw [HCR.out, HN3.out]
 have HCN1 := Lib.hid hcn1
 have HCR3 := Lib.hid hcr3
 clear hcn1 hcr3
 have HNS := Lib.hid (show q0 ∉ c.wb ∧ q6 ∉ c.wb ∧ ∀ b ∈ c.wb, w.heap.size ≤ b from by
  have h3 := HF3.out.size
  have h4 : q0 < w3.heap.size := (Array.getElem?_eq_some_iff.1 HB3.out).1
  refine ⟨fun hm => ?_, fun hm => ?_, fun b hb => Nat.le_trans h3 (HWB.out b hb)⟩
  ·have := HWB.out _ hm; omega
  ·have := HSC.out.wb_lt _ hm; omega)
 have HRD := Lib.hid (fun (m : Nat) (ls' : List Words) (D' : List Bool) (wx : World) (hf : Fr c.wb w5 wx) (hA' : SeaR g c T m wx ls' D') (hm : m ≤ 6000000000000000) =>
  pround hW g c T m ls' D' q0 q6 a1 c1 a3 c3 wx HSG.out (by rw [HCR3.out]; exact HX.out.2)
   ((RulesK.of (L := c.wb) (HGR.out w (Fr.refl _ _)) HF5.out HNS.out.2.2).next hf)
   (by rw [HCN1.out]; exact hf.cell (three_of_heap HB5.out).1 HNS.out.1) (hf.cell (by rw [cell_of_heap HBA.out]; rfl) HNS.out.2.1) HNS.out.2.1 hA' (by rw [HCN1.out]; exact hN256) hm)
 have HB0 := Lib.hid (fun wx (hf : Fr c.wb w5 wx) => (show Fr [] w wx from HF5.out.trans hf (by simp) (fun i hi hlt => by have h8 := HNS.out.2.2 i hi; omega)))
 clear hfa hba hw5 hq6 HCK HGA2 hW
 go_wp2_with fail
 go_step3
 go_wp2_with fail
 go_loopw [8] (fun _ wx => StRel g c T w5 wx) (fun _ wx => n1 * 4096 - sumV wx c.bn n1)
 case atStart => exact ⟨List.replicate g.names.length [], _, HS0.out.mono (Nat.le_add_right _ _), Fr.refl _ _⟩
 case round =>
  obtain ⟨ls', D', hsc, hfr⟩ := hrel
  have hss : SchS g c.k ls' D' := by obtain ⟨_, _, _, _, h, _⟩ := hsc; exact h
  have hlen : ls'.length = n1 := by rw [hss.sound.len, HN1.out]
  have hsum := hsc.sum
  rw [hlen] at hsum
  have HSUM := Lib.hid hsum
  have hmx := small_sum hlen hss.small
  have HMX := Lib.hid hmx
  have HFR := Lib.hid hfr
  have HRW := Lib.hid (HRD.out _ ls' D' wr hfr hsc (by omega))
  have c6 := hfr.cell (p := ⟨q6, 0, none⟩) (v := .pointer (some ⟨c.p, 0, none⟩)) (by rw [cell_of_heap HBA.out]; rfl) HNS.out.2.1
  clear hsc hss hfr hsum hmx
  go_upto_region 6 with (go_at_call 26; refine HRW.out.mono ?_; rintro e w6 ⟨z, rfl, hf6, hor⟩; have HF6 := Lib.hid hf6; have HOR := Lib.hid hor; clear hf6 hor)
  have HF56 := Lib.hid (show Fr c.wb w5 w6 from HFR.out.trans HF6.out (fun _ h _ => h) (fun _ h _ => h))
  have HFW6 := Lib.hid (HB0.out _ HF56.out)
  rcases HOR.out with ⟨rfl, hov⟩ | ⟨rfl, ls2, D2, hsc2, hrk2⟩
  ·have HOV := Lib.hid hov
   clear hov HOR c6
   go_wp2_with fail
   rw [Exit.noGoto_ret]
   go_ret2
   exact ⟨_, [], 21, rfl, sets_nil _, .inr ⟨⟨hk1, hk4, HC.out⟩, .inl ⟨by have h := HOV.out; rwa [HCK2.out] at h, rfl, rfl⟩⟩, HFW6.out⟩
  ·have hss2 : SchS g c.k ls2 D2 := by obtain ⟨_, _, _, _, h, _⟩ := hsc2; exact h
   have HSC2 := Lib.hid hsc2
   have HSS2 := Lib.hid hss2
   have HRK2 := Lib.hid hrk2
   have hDl : D2.length = n3 := by rw [hss2.due.len, HN3.out]
   have hn34 : n3 ≤ 4096 := by rw [HN3.out]; exact HV.out.few
   have hlen2 : ls2.length = n1 := by rw [hss2.sound.len, HN1.out]
   have c6' := HF56.out.cell (p := ⟨q6, 0, none⟩) (v := .pointer (some ⟨c.p, 0, none⟩)) (by rw [cell_of_heap HBA.out]; rfl) HNS.out.2.1
   obtain ⟨U2, Ks2, xs2, hsea2, -, hru2⟩ := hsc2
   have hbo := hsea2.due.at (by rw [hDl]; simp only [maxLen]; omega) c.R (by rw [HCR3.out, hDl])
   have hcn := pcontains_b D2 true _ w6 hbo
   obtain ⟨B, hB⟩ : ∃ B, B = decide (true ∈ D2) := ⟨_, rfl⟩
   rw [← hB] at hcn
   have HCN := Lib.hid hcn
   have HBE := Lib.hid hB
   have HLEN2 := Lib.hid hlen2
   have HDL := Lib.hid hDl
   have HSEA := Lib.hid hsea2
   obtain ⟨l0, l1, l2, l3, l4, l5, l6, l7, l8, l9⟩ := ten_of_heap hsea2.obj
   clear hss2 hrk2 hDl hbo hcn hB HOR c6 hlen2 hsea2 hru2
   cases B with
   | true =>
     have HNEWS := Lib.hid (show (ls'.map List.length).sum < (ls2.map List.length).sum from HRK2.out.news HSS2.out.due.len (fun r hr => (HV.out.rules r hr).1) (of_decide_eq_true HBE.out.symm))
     have HMX2 := Lib.hid (small_sum HLEN2.out HSS2.out.small)
     go_wp2_with (go_at_call 28; refine HCN.out.mono ?_; rintro e w7 ⟨rfl, hf7⟩; have HF7 := Lib.hid hf7; clear hf7)
     have hs7 := (HSC2.out.later HF7.out).sum
     rw [HLEN2.out] at hs7
     have h1 := HSUM.out
     have h2 := HNEWS.out
     have h3 := HMX2.out
     refine ⟨⟨ls2, D2, (HSC2.out.later HF7.out).mono (by omega), HF56.out.trans HF7.out (fun _ h _ => h) (by simp)⟩, ?_⟩
     rw [hs7, h1]
     omega
   | false =>
     have hEX := HSS2.out.exact (by rw [HCK2.out]; exact hk1) HV.out (of_decide_eq_false HBE.out.symm)
     rw [HCK2.out] at hEX
     have HEX := Lib.hid hEX
     clear hEX
     have HFD := Lib.hid (fun wx (hf : Fr [] w6 wx) => pfound c (T ++ U2) _ Ks2 xs2 ls2 D2 wx (HSEA.out.later hf))
     go_wp2_with (first
      | (go_at_call 28; refine HCN.out.mono ?_; rintro e w7 ⟨rfl, hf7⟩; have HF7 := Lib.hid hf7; clear hf7; clear l0 l1 l2 l3 l4 l5 l6 l7 l8 l9; replace c6' := HF7.out.cell c6' (by simp))
      | (go_at_call 29; refine (HFD.out w7 HF7.out).mono ?_; rintro e w8 ⟨v8, rfl, hs8, hf8⟩))
     rw [Exit.noGoto_ret]
     go_ret2
     exact ⟨_, ls2, 0, rfl, hs8, .inr ⟨⟨hk1, hk4, HC.out⟩, .inr ⟨HEX.out.2, rfl, HEX.out.1.1, HEX.out.1.2⟩⟩, (HFW6.out.tr0 HF7.out).tr0 hf8⟩
theorem psets_any (hW : ProgWCat) (hCk : ProgCheck) : ProgFirst := by
 intro g gv k w hg hz hi
 by_cases hb : k < 1 ∨ 4 < k ∨ checkG g ≠ 0
 ·exact psets_bad hCk g gv k w hg hz hi hb
 ·exact psets_good hW hCk g gv k w hg hz hi (by omega) (by omega) (by omega)
end Go.Proofs.YtnaamjpiaekmeaaGreat
namespace Go.Proofs.YtnaamjpiaekmeaaGreat
open Go.RowKit
theorem prog_first : ProgFirst := psets_any prog_wcat pcheck_any
theorem prog_fof : ProgFof := pof_any prog_wcat
end Go.Proofs.YtnaamjpiaekmeaaGreat
