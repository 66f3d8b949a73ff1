/- Several texts in one: SetB, RepB, SchM, SchP, OwnS. -/
import Derived.Maps.AppendAt
import Derived.Test.YtnaamjpiaekmeaaGreatDt
import Derived.Test.YtnaamjpiaekmeaaGreatPa
import Derived.Test.YtnaamjpiaekmeaaGreatTb
import Derived.Test.YtnaamjpiaekmeaaGreatBs
import Derived.Test.YtnaamjpiaekmeaaGreatMn
set_option linter.unusedVariables false
set_option linter.unusedSimpArgs false
namespace Go.Proofs.YtnaamjpiaekmeaaGreat
open Go.RowKit
structure SetB (wx : World) (b : Nat) (vs : List Value) (ls : List (List (List UInt8))) : Prop where
 row : wx.heap[b]? = some (.cells vs.toArray 22 (0, 0))
 len : vs.length = ls.length
 at_ : ∀ a (h : a < vs.length) (h' : a < ls.length), strsAt wx (vs[a]'h) (ls[a]'h')
section
variable {wx wy : World} {b : Nat} {vs : List Value} {ls : List (List (List UInt8))}
theorem SetB.later (h : SetB wx b vs ls) (hf : Fr [] wx wy) : SetB wy b vs ls := ⟨hf.heap h.row (by simp), h.len, fun a h1 h2 => (h.at_ a h1 h2).below hf⟩
theorem SetB.cell (h : SetB wx b vs ls) {a : Nat} (ha : a < vs.length) : wx.cell? ⟨b, a, none⟩ = some (vs[a]'ha) := by
 rw [cell_of_heap h.row]
 simp [ha]
theorem SetB.free (h : SetB wx b vs ls) (a : Nat) : wx.frozen? ⟨b, a, none⟩ = false := free_of_heap h.row a
theorem strs_stay {w : World} {b i : Nat} {vs : List Value} {u v : Value} {l : List (List UInt8)} (hr : w.heap[b]? = some (.cells vs.toArray 22 (0, 0))) (hv : ∀ x ∈ vs, ∃ a n c, x = .slice a n c) (h : strsAt w v l) : strsAt (w.setCell ⟨b, i, none⟩ u) v l := by
 rcases h with h | ⟨b', off, cap, e, h1, h2, h3⟩
 ·exact .inl h
 ·refine .inr ⟨b', off, cap, e, h1, h2, fun j hj => ?_⟩
  have h4 := h3 j hj
  refine (Fr.set0 w b i u).cell h4 (fun hm => ?_)
  have e2 : b' = b := by simpa using hm
  subst e2
  rw [cell_of_heap hr] at h4
  simp only [List.getElem?_toArray] at h4
  obtain ⟨hlt, h5⟩ := List.getElem?_eq_some_iff.1 h4
  obtain ⟨a, n, c, h6⟩ := hv _ (List.getElem_mem hlt)
  rw [h5, List.getElem_map] at h6
  cases h6
theorem SetB.slices (h : SetB wx b vs ls) : ∀ x ∈ vs, ∃ a n c, x = .slice a n c := fun x hx => by
 obtain ⟨a, ha, rfl⟩ := List.getElem_of_mem hx
 obtain ⟨p, c, e, -, -⟩ := (h.at_ a ha (by rw [← h.len]; exact ha)).form
 exact ⟨p, _, c, e⟩
theorem SetB.put (h : SetB wx b vs ls) {a : Nat} {u : Value} {l : List (List UInt8)} (hu : strsAt wx u l) : SetB (wx.setCell ⟨b, a, none⟩ u) b (vs.set a u) (ls.set a l) := by
 refine ⟨?_, by rw [List.length_set, List.length_set]; exact h.len, fun c h1 h2 => ?_⟩
 ·rw [heap_setCell_same h.row]
  simp
 ·rw [List.getElem_set, List.getElem_set]
  by_cases e : a = c
  ·subst e
   rw [if_pos rfl, if_pos rfl]
   exact strs_stay h.row h.slices hu
  ·rw [if_neg e, if_neg e]
   exact strs_stay h.row h.slices (h.at_ c (by rw [List.length_set] at h1; exact h1) (by rw [List.length_set] at h2; exact h2))
theorem SetB.sets (h : SetB wx b vs ls) (hm : ls.length ≤ maxLen) : setsAt wx (.slice (some ⟨b, 0, none⟩) ls.length ls.length) ls := by
 refine ⟨vs, h.len, .inr ⟨b, 0, ls.length, by rw [h.len], by rw [h.len]; exact Nat.le_refl _, hm, fun i hi => ?_⟩, h.at_⟩
 rw [Nat.zero_add]
 exact h.cell hi
theorem SetB.new {n : Nat} (h : wx.heap[b]? = some (.cells (List.replicate n (Value.slice none 0 0)).toArray 22 (0, 0))) : SetB wx b (List.replicate n (Value.slice none 0 0)) (List.replicate n []) :=
 ⟨h, by simp, fun a h1 h2 => by
  rw [List.getElem_replicate, List.getElem_replicate]
  exact cellsAt.nil _⟩
end
end Go.Proofs.YtnaamjpiaekmeaaGreat
namespace Go.Proofs.YtnaamjpiaekmeaaGreat
open Go.RowKit
theorem size1B : (Tryz.prog.info? 4).map (·.size) = some 1 := by kernel_rfl
def part2b (a : Bool) (n c : Nat) : List Bool := List.replicate c a ++ List.replicate (n - c) false
theorem part2b_len {a : Bool} {n c : Nat} (h : c ≤ n) : (part2b a n c).length = n := by simp [part2b]; omega
theorem part2b_full (a : Bool) (n : Nat) : part2b a n n = List.replicate n a := by simp [part2b]
theorem splice_part2b {a : Bool} {n c m : Nat} (h : c + m ≤ n) : splice ((part2b a n c).map Value.bool) c (List.replicate m (Value.bool a)) = (part2b a n (c + m)).map Value.bool := by
 have h1 : (List.replicate c a).length = c := by simp
 unfold splice part2b
 simp only [List.map_append, List.map_replicate, List.length_replicate]
 rw [List.take_append_of_le_length (by simp), List.take_of_length_le (by simp), List.drop_append, List.drop_eq_nil_of_le (by simp), List.drop_replicate, List.length_replicate, List.nil_append, ← List.append_assoc, List.replicate_append_replicate]
 rw [show n - c - (c + m - c) = n - (c + m) by omega]
def RpRelB (w : World) (g n : Nat) (a : Bool) (cv : Value) (wx : World) : Prop := ∃ c : Nat, c ≤ n ∧ (0 < n → 0 < c) ∧ cv = .int .i64 (c : Int) ∧ boolRow wx g (part2b a n c) ∧ Fr [] w wx
def RRepB (n : Nat) (a : Bool) (w : World) (e : Ending) (w' : World) : Prop := ∃ g, w.heap.size ≤ g ∧ e = .returned (.slice (some ⟨g, 0, none⟩) n n) ∧ boolRow w' g (List.replicate n a) ∧ Fr [] w w'
set_option maxRecDepth 100000 in
set_option maxHeartbeats 2000000 in
theorem prepeat_b (a : Bool) (n cx : Nat) (ax : Option Addr) (w : World) (h : boolsAt w (.slice ax 1 cx) [a]) (hn : n ≤ 1000000) (hn1 : 1 ≤ n) :
  Calls Tryz.prog 52 #[.slice ax 1 cx, .int .i64 (n : Int)] w (RRepB n a w) := by
 obtain ⟨iI, hiI, hz0, hz1, hz2⟩ := info_parts infoBool
 have hmul := Tryz.bits_Mul 1 n (by decide) (by omega)
 have e0 : 1 * n / 18446744073709551616 = 0 := by omega
 have e1 : 1 * n % 18446744073709551616 = n := by omega
 have hmul2 : ∀ wx, Calls Tryz.prog 96 #[.int .u64 1, .int .u64 (n : Int)] wx fun e w' => e = .returned (.tuple #[.int .u64 0, .int .u64 (n : Int)]) ∧ w' = wx := fun wx => by
  have := hmul wx
  rw [e0, e1] at this
  exact this
 have HMUL := Lib.hid hmul2
 have HX := Lib.hid h
 have d1 : decide ((n : Int) < 0) = false := decide_eq_false (by omega)
 have d2 : decide ((9223372036854775807 : Int) < (n : Int)) = false := decide_eq_false (by omega)
 clear hmul e0 e1 hmul2 h
 go_enter Tryz.func52, Tryz.ntmps52
 obtain ⟨bx, ox, rfl, hcx⟩ := bool_cell HX.out 0 (by simp)
 have hsrc : ∀ wx, Fr [] w wx → ∀ (j : Nat) (v : Value), [Value.bool a][j]? = some v → wx.cell? ((⟨bx, ox, none⟩ : Addr).add j) = some v := by
  intro wx hfx j v hj
  cases j with
  | succ j => simp at hj
  | zero =>
    simp at hj
    have hadd : (⟨bx, ox, none⟩ : Addr).add 0 = ⟨bx, ox + 0, none⟩ := by unfold Addr.add; split <;> simp_all
    rw [hadd, ← hj]
    exact hfx.cell hcx (by simp)
 have HSRC := Lib.hid hsrc
 clear hsrc hcx
 go_wp2_with (first
  | (go_at_call 96; refine (HMUL.out _).mono ?_; rintro e w1 ⟨rfl, hw1⟩; rw [hw1])
  | (refine wpL_make rfl _ _ 50 rfl 4 iI (.bool false) 1 Tryz.underlying50 hiI hz0 hz1 hz2 rfl n rfl rfl (by omega) (by simp [maxLen]; omega) ?_; intro w2 hh2 hf2 hs2)
  | (refine wpList_copy_splice rfl _ _ 50 50 rfl 4 Tryz.underlying50 size1B (some ⟨w.heap.size, 0, none⟩) (some ⟨bx, ox, none⟩) n n 1 cx rfl rfl w.heap.size 0 ((part2b a n 0).map Value.bool) 4 (by have := hh2.out; simpa [part2b] using this) [Value.bool a] (by simp [Nat.min_def]; omega) (fun _ => ⟨rfl, _, rfl, HSRC.out _ hf2⟩) (by simp [part2b]; omega) (by simp [Value.bool, Value.oneCell']) w.heap.size w (Fr.below hf2 (Nat.le_refl _) (by simp)) (Nat.le_refl _) ?_; intro w3 hh3 hb3; have hs3 := splice_part2b (a := a) (n := n) (c := 0) (m := 1) (by omega)))
 obtain ⟨g, hg⟩ : ∃ g, g = w.heap.size := ⟨_, rfl⟩
 have HG := Lib.hid hg
 have HR3 := Lib.hid (show boolRow w3 g (part2b a n 1) by unfold boolRow; rw [hg, hh3.out]; rw [show [Value.bool a] = List.replicate 1 (Value.bool a) from rfl, hs3])
 have HF3 := Lib.hid (Fr.of_below hb3)
 have HGL := Lib.hid (show w.heap.size ≤ g by omega)
 rw [← hg]
 clear hh3 hb3 hs3 hh2 hf2 hs2 hw1 hg
 go_loopw [8] (RpRelB w g n a) (fun cv _ => n - (intOf cv).toNat)
 case atStart => exact ⟨1, by omega, by omega, rfl, HR3.out, HF3.out⟩
 case round =>
  obtain ⟨c, hc, hc0, rfl, hrow, hf⟩ := hrel
  have HROW := Lib.hid hrow
  have HF := Lib.hid hf
  by_cases hcn : c < n
  ·have hd1 : decide (c < n) = true := decide_eq_true hcn
   obtain ⟨m, hm⟩ : ∃ m, m = min c (n - c) := ⟨_, rfl⟩
   have hm1 : c + m ≤ n := by omega
   have hm2 : m ≤ c := by omega
   have hm3 : 0 < m := by have := hc0 (by omega); omega
   have HM := Lib.hid hm
   have hml : m ≤ n - c := by omega
   clear hrow hf hm
   go_wp2_with fail
   have hcc : ∀ (j : Nat) (v : Value), (List.replicate m (Value.bool a))[j]? = some v → wr.cell? ((⟨g, 0, none⟩ : Addr).add j) = some v := by
    intro j v hj
    have hadd : (⟨g, 0, none⟩ : Addr).add j = ⟨g, 0 + j, none⟩ := by unfold Addr.add; split <;> simp_all
    rw [List.getElem?_replicate] at hj
    split at hj
    ·next q =>
     rw [hadd, cell_of_heap HROW.out, ← hj]
     simp only [part2b, Nat.zero_add, List.map_append, List.map_replicate, List.getElem?_toArray]
     rw [List.getElem?_append_left (by simp; omega), List.getElem?_replicate, if_pos (by omega)]
    ·cases hj
   have HCC := Lib.hid hcc
   have hsp := splice_part2b (a := a) hm1
   have hlen : c + m ≤ ((part2b a n c).map Value.bool).length := by rw [List.length_map, part2b_len hc]; exact hm1
   have hmin : (List.replicate m (Value.bool a)).length = Nat.min c (n - c) := by rw [List.length_replicate]; exact HM.out
   have HLEN := Lib.hid hlen
   have HMIN := Lib.hid hmin
   have HSP := Lib.hid hsp
   have hcn' : ¬ n = c := by omega
   have e1 : List.length (List.replicate m (Value.bool a)) = m := List.length_replicate
   have E1 := Lib.hid e1
   clear hcc hsp hlen hmin e1
   refine wp_region_W [g] [(0, false), (1, false), (2, false), (3, false), (4, false), (5, false), (6, false), (7, true), (8, false), (9, false)] 48 rfl (by kernel_rfl) (by kernel_rfl) (by kernel_rfl) (fun c a d v w h => by cases d <;> exact h) ?_
   simp only [List.map_cons, List.map_nil, List.getElem?_toArray, List.getElem?_cons_succ, List.getElem?_cons_zero, Option.getD_some]
   have HROW2 := Lib.hid (HROW.out.below (Fr.drew wr))
   have HFD := Lib.hid (HF.out.andDrew)
   have HCC2 := Lib.hid (show ∀ (j : Nat) (v : Value), (List.replicate m (Value.bool a))[j]? = some v → wr.drew.cell? ((⟨g, 0, none⟩ : Addr).add j) = some v from HCC.out)
   obtain ⟨wd, hwd⟩ : ∃ wd, wd = wr.drew := ⟨_, rfl⟩
   rw [← hwd] at HROW2 HFD HCC2 ⊢
   clear hwd
   iterate 7 (apply wpG_t; · (intro w' hf'; go_wp2; exact ⟨rfl, rfl⟩))
   refine wpG_x ?_
   refine wpL_copyC rfl _ _ 50 50 rfl 4 Tryz.underlying50 size1B g c (n - c) (n - c) ⟨g, 0, none⟩ c n (by simp [Act.eval, Act.put, hcn']) rfl ((part2b a n c).map Value.bool) 4 HROW2.out (List.replicate m (Value.bool a)) HMIN.out HCC2.out (by rw [E1.out]; exact HLEN.out) (fun v hv => by rw [List.eq_of_mem_replicate hv]; rfl) ?_
   intro w4 hh4 hf4
   rw [E1.out]
   go_wp2
   refine ⟨hf4, rfl, ?_⟩
   iterate 2 (apply wpG_t; · (intro w' hf'; go_wp2; exact ⟨rfl, rfl⟩))
   refine wpG_end ?_
   go_wp2_with fail
   refine ⟨⟨c + m, hm1, by omega, by go_num, by unfold boolRow; rw [hh4.out, HSP.out], HFD.out.trans hf4 (by simp) (fun i hi hlt => by have := HGL.out; simp at hi; omega)⟩, by simp [intOf]; omega⟩
  ·have hd1 : decide (c < n) = false := decide_eq_false hcn
   have HE := Lib.hid (show c = n by omega)
   clear hrow hf hcn
   go_wp2_with fail
   go_ret
   exact ⟨g, HGL.out, rfl, by have := HROW.out; rwa [HE.out, part2b_full] at this, HF.out⟩
end Go.Proofs.YtnaamjpiaekmeaaGreat
namespace Go.Proofs.YtnaamjpiaekmeaaGreat
open Go.RowKit
structure RowI (w : World) (base b : Nat) (vs : List Value) (ls : List (List Int)) : Prop where
 row : w.heap[b]? = some (.cells vs.toArray 39 (0, 0))
 len : vs.length = ls.length
 own : ∀ i (h : i < vs.length) (h' : i < ls.length), w.ownsRow base 3 1 (vs[i]'h) (ls[i]'h').length ((ls[i]'h').map intV)
def ApV (l : List Value) : Prop := ∀ i j (h : i < l.length) (h' : j < l.length), i ≠ j → ∀ k, (l[i]'h).ownBlock = some k → (l[j]'h').ownBlock ≠ some k
def CrV (l m : List Value) : Prop := ∀ i j (h : i < l.length) (h' : j < m.length), ∀ k, (l[i]'h).ownBlock = some k → (m[j]'h').ownBlock ≠ some k
structure GrI (w : World) (base br bu : Nat) (rv uv : List Value) (rl ul : List (List Int)) : Prop where
 r : RowI w base br rv rl
 u : RowI w base bu uv ul
 ar : ApV rv
 au : ApV uv
 x : CrV rv uv
 ne : br ≠ bu
theorem GrI.symm {w : World} {base br bu : Nat} {rv uv : List Value} {rl ul : List (List Int)} (h : GrI w base br bu rv uv rl ul) : GrI w base bu br uv rv ul rl :=
 ⟨h.u, h.r, h.au, h.ar, fun i j hi hj k h1 h2 => h.x j i hj hi k h2 h1, h.ne.symm⟩
theorem RowI.later {w w' : World} {base b : Nat} {vs : List Value} {ls : List (List Int)} (h : RowI w base b vs ls) (hf : Fr [] w w') : RowI w' base b vs ls := ⟨hf.heap h.row (by simp), h.len, fun i h1 h2 => owns_kept (h.own i h1 h2) hf (by simp)⟩
theorem GrI.later {w w' : World} {base br bu : Nat} {rv uv : List Value} {rl ul : List (List Int)} (h : GrI w base br bu rv uv rl ul) (hf : Fr [] w w') : GrI w' base br bu rv uv rl ul := ⟨h.r.later hf, h.u.later hf, h.ar, h.au, h.x, h.ne⟩
theorem RowI.cell {w : World} {base b : Nat} {vs : List Value} {ls : List (List Int)} (h : RowI w base b vs ls) {i : Nat} (hi : i < vs.length) : w.cell? ⟨b, i, none⟩ = some (vs[i]'hi) := by
 rw [cell_of_heap h.row]
 simp [hi]
theorem RowI.start {w : World} {base b n : Nat} (h : w.heap[b]? = some (.cells (List.replicate n (Value.slice none 0 0)).toArray 39 (0, 0))) : RowI w base b (List.replicate n (.slice none 0 0)) (List.replicate n []) :=
 ⟨h, by simp, fun i h1 h2 => by
  rw [List.getElem_replicate, List.getElem_replicate]
  exact ⟨rfl, .inl ⟨rfl, rfl⟩⟩⟩
theorem GrI.start {w : World} {base br bu n : Nat} (h : w.heap[br]? = some (.cells (List.replicate n (Value.slice none 0 0)).toArray 39 (0, 0))) (h2 : w.heap[bu]? = some (.cells (List.replicate n (Value.slice none 0 0)).toArray 39 (0, 0))) (hne : br ≠ bu) : GrI w base br bu (List.replicate n (.slice none 0 0)) (List.replicate n (.slice none 0 0)) (List.replicate n []) (List.replicate n []) :=
 ⟨.start h, .start h2, fun i j hi hj _ k hk => (by rw [List.getElem_replicate] at hk; cases hk), fun i j hi hj _ k hk => (by rw [List.getElem_replicate] at hk; cases hk), fun i j hi hj k hk => (by rw [List.getElem_replicate] at hk; cases hk), hne⟩
theorem own_ne {w : World} {base n : Nat} {v : Value} {xs : List Value} {b : Nat} {cs : Array Value} {t : TypeId} {fr : Nat × Nat} (h : w.ownsRow base 3 1 v n xs) (hb : w.heap[b]? = some (.cells cs t fr)) (ht : (3 : TypeId) ≠ t) : b ∉ v.ownBlock.toList := fun hm => notT_row h ht b hm _ _ _ hb rfl
theorem GrI.push {w w7 : World} {base br bu : Nat} {rv uv : List Value} {rl ul : List (List Int)} (h : GrI w base br bu rv uv rl ul) {i : Nat} (hi : i < rv.length) (hl : i < rl.length) {v' : Value} {x : Int} (hown : w7.ownsRow base 3 1 v' ((rl[i]'hl).length + 1) ((rl[i]'hl).map intV ++ [intV x])) (hf : Fr (rv[i]'hi).ownBlock.toList w w7) (hb : v'.ownBlock = (rv[i]'hi).ownBlock ∨ ∃ k, v'.ownBlock = some k ∧ w.heap.size ≤ k) :
  GrI (w7.setCell ⟨br, i, none⟩ v') base br bu (rv.set i v') uv (rl.set i (rl[i]'hl ++ [x])) ul := by
 have hown0 := h.r.own i hi hl
 have hrn := own_ne hown0 h.r.row (by decide)
 have hun := own_ne hown0 h.u.row (by decide)
 have hr7 := hf.heap h.r.row hrn
 have hu7 := hf.heap h.u.row hun
 have hs := Fr.set0 w7 br i v'
 have keepO : ∀ (v : Value) (n : Nat) (xs : List Value), w.ownsRow base 3 1 v n xs → (∀ k, v.ownBlock = some k → (rv[i]'hi).ownBlock ≠ some k) → (w7.setCell ⟨br, i, none⟩ v').ownsRow base 3 1 v n xs := fun v n xs ho hne => by
  have h7 := owns_kept ho hf (fun k hk hm => hne k hk (by simpa [Option.mem_toList] using hm))
  refine owns_kept h7 hs (fun k hk hm => ?_)
  have e : k = br := by simpa using hm
  subst e
  exact own_ne h7 hr7 (by decide) (by rw [hk]; simp)
 have hnew : (w7.setCell ⟨br, i, none⟩ v').ownsRow base 3 1 v' ((rl[i]'hl).length + 1) ((rl[i]'hl).map intV ++ [intV x]) := owns_kept hown hs (fun k hk hm => by
  have e : k = br := by simpa using hm
  subst e
  exact own_ne hown hr7 (by decide) (by rw [hk]; simp))
 have hlt : ∀ (v : Value) (n : Nat) (xs : List Value), w.ownsRow base 3 1 v n xs → ∀ k, v.ownBlock = some k → k < w.heap.size := fun v n xs ho k hk => (ho.lt k hk).2
 have hdiff : ∀ (v : Value) (n : Nat) (xs : List Value), w.ownsRow base 3 1 v n xs → (∀ k, v.ownBlock = some k → (rv[i]'hi).ownBlock ≠ some k) → ∀ k, v'.ownBlock = some k → v.ownBlock ≠ some k := fun v n xs ho hne k hk hv => by
  rcases hb with e | ⟨q, e, hq⟩
  ·rw [e] at hk; exact hne k hv hk
  ·rw [e] at hk
   cases hk
   have := hlt v n xs ho k hv
   omega
 refine ⟨⟨?_, by rw [List.length_set, List.length_set]; exact h.r.len, fun j h1 h2 => ?_⟩, ⟨?_, h.u.len, fun j h1 h2 => ?_⟩, ?_, h.au, ?_, h.ne⟩
 ·rw [heap_setCell_same hr7]; simp
 ·rw [List.getElem_set]
  by_cases e : i = j
  ·subst e
   rw [if_pos rfl]
   have e2 : (rl.set i (rl[i]'hl ++ [x]))[i]'h2 = rl[i]'hl ++ [x] := by rw [List.getElem_set, if_pos rfl]
   rw [e2, List.length_append, List.map_append]
   exact hnew
  ·have e2 : (rl.set i (rl[i]'hl ++ [x]))[j]'h2 = rl[j]'(by rw [List.length_set] at h2; exact h2) := by rw [List.getElem_set, if_neg e]
   rw [if_neg e, e2]
   exact keepO _ _ _ (h.r.own j (by rw [List.length_set] at h1; exact h1) _) (fun k hk => h.ar j i _ hi (fun q => e q.symm) k hk)
 ·exact hs.heap hu7 (by simp; exact fun e => h.ne e.symm)
 ·exact keepO _ _ _ (h.u.own j h1 h2) (fun k hk q => h.x i j hi h1 k q hk)
 ·intro a c ha hc hne k hk
  rw [List.length_set] at ha hc
  rw [List.getElem_set] at hk ⊢
  by_cases e : i = a
  ·subst e
   rw [if_pos rfl] at hk
   rw [if_neg hne]
   exact hdiff _ _ _ (h.r.own c hc (by rw [← h.r.len]; exact hc)) (fun q hq => h.ar c i hc hi hne.symm q hq) k hk
  ·rw [if_neg e] at hk
   by_cases e2 : i = c
   ·subst e2
    rw [if_pos rfl]
    exact fun hv => hdiff _ _ _ (h.r.own a ha (by rw [← h.r.len]; exact ha)) (fun q hq => h.ar a i ha hi hne q hq) k hv hk
   ·rw [if_neg e2]
    exact h.ar a c ha hc hne k hk
 ·intro a c ha hc k hk
  rw [List.length_set] at ha
  rw [List.getElem_set] at hk
  by_cases e : i = a
  ·subst e
   rw [if_pos rfl] at hk
   exact hdiff _ _ _ (h.u.own c hc (by rw [← h.u.len]; exact hc)) (fun q hq q2 => h.x i c hi hc q q2 hq) k hk
  ·rw [if_neg e] at hk
   exact h.x a c ha hc k hk
theorem GrI.fr {w0 w w7 : World} {base br bu : Nat} {rv uv : List Value} {rl ul : List (List Int)} (h : GrI w base br bu rv uv rl ul) {i : Nat} (hi : i < rv.length) {v' : Value} (hf : Fr (rv[i]'hi).ownBlock.toList w w7) (h0 : Fr [] w0 w) (hb : w0.heap.size ≤ base) (hbr : w0.heap.size ≤ br) : Fr [] w0 (w7.setCell ⟨br, i, none⟩ v') := by
 have hl : i < rl.length := by rw [← h.r.len]; exact hi
 have h7 : Fr [] w0 w7 := h0.trans hf (by simp) (fun k hk hlt => by
  have := ((h.r.own i hi hl).lt k (by simpa [Option.mem_toList] using hk)).1
  omega)
 exact h7.trans (Fr.set0 w7 br i v') (by simp) (fun k hk hlt => (by
  have : k = br := (by simpa using hk)
  omega))
structure ReI (w : World) (b : Nat) (vs : List Value) (ls : List (List Int)) : Prop where
 row : w.heap[b]? = some (.cells vs.toArray 39 (0, 0))
 len : vs.length = ls.length
 at_ : ∀ i (h : i < vs.length) (h' : i < ls.length), intsAt w (vs[i]'h) (ls[i]'h')
theorem RowI.re {w : World} {base b : Nat} {vs : List Value} {ls : List (List Int)} (h : RowI w base b vs ls) : ReI w b vs ls := ⟨h.row, h.len, fun i h1 h2 => cellsAt_of_owns (by rw [List.length_map]; exact h.own i h1 h2)⟩
theorem ReI.cell {w : World} {b : Nat} {vs : List Value} {ls : List (List Int)} (h : ReI w b vs ls) {i : Nat} (hi : i < vs.length) : w.cell? ⟨b, i, none⟩ = some (vs[i]'hi) := by
 rw [cell_of_heap h.row]
 simp [hi]
def NoInts (w : World) (b : Nat) : Prop := ∃ (cs : Array Value) (t : TypeId) (fr : Nat × Nat), w.heap[b]? = some (.cells cs t fr) ∧ ∀ (i : Nat) (z : Value), cs[i]? = some z → ∀ x : Int, z ≠ .int .i64 x
theorem ints_keep {w w' : World} {v : Value} {l : List Int} {L : List Nat} (h : intsAt w v l) (hf : Fr L w w') (hL : ∀ b ∈ L, NoInts w b) : intsAt w' v l := by
 rcases h with h | ⟨b, off, cap, e, h1, h2, h3⟩
 ·exact .inl h
 ·refine .inr ⟨b, off, cap, e, h1, h2, fun j hj => ?_⟩
  have h4 := h3 j hj
  refine hf.cell h4 (fun hm => ?_)
  obtain ⟨cs, t, fr, hb, hz⟩ := hL _ hm
  rw [cell_of_heap hb, List.getElem_map] at h4
  exact hz _ _ h4 _ rfl
structure SchAt (w : World) (p bs bd br bu : Nat) (x1 x2 x3 : Value) (k : Int) (N R : Nat) (vs : List Value) (ls : List Words) (D : List Bool) (rv uv : List Value) (rl ul : List (List Int)) : Prop where
 obj : w.heap[p]? = some (.cells #[x1, x2, x3, .int .i64 k, .slice (some ⟨bs, 0, none⟩) N N, .slice (some ⟨br, 0, none⟩) N N, .slice (some ⟨bu, 0, none⟩) N N, .slice (some ⟨bd, 0, none⟩) R R] 66 (0, 0))
 sets : SetB w bs vs ls
 due : boolRow w bd D
 rules : ReI w br rv rl
 uses : ReI w bu uv ul
section
variable {w w' : World} {p bs bd br bu : Nat} {x1 x2 x3 : Value} {k : Int} {N R : Nat} {vs : List Value} {ls : List Words} {D : List Bool} {rv uv : List Value} {rl ul : List (List Int)}
theorem ReI.keep {b : Nat} {qs : List Value} {ps : List (List Int)} {L : List Nat} (h : ReI w b qs ps) (hf : Fr L w w') (hb : b ∉ L) (hL : ∀ b ∈ L, NoInts w b) : ReI w' b qs ps := ⟨hf.heap h.row hb, h.len, fun i h1 h2 => ints_keep (h.at_ i h1 h2) hf hL⟩
theorem SchAt.later (h : SchAt w p bs bd br bu x1 x2 x3 k N R vs ls D rv uv rl ul) (hf : Fr [] w w') : SchAt w' p bs bd br bu x1 x2 x3 k N R vs ls D rv uv rl ul :=
 ⟨hf.heap h.obj (by simp), h.sets.later hf, h.due.below hf, h.rules.keep hf (by simp) (by simp), h.uses.keep hf (by simp) (by simp)⟩
theorem SchAt.cells (h : SchAt w p bs bd br bu x1 x2 x3 k N R vs ls D rv uv rl ul) : w.cell? ⟨p, 0, none⟩ = some x1 ∧ w.cell? ⟨p, 1, none⟩ = some x2 ∧ w.cell? ⟨p, 2, none⟩ = some x3 ∧ w.cell? ⟨p, 3, none⟩ = some (.int .i64 k) ∧ w.cell? ⟨p, 4, none⟩ = some (.slice (some ⟨bs, 0, none⟩) N N) ∧ w.cell? ⟨p, 5, none⟩ = some (.slice (some ⟨br, 0, none⟩) N N) ∧ w.cell? ⟨p, 6, none⟩ = some (.slice (some ⟨bu, 0, none⟩) N N) ∧ w.cell? ⟨p, 7, none⟩ = some (.slice (some ⟨bd, 0, none⟩) R R) := by
 refine ⟨?_, ?_, ?_, ?_, ?_, ?_, ?_, ?_⟩ <;> (rw [cell_of_heap h.obj]; rfl)
theorem bools_kind {b : Nat} (h : boolRow w b D) : NoInts w b := ⟨_, _, _, h, fun i z hz x e => by
 subst e
 simp only [List.getElem?_toArray, List.getElem?_map, Option.map_eq_some_iff] at hz
 obtain ⟨q, _, hq⟩ := hz
 cases hq⟩
theorem SchAt.mark (h : SchAt w p bs bd br bu x1 x2 x3 k N R vs ls D rv uv rl ul) (j : Nat) (b : Bool) : SchAt (w.setCell ⟨bd, j, none⟩ (.bool b)) p bs bd br bu x1 x2 x3 k N R vs ls (D.set j b) rv uv rl ul := by
 have hs := Fr.set0 w bd j (.bool b)
 have n1 : p ≠ bd := fun e => by have h1 := h.obj; have h2 := h.due; unfold boolRow at h2; rw [e, h2] at h1; injection h1 with h1; injection h1 with _ h1; exact absurd h1 (by decide)
 have n2 : br ≠ bd := fun e => by have h1 := h.rules.row; have h2 := h.due; unfold boolRow at h2; rw [e, h2] at h1; injection h1 with h1; injection h1 with _ h1; exact absurd h1 (by decide)
 have n3 : bu ≠ bd := fun e => by have h1 := h.uses.row; have h2 := h.due; unfold boolRow at h2; rw [e, h2] at h1; injection h1 with h1; injection h1 with _ h1; exact absurd h1 (by decide)
 have n4 : bs ≠ bd := fun e => by have h1 := h.sets.row; have h2 := h.due; unfold boolRow at h2; rw [e, h2] at h1; injection h1 with h1; injection h1 with _ h1; exact absurd h1 (by decide)
 have hk : ∀ q ∈ [bd], NoInts w q := fun q hq => by
  rw [List.mem_singleton.1 hq]; exact bools_kind h.due
 refine ⟨hs.heap h.obj (by simpa using n1), ⟨hs.heap h.sets.row (by simpa using n4), h.sets.len, fun a h1 h2 => ?_⟩, h.due.set j b, h.rules.keep hs (by simpa using n2) hk, h.uses.keep hs (by simpa using n3) hk⟩
 rcases h.sets.at_ a h1 h2 with q | ⟨b', off, cap, e, g1, g2, g3⟩
 ·exact .inl q
 ·refine .inr ⟨b', off, cap, e, g1, g2, fun i hi => hs.cell (g3 i hi) (fun hm => ?_)⟩
  have e2 : b' = bd := by simpa using hm
  subst e2
  have g4 := g3 i hi
  have h2 := h.due
  unfold boolRow at h2
  rw [cell_of_heap h2, List.getElem_map] at g4
  simp only [List.getElem?_toArray, List.getElem?_map, Option.map_eq_some_iff] at g4
  obtain ⟨q, _, hq⟩ := g4
  cases hq
end
end Go.Proofs.YtnaamjpiaekmeaaGreat
namespace Go.Proofs.YtnaamjpiaekmeaaGreat
open Go.RowKit
def RLs (rs : List RuleG) (N t : Nat) : List (List Int) := (List.range N).map fun n => rIdx rs n t
def ULs (rs : List RuleG) (N t : Nat) : List (List Int) := (List.range N).map fun n => uIdx rs n t
def UPs (rs : List RuleG) (N t : Nat) (right : List Int) (j : Nat) : List (List Int) := (List.range N).map fun n => uIdx rs n t ++ List.replicate ((right.take j).count (n : Int)) (t : Int)
theorem RLs_len (rs : List RuleG) (N t : Nat) : (RLs rs N t).length = N := by simp [RLs]
theorem ULs_len (rs : List RuleG) (N t : Nat) : (ULs rs N t).length = N := by simp [ULs]
theorem UPs_len (rs : List RuleG) (N t : Nat) (right : List Int) (j : Nat) : (UPs rs N t right j).length = N := by simp [UPs]
theorem RLs_zero (rs : List RuleG) (N : Nat) : RLs rs N 0 = List.replicate N [] := by
 unfold RLs
 apply List.ext_getElem
 ·simp
 ·intro i h1 h2; simp [rIdx]
theorem ULs_zero (rs : List RuleG) (N : Nat) : ULs rs N 0 = List.replicate N [] := by
 unfold ULs
 apply List.ext_getElem
 ·simp
 ·intro i h1 h2; simp [uIdx]
theorem RLs_get {rs : List RuleG} {N t n : Nat} (h : n < (RLs rs N t).length) : (RLs rs N t)[n]'h = rIdx rs n t := by simp [RLs]
theorem ULs_get {rs : List RuleG} {N t n : Nat} (h : n < (ULs rs N t).length) : (ULs rs N t)[n]'h = uIdx rs n t := by simp [ULs]
theorem UPs_get {rs : List RuleG} {N t n : Nat} {right : List Int} {j : Nat} (h : n < (UPs rs N t right j).length) : (UPs rs N t right j)[n]'h = uIdx rs n t ++ List.replicate ((right.take j).count (n : Int)) (t : Int) := by simp [UPs]
theorem RLs_next {rs : List RuleG} {N t : Nat} {r : RuleG} (hr : rs[t]? = some r) {la : Nat} (hl : r.left = (la : Int)) (h : la < (RLs rs N t).length) : RLs rs N (t + 1) = (RLs rs N t).set la ((RLs rs N t)[la]'h ++ [(t : Int)]) := by
 apply List.ext_getElem
 ·rw [List.length_set, RLs_len, RLs_len]
 ·intro i h1 h2
  rw [RLs_get h1, List.getElem_set]
  rw [rIdx, hr]
  simp only
  by_cases e : la = i
  ·subst e
   rw [if_pos hl, if_pos rfl, RLs_get]
  ·rw [if_neg (by omega), if_neg e, RLs_get]
theorem UPs_zero (rs : List RuleG) (N t : Nat) (right : List Int) : UPs rs N t right 0 = ULs rs N t := by
 apply List.ext_getElem
 ·rw [UPs_len, ULs_len]
 ·intro i h1 h2
  rw [UPs_get, ULs_get]
  simp
theorem UPs_full {rs : List RuleG} {N t : Nat} {r : RuleG} (hr : rs[t]? = some r) : UPs rs N t r.right r.right.length = ULs rs N (t + 1) := by
 apply List.ext_getElem
 ·rw [UPs_len, ULs_len]
 ·intro i h1 h2
  rw [UPs_get, ULs_get, List.take_length, uIdx, hr]
theorem UPs_next {rs : List RuleG} {N t : Nat} {right : List Int} {j : Nat} (hj : j < right.length) {c : Nat} (hc : right[j]'hj = (c : Int)) (h : c < (UPs rs N t right j).length) : UPs rs N t right (j + 1) = (UPs rs N t right j).set c ((UPs rs N t right j)[c]'h ++ [(t : Int)]) := by
 apply List.ext_getElem
 ·rw [List.length_set, UPs_len, UPs_len]
 ·intro i h1 h2
  rw [UPs_get h1, List.getElem_set, List.take_succ_eq_append_getElem hj, List.count_append, hc]
  by_cases e : c = i
  ·subst e
   rw [if_pos rfl, UPs_get]
   simp [List.replicate_succ']
  ·rw [if_neg e, UPs_get]
   have : ([(c : Int)] : List Int).count (i : Int) = 0 := by
    rw [List.count_eq_zero]
    intro q
    have := List.mem_singleton.1 q
    omega
   rw [this]
   rfl
theorem UPs_skip {rs : List RuleG} {N t : Nat} {right : List Int} {j : Nat} (hj : j < right.length) (hn : right[j]'hj < 0) : UPs rs N t right (j + 1) = UPs rs N t right j := by
 apply List.ext_getElem
 ·rw [UPs_len, UPs_len]
 ·intro i h1 h2
  rw [UPs_get, UPs_get, List.take_succ_eq_append_getElem hj, List.count_append]
  have : ([right[j]'hj] : List Int).count (i : Int) = 0 := by
   rw [List.count_eq_zero]
   intro q
   have := List.mem_singleton.1 q
   omega
  rw [this]
  rfl
theorem rIdx_len (rs : List RuleG) (n : Nat) : ∀ t, (rIdx rs n t).length ≤ t
 | 0 => by simp [rIdx]
 | t + 1 => by
   have := rIdx_len rs n t
   rw [rIdx]
   split
   ·split
    ·rw [List.length_append]; simp; omega
    ·omega
   ·omega
theorem uIdx_len (rs : List RuleG) (n : Nat) (hr : ∀ r ∈ rs, r.right.length ≤ 64) : ∀ t, (uIdx rs n t).length ≤ t * 64
 | 0 => by simp [uIdx]
 | t + 1 => by
   have := uIdx_len rs n hr t
   rw [uIdx]
   split
   ·rename_i r h
    have h1 := hr r (List.mem_of_getElem? h)
    have h2 : r.right.count (n : Int) ≤ r.right.length := List.count_le_length
    rw [List.length_append, List.length_replicate]
    omega
   ·omega
theorem keepT {w w7 : World} {base br i n b : Nat} {v v' : Value} {xs : List Value} {cs cr : Array Value} {t : TypeId} {fr : Nat × Nat} (h : w.heap[b]? = some (.cells cs t fr)) (hown : w.ownsRow base 3 1 v n xs) (hf : Fr v.ownBlock.toList w w7) (hrow : w.heap[br]? = some (.cells cr 39 (0, 0))) (ht : (3 : TypeId) ≠ t) (ht2 : (39 : TypeId) ≠ t) : (w7.setCell ⟨br, i, none⟩ v').heap[b]? = some (.cells cs t fr) := by
 have h7 := hf.heap h (own_ne hown h ht)
 refine (Fr.set0 w7 br i v').heap h7 (fun hm => ?_)
 have e : b = br := by simpa using hm
 rw [e, hrow] at h
 injection h with h
 injection h with _ h
 exact ht2 h
end Go.Proofs.YtnaamjpiaekmeaaGreat
namespace Go.Proofs.YtnaamjpiaekmeaaGreat
open Go.RowKit
def notS (z : Value) : Prop := ∀ x, z ≠ .string x
def ownsS (w : World) (base : Nat) (e : TypeId) (sz : Nat) (v : Value) (n : Nat) (xs : List Value) : Prop :=
 xs.length = n * sz ∧ ((v = .slice none 0 0 ∧ n = 0) ∨ ∃ g cap cur, v = .slice (some ⟨g, 0, none⟩) n cap ∧ base ≤ g ∧ w.heap[g]? = some (.cells cur e (0, 0)) ∧ n ≤ cap ∧ cap ≤ maxLen ∧ cur.size = cap * sz ∧ cur.toList.take (n * sz) = xs ∧ ∀ z ∈ cur.toList, notS z)
theorem ownsS.owns {w : World} {base : Nat} {e : TypeId} {sz : Nat} {v : Value} {n : Nat} {xs : List Value} (h : ownsS w base e sz v n xs) : w.ownsRow base e sz v n xs := by
 obtain ⟨h1, h⟩ := h
 refine ⟨h1, ?_⟩
 rcases h with h | ⟨g, cap, cur, rfl, h2, h3, h4, h5, h6, h7, -⟩
 ·exact .inl h
 ·exact .inr ⟨g, cap, cur, rfl, h2, h3, h4, h5, h6, h7⟩
theorem ownsS.nil (w : World) (base : Nat) (e : TypeId) (sz : Nat) : ownsS w base e sz (.slice none 0 0) 0 [] := ⟨by simp, .inl ⟨rfl, rfl⟩⟩
theorem ownsS.kept {w w' : World} {base : Nat} {e : TypeId} {sz : Nat} {v : Value} {n : Nat} {xs : List Value} {L : List Nat} (h : ownsS w base e sz v n xs) (hf : Fr L w w') (hn : ∀ k, v.ownBlock = some k → k ∉ L) : ownsS w' base e sz v n xs := by
 obtain ⟨h1, h⟩ := h
 refine ⟨h1, ?_⟩
 rcases h with h | ⟨g, cap, cur, rfl, h2, h3, h4⟩
 ·exact .inl h
 ·exact .inr ⟨g, cap, cur, rfl, h2, hf.heap h3 (hn g rfl), h4⟩
theorem ownsS.lt {w : World} {base : Nat} {e : TypeId} {sz : Nat} {v : Value} {n : Nat} {xs : List Value} (h : ownsS w base e sz v n xs) : ∀ k, v.ownBlock = some k → base ≤ k ∧ k < w.heap.size := by
 intro k hk
 rcases h.2 with ⟨rfl, _⟩ | ⟨g, cap, cur, rfl, h2, h3, h4⟩
 ·cases hk
 ·cases hk
  exact ⟨h2, (Array.getElem?_eq_some_iff.1 h3).1⟩
theorem ownsS.quiet {w : World} {base : Nat} {e : TypeId} {sz : Nat} {v : Value} {n : Nat} {xs : List Value} (h : ownsS w base e sz v n xs) : ∀ b ∈ v.ownBlock.toList, ∀ (i : Nat) (x : ByteArray), w.cell? ⟨b, i, none⟩ ≠ some (.string x) := by
 intro b hb i x hq
 rcases h.2 with ⟨rfl, _⟩ | ⟨g, cap, cur, rfl, h2, h3, h4, h5, h6, h7, h8⟩
 ·simp [Value.ownBlock] at hb
 ·have e2 : b = g := by simpa [Value.ownBlock] using hb
  subst e2
  rw [cell_of_heap h3, ← Array.getElem?_toList] at hq
  exact h8 _ (List.mem_of_getElem? hq) x rfl
theorem ownsS_of {w : World} {base : Nat} {e : TypeId} {sz : Nat} {v : Value} {n : Nat} {xs : List Value} (h : w.ownsRow base e sz v n xs) (hq : ∀ b ∈ v.ownBlock.toList, ∀ (i : Nat) (x : ByteArray), w.cell? ⟨b, i, none⟩ ≠ some (.string x)) : ownsS w base e sz v n xs := by
 refine ⟨h.1, ?_⟩
 rcases h.2 with h2 | ⟨g, cap, cur, rfl, h2, h3, h4, h5, h6, h7⟩
 ·exact .inl h2
 ·refine .inr ⟨g, cap, cur, rfl, h2, h3, h4, h5, h6, h7, fun z hz x e => ?_⟩
  subst e
  obtain ⟨i, hi, hz⟩ := List.getElem_of_mem hz
  refine hq g (by simp [Value.ownBlock]) i x ?_
  rw [cell_of_heap h3, ← Array.getElem?_toList, List.getElem?_eq_getElem hi, hz]
section
variable {P : Program}
theorem run_append_s {w : World} (base : Nat) (t ty e : TypeId) (i : TypeInfo) (z : Value) (sz bytes : Nat) (ht : P.underlying t = some (.slice e)) (hi : P.info? e = some i) (hz : i.zero = some z) (hsize : i.size = sz) (hby : i.bytes = bytes) (hzc : z.cells.size = sz) (hsz : 0 < sz)
  (hqz : ∀ y ∈ z.cells.toList, notS y) (v : Value) (n : Nat) (xs : List Value) (hown : ownsS w base e sz v n xs) (a : Addr) (us : List Value) (hul : us.length = sz) (hnews : ∀ j x, us[j]? = some x → w.cell? (a.add j) = some x) (h1 : ∀ u ∈ us, u.oneCell' = true) (hqu : ∀ u ∈ us, notS u)
  (h63 : n + 1 ≤ maxLen) (hbytes : (n + 1) * bytes ≤ 140737488355328) (hbase : base ≤ w.heap.size) :
  ∃ v' w', (Builtin.append_ #[t, t] ty #[v, .slice (some a) 1 1]).run P w = .ok v' w' ∧ ownsS w' base e sz v' (n + 1) (xs ++ us) ∧ w.grownBy w' v.ownBlock ∧ (v'.ownBlock = v.ownBlock ∨ v'.ownBlock = some w.heap.size) := by
 subst hby
 subst hsize
 have hsmall : n + 1 ≤ 9223372036854775807 := by simp only [maxLen] at h63; omega
 obtain ⟨hxl, hown⟩ := hown
 have hul1 : us.length = 1 * i.size := by omega
 have hou : (xs ++ us).length = (n + 1) * i.size := by rw [List.length_append, hxl, hul, Nat.add_mul, Nat.one_mul]
 have hzer : ∀ c, ∀ y ∈ (Builtin.zeroCells z.cells c).toList, notS y := fun c y hy => by
  unfold Builtin.zeroCells at hy
  simp only [Array.toList_map, Array.toList_range, List.mem_map, List.mem_range] at hy
  obtain ⟨j, hj, rfl⟩ := hy
  have hlt : j % z.cells.size < z.cells.size := Nat.mod_lt _ (by omega)
  rw [getElem!_pos z.cells (j % z.cells.size) hlt]
  exact hqz _ (by simp)
 have grown : ∀ (old : Nat), old < n + 1 → (∀ y ∈ xs, notS y) → ∀ row : Option Nat,
   ownsS (w.drew.alloc (.cells (xs.toArray ++ us.toArray ++ Builtin.zeroCells z.cells (grownCap w (n + 1) old e - (n + 1))) e)) base e i.size (.slice (some ⟨w.heap.size, 0, none⟩) (n + 1) (grownCap w (n + 1) old e)) (n + 1) (xs ++ us) ∧
   w.grownBy (w.drew.alloc (.cells (xs.toArray ++ us.toArray ++ Builtin.zeroCells z.cells (grownCap w (n + 1) old e - (n + 1))) e)) row := by
  intro old ho hxs row
  have hge := grownCap_ge w (n + 1) old e
  have hcm : grownCap w (n + 1) old e ≤ maxLen := grownCap_le_maxLen w (n + 1) old e h63
  refine ⟨⟨hou, .inr ⟨w.heap.size, _, _, rfl, hbase, heap_alloc_new w.drew _, hge, hcm, ?_, ?_, ?_⟩⟩, ⟨rfl, rfl, rfl, by simp, fun k hk _ => (Fr.alloc w.drew _).block k hk (by simp)⟩⟩
  ·simp only [Array.size_append, List.size_toArray, size_zeroCells, hzc, hxl, hul1, ← Nat.add_mul]
   congr 1
   omega
  ·simp only [Array.toList_append, List.append_assoc]
   rw [← List.append_assoc, ← hou]
   exact List.take_left
  ·intro y hy
   simp only [Array.toList_append, List.mem_append] at hy
   rcases hy with (hy | hy) | hy
   ·exact hxs y hy
   ·exact hqu y hy
   ·exact hzer _ y hy
 rcases hown with ⟨rfl, rfl⟩ | ⟨g, cap, cur, rfl, hbg, hg, hnc, hcm, hcs, htake, hall⟩
 ·have hx : xs = [] := List.eq_nil_of_length_eq_zero (by simpa using hxl)
  subst hx
  have hr := run_append_nil (P := P) w t ty e i z ht hi hz a 1 1 us hul1 hnews (by omega) (by omega) (by have hb := hbytes; simp only [Nat.zero_add] at hb; omega)
  have hgr := grown 0 (by omega) (by simp) (Value.ownBlock (.slice none 0 0))
  simp only [Nat.zero_add, List.nil_append, Array.empty_append] at hgr ⊢
  exact ⟨_, _, hr, hgr.1, hgr.2, .inr rfl⟩
 ·have hxs : ∀ y ∈ xs, notS y := fun y hy => by rw [← htake] at hy; exact hall y (List.mem_of_mem_take hy)
  by_cases hroom : n + 1 ≤ cap
  ·have hfit : n * i.size + us.length ≤ cur.size := by rw [hul1, hcs, ← Nat.add_mul]; exact Nat.mul_le_mul_right _ hroom
   have hr := run_append_room (P := P) w t ty e i ht hi g n cap cur hg a 1 1 us hul1 hnews h1 hroom hfit
   refine ⟨_, _, hr, ⟨hou, .inr ⟨g, cap, _, rfl, hbg, setRow_heap w g cur _ e _ hg, hroom, hcm, ?_, ?_, ?_⟩⟩, ⟨rfl, rfl, rfl, by simp, fun k _ hk => setRow_other w g k _ (fun e => hk (by simp [Value.ownBlock, e]))⟩, .inl rfl⟩
   ·simp only [List.size_toArray, List.length_append, List.length_take, List.length_drop, Array.length_toList]
    omega
   ·rw [htake, ← hou]
    exact List.take_left
   ·intro y hy
    simp only [List.mem_append] at hy
    rcases hy with (hy | hy) | hy
    ·exact hall y (List.mem_of_mem_take hy)
    ·exact hqu y hy
    ·exact hall y (List.mem_of_mem_drop hy)
  ·have hown2 : w.ownsRow base e i.size (.slice (some ⟨g, 0, none⟩) n cap) n xs := ⟨hxl, .inr ⟨g, cap, cur, rfl, hbg, hg, hnc, hcm, hcs, htake⟩⟩
   have holds : ∀ j u, xs[j]? = some u → w.cell? ((⟨g, 0, none⟩ : Addr).add j) = some u := hown2.cells (g := g) rfl
   have hr := run_append_grow (P := P) w t ty e i z ht hi hz ⟨g, 0, none⟩ n cap xs hxl holds a 1 1 us hul1 hnews (by omega) (by omega) (growslice_fits (by omega) hbytes)
   have hgr := grown cap (by omega) hxs (Value.ownBlock (.slice (some ⟨g, 0, none⟩) n cap))
   exact ⟨_, _, hr, hgr.1, hgr.2, .inr rfl⟩
theorem wpL_appendSS {w : World} {ops : Array Oper} {rest : List Oper} {o : Oper} {a : Act} {Q : Exit → Act → World → Prop} (hgd : o.guard = none) (s x : Operand) (t : TypeId)
  (ho : o.op = .call { callee := .builtin .append, args := #[s, x], argTypes := #[t, t] }) (base : Nat) (e : TypeId) (i : TypeInfo) (z : Value) (sz bytes : Nat) (ht : P.underlying t = some (.slice e)) (hi : P.info? e = some i) (hz : i.zero = some z) (h4 : i.size = sz) (h5 : i.bytes = bytes) (hzc : z.cells.size = sz) (hsz : 0 < sz) (hqz : ∀ y ∈ z.cells.toList, notS y)
  (v : Value) (n : Nat) (xs : List Value) (hs : a.eval s = v) (hown : ownsS w base e sz v n xs) (us : List Value) (hl : us.length = sz) (hu : ∀ u ∈ us, u.oneCell' = true) (hqu : ∀ u ∈ us, notS u) (hx : a.eval x = .slice (some ⟨w.heap.size, 0, none⟩) 1 1) (hsum : (n + 1) * bytes ≤ 140737488355328) (hm : n + 1 ≤ maxLen) (hbase : base ≤ w.heap.size)
  (h : ∀ v' w', ownsS w' base e sz v' (n + 1) (xs ++ us) → Fr v.ownBlock.toList w w' → (v'.ownBlock = v.ownBlock ∨ ∃ k, v'.ownBlock = some k ∧ w.heap.size ≤ k) → wpList P ops Q rest (a.put o.dst v') w') : wpList P ops Q (o :: rest) a (w.alloc (.cells us.toArray e)) := by
 refine wpList_plain hgd fun K hK => ?_
 obtain ⟨v', w', hr, h2, h3, h4⟩ := run_append_s (P := P) (w := w.alloc (.cells us.toArray e)) base t o.type e i z sz bytes ht hi hz h4 h5 hzc hsz hqz v n xs (hown.kept (Fr.alloc _ _) (by simp)) ⟨w.heap.size, 0, none⟩ us hl (by
  intro j y hj
  have hadd : (⟨w.heap.size, 0, none⟩ : Addr).add j = ⟨w.heap.size, j, none⟩ := by unfold Addr.add; split <;> simp_all
  rw [hadd, cell_of_heap (heap_alloc_new w _)]
  simpa using hj) hu hqu hm hsum (by simp; omega)
 unfold Oper.wp execOp
 simp only [ho, resolve, invoke, builtin, Sem.run_bind, Sem.run_pure, Result.andThen_ok, List.map_toArray, List.map_cons, List.map_nil, hs, hx, hr]
 exact hK _ _ (h v' w' h2 ((Fr.alloc _ _).trans (Fr.of_grown h3) (by simp) (fun i hi _ => hi)) (h4.imp id (fun e => ⟨_, e, by simp⟩)))
end
end Go.Proofs.YtnaamjpiaekmeaaGreat
