/- Several texts in one: PolG, UniR, PolP, SymA. -/
import Derived.LoopTactic
import Derived.Deep.DeepCutAuto
import Derived.Test.YtnaamjpiaekmeaaGreatUa
import Derived.Test.YtnaamjpiaekmeaaGreatSm
import Derived.Test.YtnaamjpiaekmeaaGreatFo
import Derived.Test.YtnaamjpiaekmeaaGreatPc
set_option linter.unusedVariables false
set_option linter.unusedSimpArgs false
namespace Go.Proofs.YtnaamjpiaekmeaaGreat
open Go.RowKit Go.Maps
def SetC (w : World) (k : Int) (T : List Words) (x : List Value) (l : Words) : Prop := ∃ (n : Nat) (a : Option Addr) (c : Nat) (b : Bool), x = [.int .i64 (n : Int), .slice a l.length c, .bool b] ∧ SetP w k T n (.slice a l.length c) b l
structure SetsL (w : World) (k : Int) (T : List Words) (xs : List (List Value)) (ls : List Words) : Prop where
 len : xs.length = ls.length
 at_ : ∀ i (h : i < xs.length) (h' : i < ls.length), SetC w k T (xs[i]'h) (ls[i]'h')
theorem SetC.keep {w w' : World} {k : Int} {T : List Words} {x : List Value} {l : Words} {L : List Nat} (h : SetC w k T x l) (hf : Fr L w w') (hL : ∀ b ∈ L, NotStr w b) (U : List Words) : SetC w' k (T ++ U) x l := by
 obtain ⟨n, a, c, b, e, h⟩ := h
 exact ⟨n, a, c, b, e, (h.keep hf hL).more U⟩
theorem SetsL.keep {w w' : World} {k : Int} {T : List Words} {xs : List (List Value)} {ls : List Words} {L : List Nat} (h : SetsL w k T xs ls) (hf : Fr L w w') (hL : ∀ b ∈ L, NotStr w b) (U : List Words) : SetsL w' k (T ++ U) xs ls := ⟨h.len, fun i h1 h2 => (h.at_ i h1 h2).keep hf hL U⟩
theorem SetsL.nil (w : World) (k : Int) (T : List Words) : SetsL w k T [] [] := ⟨rfl, fun i h => by simp at h⟩
theorem SetsL.push {w : World} {k : Int} {T : List Words} {xs : List (List Value)} {ls : List Words} (h : SetsL w k T xs ls) {x : List Value} {l : Words} (hx : SetC w k T x l) : SetsL w k T (xs ++ [x]) (ls ++ [l]) := by
 have hl := h.len
 refine ⟨by simp [hl], fun i h1 h2 => ?_⟩
 by_cases e : i < xs.length
 ·rw [List.getElem_append_left e, List.getElem_append_left (by omega)]
  exact h.at_ i e (by omega)
 ·have hi : i = xs.length := by rw [List.length_append] at h1; simp at h1; omega
  subst hi
  rw [List.getElem_append_right (Nat.le_refl _), List.getElem_append_right (by omega)]
  simpa [hl] using hx
theorem SetC.len {w : World} {k : Int} {T : List Words} {x : List Value} {l : Words} (h : SetC w k T x l) : x.length = 3 := by
 obtain ⟨n, a, c, b, rfl, _⟩ := h
 rfl
theorem SetsL.three {w : World} {k : Int} {T : List Words} {xs : List (List Value)} {ls : List Words} (h : SetsL w k T xs ls) : ∀ x ∈ xs, x.length = 3 := fun x hx => by
 obtain ⟨i, hi, rfl⟩ := List.getElem_of_mem hx
 exact (h.at_ i hi (by rw [← h.len]; exact hi)).len
theorem infoSet : (Tryz.prog.info? 93).map (fun i => (i.zero, i.size, i.bytes)) = some (some (.agg #[.int .i64 0, .slice none 0 0, .bool false]), 3, 40) := by kernel_rfl
def termW (t : Nat) : Words := [[UInt8.ofNat t]]
def termsW (n : Nat) : List Words := (List.range n).map termW
theorem termsW_next (n : Nat) : termsW (n + 1) = termsW n ++ [termW n] := by simp [termsW, List.range_succ]
def TmR (w : World) (q m : Nat) (k : Int) (T : List Words) (n : Nat) (v iv : Value) (wx : World) : Prop :=
 ∃ (i : Nat) (U : List Words) (xs : List (List Value)), i ≤ n ∧ iv = .int .i64 (i : Int) ∧ ownsS wx w.heap.size 93 3 v xs.length xs.flatten ∧ SetsL wx k (T ++ U) xs (termsW i) ∧ PoolAt wx q k (T ++ U) (m + 2 * i) ∧ Fr (plB q) w wx
set_option maxRecDepth 100000 in
set_option maxHeartbeats 4000000 in
theorem pterms (q m : Nat) (k : Int) (T : List Words) (n : Nat) (w : World) (hA : PoolAt w q k T m) (hk1 : 1 ≤ k) (hk : k ≤ 4) (hn : n ≤ 256) (hm : m ≤ 9000000000000000) :
  Calls Tryz.prog 54 #[.pointer (some ⟨q + 2, 0, none⟩), .int .i64 (n : Int)] w fun e w' => ∃ v U xs, e = .returned v ∧ ownsS w' w.heap.size 93 3 v xs.length xs.flatten ∧ SetsL w' k (T ++ U) xs (termsW n) ∧ PoolAt w' q k (T ++ U) (m + 2 * n) ∧ Fr (plB q) w w' := by
 obtain ⟨iS, hiS, hS0, hS1, hS2⟩ := info_parts infoSet
 have HQL := Lib.hid (show q + 2 < w.heap.size from by obtain ⟨c, _, _, h⟩ := hA.obj; exact (Array.getElem?_eq_some_iff.1 h).1)
 have HA := Lib.hid hA
 obtain ⟨p, hp⟩ : ∃ p, p = q + 2 := ⟨_, rfl⟩
 rw [← hp]
 have HP := Lib.hid hp
 clear hA hp
 go_enter Tryz.func54, Tryz.ntmps54
 go_wp2_with fail
 go_loopw [5, 8] (TmR w q m k T n) (fun _ iv _ => n - (intOf iv).toNat)
 case atStart => exact ⟨0, [], [], Nat.zero_le _, rfl, ownsS.nil _ _ _ _, by rw [List.append_nil]; exact SetsL.nil _ _ _, by rw [List.append_nil]; exact HA.out, Fr.refl _ _⟩
 case round =>
  obtain ⟨i, U, xs, hi, rfl, hrow, hset, hpool, hfr⟩ := hrel
  obtain ⟨a5, c5, rfl, hc5, hm5⟩ := owns_slice hrow.owns
  by_cases hin : i < n
  ·have hd1 : decide (i < n) = true := decide_eq_true hin
   have hil : i ≤ 255 := by omega
   have hsz : w.heap.size ≤ wr.heap.size := hfr.size
   have HROW := Lib.hid hrow
   have HSET := Lib.hid hset
   have HFR := Lib.hid hfr
   have HQU := Lib.hid hpool.quiet
   obtain ⟨nx, hnx⟩ : ∃ nx, nx = xs.length := ⟨_, rfl⟩
   have hnxi : nx = i := by rw [hnx, hset.len]; simp [termsW]
   have HNX := Lib.hid hnx
   have HNXI := Lib.hid hnxi
   have hnx5 : nx ≤ 256 := by omega
   rw [← hnx] at HROW hc5 ⊢
   obtain ⟨y, hy⟩ : ∃ y, y = UInt8.ofNat i := ⟨_, rfl⟩
   have hyv : (i : Int) = (y.toNat : Int) := by rw [hy]; simp only [UInt8.toNat_ofNat']; omega
   have hby : bytesAt (wr.alloc (.cells #[.int .u8 (i : Int)] 5)) (.slice (some ⟨wr.heap.size, 0, none⟩) 1 1) [y] := bytesAt_new wr [y] 5 1 rfl (by simp [maxLen]) _ (by rw [hyv]; rfl)
   have hcv := run_conv_bytes (P := Tryz.prog) hby 47 5 9 Tryz.underlying47 Tryz.underlying5 Tryz.underlying9
   have hf1 := Fr.alloc wr (.cells #[.int .u8 (i : Int)] 5)
   obtain ⟨w1, hw1⟩ : ∃ w1, wr.alloc (.cells #[.int .u8 (i : Int)] 5) = w1 := ⟨_, rfl⟩
   rw [hw1] at hcv hf1
   have hst := strs_one w1 [y]
   have hf2 := hf1.tr0 (Fr.alloc w1 (.cells #[encStr [y]] 9))
   obtain ⟨w2, hw2⟩ : ∃ w2, w1.alloc (.cells #[.string ⟨#[y]⟩] 9) = w2 := ⟨_, rfl⟩
   change strsAt (w1.alloc (.cells #[.string ⟨#[y]⟩] 9)) _ _ at hst
   change Fr [] wr (w1.alloc (.cells #[.string ⟨#[y]⟩] 9)) at hf2
   rw [hw2] at hst hf2
   have hcv2 : (convert 47 9 (.slice (some ⟨wr.heap.size, 0, none⟩) 1 1)).run Tryz.prog w1 = .ok (.string ⟨#[y]⟩) w1 := hcv
   clear hcv
   have HOF := Lib.hid (pof q (m + 2 * i) k (T ++ U) [[y]] _ w2 (hpool.later hf2) hst (GoodW.one hk1 [y] rfl) hk (by omega))
   rw [← HP.out] at HOF
   have HF2 := Lib.hid hf2
   have HY := Lib.hid hy
   have hzs : ∀ z ∈ (Value.agg #[.int .i64 0, .slice none 0 0, .bool false]).cells.toList, notS z := fun z hz x e => by subst e; simp [Value.cells] at hz
   have HZS := Lib.hid hzs
   clear hrow hset hpool hfr hnx hnxi hyv hby hf1 hf2 hst hy hzs
   go_wp2_with (first
    | (go_at_call 79; refine HOF.out.mono ?_; rintro e w3 ⟨x, V, rfl, hx, hP3, hf3⟩; obtain ⟨n3, sa, sc, b3, rfl, hS3⟩ := hx.form; have HS3 := Lib.hid hS3; have HP3 := Lib.hid hP3; have HF3 := Lib.hid (HF2.out.trans hf3 (n := plB q) (by simp) (fun _ h _ => h)); have HR3 := Lib.hid (HROW.out.kept HF3.out (fun b hb hm => by have h1 := (HROW.out.lt b hb).1; have h2 := HQL.out; unfold plB at hm; simp at hm; omega)); have hsz3 : w.heap.size ≤ w3.heap.size := Nat.le_trans hsz HF3.out.size; clear hx hP3 hf3 hS3)
    | (at_builtin; refine wpL_appendSS rfl _ _ 62 rfl w.heap.size 93 iS (.agg #[.int .i64 0, .slice none 0 0, .bool false]) 3 40 Tryz.underlying62 hiS hS0 hS1 hS2 rfl (by decide) HZS.out (.slice a5 nx c5) nx _ rfl HR3.out [.int .i64 (n3 : Int), .slice sa 1 sc, .bool b3] rfl (by simp [Value.oneCell']) (by simp [notS]) rfl (by omega) (by simp only [maxLen]; omega) hsz3 ?_; intro v8 w8 hown8 hf8 hb8))
   have hq8 : ∀ b ∈ (Value.slice a5 nx c5).ownBlock.toList, NotStr w3 b := HR3.out.quiet
   have hn8 : ∀ b ∈ (Value.slice a5 nx c5).ownBlock.toList, b ∉ plB q := fun b hb hm => by
    have h1 := (HR3.out.lt b (by simpa [Option.mem_toList] using hb)).1
    have h2 := HQL.out
    unfold plB at hm
    simp at hm
    omega
   have hset3 := ((HSET.out.keep HF3.out HQU.out V).keep hf8 hq8 []).push (x := [.int .i64 (n3 : Int), .slice sa 1 sc, .bool b3]) (l := termW i) (by
    refine ⟨n3, sa, sc, b3, rfl, ?_⟩
    have h9 := (HS3.out.keep hf8 hq8).more []
    rw [HY.out] at h9
    exact h9)
   rw [List.append_nil, ← termsW_next] at hset3
   refine ⟨⟨i + 1, U ++ V, xs ++ [[.int .i64 (n3 : Int), .slice sa 1 sc, .bool b3]], by omega, by go_num, ?_, by rw [← List.append_assoc]; exact hset3, ?_, ?_⟩, by simp [intOf]; omega⟩
   ·rw [List.length_append, List.flatten_append, ← HNX.out]
    simpa using hown8
   ·rw [← List.append_assoc]
    exact (HP3.out.keep hf8 (fun b hb => ⟨hq8 b hb, hn8 b hb⟩)).mono (by omega)
   ·exact (HFR.out.trans (show Fr (plB q) wr w3 from HF3.out) (fun _ h _ => h) (fun _ h _ => h)).trans hf8 (fun _ h _ => h) (fun b hb hlt => by
     have h1 := (HR3.out.lt b (by simpa [Option.mem_toList] using hb)).1
     omega)
  ·have hd1 : decide (i < n) = false := decide_eq_false hin
   obtain rfl : i = n := by omega
   have H := Lib.hid (show ∃ U xs', ownsS wr w.heap.size 93 3 (.slice a5 xs.length c5) xs'.length xs'.flatten ∧ SetsL wr k (T ++ U) xs' (termsW i) ∧ PoolAt wr q k (T ++ U) (m + 2 * i) ∧ Fr (plB q) w wr from ⟨U, xs, hrow, hset, hpool, hfr⟩)
   clear hrow hset hpool hfr
   go_wp2_with fail
   go_ret
   obtain ⟨U, xs, h1, h2, h3, h4⟩ := H.out
   exact ⟨_, U, xs, rfl, h1, h2, h3, h4⟩
end Go.Proofs.YtnaamjpiaekmeaaGreat
namespace Go.Proofs.YtnaamjpiaekmeaaGreat
open Go.RowKit Go.Maps
structure CoreAt (w : World) (q : Nat) (k : Int) (T : List Words) (m : Nat) (us : List Nat) (Ks : List Words) : Prop where
 pool : PoolAt w q k T m
 len : us.length = Ks.length
 unis : ∀ i (h : i < us.length) (h' : i < Ks.length), UniAt w (us[i]'h) q k T (Ks[i]'h')
 first : ∀ i (h : i < us.length), q + 3 ≤ us[i]'h
 order : ∀ i j (h : i < us.length) (h' : j < us.length), i < j → us[i]'h + 3 ≤ us[j]'h'
section
variable {w w' : World} {q : Nat} {k : Int} {T : List Words} {m : Nat} {us : List Nat} {Ks : List Words}
theorem mem_plB {b u : Nat} : b ∈ plB u ↔ u ≤ b ∧ b < u + 3 := by
 unfold plB
 simp only [List.mem_cons, List.not_mem_nil, or_false]
 omega
theorem CoreAt.mono (h : CoreAt w q k T m us Ks) {m' : Nat} (hm : m ≤ m') : CoreAt w q k T m' us Ks := ⟨h.pool.mono hm, h.len, h.unis, h.first, h.order⟩
theorem CoreAt.keep {L : List Nat} (h : CoreAt w q k T m us Ks) (hf : Fr L w w') (hL : ∀ b ∈ L, NotStr w b ∧ b ∉ plB q ∧ ∀ i (h : i < us.length), b ∉ plB (us[i]'h)) : CoreAt w' q k T m us Ks :=
 ⟨h.pool.keep hf (fun b hb => ⟨(hL b hb).1, (hL b hb).2.1⟩), h.len, fun i h1 h2 => by
  have := (h.unis i h1 h2).keep hf (fun b hb => ⟨(hL b hb).1, (hL b hb).2.2 i h1⟩) []
  rwa [List.append_nil] at this, h.first, h.order⟩
theorem CoreAt.later (h : CoreAt w q k T m us Ks) (hf : Fr [] w w') : CoreAt w' q k T m us Ks := h.keep hf (by simp)
theorem plB_apart {u v b : Nat} (h : u + 3 ≤ v ∨ v + 3 ≤ u) (hb : b ∈ plB u) : b ∉ plB v := fun hm => by
 rw [mem_plB] at hb hm
 omega
theorem CoreAt.stepP (h : CoreAt w q k T m us Ks) {U : List Words} {m' : Nat} (hp : PoolAt w' q k (T ++ U) m') (hf : Fr (plB q) w w') : CoreAt w' q k (T ++ U) m' us Ks :=
 ⟨hp, h.len, fun i h1 h2 => (h.unis i h1 h2).keep hf (fun b hb => ⟨h.pool.quiet b hb, plB_apart (.inl (h.first i h1)) hb⟩) U, h.first, h.order⟩
theorem CoreAt.stepU (h : CoreAt w q k T m us Ks) {U : List Words} {m' n : Nat} {K : Words} (hn : n < us.length) (hp : PoolAt w' q k (T ++ U) m') (hu : UniAt w' (us[n]'hn) q k (T ++ U) K) (hf : Fr (plB q ++ plB (us[n]'hn)) w w') : CoreAt w' q k (T ++ U) m' us (Ks.set n K) := by
 refine ⟨hp, by rw [List.length_set]; exact h.len, fun i h1 h2 => ?_, h.first, h.order⟩
 rw [List.getElem_set]
 by_cases e : n = i
 ·subst e; rw [if_pos rfl]; exact hu
 ·rw [if_neg e]
  have hnk : n < Ks.length := by rw [← h.len]; exact hn
  refine (h.unis i h1 (by rw [List.length_set] at h2; exact h2)).keep hf (fun b hb => ?_) U
  rcases List.mem_append.1 hb with hb | hb
  ·exact ⟨h.pool.quiet b hb, plB_apart (.inl (h.first i h1)) hb⟩
  ·refine ⟨(h.unis n hn hnk).quiet b hb, plB_apart ?_ hb⟩
   rcases Nat.lt_or_ge n i with q1 | q1
   ·exact .inl (h.order n i hn h1 q1)
   ·exact .inr (h.order i n h1 hn (by omega))
theorem CoreAt.stepV (h : CoreAt w q k T m us Ks) {n : Nat} {K : Words} (hn : n < us.length) (hu : UniAt w' (us[n]'hn) q k T K) (hf : Fr (plB (us[n]'hn)) w w') : CoreAt w' q k T m us (Ks.set n K) := by
 have hnk : n < Ks.length := by rw [← h.len]; exact hn
 have hp := h.pool.keep hf (fun b hb => ⟨(h.unis n hn hnk).quiet b hb, plB_apart (.inr (h.first n hn)) hb⟩)
 have := h.stepU (U := []) hn (by rw [List.append_nil]; exact hp) (by rw [List.append_nil]; exact hu) (hf.mono (fun i hi _ => by simp [hi]))
 rwa [List.append_nil] at this
theorem CoreAt.push (h : CoreAt w q k T m us Ks) (hf : Fr [] w w') {u : Nat} {K : Words} (hu : UniAt w' u q k T K) (hl : ∀ i (h : i < us.length), us[i]'h + 3 ≤ u) (hq : q + 3 ≤ u) : CoreAt w' q k T m (us ++ [u]) (Ks ++ [K]) := by
 have h0 := h.later hf
 refine ⟨h0.pool, by simp [h.len], fun i h1 h2 => ?_, fun i h1 => ?_, fun i j h1 h2 hij => ?_⟩
 ·by_cases e : i < us.length
  ·rw [List.getElem_append_left e, List.getElem_append_left (by rw [← h.len]; exact e)]
   exact h0.unis i e _
  ·have hi : i = us.length := by rw [List.length_append] at h1; simp at h1; omega
   subst hi
   rw [List.getElem_append_right (Nat.le_refl _), List.getElem_append_right (by rw [h.len]; exact Nat.le_refl _)]
   simpa [h.len] using hu
 ·by_cases e : i < us.length
  ·rw [List.getElem_append_left e]; exact h.first i e
  ·rw [List.getElem_append_right (by omega)]; simpa using hq
 ·have hj : j < us.length ∨ j = us.length := by rw [List.length_append] at h2; simp at h2; omega
  have hi : i < us.length := by rw [List.length_append] at h2; simp at h2; omega
  rw [List.getElem_append_left hi]
  rcases hj with e | e
  ·rw [List.getElem_append_left e]; exact h.order i j hi e hij
  ·rw [List.getElem_append_right (by omega)]; simpa using hl i hi
theorem CoreAt.start (h : PoolAt w q k T m) : CoreAt w q k T m [] [] := ⟨h, rfl, fun i h => by simp at h, fun i h => by simp at h, fun i j h => by simp at h⟩
theorem PoolAt.notT (h : PoolAt w q k T m) {b : Nat} (hb : b ∈ plB q) {cs : Array Value} {t : TypeId} {fr : Nat × Nat} (ht : w.heap[b]? = some (.cells cs t fr)) : t = 132 := by
 unfold plB at hb
 rcases List.mem_cons.1 hb with rfl | hb
 ·obtain ⟨D, n, _, h1, _⟩ := h.sets
  obtain ⟨es, c, hh⟩ := ownsMap_heap h1
  rw [hh] at ht; cases ht
 rcases List.mem_cons.1 hb with rfl | hb
 ·obtain ⟨D, n, _, h1, _⟩ := h.prods
  obtain ⟨es, c, hh⟩ := ownsMap_heap h1
  rw [hh] at ht; cases ht
 ·rw [List.mem_singleton.1 hb] at ht
  obtain ⟨c, _, _, h1⟩ := h.obj
  rw [h1] at ht
  injection ht with ht
  injection ht with _ e _
  exact e.symm
theorem UniAt.notT {u : Nat} {K : Words} (h : UniAt w u q k T K) {b : Nat} (hb : b ∈ plB u) {cs : Array Value} {t : TypeId} {fr : Nat × Nat} (ht : w.heap[b]? = some (.cells cs t fr)) : t = 139 := by
 unfold plB at hb
 rcases List.mem_cons.1 hb with rfl | hb
 ·obtain ⟨D, h1, _⟩ := h.words
  obtain ⟨es, c, hh⟩ := ownsMap_heap h1
  rw [hh] at ht; cases ht
 rcases List.mem_cons.1 hb with rfl | hb
 ·obtain ⟨D, n, _, h1, _⟩ := h.parts
  obtain ⟨es, c, hh⟩ := ownsMap_heap h1
  rw [hh] at ht; cases ht
 ·rw [List.mem_singleton.1 hb] at ht
  obtain ⟨n, v, b, V, h1, _, _⟩ := h.obj
  rw [h1] at ht
  injection ht with ht
  injection ht with _ e _
  exact e.symm
theorem CoreAt.apart (h : CoreAt w q k T m us Ks) {b : Nat} {cs : Array Value} {t : TypeId} {fr : Nat × Nat} (ht : w.heap[b]? = some (.cells cs t fr)) (h1 : t ≠ 132) (h2 : t ≠ 139) : b ∉ plB q ∧ ∀ i (h : i < us.length), b ∉ plB (us[i]'h) :=
 ⟨fun hm => h1 (h.pool.notT hm ht), fun i hi hm => h2 ((h.unis i hi (by rw [← h.len]; exact hi)).notT hm ht)⟩
end
def coreB (q : Nat) (us : List Nat) : List Nat := plB q ++ us.flatMap plB
theorem coreB_q {q b : Nat} {us : List Nat} (h : b ∈ plB q) : b ∈ coreB q us := List.mem_append.2 (.inl h)
theorem coreB_u {q b n : Nat} {us : List Nat} (hn : n < us.length) (h : b ∈ plB (us[n]'hn)) : b ∈ coreB q us := List.mem_append.2 (.inr (List.mem_flatMap.2 ⟨_, List.getElem_mem hn, h⟩))
theorem mem_coreB {q b : Nat} {us : List Nat} (h : b ∈ coreB q us) : b ∈ plB q ∨ ∃ i, ∃ h : i < us.length, b ∈ plB (us[i]'h) := by
 rcases List.mem_append.1 h with h | h
 ·exact .inl h
 ·obtain ⟨u, hu, hb⟩ := List.mem_flatMap.1 h
  obtain ⟨i, hi, rfl⟩ := List.getElem_of_mem hu
  exact .inr ⟨i, hi, hb⟩
theorem CoreAt.notB {w : World} {q : Nat} {k : Int} {T : List Words} {m : Nat} {us : List Nat} {Ks : List Words} (h : CoreAt w q k T m us Ks) {b : Nat} {cs : Array Value} {t : TypeId} {fr : Nat × Nat} (ht : w.heap[b]? = some (.cells cs t fr)) (h1 : t ≠ 132) (h2 : t ≠ 139) : b ∉ coreB q us := fun hm => by
 rcases mem_coreB hm with hm | ⟨i, hi, hm⟩
 ·exact (h.apart ht h1 h2).1 hm
 ·exact (h.apart ht h1 h2).2 i hi hm
theorem CoreAt.quietB {w : World} {q : Nat} {k : Int} {T : List Words} {m : Nat} {us : List Nat} {Ks : List Words} (h : CoreAt w q k T m us Ks) : ∀ b ∈ coreB q us, NotStr w b := fun b hm => by
 rcases mem_coreB hm with hm | ⟨i, hi, hm⟩
 ·exact h.pool.quiet b hm
 ·exact (h.unis i hi (by rw [← h.len]; exact hi)).quiet b hm
end Go.Proofs.YtnaamjpiaekmeaaGreat
namespace Go.Proofs.YtnaamjpiaekmeaaGreat
open Go.RowKit Go.Maps
def PrGot (q : Nat) (k : Int) (T : List Words) (m : Nat) (l : Words) (w : World) (e : Ending) (w' : World) : Prop :=
 ∃ (n : Nat) (a : Option Addr) (z c : Nat) (b : Bool) (U : List Words), e = .returned (.tuple #[.agg #[.int .i64 (n : Int), .slice a z c, .bool b], .bool (decide (l.length ≤ 4096))]) ∧ (l.length ≤ 4096 → SetAt w' k (T ++ U) (.agg #[.int .i64 (n : Int), .slice a z c, .bool b]) l) ∧ PoolAt w' q k (T ++ U) m ∧ Fr (plB q) w w'
theorem cat_good {k : Int} (hk : 0 ≤ k) {a b : Words} (h : (catW k a b).length ≤ 4096) : GoodW k (catW k a b) := ⟨set_catW k a b, h, cat_most hk a b⟩
theorem cat_full {k : Int} {a b : Words} (ha : GoodW k a) (hf : fullW k a = true) (hb : 0 < b.length) : catW k a b = a :=
 cat_whole ha.set (fun e => by subst e; simp at hb) (by
  unfold wholeW
  rw [List.all_eq_true]
  intro x hx
  have := fullW_all hf x hx
  exact decide_eq_true (by omega)) ha.short
theorem two_of_heap {w : World} {p : Nat} {a b : Value} {t : TypeId} (h : w.heap[p]? = some (.cells #[a, b] t (0, 0))) : w.cell? ⟨p, 0, none⟩ = some a ∧ w.cell? ⟨p, 1, none⟩ = some b := ⟨by rw [cell_of_heap h]; rfl, by rw [cell_of_heap h]; rfl⟩
set_option maxRecDepth 100000 in
set_option maxHeartbeats 8000000 in
theorem pprod (hW : ProgWCat) (q m : Nat) (k : Int) (T : List Words) (x y : Value) (la lb : Words) (w : World) (hA : PoolAt w q k T m) (hx : SetAt w k T x la) (hy : SetAt w k T y lb) (hk1 : 1 ≤ k) (hk : k ≤ 4) (hm : m ≤ 9000000000000000) :
  Calls Tryz.prog 97 #[.pointer (some ⟨q + 2, 0, none⟩), x, y] w (PrGot q k T (m + 4) (catW k la lb) w) := by
 obtain ⟨na, aa, ca, ba, rfl, hSa⟩ := hx.form
 obtain ⟨nb, ab, cb, bb, rfl, hSb⟩ := hy.form
 have hTl := hA.few
 have hna : na ≤ 9000000000000001 := by have := (List.getElem?_eq_some_iff.1 hSa.num).1; simp at this; omega
 have hnb : nb ≤ 9000000000000001 := by have := (List.getElem?_eq_some_iff.1 hSb.num).1; simp at this; omega
 have HQL := Lib.hid (show q + 2 < w.heap.size from by obtain ⟨c, _, _, h⟩ := hA.obj; exact (Array.getElem?_eq_some_iff.1 h).1)
 have HA := Lib.hid hA
 have HSA := Lib.hid hSa
 have HSB := Lib.hid hSb
 obtain ⟨p, hp⟩ : ∃ p, p = q + 2 := ⟨_, rfl⟩
 rw [← hp]
 have HP := Lib.hid hp
 clear hA hx hy hSa hSb hp
 obtain ⟨NB, hNB⟩ : ∃ NB, NB = lb.length := ⟨_, rfl⟩
 obtain ⟨NA, hNA⟩ : ∃ NA, NA = la.length := ⟨_, rfl⟩
 rw [← hNB] 
 rw [← hNA] 
 have HNB := Lib.hid hNB
 have HNA := Lib.hid hNA
 clear hNB hNA
 have e0 := Fr.alloc w (.cells #[.int .i64 (na : Int), .slice aa NA ca, .bool ba] 93)
 have i0 := heap_alloc_new w (.cells #[.int .i64 (na : Int), .slice aa NA ca, .bool ba] 93)
 obtain ⟨v0, hv0⟩ : ∃ v0, v0 = w.alloc (.cells #[.int .i64 (na : Int), .slice aa NA ca, .bool ba] 93) := ⟨_, rfl⟩
 have e1 := Fr.alloc v0 (.cells #[.int .i64 (nb : Int), .slice ab NB cb, .bool bb] 93)
 have i1 := heap_alloc_new v0 (.cells #[.int .i64 (nb : Int), .slice ab NB cb, .bool bb] 93)
 obtain ⟨v1, hv1⟩ : ∃ v1, v1 = v0.alloc (.cells #[.int .i64 (nb : Int), .slice ab NB cb, .bool bb] 93) := ⟨_, rfl⟩
 have e2 := Fr.alloc v1 (.cells #[.int .i64 0, .slice none 0 0, .bool false] 93)
 have i2 := heap_alloc_new v1 (.cells #[.int .i64 0, .slice none 0 0, .bool false] 93)
 obtain ⟨w0, hw0⟩ : ∃ w0, w0 = v1.alloc (.cells #[.int .i64 0, .slice none 0 0, .bool false] 93) := ⟨_, rfl⟩
 have s0 : v0.heap.size = w.heap.size + 1 := by rw [hv0, World.size_alloc]
 have s1 : v1.heap.size = w.heap.size + 2 := by rw [hv1, World.size_alloc, s0]
 rw [← hv0] at e0 i0
 rw [← hv1] at e1 i1
 rw [← hw0] at e2 i2
 rw [s0] at i1
 rw [s1] at i2
 have HF0 := Lib.hid ((e0.tr0 e1).tr0 e2)
 have HBA := Lib.hid ((e1.tr0 e2).heap i0 (by simp))
 have HBB := Lib.hid (e2.heap i1 (by simp))
 have HBR := Lib.hid i2
 have HW0 := Lib.hid (show w0 = ((w.alloc (.cells #[.int .i64 (na : Int), .slice aa NA ca, .bool ba] 93)).alloc (.cells #[.int .i64 (nb : Int), .slice ab NB cb, .bool bb] 93)).alloc (.cells #[.int .i64 0, .slice none 0 0, .bool false] 93) from by rw [hw0, hv1, hv0])
 clear e0 e1 e2 i0 i1 i2 s0 s1 hv0 hv1 hw0
 obtain ⟨ra, hra⟩ : ∃ r, r = w.heap.size := ⟨_, rfl⟩
 obtain ⟨rb, hrb⟩ : ∃ r, r = w.heap.size + 1 := ⟨_, rfl⟩
 obtain ⟨rr, hrr⟩ : ∃ r, r = w.heap.size + 2 := ⟨_, rfl⟩
 rw [← hra] at HBA
 rw [← hrb] at HBB
 rw [← hrr] at HBR
 have HRA := Lib.hid hra
 have HRB := Lib.hid hrb
 have HRR := Lib.hid hrr
 clear hra hrb hrr
 obtain ⟨x0, x1, x2, y0, y1, y2⟩ := three_of_set HBA.out
 obtain ⟨u0, u1, u2, z0, z1, z2⟩ := three_of_set HBB.out
 obtain ⟨t0, t1, t2, o0, o1, o2⟩ := three_of_heap HBR.out
 go_enter Tryz.func97, Tryz.ntmps97
 go_upto_region 1 with fail
 rw [← HW0.out, ← HRR.out, ← HRB.out, ← HRA.out]
 obtain ⟨G, hG⟩ : ∃ G, G = (ba && decide (0 < NB)) := ⟨_, rfl⟩
 have HG := Lib.hid hG
 clear hG
 have HLB := Lib.hid (plen k T (.agg #[.int .i64 (nb : Int), .slice ab lb.length cb, .bool bb]) lb w0 ⟨nb, _, _, rfl, HSB.out.keep HF0.out (by simp)⟩)
 rw [← HNB.out] at HLB
 go_cut [20] (fun s wx => s = .bool G ∧ Fr [] w0 wx)
 case first =>
  cases ba with
  | true =>
    by_cases hz : 0 < NB
    ·have hd1 : decide (0 < NB) = true := decide_eq_true hz
     go_wp2_with (go_at_call 59; refine HLB.out.mono ?_; rintro e w1 ⟨rfl, hf1⟩)
     go_meet
     exact ⟨by rw [HG.out, hd1]; rfl, hf1⟩
    ·have hd1 : decide (0 < NB) = false := decide_eq_false hz
     go_wp2_with (go_at_call 59; refine HLB.out.mono ?_; rintro e w1 ⟨rfl, hf1⟩)
     go_meet
     exact ⟨by rw [HG.out, hd1]; rfl, hf1⟩
  | false =>
    go_wp2_with fail
    go_meet
    exact ⟨by rw [HG.out]; rfl, Fr.refl _ _⟩
 obtain ⟨rfl, hfc⟩ := hcut
 have HBA1 := Lib.hid (hfc.heap HBA.out (by simp))
 have HBB1 := Lib.hid (hfc.heap HBB.out (by simp))
 have HBR1 := Lib.hid (hfc.heap HBR.out (by simp))
 have HF1 := Lib.hid (HF0.out.tr0 hfc)
 have hrr : w.heap.size ≤ rr := by have := HRR.out; omega
 clear x0 x1 x2 y0 y1 y2 u0 u1 u2 z0 z1 z2 t0 t1 t2 o0 o1 o2 hfc
 have hrq : rr ∉ plB q := by have := HQL.out; have := HRR.out; simp [plB]; omega
 cases G with
 | true =>
   obtain ⟨x0, x1, x2, y0, y1, y2⟩ := three_of_set HBA1.out
   obtain ⟨t0, t1, t2, o0, o1, o2⟩ := three_of_heap HBR1.out
   have hg := HG.out
   have hba : ba = true := by cases ba with | true => rfl | false => cases hg
   have hnb0 : 0 < NB := by
    rw [hba] at hg
    exact of_decide_eq_true hg.symm
   have hcat : catW k la lb = la := cat_full HSA.out.good (HSA.out.full hba) (by rw [← HNB.out]; exact hnb0)
   have HCAT := Lib.hid hcat
   have hf8 := set3_fr wc rr (.int .i64 (na : Int)) (.slice aa NA ca) (.bool ba)
   have HR8 := Lib.hid (set3_heap HBR1.out (.int .i64 (na : Int)) (.slice aa NA ca) (.bool ba))
   have hq8 : ∀ b ∈ [rr], NotStr wc b ∧ b ∉ plB q := fun b hb => by
    rw [List.mem_singleton.1 hb]
    exact ⟨NotStr.cells HBR1.out (fun z hz x e => by subst e; simp at hz), hrq⟩
   have HS8 := Lib.hid ((HSA.out.keep HF1.out (by simp)).keep hf8 (fun b hb => (hq8 b hb).1))
   have HP8 := Lib.hid (((HA.out.later HF1.out).keep hf8 hq8).mono (show m ≤ m + 4 by omega))
   have HF8 := Lib.hid (HF1.out.trans hf8 (n := []) (by simp) (fun i hi hlt => by simp at hi; omega))
   clear hcat hf8 hq8 hg hba
   go_wp2_with fail
   refine bodyPost_ret (results_k rfl _ _ rr 93 #[.int .i64 (na : Int), .slice aa NA ca, .bool ba] _ rfl HR8.out Tryz.underlying93 rfl sizeSet _ rfl) rfl ?_
   refine ⟨na, aa, NA, ca, ba, [], ?_, fun _ => ?_, ?_, HF8.out.mono (by simp)⟩
   ·have := HSA.out.good.few
    rw [HCAT.out, decide_eq_true this]
    rfl
   ·rw [HCAT.out, List.append_nil]
    refine ⟨na, _, _, rfl, ?_⟩
    have h := HS8.out
    rw [← HNA.out] at h
    exact h
   ·rw [List.append_nil]; exact HP8.out
 | false =>
   obtain ⟨x0, x1, x2, y0, y1, y2⟩ := three_of_set HBA1.out
   obtain ⟨u0, u1, u2, z0, z1, z2⟩ := three_of_set HBB1.out
   go_upto_region 4 with fail
   have hf2 := Fr.alloc wc (.cells #[.int .i64 (na : Int), .int .i64 (nb : Int)] 169)
   have hb2 := heap_alloc_new wc (.cells #[.int .i64 (na : Int), .int .i64 (nb : Int)] 169)
   obtain ⟨w2, hw2⟩ : ∃ w2, w2 = wc.alloc (.cells #[.int .i64 (na : Int), .int .i64 (nb : Int)] 169) := ⟨_, rfl⟩
   obtain ⟨r8, hr8⟩ : ∃ r8, r8 = wc.heap.size := ⟨_, rfl⟩
   rw [← hw2] at hf2 hb2 ⊢
   rw [← hr8] at hb2 ⊢
   have HBA2 := Lib.hid (hf2.heap HBA1.out (by simp))
   have HBB2 := Lib.hid (hf2.heap HBB1.out (by simp))
   have HBR2 := Lib.hid (hf2.heap HBR1.out (by simp))
   have HF2 := Lib.hid (HF1.out.tr0 hf2)
   have HB2 := Lib.hid hb2
   have hr8w : w.heap.size ≤ r8 := by rw [hr8]; exact HF1.out.size
   have HP2 := Lib.hid (HA.out.later (HF1.out.tr0 hf2))
   obtain ⟨cc, hcc1, hcc2, hob2⟩ := HP2.out.obj
   obtain ⟨D, nD, hD1, hD2, hD3⟩ := HP2.out.prods
   rw [← HP.out] at hob2
   have HOB2 := Lib.hid hob2
   obtain ⟨kl, hkl⟩ := keyOfP na nb (by omega) (by omega)
   have HKL := Lib.hid hkl
   have HD2 := Lib.hid hD2
   have HD3 := Lib.hid hD3
   clear hw2 hr8 hf2 hb2 hob2 hkl hD2 hD3 x0 x1 x2 y0 y1 y2 u0 u1 u2 z0 z1 z2
   have hpp : p ∉ plB q → False := fun h => h (by rw [HP.out]; simp [plB])
   cases hh : has D kl with
   | true =>
     obtain ⟨a2, b2, v2, ha2, hb2, hat, hs2⟩ := HD3.out na nb kl HKL.out hh
     have hea : a2 = la := by have := HSA.out.num; rw [ha2] at this; exact Option.some.inj this
     have heb : b2 = lb := by have := HSB.out.num; rw [hb2] at this; exact Option.some.inj this
     subst hea
     subst heb
     obtain ⟨n3, sa, sc, b3, rfl, hS3⟩ := hs2.form
     have hlk : ∀ w1 : World, Fr [] w2 w1 → (Instr.lookup 130 (.map (some (q + 1))) (.agg #[.int .i64 (na : Int), .int .i64 (nb : Int)]) true).run Tryz.prog w1 = .ok (.tuple #[.agg #[.int .i64 (n3 : Int), .slice sa (catW k a2 b2).length sc, .bool b3], .bool true]) w1 := fun w1 hf => by
      have := look_held (ownsMap_keptH HD2.out hf (by simp)) lawKP Tryz.underlying130 (zeroKP w1) HKL.out (v := .agg #[.int .i64 (n3 : Int), .slice sa (catW k a2 b2).length sc, .bool b3]) (fun _ => hat) (fun q => by rw [hh] at q; cases q)
      rwa [hh] at this
     have HLK := Lib.hid hlk
     have HS3 := Lib.hid hS3
     obtain ⟨NC, hNC⟩ : ∃ NC, NC = (catW k a2 b2).length := ⟨_, rfl⟩
     rw [← hNC] at HLK
     have HNC := Lib.hid hNC
     clear hlk hS3 hs2 hat ha2 hb2 hh hNC
     obtain ⟨r9, hr9⟩ : ∃ r9, r9 = w2.heap.size := ⟨_, rfl⟩
     have HR9 := Lib.hid hr9
     have hp9 : p < r9 := by rw [hr9]; exact (Array.getElem?_eq_some_iff.1 HOB2.out).1
     have h89 : r8 < r9 := by rw [hr9]; exact (Array.getElem?_eq_some_iff.1 HB2.out).1
     have hr9d : rr < r9 := by rw [hr9]; exact (Array.getElem?_eq_some_iff.1 HBR2.out).1
     have ha9 : ra < r9 := by rw [hr9]; exact (Array.getElem?_eq_some_iff.1 HBA2.out).1
     have hb9' : rb < r9 := by rw [hr9]; exact (Array.getElem?_eq_some_iff.1 HBB2.out).1
     have hr9w : w.heap.size ≤ r9 := by rw [hr9]; exact HF2.out.size
     clear hr9
     refine wp_region_W [r9] [(0, false), (1, false), (2, false), (3, false), (4, false), (5, false), (6, false), (7, false), (8, false), (9, true), (10, true), (11, false)] 65 rfl (by kernel_rfl) (by kernel_rfl) (by kernel_rfl) (fun c a d v w h => by cases d <;> exact h) ?_
     simp only [List.map_cons, List.map_nil, List.getElem?_toArray, List.getElem?_cons_succ, List.getElem?_cons_zero, Option.getD_some]
     obtain ⟨wd, hwd⟩ : ∃ wd, wd = w2.drew := ⟨_, rfl⟩
     have hfd : Fr [] w2 wd := by rw [hwd]; exact Fr.drew w2
     have hszd : wd.heap.size = r9 := by rw [hwd, HR9.out]; rfl
     rw [← hwd]
     clear hwd
     have L1 : Hid (Later [r9] wd (fun w' => w'.heap[p]? = some (.cells #[.int .i64 k, .int .i64 (T.length : Int), .map (some q), .map (some (q + 1)), .int .i64 cc] 132 (0, 0)))) := Lib.hid (fun w' hf' => hf'.heap (hfd.heap HOB2.out (by simp)) (by simp; omega))
     have L2 : Hid (Later [r9] wd (fun w' => w'.heap[r8]? = some (.cells #[.int .i64 (na : Int), .int .i64 (nb : Int)] 169 (0, 0)))) := Lib.hid (fun w' hf' => hf'.heap (hfd.heap HB2.out (by simp)) (by simp; omega))
     have L3 : Hid (Later [r9] wd (fun w' => (Instr.lookup 130 (.map (some (q + 1))) (.agg #[.int .i64 (na : Int), .int .i64 (nb : Int)]) true).run Tryz.prog w' = .ok (.tuple #[.agg #[.int .i64 (n3 : Int), .slice sa NC sc, .bool b3], .bool true]) w')) := Lib.hid (fun w' hf' => HLK.out w' (hfd.trans hf' (n := []) (by simp) (fun i hi hlt => by have := HR9.out; simp at hi; omega)))
     have HFD := Lib.hid (HF2.out.tr0 hfd)
     have HF2D := Lib.hid hfd
     clear hfd
     repeat (apply wpG_t; · (intro w' hf'; obtain ⟨c0, c1, c2, c3, c4, f1, f4⟩ := five_of_heap (L1.out w' hf'); obtain ⟨x0, x1⟩ := two_of_heap (L2.out w' hf'); have lk := L3.out w' hf'; go_wp2_with fail; exact ⟨rfl, rfl⟩))
     refine wpG_x ?_
     go_wp2_with fail
     refine ⟨(Fr.alloc _ _).mono (by simp), rfl, ?_⟩
     have hf9 := Fr.alloc wd (.cells #[.int .i64 0, .slice none 0 0, .bool false] 93)
     have hb9 := heap_alloc_new wd (.cells #[.int .i64 0, .slice none 0 0, .bool false] 93)
     rw [hszd] at hb9
     obtain ⟨w3, hw3⟩ : ∃ w3, w3 = wd.alloc (.cells #[.int .i64 0, .slice none 0 0, .bool false] 93) := ⟨_, rfl⟩
     rw [← hw3] at hf9 hb9 ⊢
     clear hw3
     have HF3 := Lib.hid (HFD.out.tr0 hf9)
     have HF23 := Lib.hid (HF2D.out.tr0 hf9)
     have HB9 := Lib.hid hb9
     clear hf9 hszd
     refine wpG_x ?_
     obtain ⟨x0, x1, x2, y0, y1, y2⟩ := three_of_heap hb9
     go_wp2_with fail
     refine ⟨set3_fr w3 r9 _ _ _, rfl, ?_⟩
     have hs4 := set3_fr w3 r9 (.int .i64 (n3 : Int)) (.slice sa NC sc) (.bool b3)
     have hb4 := set3_heap HB9.out (.int .i64 (n3 : Int)) (.slice sa NC sc) (.bool b3)
     obtain ⟨w4, hw4⟩ : ∃ w4, w4 = ((w3.setCell ⟨r9, 0, none⟩ (.int .i64 (n3 : Int))).setCell ⟨r9, 1, none⟩ (.slice sa NC sc)).setCell ⟨r9, 2, none⟩ (.bool b3) := ⟨_, rfl⟩
     rw [← hw4] at hs4 hb4 ⊢
     have HF4 := Lib.hid (HF3.out.trans hs4 (n := []) (by simp) (fun i hi hlt => by simp at hi; omega))
     have HF24 := Lib.hid (HF23.out.trans hs4 (n := []) (by simp) (fun i hi hlt => by have := HR9.out; simp at hi; omega))
     have HB4 := Lib.hid hb4
     clear hs4 hb4 hw4 hb9 x0 x1 x2 y0 y1 y2
     repeat (apply wpG_t; · (intro w' hf'; go_wp2_with fail; exact ⟨rfl, rfl⟩))
     refine wpG_end ?_
     have HBR4 := Lib.hid (HF24.out.heap HBR2.out (by simp))
     clear L1 L2 L3
     obtain ⟨x0, x1, x2, y0, y1, y2⟩ := three_of_set HB4.out
     obtain ⟨t0, t1, t2, o0, o1, o2⟩ := three_of_heap HBR4.out
     have hf8 := set3_fr w4 rr (.int .i64 (n3 : Int)) (.slice sa NC sc) (.bool b3)
     have HR8 := Lib.hid (set3_heap HBR4.out (.int .i64 (n3 : Int)) (.slice sa NC sc) (.bool b3))
     have hq8 : ∀ b ∈ [rr], NotStr w4 b ∧ b ∉ plB q := fun b hb => by
      rw [List.mem_singleton.1 hb]
      exact ⟨NotStr.cells HBR4.out (fun z hz x e => by subst e; simp at hz), hrq⟩
     have HF8 := Lib.hid ((HF4.out.mono (fun i hi _ => by simp at hi)).trans hf8 (n := plB q) (fun _ h _ => h) (fun i hi hlt => by simp at hi; omega))
     have HS8 := Lib.hid ((HS3.out.keep HF24.out (by simp)).keep hf8 (fun b hb => (hq8 b hb).1))
     have HP8 := Lib.hid (((HA.out.later HF4.out).keep hf8 hq8).mono (show m ≤ m + 4 by omega))
     clear hf8 hq8
     go_wp2_with fail
     refine bodyPost_ret (results_k rfl _ _ rr 93 #[.int .i64 (n3 : Int), .slice sa NC sc, .bool b3] _ rfl HR8.out Tryz.underlying93 rfl sizeSet _ rfl) rfl ?_
     refine ⟨n3, sa, NC, sc, b3, [], ?_, fun _ => ?_, ?_, HF8.out⟩
     ·have := HS3.out.good.few
      rw [decide_eq_true this]
      rfl
     ·rw [List.append_nil]
      refine ⟨n3, _, _, rfl, ?_⟩
      have h := HS8.out
      rw [← HNC.out] at h
      exact h
     ·rw [List.append_nil]; exact HP8.out
   | false =>
     have hlk : ∀ w1 : World, Fr [] w2 w1 → (Instr.lookup 130 (.map (some (q + 1))) (.agg #[.int .i64 (na : Int), .int .i64 (nb : Int)]) true).run Tryz.prog w1 = .ok (.tuple #[.agg #[.int .i64 0, .slice none 0 0, .bool false], .bool false]) w1 := fun w1 hf => by
      have := look_held (ownsMap_keptH HD2.out hf (by simp)) lawKP Tryz.underlying130 (zeroKP w1) HKL.out (v := .agg #[.int .i64 0, .slice none 0 0, .bool false]) (fun q => by rw [hh] at q; cases q) (fun _ => rfl)
      rwa [hh] at this
     have HLK := Lib.hid hlk
     clear hlk hh
     obtain ⟨r9, hr9⟩ : ∃ r9, r9 = w2.heap.size := ⟨_, rfl⟩
     have HR9 := Lib.hid hr9
     have hp9 : p < r9 := by rw [hr9]; exact (Array.getElem?_eq_some_iff.1 HOB2.out).1
     have h89 : r8 < r9 := by rw [hr9]; exact (Array.getElem?_eq_some_iff.1 HB2.out).1
     have hr9d : rr < r9 := by rw [hr9]; exact (Array.getElem?_eq_some_iff.1 HBR2.out).1
     have ha9 : ra < r9 := by rw [hr9]; exact (Array.getElem?_eq_some_iff.1 HBA2.out).1
     have hb9' : rb < r9 := by rw [hr9]; exact (Array.getElem?_eq_some_iff.1 HBB2.out).1
     have hr9w : w.heap.size ≤ r9 := by rw [hr9]; exact HF2.out.size
     clear hr9
     refine wp_region_W [r9] [(0, false), (1, false), (2, false), (3, false), (4, false), (5, false), (6, false), (7, false), (8, false), (9, true), (10, true), (11, false)] 65 rfl (by kernel_rfl) (by kernel_rfl) (by kernel_rfl) (fun c a d v w h => by cases d <;> exact h) ?_
     simp only [List.map_cons, List.map_nil, List.getElem?_toArray, List.getElem?_cons_succ, List.getElem?_cons_zero, Option.getD_some]
     obtain ⟨wd, hwd⟩ : ∃ wd, wd = w2.drew := ⟨_, rfl⟩
     have hfd : Fr [] w2 wd := by rw [hwd]; exact Fr.drew w2
     have hszd : wd.heap.size = r9 := by rw [hwd, HR9.out]; rfl
     rw [← hwd]
     clear hwd
     have L1 : Hid (Later [r9] wd (fun w' => w'.heap[p]? = some (.cells #[.int .i64 k, .int .i64 (T.length : Int), .map (some q), .map (some (q + 1)), .int .i64 cc] 132 (0, 0)))) := Lib.hid (fun w' hf' => hf'.heap (hfd.heap HOB2.out (by simp)) (by simp; omega))
     have L2 : Hid (Later [r9] wd (fun w' => w'.heap[r8]? = some (.cells #[.int .i64 (na : Int), .int .i64 (nb : Int)] 169 (0, 0)))) := Lib.hid (fun w' hf' => hf'.heap (hfd.heap HB2.out (by simp)) (by simp; omega))
     have L3 : Hid (Later [r9] wd (fun w' => (Instr.lookup 130 (.map (some (q + 1))) (.agg #[.int .i64 (na : Int), .int .i64 (nb : Int)]) true).run Tryz.prog w' = .ok (.tuple #[.agg #[.int .i64 0, .slice none 0 0, .bool false], .bool false]) w')) := Lib.hid (fun w' hf' => HLK.out w' (hfd.trans hf' (n := []) (by simp) (fun i hi hlt => by have := HR9.out; simp at hi; omega)))
     have HFD := Lib.hid (HF2.out.tr0 hfd)
     have HF2D := Lib.hid hfd
     clear hfd
     repeat (apply wpG_t; · (intro w' hf'; obtain ⟨c0, c1, c2, c3, c4, f1, f4⟩ := five_of_heap (L1.out w' hf'); obtain ⟨x0, x1⟩ := two_of_heap (L2.out w' hf'); have lk := L3.out w' hf'; go_wp2_with fail; exact ⟨rfl, rfl⟩))
     refine wpG_x ?_
     go_wp2_with fail
     refine ⟨(Fr.alloc _ _).mono (by simp), rfl, ?_⟩
     have hf9 := Fr.alloc wd (.cells #[.int .i64 0, .slice none 0 0, .bool false] 93)
     have hb9 := heap_alloc_new wd (.cells #[.int .i64 0, .slice none 0 0, .bool false] 93)
     rw [hszd] at hb9
     obtain ⟨w3, hw3⟩ : ∃ w3, w3 = wd.alloc (.cells #[.int .i64 0, .slice none 0 0, .bool false] 93) := ⟨_, rfl⟩
     rw [← hw3] at hf9 hb9 ⊢
     clear hw3
     have HF3 := Lib.hid (HFD.out.tr0 hf9)
     have HF23 := Lib.hid (HF2D.out.tr0 hf9)
     have HB9 := Lib.hid hb9
     clear hf9 hszd
     refine wpG_x ?_
     obtain ⟨x0, x1, x2, y0, y1, y2⟩ := three_of_heap hb9
     go_wp2_with fail
     refine ⟨set3_fr w3 r9 _ _ _, rfl, ?_⟩
     have hs4 := set3_fr w3 r9 (.int .i64 0) (.slice none 0 0) (.bool false)
     have hb4 := set3_heap HB9.out (.int .i64 0) (.slice none 0 0) (.bool false)
     obtain ⟨w4, hw4⟩ : ∃ w4, w4 = ((w3.setCell ⟨r9, 0, none⟩ (.int .i64 0)).setCell ⟨r9, 1, none⟩ (.slice none 0 0)).setCell ⟨r9, 2, none⟩ (.bool false) := ⟨_, rfl⟩
     rw [← hw4] at hs4 hb4 ⊢
     have HF4 := Lib.hid (HF3.out.trans hs4 (n := []) (by simp) (fun i hi hlt => by simp at hi; omega))
     have HF24 := Lib.hid (HF23.out.trans hs4 (n := []) (by simp) (fun i hi hlt => by have := HR9.out; simp at hi; omega))
     have HB4 := Lib.hid hb4
     clear hs4 hb4 hw4 hb9 x0 x1 x2 y0 y1 y2
     repeat (apply wpG_t; · (intro w' hf'; go_wp2_with fail; exact ⟨rfl, rfl⟩))
     refine wpG_end ?_
     have HBR4 := Lib.hid (HF24.out.heap HBR2.out (by simp))
     clear L1 L2 L3
     have HBA4 := Lib.hid (HF24.out.heap HBA2.out (by simp))
     have HBB4 := Lib.hid (HF24.out.heap HBB2.out (by simp))
     have HB84 := Lib.hid (HF24.out.heap HB2.out (by simp))
     have HP4 := Lib.hid (HA.out.later HF4.out)
     have HO4 := Lib.hid (HF24.out.heap HOB2.out (by simp))
     have HSA4 := Lib.hid (HSA.out.keep HF4.out (by simp))
     have HSB4 := Lib.hid (HSB.out.keep HF4.out (by simp))
     obtain ⟨CT, hCT⟩ : ∃ CT, CT = catW k la lb := ⟨_, rfl⟩
     have HCT := Lib.hid hCT
     have hgood : CT.length ≤ 4096 → GoodW k CT := fun h => by rw [hCT] at h ⊢; exact cat_good (by omega) h
     have HGD := Lib.hid hgood
     have hcall : ∀ w', Fr [] w4 w' → Calls Tryz.prog 38 #[.int .i64 k, .slice aa NA ca, .slice ab NB cb] w' (CatGot CT w') := fun w' hf => by
      rw [hCT]
      refine hW k la lb _ _ w' (by omega) (by omega) ?_ ?_ HSA4.out.good.set HSB4.out.good.set (HSA4.out.good.sh hk) (HSB4.out.good.sh hk)
      ·have h := HSA4.out.words.below hf; rw [← HNA.out] at h; exact h
      ·have h := HSB4.out.words.below hf; rw [← HNB.out] at h; exact h
     have HCALL := Lib.hid hcall
     rw [← hCT]
     clear hCT hgood hcall
     go_upto_region 7 with fail
     refine wp_region_G [] [(0, false), (1, false), (2, false), (3, false), (4, false), (5, false), (6, false), (7, false), (8, true), (9, false), (10, false), (11, false), (12, false), (13, false)] 65 rfl (by kernel_rfl) (by kernel_rfl) (by kernel_rfl) (fun c a d v w h => by cases d <;> exact h) (fun wd' hfd => ?_)
     simp only [List.map_cons, List.map_nil, List.getElem?_toArray, List.getElem?_cons_succ, List.getElem?_cons_zero, Option.getD_some]
     have L1 : Hid (Later [] wd' (fun w' => w'.heap[p]? = some (.cells #[.int .i64 k, .int .i64 (T.length : Int), .map (some q), .map (some (q + 1)), .int .i64 cc] 132 (0, 0)))) := Lib.hid (fun w' hf' => hf'.heap (hfd.heap HO4.out (by simp)) (by simp))
     have L2 : Hid (Later [] wd' (fun w' => w'.heap[ra]? = some (.cells #[.int .i64 (na : Int), .slice aa NA ca, .bool ba] 93 (0, 0)))) := Lib.hid (fun w' hf' => hf'.heap (hfd.heap HBA4.out (by simp)) (by simp))
     have L3 : Hid (Later [] wd' (fun w' => w'.heap[rb]? = some (.cells #[.int .i64 (nb : Int), .slice ab NB cb, .bool bb] 93 (0, 0)))) := Lib.hid (fun w' hf' => hf'.heap (hfd.heap HBB4.out (by simp)) (by simp))
     have HFD' := Lib.hid hfd
     clear hfd
     repeat (apply wpG_t; · (intro w' hf'; obtain ⟨c0, c1, c2, c3, c4, f1, f4⟩ := five_of_heap (L1.out w' hf'); obtain ⟨x0, x1, x2, y0, y1, y2⟩ := three_of_set (L2.out w' hf'); obtain ⟨u0, u1, u2, z0, z1, z2⟩ := three_of_set (L3.out w' hf'); go_wp2_with fail; exact ⟨rfl, rfl⟩))
     refine wpG_x ?_
     by_cases hlim : CT.length ≤ 4096
     ·have HCY := Lib.hid ((HCALL.out wd' HFD'.out).mono (fun e w' h => h.yes hlim))
      go_wp2_with (go_at_call 38; refine HCY.out.mono ?_; rintro e w5 ⟨v5, rfl, hs5, hf5⟩; obtain ⟨a5, c5, rfl, _, _⟩ := hs5.form)
      refine ⟨hf5, rfl, ?_⟩
      repeat (apply wpG_t; · (intro w' hf'; go_wp2_with fail; exact ⟨rfl, rfl⟩))
      refine wpG_end ?_
      have HF45 := Lib.hid (HFD'.out.tr0 hf5)
      have HS5 := Lib.hid hs5
      clear hf5 hs5 L1 L2 L3
      have hq5 : ∀ b ∈ plB q, b ≠ rr ∧ b ≠ r8 ∧ b ≠ r9 := fun b hb => by
       have := HQL.out
       unfold plB at hb
       simp only [List.mem_cons, List.not_mem_nil, or_false] at hb
       omega
      have HQ5 := Lib.hid hq5
      have HF5 := Lib.hid (HF4.out.tr0 HF45.out)
      have HSET := Lib.hid (pset q m k T CT _ w5 (HA.out.later HF5.out) HS5.out (HGD.out hlim) hk (by omega))
      rw [← HP.out] at HSET
      clear hq5
      go_upto_region 11 with (go_at_call 99; refine HSET.out.mono ?_; rintro e w6 ⟨x6, U, rfl, hx6, hP6, hf6⟩; obtain ⟨n6, sa, sc, b6, rfl, hS6⟩ := hx6.form; have HP6 := Lib.hid hP6; have HF6 := Lib.hid hf6; have HS6 := Lib.hid hS6; clear hP6 hf6 hx6 hS6)
      have hf7 := Fr.alloc w6 (.cells #[.int .i64 (n6 : Int), .slice sa CT.length sc, .bool b6] 93)
      have hb7 := heap_alloc_new w6 (.cells #[.int .i64 (n6 : Int), .slice sa CT.length sc, .bool b6] 93)
      obtain ⟨w7, hw7⟩ : ∃ w7, w7 = w6.alloc (.cells #[.int .i64 (n6 : Int), .slice sa CT.length sc, .bool b6] 93) := ⟨_, rfl⟩
      obtain ⟨r13, hr13⟩ : ∃ r13, r13 = w6.heap.size := ⟨_, rfl⟩
      rw [← hw7] at hf7 hb7 ⊢
      rw [← hr13] at hb7 ⊢
      have hp13 : w.heap.size ≤ r13 := by rw [hr13]; exact Nat.le_trans HF5.out.size HF6.out.size
      have hfw7 : Fr (plB q) w5 w7 := HF6.out.trans hf7 (fun _ h _ => h) (by simp)
      have HKP := Lib.hid (pkeep q (m + 2) 1 k (T ++ U) w7 (HP6.out.later hf7) (by omega))
      rw [← HP.out] at HKP
      have HQ7 := Lib.hid (HP6.out.later hf7).quiet
      have HS7 := Lib.hid (HS6.out.keep hf7 (by simp))
      have hb87 := hfw7.heap (HF45.out.heap HB84.out (by simp)) (fun hm => (HQ5.out _ hm).2.1 rfl)
      have hbr7 := hfw7.heap (HF45.out.heap HBR4.out (by simp)) (fun hm => (HQ5.out _ hm).1 rfl)
      have HB7 := Lib.hid hb7
      have HB87 := Lib.hid hb87
      have HBR7 := Lib.hid hbr7
      have HFW7 := Lib.hid hfw7
      clear hw7 hr13 hf7 hb7 hfw7 hb87 hbr7
      go_upto_region 12 with (go_at_call 130; refine HKP.out.mono ?_; rintro e w8 ⟨rfl, hP8, hf8⟩; have HP8 := Lib.hid hP8; have HF8 := Lib.hid hf8; clear hP8 hf8)
      obtain ⟨c8, hc81, hc82, ho8⟩ := HP8.out.obj
      obtain ⟨D8, n8, h81, h82, h83⟩ := HP8.out.prods
      obtain ⟨E8, m8, g81, g82, g83⟩ := HP8.out.sets
      rw [← HP.out] at ho8
      have hn13 : r13 ∉ plB q := fun hm => by
       have := HQL.out
       unfold plB at hm
       simp only [List.mem_cons, List.not_mem_nil, or_false] at hm
       omega
      have HO8 := Lib.hid ho8
      have HM8 := Lib.hid h82
      have HG8 := Lib.hid h83
      have HE8 := Lib.hid g82
      have HI8 := Lib.hid g83
      have HB8 := Lib.hid (HF8.out.heap HB7.out hn13)
      have HB88 := Lib.hid (HF8.out.heap HB87.out (fun hm => (HQ5.out _ hm).2.1 rfl))
      have HBR8 := Lib.hid (HF8.out.heap HBR7.out (fun hm => (HQ5.out _ hm).1 rfl))
      have HS8 := Lib.hid (HS7.out.keep HF8.out HQ7.out)
      have hn8m : n8 < maxLen := by simp only [maxLen]; omega
      clear ho8 h82 h83 g82 g83
      refine wp_region_G [q + 1] [(0, false), (1, false), (2, false), (3, false), (4, false), (5, false), (6, true)] 65 rfl (by kernel_rfl) (by kernel_rfl) (by kernel_rfl) (fun c a d v w h => by cases d <;> exact h) (fun wd'' hfd => ?_)
      simp only [List.map_cons, List.map_nil, List.getElem?_toArray, List.getElem?_cons_succ, List.getElem?_cons_zero, Option.getD_some]
      have hpn : p ∉ [q + 1] := by have := HP.out; simp; omega
      have h8n : r8 ∉ [q + 1] := by have := HQL.out; simp; omega
      have h13n : r13 ∉ [q + 1] := by have := HQL.out; simp; omega
      have L1 : Hid (Later [q + 1] wd'' (fun w' => w'.heap[p]? = some (.cells #[.int .i64 k, .int .i64 ((T ++ U).length : Int), .map (some q), .map (some (q + 1)), .int .i64 c8] 132 (0, 0)))) := Lib.hid (fun w' hf' => hf'.heap (hfd.heap HO8.out (by simp)) hpn)
      have L2 : Hid (Later [q + 1] wd'' (fun w' => w'.heap[r8]? = some (.cells #[.int .i64 (na : Int), .int .i64 (nb : Int)] 169 (0, 0)))) := Lib.hid (fun w' hf' => hf'.heap (hfd.heap HB88.out (by simp)) h8n)
      have L3 : Hid (Later [q + 1] wd'' (fun w' => w'.heap[r13]? = some (.cells #[.int .i64 (n6 : Int), .slice sa CT.length sc, .bool b6] 93 (0, 0)))) := Lib.hid (fun w' hf' => hf'.heap (hfd.heap HB8.out (by simp)) h13n)
      have HMD := Lib.hid (ownsMap_keptH HM8.out hfd (by simp))
      have HFD2 := Lib.hid hfd
      clear hfd
      repeat (apply wpG_t; · (intro w' hf'; obtain ⟨c0, c1, c2, c3, c4, f1, f4⟩ := five_of_heap (L1.out w' hf'); obtain ⟨x0, x1⟩ := two_of_heap (L2.out w' hf'); obtain ⟨u0, u1, u2, z0, z1, z2⟩ := three_of_set (L3.out w' hf'); go_wp2_with fail; exact ⟨rfl, rfl⟩))
      refine wpG_x ?_
      go_wp2_with (at_mapUpdate; refine wpList_mapUpdate_own _ rfl _ _ _ 130 rfl 169 93 lawKP Tryz.underlying130 heldR (q + 1) n8 _ rfl HMD.out hn8m _ _ _ rfl rfl HKL.out _ [] rfl ?_; intro w9 hown9 hgrow9)
      have hf9 : Fr [q + 1] wd'' w9 := Fr.of_grown hgrow9
      refine ⟨hf9, rfl, ?_⟩
      refine wpG_end ?_
      have hd9 : Fr [q + 1] w8 w9 := HFD2.out.trans hf9 (by simp) (fun _ h _ => h)
      have hq9 : ∀ b ∈ [q + 1], NotStr w8 b := fun b hb => by
       rw [List.mem_singleton.1 hb]
       exact HP8.out.quiet _ (by simp [plB])
      have HS9 := Lib.hid (HS8.out.keep hd9 hq9)
      have HB9' := Lib.hid (hd9.heap HB8.out h13n)
      have HBR9 := Lib.hid (hd9.heap HBR8.out (by have := HQL.out; simp; omega))
      have HP9 : Hid (PoolAt w9 q k (T ++ U) (m + 4)) := Lib.hid (by
       have h7 := HI8.out.keep hd9 hq9 []
       have g7 := HG8.out.keep hd9 hq9 []
       rw [List.append_nil] at h7 g7
       refine ⟨⟨c8, hc81, hc82, ?_⟩, ⟨E8, m8, by omega, ownsMap_keptH HE8.out hd9 (by simp), h7⟩, ⟨_, n8 + 1, by omega, hown9, ?_⟩, by have := HP8.out.few; omega⟩
       ·have h := hd9.heap HO8.out hpn
        rw [HP.out] at h
        exact h
       ·refine g7.put HMD.out.isMap HKL.out (a := la) (b := lb) ?_ ?_ ⟨n6, _, _, rfl, by rw [← HCT.out]; exact HS9.out⟩
        ·rw [← List.cons_append, List.getElem?_append_left (List.getElem?_eq_some_iff.1 HSA.out.num).1]; exact HSA.out.num
        ·rw [← List.cons_append, List.getElem?_append_left (List.getElem?_eq_some_iff.1 HSB.out.num).1]; exact HSB.out.num)
      have HF9 := Lib.hid (show Fr (plB q) w w9 from
       (((HF5.out.trans HFW7.out (n := plB q) (by simp) (fun _ h _ => h)).trans HF8.out (fun _ h _ => h) (fun _ h _ => h)).trans hd9 (fun _ h _ => h) (fun i hi _ => by simp at hi; simp [plB, hi])))
      obtain ⟨x0, x1, x2, y0, y1, y2⟩ := three_of_set HB9'.out
      clear hd9 hq9 hf9 hown9 hgrow9 L1 L2 L3
      obtain ⟨t0, t1, t2, o0, o1, o2⟩ := three_of_heap HBR9.out
      have hf8 := set3_fr w9 rr (.int .i64 (n6 : Int)) (.slice sa CT.length sc) (.bool b6)
      have HR8 := Lib.hid (set3_heap HBR9.out (.int .i64 (n6 : Int)) (.slice sa CT.length sc) (.bool b6))
      have hq8 : ∀ b ∈ [rr], NotStr w9 b ∧ b ∉ plB q := fun b hb => by
       rw [List.mem_singleton.1 hb]
       exact ⟨NotStr.cells HBR9.out (fun z hz x e => by subst e; simp at hz), hrq⟩
      have HF8 := Lib.hid ((HF9.out).trans hf8 (n := plB q) (fun _ h _ => h) (fun i hi hlt => by simp at hi; omega))
      have HS10 := Lib.hid (HS9.out.keep hf8 (fun b hb => (hq8 b hb).1))
      have HP10 := Lib.hid (HP9.out.keep hf8 hq8)
      clear hf8 hq8
      go_wp2_with fail
      refine bodyPost_ret (results_k rfl _ _ rr 93 #[.int .i64 (n6 : Int), .slice sa CT.length sc, .bool b6] _ rfl HR8.out Tryz.underlying93 rfl sizeSet _ rfl) rfl ?_
      refine ⟨n6, sa, CT.length, sc, b6, U, ?_, fun _ => ?_, HP10.out, HF8.out⟩
      ·rw [← HCT.out, decide_eq_true hlim]
       rfl
      ·rw [← HCT.out]
       exact ⟨n6, _, _, rfl, HS10.out⟩
     ·have HCN := Lib.hid ((HCALL.out wd' HFD'.out).mono (fun e w' h => h.not (by omega)))
      go_wp2_with (go_at_call 38; refine HCN.out.mono ?_; rintro e w5 ⟨v5, rfl, hf5⟩)
      refine ⟨hf5, rfl, ?_⟩
      repeat (apply wpG_t; · (intro w' hf'; go_wp2_with fail; exact ⟨rfl, rfl⟩))
      refine wpG_end ?_
      have HF45 := Lib.hid (HFD'.out.tr0 hf5)
      have HF5 := Lib.hid (HF4.out.tr0 HF45.out)
      have HBR5 := Lib.hid (HF45.out.heap HBR4.out (by simp))
      clear hf5 L1 L2 L3
      obtain ⟨t0, t1, t2, o0, o1, o2⟩ := three_of_heap HBR5.out
      have hf8 := set3_fr w5 rr (.int .i64 0) (.slice none 0 0) (.bool false)
      have HR8 := Lib.hid (set3_heap HBR5.out (.int .i64 0) (.slice none 0 0) (.bool false))
      have hq8 : ∀ b ∈ [rr], NotStr w5 b ∧ b ∉ plB q := fun b hb => by
       rw [List.mem_singleton.1 hb]
       exact ⟨NotStr.cells HBR5.out (fun z hz x e => by subst e; simp at hz), hrq⟩
      have HF8 := Lib.hid ((HF5.out.mono (fun i hi _ => by simp at hi)).trans hf8 (n := plB q) (fun _ h _ => h) (fun i hi hlt => by simp at hi; omega))
      have HP10 := Lib.hid (((HA.out.later HF5.out).keep hf8 hq8).mono (show m ≤ m + 4 by omega))
      clear hf8 hq8
      go_wp2_with fail
      refine bodyPost_ret (results_k rfl _ _ rr 93 #[.int .i64 0, .slice none 0 0, .bool false] _ rfl HR8.out Tryz.underlying93 rfl sizeSet _ rfl) rfl ?_
      refine ⟨0, none, 0, 0, false, [], ?_, fun h => ?_, ?_, HF8.out⟩
      ·rw [← HCT.out, decide_eq_false hlim]
       rfl
      ·rw [← HCT.out] at h
       exact (hlim h).elim
      ·rw [List.append_nil]; exact HP10.out
end Go.Proofs.YtnaamjpiaekmeaaGreat
namespace Go.Proofs.YtnaamjpiaekmeaaGreat
open Go.RowKit Go.Maps
structure SymO (w : World) (p q : Nat) (k : Int) (T : List Words) (nv tv : Value) (xs ts : List (List Value)) (ls : List Words) (M : Nat) : Prop where
 c1 : w.cell? ⟨p, 3, none⟩ = some (.pointer (some ⟨q + 2, 0, none⟩))
 c2 : w.cell? ⟨p, 4, none⟩ = some nv
 c3 : w.cell? ⟨p, 5, none⟩ = some tv
 ne : elemsAt w nv 3 xs
 te : elemsAt w tv 3 ts
 ns : SetsL w k T xs ls
 ss : SetsL w k T ts (termsW M)
section
variable {w w' : World} {p q : Nat} {k : Int} {T : List Words} {nv tv : Value} {xs ts : List (List Value)} {ls : List Words} {M : Nat}
theorem SymO.keep {L : List Nat} (h : SymO w p q k T nv tv xs ts ls M) (hf : Fr L w w') (hL : ∀ b ∈ L, NotStr w b ∧ b ≠ p ∧ nv.ownBlock ≠ some b ∧ tv.ownBlock ≠ some b) (U : List Words) : SymO w' p q k (T ++ U) nv tv xs ts ls M := by
 have hp : p ∉ L := fun hm => (hL p hm).2.1 rfl
 have hS : ∀ b ∈ L, NotStr w b := fun b hb => (hL b hb).1
 exact ⟨hf.cell h.c1 hp, hf.cell h.c2 hp, hf.cell h.c3 hp, h.ne.kept hf (fun b hb _ _ hm => (hL b hm).2.2.1 hb), h.te.kept hf (fun b hb _ _ hm => (hL b hm).2.2.2 hb), h.ns.keep hf hS U, h.ss.keep hf hS U⟩
theorem SymO.later (h : SymO w p q k T nv tv xs ts ls M) (hf : Fr [] w w') : SymO w' p q k T nv tv xs ts ls M := by
 have := h.keep hf (by simp) []
 rwa [List.append_nil] at this
theorem elem3 {w : World} {a : Option Addr} {n cap : Nat} {xs : List (List Value)} (h : elemsAt w (.slice a n cap) 3 xs) {i : Nat} (hi : i < xs.length) {u v y : Value} (he : xs[i]'hi = [u, v, y]) : ∃ b off, a = some ⟨b, off, none⟩ ∧ n = xs.length ∧ w.cell? ⟨b, off + i * 3, none⟩ = some u ∧ w.cell? ⟨b, off + i * 3 + 1, none⟩ = some v ∧ w.cell? ⟨b, off + i * 3 + 2, none⟩ = some y := by
 rcases h with ⟨_, _, e, _, rfl⟩ | ⟨b, off, c, e, h1, h2, _, h3⟩
 ·simp at hi
 ·injection e with e1 e2 e3
  have h4 := (h3 i hi).2
  rw [he] at h4
  exact ⟨b, off, e1, e2, h4 0 u rfl, h4 1 v rfl, h4 2 y rfl⟩
theorem termsW_len (M : Nat) : (termsW M).length = M := by simp [termsW]
theorem termsW_get {M i : Nat} (h : i < (termsW M).length) : (termsW M)[i]'h = [[UInt8.ofNat i]] := by simp [termsW, termW]
end
def SyGot (k : Int) (T : List Words) (m : Words) (w : World) (e : Ending) (w' : World) : Prop := ∃ x, e = .returned x ∧ SetAt w' k T x m ∧ Fr [] w w'
end Go.Proofs.YtnaamjpiaekmeaaGreat
