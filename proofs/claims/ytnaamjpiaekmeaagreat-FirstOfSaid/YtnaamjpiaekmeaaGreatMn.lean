/- Several texts in one: FstMath, RndS, WtlMath, CpM, WsSh, GrmFz, LimMath, StbMath, GrpMath, SchMath, PolMath, SchU. -/
import Derived.Lib.SlicesCompact
import Derived.Lib.Bytealg
import Derived.Lib.Small
import Derived.Test.YtnaamjpiaekmeaaGreatMm
import Derived.Test.YtnaamjpiaekmeaaGreatBs
set_option linter.unusedVariables false
set_option linter.unusedSimpArgs false
namespace Go.Proofs.YtnaamjpiaekmeaaGreat
structure SoundS (g : GramG) (k : Int) (ls : List Words) : Prop where
 len : ls.length = g.names.length
 set : ∀ l ∈ ls, setW l
 sub : ∀ i (h : i < ls.length), ∀ u ∈ ls[i]'h, firstP g k [(i : Int)] u
theorem sound_sym {g : GramG} {k : Int} {ls : List Words} (hk : 1 ≤ k) (hS : SoundS g k ls) {s : Int} {m : Words} (h1 : -256 ≤ s) (h : symW ls s = some m) : ∀ u ∈ m, firstP g k [s] u := by
 unfold symW at h
 by_cases hs : s < 0
 ·rw [if_pos hs, if_pos h1] at h
  obtain rfl := Option.some.inj h
  exact fun u hu => ((isFirst_term g hk hs h1).2 u).1 hu
 ·rw [if_neg hs] at h
  obtain ⟨hi, e⟩ := List.getElem?_eq_some_iff.1 h
  subst e
  have := hS.sub s.toNat hi
  rwa [Int.toNat_of_nonneg (by omega)] at this
theorem sound_cat {g : GramG} {k : Int} {pre : List Int} {s : Int} {acc m : Words} (ha : ∀ u ∈ acc, firstP g k pre u) (hm : ∀ u ∈ m, firstP g k [s] u) : ∀ u ∈ catW k acc m, firstP g k (pre ++ [s]) u := fun u hu => by
 obtain ⟨x, hx, y, hy, rfl⟩ := mem_catW.1 hu
 exact firstP_app.2 ⟨x, y, ha x hx, hm y hy, rfl⟩
theorem over_sub {g : GramG} {k : Int} {ss : List Int} {l : Words} (hn : l.Nodup) (hl : 4096 < l.length) (h : ∀ u ∈ l, firstP g k ss u) : OverP g k ss := ⟨l, hn, hl, h⟩
theorem sound_of {g : GramG} {k : Int} {ls : List Words} (hk : 1 ≤ k) (hS : SoundS g k ls) : ∀ (ss pre : List Int) (acc : Words), (∀ u ∈ acc, firstP g k pre u) → (∀ s ∈ ss, -256 ≤ s ∧ s < (g.names.length : Int)) →
  ((∃ m, 0 < m ∧ m ≤ ss.length ∧ OverP g k (pre ++ ss.take m)) ∧ fofF ls k ss acc = none) ∨ (∃ l, fofF ls k ss acc = some l ∧ ∀ u ∈ l, firstP g k (pre ++ ss) u)
 | [], pre, acc, h, _ => .inr ⟨acc, rfl, by rw [List.append_nil]; exact h⟩
 | s :: ss, pre, acc, h, hs => by
   have hsy : ∃ m, symW ls s = some m := by
    unfold symW
    by_cases h0 : s < 0
    ·exact ⟨_, by rw [if_pos h0, if_pos (hs s (by simp)).1]⟩
    ·have hi : s.toNat < ls.length := by rw [hS.len]; have := (hs s (by simp)).2; omega
     exact ⟨_, by rw [if_neg h0, List.getElem?_eq_getElem hi]⟩
   obtain ⟨m, hm⟩ := hsy
   have hc := sound_cat h (sound_sym hk hS (hs s (by simp)).1 hm)
   rw [fofF, hm]
   simp only
   by_cases ho : 4096 < (catW k acc m).length
   ·rw [if_pos ho]
    exact .inl ⟨⟨1, by decide, by simp, by simpa using over_sub (set_catW k acc m).nodup ho hc⟩, rfl⟩
   ·rw [if_neg ho]
    rcases sound_of hk hS ss (pre ++ [s]) (catW k acc m) hc (fun t ht => hs t (by simp [ht])) with ⟨⟨n, h1, h2, h3⟩, h4⟩ | ⟨l, h2, h3⟩
    ·exact .inl ⟨⟨n + 1, by omega, by simpa using h2, by simpa using h3⟩, h4⟩
    ·exact .inr ⟨l, h2, by simpa using h3⟩
theorem sound_fof {g : GramG} {k : Int} {ls : List Words} (hk : 1 ≤ k) (hS : SoundS g k ls) {ss : List Int} (hs : ∀ s ∈ ss, -256 ≤ s ∧ s < (g.names.length : Int)) :
  ((∃ m, 0 < m ∧ m ≤ ss.length ∧ OverP g k (ss.take m)) ∧ fofG ls k ss = none) ∨ (∃ l, fofG ls k ss = some l ∧ ∀ u ∈ l, firstP g k ss u) := by
 have := sound_of hk hS ss [] [[]] (fun u hu => by obtain rfl : u = [] := (by simpa using hu); exact firstP_nil.2 rfl) hs
 simpa [fofG] using this
def ClosedS (g : GramG) (k : Int) (ls : List Words) : Prop := ∀ r ∈ g.rules, ∃ m, fofG ls k r.right = some m ∧ ∀ i : Nat, r.left = (i : Int) → ∀ (h : i < ls.length), ∀ u ∈ m, u ∈ ls[i]'h
theorem cut_same {w : List UInt8} {k : Int} (h : (w.length : Int) ≤ k) : cutW w k = w := by unfold cutW; rw [List.take_of_length_le (by omega)]
theorem cut_most (w : List UInt8) {k : Int} (hk : 0 ≤ k) : ((cutW w k).length : Int) ≤ k := by unfold cutW; rw [List.length_take]; omega
theorem closedS_of {g : GramG} {k : Int} {ls : List Words} (hk : 1 ≤ k) (hg : ∀ r ∈ g.rules, ∀ s ∈ r.right, -256 ≤ s) (hC : ClosedS g k ls) {ss : List Int} {x : List UInt8} (hd : DerS g ss x) :
  (∀ s ∈ ss, -256 ≤ s) → ∀ (acc l : Words) (w : List UInt8), (w.length : Int) ≤ k → w ∈ acc → fofF ls k ss acc = some l → cutW (w ++ x) k ∈ l := by
 induction hd with
 | nil =>
   intro _ acc l w hw hm h
   rw [fofF] at h
   rw [List.append_nil, cut_same hw, ← Option.some.inj h]
   exact hm
 | term s b ss x hs hb _ ih =>
   intro h0 acc l w hw hm h
   rw [fofF, sym_term hs (h0 s (by simp))] at h
   simp only at h
   by_cases ho : 4096 < (catW k acc [[UInt8.ofNat (-1 - s).toNat]]).length
   ·rw [if_pos ho] at h; cases h
   ·rw [if_neg ho] at h
    have e : b = UInt8.ofNat (-1 - s).toNat := UInt8.toNat_inj.1 (by rw [UInt8.toNat_ofNat_of_lt' (by show _ < 256; have := h0 s (by simp); omega)]; omega)
    have hin : cutW (w ++ [b]) k ∈ catW k acc [[UInt8.ofNat (-1 - s).toNat]] := mem_catW.2 ⟨w, hm, [b], by rw [e]; simp, rfl⟩
    have := ih (fun t ht => h0 t (by simp [ht])) _ l _ (cut_most _ (by omega)) hin h
    rw [cutW_cutW_left, List.append_assoc] at this
    exact this
 | nont r s ss y z hr hl hs hdy _ ih1 ih2 =>
   intro h0 acc l w hw hm h
   rw [fofF] at h
   cases hy : symW ls s with
   | none => rw [hy] at h; cases h
   | some m =>
     rw [hy] at h
     simp only at h
     by_cases ho : 4096 < (catW k acc m).length
     ·rw [if_pos ho] at h; cases h
     ·rw [if_neg ho] at h
      have hi : s.toNat < ls.length := by
       unfold symW at hy
       rw [if_neg (by omega)] at hy
       exact (List.getElem?_eq_some_iff.1 hy).1
      have em : m = ls[s.toNat]'hi := by
       unfold symW at hy
       rw [if_neg (by omega), List.getElem?_eq_getElem hi] at hy
       exact (Option.some.inj hy).symm
      obtain ⟨m', h1, h2⟩ := hC r hr
      have h3 := ih1 (hg r hr) [[]] m' [] (by simp; omega) (by simp) h1
      rw [List.nil_append] at h3
      have h4 : cutW y k ∈ m := by rw [em]; exact h2 s.toNat (by omega) hi _ h3
      have hin : cutW (w ++ cutW y k) k ∈ catW k acc m := mem_catW.2 ⟨w, hm, _, h4, rfl⟩
      have := ih2 (fun t ht => h0 t (by simp [ht])) _ l _ (cut_most _ (by omega)) hin h
      rw [cutW_cutW_right, cutW_cutW_left, List.append_assoc] at this
      exact this
theorem sets_exact {g : GramG} {k : Int} {ls : List Words} (hk : 1 ≤ k) (hv : ValidG g) (hS : SoundS g k ls) (hC : ClosedS g k ls) : FirstSets g k ls := by
 have hg : ∀ r ∈ g.rules, ∀ s ∈ r.right, -256 ≤ s := fun r hr s hs => by
  have h1 := ((hv.rules r hr).2.2.2 s hs).1
  have h2 := hv.syms
  omega
 refine ⟨hS.len, fun i hi => ⟨hS.set _ (List.getElem_mem hi), fun u => ⟨hS.sub i hi u, fun h => ?_⟩⟩⟩
 obtain ⟨x, hx, rfl⟩ := h
 obtain ⟨r, hr, hl, hd⟩ := (DerS.nont_iff (by omega)).1 hx
 obtain ⟨m, h1, h2⟩ := hC r hr
 have := closedS_of hk hg hC hd (hg r hr) [[]] m [] (by simp; omega) (by simp) h1
 rw [List.nil_append] at this
 exact h2 i hl hi _ this
theorem sets_small {g : GramG} {k : Int} {ls : List Words} (hk : 1 ≤ k) (hv : ValidG g) (hF : FirstSets g k ls) (hC : ∀ r ∈ g.rules, fofG ls k r.right ≠ none) (hs : ∀ i (h : i < ls.length), (ls[i]'h).length ≤ 4096) : ¬ OverG g k := by
 have hg : ∀ r ∈ g.rules, ∀ s ∈ r.right, -256 ≤ s ∧ s < (g.names.length : Int) := fun r hr s hs => by
  have h1 := (hv.rules r hr).2.2.2 s hs
  have h2 := hv.syms
  omega
 rintro (⟨i, hi, h⟩ | ⟨r, hr, m, hm, h⟩)
 ·have hi' : i < ls.length := by rw [hF.1]; exact hi
  have := (OverP.iff (hF.2 i hi')).1 h
  have := hs i hi'
  omega
 ·rcases fofG_is hk hF (hg r hr) with ⟨-, h2⟩ | ⟨h2, -⟩
  ·exact hC r hr h2
  ·by_cases h0 : m = 0
   ·subst h0
    rw [List.take_zero, OverP.iff (isFirst_nil g k)] at h
    exact absurd h (by decide)
   ·exact h2 m (by omega) hm h
end Go.Proofs.YtnaamjpiaekmeaaGreat
namespace Go.Proofs.YtnaamjpiaekmeaaGreat
def joinW (a m : Words) : Words := ofW (a ++ m)
theorem mem_joinW {a m : Words} {u : List UInt8} : u ∈ joinW a m ↔ u ∈ a ∨ u ∈ m := by unfold joinW; rw [mem_ofW, List.mem_append]
theorem join_same {a m : Words} (ha : setW a) (h : ¬ a.length < (joinW a m).length) : ∀ u ∈ m, u ∈ a := fun u hu => by
 refine Classical.byContradiction fun hn => h ?_
 have := nodup_le (u :: a) (joinW a m) (List.nodup_cons.2 ⟨hn, ha.nodup⟩) (fun x hx => by
  rcases List.mem_cons.1 hx with rfl | hx
  ·exact mem_joinW.2 (.inr hu)
  ·exact mem_joinW.2 (.inl hx))
 rw [List.length_cons] at this
 omega
theorem sum_set : ∀ (ls : List Words) (i : Nat) (h : i < ls.length) (l : Words), ((ls.set i l).map List.length).sum + (ls[i]'h).length = (ls.map List.length).sum + l.length
 | [], i, h, _ => by simp at h
 | a :: ls, 0, _, l => by simp only [List.set_cons_zero, List.map_cons, List.sum_cons, List.getElem_cons_zero]; omega
 | a :: ls, i + 1, h, l => by
   have := sum_set ls i (by simpa using h) l
   simp only [List.set_cons_succ, List.map_cons, List.sum_cons, List.getElem_cons_succ]
   omega
theorem sum_most : ∀ (ls : List Words) (c : Nat), (∀ l ∈ ls, l.length ≤ c) → (ls.map List.length).sum ≤ ls.length * c
 | [], _, _ => by simp
 | a :: ls, c, h => by
   have h1 := sum_most ls c (fun l hl => h l (by simp [hl]))
   have h2 := h a (by simp)
   rw [List.map_cons, List.sum_cons, List.length_cons, Nat.succ_mul]
   omega
theorem SoundS.step {g : GramG} {k : Int} {ls : List Words} (h : SoundS g k ls) {i : Nat} (hi : i < ls.length) {m : Words} (hm : ∀ u ∈ m, firstP g k [(i : Int)] u) : SoundS g k (ls.set i (joinW (ls[i]'hi) m)) := by
 refine ⟨by rw [List.length_set]; exact h.len, fun l hl => ?_, fun j hj u hu => ?_⟩
 ·rcases List.mem_or_eq_of_mem_set hl with hl | rfl
  ·exact h.set l hl
  ·exact set_ofW _
 ·rw [List.getElem_set] at hu
  by_cases e : i = j
  ·subst e
   rw [if_pos rfl] at hu
   rcases mem_joinW.1 hu with hu | hu
   ·exact h.sub i hi u hu
   ·exact hm u hu
  ·rw [if_neg e] at hu
   exact h.sub j (by rw [List.length_set] at hj; exact hj) u hu
theorem rule_first {g : GramG} {k : Int} {r : RuleG} (hr : r ∈ g.rules) {i : Nat} (hi : r.left = (i : Int)) {u : List UInt8} (h : firstP g k r.right u) : firstP g k [(i : Int)] u := by
 obtain ⟨x, hx, rfl⟩ := h
 exact ⟨x, (DerS.nont_iff (by omega)).2 ⟨r, hr, hi, hx⟩, rfl⟩
def UsedS (g : GramG) (k : Int) (ls : List Words) (i : Nat) : Prop := ∀ j (h : j < g.rules.length), j < i → ∃ m, fofG ls k (g.rules[j]'h).right = some m ∧ ∀ a : Nat, (g.rules[j]'h).left = (a : Int) → ∀ (ha : a < ls.length), ∀ u ∈ m, u ∈ ls[a]'ha
theorem UsedS.next {g : GramG} {k : Int} {ls : List Words} {i : Nat} (h : UsedS g k ls i) (hi : i < g.rules.length) {m : Words} (hm : fofG ls k (g.rules[i]'hi).right = some m) {a : Nat} (ha : (g.rules[i]'hi).left = (a : Int)) (hal : a < ls.length) (hst : setW (ls[a]'hal)) (hn : ¬ (ls[a]'hal).length < (joinW (ls[a]'hal) m).length) : UsedS g k ls (i + 1) := fun j hj hji => by
 by_cases e : j = i
 ·subst e
  refine ⟨m, hm, fun b hb hbl u hu => ?_⟩
  have : a = b := by omega
  subst this
  exact join_same hst hn u hu
 ·exact h j hj (by omega)
theorem UsedS.closed {g : GramG} {k : Int} {ls : List Words} (h : UsedS g k ls g.rules.length) : ClosedS g k ls := fun r hr => by
 obtain ⟨j, hj, rfl⟩ := List.getElem_of_mem hr
 exact h j hj hj
theorem UsedS.exact {g : GramG} {k : Int} {ls : List Words} (hk : 1 ≤ k) (hv : ValidG g) (hS : SoundS g k ls) (h : UsedS g k ls g.rules.length) (hs : ∀ i (h : i < ls.length), (ls[i]'h).length ≤ 4096) : FirstSets g k ls ∧ ¬ OverG g k := by
 have hF := sets_exact hk hv hS h.closed
 refine ⟨hF, sets_small hk hv hF (fun r hr => ?_) hs⟩
 obtain ⟨m, hm, -⟩ := h.closed r hr
 rw [hm]
 exact fun e => by cases e
theorem sound_nil (g : GramG) (k : Int) : SoundS g k (List.replicate g.names.length []) :=
 ⟨by simp, fun l hl => by rw [List.eq_of_mem_replicate hl]; unfold setW; simp, fun i hi u hu => by simp at hu⟩
end Go.Proofs.YtnaamjpiaekmeaaGreat
namespace Go.Proofs.YtnaamjpiaekmeaaGreat
open Go.Lib Go.Sort
def fndR (t : Nat) : Words → Words
 | [] => []
 | x :: r => if r.count x + 1 = t then fndR t r ++ [x] else fndR t r
def fndW (t : Nat) (ws : Words) : Words := fndR t ws.reverse
theorem count_rev (ws : Words) (x : List UInt8) : ws.reverse.count x = ws.count x := (List.reverse_perm ws).count_eq x
theorem fndW_yes {t : Nat} {ws : Words} {x : List UInt8} (h : ws.count x + 1 = t) : fndW t (ws ++ [x]) = fndW t ws ++ [x] := by
 unfold fndW
 rw [List.reverse_append]
 show fndR t (x :: ws.reverse) = _
 rw [fndR, count_rev, if_pos h]
theorem fndW_no {t : Nat} {ws : Words} {x : List UInt8} (h : ¬ ws.count x + 1 = t) : fndW t (ws ++ [x]) = fndW t ws := by
 unfold fndW
 rw [List.reverse_append]
 show fndR t (x :: ws.reverse) = _
 rw [fndR, count_rev, if_neg h]
theorem fndR_spec (t : Nat) (ht : 0 < t) : ∀ r : Words, (fndR t r).Nodup ∧ (∀ x, x ∈ fndR t r ↔ t ≤ r.count x) ∧ (fndR t r).length ≤ r.length
 | [] => ⟨List.nodup_nil, fun x => by simp [fndR]; omega, by simp [fndR]⟩
 | y :: r => by
   obtain ⟨h1, h2, h3⟩ := fndR_spec t ht r
   rw [fndR]
   by_cases c : r.count y + 1 = t
   ·rw [if_pos c]
    have hy : y ∉ fndR t r := fun q => by have := (h2 y).1 q; omega
    refine ⟨?_, fun x => ?_, by simp; omega⟩
    ·rw [List.nodup_append]
     exact ⟨h1, by simp, fun a ha b hb => by rw [List.mem_singleton.1 hb]; exact fun e => hy (e ▸ ha)⟩
    ·rw [List.mem_append, List.mem_singleton, h2 x]
     by_cases e : x = y
     ·subst e; rw [List.count_cons_self]; exact ⟨fun _ => by omega, fun _ => .inr rfl⟩
     ·rw [List.count_cons_of_ne (fun q => e q.symm)]; exact ⟨fun q => q.elim id (fun q => (e q).elim), .inl⟩
   ·rw [if_neg c]
    refine ⟨h1, fun x => ?_, by simp; omega⟩
    rw [h2 x]
    by_cases e : x = y
    ·subst e; rw [List.count_cons_self]; omega
    ·rw [List.count_cons_of_ne (fun q => e q.symm)]
theorem fndW_nodup {t : Nat} (ht : 0 < t) (ws : Words) : (fndW t ws).Nodup := (fndR_spec t ht ws.reverse).1
theorem mem_fndW {t : Nat} (ht : 0 < t) {ws : Words} {x : List UInt8} : x ∈ fndW t ws ↔ t ≤ ws.count x := by
 unfold fndW
 rw [(fndR_spec t ht ws.reverse).2.1 x, count_rev]
theorem fndW_len {t : Nat} (ht : 0 < t) (ws : Words) : (fndW t ws).length ≤ ws.length := by
 have := (fndR_spec t ht ws.reverse).2.2
 rwa [List.length_reverse] at this
theorem lessB_le : ∀ a b : List UInt8, a ≤ b → a ≠ b → lessB a b = true
 | [], [], _, h => (h rfl).elim
 | [], _ :: _, _, _ => rfl
 | _ :: _, [], h, _ => by simp at h
 | a :: x, b :: y, h, hne => by
   rw [lessB]
   by_cases e : a = b
   ·subst e
    rw [if_pos rfl]
    exact lessB_le x y ((List.cons_le_cons_iff.1 h).resolve_left (fun q => absurd q (by simp [UInt8.lt_irrefl]))).2 (fun q => hne (by rw [q]))
   ·rw [if_neg e]
    have h1 := List.cons_le_cons_iff.1 h
    rcases h1 with h1 | ⟨h1, _⟩
    ·exact decide_eq_true (by simpa [UInt8.lt_iff_toNat_lt] using h1)
    ·exact (e h1).elim
def sortW (ss : Words) : Words := ss.mergeSort fun x y => decide (x ≤ y)
theorem set_sortW {ss : Words} (h : ss.Nodup) : setW (sortW ss) := by
 have tr : ∀ a b c : List UInt8, decide (a ≤ b) = true → decide (b ≤ c) = true → decide (a ≤ c) = true := fun a b c h1 h2 => by simp only [decide_eq_true_eq] at *; exact List.le_trans h1 h2
 have to : ∀ a b : List UInt8, (decide (a ≤ b) || decide (b ≤ a)) = true := fun a b => by simp only [Bool.or_eq_true, decide_eq_true_eq]; exact List.le_total a b
 have hp := List.pairwise_mergeSort tr to ss
 have hnd : (sortW ss).Nodup := (List.mergeSort_perm ss (fun x y => decide (x ≤ y))).nodup_iff.2 h
 exact (hp.and hnd).imp (fun {a b} h => lessB_le a b (by simpa using h.1) h.2)
theorem mem_sortW {ss : Words} {x : List UInt8} : x ∈ sortW ss ↔ x ∈ ss := (List.mergeSort_perm ss (fun x y => decide (x ≤ y))).mem_iff
theorem sortW_len (ss : Words) : (sortW ss).length = ss.length := by unfold sortW; simp
theorem fnd_one (ws : Words) : sortW (fndW 1 ws) = ofW ws :=
 (set_sortW (fndW_nodup (by decide) ws)).one (set_ofW ws) (fun x => by
  rw [mem_sortW, mem_fndW (by decide), mem_ofW]
  exact List.one_le_count_iff)
def riseW (l : Words) : Prop := l.Pairwise fun a b => lessB b a = false
theorem lessB_pre : ∀ (a b : List UInt8) (n : Nat), lessB a b = true → lessB (b.take n) (a.take n) = false
 | [], [], _, h => by cases h
 | [], _ :: _, n, _ => by rw [List.take_nil]; cases h : List.take n _ <;> rfl
 | _ :: _, [], _, h => by cases h
 | a :: x, b :: y, 0, _ => rfl
 | a :: x, b :: y, n + 1, h => by
   rw [List.take_succ_cons, List.take_succ_cons, lessB]
   rw [lessB] at h
   by_cases e : a = b
   ·subst e
    rw [if_pos rfl] at h ⊢
    exact lessB_pre x y n h
   ·rw [if_neg e] at h
    rw [if_neg (fun q => e q.symm)]
    simp only [decide_eq_true_eq, decide_eq_false_iff_not] at h ⊢
    omega
theorem rise_cut {l : Words} (h : setW l) (k : Int) : riseW (l.map fun x => cutW x k) :=
 List.pairwise_map.2 (h.imp fun {a b} q => lessB_pre a b k.toNat q)
theorem riseW.get {l : Words} (h : riseW l) {i j : Nat} (hij : i < j) (hj : j < l.length) : lessB (l[j]'hj) (l[i]'(Nat.lt_trans hij hj)) = false :=
 List.pairwise_iff_getElem.1 h i j _ hj hij
theorem compactUpTo_get (d : Array (List UInt8)) (m : Nat) (hm : m ≤ d.size) (h : riseW d.toList) : setW (compactUpTo d m) ∧ (∀ x, x ∈ compactUpTo d m ↔ ∃ j, j < m ∧ d[j]! = x) := by
 induction m with
 | zero => exact ⟨List.Pairwise.nil, fun x => by simp [compactUpTo]⟩
 | succ m ih =>
   obtain ⟨h1, h2⟩ := ih (by omega)
   rw [compactUpTo_succ]
   cases hk : keeps d m with
   | false =>
     rw [if_neg (by simp), List.append_nil]
     refine ⟨h1, fun x => ?_⟩
     rw [h2 x]
     have hm : 0 < m ∧ d[m]! = d[m - 1]! := by
      unfold keeps at hk
      simp only [decide_eq_false_iff_not, not_or, ne_eq, Decidable.not_not] at hk
      exact ⟨by omega, hk.2⟩
     constructor
     ·rintro ⟨j, hj, e⟩; exact ⟨j, by omega, e⟩
     ·rintro ⟨j, hj, e⟩
      by_cases hjm : j = m
      ·subst hjm; exact ⟨j - 1, by omega, by rw [← hm.2]; exact e⟩
      ·exact ⟨j, by omega, e⟩
   | true =>
     rw [if_pos rfl]
     have hmd : m < d.size := by omega
     refine ⟨?_, fun x => ?_⟩
     ·unfold setW
      rw [List.pairwise_append]
      refine ⟨h1, by simp, fun a ha b hb => ?_⟩
      rw [List.mem_singleton.1 hb]
      obtain ⟨j, hj, rfl⟩ := (h2 a).1 ha
      have hj' : j < d.size := by omega
      have hne : d[m]! ≠ d[m - 1]! := by
       unfold keeps at hk
       rw [decide_eq_true_eq] at hk
       exact hk.resolve_left (by omega)
      have g : ∀ i, i < m → lessB d[m]! d[i]! = false := fun i hi => by
       have := h.get hi (by simpa using hmd)
       rw [getElem!_pos d m hmd, getElem!_pos d i (by omega)]
       simpa using this
      have gp : lessB d[m - 1]! d[m]! = true := lessB_total _ _ hne (g (m - 1) (by omega))
      by_cases hjm : j = m - 1
      ·subst hjm; exact gp
      ·have gj : lessB d[m - 1]! d[j]! = false := by
        have := h.get (show j < m - 1 by omega) (by simpa using (show m - 1 < d.size by omega))
        rw [getElem!_pos d (m - 1) (by omega), getElem!_pos d j (by omega)]
        simpa using this
       by_cases e : d[j]! = d[m - 1]!
       ·rw [e]; exact gp
       ·exact lessB_trans _ _ _ (lessB_total _ _ (fun q => e q.symm) gj) gp
     ·rw [List.mem_append, List.mem_singleton, h2 x]
      constructor
      ·rintro (⟨j, hj, e⟩ | e)
       ·exact ⟨j, by omega, e⟩
       ·exact ⟨m, by omega, e.symm⟩
      ·rintro ⟨j, hj, e⟩
       by_cases hjm : j = m
       ·subst hjm; exact .inr e.symm
       ·exact .inl ⟨j, by omega, e⟩
def cutsW (l : Words) (k : Int) : Words := ofW (l.map fun x => cutW x k)
theorem compact_cut {l : Words} (h : setW l) (k : Int) : compact (l.map fun x => cutW x k) = cutsW l k := by
 obtain ⟨m, hm⟩ : ∃ m, m = l.map fun x => cutW x k := ⟨_, rfl⟩
 have hr := rise_cut h k
 unfold cutsW
 rw [← hm] at hr ⊢
 obtain ⟨h1, h2⟩ := compactUpTo_get m.toArray m.length (by simp) (by simpa using hr)
 refine setW.one h1 (set_ofW _) (fun x => ?_)
 rw [show compact m = compactUpTo m.toArray m.length from rfl] at *
 rw [h2 x, mem_ofW]
 constructor
 ·rintro ⟨j, hj, rfl⟩
  rw [getElem!_pos m.toArray j (by simpa using hj)]
  simp
 ·intro hx
  obtain ⟨j, hj, rfl⟩ := List.getElem_of_mem hx
  exact ⟨j, hj, by rw [getElem!_pos m.toArray j (by simpa using hj)]; simp⟩
theorem set_cutsW (l : Words) (k : Int) : setW (cutsW l k) := set_ofW _
theorem mem_cutsW {l : Words} {k : Int} {x : List UInt8} : x ∈ cutsW l k ↔ ∃ y ∈ l, x = cutW y k := by
 unfold cutsW
 rw [mem_ofW, List.mem_map]
 exact ⟨fun ⟨y, h, e⟩ => ⟨y, h, e.symm⟩, fun ⟨y, h, e⟩ => ⟨y, h, e.symm⟩⟩
theorem cutsW_len (l : Words) (k : Int) : (cutsW l k).length ≤ l.length := by
 have := ofW_len (l.map fun x => cutW x k)
 rwa [List.length_map] at this
theorem cut_cut {y : List UInt8} {k m : Int} (h : m ≤ k) : cutW (cutW y k) m = cutW y m := by
 unfold cutW
 rw [List.take_take]
 congr 1
 omega
theorem cuts_cuts {l : Words} {k m : Int} (h : m ≤ k) : cutsW (cutsW l k) m = cutsW l m :=
 (set_cutsW _ _).one (set_cutsW _ _) (fun x => by
  rw [mem_cutsW, mem_cutsW]
  constructor
  ·rintro ⟨y, hy, rfl⟩
   obtain ⟨z, hz, rfl⟩ := mem_cutsW.1 hy
   exact ⟨z, hz, cut_cut h⟩
  ·rintro ⟨z, hz, rfl⟩
   exact ⟨cutW z k, mem_cutsW.2 ⟨z, hz, rfl⟩, (cut_cut h).symm⟩)
theorem cut_cat (x y : List UInt8) (k : Int) : cutW x k ++ cutW y (k - ((cutW x k).length : Int)) = cutW (x ++ y) k := by
 unfold cutW
 rw [List.take_append, List.length_take]
 congr 2
 omega
def rowsW (k : Int) (b : Words) (x : List UInt8) : Words := (cutsW b (k - (x.length : Int))).map fun y => x ++ y
def prodW (k : Int) (b hs : Words) : Words := hs.flatMap (rowsW k b)
theorem mem_prodW {k : Int} {a b hs : Words} (hh : ∀ x, x ∈ hs → x ∈ cutsW a k) {w : List UInt8} (h : w ∈ prodW k b hs) : w ∈ catW k a b := by
 unfold prodW at h
 obtain ⟨x, hx, hw⟩ := List.mem_flatMap.1 h
 obtain ⟨u, hu, rfl⟩ := mem_cutsW.1 (hh x hx)
 unfold rowsW at hw
 obtain ⟨y, hy, rfl⟩ := List.mem_map.1 hw
 obtain ⟨z, hz, rfl⟩ := mem_cutsW.1 hy
 exact mem_catW.2 ⟨u, hu, z, hz, cut_cat u z k⟩
theorem prod_all {k : Int} {a b hs : Words} (hh : ∀ x, x ∈ hs ↔ x ∈ cutsW a k) : ofW (prodW k b hs) = catW k a b :=
 (set_ofW _).one (set_catW k a b) (fun w => by
  rw [mem_ofW]
  refine ⟨mem_prodW (fun x hx => (hh x).1 hx), fun h => ?_⟩
  obtain ⟨x, hx, y, hy, rfl⟩ := mem_catW.1 h
  unfold prodW rowsW
  refine List.mem_flatMap.2 ⟨cutW x k, (hh _).2 (mem_cutsW.2 ⟨x, hx, rfl⟩), List.mem_map.2 ⟨_, mem_cutsW.2 ⟨y, hy, rfl⟩, cut_cat x y k⟩⟩)
theorem found_le {k : Int} {a b hs : Words} (hh : ∀ x, x ∈ hs → x ∈ cutsW a k) : (fndW 1 (prodW k b hs)).length ≤ (catW k a b).length :=
 nodup_le _ _ (fndW_nodup (by decide) _) (fun w hw => mem_prodW hh (List.one_le_count_iff.1 ((mem_fndW (by decide)).1 hw)))
theorem found_all {k : Int} {a b hs : Words} (hh : ∀ x, x ∈ hs ↔ x ∈ cutsW a k) : (fndW 1 (prodW k b hs)).length = (catW k a b).length := by
 rw [← prod_all hh, ← fnd_one, sortW_len]
end Go.Proofs.YtnaamjpiaekmeaaGreat
namespace Go.Proofs.YtnaamjpiaekmeaaGreat
open Go.Lib
structure OrdN (n : Nat) (cf : Nat → Nat → Int) : Prop where
 irrefl : ∀ x, x < n → ¬ cf x x < 0
 trans : ∀ x y z, x < n → y < n → z < n → cf x y < 0 → cf y z < 0 → cf x z < 0
 ntrans : ∀ x y z, x < n → y < n → z < n → ¬ cf x y < 0 → ¬ cf y z < 0 → ¬ cf x z < 0
structure SortedN (n : Nat) (cf : Nat → Nat → Int) (p : List Nat) : Prop where
 perm : List.Perm p (List.range n)
 order : p.Pairwise fun a b => ¬ cf b a < 0
theorem SortedN.len {n : Nat} {cf : Nat → Nat → Int} {p : List Nat} (h : SortedN n cf p) : p.length = n := by rw [h.perm.length_eq, List.length_range]
theorem SortedN.lt {n : Nat} {cf : Nat → Nat → Int} {p : List Nat} (h : SortedN n cf p) {x : Nat} (hx : x ∈ p) : x < n := List.mem_range.1 (h.perm.mem_iff.1 hx)
theorem SortedN.nodup {n : Nat} {cf : Nat → Nat → Int} {p : List Nat} (h : SortedN n cf p) : p.Nodup := h.perm.nodup_iff.2 List.nodup_range
theorem SortedN.has {n : Nat} {cf : Nat → Nat → Int} {p : List Nat} (h : SortedN n cf p) {x : Nat} (hx : x < n) : x ∈ p := h.perm.mem_iff.2 (List.mem_range.2 hx)
end Go.Proofs.YtnaamjpiaekmeaaGreat
namespace Go.Proofs.YtnaamjpiaekmeaaGreat
open Go.RowKit
def ShortW (l : Words) : Prop := l.length ≤ 100000 ∧ ∀ x ∈ l, x.length ≤ 1000
theorem ShortW.max {l : Words} (h : ShortW l) : ∀ x ∈ l, x.length ≤ maxLen := fun x hx => by have := h.2 x hx; simp only [maxLen]; omega
end Go.Proofs.YtnaamjpiaekmeaaGreat
namespace Go.Proofs.YtnaamjpiaekmeaaGreat
open Go.RowKit
theorem few_size {g : GramG} (h : fewB g ≠ 0) : SizeG g := by
 rcases boolOf_cases (FewG g) with ⟨hf, -⟩ | ⟨-, he⟩
 ·obtain ⟨h1, h2, h3, h4, h5, h6⟩ := hf
  exact ⟨by omega, by omega, by omega, fun r hr => by have := h4 r hr; omega, fun r hr => by have := h5 r hr; omega, fun r hr => by have := h6 r hr; omega⟩
 ·exact absurd (show fewB g = 0 by unfold fewB; rw [he]; rfl) h
theorem few_two (g : GramG) : fewB g = 0 ∨ fewB g = 1 := by unfold fewB; split <;> simp
end Go.Proofs.YtnaamjpiaekmeaaGreat
namespace Go.Proofs.YtnaamjpiaekmeaaGreat
def ltm (i : Nat) : List UInt8 := [UInt8.ofNat (97 + i / 20), UInt8.ofNat (97 + i % 20)]
def ltms (n : Nat) : List (List UInt8) := (List.range n).map ltm
theorem ltms_len (n : Nat) : (ltms n).length = n := by simp [ltms]
theorem ltms_next (n : Nat) : ltms (n + 1) = ltms n ++ [ltm n] := by unfold ltms; rw [List.range_succ, List.map_append]; rfl
theorem ltms_pre {n : Nat} (h : n ≤ 200) : ltms n = (ltms 200).take n := by
 unfold ltms
 rw [← List.map_take, List.take_range, Nat.min_eq_left h]
theorem ltms_nodup {n : Nat} (h : n ≤ 200) : (ltms n).Nodup := by
 rw [ltms_pre h]
 exact List.Nodup.sublist (List.take_sublist _ _) (by decide +kernel)
theorem ltms_term {n : Nat} (h : n ≤ 200) : ∀ t ∈ ltms n, termB t = true := by
 rw [ltms_pre h]
 intro t ht
 have h2 : (ltms 200).all termB = true := by decide +kernel
 exact List.all_eq_true.1 h2 t (List.mem_of_mem_take ht)
def oneOf (a d n : Nat) : List RuleG := (List.range n).map fun i : Nat => ⟨(a : Int), [-1 - (d : Int) - (i : Int)]⟩
theorem oneOf_len (a d n : Nat) : (oneOf a d n).length = n := by simp [oneOf]
theorem oneOf_next (a d n : Nat) : oneOf a d (n + 1) = oneOf a d n ++ [⟨(a : Int), [-1 - (d : Int) - (n : Int)]⟩] := by unfold oneOf; rw [List.range_succ, List.map_append]; rfl
theorem mem_oneOf {a d n : Nat} {r : RuleG} : r ∈ oneOf a d n ↔ ∃ i, i < n ∧ r = ⟨(a : Int), [-1 - (d : Int) - (i : Int)]⟩ := by
 unfold oneOf
 rw [List.mem_map]
 exact ⟨fun ⟨i, h, e⟩ => ⟨i, List.mem_range.1 h, e.symm⟩, fun ⟨i, h, e⟩ => ⟨i, List.mem_range.2 h, e.symm⟩⟩
theorem oneOf_nodup (a d n : Nat) : (oneOf a d n).Nodup := by
 unfold oneOf List.Nodup
 rw [List.pairwise_map]
 refine List.Pairwise.imp ?_ (List.nodup_range (n := n))
 intro i j hne e
 injection e with _ e
 injection e with e _
 omega
def oneL (d n : Nat) : Words := (List.range n).map fun i => [UInt8.ofNat (d + i)]
def twoL (d n : Nat) : Words := (List.range n).flatMap fun i => (List.range n).map fun j => [UInt8.ofNat (d + i), UInt8.ofNat (d + j)]
theorem ofNat_inj8 {a b : Nat} (ha : a < 256) (hb : b < 256) (h : UInt8.ofNat a = UInt8.ofNat b) : a = b := by
 have := congrArg UInt8.toNat h
 rwa [UInt8.toNat_ofNat_of_lt' (by show a < 256; exact ha), UInt8.toNat_ofNat_of_lt' (by show b < 256; exact hb)] at this
theorem mem_oneL {d n : Nat} {u : List UInt8} : u ∈ oneL d n ↔ ∃ i, i < n ∧ u = [UInt8.ofNat (d + i)] := by
 unfold oneL
 rw [List.mem_map]
 exact ⟨fun ⟨i, h, e⟩ => ⟨i, List.mem_range.1 h, e.symm⟩, fun ⟨i, h, e⟩ => ⟨i, List.mem_range.2 h, e.symm⟩⟩
theorem mem_twoL {d n : Nat} {u : List UInt8} : u ∈ twoL d n ↔ ∃ i j, i < n ∧ j < n ∧ u = [UInt8.ofNat (d + i), UInt8.ofNat (d + j)] := by
 unfold twoL
 rw [List.mem_flatMap]
 constructor
 ·rintro ⟨i, hi, h⟩
  obtain ⟨j, hj, rfl⟩ := List.mem_map.1 h
  exact ⟨i, j, List.mem_range.1 hi, List.mem_range.1 hj, rfl⟩
 ·rintro ⟨i, j, hi, hj, rfl⟩
  exact ⟨i, List.mem_range.2 hi, List.mem_map.2 ⟨j, List.mem_range.2 hj, rfl⟩⟩
theorem oneL_len (d n : Nat) : (oneL d n).length = n := by simp [oneL]
theorem flat_len {α β : Type} (f : α → List β) (m : Nat) : ∀ l : List α, (∀ x ∈ l, (f x).length = m) → (l.flatMap f).length = l.length * m
 | [], _ => by simp
 | x :: l, h => by
   rw [List.flatMap_cons, List.length_append, flat_len f m l (fun y hy => h y (by simp [hy])), h x (by simp), List.length_cons, Nat.succ_mul]
   omega
theorem twoL_len (d n : Nat) : (twoL d n).length = n * n := by
 unfold twoL
 rw [flat_len _ n _ (fun x _ => by simp), List.length_range]
theorem oneL_nodup {d n : Nat} (h : d + n ≤ 256) : (oneL d n).Nodup := by
 unfold oneL List.Nodup
 rw [List.pairwise_map]
 refine List.Pairwise.imp_of_mem ?_ (List.nodup_range (n := n))
 intro i j hi hj hne e
 injection e with e _
 have := ofNat_inj8 (by have := List.mem_range.1 hi; omega) (by have := List.mem_range.1 hj; omega) e
 omega
theorem twoL_nodup {d n : Nat} (h : d + n ≤ 256) : (twoL d n).Nodup := by
 have key : ∀ l : List Nat, l.Nodup → (∀ i ∈ l, i < n) → (l.flatMap fun i => (List.range n).map fun j => [UInt8.ofNat (d + i), UInt8.ofNat (d + j)]).Nodup := by
  intro l
  induction l with
  | nil => intro _ _; simp
  | cons x l ih =>
    intro hn hl
    obtain ⟨hx, hn'⟩ := List.nodup_cons.1 hn
    have hx1 := hl x (by simp)
    rw [List.flatMap_cons, List.nodup_append]
    refine ⟨?_, ih hn' (fun i hi => hl i (by simp [hi])), ?_⟩
    ·unfold List.Nodup
     rw [List.pairwise_map]
     refine List.Pairwise.imp_of_mem ?_ (List.nodup_range (n := n))
     intro i j hi hj hne e
     injection e with _ e
     injection e with e _
     have := ofNat_inj8 (by have := List.mem_range.1 hi; omega) (by have := List.mem_range.1 hj; omega) e
     omega
    ·intro a ha b hb e
     obtain ⟨j, hj, rfl⟩ := List.mem_map.1 ha
     obtain ⟨y, hy, hb⟩ := List.mem_flatMap.1 hb
     obtain ⟨j', hj', rfl⟩ := List.mem_map.1 hb
     injection e with e _
     have hy1 := hl y (by simp [hy])
     have := ofNat_inj8 (by omega) (by omega) e
     exact hx (by rw [show x = y by omega]; exact hy)
 exact key _ List.nodup_range (fun i hi => List.mem_range.1 hi)
theorem ders_one {g : GramG} {a d n : Nat} (hd : d + n ≤ 256) (hr : ∀ r ∈ g.rules, r.left = (a : Int) → r ∈ oneOf a d n) (hr2 : ∀ r ∈ oneOf a d n, r ∈ g.rules) {x : List UInt8} : DerS g [(a : Int)] x ↔ x ∈ oneL d n := by
 rw [DerS.nont_iff (by omega), mem_oneL]
 have key : ∀ (i : Nat), i < n → ∀ x, DerS g [-1 - (d : Int) - (i : Int)] x ↔ x = [UInt8.ofNat (d + i)] := fun i hi x => by
  rw [DerS.term_iff (by omega)]
  constructor
  ·rintro ⟨b, hb, rfl⟩
   have : b = UInt8.ofNat (d + i) := UInt8.toNat_inj.1 (by rw [UInt8.toNat_ofNat_of_lt' (by show _ < 256; omega)]; omega)
   rw [this]
  ·rintro rfl
   exact ⟨_, by rw [UInt8.toNat_ofNat_of_lt' (by show _ < 256; omega)]; omega, rfl⟩
 constructor
 ·rintro ⟨r, h1, h2, h3⟩
  obtain ⟨i, hi, rfl⟩ := mem_oneOf.1 (hr r h1 h2)
  exact ⟨i, hi, (key i hi x).1 h3⟩
 ·rintro ⟨i, hi, rfl⟩
  exact ⟨_, hr2 _ (mem_oneOf.2 ⟨i, hi, rfl⟩), rfl, (key i hi _).2 rfl⟩
theorem isFirst_of {g : GramG} {k : Int} {ss : List Int} {l : Words} (h : ∀ u, firstP g k ss u ↔ u ∈ l) : IsFirst g k ss (ofW l) := ⟨set_ofW l, fun u => by rw [mem_ofW, h u]⟩
theorem first_one {g : GramG} {a d n : Nat} (h : ∀ x, DerS g [(a : Int)] x ↔ x ∈ oneL d n) : ∀ u, firstP g 2 [(a : Int)] u ↔ u ∈ oneL d n := fun u => by
 constructor
 ·rintro ⟨x, hx, rfl⟩
  have hx2 := (h x).1 hx
  obtain ⟨i, hi, rfl⟩ := mem_oneL.1 hx2
  exact hx2
 ·intro hu
  refine ⟨u, (h u).2 hu, ?_⟩
  obtain ⟨i, hi, rfl⟩ := mem_oneL.1 hu
  rfl
theorem first_two {g : GramG} {a d n : Nat} (h : ∀ x, DerS g [(a : Int)] x ↔ x ∈ oneL d n) {ss : List Int} (hs : ∃ y, DerS g ss y) : ∀ u, firstP g 2 ((a : Int) :: (a : Int) :: ss) u ↔ u ∈ twoL d n := fun u => by
 rw [mem_twoL]
 constructor
 ·rintro ⟨x, hx, rfl⟩
  obtain ⟨y, z, hy, hz, rfl⟩ := DerS.cons_iff.1 hx
  obtain ⟨z1, z2, hz1, hz2, rfl⟩ := DerS.cons_iff.1 hz
  obtain ⟨i, hi, rfl⟩ := mem_oneL.1 ((h y).1 hy)
  obtain ⟨j, hj, rfl⟩ := mem_oneL.1 ((h z1).1 hz1)
  exact ⟨i, j, hi, hj, rfl⟩
 ·rintro ⟨i, j, hi, hj, rfl⟩
  obtain ⟨y, hy⟩ := hs
  refine ⟨[UInt8.ofNat (d + i)] ++ ([UInt8.ofNat (d + j)] ++ y), DerS.cons_iff.2 ⟨_, _, (h _).2 (mem_oneL.2 ⟨i, hi, rfl⟩), DerS.cons_iff.2 ⟨_, _, (h _).2 (mem_oneL.2 ⟨j, hj, rfl⟩), hy, rfl⟩, rfl⟩, rfl⟩
theorem over_of {g : GramG} {k : Int} {ss : List Int} {l : Words} (h : ∀ u, firstP g k ss u ↔ u ∈ l) (hn : l.Nodup) : OverP g k ss ↔ 4096 < l.length := by
 rw [OverP.iff (isFirst_of h), ofW_nodup_len hn]
theorem overNil (g : GramG) (k : Int) : ¬ OverP g k [] := by rw [OverP.iff (isFirst_nil g k)]; decide
def frlR (tail : Bool) : List Int := if tail then [1, 1, 1] else [1, 1]
def frlG (n : Nat) (tail : Bool) : GramG := ⟨[[83], [65]], ltms n, ⟨0, frlR tail⟩ :: oneOf 1 0 n⟩
theorem frl_mem {n : Nat} {tail : Bool} {r : RuleG} : r ∈ (frlG n tail).rules ↔ r = ⟨0, frlR tail⟩ ∨ r ∈ oneOf 1 0 n := by
 show r ∈ (⟨0, frlR tail⟩ : RuleG) :: oneOf 1 0 n ↔ _
 rw [List.mem_cons]
theorem frlR_one (tail : Bool) : ∀ s ∈ frlR tail, s = 1 := by cases tail <;> decide
theorem frl_valid {n : Nat} (h1 : 1 ≤ n) (h2 : n ≤ 200) (tail : Bool) : ValidG (frlG n tail) where
 one := by show 1 ≤ 2; decide
 syms := by show 2 + (ltms n).length ≤ 256; rw [ltms_len]; omega
 few := by show (oneOf 1 0 n).length + 1 ≤ 4096; rw [oneOf_len]; omega
 names := by show ∀ x ∈ ([[83], [65]] : List (List UInt8)), nameB x = true; decide
 nodupN := by show ([[83], [65]] : List (List UInt8)).Nodup; decide
 has := fun i hi => by
  have hi' : i < 2 := hi
  rcases (by omega : i = 0 ∨ i = 1) with rfl | rfl
  ·exact ⟨_, frl_mem.2 (.inl rfl), rfl⟩
  ·exact ⟨_, frl_mem.2 (.inr (mem_oneOf.2 ⟨0, by omega, rfl⟩)), rfl⟩
 terms := ltms_term h2
 nodupT := ltms_nodup h2
 rules := fun r hr => by
  show 0 ≤ r.left ∧ r.left < (2 : Int) ∧ r.right.length ≤ 64 ∧ ∀ s ∈ r.right, -((ltms n).length : Int) ≤ s ∧ s < (2 : Int)
  rw [ltms_len]
  rcases frl_mem.1 hr with rfl | hr
  ·refine ⟨by show (0 : Int) ≤ 0; decide, by show (0 : Int) < 2; decide, by cases tail <;> decide, fun s hs => ?_⟩
   have := frlR_one tail s hs
   omega
  ·obtain ⟨i, hi, rfl⟩ := mem_oneOf.1 hr
   refine ⟨by show (0 : Int) ≤ 1; decide, by show (1 : Int) < 2; decide, by show 1 ≤ 64; decide, fun s hs => ?_⟩
   have : s = -1 - ((0 : Nat) : Int) - (i : Int) := by simpa using hs
   omega
 nodupR := by
  show ((⟨0, frlR tail⟩ : RuleG) :: oneOf 1 0 n).Nodup
  rw [List.nodup_cons]
  refine ⟨fun h => ?_, oneOf_nodup 1 0 n⟩
  obtain ⟨i, -, e⟩ := mem_oneOf.1 h
  injection e with e _
  exact absurd e (by decide)
theorem frl_prod {n : Nat} (h1 : 1 ≤ n) (tail : Bool) : ∀ i, i < (frlG n tail).names.length → ProdN (frlG n tail) i := by
 have p1 : ProdN (frlG n tail) 1 := .mk _ 1 (frl_mem.2 (.inr (mem_oneOf.2 ⟨0, by omega, rfl⟩))) rfl (fun s hs hp => by
  have : s = -1 - ((0 : Nat) : Int) - ((0 : Nat) : Int) := by simpa using hs
  omega)
 intro i hi
 have hi' : i < 2 := hi
 rcases (by omega : i = 0 ∨ i = 1) with rfl | rfl
 ·exact .mk _ 0 (frl_mem.2 (.inl rfl)) rfl (fun s hs _ => by rw [frlR_one tail s hs]; exact p1)
 ·exact p1
theorem check_of {g : GramG} (hv : ValidG g) (hp : ∀ i, i < g.names.length → ProdN g i) (hr : (∀ i, i < g.names.length → ReachN g i) ∧ ∀ t, t < g.terms.length → UsedG g t) : checkG g = 0 := by
 unfold checkG
 rw [if_neg (by unfold validB; rw [boolOf_true hv]; decide), if_neg (by rw [boolOf_true hp]; decide), if_neg (by rw [boolOf_true hr]; decide)]
theorem frl_check {n : Nat} (h1 : 1 ≤ n) (h2 : n ≤ 200) (tail : Bool) : checkG (frlG n tail) = 0 := by
 have r1 : ReachN (frlG n tail) 1 := .step ⟨0, frlR tail⟩ 0 1 (frl_mem.2 (.inl rfl)) rfl .zero (by cases tail <;> decide) (by decide)
 refine check_of (frl_valid h1 h2 tail) (frl_prod h1 tail) ⟨fun i hi => ?_, fun t ht => ?_⟩
 ·have hi' : i < 2 := hi
  rcases (by omega : i = 0 ∨ i = 1) with rfl | rfl
  ·exact .zero
  ·exact r1
 ·have ht' : t < n := by rw [← ltms_len n]; exact ht
  exact ⟨_, frl_mem.2 (.inr (mem_oneOf.2 ⟨t, ht', rfl⟩)), ⟨1, rfl, r1⟩, by simp⟩
theorem frl_int (n : Nat) (hn : n ≤ 200) (tail : Bool) : IntG (frlG n tail) := fun r hr s hs => by
 rcases frl_mem.1 hr with rfl | hr
 ·have := frlR_one tail s hs; omega
 ·obtain ⟨i, hi, rfl⟩ := mem_oneOf.1 hr
  have : s = -1 - ((0 : Nat) : Int) - (i : Int) := by simpa using hs
  omega
theorem frl_size {n : Nat} (hn : n ≤ 200) (tail : Bool) : SizeG (frlG n tail) where
 names := by show 2 ≤ 100000; decide
 terms := by show (ltms n).length ≤ 100000; rw [ltms_len]; omega
 rules := by show (oneOf 1 0 n).length + 1 ≤ 100000; rw [oneOf_len]; omega
 right := fun r hr => by
  rcases frl_mem.1 hr with rfl | hr
  ·cases tail <;> decide
  ·obtain ⟨i, hi, rfl⟩ := mem_oneOf.1 hr
   show 1 ≤ 100000
   decide
 name := by show ∀ x ∈ ([[83], [65]] : List (List UInt8)), x.length ≤ 100000; decide
 term := fun t ht => by
  obtain ⟨i, -, rfl⟩ := List.mem_map.1 (show t ∈ ltms n from ht)
  show 2 ≤ 100000
  decide
theorem frl_one {n : Nat} (hn : n ≤ 200) (tail : Bool) : ∀ x, DerS (frlG n tail) [(1 : Nat)] x ↔ x ∈ oneL 0 n := fun x => ders_one (by omega) (fun r hr hl => by
 rcases frl_mem.1 hr with rfl | hr
 ·exact absurd (show (0 : Int) = 1 from hl) (by decide)
 ·exact hr) (fun r hr => frl_mem.2 (.inr hr))
theorem frl_top {n : Nat} (h1 : 1 ≤ n) (hn : n ≤ 200) (tail : Bool) : ∀ u, firstP (frlG n tail) 2 [((0 : Nat) : Int)] u ↔ u ∈ twoL 0 n := fun u => by
 have hd : ∀ x, DerS (frlG n tail) [((0 : Nat) : Int)] x ↔ DerS (frlG n tail) (frlR tail) x := fun x => by
  rw [DerS.nont_iff (by decide)]
  constructor
  ·rintro ⟨r, hr, hl, h⟩
   rcases frl_mem.1 hr with rfl | hr
   ·exact h
   ·obtain ⟨i, -, rfl⟩ := mem_oneOf.1 hr
    exact absurd (show (1 : Int) = 0 from hl) (by decide)
  ·intro h
   exact ⟨_, frl_mem.2 (.inl rfl), rfl, h⟩
 have ho : ∃ y, DerS (frlG n tail) [(1 : Nat)] y := ⟨_, (frl_one hn tail _).2 (mem_oneL.2 ⟨0, by omega, rfl⟩)⟩
 have e : firstP (frlG n tail) 2 [((0 : Nat) : Int)] u ↔ firstP (frlG n tail) 2 (frlR tail) u := by
  unfold firstP
  exact ⟨fun ⟨x, h, e⟩ => ⟨x, (hd x).1 h, e⟩, fun ⟨x, h, e⟩ => ⟨x, (hd x).2 h, e⟩⟩
 rw [e]
 cases tail with
 | true => exact first_two (frl_one hn true) (ss := [1]) ho u
 | false => exact first_two (frl_one hn false) (ss := []) ⟨[], .nil⟩ u
theorem frl_over {n : Nat} (h1 : 1 ≤ n) (hn : n ≤ 200) (tail : Bool) : OverG (frlG n tail) 2 ↔ 64 < n := by
 have ho : ∃ y, DerS (frlG n tail) [(1 : Nat)] y := ⟨_, (frl_one hn tail _).2 (mem_oneL.2 ⟨0, by omega, rfl⟩)⟩
 have o0 : OverP (frlG n tail) 2 [((0 : Nat) : Int)] ↔ 4096 < n * n := by rw [over_of (frl_top h1 hn tail) (twoL_nodup (by omega)), twoL_len]
 have o1 : ¬ OverP (frlG n tail) 2 [((1 : Nat) : Int)] := by rw [over_of (first_one (frl_one hn tail)) (oneL_nodup (by omega)), oneL_len]; omega
 have o2 : ∀ ss : List Int, (∃ y, DerS (frlG n tail) ss y) → (OverP (frlG n tail) 2 (((1 : Nat) : Int) :: ((1 : Nat) : Int) :: ss) ↔ 4096 < n * n) := fun ss h => by
  rw [over_of (first_two (frl_one hn tail) h) (twoL_nodup (by omega)), twoL_len]
 have sq : 4096 < n * n ↔ 64 < n := by
  constructor
  ·intro h
   apply Nat.lt_of_not_le
   intro hle
   have := Nat.mul_le_mul hle hle
   omega
  ·intro h
   have := Nat.mul_le_mul (show 65 ≤ n from h) (show 65 ≤ n from h)
   omega
 rw [← sq]
 constructor
 ·rintro (⟨i, hi, h⟩ | ⟨r, hr, m, hm, h⟩)
  ·have hi' : i < 2 := hi
   rcases (by omega : i = 0 ∨ i = 1) with rfl | rfl
   ·exact o0.1 h
   ·exact absurd h o1
  ·rcases frl_mem.1 hr with rfl | hr
   ·have hm3 : m ≤ 3 := Nat.le_trans hm (by cases tail <;> decide)
    rcases (by omega : m = 0 ∨ m = 1 ∨ m = 2 ∨ m = 3) with rfl | rfl | rfl | rfl
    ·exact absurd h (overNil _ _)
    ·exact absurd (show OverP (frlG n tail) 2 [((1 : Nat) : Int)] by cases tail <;> exact h) o1
    ·exact (o2 [] ⟨[], .nil⟩).1 (by cases tail <;> exact h)
    ·cases tail with
     | true => exact (o2 [1] ho).1 h
     | false => exact absurd hm (by decide)
   ·obtain ⟨i, hi, rfl⟩ := mem_oneOf.1 hr
    have hm1 : m ≤ 1 := hm
    rcases (by omega : m = 0 ∨ m = 1) with rfl | rfl
    ·exact absurd h (overNil _ _)
    ·have hF := isFirst_term (frlG n tail) (k := 2) (by decide) (s := -1 - ((0 : Nat) : Int) - (i : Int)) (by omega) (by omega)
     exact absurd (show 4096 < 1 from (OverP.iff hF).1 h) (by decide)
 ·intro h
  exact .inl ⟨0, by show 0 < 2; decide, o0.2 h⟩
theorem frl_out {n : Nat} (h1 : 1 ≤ n) (hn : n ≤ 200) {tail : Bool} {ls : List Words} {c : Int} (h : FirstOut (frlG n tail) 2 ls c) :
  (64 < n ∧ ls = [] ∧ c = 21) ∨ (n ≤ 64 ∧ c = 0 ∧ ∃ a b, ls = [a, b] ∧ a.length = n * n ∧ b.length = n) := by
 rcases h with ⟨h, -⟩ | ⟨-, ⟨h, h2, h3⟩ | ⟨h, h2, h3, h4⟩⟩
 ·rw [frl_check h1 hn] at h; omega
 ·exact .inl ⟨(frl_over h1 hn tail).1 h, h2, h3⟩
 ·refine .inr ⟨Nat.le_of_not_lt fun q => h ((frl_over h1 hn tail).2 q), h2, ?_⟩
  have h3' : ls.length = 2 := h3
  match ls, h3' with
  | [a, b], _ =>
    have ea := (h4 0 (by simp)).one (isFirst_of (frl_top h1 hn tail))
    have eb := (h4 1 (by simp)).one (isFirst_of (first_one (frl_one hn tail)))
    exact ⟨a, b, rfl, by rw [show a = _ from ea, ofW_nodup_len (twoL_nodup (by omega)), twoL_len], by rw [show b = _ from eb, ofW_nodup_len (oneL_nodup (by omega)), oneL_len]⟩
end Go.Proofs.YtnaamjpiaekmeaaGreat
namespace Go.Proofs.YtnaamjpiaekmeaaGreat
section
variable {α : Type} (key : α → Nat) (R : α → α → Prop)
def SrtK (l : List α) : Prop := l.Pairwise fun x y => key x ≤ key y
def StbK (l : List α) : Prop := l.Pairwise fun x y => key x = key y → R x y
def MovK (l m : List α) : Prop := List.Perm m l ∧ (StbK key R l → StbK key R m)
variable {key R}
theorem MovK.refl (l : List α) : MovK key R l l := ⟨List.Perm.refl _, id⟩
theorem MovK.trans {a b c : List α} (h : MovK key R a b) (k : MovK key R b c) : MovK key R a c := ⟨k.1.trans h.1, fun q => k.2 (h.2 q)⟩
theorem MovK.len {a b : List α} (h : MovK key R a b) : b.length = a.length := h.1.length_eq
theorem MovK.frame {a b : List α} (h : MovK key R a b) (p s : List α) : MovK key R (p ++ a ++ s) (p ++ b ++ s) := by
 refine ⟨(h.1.append_left p).append_right s, fun q => ?_⟩
 unfold StbK at q ⊢
 rw [List.pairwise_append, List.pairwise_append] at q ⊢
 obtain ⟨⟨q1, q2, q3⟩, q4, q5⟩ := q
 refine ⟨⟨q1, h.2 q2, fun x hx y hy => q3 x hx y (h.1.mem_iff.1 hy)⟩, q4, fun x hx y hy => q5 x ?_ y hy⟩
 rcases List.mem_append.1 hx with hx | hx
 ·exact List.mem_append.2 (.inl hx)
 ·exact List.mem_append.2 (.inr (h.1.mem_iff.1 hx))
theorem MovK.swap {x y : α} (h : key y < key x) : MovK key R [x, y] [y, x] := by
 refine ⟨List.Perm.swap _ _ _, fun _ => ?_⟩
 unfold StbK
 simp only [List.pairwise_cons, List.mem_singleton, List.not_mem_nil]
 exact ⟨fun z hz e => by subst hz; omega, fun _ h => h.elim, List.Pairwise.nil⟩
theorem MovK.rot {u v : List α} (h : ∀ x ∈ u, ∀ y ∈ v, key y < key x) : MovK key R (u ++ v) (v ++ u) := by
 refine ⟨List.perm_append_comm, fun q => ?_⟩
 unfold StbK at q ⊢
 rw [List.pairwise_append] at q ⊢
 exact ⟨q.2.1, q.1, fun x hx y hy e => by have := h y hy x hx; omega⟩
theorem SrtK.append {u v : List α} (hu : SrtK key u) (hv : SrtK key v) (h : ∀ x ∈ u, ∀ y ∈ v, key x ≤ key y) : SrtK key (u ++ v) := List.pairwise_append.2 ⟨hu, hv, h⟩
theorem SrtK.nil : SrtK key ([] : List α) := List.Pairwise.nil
theorem SrtK.left {u v : List α} (h : SrtK key (u ++ v)) : SrtK key u := (List.pairwise_append.1 h).1
theorem SrtK.right {u v : List α} (h : SrtK key (u ++ v)) : SrtK key v := (List.pairwise_append.1 h).2.1
theorem SrtK.cross {u v : List α} (h : SrtK key (u ++ v)) : ∀ x ∈ u, ∀ y ∈ v, key x ≤ key y := (List.pairwise_append.1 h).2.2
theorem SrtK.at {l : List α} (h : SrtK key l) {i j : Nat} (hij : i ≤ j) (hj : j < l.length) : key (l[i]'(by omega)) ≤ key (l[j]'hj) := by
 rcases Nat.lt_or_eq_of_le hij with q | q
 ·exact List.pairwise_iff_getElem.1 h i j (by omega) hj q
 ·subst q; exact Nat.le_refl _
inductive BlkK (key : α → Nat) (k : Nat) : List α → Prop
 | last (x : List α) (h : x.length ≤ k) (hs : SrtK key x) : BlkK key k x
 | cons (x r : List α) (h : x.length = k) (hs : SrtK key x) (hr : BlkK key k r) : BlkK key k (x ++ r)
theorem BlkK.head {k : Nat} {l : List α} (h : BlkK key k l) (hk : k ≤ l.length) : ∃ x r, l = x ++ r ∧ x.length = k ∧ SrtK key x ∧ BlkK key k r := by
 cases h with
 | last _ h hs => exact ⟨l, [], by simp, by omega, hs, .last [] (Nat.zero_le _) .nil⟩
 | cons x r h hs hr => exact ⟨x, r, rfl, h, hs, hr⟩
theorem BlkK.one {k : Nat} {l : List α} (h : BlkK key k l) (hk : l.length ≤ k) : SrtK key l := by
 cases h with
 | last _ h hs => exact hs
 | cons x r h hs hr =>
   rw [List.length_append] at hk
   have : r = [] := List.eq_nil_of_length_eq_zero (by omega)
   subst this
   rw [List.append_nil]
   exact hs
theorem BlkK.two {k : Nat} {l : List α} (h : BlkK key k l) (hk : 2 * k ≤ l.length) : ∃ x y r, l = x ++ y ++ r ∧ x.length = k ∧ y.length = k ∧ SrtK key x ∧ SrtK key y ∧ BlkK key k r := by
 obtain ⟨x, r1, rfl, hx, sx, h1⟩ := h.head (by omega)
 rw [List.length_append] at hk
 obtain ⟨y, r, rfl, hy, sy, h2⟩ := h1.head (by omega)
 exact ⟨x, y, r, by rw [List.append_assoc], hx, hy, sx, sy, h2⟩
theorem BlkK.rest {k : Nat} {l : List α} (h : BlkK key k l) (hk : k < l.length) (hk2 : l.length < 2 * k) : ∃ x y, l = x ++ y ∧ x.length = k ∧ y ≠ [] ∧ SrtK key x ∧ SrtK key y := by
 obtain ⟨x, r, rfl, hx, sx, h1⟩ := h.head (by omega)
 rw [List.length_append] at hk hk2
 exact ⟨x, r, rfl, hx, fun e => by subst e; simp at hk; omega, sx, h1.one (by omega)⟩
def DoneK (key : α → Nat) (k : Nat) (d : List α) : Prop := ∀ r, BlkK key k r → BlkK key k (d ++ r)
theorem DoneK.nil (k : Nat) : DoneK key k ([] : List α) := fun _ h => h
theorem DoneK.snoc {k : Nat} {d x : List α} (h : DoneK key k d) (hl : x.length = k) (hs : SrtK key x) : DoneK key k (d ++ x) := fun r hr => by
 rw [List.append_assoc]
 exact h _ (.cons x r hl hs hr)
theorem DoneK.whole {k : Nat} {d x : List α} (h : DoneK key k d) (hl : x.length ≤ k) (hs : SrtK key x) : BlkK key k (d ++ x) := h _ (.last x hl hs)
end
structure BinK {α : Type} (key : α → Nat) (v : List α) (e : Nat) (i j : Nat) : Prop where
 le : i ≤ j
 top : j ≤ v.length
 lo : ∀ c (h : c < v.length), c < i → key (v[c]'h) < e
 hi : ∀ c (h : c < v.length), j ≤ c → e ≤ key (v[c]'h)
theorem BinK.start {α : Type} {key : α → Nat} (v : List α) (e : Nat) : BinK key v e 0 v.length := ⟨Nat.zero_le _, Nat.le_refl _, fun _ _ h => by omega, fun _ _ h => by omega⟩
theorem BinK.up {α : Type} {key : α → Nat} {v : List α} {e i j h : Nat} (hs : SrtK key v) (hb : BinK key v e i j) (_ : i ≤ h) (hj : h < j) (hk : ∀ q : h < v.length, key (v[h]'q) < e) : BinK key v e (h + 1) j :=
 ⟨hj, hb.top, fun c hc hch => Nat.lt_of_le_of_lt (hs.at (by omega) (by have := hb.top; omega)) (hk (by have := hb.top; omega)), hb.hi⟩
theorem BinK.down {α : Type} {key : α → Nat} {v : List α} {e i j h : Nat} (hs : SrtK key v) (hb : BinK key v e i j) (hh : i ≤ h) (hj : h < j) (hk : ∀ q : h < v.length, e ≤ key (v[h]'q)) : BinK key v e i h :=
 ⟨hh, by have := hb.top; omega, hb.lo, fun c hc hch => Nat.le_trans (hk (by have := hb.top; omega)) (hs.at hch hc)⟩
theorem BinK.parts {α : Type} {key : α → Nat} {v : List α} {e i : Nat} (hb : BinK key v e i i) : (∀ x ∈ v.take i, key x < e) ∧ (∀ x ∈ v.drop i, e ≤ key x) := by
 refine ⟨fun x hx => ?_, fun x hx => ?_⟩
 ·obtain ⟨c, hc, rfl⟩ := List.getElem_of_mem hx
  rw [List.length_take] at hc
  rw [List.getElem_take]
  exact hb.lo c (by omega) (by omega)
 ·obtain ⟨c, hc, rfl⟩ := List.getElem_of_mem hx
  rw [List.length_drop] at hc
  rw [List.getElem_drop]
  exact hb.hi (i + c) (by omega) (by omega)
section
variable {α : Type} {key : α → Nat} {R : α → α → Prop}
theorem ins_left {e : α} {v : List α} (hs : SrtK key v) {i : Nat} (hb : BinK key v (key e) i i) : MovK key R (e :: v) (v.take i ++ e :: v.drop i) ∧ SrtK key (v.take i ++ e :: v.drop i) := by
 obtain ⟨h1, h2⟩ := hb.parts
 have hs2 : SrtK key (v.take i ++ v.drop i) := by rw [List.take_append_drop]; exact hs
 refine ⟨?_, SrtK.append hs2.left (List.pairwise_cons.2 ⟨h2, hs2.right⟩) (fun x hx y hy => ?_)⟩
 ·have hm : MovK key R ([e] ++ v.take i) (v.take i ++ [e]) := MovK.rot (fun x hx y hy => by
   rw [List.mem_singleton.1 hx]; exact h1 y hy)
  have := hm.frame [] (v.drop i)
  simp only [List.nil_append, List.append_assoc, List.take_append_drop, List.cons_append] at this
  exact this
 ·rcases List.mem_cons.1 hy with rfl | hy
  ·exact Nat.le_of_lt (h1 x hx)
  ·exact hs2.cross x hx y hy
theorem ins_right {e : α} {u : List α} (hs : SrtK key u) {i : Nat} (hb : BinK key u (key e + 1) i i) : MovK key R (u ++ [e]) (u.take i ++ e :: u.drop i) ∧ SrtK key (u.take i ++ e :: u.drop i) := by
 obtain ⟨h1, h2⟩ := hb.parts
 have hs2 : SrtK key (u.take i ++ u.drop i) := by rw [List.take_append_drop]; exact hs
 refine ⟨?_, SrtK.append hs2.left (List.pairwise_cons.2 ⟨fun y hy => by have := h2 y hy; omega, hs2.right⟩) (fun x hx y hy => ?_)⟩
 ·have hm : MovK key R (u.drop i ++ [e]) ([e] ++ u.drop i) := MovK.rot (fun x hx y hy => by
   rw [List.mem_singleton.1 hy]; have := h2 x hx; omega)
  have := hm.frame (u.take i) []
  simp only [List.append_nil, List.singleton_append] at this
  rw [← List.append_assoc, List.take_append_drop] at this
  exact this
 ·rcases List.mem_cons.1 hy with rfl | hy
  ·have := h1 x hx; omega
  ·exact hs2.cross x hx y hy
structure SymK (key : α → Nat) (u v : List α) (n lo hi start r : Nat) : Prop where
 le : start ≤ r
 lo_ : lo ≤ start
 hi_ : r ≤ hi
 below : ∀ c (h : c < u.length) (h' : n - 1 - c - u.length < v.length), lo ≤ c → c < start → key (u[c]'h) ≤ key (v[n - 1 - c - u.length]'h')
 above : ∀ c (h : c < u.length) (h' : n - 1 - c - u.length < v.length), r ≤ c → c < hi → key (v[n - 1 - c - u.length]'h') < key (u[c]'h)
structure SymB (lu lv n lo hi : Nat) : Prop where
 lo_hi : lo ≤ hi
 hi_u : hi ≤ lu
 n_lo : n ≤ lo + lu + lv
 n_hi : hi + lu ≤ n
 endLo : lo = 0 ∨ n = lo + lu + lv
 endHi : hi = lu ∨ n = hi + lu
theorem SymK.up {u v : List α} {n lo hi start r c : Nat} (hu : SrtK key u) (hv : SrtK key v) (hb : SymB u.length v.length n lo hi) (h : SymK key u v n lo hi start r) (h1 : start ≤ c) (h2 : c < r)
  (hk : ∀ (q : c < u.length) (q' : n - 1 - c - u.length < v.length), key (u[c]'q) ≤ key (v[n - 1 - c - u.length]'q')) : SymK key u v n lo hi (c + 1) r := by
 have a1 := h.hi_
 have a2 := hb.hi_u
 have a3 := hb.n_lo
 have a4 := hb.n_hi
 have a5 := h.lo_
 refine ⟨h2, by omega, h.hi_, fun d hd hd' hl hc => ?_, h.above⟩
 have e1 : key (u[d]'hd) ≤ key (u[c]'(by omega)) := hu.at (by omega) (by omega)
 have e2 := hk (by omega) (by omega)
 have e3 : key (v[n - 1 - c - u.length]'(by omega)) ≤ key (v[n - 1 - d - u.length]'hd') := hv.at (by omega) hd'
 omega
theorem SymK.down {u v : List α} {n lo hi start r c : Nat} (hu : SrtK key u) (hv : SrtK key v) (hb : SymB u.length v.length n lo hi) (h : SymK key u v n lo hi start r) (h1 : start ≤ c) (h2 : c < r)
  (hk : ∀ (q : c < u.length) (q' : n - 1 - c - u.length < v.length), key (v[n - 1 - c - u.length]'q') < key (u[c]'q)) : SymK key u v n lo hi start c := by
 have a1 := h.hi_
 have a2 := hb.hi_u
 have a3 := hb.n_lo
 have a4 := hb.n_hi
 have a5 := h.lo_
 refine ⟨h1, by omega, by omega, h.below, fun d hd hd' hl hc => ?_⟩
 have e1 : key (u[c]'(by omega)) ≤ key (u[d]'hd) := hu.at (by omega) hd
 have e2 := hk (by omega) (by omega)
 have e3 : key (v[n - 1 - d - u.length]'hd') ≤ key (v[n - 1 - c - u.length]'(by omega)) := hv.at (by omega) (by omega)
 omega
theorem SymK.parts {u v : List α} {n lo hi s : Nat} (hu : SrtK key u) (hv : SrtK key v) (hb : SymB u.length v.length n lo hi) (h : SymK key u v n lo hi s s) :
  (∀ x ∈ u.drop s, ∀ y ∈ v.take (n - s - u.length), key y < key x) ∧ (∀ x ∈ u.take s, ∀ y ∈ v.drop (n - s - u.length), key x ≤ key y) := by
 have a1 := h.hi_
 have a2 := hb.hi_u
 have a3 := hb.n_lo
 have a4 := hb.n_hi
 have a5 := h.lo_
 have hu2 : SrtK key (u.take s ++ u.drop s) := by rw [List.take_append_drop]; exact hu
 have hv2 : SrtK key (v.take (n - s - u.length) ++ v.drop (n - s - u.length)) := by rw [List.take_append_drop]; exact hv
 refine ⟨fun x hx y hy => ?_, fun x hx y hy => ?_⟩
 ·obtain ⟨c, hc, rfl⟩ := List.getElem_of_mem hx
  obtain ⟨d, hd, rfl⟩ := List.getElem_of_mem hy
  rw [List.length_drop] at hc
  rw [List.length_take] at hd
  rw [List.getElem_drop, List.getElem_take]
  by_cases hsh : s < hi
  ·have e2 := h.above s (by omega) (by omega) (Nat.le_refl _) hsh
   have e1 : key (u[s]'(by omega)) ≤ key (u[s + c]'(by omega)) := hu.at (by omega) (by omega)
   have e3 : key (v[d]'(by omega)) ≤ key (v[n - 1 - s - u.length]'(by omega)) := hv.at (by omega) (by omega)
   omega
  ·rcases hb.endHi with q | q <;> omega
 ·obtain ⟨c, hc, rfl⟩ := List.getElem_of_mem hx
  obtain ⟨d, hd, rfl⟩ := List.getElem_of_mem hy
  rw [List.length_take] at hc
  rw [List.length_drop] at hd
  rw [List.getElem_drop, List.getElem_take]
  by_cases hsl : lo < s
  ·have e2 := h.below (s - 1) (by omega) (by omega) (by omega) (by omega)
   have e1 : key (u[c]'(by omega)) ≤ key (u[s - 1]'(by omega)) := hu.at (by omega) (by omega)
   have e3 : key (v[n - 1 - (s - 1) - u.length]'(by omega)) ≤ key (v[n - s - u.length + d]'(by omega)) := hv.at (by omega) (by omega)
   omega
  ·rcases hb.endLo with q | q <;> omega
theorem sym_merge {u1 u2 v1 v2 x y : List α} (hm : ∀ a ∈ u2, ∀ b ∈ v1, key b < key a) (hl : ∀ a ∈ u1, ∀ b ∈ v2, key a ≤ key b) (hu : SrtK key (u1 ++ u2)) (hv : SrtK key (v1 ++ v2))
  (hx : MovK key R (u1 ++ v1) x) (hy : MovK key R (u2 ++ v2) y) (sx : SrtK key x) (sy : SrtK key y) : MovK key R (u1 ++ u2 ++ (v1 ++ v2)) (x ++ y) ∧ SrtK key (x ++ y) := by
 refine ⟨?_, SrtK.append sx sy (fun a ha b hb => ?_)⟩
 ·have m1 : MovK key R (u1 ++ (u2 ++ v1) ++ v2) (u1 ++ (v1 ++ u2) ++ v2) := (MovK.rot hm).frame u1 v2
  have m2 : MovK key R ([] ++ (u1 ++ v1) ++ (u2 ++ v2)) ([] ++ x ++ (u2 ++ v2)) := hx.frame [] _
  have m3 : MovK key R (x ++ (u2 ++ v2) ++ []) (x ++ y ++ []) := hy.frame x []
  have e1 : u1 ++ u2 ++ (v1 ++ v2) = u1 ++ (u2 ++ v1) ++ v2 := by simp
  have e2 : u1 ++ (v1 ++ u2) ++ v2 = [] ++ (u1 ++ v1) ++ (u2 ++ v2) := by simp
  have e3 : [] ++ x ++ (u2 ++ v2) = x ++ (u2 ++ v2) ++ [] := by simp
  have e4 : x ++ y ++ [] = x ++ y := by simp
  rw [e1]
  rw [e2] at m1
  rw [e3] at m2
  rw [e4] at m3
  exact (m1.trans m2).trans m3
 ·have ha' := hx.1.mem_iff.1 ha
  have hb' := hy.1.mem_iff.1 hb
  rcases List.mem_append.1 ha' with h1 | h1 <;> rcases List.mem_append.1 hb' with h2 | h2
  ·exact hu.cross a h1 b h2
  ·exact hl a h1 b h2
  ·exact Nat.le_of_lt (hm b h2 a h1)
  ·exact hv.cross a h1 b h2
end
def swp {α : Type} (d : α) (l : List α) (i j : Nat) : List α := (l.set i (l.getD j d)).set j (l.getD i d)
theorem swp_len {α : Type} (d : α) (l : List α) (i j : Nat) : (swp d l i j).length = l.length := by unfold swp; simp
theorem swp_get {α : Type} (d : α) (l : List α) {i j : Nat} (hi : i < l.length) (hj : j < l.length) (c : Nat) : (swp d l i j)[c]? = if c = j then l[i]? else if c = i then l[j]? else l[c]? := by
 unfold swp
 rw [List.getElem?_set, List.getElem?_set, List.length_set, List.getD_eq_getElem?_getD, List.getD_eq_getElem?_getD, List.getElem?_eq_getElem hi, List.getElem?_eq_getElem hj]
 simp only [Option.getD_some]
 by_cases h1 : j = c
 ·subst h1
  simp [hj]
 ·by_cases h2 : i = c
  ·subst h2
   have h3 : ¬ i = j := fun e => h1 e.symm
   simp [h1, hi, h3]
  ·have h3 : ¬ c = j := fun e => h1 e.symm
   have h4 : ¬ c = i := fun e => h2 e.symm
   simp [h1, h2, h3, h4]
theorem swp_adj {α : Type} (d : α) (A B : List α) (x y : α) {i : Nat} (h : i = A.length) : swp d (A ++ x :: y :: B) i (i + 1) = A ++ y :: x :: B := by
 subst h
 apply List.ext_getElem?
 intro c
 rw [swp_get _ _ (by simp) (by simp)]
 by_cases h1 : c = A.length + 1
 ·subst h1
  rw [if_pos rfl, List.getElem?_append_right (Nat.le_refl _), List.getElem?_append_right (by omega)]
  simp
 ·rw [if_neg h1]
  by_cases h2 : c = A.length
  ·subst h2
   rw [if_pos rfl, List.getElem?_append_right (by omega), List.getElem?_append_right (Nat.le_refl _)]
   simp
  ·rw [if_neg h2]
   by_cases h3 : c < A.length
   ·rw [List.getElem?_append_left h3, List.getElem?_append_left h3]
   ·rw [List.getElem?_append_right (by omega), List.getElem?_append_right (by omega)]
    obtain ⟨q, hq⟩ : ∃ q, c - A.length = q + 2 := ⟨c - A.length - 2, by omega⟩
    rw [hq]
    rfl
theorem swp_adj2 {α : Type} (d : α) (A B : List α) (x y : α) {i : Nat} (h : i = A.length) : swp d (A ++ x :: y :: B) (i + 1) i = A ++ y :: x :: B := by
 subst h
 rw [← swp_adj d A B x y rfl]
 apply List.ext_getElem?
 intro c
 rw [swp_get _ _ (by simp) (by simp), swp_get _ _ (by simp) (by simp)]
 by_cases h1 : c = A.length
 ·have : ¬ c = A.length + 1 := by omega
  rw [if_pos h1, if_neg this, if_pos h1]
 ·by_cases h2 : c = A.length + 1
  ·rw [if_neg h1, if_pos h2, if_pos h2]
  ·rw [if_neg h1, if_neg h2, if_neg h2, if_neg h1]
def swpN {α : Type} (d : α) (l : List α) (a b : Nat) : Nat → List α
 | 0 => l
 | n + 1 => swp d (swpN d l a b n) (a + n) (b + n)
theorem swpN_len {α : Type} (d : α) (l : List α) (a b : Nat) : ∀ n, (swpN d l a b n).length = l.length
 | 0 => rfl
 | n + 1 => by rw [swpN, swp_len, swpN_len d l a b n]
theorem swpN_get {α : Type} (d : α) (l : List α) {a b : Nat} : ∀ n, a + n ≤ b → b + n ≤ l.length → ∀ c, (swpN d l a b n)[c]? = if a ≤ c ∧ c < a + n then l[b + (c - a)]? else if b ≤ c ∧ c < b + n then l[a + (c - b)]? else l[c]?
 | 0, _, _, c => by rw [swpN, if_neg (by omega), if_neg (by omega)]
 | n + 1, h1, h2, c => by
   have ih := swpN_get d l (a := a) (b := b) n (by omega) (by omega)
   rw [swpN, swp_get d (swpN d l a b n) (i := a + n) (j := b + n) (by rw [swpN_len]; omega) (by rw [swpN_len]; omega), ih, ih, ih]
   by_cases e1 : c = b + n
   ·subst e1
    rw [if_pos rfl, if_neg (by omega), if_neg (by omega), if_neg (by omega), if_pos (by omega), Nat.add_sub_cancel_left]
   ·rw [if_neg e1]
    by_cases e2 : c = a + n
    ·subst e2
     rw [if_pos rfl, if_neg (by omega), if_neg (by omega), if_pos (by omega), Nat.add_sub_cancel_left]
    ·rw [if_neg e2]
     by_cases e3 : a ≤ c ∧ c < a + n
     ·rw [if_pos e3, if_pos (show a ≤ c ∧ c < a + (n + 1) by omega)]
     ·by_cases e4 : b ≤ c ∧ c < b + n
      ·rw [if_neg e3, if_pos e4, if_neg (show ¬ (a ≤ c ∧ c < a + (n + 1)) by omega), if_pos (show b ≤ c ∧ c < b + (n + 1) by omega)]
      ·rw [if_neg e3, if_neg e4, if_neg (show ¬ (a ≤ c ∧ c < a + (n + 1)) by omega), if_neg (show ¬ (b ≤ c ∧ c < b + (n + 1)) by omega)]
theorem swpN_parts {α : Type} (d : α) (p u q v s : List α) {a b n : Nat} (ha : a = p.length) (hu : u.length = n) (hv : v.length = n) (hb : b = p.length + n + q.length) : swpN d (p ++ u ++ q ++ v ++ s) a b n = p ++ v ++ q ++ u ++ s := by
 subst ha hb
 apply List.ext_getElem?
 intro c
 rw [swpN_get d (p ++ u ++ q ++ v ++ s) (a := p.length) (b := p.length + n + q.length) n (by omega) (by simp only [List.length_append]; omega)]
 by_cases e1 : c < p.length
 ·rw [if_neg (by omega), if_neg (by omega)]
  simp only [List.append_assoc]
  rw [List.getElem?_append_left e1, List.getElem?_append_left e1]
 ·by_cases e2 : c < p.length + n
  ·rw [if_pos (by omega)]
   simp only [List.append_assoc]
   rw [List.getElem?_append_right (by omega), List.getElem?_append_right (by omega), List.getElem?_append_right (by omega), List.getElem?_append_left (by omega), List.getElem?_append_right (by omega), List.getElem?_append_left (by omega)]
   congr 1
   omega
  ·by_cases e3 : c < p.length + n + q.length
   ·rw [if_neg (by omega), if_neg (by omega)]
    simp only [List.append_assoc]
    rw [List.getElem?_append_right (by omega), List.getElem?_append_right (by omega), List.getElem?_append_left (by omega), List.getElem?_append_right (by omega), List.getElem?_append_right (by omega), List.getElem?_append_left (by omega)]
    congr 1
    omega
   ·by_cases e4 : c < p.length + n + q.length + n
    ·rw [if_neg (by omega), if_pos (by omega)]
     simp only [List.append_assoc]
     rw [List.getElem?_append_right (by omega), List.getElem?_append_left (by omega), List.getElem?_append_right (by omega), List.getElem?_append_right (by omega), List.getElem?_append_right (by omega), List.getElem?_append_left (by omega)]
     congr 1
     omega
    ·rw [if_neg (by omega), if_neg (by omega)]
     simp only [List.append_assoc]
     rw [List.getElem?_append_right (by omega), List.getElem?_append_right (by omega), List.getElem?_append_right (by omega), List.getElem?_append_right (by omega), List.getElem?_append_right (by omega), List.getElem?_append_right (by omega), List.getElem?_append_right (by omega), List.getElem?_append_right (by omega)]
     congr 1
     omega
structure RotK {α : Type} (l g : List α) (m i j : Nat) : Prop where
 parts : ∃ p u v s, l = p ++ u ++ v ++ s ∧ g = p ++ v ++ u ++ s ∧ u.length = i ∧ v.length = j ∧ p.length + i = m
theorem RotK.left {α : Type} (d : α) {l g : List α} {m i j : Nat} (h : RotK l g m i j) (hij : j < i) : RotK (swpN d l (m - i) m j) g m (i - j) j := by
 obtain ⟨p, u, v, s, rfl, rfl, hu, hv, hm⟩ := h.parts
 have e : p ++ u ++ v ++ s = p ++ u.take j ++ u.drop j ++ v ++ s := by rw [List.append_assoc p (u.take j), List.take_append_drop]
 have h1 : (u.take j).length = j := by rw [List.length_take]; omega
 have h2 : (u.drop j).length = i - j := by rw [List.length_drop]; omega
 rw [e, swpN_parts d p (u.take j) (u.drop j) v s (by omega) h1 hv (by omega)]
 refine ⟨p ++ v, u.drop j, u.take j, s, by simp, ?_, h2, h1, by rw [List.length_append]; omega⟩
 rw [List.append_assoc (p ++ v) (u.take j), List.take_append_drop]
theorem RotK.right {α : Type} (d : α) {l g : List α} {m i j : Nat} (h : RotK l g m i j) (hij : i < j) : RotK (swpN d l (m - i) (m + j - i) i) g m i (j - i) := by
 obtain ⟨p, u, v, s, rfl, rfl, hu, hv, hm⟩ := h.parts
 have e : p ++ u ++ v ++ s = p ++ u ++ v.take (j - i) ++ v.drop (j - i) ++ s := by rw [List.append_assoc (p ++ u) (v.take (j - i)), List.take_append_drop]
 have h1 : (v.take (j - i)).length = j - i := by rw [List.length_take]; omega
 have h2 : (v.drop (j - i)).length = i := by rw [List.length_drop]; omega
 rw [e, swpN_parts d p u (v.take (j - i)) (v.drop (j - i)) s (by omega) hu h2 (by omega)]
 refine ⟨p, v.drop (j - i), v.take (j - i), u ++ s, by simp, ?_, h2, h1, by omega⟩
 rw [show p ++ v.take (j - i) ++ v.drop (j - i) ++ (u ++ s) = p ++ (v.take (j - i) ++ v.drop (j - i)) ++ u ++ s by simp, List.take_append_drop]
theorem RotK.last {α : Type} (d : α) {l g : List α} {m i : Nat} (h : RotK l g m i i) : swpN d l (m - i) m i = g := by
 obtain ⟨p, u, v, s, rfl, rfl, hu, hv, hm⟩ := h.parts
 have := swpN_parts d p u [] v s (a := m - i) (b := m) (n := i) (by omega) hu hv (by simp; omega)
 simpa using this
end Go.Proofs.YtnaamjpiaekmeaaGreat
namespace Go.Proofs.YtnaamjpiaekmeaaGreat
def joinedW (g t : Words) : Words := g.flatMap fun x => t.map fun y => x ++ y
theorem joinedW_len (t : Words) : ∀ g : Words, (joinedW g t).length = g.length * t.length
 | [] => by simp [joinedW]
 | x :: g => by
   have := joinedW_len t g
   unfold joinedW at this ⊢
   rw [List.flatMap_cons, List.length_append, this, List.length_map, List.length_cons, Nat.succ_mul]
   omega
theorem joinedW_snoc (g t : Words) (x : List UInt8) : joinedW (g ++ [x]) t = joinedW g t ++ t.map fun y => x ++ y := by
 unfold joinedW
 rw [List.flatMap_append]
 simp
structure GrpW (g : Words) (n : Nat) : Prop where
 len : ∀ x ∈ g, x.length = n
 set : setW g
theorem prodW_grp {k : Int} {b g : Words} {n : Nat} (hl : ∀ x ∈ g, x.length = n) : prodW k b g = joinedW g (cutsW b (k - (n : Int))) := by
 unfold prodW joinedW
 induction g with
 | nil => rfl
 | cons x g ih =>
   rw [List.flatMap_cons, List.flatMap_cons, ih (fun y hy => hl y (by simp [hy]))]
   unfold rowsW
   rw [hl x (by simp)]
theorem lessB_app : ∀ {x y : List UInt8} (s t : List UInt8), x.length = y.length → lessB x y = true → lessB (x ++ s) (y ++ t) = true
 | [], [], _, _, _, h => by cases h
 | a :: x, b :: y, s, t, hl, h => by
   rw [List.cons_append, List.cons_append, lessB]
   rw [lessB] at h
   by_cases e : a = b
   ·rw [if_pos e] at h ⊢
    exact lessB_app s t (by simpa using hl) h
   ·rw [if_neg e] at h ⊢
    exact h
theorem lessB_same : ∀ (x : List UInt8) {s t : List UInt8}, lessB s t = true → lessB (x ++ s) (x ++ t) = true
 | [], _, _, h => h
 | a :: x, s, t, h => by
   rw [List.cons_append, List.cons_append, lessB, if_pos rfl]
   exact lessB_same x h
theorem set_joined {g t : Words} {n : Nat} (hl : ∀ x ∈ g, x.length = n) (hg : setW g) (ht : setW t) : setW (joinedW g t) := by
 unfold joinedW setW
 induction g with
 | nil => exact List.Pairwise.nil
 | cons x g ih =>
   rw [List.flatMap_cons]
   unfold setW at hg
   rw [List.pairwise_cons] at hg
   refine List.pairwise_append.2 ⟨List.pairwise_map.2 (ht.imp fun h => lessB_same x h), ih (fun y hy => hl y (by simp [hy])) hg.2, fun u hu v hv => ?_⟩
   obtain ⟨s, _, rfl⟩ := List.mem_map.1 hu
   obtain ⟨y, hy, hv⟩ := List.mem_flatMap.1 hv
   obtain ⟨q, _, rfl⟩ := List.mem_map.1 hv
   exact lessB_app s q (by rw [hl x (by simp), hl y (by simp [hy])]) (hg.1 y hy)
theorem grp_set {g : Words} {n : Nat} (hl : ∀ x ∈ g, x.length = n) (h : StbK (List.length (α := UInt8)) (fun a b => lessB a b = true) g) : setW g := by
 unfold setW
 unfold StbK at h
 induction g with
 | nil => exact List.Pairwise.nil
 | cons x g ih =>
   rw [List.pairwise_cons] at h ⊢
   exact ⟨fun y hy => h.1 y hy (by rw [hl x (by simp), hl y (by simp [hy])]), ih (fun y hy => hl y (by simp [hy])) h.2⟩
theorem stb_of_set {l : Words} (h : setW l) : StbK (List.length (α := UInt8)) (fun a b => lessB a b = true) l := by
 unfold StbK
 exact List.Pairwise.imp (S := fun x y => x.length = y.length → lessB x y = true) (fun h _ => h) h
theorem grp_le {k : Int} {a b g : Words} {n : Nat} (hh : ∀ x, x ∈ g → x ∈ cutsW a k) (hl : ∀ x ∈ g, x.length = n) (hg : setW g) : g.length * (cutsW b (k - (n : Int))).length ≤ (catW k a b).length := by
 rw [← joinedW_len]
 refine nodup_le _ _ (set_joined hl hg (set_cutsW _ _)).nodup (fun w hw => mem_prodW (hs := g) hh ?_)
 rw [prodW_grp hl]
 exact hw
theorem grp_all {k : Int} {a b hs g : Words} {n : Nat} (hh : ∀ x, x ∈ hs ↔ x ∈ cutsW a k) (hl : ∀ x ∈ g, x.length = n) (hg : setW g) (hp : prodW k b hs = prodW k b g) : joinedW g (cutsW b (k - (n : Int))) = catW k a b := by
 refine (set_joined hl hg (set_cutsW _ _)).one (set_catW k a b) (fun w => ?_)
 rw [← prodW_grp hl, ← hp, ← prod_all hh, mem_ofW]
theorem fnd_nil {ws : Words} (h : fndW 1 ws = []) : ws = [] := by
 cases ws with
 | nil => rfl
 | cons x r =>
   have : x ∈ fndW 1 (x :: r) := (mem_fndW (by decide)).2 (List.one_le_count_iff.2 (by simp))
   rw [h] at this
   simp at this
end Go.Proofs.YtnaamjpiaekmeaaGreat
namespace Go.Proofs.YtnaamjpiaekmeaaGreat
theorem fofF_set {ls : List Words} {k : Int} : ∀ (ss : List Int) (acc l : Words), setW acc → acc.length ≤ 4096 → fofF ls k ss acc = some l → setW l ∧ l.length ≤ 4096
 | [], acc, l, h, h2, e => by
   rw [fofF] at e
   have := Option.some.inj e
   subst this
   exact ⟨h, h2⟩
 | s :: ss, acc, l, h, h2, e => by
   rw [fofF] at e
   cases hs : symW ls s with
   | none => rw [hs] at e; cases e
   | some m =>
     rw [hs] at e
     simp only at e
     by_cases ho : 4096 < (catW k acc m).length
     ·rw [if_pos ho] at e; cases e
     ·rw [if_neg ho] at e
      exact fofF_set ss _ l (set_catW k acc m) (by omega) e
theorem fofG_set {ls : List Words} {k : Int} {ss : List Int} {l : Words} (h : fofG ls k ss = some l) : setW l := (fofF_set ss [[]] l (by unfold setW; simp) (by decide) h).1
theorem symW_other {ls : List Words} {n : Nat} {al : Words} {s : Int} (h : s ≠ (n : Int)) : symW (ls.set n al) s = symW ls s := by
 unfold symW
 split
 ·rfl
 ·rw [List.getElem?_set]
  have : n ≠ s.toNat := by omega
  rw [if_neg this]
theorem fofF_other {ls : List Words} {k : Int} {n : Nat} {al : Words} : ∀ (ss : List Int) (acc : Words), (n : Int) ∉ ss → fofF (ls.set n al) k ss acc = fofF ls k ss acc
 | [], _, _ => rfl
 | s :: ss, acc, h => by
   rw [fofF, fofF, symW_other (fun e => h (by rw [e]; simp))]
   cases symW ls s with
   | none => rfl
   | some m =>
     simp only
     rw [fofF_other ss _ (fun q => h (by simp [q]))]
def rIdx (rs : List RuleG) (n : Nat) : Nat → List Int
 | 0 => []
 | t + 1 => match rs[t]? with
   | some r => if r.left = (n : Int) then rIdx rs n t ++ [(t : Int)] else rIdx rs n t
   | none => rIdx rs n t
def uIdx (rs : List RuleG) (n : Nat) : Nat → List Int
 | 0 => []
 | t + 1 => match rs[t]? with
   | some r => uIdx rs n t ++ List.replicate (r.right.count (n : Int)) (t : Int)
   | none => uIdx rs n t
theorem mem_rIdx {rs : List RuleG} {n : Nat} : ∀ {t : Nat} {x : Int}, x ∈ rIdx rs n t ↔ ∃ j : Nat, x = (j : Int) ∧ j < t ∧ ∃ r, rs[j]? = some r ∧ r.left = (n : Int)
 | 0, x => by simp [rIdx]
 | t + 1, x => by
   rw [rIdx]
   cases hr : rs[t]? with
   | none =>
     simp only
     rw [mem_rIdx]
     constructor
     ·rintro ⟨j, e, h1, h2⟩; exact ⟨j, e, by omega, h2⟩
     ·rintro ⟨j, e, h1, r, h2, h3⟩
      by_cases q : j = t
      ·subst q; rw [hr] at h2; cases h2
      ·exact ⟨j, e, by omega, r, h2, h3⟩
   | some r =>
     simp only
     by_cases hl : r.left = (n : Int)
     ·rw [if_pos hl, List.mem_append, mem_rIdx, List.mem_singleton]
      constructor
      ·rintro (⟨j, e, h1, h2⟩ | rfl)
       ·exact ⟨j, e, by omega, h2⟩
       ·exact ⟨t, rfl, by omega, r, hr, hl⟩
      ·rintro ⟨j, e, h1, r', h2, h3⟩
       by_cases q : j = t
       ·exact .inr (by rw [e, q])
       ·exact .inl ⟨j, e, by omega, r', h2, h3⟩
     ·rw [if_neg hl, mem_rIdx]
      constructor
      ·rintro ⟨j, e, h1, h2⟩; exact ⟨j, e, by omega, h2⟩
      ·rintro ⟨j, e, h1, r', h2, h3⟩
       by_cases q : j = t
       ·subst q; rw [hr] at h2; cases h2; exact (hl h3).elim
       ·exact ⟨j, e, by omega, r', h2, h3⟩
theorem mem_uIdx {rs : List RuleG} {n : Nat} : ∀ {t : Nat} {x : Int}, x ∈ uIdx rs n t ↔ ∃ j : Nat, x = (j : Int) ∧ j < t ∧ ∃ r, rs[j]? = some r ∧ (n : Int) ∈ r.right
 | 0, x => by simp [uIdx]
 | t + 1, x => by
   rw [uIdx]
   cases hr : rs[t]? with
   | none =>
     simp only
     rw [mem_uIdx]
     constructor
     ·rintro ⟨j, e, h1, h2⟩; exact ⟨j, e, by omega, h2⟩
     ·rintro ⟨j, e, h1, r, h2, h3⟩
      by_cases q : j = t
      ·subst q; rw [hr] at h2; cases h2
      ·exact ⟨j, e, by omega, r, h2, h3⟩
   | some r =>
     simp only
     rw [List.mem_append, mem_uIdx, List.mem_replicate]
     constructor
     ·rintro (⟨j, e, h1, h2⟩ | ⟨h1, rfl⟩)
      ·exact ⟨j, e, by omega, h2⟩
      ·exact ⟨t, rfl, by omega, r, hr, List.count_pos_iff.1 (by omega)⟩
     ·rintro ⟨j, e, h1, r', h2, h3⟩
      by_cases q : j = t
      ·subst q
       rw [hr] at h2
       cases h2
       refine .inr ⟨?_, e⟩
       have := List.count_pos_iff.2 h3
       omega
      ·exact .inl ⟨j, e, by omega, r', h2, h3⟩
def ClR (g : GramG) (k : Int) (ls : List Words) (j : Nat) : Prop := ∃ r, g.rules[j]? = some r ∧ ∃ m, fofG ls k r.right = some m ∧ ∀ a : Nat, r.left = (a : Int) → ∀ (h : a < ls.length), ∀ u ∈ m, u ∈ ls[a]'h
structure DueOk (g : GramG) (k : Int) (ls : List Words) (D : List Bool) : Prop where
 len : D.length = g.rules.length
 ok : ∀ j : Nat, D[j]? = some false → ClR g k ls j
structure SchS (g : GramG) (k : Int) (ls : List Words) (D : List Bool) : Prop where
 sound : SoundS g k ls
 small : ∀ i (h : i < ls.length), (ls[i]'h).length ≤ 4096
 due : DueOk g k ls D
structure GivS (g : GramG) (k : Int) (ls : List Words) (n : Nat) (hn : n < ls.length) (D0 D : List Bool) (c : Nat) (p0 : Words) (ps : List Words) (wd : Nat) : Prop where
 len : D.length = D0.length
 sets : ∀ p ∈ p0 :: ps, setW p ∧ ∀ u ∈ p, firstP g k [(n : Int)] u
 own : ∀ u ∈ ls[n]'hn, u ∈ p0
 few : p0.length ≤ 4096
 words : ps.flatten.length = wd
 most : wd ≤ 4096
 done : ∀ j : Nat, D[j]? = some false → D0[j]? = some false ∨ ∃ r, g.rules[j]? = some r ∧ r.left = (n : Int) ∧ ∃ m, fofG ls k r.right = some m ∧ ∀ u ∈ m, u ∈ (p0 :: ps).flatten
 less : ∀ j : Nat, D[j]? = some true → D0[j]? = some true
 past : ∀ i (h : i < (rIdx g.rules n g.rules.length).length), i < c → ∀ j : Nat, (rIdx g.rules n g.rules.length)[i]'h = (j : Int) → D[j]? = some false
structure GivOut (g : GramG) (k : Int) (ls : List Words) (n : Nat) (hn : n < ls.length) (D0 D : List Bool) (al : Words) : Prop where
 len : D.length = D0.length
 set : setW al
 sound : ∀ u ∈ al, firstP g k [(n : Int)] u
 own : ∀ u ∈ ls[n]'hn, u ∈ al
 few : al.length ≤ 4096
 done : ∀ j : Nat, D[j]? = some false → D0[j]? = some false ∨ ∃ r, g.rules[j]? = some r ∧ r.left = (n : Int) ∧ ∃ m, fofG ls k r.right = some m ∧ ∀ u ∈ m, u ∈ al
 less : ∀ j : Nat, D[j]? = some true → D0[j]? = some true
 past : ∀ (j : Nat) (r : RuleG), g.rules[j]? = some r → r.left = (n : Int) → D[j]? = some false
section
variable {g : GramG} {k : Int} {ls : List Words} {n : Nat} {hn : n < ls.length} {D0 D : List Bool} {c : Nat} {p0 : Words} {ps : List Words} {wd : Nat}
theorem GivS.start (hS : SchS g k ls D0) : GivS g k ls n hn D0 D0 0 (ls[n]'hn) [] 0 :=
 ⟨rfl, fun p hp => by rw [List.mem_singleton.1 hp]; exact ⟨hS.sound.set _ (List.getElem_mem hn), hS.sound.sub n hn⟩, fun _ h => h, hS.small n hn, rfl, by decide, fun j h => .inl h, fun j h => h, fun i h hi => by omega⟩
theorem GivS.skip (h : GivS g k ls n hn D0 D c p0 ps wd) (hc : c < (rIdx g.rules n g.rules.length).length) {j : Nat} (hj : (rIdx g.rules n g.rules.length)[c]'hc = (j : Int)) (hd : D[j]? = some false) : GivS g k ls n hn D0 D (c + 1) p0 ps wd :=
 ⟨h.len, h.sets, h.own, h.few, h.words, h.most, h.done, h.less, fun i hi hic q hq => by
  by_cases e : i = c
  ·subst e
   rw [hj] at hq
   obtain rfl : j = q := by omega
   exact hd
  ·exact h.past i hi (by omega) q hq⟩
theorem GivS.give (h : GivS g k ls n hn D0 D c p0 ps wd) (hc : c < (rIdx g.rules n g.rules.length).length) {j : Nat} (hj : (rIdx g.rules n g.rules.length)[c]'hc = (j : Int)) (hjD : j < D.length) {r : RuleG} (hr : g.rules[j]? = some r) (hl : r.left = (n : Int)) {m : Words} (hm : fofG ls k r.right = some m) (hs : ∀ u ∈ m, firstP g k r.right u) (hw : wd + m.length ≤ 4096) :
  GivS g k ls n hn D0 (D.set j false) (c + 1) p0 (ps ++ [m]) (wd + m.length) := by
 have hfl : (p0 :: (ps ++ [m])).flatten = (p0 :: ps).flatten ++ m := by simp
 have hset : ∀ q : Nat, (D.set j false)[q]? = if j = q then some false else D[q]? := fun q => by
  by_cases e : j = q
  ·subst e
   rw [if_pos rfl]
   simp [hjD]
  ·rw [if_neg e, List.getElem?_set_ne e]
 refine ⟨by rw [List.length_set]; exact h.len, fun p hp => ?_, h.own, h.few, by simp [h.words], hw, fun q hq => ?_, fun q hq => ?_, fun i hi hic q hq => ?_⟩
 ·rcases List.mem_cons.1 hp with rfl | hp
  ·exact h.sets _ (by simp)
  ·rcases List.mem_append.1 hp with hp | hp
   ·exact h.sets p (by simp [hp])
   ·rw [List.mem_singleton.1 hp]
    exact ⟨fofG_set hm, fun u hu => rule_first (List.mem_of_getElem? hr) hl (hs u hu)⟩
 ·rw [hfl]
  rw [hset] at hq
  by_cases e : j = q
  ·subst e
   exact .inr ⟨r, hr, hl, m, hm, fun u hu => List.mem_append.2 (.inr hu)⟩
  ·rw [if_neg e] at hq
   rcases h.done q hq with h1 | ⟨r', h1, h2, m', h3, h4⟩
   ·exact .inl h1
   ·exact .inr ⟨r', h1, h2, m', h3, fun u hu => List.mem_append.2 (.inl (h4 u hu))⟩
 ·rw [hset] at hq
  by_cases e : j = q
  ·rw [if_pos e] at hq; cases hq
  ·rw [if_neg e] at hq; exact h.less q hq
 ·rw [hset]
  by_cases e : j = q
  ·rw [if_pos e]
  ·rw [if_neg e]
   by_cases e2 : i = c
   ·subst e2; rw [hj] at hq; omega
   ·exact h.past i hi (by omega) q hq
theorem GivS.all_sound (h : GivS g k ls n hn D0 D c p0 ps wd) : ∀ u ∈ (p0 :: ps).flatten, firstP g k [(n : Int)] u := fun u hu => by
 obtain ⟨p, hp, hu⟩ := List.mem_flatten.1 hu
 exact (h.sets p hp).2 u hu
theorem GivS.over (_ : GivS g k ls n hn D0 D c p0 ps wd) (hS : SchS g k ls D0) {al : Words} (hal : ∀ u ∈ al, firstP g k [(n : Int)] u) (ho : 4096 < (ofW al).length) : OverG g k :=
 .inl ⟨n, by rw [← hS.sound.len]; exact hn, over_sub (set_ofW _).nodup ho (fun u hu => hal u (mem_ofW.1 hu))⟩
theorem GivS.out (h : GivS g k ls n hn D0 D (rIdx g.rules n g.rules.length).length p0 ps wd) (hf : (ofW (p0 :: ps).flatten).length ≤ 4096) : GivOut g k ls n hn D0 D (ofW (p0 :: ps).flatten) :=
 ⟨h.len, set_ofW _, fun u hu => h.all_sound u (mem_ofW.1 hu), fun u hu => mem_ofW.2 (List.mem_flatten.2 ⟨p0, by simp, h.own u hu⟩), hf, fun j hj => by
  rcases h.done j hj with h1 | ⟨r, h1, h2, m, h3, h4⟩
  ·exact .inl h1
  ·exact .inr ⟨r, h1, h2, m, h3, fun u hu => mem_ofW.2 (h4 u hu)⟩, h.less, fun j r hr hl => by
  have hm : (j : Int) ∈ rIdx g.rules n g.rules.length := mem_rIdx.2 ⟨j, rfl, (List.getElem?_eq_some_iff.1 hr).1, r, hr, hl⟩
  obtain ⟨i, hi, e⟩ := List.getElem_of_mem hm
  exact h.past i hi hi j e⟩
theorem GivOut.same {al : Words} (h : GivOut g k ls n hn D0 D al) (hS : SchS g k ls D0) (hle : ¬ (ls[n]'hn).length < al.length) : SchS g k ls D := by
 have hsub : ∀ u ∈ al, u ∈ ls[n]'hn := fun u hu => by
  refine Classical.byContradiction fun hx => hle ?_
  have := nodup_le (u :: (ls[n]'hn)) al (List.nodup_cons.2 ⟨hx, (hS.sound.set _ (List.getElem_mem hn)).nodup⟩) (fun x hx => by
   rcases List.mem_cons.1 hx with rfl | hx
   ·exact hu
   ·exact h.own x hx)
  rw [List.length_cons] at this
  omega
 refine ⟨hS.sound, hS.small, by rw [h.len]; exact hS.due.len, fun j hj => ?_⟩
 rcases h.done j hj with h1 | ⟨r, h1, h2, m, h3, h4⟩
 ·exact hS.due.ok j h1
 ·refine ⟨r, h1, m, h3, fun a ha hal u hu => ?_⟩
  obtain rfl : a = n := by omega
  exact hsub u (h4 u hu)
theorem GivOut.grow {al : Words} (h : GivOut g k ls n hn D0 D al) (hS : SchS g k ls D0) {D2 : List Bool} (hl : D2.length = D.length) (hu : ∀ (j : Nat) (r : RuleG), g.rules[j]? = some r → (n : Int) ∈ r.right → D2[j]? = some true) (hd : ∀ j : Nat, D2[j]? = some false → D[j]? = some false) : SchS g k (ls.set n al) D2 := by
 refine ⟨⟨by rw [List.length_set]; exact hS.sound.len, fun l hl => ?_, fun i hi u hx => ?_⟩, fun i hi => ?_, by rw [hl, h.len]; exact hS.due.len, fun j hj => ?_⟩
 ·rcases List.mem_or_eq_of_mem_set hl with hl | rfl
  ·exact hS.sound.set l hl
  ·exact h.set
 ·rw [List.getElem_set] at hx
  by_cases e : n = i
  ·subst e; rw [if_pos rfl] at hx; exact h.sound u hx
  ·rw [if_neg e] at hx; exact hS.sound.sub i (by rw [List.length_set] at hi; exact hi) u hx
 ·rw [List.getElem_set]
  split
  ·exact h.few
  ·exact hS.small i (by rw [List.length_set] at hi; exact hi)
 ·have hjD := hd j hj
  have hnot : ∀ r, g.rules[j]? = some r → (n : Int) ∉ r.right := fun r hr hm => by
   have := hu j r hr hm
   rw [hj] at this
   cases this
  have key : ∀ r m, g.rules[j]? = some r → fofG ls k r.right = some m → fofG (ls.set n al) k r.right = some m := fun r m hr hm => by
   rw [← hm]
   exact fofF_other _ _ (hnot r hr)
  rcases h.done j hjD with h1 | ⟨r, h1, h2, m, h3, h4⟩
  ·obtain ⟨r, hr, m, hm, h5⟩ := hS.due.ok j h1
   refine ⟨r, hr, m, key r m hr hm, fun a ha hal u hu => ?_⟩
   rw [List.getElem_set]
   have hal' : a < ls.length := by rw [List.length_set] at hal; exact hal
   by_cases e : n = a
   ·subst e; rw [if_pos rfl]; exact h.own u (h5 _ ha hal' u hu)
   ·rw [if_neg e]; exact h5 a ha hal' u hu
  ·refine ⟨r, h1, m, key r m h1 h3, fun a ha hal u hum => ?_⟩
   obtain rfl : n = a := by omega
   rw [List.getElem_set, if_pos rfl]
   exact h4 u hum
end
def RndK (g : GramG) (ls0 ls : List Words) (D : List Bool) (i : Nat) : Prop := (ls0.map List.length).sum < (ls.map List.length).sum ∨ (ls = ls0 ∧ ∀ (j : Nat) (r : RuleG), g.rules[j]? = some r → (i : Int) ≤ r.left → D[j]? = some false)
theorem RndK.start {g : GramG} {ls : List Words} {D : List Bool} {N : Nat} (h : ∀ r ∈ g.rules, r.left < (N : Int)) : RndK g ls ls D N := .inr ⟨rfl, fun j r hr hl => by have := h r (List.mem_of_getElem? hr); omega⟩
theorem RndK.same {g : GramG} {k : Int} {ls0 ls : List Words} {D0 D : List Bool} {n : Nat} {hn : n < ls.length} {al : Words} (h : RndK g ls0 ls D0 (n + 1)) (ho : GivOut g k ls n hn D0 D al) (hS : DueOk g k ls D0) : RndK g ls0 ls D n := by
 rcases h with h | ⟨e, h⟩
 ·exact .inl h
 ·refine .inr ⟨e, fun j r hr hl => ?_⟩
  by_cases q : r.left = (n : Int)
  ·exact ho.past j r hr q
  ·have h1 := h j r hr (by omega)
   cases hD : D[j]? with
   | none =>
     have : j < D.length := by rw [ho.len, hS.len]; exact (List.getElem?_eq_some_iff.1 hr).1
     rw [List.getElem?_eq_getElem this] at hD
     cases hD
   | some b =>
     cases b with
     | false => rfl
     | true => have := ho.less j hD; rw [h1] at this; cases this
theorem RndK.grow {g : GramG} {ls0 ls : List Words} {D0 D : List Bool} {n : Nat} (hn : n < ls.length) {al : Words} {i : Nat} (h : RndK g ls0 ls D0 i) (hg : (ls[n]'hn).length < al.length) (m : Nat) : RndK g ls0 (ls.set n al) D m := by
 left
 have h1 := sum_set ls n hn al
 rcases h with h | ⟨e, -⟩
 ·omega
 ·subst e; omega
theorem SchS.exact {g : GramG} {k : Int} {ls : List Words} {D : List Bool} (hk : 1 ≤ k) (hv : ValidG g) (h : SchS g k ls D) (hd : true ∉ D) : FirstSets g k ls ∧ ¬ OverG g k := by
 refine UsedS.exact hk hv h.sound (fun j hj _ => ?_) h.small
 have hjD : j < D.length := by rw [h.due.len]; exact hj
 have hf : D[j]? = some false := by
  rw [List.getElem?_eq_getElem hjD]
  cases hb : D[j]'hjD with
  | false => rfl
  | true => exact (hd (by rw [← hb]; exact List.getElem_mem hjD)).elim
 obtain ⟨r, hr, m, hm, h5⟩ := h.due.ok j hf
 rw [List.getElem?_eq_getElem hj] at hr
 obtain rfl := Option.some.inj hr
 exact ⟨m, hm, h5⟩
theorem SchS.start (g : GramG) (k : Int) : SchS g k (List.replicate g.names.length []) (List.replicate g.rules.length true) :=
 ⟨sound_nil g k, fun i h => by rw [List.getElem_replicate]; show 0 ≤ 4096; omega, by simp, fun j hj => by
  rw [List.getElem?_replicate] at hj
  split at hj <;> cases hj⟩
theorem RndK.news {g : GramG} {ls0 ls : List Words} {D : List Bool} (h : RndK g ls0 ls D 0) (hl : D.length = g.rules.length) (hv : ∀ r ∈ g.rules, 0 ≤ r.left) (hd : true ∈ D) : (ls0.map List.length).sum < (ls.map List.length).sum := by
 rcases h with h | ⟨-, h⟩
 ·exact h
 ·obtain ⟨j, hj, e⟩ := List.getElem_of_mem hd
  have hjr : j < g.rules.length := by rw [← hl]; exact hj
  have h1 := h j _ (List.getElem?_eq_getElem hjr) (hv _ (List.getElem_mem hjr))
  rw [List.getElem?_eq_getElem hj, e] at h1
  cases h1
end Go.Proofs.YtnaamjpiaekmeaaGreat
namespace Go.Proofs.YtnaamjpiaekmeaaGreat
open Go.RowKit
def nameW : Words → List UInt8
 | [] => []
 | x :: r => UInt8.ofNat x.length :: (x ++ nameW r)
theorem nameW_app : ∀ (a b : Words), nameW (a ++ b) = nameW a ++ nameW b
 | [], _ => rfl
 | x :: r, b => by simp [nameW, nameW_app r b]
theorem nameW_one (x : List UInt8) : nameW [x] = UInt8.ofNat x.length :: x := by simp [nameW]
theorem nameW_inj : ∀ (a b : Words), (∀ x ∈ a, x.length ≤ 255) → (∀ x ∈ b, x.length ≤ 255) → nameW a = nameW b → a = b
 | [], [], _, _, _ => rfl
 | [], y :: s, _, _, h => by simp [nameW] at h
 | x :: r, [], _, _, h => by simp [nameW] at h
 | x :: r, y :: s, h1, h2, h => by
   simp only [nameW, List.cons.injEq] at h
   obtain ⟨hl, h⟩ := h
   have hx := h1 x (by simp)
   have hy := h2 y (by simp)
   have hlen : x.length = y.length := by
    have := congrArg UInt8.toNat hl
    simp only [UInt8.toNat_ofNat'] at this
    omega
   obtain ⟨h3, h4⟩ := List.append_inj h hlen
   rw [h3, nameW_inj r s (fun z hz => h1 z (by simp [hz])) (fun z hz => h2 z (by simp [hz])) h4]
theorem nameW_len : ∀ (a : Words) (c : Nat), (∀ x ∈ a, x.length ≤ c) → (nameW a).length ≤ a.length * (c + 1)
 | [], _, _ => by simp [nameW]
 | x :: r, c, h => by
   have h1 := nameW_len r c (fun z hz => h z (by simp [hz]))
   have h2 := h x (by simp)
   simp only [nameW, List.length_cons, List.length_append, Nat.add_mul, Nat.one_mul]
   omega
def fullW (k : Int) (l : Words) : Bool := !l.any (fun x => !((x.length : Int) == k))
theorem fullW_all {k : Int} {l : Words} (h : fullW k l = true) : ∀ x ∈ l, (x.length : Int) = k := by
 intro x hx
 unfold fullW at h
 simp only [Bool.not_eq_true', List.any_eq_false] at h
 have := h x hx
 simpa using this
structure GoodW (k : Int) (l : Words) : Prop where
 set : setW l
 few : l.length ≤ 4096
 short : ∀ x ∈ l, (x.length : Int) ≤ k
theorem GoodW.sh {k : Int} {l : Words} (h : GoodW k l) (hk : k ≤ 4) : ShortW l := ⟨by have := h.few; omega, fun x hx => by have := h.short x hx; omega⟩
theorem GoodW.nil (k : Int) : GoodW k [] := ⟨set_nil, by simp, fun _ h => by cases h⟩
theorem GoodW.empty {k : Int} (hk : 0 ≤ k) : GoodW k [[]] := ⟨by unfold setW; simp, by simp, fun x hx => by rw [List.mem_singleton.1 hx]; simpa using hk⟩
theorem GoodW.one {k : Int} (hk : 1 ≤ k) (x : List UInt8) (hx : x.length = 1) : GoodW k [x] := ⟨by unfold setW; simp, by simp, fun y hy => by rw [List.mem_singleton.1 hy, hx]; simpa using hk⟩
theorem set_eq {a b : Words} (ha : setW a) (hb : setW b) (h : ∀ x ∈ a, x ∈ b) (hl : ¬ a.length < b.length) : a = b :=
 ha.one hb (fun x => ⟨h x, fun hx => Classical.byContradiction fun hn => by
  have := nodup_le (x :: a) b (List.nodup_cons.2 ⟨hn, ha.nodup⟩) (fun y hy => by
   rcases List.mem_cons.1 hy with rfl | hy
   ·exact hx
   ·exact h y hy)
  rw [List.length_cons] at this
  omega⟩)
end Go.Proofs.YtnaamjpiaekmeaaGreat
namespace Go.Proofs.YtnaamjpiaekmeaaGreat
structure GivU (g : GramG) (k : Int) (ls : List Words) (n : Nat) (hn : n < ls.length) (D0 D : List Bool) (c : Nat) (K : Words) : Prop where
 len : D.length = D0.length
 sound : ∀ u ∈ K, firstP g k [(n : Int)] u
 own : ∀ u ∈ ls[n]'hn, u ∈ K
 few : (ofW K).length ≤ 4096
 done : ∀ j : Nat, D[j]? = some false → D0[j]? = some false ∨ ∃ r, g.rules[j]? = some r ∧ r.left = (n : Int) ∧ ∃ m, fofG ls k r.right = some m ∧ ∀ u ∈ m, u ∈ K
 less : ∀ j : Nat, D[j]? = some true → D0[j]? = some true
 past : ∀ i (h : i < (rIdx g.rules n g.rules.length).length), i < c → ∀ j : Nat, (rIdx g.rules n g.rules.length)[i]'h = (j : Int) → D[j]? = some false
section
variable {g : GramG} {k : Int} {ls : List Words} {n : Nat} {hn : n < ls.length} {D0 D : List Bool} {c : Nat} {K : Words}
theorem GivU.start (hS : SchS g k ls D0) (hK : ofW K = ls[n]'hn) : GivU g k ls n hn D0 D0 0 K :=
 ⟨rfl, fun u hu => hS.sound.sub n hn u (by rw [← hK, mem_ofW]; exact hu), fun u hu => by rw [← hK, mem_ofW] at hu; exact hu, by rw [hK]; exact hS.small n hn, fun j h => .inl h, fun j h => h, fun i h hi => by omega⟩
theorem GivU.skip (h : GivU g k ls n hn D0 D c K) (hc : c < (rIdx g.rules n g.rules.length).length) {j : Nat} (hj : (rIdx g.rules n g.rules.length)[c]'hc = (j : Int)) (hd : D[j]? = some false) : GivU g k ls n hn D0 D (c + 1) K :=
 ⟨h.len, h.sound, h.own, h.few, h.done, h.less, fun i hi hic q hq => by
  by_cases e : i = c
  ·subst e
   rw [hj] at hq
   obtain rfl : j = q := by omega
   exact hd
  ·exact h.past i hi (by omega) q hq⟩
theorem GivU.give (h : GivU g k ls n hn D0 D c K) (hc : c < (rIdx g.rules n g.rules.length).length) {j : Nat} (hj : (rIdx g.rules n g.rules.length)[c]'hc = (j : Int)) (hjD : j < D.length) {r : RuleG} (hr : g.rules[j]? = some r) (hl : r.left = (n : Int)) {m : Words} (hm : fofG ls k r.right = some m) (hs : ∀ u ∈ m, firstP g k r.right u) {K' : Words} (hK : ∀ u, u ∈ K' ↔ u ∈ K ∨ u ∈ m) (hw : (ofW K').length ≤ 4096) :
  GivU g k ls n hn D0 (D.set j false) (c + 1) K' := by
 have hset : ∀ q : Nat, (D.set j false)[q]? = if j = q then some false else D[q]? := fun q => by
  by_cases e : j = q
  ·subst e
   rw [if_pos rfl]
   simp [hjD]
  ·rw [if_neg e, List.getElem?_set_ne e]
 refine ⟨by rw [List.length_set]; exact h.len, fun u hu => ?_, fun u hu => (hK u).2 (.inl (h.own u hu)), hw, fun q hq => ?_, fun q hq => ?_, fun i hi hic q hq => ?_⟩
 ·rcases (hK u).1 hu with hu | hu
  ·exact h.sound u hu
  ·exact rule_first (List.mem_of_getElem? hr) hl (hs u hu)
 ·rw [hset] at hq
  by_cases e : j = q
  ·subst e
   exact .inr ⟨r, hr, hl, m, hm, fun u hu => (hK u).2 (.inr hu)⟩
  ·rw [if_neg e] at hq
   rcases h.done q hq with h1 | ⟨r', h1, h2, m', h3, h4⟩
   ·exact .inl h1
   ·exact .inr ⟨r', h1, h2, m', h3, fun u hu => (hK u).2 (.inl (h4 u hu))⟩
 ·rw [hset] at hq
  by_cases e : j = q
  ·rw [if_pos e] at hq; cases hq
  ·rw [if_neg e] at hq; exact h.less q hq
 ·rw [hset]
  by_cases e : j = q
  ·rw [if_pos e]
  ·rw [if_neg e]
   by_cases e2 : i = c
   ·subst e2; rw [hj] at hq; omega
   ·exact h.past i hi (by omega) q hq
theorem GivU.over (h : GivU g k ls n hn D0 D c K) (hS : SchS g k ls D0) {r : RuleG} {j : Nat} (hr : g.rules[j]? = some r) (hl : r.left = (n : Int)) {m : Words} (hs : ∀ u ∈ m, firstP g k r.right u) {K' : Words} (hK : ∀ u, u ∈ K' ↔ u ∈ K ∨ u ∈ m) (ho : 4096 < (ofW K').length) : OverG g k :=
 .inl ⟨n, by rw [← hS.sound.len]; exact hn, over_sub (set_ofW _).nodup ho (fun u hu => by
  rw [mem_ofW] at hu
  rcases (hK u).1 hu with hu | hu
  ·exact h.sound u hu
  ·exact rule_first (List.mem_of_getElem? hr) hl (hs u hu))⟩
theorem GivU.out (h : GivU g k ls n hn D0 D (rIdx g.rules n g.rules.length).length K) : GivOut g k ls n hn D0 D (ofW K) :=
 ⟨h.len, set_ofW _, fun u hu => h.sound u (mem_ofW.1 hu), fun u hu => mem_ofW.2 (h.own u hu), h.few, fun j hj => by
  rcases h.done j hj with h1 | ⟨r, h1, h2, m, h3, h4⟩
  ·exact .inl h1
  ·exact .inr ⟨r, h1, h2, m, h3, fun u hu => mem_ofW.2 (h4 u hu)⟩, h.less, fun j r hr hl => by
  have hm : (j : Int) ∈ rIdx g.rules n g.rules.length := mem_rIdx.2 ⟨j, rfl, (List.getElem?_eq_some_iff.1 hr).1, r, hr, hl⟩
  obtain ⟨i, hi, e⟩ := List.getElem_of_mem hm
  exact h.past i hi hi j e⟩
end
def RestU (Ks ls : List Words) : Prop := Ks.length = ls.length ∧ ∀ i (h : i < Ks.length) (h' : i < ls.length), ofW (Ks[i]'h) = ls[i]'h'
theorem RestU.set {Ks ls : List Words} (h : RestU Ks ls) (n : Nat) (K : Words) : RestU (Ks.set n K) (ls.set n (ofW K)) := by
 refine ⟨by rw [List.length_set, List.length_set]; exact h.1, fun i h1 h2 => ?_⟩
 rw [List.getElem_set, List.getElem_set]
 by_cases e : n = i
 ·rw [if_pos e, if_pos e]
 ·rw [if_neg e, if_neg e]; exact h.2 i _ _
theorem RestU.same {Ks ls : List Words} (h : RestU Ks ls) {n : Nat} (hn : n < ls.length) {K : Words} (hK : ofW K = ls[n]'hn) : RestU (Ks.set n K) ls := by
 have h2 := h.set n K
 rw [hK, List.set_getElem_self] at h2
 exact h2
end Go.Proofs.YtnaamjpiaekmeaaGreat
