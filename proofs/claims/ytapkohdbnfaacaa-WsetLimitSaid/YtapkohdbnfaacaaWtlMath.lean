/- Counting words, cutting sets, products head by head (layer 19): plain mathematics. Nothing here names the program. -/
import Derived.Test.YtapkohdbnfaacaaWstMath
import Derived.Lib.SlicesCompact
set_option linter.unusedVariables false
set_option linter.unusedSimpArgs false
namespace Go.Proofs.Ytapkohdbnfaacaa
open Go.Lib Go.Sort

/-- Of words, the last first: those that occur at least t times, in the order in which they got there. -/
def fndR (t : Nat) : Words → Words
  | [] => []
  | x :: r => if r.count x + 1 = t then fndR t r ++ [x] else fndR t r
def fndW (t : Nat) (ws : Words) : Words := fndR t ws.reverse
theorem count_rev (ws : Words) (x : List UInt8) : ws.reverse.count x = ws.count x := (List.reverse_perm ws).count_eq x
theorem fndW_nil (t : Nat) : fndW t [] = [] := rfl
theorem fndW_yes {t : Nat} {ws : Words} {x : List UInt8} (h : ws.count x + 1 = t) : fndW t (ws ++ [x]) = fndW t ws ++ [x] := by
  unfold fndW
  rw [List.reverse_append]
  show fndR t (x :: ws.reverse) = _
  rw [fndR, count_rev, if_pos h]
theorem fndW_no {t : Nat} {ws : Words} {x : List UInt8} (h : ¬ ws.count x + 1 = t) : fndW t (ws ++ [x]) = fndW t ws := by
  unfold fndW
  rw [List.reverse_append]
  show fndR t (x :: ws.reverse) = _
  rw [fndR, count_rev, if_neg h]
theorem fndR_spec (t : Nat) (ht : 0 < t) : ∀ r : Words, (fndR t r).Nodup ∧ (∀ x, x ∈ fndR t r ↔ t ≤ r.count x) ∧ (fndR t r).length ≤ r.length
  | [] => ⟨List.nodup_nil, fun x => by simp [fndR]; omega, by simp [fndR]⟩
  | y :: r => by
    obtain ⟨h1, h2, h3⟩ := fndR_spec t ht r
    rw [fndR]
    by_cases c : r.count y + 1 = t
    · rw [if_pos c]
      have hy : y ∉ fndR t r := fun q => by have := (h2 y).1 q; omega
      refine ⟨?_, fun x => ?_, by simp; omega⟩
      · rw [List.nodup_append]
        exact ⟨h1, by simp, fun a ha b hb => by rw [List.mem_singleton.1 hb]; exact fun e => hy (e ▸ ha)⟩
      · rw [List.mem_append, List.mem_singleton, h2 x]
        by_cases e : x = y
        · subst e; rw [List.count_cons_self]; exact ⟨fun _ => by omega, fun _ => .inr rfl⟩
        · rw [List.count_cons_of_ne (fun q => e q.symm)]; exact ⟨fun q => q.elim id (fun q => (e q).elim), .inl⟩
    · rw [if_neg c]
      refine ⟨h1, fun x => ?_, by simp; omega⟩
      rw [h2 x]
      by_cases e : x = y
      · subst e; rw [List.count_cons_self]; omega
      · rw [List.count_cons_of_ne (fun q => e q.symm)]
theorem fndW_nodup {t : Nat} (ht : 0 < t) (ws : Words) : (fndW t ws).Nodup := (fndR_spec t ht ws.reverse).1
theorem mem_fndW {t : Nat} (ht : 0 < t) {ws : Words} {x : List UInt8} : x ∈ fndW t ws ↔ t ≤ ws.count x := by
  unfold fndW
  rw [(fndR_spec t ht ws.reverse).2.1 x, count_rev]
theorem fndW_len {t : Nat} (ht : 0 < t) (ws : Words) : (fndW t ws).length ≤ ws.length := by
  have := (fndR_spec t ht ws.reverse).2.2
  rwa [List.length_reverse] at this
theorem lessB_le : ∀ a b : List UInt8, a ≤ b → a ≠ b → lessB a b = true
  | [], [], _, h => (h rfl).elim
  | [], _ :: _, _, _ => rfl
  | _ :: _, [], h, _ => by simp at h
  | a :: x, b :: y, h, hne => by
    rw [lessB]
    by_cases e : a = b
    · subst e
      rw [if_pos rfl]
      exact lessB_le x y ((List.cons_le_cons_iff.1 h).resolve_left (fun q => absurd q (by simp [UInt8.lt_irrefl]))).2 (fun q => hne (by rw [q]))
    · rw [if_neg e]
      have h1 := List.cons_le_cons_iff.1 h
      rcases h1 with h1 | ⟨h1, _⟩
      · exact decide_eq_true (by simpa [UInt8.lt_iff_toNat_lt] using h1)
      · exact (e h1).elim
def sortW (ss : Words) : Words := ss.mergeSort fun x y => decide (x ≤ y)
theorem set_sortW {ss : Words} (h : ss.Nodup) : setW (sortW ss) := by
  have tr : ∀ a b c : List UInt8, decide (a ≤ b) = true → decide (b ≤ c) = true → decide (a ≤ c) = true := fun a b c h1 h2 => by simp only [decide_eq_true_eq] at *; exact List.le_trans h1 h2
  have to : ∀ a b : List UInt8, (decide (a ≤ b) || decide (b ≤ a)) = true := fun a b => by simp only [Bool.or_eq_true, decide_eq_true_eq]; exact List.le_total a b
  have hp := List.pairwise_mergeSort tr to ss
  have hnd : (sortW ss).Nodup := (List.mergeSort_perm ss (fun x y => decide (x ≤ y))).nodup_iff.2 h
  exact (hp.and hnd).imp (fun {a b} h => lessB_le a b (by simpa using h.1) h.2)
theorem mem_sortW {ss : Words} {x : List UInt8} : x ∈ sortW ss ↔ x ∈ ss := (List.mergeSort_perm ss (fun x y => decide (x ≤ y))).mem_iff
theorem sortW_len (ss : Words) : (sortW ss).length = ss.length := by unfold sortW; simp
theorem fnd_one (ws : Words) : sortW (fndW 1 ws) = ofW ws :=
  (set_sortW (fndW_nodup (by decide) ws)).one (set_ofW ws) (fun x => by
    rw [mem_sortW, mem_fndW (by decide), mem_ofW]
    exact List.one_le_count_iff)
theorem fnd_two {a b : Words} (ha : setW a) (hb : setW b) : sortW (fndW 2 (a ++ b)) = a.filter fun x => decide (x ∈ b) :=
  (set_sortW (fndW_nodup (by decide) _)).one (ha.sublist List.filter_sublist) (fun x => by
    rw [mem_sortW, mem_fndW (by decide), List.mem_filter, List.count_append]
    have h1 : a.count x ≤ 1 := List.nodup_iff_count.1 ha.nodup x
    have h2 : b.count x ≤ 1 := List.nodup_iff_count.1 hb.nodup x
    have h3 : x ∈ a ↔ 1 ≤ a.count x := List.one_le_count_iff.symm
    have h4 : x ∈ b ↔ 1 ≤ b.count x := List.one_le_count_iff.symm
    rw [h3, decide_eq_true_eq, h4]
    omega)

/-- In order, not strictly. -/
def riseW (l : Words) : Prop := l.Pairwise fun a b => lessB b a = false
theorem lessB_pre : ∀ (a b : List UInt8) (n : Nat), lessB a b = true → lessB (b.take n) (a.take n) = false
  | [], [], _, h => by cases h
  | [], _ :: _, n, _ => by rw [List.take_nil]; cases h : List.take n _ <;> rfl
  | _ :: _, [], _, h => by cases h
  | a :: x, b :: y, 0, _ => rfl
  | a :: x, b :: y, n + 1, h => by
    rw [List.take_succ_cons, List.take_succ_cons, lessB]
    rw [lessB] at h
    by_cases e : a = b
    · subst e
      rw [if_pos rfl] at h ⊢
      exact lessB_pre x y n h
    · rw [if_neg e] at h
      rw [if_neg (fun q => e q.symm)]
      simp only [decide_eq_true_eq, decide_eq_false_iff_not] at h ⊢
      omega
theorem rise_cut {l : Words} (h : setW l) (k : Int) : riseW (l.map fun x => cutW x k) :=
  List.pairwise_map.2 (h.imp fun {a b} q => lessB_pre a b k.toNat q)
theorem riseW.get {l : Words} (h : riseW l) {i j : Nat} (hij : i < j) (hj : j < l.length) : lessB (l[j]'hj) (l[i]'(Nat.lt_trans hij hj)) = false :=
  List.pairwise_iff_getElem.1 h i j _ hj hij
theorem compactUpTo_get (d : Array (List UInt8)) (m : Nat) (hm : m ≤ d.size) (h : riseW d.toList) : setW (compactUpTo d m) ∧ (∀ x, x ∈ compactUpTo d m ↔ ∃ j, j < m ∧ d[j]! = x) := by
  induction m with
  | zero => exact ⟨List.Pairwise.nil, fun x => by simp [compactUpTo]⟩
  | succ m ih =>
    obtain ⟨h1, h2⟩ := ih (by omega)
    rw [compactUpTo_succ]
    cases hk : keeps d m with
    | false =>
      rw [if_neg (by simp), List.append_nil]
      refine ⟨h1, fun x => ?_⟩
      rw [h2 x]
      have hm : 0 < m ∧ d[m]! = d[m - 1]! := by
        unfold keeps at hk
        simp only [decide_eq_false_iff_not, not_or, ne_eq, Decidable.not_not] at hk
        exact ⟨by omega, hk.2⟩
      constructor
      · rintro ⟨j, hj, e⟩; exact ⟨j, by omega, e⟩
      · rintro ⟨j, hj, e⟩
        by_cases hjm : j = m
        · subst hjm; exact ⟨j - 1, by omega, by rw [← hm.2]; exact e⟩
        · exact ⟨j, by omega, e⟩
    | true =>
      rw [if_pos rfl]
      have hmd : m < d.size := by omega
      refine ⟨?_, fun x => ?_⟩
      · unfold setW
        rw [List.pairwise_append]
        refine ⟨h1, by simp, fun a ha b hb => ?_⟩
        rw [List.mem_singleton.1 hb]
        obtain ⟨j, hj, rfl⟩ := (h2 a).1 ha
        have hj' : j < d.size := by omega
        have hne : d[m]! ≠ d[m - 1]! := by
          unfold keeps at hk
          rw [decide_eq_true_eq] at hk
          exact hk.resolve_left (by omega)
        have g : ∀ i, i < m → lessB d[m]! d[i]! = false := fun i hi => by
          have := h.get hi (by simpa using hmd)
          rw [getElem!_pos d m hmd, getElem!_pos d i (by omega)]
          simpa using this
        have gp : lessB d[m - 1]! d[m]! = true := lessB_total _ _ hne (g (m - 1) (by omega))
        by_cases hjm : j = m - 1
        · subst hjm; exact gp
        · have gj : lessB d[m - 1]! d[j]! = false := by
            have := h.get (show j < m - 1 by omega) (by simpa using (show m - 1 < d.size by omega))
            rw [getElem!_pos d (m - 1) (by omega), getElem!_pos d j (by omega)]
            simpa using this
          by_cases e : d[j]! = d[m - 1]!
          · rw [e]; exact gp
          · exact lessB_trans _ _ _ (lessB_total _ _ (fun q => e q.symm) gj) gp
      · rw [List.mem_append, List.mem_singleton, h2 x]
        constructor
        · rintro (⟨j, hj, e⟩ | e)
          · exact ⟨j, by omega, e⟩
          · exact ⟨m, by omega, e.symm⟩
        · rintro ⟨j, hj, e⟩
          by_cases hjm : j = m
          · subst hjm; exact .inr e.symm
          · exact .inl ⟨j, by omega, e⟩
def cutsW (l : Words) (k : Int) : Words := ofW (l.map fun x => cutW x k)
theorem compact_cut {l : Words} (h : setW l) (k : Int) : compact (l.map fun x => cutW x k) = cutsW l k := by
  obtain ⟨m, hm⟩ : ∃ m, m = l.map fun x => cutW x k := ⟨_, rfl⟩
  have hr := rise_cut h k
  unfold cutsW
  rw [← hm] at hr ⊢
  obtain ⟨h1, h2⟩ := compactUpTo_get m.toArray m.length (by simp) (by simpa using hr)
  refine setW.one h1 (set_ofW _) (fun x => ?_)
  rw [show compact m = compactUpTo m.toArray m.length from rfl] at *
  rw [h2 x, mem_ofW]
  constructor
  · rintro ⟨j, hj, rfl⟩
    rw [getElem!_pos m.toArray j (by simpa using hj)]
    simp
  · intro hx
    obtain ⟨j, hj, rfl⟩ := List.getElem_of_mem hx
    exact ⟨j, hj, by rw [getElem!_pos m.toArray j (by simpa using hj)]; simp⟩
theorem set_cutsW (l : Words) (k : Int) : setW (cutsW l k) := set_ofW _
theorem mem_cutsW {l : Words} {k : Int} {x : List UInt8} : x ∈ cutsW l k ↔ ∃ y ∈ l, x = cutW y k := by
  unfold cutsW
  rw [mem_ofW, List.mem_map]
  exact ⟨fun ⟨y, h, e⟩ => ⟨y, h, e.symm⟩, fun ⟨y, h, e⟩ => ⟨y, h, e.symm⟩⟩
theorem cutsW_len (l : Words) (k : Int) : (cutsW l k).length ≤ l.length := by
  have := ofW_len (l.map fun x => cutW x k)
  rwa [List.length_map] at this
theorem cut_cut {y : List UInt8} {k m : Int} (h : m ≤ k) : cutW (cutW y k) m = cutW y m := by
  unfold cutW
  rw [List.take_take]
  congr 1
  omega
theorem cuts_cuts {l : Words} {k m : Int} (h : m ≤ k) : cutsW (cutsW l k) m = cutsW l m :=
  (set_cutsW _ _).one (set_cutsW _ _) (fun x => by
    rw [mem_cutsW, mem_cutsW]
    constructor
    · rintro ⟨y, hy, rfl⟩
      obtain ⟨z, hz, rfl⟩ := mem_cutsW.1 hy
      exact ⟨z, hz, cut_cut h⟩
    · rintro ⟨z, hz, rfl⟩
      exact ⟨cutW z k, mem_cutsW.2 ⟨z, hz, rfl⟩, (cut_cut h).symm⟩)
/-- A head as it was cut, and a tail cut to what remains. -/
theorem cut_cat (x y : List UInt8) (k : Int) : cutW x k ++ cutW y (k - ((cutW x k).length : Int)) = cutW (x ++ y) k := by
  unfold cutW
  rw [List.take_append, List.length_take]
  congr 2
  omega
def rowsW (k : Int) (b : Words) (x : List UInt8) : Words := (cutsW b (k - (x.length : Int))).map fun y => x ++ y
def prodW (k : Int) (b hs : Words) : Words := hs.flatMap (rowsW k b)
theorem prodW_snoc (k : Int) (b hs : Words) (x : List UInt8) : prodW k b (hs ++ [x]) = prodW k b hs ++ rowsW k b x := by
  unfold prodW
  rw [List.flatMap_append]
  simp
theorem mem_prodW {k : Int} {a b hs : Words} (hh : ∀ x, x ∈ hs → x ∈ cutsW a k) {w : List UInt8} (h : w ∈ prodW k b hs) : w ∈ catW k a b := by
  unfold prodW at h
  obtain ⟨x, hx, hw⟩ := List.mem_flatMap.1 h
  obtain ⟨u, hu, rfl⟩ := mem_cutsW.1 (hh x hx)
  unfold rowsW at hw
  obtain ⟨y, hy, rfl⟩ := List.mem_map.1 hw
  obtain ⟨z, hz, rfl⟩ := mem_cutsW.1 hy
  exact mem_catW.2 ⟨u, hu, z, hz, cut_cat u z k⟩
theorem prod_all {k : Int} {a b hs : Words} (hh : ∀ x, x ∈ hs ↔ x ∈ cutsW a k) : ofW (prodW k b hs) = catW k a b :=
  (set_ofW _).one (set_catW k a b) (fun w => by
    rw [mem_ofW]
    refine ⟨mem_prodW (fun x hx => (hh x).1 hx), fun h => ?_⟩
    obtain ⟨x, hx, y, hy, rfl⟩ := mem_catW.1 h
    unfold prodW rowsW
    refine List.mem_flatMap.2 ⟨cutW x k, (hh _).2 (mem_cutsW.2 ⟨x, hx, rfl⟩), List.mem_map.2 ⟨_, mem_cutsW.2 ⟨y, hy, rfl⟩, cut_cat x y k⟩⟩)
/-- What was found of the product is not more than the product. -/
theorem found_le {k : Int} {a b hs : Words} (hh : ∀ x, x ∈ hs → x ∈ cutsW a k) : (fndW 1 (prodW k b hs)).length ≤ (catW k a b).length :=
  nodup_le _ _ (fndW_nodup (by decide) _) (fun w hw => mem_prodW hh (List.one_le_count_iff.1 ((mem_fndW (by decide)).1 hw)))
/-- One row of the product is not longer than the product. -/
theorem row_le {k : Int} {a b : Words} {x : List UInt8} (hx : x ∈ cutsW a k) : (cutsW b (k - (x.length : Int))).length ≤ (catW k a b).length := by
  have h1 : (rowsW k b x).length = (cutsW b (k - (x.length : Int))).length := by unfold rowsW; rw [List.length_map]
  rw [← h1]
  refine nodup_le _ _ ?_ (fun w hw => mem_prodW (hs := [x]) (fun y hy => by rw [List.mem_singleton.1 hy]; exact hx) (by unfold prodW; simpa using hw))
  unfold rowsW
  have h2 := (set_cutsW b (k - (x.length : Int))).nodup
  unfold List.Nodup at h2 ⊢
  rw [List.pairwise_map]
  exact h2.imp (fun hn e => hn (List.append_cancel_left e))
theorem found_all {k : Int} {a b hs : Words} (hh : ∀ x, x ∈ hs ↔ x ∈ cutsW a k) : (fndW 1 (prodW k b hs)).length = (catW k a b).length := by
  rw [← prod_all hh, ← fnd_one, sortW_len]
end Go.Proofs.Ytapkohdbnfaacaa
