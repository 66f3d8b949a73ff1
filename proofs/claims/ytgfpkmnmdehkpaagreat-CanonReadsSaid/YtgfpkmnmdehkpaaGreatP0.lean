/- Several texts in one: PrsM, PrsA, PrsB. -/
import Derived.BigQuiet
import Derived.Maps.AppendAt
import Derived.Test.YtgfpkmnmdehkpaaGreatPs
import Derived.Test.YtgfpkmnmdehkpaaGreatBs
set_option linter.unusedVariables false
set_option linter.unusedSimpArgs false
/-! The program's parser (layer 13), mathematics: what the rest of the tokens gives in each of its states. -/
namespace Go.Proofs.YtgfpkmnmdehkpaaGreat
open Go.RowKit

def contC (n : List UInt8) (r : List Tk) : LinesD := if (nameD n r).ok then linesB [(nameD n r).line] (linesD (nameD n r).left) else ⟨false, [], (nameD n r).left.length⟩
def contB (n : List UInt8) (done : List (List ItemD)) (cur : List ItemD) (r : List Tk) : LinesD := if (bodyD r cur done).ok then linesB [⟨n, (bodyD r cur done).alts⟩] (linesD (bodyD r cur done).left) else ⟨false, [], (bodyD r cur done).left.length⟩
theorem linesB_two (acc : List LineD) (x : LineD) (Y : LinesD) : linesB acc (linesB [x] Y) = linesB (acc ++ [x]) Y := by
  unfold linesB
  cases hx : Y.ok with
  | true => simp
  | false => simp [hx]
theorem linesB_no (acc l : List LineD) (n : Nat) : linesB acc ⟨false, l, n⟩ = ⟨false, l, n⟩ := rfl
theorem linesB_end (acc : List LineD) : linesB acc (linesD []) = ⟨true, acc, 0⟩ := by rw [lines_nil]; simp [linesB]
theorem n_yes {t : Tk} {r : List Tk} (h : t.1 = 1) : linesD (t :: r) = contC t.2 r := by
  unfold contC
  cases hk : (ruleD (t :: r)).ok with
  | true =>
    rw [lines_ok (by simp) hk]
    rw [rule_yes h] at hk ⊢
    rw [if_pos hk]
    unfold linesB
    split
    · rfl
    · rfl
  | false =>
    rw [lines_no (by simp) hk]
    rw [rule_yes h] at hk ⊢
    rw [if_neg (by rw [hk]; simp)]
theorem n_no {t : Tk} {r : List Tk} (h : t.1 ≠ 1) : linesD (t :: r) = ⟨false, [], r.length + 1⟩ := by
  rw [lines_no (by simp) (by rw [rule_no h]), rule_no h]; rfl
theorem c_yes {n : List UInt8} {t : Tk} {r : List Tk} (h : t.1 = 3) : contC n (t :: r) = contB n [] [] r := by
  unfold contC contB
  rw [name_yes h]
theorem c_no {n : List UInt8} {t : Tk} {r : List Tk} (h : t.1 ≠ 3) : contC n (t :: r) = ⟨false, [], r.length + 1⟩ := by
  unfold contC
  rw [name_no h]
  simp
theorem c_nil {n : List UInt8} : contC n [] = ⟨false, [], 0⟩ := rfl
theorem b_item {n : List UInt8} {done : List (List ItemD)} {cur : List ItemD} {t : Tk} {r : List Tk} (h : t.1 = 1 ∨ t.1 = 2) : contB n done cur (t :: r) = contB n done (cur ++ [⟨decide (t.1 = 2), t.2⟩]) r := by
  unfold contB
  rw [body_item h]
theorem b_bar {n : List UInt8} {done : List (List ItemD)} {cur : List ItemD} {t : Tk} {r : List Tk} (h : t.1 = 4) : contB n done cur (t :: r) = contB n (done ++ [cur]) [] r := by
  unfold contB
  rw [body_bar h]
theorem b_semi {n : List UInt8} {done : List (List ItemD)} {cur : List ItemD} {t : Tk} {r : List Tk} (h : t.1 = 5) : contB n done cur (t :: r) = linesB [⟨n, done ++ [cur]⟩] (linesD r) := by
  unfold contB
  rw [body_semi h]
  simp
theorem b_bad {n : List UInt8} {done : List (List ItemD)} {cur : List ItemD} {t : Tk} {r : List Tk} (h1 : t.1 ≠ 1) (h2 : t.1 ≠ 2) (h4 : t.1 ≠ 4) (h5 : t.1 ≠ 5) : contB n done cur (t :: r) = ⟨false, [], r.length + 1⟩ := by
  unfold contB
  rw [body_bad h1 h2 h4 h5]
  simp
theorem b_nil {n : List UInt8} {done : List (List ItemD)} {cur : List ItemD} : contB n done cur [] = ⟨false, [], 0⟩ := rfl
/-- What the parser waits for. -/
inductive PSt where
  | nm
  | co (n : List UInt8)
  | bo (n : List UInt8) (done : List (List ItemD)) (cur : List ItemD)
def contP : PSt → List Tk → LinesD
  | .nm, r => linesD r
  | .co n, r => contC n r
  | .bo n done cur, r => contB n done cur r
/-- The state behind a token, or none where it cannot continue; and the lines that are whole. -/
def stepP (acc : List LineD) : PSt → Tk → Option (List LineD × PSt)
  | .nm, t => if t.1 = 1 then some (acc, .co t.2) else none
  | .co n, t => if t.1 = 3 then some (acc, .bo n [] []) else none
  | .bo n done cur, t => if t.1 = 1 ∨ t.1 = 2 then some (acc, .bo n done (cur ++ [⟨decide (t.1 = 2), t.2⟩])) else if t.1 = 4 then some (acc, .bo n (done ++ [cur]) []) else if t.1 = 5 then some (acc ++ [⟨n, done ++ [cur]⟩], .nm) else none
theorem step_yes {acc acc' : List LineD} {st st' : PSt} {t : Tk} {r : List Tk} (h : stepP acc st t = some (acc', st')) : linesB acc (contP st (t :: r)) = linesB acc' (contP st' r) := by
  cases st with
  | nm =>
    simp only [stepP] at h
    split at h
    · next h1 => cases h; show linesB acc (linesD _) = _; rw [n_yes h1]; rfl
    · cases h
  | co n =>
    simp only [stepP] at h
    split at h
    · next h1 => cases h; show linesB acc (contC n _) = _; rw [c_yes h1]; rfl
    · cases h
  | bo n done cur =>
    simp only [stepP] at h
    split at h
    · next h1 => cases h; show linesB acc (contB n done cur _) = _; rw [b_item h1]; rfl
    · split at h
      · next h4 => cases h; show linesB acc (contB n done cur _) = _; rw [b_bar h4]; rfl
      · split at h
        · next h5 => cases h; show linesB acc (contB n done cur _) = _; rw [b_semi h5, linesB_two]; rfl
        · cases h
theorem step_no {acc : List LineD} {st : PSt} {t : Tk} {r : List Tk} (h : stepP acc st t = none) : linesB acc (contP st (t :: r)) = ⟨false, [], r.length + 1⟩ := by
  cases st with
  | nm =>
    simp only [stepP] at h
    split at h
    · cases h
    · next h1 => show linesB acc (linesD _) = _; rw [n_no h1]; rfl
  | co n =>
    simp only [stepP] at h
    split at h
    · cases h
    · next h1 => show linesB acc (contC n _) = _; rw [c_no h1]; rfl
  | bo n done cur =>
    simp only [stepP] at h
    split at h
    · cases h
    · split at h
      · cases h
      · split at h
        · cases h
        · next h1 h4 h5 => show linesB acc (contB n done cur _) = _; rw [b_bad (fun e => h1 (.inl e)) (fun e => h1 (.inr e)) h4 h5]; rfl
end Go.Proofs.YtgfpkmnmdehkpaaGreat

/-! The program's parser (layer 13): what stands in memory. -/
namespace Go.Proofs.YtgfpkmnmdehkpaaGreat
open Go.RowKit

theorem owns_set {w : World} {base n g cap sz : Nat} {e : TypeId} {xs : List Value} (h : w.ownsRow base e sz (.slice (some ⟨g, 0, none⟩) n cap) n xs) (j : Nat) (u : Value) : (w.setCell ⟨g, j, none⟩ u).ownsRow base e sz (.slice (some ⟨g, 0, none⟩) n cap) n (xs.set j u) := by
  refine ⟨by rw [List.length_set]; exact h.1, ?_⟩
  rcases h.2 with ⟨h0, _⟩ | ⟨g', cap', cur, e1, hb, hg, hn, hm, hs, ht⟩
  · cases h0
  · cases e1
    refine .inr ⟨g, cap, cur.setIfInBounds j u, rfl, hb, heap_setCell_same hg (i := j) u, hn, hm, by simpa using hs, ?_⟩
    rw [Array.toList_setIfInBounds, List.take_set, ht]
/-- What held elements of these types holds the same. -/
def KeepT (T : List TypeId) (w1 w : World) : Prop := ∀ (k : Nat) (cs : Array Value) (t : TypeId) (fr : Nat × Nat), w1.heap[k]? = some (Obj.cells cs t fr) → t ∈ T → w.heap[k]? = some (Obj.cells cs t fr)
theorem KeepT.refl (T : List TypeId) (w : World) : KeepT T w w := fun _ _ _ _ h _ => h
theorem KeepT.fr {T : List TypeId} {w1 w w' : World} {L : List Nat} (h : KeepT T w1 w) (hf : Fr L w w') (hL : ∀ k ∈ L, w1.heap.size ≤ k ∨ ∀ t ∈ T, notT w [k] t) : KeepT T w1 w' := by
  intro k cs t fr h1 ht
  refine hf.heap (h k cs t fr h1 ht) (fun hm => ?_)
  rcases hL k hm with h2 | h2
  · have := (Array.getElem?_eq_some_iff.1 h1).1
    omega
  · exact h2 t ht k (by simp) _ _ _ (h k cs t fr h1 ht) rfl
theorem KeepT.owns {T : List TypeId} {w1 w : World} {base sz n : Nat} {e : TypeId} {v : Value} {xs : List Value} (h : KeepT T w1 w) (he : e ∈ T) (ho : w1.ownsRow base e sz v n xs) : w.ownsRow base e sz v n xs := by
  refine ⟨ho.1, ?_⟩
  rcases ho.2 with h2 | ⟨g, cap, cur, rfl, hb, hg, rest⟩
  · exact .inl h2
  · exact .inr ⟨g, cap, cur, rfl, hb, h _ _ _ _ hg he, rest⟩
theorem KeepT.items {T : List TypeId} {w1 w : World} {tI : TypeId} {base : Nat} {v : Value} {l : List ItemD} (h : KeepT T w1 w) (he : tI ∈ T) (ho : itemsR tI w1 base v l) : itemsR tI w base v l := h.owns he ho
theorem KeepT.alts {T : List TypeId} {w1 w : World} {tI tA : TypeId} {base : Nat} {v : Value} {l : List (List ItemD)} (h : KeepT T w1 w) (hI : tI ∈ T) (hA : tA ∈ T) (ho : altsR tI tA w1 base v l) : altsR tI tA w base v l := by
  obtain ⟨vs, e, hr, hi⟩ := ho
  exact ⟨vs, e, h.owns hA hr, fun i a b => h.items hI (hi i a b)⟩
theorem notT.one {w : World} {L : List Nat} {t : TypeId} {k : Nat} (h : notT w L t) (hk : k ∈ L) : notT w [k] t := fun j hj => by
  obtain rfl : j = k := by simpa using hj
  exact h j hk
abbrev pI : TypeId := 98
abbrev pA : TypeId := 97
abbrev pL : TypeId := 92
abbrev pP : TypeId := 84
def nameV (p : Nat) : Value := .func (.func 47) #[.pointer (some ⟨p, 0, none⟩)] #[]
def colonV (p : Nat) : Value := .func (.func 82) #[.pointer (some ⟨p, 0, none⟩)] #[]
def bodyV (p : Nat) : Value := .func (.func 107) #[.pointer (some ⟨p, 0, none⟩)] #[]
/-- The cells of lines whose alternatives are these values. -/
def lineC (ls : List LineD) (vs : List Value) : List Value := ((ls.zip vs).map fun p => [encStr p.1.name, p.2]).flatten
theorem lineC_len {ls : List LineD} {vs : List Value} (e : vs.length = ls.length) : (lineC ls vs).length = ls.length * 2 := by
  unfold lineC
  induction ls generalizing vs with
  | nil => simp
  | cons x r ih =>
    cases vs with
    | nil => simp at e
    | cons y q =>
      have := ih (vs := q) (by simpa using e)
      simp only [List.zip_cons_cons, List.map_cons, List.flatten_cons, List.length_append, List.length_cons, List.length_nil] at this ⊢
      omega
/-- The parser, none of whose lines is open. -/
structure NameSt (base : Nat) (w : World) (p : Nat) (ev : Value) (wh : Bool) (ls : List LineD) : Prop where
  pb : base ≤ p
  st : ∃ lv, w.heap[p]? = some (.cells #[lv, ev, .bool wh] pP (0, 0)) ∧ linesR pI pA pL w base lv ls
/-- The parser behind the name of its last line. -/
structure ColonSt (base : Nat) (w : World) (p : Nat) (ev : Value) (wh : Bool) (ls : List LineD) (n : List UInt8) : Prop where
  pb : base ≤ p
  st : ∃ lv vs, w.heap[p]? = some (.cells #[lv, ev, .bool wh] pP (0, 0)) ∧ vs.length = ls.length ∧ w.ownsRow base pL 2 lv (ls.length + 1) (lineC ls vs ++ [encStr n, .slice none 0 0]) ∧ ∀ i (h : i < vs.length) (h' : i < ls.length), altsR pI pA w base (vs[i]'h) (ls[i]'h').alts
/-- The parser within its last line. -/
structure BodySt (base : Nat) (w : World) (p : Nat) (ev : Value) (wh : Bool) (ls : List LineD) (n : List UInt8) (als : List (List ItemD)) (cur : List ItemD) : Prop where
  pb : base ≤ p
  st : ∃ lv vs av us cv, ∃ w1 w2 : World, w.heap[p]? = some (.cells #[lv, ev, .bool wh] pP (0, 0)) ∧ vs.length = ls.length ∧ w.ownsRow base pL 2 lv (ls.length + 1) (lineC ls vs ++ [encStr n, av]) ∧
    (∀ i (h : i < vs.length) (h' : i < ls.length), altsR pI pA w1 base (vs[i]'h) (ls[i]'h').alts) ∧ KeepT [pI, pA] w1 w ∧ base ≤ w1.heap.size ∧
    us.length = als.length ∧ w.ownsRow w1.heap.size pA 1 av (als.length + 1) (us ++ [cv]) ∧ (∀ i (h : i < us.length) (h' : i < als.length), itemsR pI w2 base (us[i]'h) (als[i]'h')) ∧ KeepT [pI] w2 w ∧ w1.heap.size ≤ w2.heap.size ∧ w2.heap.size ≤ w.heap.size ∧
    itemsR pI w w2.heap.size cv cur
end Go.Proofs.YtgfpkmnmdehkpaaGreat

/-! The program's parser (layer 13): begin, an empty alternative behind the others of the last line. -/
namespace Go.Proofs.YtgfpkmnmdehkpaaGreat
open Go.RowKit

theorem infoPA : (Tryz.prog.info? pA).map (fun i => (i.zero, i.size, i.bytes)) = some (some (.slice none 0 0), 1, 24) := by kernel_rfl
theorem infoPL : (Tryz.prog.info? pL).map (fun i => (i.zero, i.size, i.bytes)) = some (some (.agg #[.string ⟨#[]⟩, .slice none 0 0]), 2, 40) := by kernel_rfl
theorem infoPI : (Tryz.prog.info? pI).map (fun i => (i.zero, i.size, i.bytes)) = some (some (.agg #[.bool false, .string ⟨#[]⟩]), 2, 24) := by kernel_rfl
/-- The row's block, and the cells of the last element. -/
theorem last_two {w : World} {base k : Nat} {e : TypeId} {lv nv av : Value} {C : List Value} (h : w.ownsRow base e 2 lv (k + 1) (C ++ [nv, av])) (hC : C.length = k * 2) :
    ∃ g cap, lv = .slice (some ⟨g, 0, none⟩) (k + 1) cap ∧ k + 1 ≤ cap ∧ cap ≤ maxLen ∧ base ≤ g ∧ g < w.heap.size ∧ (∃ cs, w.heap[g]? = some (.cells cs e (0, 0))) ∧ w.cell? ⟨g, k * 2, none⟩ = some nv ∧ w.cell? ⟨g, k * 2 + 1, none⟩ = some av ∧ w.frozen? ⟨g, k * 2 + 1, none⟩ = false := by
  have hc := fun g hg => h.cells (g := g) hg
  have hlt := h.lt
  rcases h.2 with ⟨_, h0⟩ | ⟨g, cap, cur, rfl, hb, hg, hn, hm, hs, ht⟩
  · omega
  · have hadd : ∀ j, (⟨g, 0, none⟩ : Addr).add j = ⟨g, j, none⟩ := fun j => by unfold Addr.add; split <;> simp_all
    refine ⟨g, cap, rfl, hn, hm, hb, (hlt g rfl).2, ⟨cur, hg⟩, ?_, ?_, free_of_heap hg _⟩
    · have := hc g rfl (k * 2) nv (by rw [List.getElem?_append_right (by omega), hC]; simp)
      rwa [hadd] at this
    · have := hc g rfl (k * 2 + 1) av (by rw [List.getElem?_append_right (by omega), hC]; simp)
      rwa [hadd] at this
set_option maxRecDepth 100000 in
set_option maxHeartbeats 4000000 in
theorem pbegin_raw (p : Nat) (lv ev nv av : Value) (wh : Bool) (base B1 k m : Nat) (C us : List Value) (w : World) (hp : w.heap[p]? = some (.cells #[lv, ev, .bool wh] pP (0, 0))) (hrow : w.ownsRow base pL 2 lv (k + 1) (C ++ [nv, av])) (hC : C.length = k * 2)
    (harow : w.ownsRow B1 pA 1 av m us) (hbase : base ≤ w.heap.size) (hB1 : B1 ≤ w.heap.size) (hm : m ≤ 1000000) (hk : k ≤ 1000000) :
    Calls Tryz.prog 106 #[.pointer (some ⟨p, 0, none⟩)] w fun e w' => e = .returned (.tuple #[]) ∧ ∃ av', w'.heap[p]? = some (.cells #[lv, ev, .bool wh] pP (0, 0)) ∧ w'.ownsRow base pL 2 lv (k + 1) (C ++ [nv, av']) ∧
      w'.ownsRow B1 pA 1 av' (m + 1) (us ++ [.slice none 0 0]) ∧ Fr (av.ownBlock.toList ++ lv.ownBlock.toList) w w' := by
  obtain ⟨i0, hi0, hz0, hz1, hz2⟩ := info_parts infoPA
  obtain ⟨g, cap, rfl, hkc, hcm, hbg, hgl, ⟨cs, hcs⟩, x0, x1, x2⟩ := last_two hrow hC
  have hcm' : cap ≤ 9223372036854775807 := by simpa [maxLen] using hcm
  obtain ⟨y0, y1, y2, z0, z1, z2⟩ := three_of_heap hp
  have HP := Lib.hid hp
  have HROW := Lib.hid hrow
  have HAR := Lib.hid harow
  have HX := Lib.hid x1
  clear hp hrow harow x0 hcm hcs
  go_enter Tryz.func106, Tryz.ntmps106
  go_wp2_with fail
  go_quiet (fail)
  have hfd : Fr [] w (w.drewN nq) := (Fr.refl [] w).andDrewN _
  generalize w.drewN nq = wd at hfd ⊢
  have hpd := hfd.heap HP.out (by simp)
  have hrd := owns_kept HROW.out hfd (by simp)
  have had := owns_kept HAR.out hfd (by simp)
  have hsd := hfd.size
  obtain ⟨g', cap', e', _, _, _, _, ⟨cs, hcs⟩, x0, x1, x2⟩ := last_two hrd hC
  cases e'
  obtain ⟨a0, c0, rfl, hac, hcm⟩ := owns_slice had
  have nA := notT_row had (t := pL) (by decide)
  have nP := notT_row had (t := pP) (by decide)
  have nLP := notT_row hrd (t := pP) (by decide)
  have HPD := Lib.hid hpd
  have HRD := Lib.hid hrd
  have HAD := Lib.hid had
  have HFD := Lib.hid hfd
  have HCS := Lib.hid hcs
  have HNA := Lib.hid nA
  clear y0 y1 y2 z0 z1 z2 hpd hrd had hfd hcs x0 nA
  have hB1d : B1 ≤ wd.heap.size := by omega
  go_wp2_with (at_builtin; refine wpL_append1 rfl _ _ 90 rfl B1 pA i0 _ 24 Tryz.underlying90 hi0 hz0 hz1 hz2 (by rfl) (.slice a0 m c0) m us rfl HAD.out (.slice none 0 0) rfl rfl (by omega) (by simp [maxLen]; omega) hB1d ?_; intro v5 w5 hown5 hf5 hb5; obtain ⟨a5, c5, hv5, -, -⟩ := owns_slice hown5; subst hv5; have x1' := hf5.cell x1 (fun hm => HNA.out g hm _ _ _ HCS.out rfl); have x2' : w5.frozen? ⟨g, k * 2 + 1, none⟩ = false := free_of_heap (hf5.heap HCS.out (fun hm => HNA.out g hm _ _ _ HCS.out rfl)) _)

  go_end0
  have hp5 := hf5.heap HPD.out (fun hm => nP p hm _ _ _ HPD.out rfl)
  have hr5 := owns_keptT HRD.out HNA.out hf5
  have hg5 := hf5.heap HCS.out (fun hm => HNA.out g hm _ _ _ HCS.out rfl)
  have hs := Fr.set0 w5 g (k * 2 + 1) (.slice a5 (m + 1) c5)
  have hpg : p ∉ [g] := fun hm => nLP p (by simp [Value.ownBlock]; simpa using hm) _ _ _ HPD.out rfl
  have hgA : notT w5 [g] pA := notT_box hg5 (by decide)
  refine ⟨rfl, _, hs.heap hp5 hpg, ?_, owns_keptT hown5 hgA hs, ?_⟩
  · have h := owns_set hr5 (k * 2 + 1) (.slice a5 (m + 1) c5)
    rw [List.set_append_right _ _ (by omega), hC, show k * 2 + 1 - k * 2 = 1 by omega] at h
    exact h
  · refine (HFD.out.trans hf5 (by simp) (fun i hi _ => hi)).trans hs (fun i hi _ => List.mem_append_left _ hi) (fun i hi _ => List.mem_append_right _ (by simpa [Value.ownBlock] using hi))
end Go.Proofs.YtgfpkmnmdehkpaaGreat
