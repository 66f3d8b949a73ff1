/- Several texts in one: PrsG, PrsH. -/
import Derived.Test.YtgfpkmnmdehkpaaGreatP1
import Derived.Test.YtgfpkmnmdehkpaaGreatLm
import Derived.Test.YtgfpkmnmdehkpaaGreatBs
set_option linter.unusedVariables false
set_option linter.unusedSimpArgs false
/-! The program's parser (layer 13): All does what the document's does. -/
namespace Go.Proofs.YtgfpkmnmdehkpaaGreat
open Go.RowKit

/-- What stands in memory in each state. -/
def StP (base : Nat) (w : World) (p : Nat) (acc : List LineD) : PSt → Prop
  | .nm => NameSt base w p (nameV p) (!acc.isEmpty) acc
  | .co n => ColonSt base w p (colonV p) false acc n
  | .bo n d c => BodySt base w p (bodyV p) false acc n d c
def szP (acc : List LineD) : PSt → Nat
  | .nm => acc.length
  | .co _ => acc.length
  | .bo _ d c => acc.length + d.length + c.length
def fnV (p : Nat) : PSt → Value
  | .nm => nameV p
  | .co _ => colonV p
  | .bo _ _ _ => bodyV p
theorem StP.below {base p : Nat} {w w' : World} {acc : List LineD} {st : PSt} (h : StP base w p acc st) (hf : Fr [] w w') : StP base w' p acc st := by
  cases st with
  | nm => exact NameSt.below h hf
  | co n => exact ColonSt.below h hf
  | bo n d c => exact BodySt.below h hf
theorem StP.obj {base p : Nat} {w : World} {acc : List LineD} {st : PSt} (h : StP base w p acc st) : base ≤ p ∧ ∃ lv wh, w.heap[p]? = some (.cells #[lv, fnV p st, .bool wh] pP (0, 0)) ∧ (∃ x y z, lv = .slice x y z) ∧ (st = .nm → wh = !acc.isEmpty ∧ linesAt w lv acc) ∧ (st ≠ .nm → wh = false) := by
  cases st with
  | nm =>
    obtain ⟨hpb, lv, hp, hl⟩ := h
    obtain ⟨a, c, hv, -, -⟩ := hl.at_.form
    exact ⟨hpb, lv, _, hp, ⟨_, _, _, hv⟩, fun _ => ⟨rfl, hl.at_⟩, fun h => absurd rfl h⟩
  | co n =>
    obtain ⟨hpb, lv, vs, hp, hv, hrow, hold⟩ := h
    obtain ⟨a, c, hv, -, -⟩ := owns_slice hrow
    exact ⟨hpb, lv, _, hp, ⟨_, _, _, hv⟩, (fun h => nomatch h), fun _ => rfl⟩
  | bo n d c =>
    obtain ⟨hpb, lv, vs, av, us, cv, w1, w2, hp, hv, hrow, -⟩ := h
    obtain ⟨a, c, hv, -, -⟩ := owns_slice hrow
    exact ⟨hpb, lv, _, hp, ⟨_, _, _, hv⟩, (fun h => nomatch h), fun _ => rfl⟩
theorem pstep_nm {base p : Nat} {w : World} {acc acc' : List LineD} {st' : PSt} {K : Int} {T : List UInt8} (A : Nat) (hs : stepP acc .nm (K, T) = some (acc', st')) (h : StP base w p acc .nm) (hbase : base ≤ w.heap.size) (hz : szP acc .nm ≤ 900000) :
    szP acc' st' ≤ szP acc .nm + 1 ∧ Calls Tryz.prog 47 #[.pointer (some ⟨p, 0, none⟩), tkV K T A] w fun e w' => e = .returned (.bool true) ∧ StP base w' p acc' st' ∧ Below base w w' := by
  simp only [stepP] at hs
  split at hs
  · next h1 =>
    cases hs
    obtain rfl : K = 1 := h1
    exact ⟨by simp [szP], pname_yes p base _ _ acc T A w h hbase (by simp only [szP] at hz; omega)⟩
  · cases hs
theorem pstep_co {base p : Nat} {w : World} {acc acc' : List LineD} {n : List UInt8} {st' : PSt} {K : Int} {T : List UInt8} (A : Nat) (hs : stepP acc (.co n) (K, T) = some (acc', st')) (h : StP base w p acc (.co n)) (hbase : base ≤ w.heap.size) (hz : szP acc (.co n) ≤ 900000) :
    szP acc' st' ≤ szP acc (.co n) + 1 ∧ Calls Tryz.prog 82 #[.pointer (some ⟨p, 0, none⟩), tkV K T A] w fun e w' => e = .returned (.bool true) ∧ StP base w' p acc' st' ∧ Below base w w' := by
  simp only [stepP] at hs
  split at hs
  · next h1 =>
    cases hs
    obtain rfl : K = 3 := h1
    exact ⟨by simp [szP], pcolon_yes p base _ _ acc n T A w h hbase (by simp only [szP] at hz; omega)⟩
  · cases hs
theorem pstep_bo {base p : Nat} {w : World} {acc acc' : List LineD} {n : List UInt8} {d : List (List ItemD)} {c : List ItemD} {st' : PSt} {K : Int} {T : List UInt8} (A : Nat) (hs : stepP acc (.bo n d c) (K, T) = some (acc', st')) (h : StP base w p acc (.bo n d c)) (hbase : base ≤ w.heap.size) (hz : szP acc (.bo n d c) ≤ 900000) :
    szP acc' st' ≤ szP acc (.bo n d c) + 1 ∧ Calls Tryz.prog 107 #[.pointer (some ⟨p, 0, none⟩), tkV K T A] w fun e w' => e = .returned (.bool true) ∧ StP base w' p acc' st' ∧ Below base w w' := by
  simp only [szP] at hz
  simp only [stepP] at hs
  split at hs
  · next h1 =>
    cases hs
    refine ⟨by simp [szP]; omega, ?_⟩
    rcases h1 with h1 | h1
    · obtain rfl : K = 1 := h1
      exact pbody_item1 p base _ _ acc n d c (by omega) (by omega) T A w h hbase (by omega)
    · obtain rfl : K = 2 := h1
      exact pbody_item2 p base _ _ acc n d c (by omega) (by omega) T A w h hbase (by omega)
  · split at hs
    · next h4 =>
      cases hs
      obtain rfl : K = 4 := h4
      exact ⟨by simp [szP]; omega, pbody_bar p base _ _ acc n d c (by omega) T A w h hbase (by omega)⟩
    · split at hs
      · next h5 =>
        cases hs
        obtain rfl : K = 5 := h5
        refine ⟨by simp [szP]; omega, ?_⟩
        refine (pbody_semi p base _ _ acc n d c T A w h hbase (by omega)).mono ?_
        rintro e w' ⟨he, hst, hb⟩
        refine ⟨he, ?_, hb⟩
        show NameSt base w' p (nameV p) (!(acc ++ [(⟨n, d ++ [c]⟩ : LineD)]).isEmpty) _
        rw [show (!(acc ++ [(⟨n, d ++ [c]⟩ : LineD)]).isEmpty) = true by simp]
        exact hst
      · cases hs
theorem pno_nm {acc : List LineD} {K : Int} {T : List UInt8} (p A : Nat) (w : World) (hs : stepP acc .nm (K, T) = none) : Calls Tryz.prog 47 #[.pointer (some ⟨p, 0, none⟩), tkV K T A] w fun e w' => e = .returned (.bool false) ∧ Fr [] w w' := by
  simp only [stepP] at hs
  split at hs
  · cases hs
  · next h1 => exact pname_no p K T A h1 w
theorem pno_co {acc : List LineD} {n : List UInt8} {K : Int} {T : List UInt8} (p A : Nat) (w : World) (hs : stepP acc (.co n) (K, T) = none) : Calls Tryz.prog 82 #[.pointer (some ⟨p, 0, none⟩), tkV K T A] w fun e w' => e = .returned (.bool false) ∧ Fr [] w w' := by
  simp only [stepP] at hs
  split at hs
  · cases hs
  · next h1 => exact pcolon_no p K T A h1 w
theorem pno_bo {acc : List LineD} {n : List UInt8} {d : List (List ItemD)} {c : List ItemD} {K : Int} {T : List UInt8} (p A : Nat) (w : World) (hs : stepP acc (.bo n d c) (K, T) = none) : Calls Tryz.prog 107 #[.pointer (some ⟨p, 0, none⟩), tkV K T A] w fun e w' => e = .returned (.bool false) ∧ Fr [] w w' := by
  simp only [stepP] at hs
  split at hs
  · cases hs
  · split at hs
    · cases hs
    · split at hs
      · cases hs
      · next h1 h4 h5 => exact pbody_no p K T A (fun e => h1 (.inl e)) (fun e => h1 (.inr e)) h4 h5 w
end Go.Proofs.YtgfpkmnmdehkpaaGreat

/-! The program's parser (layer 13): All does what the document's does. -/
namespace Go.Proofs.YtgfpkmnmdehkpaaGreat
open Go.RowKit

def ParLoop (w1 : World) (p : Nat) (ts : List TokD) (X : LinesD) (iv : Value) (wx : World) : Prop :=
  ∃ (k : Nat) (acc : List LineD) (st : PSt), k ≤ ts.length ∧ iv = .int .i64 (k : Int) ∧ szP acc st ≤ k ∧ StP w1.heap.size wx p acc st ∧ linesB acc (contP st (fromK ts k)) = X ∧ Below w1.heap.size w1 wx
theorem lines_left {r : List Tk} (h : (linesD r).ok = true) : (linesD r).left = 0 := by
  cases r with
  | nil => rw [lines_nil]
  | cons t q =>
    cases hk : (ruleD (t :: q)).ok with
    | true =>
      rw [lines_ok (by simp) hk] at h ⊢
      split
      · rfl
      · next hq => rw [if_neg hq] at h; exact absurd h hq
    | false => rw [lines_no (by simp) hk] at h; cases h
theorem linesB_nil (r : List Tk) : linesB [] (linesD r) = linesD r := by
  unfold linesB
  split
  · next h =>
    rw [List.nil_append]
    have h0 := lines_left h
    cases hX : linesD r
    rw [hX] at h h0
    simp only at h h0
    rw [h, h0]
  · rfl
theorem cont_end (acc : List LineD) {st : PSt} (h : st ≠ .nm) : linesB acc (contP st []) = ⟨false, [], 0⟩ := by
  cases st with
  | nm => exact absurd rfl h
  | co n => rfl
  | bo n d c => rfl
set_option maxRecDepth 100000 in
set_option maxHeartbeats 4000000 in
theorem ppar_any (m : List UInt8) (hm : m.length ≤ 1000000) (w : World) : Calls Tryz.prog 21 #[encStr m] w (RPar (parD m) w) := by
  have HAL := Lib.hid (fun wx => pall_any m hm wx)
  have hlen : (allD m).toks.length ≤ 65536 := by
    unfold allD
    split
    · simp
    · have := (lex_len (r := m) (p := 0)).1; omega
  obtain ⟨P, hP⟩ : ∃ P, P = parD m := ⟨_, rfl⟩
  rw [← hP]
  unfold parD at hP
  obtain ⟨L, hL⟩ : ∃ L, L = allD m := ⟨_, rfl⟩
  rw [← hL] at HAL hP hlen
  clear hL
  obtain ⟨ts, at0, er⟩ := L
  simp only at hP hlen
  obtain ⟨X, hX⟩ : ∃ X, X = linesD (ts.map TokD.tk) := ⟨_, rfl⟩
  rw [← hX] at hP
  by_cases her : er = 0
  · have q2 : (er != 0) = false := by rw [her]; rfl
    rw [if_neg (by simp [her])] at hP
    have hst : linesB [] (contP .nm (fromK ts 0)) = X := by
      have : fromK ts 0 = ts.map TokD.tk := rfl
      rw [this, hX]
      exact linesB_nil _
    have HP := Lib.hid hP
    have HST := Lib.hid hst
    clear hP hX hst her
    go_enter Tryz.func21, Tryz.ntmps21
    go_upto_region 4 with (go_at_call 46; refine (HAL.out _).mono ?_; rintro e w1 ⟨v1, rfl, ht1, hf1⟩)
    obtain ⟨a1, c1, rfl, hc1, hm1⟩ := ht1.form
    have HT := Lib.hid ht1
    have HF1 := Lib.hid hf1
    clear ht1 hf1
    go_upto_region 5 with fail
    obtain ⟨p, hp⟩ : ∃ p, p = w1.heap.size := ⟨_, rfl⟩
    have hf2 := Fr.alloc w1 (.cells #[.slice none 0 0, .nilFunc, .bool false] pP)
    have hb2 := heap_alloc_new w1 (.cells #[.slice none 0 0, .nilFunc, .bool false] pP)
    rw [← hp] at hb2 ⊢
    have HPW := Lib.hid hp
    clear hp
    generalize w1.alloc (.cells #[.slice none 0 0, .nilFunc, .bool false] pP) = w2 at hf2 hb2 ⊢
    obtain ⟨e0, e1, e2, g0, g1, g2⟩ := three_of_heap hb2
    have hmf := runMf
    go_upto_region 6 with fail
    have h3 : (w2.setCell ⟨p, 1, none⟩ (nameV p)).heap[p]? = some (.cells #[.slice none 0 0, nameV p, .bool false] pP (0, 0)) := heap_setCell_same hb2 (i := 1) _
    have hs3 := Fr.set0 w2 p 1 (nameV p)
    obtain ⟨w3, hw3⟩ : ∃ w3, w3 = w2.setCell ⟨p, 1, none⟩ (nameV p) := ⟨_, rfl⟩
    rw [← hw3] at h3 hs3
    unfold nameV at hw3
    rw [← hw3]
    have hst3 : StP w1.heap.size w3 p [] .nm := ⟨by have := HPW.out; omega, _, h3, linesR.nil _ _ _ _ _⟩
    have hbl3 : Below w1.heap.size w1 w3 := (hf2.belowN (Nat.le_refl _)).trans (hs3.below hf2.size (fun i hi => by have : i = p := (by simpa using hi); have := HPW.out; omega))
    have HST3 := Lib.hid hst3
    have HBL3 := Lib.hid hbl3
    clear hf2 hb2 e0 e1 e2 g0 g1 g2 h3 hs3 hw3 hst3 hbl3 hmf
    go_wp2_with fail
    go_loopw [30] (ParLoop w1 p ts X) (fun iv _ => ts.length - (intOf iv).toNat)
    case atStart => exact ⟨0, [], .nm, Nat.zero_le _, rfl, Nat.le_refl _, HST3.out, HST.out, HBL3.out⟩
    case round =>
      clear HST3 HBL3
      obtain ⟨k, acc, st, hk, rfl, hz, hst, hX, hbl⟩ := hrel
      have HS := Lib.hid hst
      have HX := Lib.hid hX
      have HBL := Lib.hid hbl
      clear hst hX hbl
      by_cases hkn : k < ts.length
      · have hd3 : decide (k < ts.length) = true := decide_eq_true hkn
        obtain ⟨b, off, rfl, k0, k1, k2⟩ := tok_cells (HT.out.below (Fr.of_below HBL.out)) k hkn
        obtain ⟨t0, ht0⟩ : ∃ t0, t0 = ts[k]'hkn := ⟨_, rfl⟩
        have hkk : fromK ts k = t0.tk :: fromK ts (k + 1) := by rw [fromK_cons hkn, ← ht0]
        have hof : offT m ts (ts.length - k) = t0.at_ := by
          unfold offT
          rw [show ts.length - (ts.length - k) = k by omega, List.getElem?_eq_getElem hkn, ht0]
        rw [← ht0] at k0 k1 k2
        have HKK := Lib.hid hkk
        have HOF := Lib.hid hof
        clear ht0 hkk hof
        obtain ⟨K, T, A⟩ := t0
        simp only at k0 k1 k2
        go_upto_region 9 with fail
        have hfa := Fr.alloc wr (.cells #[.int .i64 K, .string { data := T.toArray }, .int .i64 (A : Int)] 85)
        have hba := heap_alloc_new wr (.cells #[.int .i64 K, .string { data := T.toArray }, .int .i64 (A : Int)] 85)
        obtain ⟨w4, hw4⟩ : ∃ w4, w4 = wr.alloc (.cells #[.int .i64 K, .string { data := T.toArray }, .int .i64 (A : Int)] 85) := ⟨_, rfl⟩
        obtain ⟨q, hq⟩ : ∃ q, q = wr.heap.size := ⟨_, rfl⟩
        rw [← hw4] at hfa hba ⊢
        rw [← hq] at hba ⊢
        have HB : Hid (w4.heap[q]? = some (.cells #[.int .i64 K, encStr T, .int .i64 (A : Int)] 85 (0, 0))) := Lib.hid hba
        have HS4 := Lib.hid (HS.out.below hfa)
        have HBL4 := Lib.hid (HBL.out.trans (hfa.belowN HBL.out.size))
        obtain ⟨hpb, lv, wh, hp4, ⟨lx, ly, lz, rfl⟩, -⟩ := HS4.out.obj
        have hz9 : szP acc st ≤ 900000 := by omega
        have hw1s := HBL4.out.size
        clear hw4 hq hfa hba k0 k1 k2
        cases hstep : stepP acc st (K, T) with
        | some r =>
          obtain ⟨acc', st'⟩ := r
          cases st with
          | nm =>
            rw [show fnV p .nm = .func (.func 47) #[.pointer (some ⟨p, 0, none⟩)] #[] from rfl] at hp4
            refine wp_region_Q [] [5, 6] [(0, 0), (1, 0), (2, 0), (3, 0), (4, 0), (5, 2), (6, 2)] 55 rfl (by kernel_rfl) (by kernel_rfl) (by kernel_rfl) (fun c a d v w h => by cases d <;> exact h) (fun wd hfd => ?_)
            simp only [List.map_cons, List.map_nil, List.getElem?_toArray, List.getElem?_cons_succ, List.getElem?_cons_zero, Option.getD_some]
            have LP : Hid (Later [] wd (fun w' => w'.heap[p]? = some (.cells #[.slice lx ly lz, .func (.func 47) #[.pointer (some ⟨p, 0, none⟩)] #[], .bool wh] pP (0, 0)))) := Lib.hid (fun w' hf' => hf'.heap (hfd.heap hp4 (by simp)) (by simp))
            have LB : Hid (Later [] wd (fun w' => w'.heap[q]? = some (.cells #[.int .i64 K, encStr T, .int .i64 (A : Int)] 85 (0, 0)))) := Lib.hid (fun w' hf' => hf'.heap (hfd.heap HB.out (by simp)) (by simp))
            have HCA := Lib.hid (pstep_nm (p := p) (w := wd) A hstep (StP.below HS4.out hfd) (by have h1 := HBL4.out.size; have h2 := hfd.size; omega) (by omega))
            have HFD := Lib.hid hfd
            have HSTEP := Lib.hid hstep
            clear hfd hp4 hstep
            repeat (apply walkQ_t; · (intro w' hf'; obtain ⟨c0, c1, c2, -, -, -⟩ := three_of_heap (LP.out w' hf'); obtain ⟨d0, d1, d2, -, -, -⟩ := three_of_heap (LB.out w' hf'); go_wp2_with fail; exact ⟨rfl, rfl⟩))
            refine walkQ_z ?_
            go_wp2_with (go_at_call 47; refine HCA.out.2.mono ?_; rintro e w5 ⟨rfl, hst5, hbl5⟩; have HS5 := Lib.hid hst5; have HBL5 := Lib.hid hbl5; clear hst5 hbl5)
            refine ⟨rfl, ?_⟩
            refine walkQ_z ?_
            go_wp2_with fail
            refine ⟨rfl, walkQ_end ?_⟩
            go_wp2_with fail
            refine ⟨⟨k + 1, acc', st', by omega, by go_num, by have := HCA.out.1; omega, HS5.out, ?_, ?_⟩, by simp [intOf]; omega⟩
            · rw [← HX.out, HKK.out]; exact (step_yes HSTEP.out).symm
            · exact (HBL4.out.trans (HFD.out.belowN HBL4.out.size)).trans HBL5.out
          | co n =>
            rw [show fnV p (.co n) = .func (.func 82) #[.pointer (some ⟨p, 0, none⟩)] #[] from rfl] at hp4
            refine wp_region_Q [] [5, 6] [(0, 0), (1, 0), (2, 0), (3, 0), (4, 0), (5, 2), (6, 2)] 55 rfl (by kernel_rfl) (by kernel_rfl) (by kernel_rfl) (fun c a d v w h => by cases d <;> exact h) (fun wd hfd => ?_)
            simp only [List.map_cons, List.map_nil, List.getElem?_toArray, List.getElem?_cons_succ, List.getElem?_cons_zero, Option.getD_some]
            have LP : Hid (Later [] wd (fun w' => w'.heap[p]? = some (.cells #[.slice lx ly lz, .func (.func 82) #[.pointer (some ⟨p, 0, none⟩)] #[], .bool wh] pP (0, 0)))) := Lib.hid (fun w' hf' => hf'.heap (hfd.heap hp4 (by simp)) (by simp))
            have LB : Hid (Later [] wd (fun w' => w'.heap[q]? = some (.cells #[.int .i64 K, encStr T, .int .i64 (A : Int)] 85 (0, 0)))) := Lib.hid (fun w' hf' => hf'.heap (hfd.heap HB.out (by simp)) (by simp))
            have HCA := Lib.hid (pstep_co (p := p) (w := wd) A hstep (StP.below HS4.out hfd) (by have h1 := HBL4.out.size; have h2 := hfd.size; omega) (by omega))
            have HFD := Lib.hid hfd
            have HSTEP := Lib.hid hstep
            clear hfd hp4 hstep
            repeat (apply walkQ_t; · (intro w' hf'; obtain ⟨c0, c1, c2, -, -, -⟩ := three_of_heap (LP.out w' hf'); obtain ⟨d0, d1, d2, -, -, -⟩ := three_of_heap (LB.out w' hf'); go_wp2_with fail; exact ⟨rfl, rfl⟩))
            refine walkQ_z ?_
            go_wp2_with (go_at_call 82; refine HCA.out.2.mono ?_; rintro e w5 ⟨rfl, hst5, hbl5⟩; have HS5 := Lib.hid hst5; have HBL5 := Lib.hid hbl5; clear hst5 hbl5)
            refine ⟨rfl, ?_⟩
            refine walkQ_z ?_
            go_wp2_with fail
            refine ⟨rfl, walkQ_end ?_⟩
            go_wp2_with fail
            refine ⟨⟨k + 1, acc', st', by omega, by go_num, by have := HCA.out.1; omega, HS5.out, ?_, ?_⟩, by simp [intOf]; omega⟩
            · rw [← HX.out, HKK.out]; exact (step_yes HSTEP.out).symm
            · exact (HBL4.out.trans (HFD.out.belowN HBL4.out.size)).trans HBL5.out
          | bo n d c =>
            rw [show fnV p (.bo n d c) = .func (.func 107) #[.pointer (some ⟨p, 0, none⟩)] #[] from rfl] at hp4
            refine wp_region_Q [] [5, 6] [(0, 0), (1, 0), (2, 0), (3, 0), (4, 0), (5, 2), (6, 2)] 55 rfl (by kernel_rfl) (by kernel_rfl) (by kernel_rfl) (fun c a d v w h => by cases d <;> exact h) (fun wd hfd => ?_)
            simp only [List.map_cons, List.map_nil, List.getElem?_toArray, List.getElem?_cons_succ, List.getElem?_cons_zero, Option.getD_some]
            have LP : Hid (Later [] wd (fun w' => w'.heap[p]? = some (.cells #[.slice lx ly lz, .func (.func 107) #[.pointer (some ⟨p, 0, none⟩)] #[], .bool wh] pP (0, 0)))) := Lib.hid (fun w' hf' => hf'.heap (hfd.heap hp4 (by simp)) (by simp))
            have LB : Hid (Later [] wd (fun w' => w'.heap[q]? = some (.cells #[.int .i64 K, encStr T, .int .i64 (A : Int)] 85 (0, 0)))) := Lib.hid (fun w' hf' => hf'.heap (hfd.heap HB.out (by simp)) (by simp))
            have HCA := Lib.hid (pstep_bo (p := p) (w := wd) A hstep (StP.below HS4.out hfd) (by have h1 := HBL4.out.size; have h2 := hfd.size; omega) (by omega))
            have HFD := Lib.hid hfd
            have HSTEP := Lib.hid hstep
            clear hfd hp4 hstep
            repeat (apply walkQ_t; · (intro w' hf'; obtain ⟨c0, c1, c2, -, -, -⟩ := three_of_heap (LP.out w' hf'); obtain ⟨d0, d1, d2, -, -, -⟩ := three_of_heap (LB.out w' hf'); go_wp2_with fail; exact ⟨rfl, rfl⟩))
            refine walkQ_z ?_
            go_wp2_with (go_at_call 107; refine HCA.out.2.mono ?_; rintro e w5 ⟨rfl, hst5, hbl5⟩; have HS5 := Lib.hid hst5; have HBL5 := Lib.hid hbl5; clear hst5 hbl5)
            refine ⟨rfl, ?_⟩
            refine walkQ_z ?_
            go_wp2_with fail
            refine ⟨rfl, walkQ_end ?_⟩
            go_wp2_with fail
            refine ⟨⟨k + 1, acc', st', by omega, by go_num, by have := HCA.out.1; omega, HS5.out, ?_, ?_⟩, by simp [intOf]; omega⟩
            · rw [← HX.out, HKK.out]; exact (step_yes HSTEP.out).symm
            · exact (HBL4.out.trans (HFD.out.belowN HBL4.out.size)).trans HBL5.out
        | none =>
          have hXe : X = ⟨false, [], ts.length - k⟩ := by
            rw [← HX.out, HKK.out, step_no (show stepP acc st (TokD.tk ⟨K, T, A⟩) = none from hstep), fromK_len]
            congr 1
            omega
          have HPE := Lib.hid (show P = ⟨[], A, 14⟩ by rw [HP.out, hXe]; simp only; rw [HOF.out]; rfl)
          clear hXe
          cases st with
          | nm =>
            rw [show fnV p .nm = .func (.func 47) #[.pointer (some ⟨p, 0, none⟩)] #[] from rfl] at hp4
            refine wp_region_Q [] [5, 6] [(0, 0), (1, 0), (2, 0), (3, 0), (4, 0), (5, 2), (6, 2)] 55 rfl (by kernel_rfl) (by kernel_rfl) (by kernel_rfl) (fun c a d v w h => by cases d <;> exact h) (fun wd hfd => ?_)
            simp only [List.map_cons, List.map_nil, List.getElem?_toArray, List.getElem?_cons_succ, List.getElem?_cons_zero, Option.getD_some]
            have LP : Hid (Later [] wd (fun w' => w'.heap[p]? = some (.cells #[.slice lx ly lz, .func (.func 47) #[.pointer (some ⟨p, 0, none⟩)] #[], .bool wh] pP (0, 0)))) := Lib.hid (fun w' hf' => hf'.heap (hfd.heap hp4 (by simp)) (by simp))
            have LB : Hid (Later [] wd (fun w' => w'.heap[q]? = some (.cells #[.int .i64 K, encStr T, .int .i64 (A : Int)] 85 (0, 0)))) := Lib.hid (fun w' hf' => hf'.heap (hfd.heap HB.out (by simp)) (by simp))
            have HCA := Lib.hid (pno_nm p A wd hstep)
            have HFD := Lib.hid hfd
            have HSTEP := Lib.hid hstep
            clear hfd hp4 hstep
            repeat (apply walkQ_t; · (intro w' hf'; obtain ⟨c0, c1, c2, -, -, -⟩ := three_of_heap (LP.out w' hf'); obtain ⟨d0, d1, d2, -, -, -⟩ := three_of_heap (LB.out w' hf'); go_wp2_with fail; exact ⟨rfl, rfl⟩))
            refine walkQ_z ?_
            go_wp2_with (go_at_call 47; refine HCA.out.mono ?_; rintro e w5 ⟨rfl, hf5⟩; have HF5 := Lib.hid hf5; clear hf5)
            refine ⟨rfl, ?_⟩
            refine walkQ_z ?_
            go_wp2_with fail
            refine ⟨rfl, walkQ_end ?_⟩
            go_upto_region 10 with fail
            obtain ⟨d0, d1, d2, -, -, -⟩ := three_of_heap (LB.out w5 HF5.out)
            go_quiet (fail)
            go_wp2_with fail
            go_ret3
            refine ⟨.slice none 0 0, by rw [HPE.out]; rfl, by rw [HPE.out]; exact linesAt.nil _, ?_⟩
            exact HF1.out.trans (((Fr.of_below HBL4.out).trans HFD.out (by simp) (n := []) (by simp)).trans (HF5.out.andDrewN _) (by simp) (n := []) (by simp)) (by simp) (by simp)
          | co n =>
            rw [show fnV p (.co n) = .func (.func 82) #[.pointer (some ⟨p, 0, none⟩)] #[] from rfl] at hp4
            refine wp_region_Q [] [5, 6] [(0, 0), (1, 0), (2, 0), (3, 0), (4, 0), (5, 2), (6, 2)] 55 rfl (by kernel_rfl) (by kernel_rfl) (by kernel_rfl) (fun c a d v w h => by cases d <;> exact h) (fun wd hfd => ?_)
            simp only [List.map_cons, List.map_nil, List.getElem?_toArray, List.getElem?_cons_succ, List.getElem?_cons_zero, Option.getD_some]
            have LP : Hid (Later [] wd (fun w' => w'.heap[p]? = some (.cells #[.slice lx ly lz, .func (.func 82) #[.pointer (some ⟨p, 0, none⟩)] #[], .bool wh] pP (0, 0)))) := Lib.hid (fun w' hf' => hf'.heap (hfd.heap hp4 (by simp)) (by simp))
            have LB : Hid (Later [] wd (fun w' => w'.heap[q]? = some (.cells #[.int .i64 K, encStr T, .int .i64 (A : Int)] 85 (0, 0)))) := Lib.hid (fun w' hf' => hf'.heap (hfd.heap HB.out (by simp)) (by simp))
            have HCA := Lib.hid (pno_co p A wd hstep)
            have HFD := Lib.hid hfd
            have HSTEP := Lib.hid hstep
            clear hfd hp4 hstep
            repeat (apply walkQ_t; · (intro w' hf'; obtain ⟨c0, c1, c2, -, -, -⟩ := three_of_heap (LP.out w' hf'); obtain ⟨d0, d1, d2, -, -, -⟩ := three_of_heap (LB.out w' hf'); go_wp2_with fail; exact ⟨rfl, rfl⟩))
            refine walkQ_z ?_
            go_wp2_with (go_at_call 82; refine HCA.out.mono ?_; rintro e w5 ⟨rfl, hf5⟩; have HF5 := Lib.hid hf5; clear hf5)
            refine ⟨rfl, ?_⟩
            refine walkQ_z ?_
            go_wp2_with fail
            refine ⟨rfl, walkQ_end ?_⟩
            go_upto_region 10 with fail
            obtain ⟨d0, d1, d2, -, -, -⟩ := three_of_heap (LB.out w5 HF5.out)
            go_quiet (fail)
            go_wp2_with fail
            go_ret3
            refine ⟨.slice none 0 0, by rw [HPE.out]; rfl, by rw [HPE.out]; exact linesAt.nil _, ?_⟩
            exact HF1.out.trans (((Fr.of_below HBL4.out).trans HFD.out (by simp) (n := []) (by simp)).trans (HF5.out.andDrewN _) (by simp) (n := []) (by simp)) (by simp) (by simp)
          | bo n d c =>
            rw [show fnV p (.bo n d c) = .func (.func 107) #[.pointer (some ⟨p, 0, none⟩)] #[] from rfl] at hp4
            refine wp_region_Q [] [5, 6] [(0, 0), (1, 0), (2, 0), (3, 0), (4, 0), (5, 2), (6, 2)] 55 rfl (by kernel_rfl) (by kernel_rfl) (by kernel_rfl) (fun c a d v w h => by cases d <;> exact h) (fun wd hfd => ?_)
            simp only [List.map_cons, List.map_nil, List.getElem?_toArray, List.getElem?_cons_succ, List.getElem?_cons_zero, Option.getD_some]
            have LP : Hid (Later [] wd (fun w' => w'.heap[p]? = some (.cells #[.slice lx ly lz, .func (.func 107) #[.pointer (some ⟨p, 0, none⟩)] #[], .bool wh] pP (0, 0)))) := Lib.hid (fun w' hf' => hf'.heap (hfd.heap hp4 (by simp)) (by simp))
            have LB : Hid (Later [] wd (fun w' => w'.heap[q]? = some (.cells #[.int .i64 K, encStr T, .int .i64 (A : Int)] 85 (0, 0)))) := Lib.hid (fun w' hf' => hf'.heap (hfd.heap HB.out (by simp)) (by simp))
            have HCA := Lib.hid (pno_bo p A wd hstep)
            have HFD := Lib.hid hfd
            have HSTEP := Lib.hid hstep
            clear hfd hp4 hstep
            repeat (apply walkQ_t; · (intro w' hf'; obtain ⟨c0, c1, c2, -, -, -⟩ := three_of_heap (LP.out w' hf'); obtain ⟨d0, d1, d2, -, -, -⟩ := three_of_heap (LB.out w' hf'); go_wp2_with fail; exact ⟨rfl, rfl⟩))
            refine walkQ_z ?_
            go_wp2_with (go_at_call 107; refine HCA.out.mono ?_; rintro e w5 ⟨rfl, hf5⟩; have HF5 := Lib.hid hf5; clear hf5)
            refine ⟨rfl, ?_⟩
            refine walkQ_z ?_
            go_wp2_with fail
            refine ⟨rfl, walkQ_end ?_⟩
            go_upto_region 10 with fail
            obtain ⟨d0, d1, d2, -, -, -⟩ := three_of_heap (LB.out w5 HF5.out)
            go_quiet (fail)
            go_wp2_with fail
            go_ret3
            refine ⟨.slice none 0 0, by rw [HPE.out]; rfl, by rw [HPE.out]; exact linesAt.nil _, ?_⟩
            exact HF1.out.trans (((Fr.of_below HBL4.out).trans HFD.out (by simp) (n := []) (by simp)).trans (HF5.out.andDrewN _) (by simp) (n := []) (by simp)) (by simp) (by simp)
      · have hd3 : decide (k < ts.length) = false := decide_eq_false hkn
        obtain rfl : k = ts.length := by omega
        have hXe : linesB acc (contP st []) = X := by rw [← HX.out, fromK_end]
        obtain ⟨hpb, lv, wh, hp4, ⟨lx, ly, lz, rfl⟩, hnm, hnn⟩ := HS.out.obj
        obtain ⟨e0, -, e2, -, -, -⟩ := three_of_heap hp4
        cases wh with
        | true =>
          have hs : st = .nm := by
            cases st with
            | nm => rfl
            | co n => cases hnn (by simp)
            | bo n d c => cases hnn (by simp)
          obtain ⟨ha, hla⟩ := hnm hs
          have hne : acc ≠ [] := by rintro rfl; simp at ha
          have HPE := Lib.hid (show P = ⟨acc, 0, 0⟩ by rw [HP.out, ← hXe, hs]; rw [show contP .nm [] = linesD [] from rfl, linesB_end]; simp [hne])
          have HLA := Lib.hid hla
          clear hXe hp4 hnm hnn hs ha hla hne
          go_wp2_with fail
          go_ret3
          refine ⟨.slice lx ly lz, by rw [HPE.out]; rfl, by rw [HPE.out]; exact HLA.out, HF1.out.trans (Fr.of_below HBL.out) (by simp) (by simp)⟩
        | false =>
          have hPe : P = ⟨[], m.length, 14⟩ := by
            by_cases hs : st = .nm
            · obtain ⟨ha, -⟩ := hnm hs
              have hne : acc = [] := by simpa using ha.symm
              rw [HP.out, ← hXe, hs, hne]
              rw [show contP .nm [] = linesD [] from rfl, linesB_end]; simp
            · rw [HP.out, ← hXe, cont_end acc hs]
              simp only
              rw [if_pos trivial]
              have : offT m ts 0 = m.length := by unfold offT; rw [Nat.sub_zero, List.getElem?_eq_none (Nat.le_refl _)]
              rw [this]
          have HPE := Lib.hid hPe
          clear hXe hp4 hnm hnn hPe
          go_wp2_with fail
          go_ret3
          refine ⟨.slice none 0 0, by rw [HPE.out]; rfl, by rw [HPE.out]; exact linesAt.nil _, HF1.out.trans (Fr.of_below HBL.out) (by simp) (by simp)⟩
  · have q1 : (er == 0) = false := by rw [beq_eq_false_iff_ne]; exact her
    have q2 : (er != 0) = true := by rw [bne_iff_ne]; exact her
    rw [if_pos (by simpa using her)] at hP
    have HPE := Lib.hid hP
    clear hP hX her
    go_enter Tryz.func21, Tryz.ntmps21
    go_wp2_with (go_at_call 46; refine (HAL.out _).mono ?_; rintro e w1 ⟨v1, rfl, -, hf1⟩)
    go_ret3
    refine ⟨.slice none 0 0, by rw [HPE.out]; rfl, ?_, hf1⟩
    rw [HPE.out]
    exact linesAt.nil _
/-- The program's All does what the document's does. -/
theorem prog_par : ProgPar := fun m w hm => ppar_any m hm w
end Go.Proofs.YtgfpkmnmdehkpaaGreat
