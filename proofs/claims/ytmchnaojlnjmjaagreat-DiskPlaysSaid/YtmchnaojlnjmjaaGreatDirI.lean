/- The document's lists of names (layer 9): with. -/
import Derived.Test.YtmchnaojlnjmjaaGreatDirH
namespace Go.Proofs.YtmchnaojlnjmjaaGreat
open Go.RowKit Go.Maps

def hitL (x : Ent) (l : List Ent) : Bool := l.any fun e => lessB x.1 e.1
theorem hitL_snoc (x : Ent) (l : List Ent) (e : Ent) : hitL x (l ++ [e]) = (hitL x l || lessB x.1 e.1) := by simp [hitL]
theorem insL_none (x : Ent) : ∀ l : List Ent, hitL x l = false → insL x l = l ++ [x]
  | [], _ => rfl
  | e :: r, h => by
    simp only [hitL, List.any_cons, Bool.or_eq_false_iff] at h
    rw [insL, if_neg (by rw [h.1]; simp), insL_none x r h.2]
    rfl
theorem insL_snoc (x : Ent) (e : Ent) : ∀ l : List Ent, hitL x l = true → insL x (l ++ [e]) = insL x l ++ [e]
  | [], h => by simp [hitL] at h
  | y :: r, h => by
    by_cases c : lessB x.1 y.1 = true
    · rw [List.cons_append, insL, insL, if_pos c, if_pos c]; rfl
    · have h2 : hitL x r = true := by
        simp only [hitL, List.any_cons] at h ⊢
        rw [show lessB x.1 y.1 = false from by simpa using c] at h
        simpa using h
      rw [List.cons_append, insL, insL, if_neg c, if_neg c, insL_snoc x e r h2]; rfl
theorem insL_hit (x : Ent) (e : Ent) : ∀ l : List Ent, hitL x l = false → lessB x.1 e.1 = true → insL x (l ++ [e]) = l ++ [x] ++ [e]
  | [], _, h => by rw [List.nil_append, insL, if_pos h]; rfl
  | y :: r, h, h2 => by
    simp only [hitL, List.any_cons, Bool.or_eq_false_iff] at h
    rw [List.cons_append, insL, if_neg (by rw [h.1]; simp), insL_hit x e r h.2 h2]; rfl
/-- What has been laid behind k elements. -/
def outL (x : Ent) (l : List Ent) : List Ent := if hitL x l then insL x l else l
theorem outL_le (x : Ent) (l : List Ent) : (outL x l).length ≤ l.length + 1 := by
  have : ∀ l : List Ent, (insL x l).length = l.length + 1 := by
    intro l
    induction l with
    | nil => rfl
    | cons e r ih => rw [insL]; split <;> simp [ih]
  unfold outL
  split
  · rw [this]; omega
  · omega
def WithRel (w1 : World) (x : Ent) (r : List Ent) (v d i : Value) (wx : World) : Prop := ∃ k : Nat, k ≤ r.length ∧ i = .int .i64 (k : Int) ∧ d = .bool (hitL x (r.take k)) ∧ namesR wx w1.heap.size v (outL x (r.take k)) ∧ Fr [] w1 wx
set_option maxRecDepth 100000 in
set_option maxHeartbeats 1000000 in
theorem rwith_any (l : List Ent) (m : List UInt8) (n : Int) (v : Value) (w : World) (h : elemsAt w v 2 (l.map entC)) (hl : l.length ≤ 100000) (hm : m.length ≤ maxLen) (hok : ∀ e ∈ l, e.1.length ≤ maxLen) :
    Calls Tryz.prog 95 #[v, encStr m, .int .i64 n] w (Listed (withL l m n) w) := by
  obtain ⟨i0, hi, hz0, hz1, hz2⟩ := info_parts infoN
  have HWO := Lib.hid (rwithout_any l m v w h (by omega))
  obtain ⟨a0, c0, rfl, hle, hmx⟩ := h.form
  rw [List.length_map] at h hle HWO ⊢
  have hrl : (withoutL l m).length ≤ 100000 := Nat.le_trans (withoutL_le l m) hl
  have hrok : ∀ e ∈ withoutL l m, e.1.length ≤ maxLen := fun e he => hok e (List.mem_filter.1 he).1
  have HOK := Lib.hid hrok
  obtain ⟨r, hr⟩ : ∃ r, r = withoutL l m := ⟨_, rfl⟩
  rw [show withL l m n = insL (m, n) r from by rw [hr]; rfl]
  rw [← hr] at HWO hrl HOK
  clear hr hrok h hok
  go_enter Tryz.func95, Tryz.ntmps95
  go_wp2_with (go_at_call 96; refine HWO.out.mono ?_; rintro e w1 ⟨rv, rfl, hn1, hf1⟩; have HN1 := Lib.hid hn1; have hel := hn1.elems; obtain ⟨ra, rc, rfl, hrc, hrm⟩ := hel.form; rw [List.length_map] at hel hrc; have HE := Lib.hid hel; have hrm' : rc ≤ 9223372036854775807 := (by simpa [maxLen] using hrm); have HF1 := Lib.hid hf1; clear hn1 hel hrm hf1; simp only [List.length_map] at *)
  go_loopw [8, 9, 10] (WithRel w1 (m, n) r) (fun _ _ i _ => r.length - (intOf i).toNat)
  case atStart => exact ⟨0, Nat.zero_le _, rfl, rfl, World.ownsRow_nil _ _ _ _, Fr.refl _ _⟩
  case round =>
    obtain ⟨k, hk, rfl, hd, hrow, hf⟩ := hrel
    by_cases hkn : k < r.length
    · have hd2 : decide (k < r.length) = true := decide_eq_true hkn
      obtain ⟨b, off, hra, -, hb, hc0, hc1⟩ := duo_cells (HE.out.below hf) k hkn
      subst hra
      have hol := outL_le (m, n) (r.take k)
      have hsn := hitL_snoc (m, n) (r.take k) (r[k]'hkn)
      have his := insL_snoc (m, n) (r[k]'hkn) (r.take k)
      have hih := insL_hit (m, n) (r[k]'hkn) (r.take k)
      have hxl := HOK.out _ (List.getElem_mem hkn)
      rw [← List.take_succ_eq_append_getElem hkn] at hsn his hih
      have htk1 := List.take_succ_eq_append_getElem hkn
      obtain ⟨x, hx⟩ : ∃ x, x = r[k]'hkn := ⟨_, rfl⟩
      have hcl : ∀ wx, Fr [] w1 wx → wx.cell? ⟨b, off + k * 2, none⟩ = some (encStr x.1) ∧ wx.cell? ⟨b, off + k * 2 + 1, none⟩ = some (.int .i64 x.2) := by
        intro wx hwx
        obtain ⟨b', off', e, _, _, h0, h1⟩ := duo_cells (HE.out.below hwx) k hkn
        cases e
        rw [hx]
        exact ⟨h0, h1⟩
      rw [← hx] at hc0 hc1 hsn his hih hxl htk1
      obtain ⟨x1, x2⟩ := x
      simp only at hc0 hc1 hsn his hih hxl hcl
      have HCL := Lib.hid hcl
      clear hcl
      have hws := hf.size
      have hlk : (outL (m, n) (r.take k)).length ≤ 100001 := by rw [List.length_take] at hol; omega
      have HROW := Lib.hid hrow
      have HO : Hid (wr.ownsRow w1.heap.size 83 2 _ (outL (m, n) (r.take k)).length ((outL (m, n) (r.take k)).map entC).flatten) := Lib.hid hrow
      have HF := Lib.hid hf
      have HTK := Lib.hid htk1
      obtain ⟨L, hL⟩ : ∃ L, L = outL (m, n) (r.take k) := ⟨_, rfl⟩
      rw [← hL] at HROW HO hlk
      have HL := Lib.hid hL
      clear hrow hf hx hol htk1 hL
      by_cases hh : hitL (m, n) (r.take k) = true
      · rw [hh] at hd
        subst hd
        rw [hh] at hsn
        have HS := Lib.hid (show hitL (m, n) (r.take (k + 1)) = true by rw [hsn]; rfl)
        have HN : Hid (outL (m, n) (r.take (k + 1)) = L ++ [(x1, x2)]) := Lib.hid (by
          rw [HL.out]; unfold outL; rw [if_pos HS.out, if_pos hh, his hh])
        clear hh hsn his hih
        go_wp2_with (at_builtin; refine wpL_appendS rfl _ _ 27 rfl w1.heap.size 83 i0 _ 2 24 Tryz.underlying27 hi hz0 hz1 hz2 (by rfl) (by decide) _ _ _ rfl HO.out (entC (x1, x2)) rfl (by intro u hu; simp [entC] at hu; rcases hu with rfl | rfl <;> rfl) rfl (by omega) (by simp [maxLen]; omega) hws ?_; intro v5 w5 hown5 hf5 hb5)
        have hf3 := (Fr.alloc wr (.cells (entC (x1, x2)).toArray 83)).trans hf5 (by simp) (fun _ hk _ => hk)
        have hf6 : Fr [] w1 w5 := HF.out.own HO.out hf3
        have hr6 : namesR w5 w1.heap.size v5 (outL (m, n) (r.take (k + 1))) := by
          rw [HN.out]
          unfold namesR
          simpa using hown5
        go_wp2_with fail
        go_roundw
        case rel => exact ⟨k + 1, by omega, by simp, by rw [HS.out], hr6, hf6⟩
        case measure => simp [intOf]; omega
      · have hh' : hitL (m, n) (r.take k) = false := by simpa using hh
        rw [hh'] at hd
        subst hd
        rw [hh'] at hsn
        have HLE := Lib.hid (show L = r.take k by rw [HL.out]; unfold outL; rw [if_neg hh])
        by_cases hls : lessB m x1 = true
        · have HLS := Lib.hid (fun wx => rless_any m x1 wx hm hxl)
          rw [hls] at HLS
          have HS := Lib.hid (show hitL (m, n) (r.take (k + 1)) = true by rw [hsn, hls]; rfl)
          have HN : Hid (outL (m, n) (r.take (k + 1)) = L ++ [(m, n)] ++ [(x1, x2)]) := Lib.hid (by
            rw [HLE.out]; unfold outL; rw [if_pos HS.out, hih hh' hls])
          clear hh hh' hsn his hih hls
          go_wp2_with (first
            | (go_at_call 99; refine (HLS.out _).mono ?_; rintro e w2 ⟨rfl, hf2⟩; have HO2 := Lib.hid (owns_kept HO.out hf2 (by simp)); have HF2 := Lib.hid hf2; have hws2 := hf2.size; have hd0 := hf2.cell hc0 (by simp); have hd1 := hf2.cell hc1 (by simp); clear hf2)
            | (at_builtin; refine wpL_appendS rfl _ _ 27 rfl w1.heap.size 83 i0 _ 2 24 Tryz.underlying27 hi hz0 hz1 hz2 (by rfl) (by decide) _ _ _ rfl HO7.out (entC (x1, x2)) rfl (by intro u hu; simp [entC] at hu; rcases hu with rfl | rfl <;> rfl) rfl (by omega) (by simp only [maxLen]; omega) hws7 ?_; intro v9 w9 hown9 hf9 hb9)
            | ((at_builtin; refine wpL_appendS rfl _ _ 27 rfl w1.heap.size 83 i0 _ 2 24 Tryz.underlying27 hi hz0 hz1 hz2 (by rfl) (by decide) _ _ _ rfl HO2.out (entC (m, n)) rfl (by intro u hu; simp [entC] at hu; rcases hu with rfl | rfl <;> rfl) rfl (by omega) (by simp [maxLen]; omega) (by omega) ?_; intro v7 w7 hown7 hf7 hb7); have hf27 := (Fr.alloc w2 (.cells (entC (m, n)).toArray 83)).trans hf7 (by simp) (fun _ hk _ => hk); have hfr7 : Fr [] w1 w7 := (HF.out.trans HF2.out (n := []) (by simp) (by simp)).own HO2.out hf27; have HO7 : Hid (w7.ownsRow w1.heap.size 83 2 v7 (L ++ [(m, n)]).length ((L ++ [(m, n)]).map entC).flatten) := (Lib.hid (by simpa using hown7)); have hws7 := hfr7.size; have hlk7 : (L ++ [(m, n)]).length ≤ 100002 := (by rw [List.length_append]; simp; omega); have hg0 := (HCL.out w7 hfr7).1; have hg1 := (HCL.out w7 hfr7).2))
          have hf79 := (Fr.alloc w7 (.cells (entC (x1, x2)).toArray 83)).trans hf9 (by simp) (fun _ hk _ => hk)
          have hf10 : Fr [] w1 w9 := hfr7.own HO7.out hf79
          have hr10 : namesR w9 w1.heap.size v9 (outL (m, n) (r.take (k + 1))) := by
            rw [HN.out]
            unfold namesR
            simpa using hown9
          go_wp2_with fail
          go_roundw
          case rel => exact ⟨k + 1, by omega, by simp, by rw [HS.out], hr10, hf10⟩
          case measure => simp [intOf]; omega
        · have hls' : lessB m x1 = false := by simpa using hls
          have HLS := Lib.hid (fun wx => rless_any m x1 wx hm hxl)
          rw [hls'] at HLS
          have HS := Lib.hid (show hitL (m, n) (r.take (k + 1)) = false by rw [hsn, hls']; rfl)
          have HN : Hid (outL (m, n) (r.take (k + 1)) = L ++ [(x1, x2)]) := Lib.hid (by
            rw [HLE.out]; unfold outL; rw [if_neg (by rw [HS.out]; simp), HTK.out])
          clear hh hh' hsn his hih hls hls'
          go_wp2_with (first
            | (go_at_call 99; refine (HLS.out _).mono ?_; rintro e w2 ⟨rfl, hf2⟩; have HO2 := Lib.hid (owns_kept HO.out hf2 (by simp)); have HF2 := Lib.hid hf2; have hws2 := hf2.size; have hd0 := hf2.cell hc0 (by simp); have hd1 := hf2.cell hc1 (by simp); clear hf2)
            | (at_builtin; refine wpL_appendS rfl _ _ 27 rfl w1.heap.size 83 i0 _ 2 24 Tryz.underlying27 hi hz0 hz1 hz2 (by rfl) (by decide) _ _ _ rfl HO2.out (entC (x1, x2)) rfl (by intro u hu; simp [entC] at hu; rcases hu with rfl | rfl <;> rfl) rfl (by omega) (by simp [maxLen]; omega) (by omega) ?_; intro v5 w5 hown5 hf5 hb5))
          have hf25 := (Fr.alloc w2 (.cells (entC (x1, x2)).toArray 83)).trans hf5 (by simp) (fun _ hk _ => hk)
          have hf6 : Fr [] w1 w5 := (HF.out.trans HF2.out (n := []) (by simp) (by simp)).own HO2.out hf25
          have hr6 : namesR w5 w1.heap.size v5 (outL (m, n) (r.take (k + 1))) := by
            rw [HN.out]
            unfold namesR
            simpa using hown5
          go_wp2_with fail
          go_roundw
          case rel => exact ⟨k + 1, by omega, by simp, by rw [HS.out], hr6, hf6⟩
          case measure => simp [intOf]; omega
    · have hd2 : decide (k < r.length) = false := decide_eq_false hkn
      obtain rfl : k = r.length := by omega
      rw [List.take_length] at hd hrow
      have hws := hf.size
      have hw1 := HF1.out.size
      have HF := Lib.hid hf
      have hol := outL_le (m, n) r
      by_cases hh : hitL (m, n) r = true
      · rw [hh] at hd
        subst hd
        rw [show outL (m, n) r = insL (m, n) r from if_pos hh] at hrow
        clear hh
        go_wp2_with fail
        go_ret
        exact ⟨_, rfl, owns_base hrow (fun k hk => by have := (hrow.lt k hk).1; omega), HF1.out.trans HF.out (by simp) (by simp)⟩
      · have hh' : hitL (m, n) r = false := by simpa using hh
        rw [hh'] at hd
        subst hd
        rw [show outL (m, n) r = r from if_neg hh] at hrow
        have HO : Hid (wr.ownsRow w1.heap.size 83 2 _ r.length (r.map entC).flatten) := Lib.hid hrow
        have HN := Lib.hid (insL_none (m, n) r hh')
        clear hh hh' hrow hf
        go_wp2_with (at_builtin; refine wpL_appendS rfl _ _ 27 rfl w1.heap.size 83 i0 _ 2 24 Tryz.underlying27 hi hz0 hz1 hz2 (by rfl) (by decide) _ _ _ rfl HO.out (entC (m, n)) rfl (by intro u hu; simp [entC] at hu; rcases hu with rfl | rfl <;> rfl) rfl (by omega) (by simp [maxLen]; omega) hws ?_; intro v5 w5 hown5 hf5 hb5)
        go_ret
        have hf3 := (Fr.alloc wr (.cells (entC (m, n)).toArray 83)).trans hf5 (by simp) (fun _ hk _ => hk)
        have hf6 : Fr [] w1 w5 := HF.out.own HO.out hf3
        have hr6 : namesR w5 w1.heap.size v5 (insL (m, n) r) := by
          rw [HN.out]
          unfold namesR
          simpa using hown5
        exact ⟨_, rfl, owns_base hr6 (fun k hk => by have := (hr6.lt k hk).1; omega), HF1.out.trans hf6 (by simp) (by simp)⟩
end Go.Proofs.YtmchnaojlnjmjaaGreat
