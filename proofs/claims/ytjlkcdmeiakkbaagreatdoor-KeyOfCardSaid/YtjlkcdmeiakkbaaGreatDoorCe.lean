/- Several texts in one: CpE, CpF. -/
import Derived.LoopTactic
import Derived.Deep.DeepCutAuto
import Derived.Test.YtjlkcdmeiakkbaaGreatDoorCs
import Derived.Test.YtjlkcdmeiakkbaaGreatDoorBs
import Derived.Test.YtjlkcdmeiakkbaaGreatDoorGb
set_option linter.unusedVariables false
set_option linter.unusedSimpArgs false
/-! The program's canonical grammars (layer 16): the numbers below n in an order; texts picked; places. -/
namespace Go.Proofs.YtjlkcdmeiakkbaaGreatDoor
open Go.RowKit Go.Lib Go.Sort

/-- A row of numbers that a call has made. -/
def ROrd (n : Nat) (cf : Nat → Nat → Int) (w : World) (e : Ending) (w' : World) : Prop := ∃ v p, e = .returned v ∧ SortedN n cf p ∧ intsAt w' v (p.map fun i : Nat => ((i : Nat) : Int)) ∧ Fr [] w w'
def OrdRel (w0 w : World) (b n : Nat) (iv : Value) (wx : World) : Prop := ∃ k : Nat, k ≤ n ∧ iv = .int .i64 (k : Int) ∧ fillAt wx b 3 (.int .i64 0) (rangeV n) k ∧ Fr [] w0 wx ∧ w.heap.size ≤ b
theorem range_len (n : Nat) : (rangeV n).length = n := by unfold rangeV; simp
set_option maxRecDepth 100000 in
set_option maxHeartbeats 1000000 in
theorem pordered_any (n : Nat) (hn : n ≤ 1000000) (cf : Nat → Nat → Int) (hO : OrdN n cf) (f : Nat) (cb : Array Value) (eg : ∀ args w, (callFunc f args).run Tryz.prog w = .ok (.enter f args) w) (w : World)
    (hcmp : ∀ wx, Fr [] w wx → ∀ x y : Nat, x < n → y < n → Calls Tryz.prog f (#[.int .i64 (x : Int), .int .i64 (y : Int)] ++ cb) wx fun e w' => e = .returned (.int .i64 (cf x y)) ∧ Gw wx w') :
    Calls Tryz.prog 65 #[.int .i64 (n : Int), .func (.func f) #[] cb] w (ROrd n cf w) := by
  have hsrt := fun b wx (hw : wx.heap[b]? = some (.cells (rangeV n).toArray 3 (0, 0))) (hf : Fr [] w wx) (hbw : w.heap.size ≤ b) => psortI_any n hn cf hO f cb eg b n 3 wx hw (Nat.le_refl _) (by unfold maxLen; omega)
    (fun wy hy x y hx hy' => hcmp wy (hf.trans hy (by simp) (fun i hi hlt => by simp at hi; omega)) x y hx hy')
  have HS := Lib.hid hsrt
  clear hsrt hcmp eg hO
  obtain ⟨iS, hiS, hz0, hz1, hz2⟩ := info_parts infoInt
  go_enter Tryz.func65, Tryz.ntmps65
  go_upto_region 2 with (refine wpL_make rfl _ _ 34 rfl 3 iS (.int .i64 0) 8 Tryz.underlying34 hiS hz0 hz1 hz2 rfl n rfl rfl (by omega) (by simp [maxLen]; omega) ?_; intro w1 hh1 hf1 hs1)
  have HM0 := Lib.hid (fill_zero (l := rangeV n) (by rw [range_len]) hh1.out)
  obtain ⟨b, hb⟩ : ∃ b, b = w.heap.size := ⟨_, rfl⟩
  have HB := Lib.hid (show w.heap.size ≤ b by omega)
  rw [← hb] at HM0
  rw [← hb]
  have HF1 := Lib.hid hf1
  clear hh1 hf1 hs1 hb
  go_wp2_with fail
  go_loopw [10] (OrdRel w w b n) (fun iv _ => n - (intOf iv).toNat)
  case atStart => exact ⟨0, Nat.zero_le _, rfl, HM0.out, HF1.out, HB.out⟩
  case round =>
    obtain ⟨k, hk, rfl, hm, hf, -⟩ := hrel
    have HF := Lib.hid hf
    have HM := Lib.hid hm
    by_cases hkn : k < n
    · have hd1 : decide (k < n) = true := decide_eq_true hkn
      have hc := fill_cell hm (by rw [range_len]; exact hkn)
      have hfr := fill_free hm k
      clear hm hf
      go_wp2_with fail
      refine ⟨⟨k + 1, by omega, by go_num, fill_next HM.out (by rw [range_len]; exact hkn) (by unfold rangeV; simp), ?_, HB.out⟩, by simp [intOf]; omega⟩
      exact HF.out.trans (Fr.set0 _ _ _ _) (by simp) (fun i hi hlt => by have := HB.out; simp at hi; omega)
    · have hd1 : decide (k < n) = false := decide_eq_false hkn
      have hkn2 : k = n := by omega
      have hrow : wr.heap[b]? = some (.cells (rangeV n).toArray 3 (0, 0)) := by
        have := HM.out
        unfold fillAt at this
        rw [this, range_len, hkn2, Nat.sub_self, List.replicate_zero, List.append_nil, List.take_of_length_le (by rw [range_len]; exact Nat.le_refl _)]
      have HSB := Lib.hid (HS.out b wr hrow HF.out HB.out)
      clear hm hf hrow hkn2
      go_wp2_with (go_at_call 101; refine HSB.out.mono ?_; rintro e w2 ⟨rfl, hres⟩)
      go_ret
      obtain ⟨p, hp, hi, hf⟩ := hres
      exact ⟨_, p, rfl, hp, hi, HF.out.trans hf (by simp) (fun i hi hlt => by have := HB.out; simp at hi; omega)⟩
end Go.Proofs.YtjlkcdmeiakkbaaGreatDoor

/-! The program's canonical grammars (layer 16): texts picked; places. -/
namespace Go.Proofs.YtjlkcdmeiakkbaaGreatDoor
open Go.RowKit Go.Lib Go.Sort

def natsV (p : List Nat) : List Int := p.map fun i : Nat => ((i : Nat) : Int)
theorem nat_cell {w : World} {a0 : Option Addr} {n cap : Nat} {p : List Nat} (h : intsAt w (.slice a0 n cap) (natsV p)) (k : Nat) (hk : k < p.length) : ∃ b off, a0 = some ⟨b, off, none⟩ ∧ w.cell? ⟨b, off + k, none⟩ = some (.int .i64 ((p[k]'hk : Nat) : Int)) := by
  obtain ⟨b, off, e, hc⟩ := int_cell h k (by unfold natsV; simpa using hk)
  refine ⟨b, off, e, ?_⟩
  rw [hc]
  unfold natsV
  simp
def RStrs (l : List (List UInt8)) (w : World) (e : Ending) (w' : World) : Prop := ∃ v, e = .returned v ∧ strsAt w' v l ∧ Fr [] w w'
def RInts (l : List Int) (w : World) (e : Ending) (w' : World) : Prop := ∃ v, e = .returned v ∧ intsAt w' v l ∧ Fr [] w w'
def PkRel (w : World) (b : Nat) (T : List Value) (iv : Value) (wx : World) : Prop := ∃ k : Nat, k ≤ T.length ∧ iv = .int .i64 (k : Int) ∧ fillAt wx b 9 (.string ⟨#[]⟩) T k ∧ Fr [] w wx
set_option maxRecDepth 100000 in
set_option maxHeartbeats 1000000 in
theorem ppick_any (l : List (List UInt8)) (p : List Nat) (lv pv : Value) (w : World) (hl : strsAt w lv l) (hp : intsAt w pv (natsV p)) (hlt : ∀ k ∈ p, k < l.length) (hlen : p.length ≤ 1000000) :
    Calls Tryz.prog 70 #[lv, pv] w (RStrs (pickN l p) w) := by
  obtain ⟨iS, hiS, hz0, hz1, hz2⟩ := info_parts infoStr
  obtain ⟨a0, c0, rfl, hle, hmx⟩ := hl.form
  obtain ⟨a1, c1, rfl, hle1, hmx1⟩ := hp.form
  have hnl : (natsV p).length = p.length := by unfold natsV; simp
  rw [hnl] at hle1 hp ⊢
  have hT : ((pickN l p).map encStr).length = p.length := by unfold pickN; simp
  obtain ⟨T, hTT⟩ : ∃ T, T = (pickN l p).map encStr := ⟨_, rfl⟩
  rw [← hTT] at hT
  obtain ⟨n, hn⟩ : ∃ n, n = p.length := ⟨_, rfl⟩
  obtain ⟨m, hm⟩ : ∃ n, n = l.length := ⟨_, rfl⟩
  rw [← hn] at hT hle1 hlen
  have HL := Lib.hid hl
  have HP := Lib.hid hp
  have HN := Lib.hid hn
  have HM := Lib.hid hm
  have HT := Lib.hid hT
  have HTT := Lib.hid hTT
  have HLT := Lib.hid hlt
  rw [← hm] at HL hle
  rw [← hn] at HP
  rw [← hm, ← hn]
  clear hl hp hn hm hT hTT hlt hnl
  go_enter Tryz.func70, Tryz.ntmps70
  go_upto_region 2 with (refine wpL_make rfl _ _ 22 rfl 9 iS (.string ⟨#[]⟩) 16 Tryz.underlying22 hiS hz0 hz1 hz2 rfl n rfl rfl (by omega) (by simp [maxLen]; omega) ?_; intro w1 hh1 hf1 hs1)
  have HM0 := Lib.hid (fill_zero (l := T) HT.out.symm hh1.out)
  obtain ⟨b, hb⟩ : ∃ b, b = w.heap.size := ⟨_, rfl⟩
  have HB := Lib.hid (show w.heap.size ≤ b by omega)
  rw [← hb] at HM0
  rw [← hb]
  have HF1 := Lib.hid hf1
  clear hh1 hf1 hs1 hb
  go_wp2_with fail
  go_loopw [13] (PkRel w b T) (fun iv _ => n - (intOf iv).toNat)
  case atStart => exact ⟨0, Nat.zero_le _, rfl, HM0.out, HF1.out⟩
  case round =>
    obtain ⟨k, hk, rfl, hmm, hf⟩ := hrel
    have HF := Lib.hid hf
    have HMM := Lib.hid hmm
    have hk2 : k ≤ n := by rw [← HT.out]; exact hk
    by_cases hkn : k < n
    · have hd1 : decide (k < n) = true := decide_eq_true hkn
      have hkp : k < p.length := by rw [← HN.out]; exact hkn
      obtain ⟨_, _, rfl, k0⟩ := nat_cell (HP.out.below hf) k hkp
      have hyl : p[k]'hkp < l.length := HLT.out _ (List.getElem_mem hkp)
      have hte : T[k]? = some (encStr (l.getD (p[k]'hkp) [])) := by
        rw [HTT.out]
        unfold pickN
        rw [List.map_map, List.getElem?_map, List.getElem?_eq_getElem hkp]
        rfl
      obtain ⟨y, hy⟩ : ∃ y, y = p[k]'hkp := ⟨_, rfl⟩
      rw [← hy] at k0 hyl hte
      rw [getD_lt hyl] at hte
      obtain ⟨_, _, rfl, k1⟩ := str_cell (HL.out.below hf) y hyl
      have hym : y < m := by rw [HM.out]; exact hyl
      have hc := fill_cell hmm (show k < T.length by rw [HT.out]; exact hkn)
      have hfr := fill_free hmm k
      have HTE := Lib.hid hte
      clear hmm hf hy hte hk
      go_wp2_with fail
      have hkT : k < T.length := by rw [HT.out]; exact hkn
      refine ⟨⟨k + 1, hkT, by go_num, fill_next HMM.out hkT ?_, Fr.set_new (w' := w) HF.out HB.out⟩, by simp [intOf]; omega⟩
      have := HTE.out
      rw [List.getElem?_eq_getElem hkT] at this
      exact (Option.some.inj this).symm
    · have hd1 : decide (k < n) = false := decide_eq_false hkn
      have HE := Lib.hid (fill_end hmm (by rw [HT.out]; omega) (by rw [HT.out]; simp [maxLen]; omega))
      clear hmm hf hk
      go_wp2_with fail
      go_ret
      refine ⟨_, rfl, ?_, HF.out⟩
      have := HE.out
      rw [HT.out] at this
      unfold strsAt
      rw [← HTT.out]
      exact this
def PlRel (w : World) (b : Nat) (p : List Nat) (iv : Value) (wx : World) : Prop := ∃ k : Nat, k ≤ p.length ∧ iv = .int .i64 (k : Int) ∧ wx.heap[b]? = some (.cells ((placesTo p k).map intV).toArray 3 (0, 0)) ∧ Fr [] w wx
theorem set_map (l : List Int) (i : Nat) (x : Int) : ((l.map intV).toArray).setIfInBounds i (intV x) = ((l.set i x).map intV).toArray := by
  apply Array.ext'
  simp [List.map_set]
set_option maxRecDepth 100000 in
set_option maxHeartbeats 1000000 in
theorem pplN_any (p : List Nat) (pv : Value) (w : World) (hp : intsAt w pv (natsV p)) (hnd : p.Nodup) (hlt : ∀ k ∈ p, k < p.length) (hall : ∀ k, k < p.length → k ∈ p) (hlen : p.length ≤ 1000000) :
    Calls Tryz.prog 72 #[pv] w (RInts (placesN p) w) := by
  obtain ⟨iS, hiS, hz0, hz1, hz2⟩ := info_parts infoInt
  obtain ⟨a1, c1, rfl, hle1, hmx1⟩ := hp.form
  have hnl : (natsV p).length = p.length := by unfold natsV; simp
  rw [hnl] at hle1 hp ⊢
  obtain ⟨n, hn⟩ : ∃ n, n = p.length := ⟨_, rfl⟩
  rw [← hn] at hle1 hlen
  have HP := Lib.hid hp
  have HN := Lib.hid hn
  have HLT := Lib.hid hlt
  have HND := Lib.hid hnd
  have HALL := Lib.hid hall
  rw [← hn] at HP
  rw [← hn]
  clear hp hn hlt hnl hnd hall
  go_enter Tryz.func72, Tryz.ntmps72
  go_upto_region 2 with (refine wpL_make rfl _ _ 34 rfl 3 iS (.int .i64 0) 8 Tryz.underlying34 hiS hz0 hz1 hz2 rfl n rfl rfl (by omega) (by simp [maxLen]; omega) ?_; intro w1 hh1 hf1 hs1)
  have hm0 : w1.heap[w.heap.size]? = some (.cells ((placesTo p 0).map intV).toArray 3 (0, 0)) := by
    rw [places_zero, hh1.out, ← HN.out, List.map_replicate]
    rfl
  obtain ⟨b, hb⟩ : ∃ b, b = w.heap.size := ⟨_, rfl⟩
  have HB := Lib.hid (show w.heap.size ≤ b by omega)
  rw [← hb] at hm0
  rw [← hb]
  have HM0 := Lib.hid hm0
  have HF1 := Lib.hid hf1
  clear hh1 hf1 hs1 hb hm0
  go_wp2_with fail
  go_loopw [11] (PlRel w b p) (fun iv _ => n - (intOf iv).toNat)
  case atStart => exact ⟨0, Nat.zero_le _, rfl, HM0.out, HF1.out⟩
  case round =>
    obtain ⟨k, hk, rfl, hmm, hf⟩ := hrel
    have HF := Lib.hid hf
    have HMM := Lib.hid hmm
    have hk2 : k ≤ n := by rw [HN.out]; exact hk
    by_cases hkn : k < n
    · have hd1 : decide (k < n) = true := decide_eq_true hkn
      have hkp : k < p.length := by rw [← HN.out]; exact hkn
      obtain ⟨_, _, rfl, k0⟩ := nat_cell (HP.out.below hf) k hkp
      have hyl : p[k]'hkp < p.length := HLT.out _ (List.getElem_mem hkp)
      have HNX := Lib.hid (places_next HND.out hkp)
      obtain ⟨y, hy⟩ : ∃ y, y = p[k]'hkp := ⟨_, rfl⟩
      rw [← hy] at k0 hyl HNX
      have hyn : y < n := by rw [HN.out]; exact hyl
      have hc : ∃ u, wr.cell? ⟨b, y, none⟩ = some u := ⟨_, (cell_of_heap hmm y).trans (by rw [List.getElem?_toArray, List.getElem?_eq_getElem (show y < ((placesTo p k).map intV).length by unfold placesTo; simpa using hyl)])⟩
      obtain ⟨u, hc⟩ := hc
      have hfr := free_of_heap hmm y
      clear hmm hf hy hk
      go_wp2_with fail
      refine ⟨⟨k + 1, hkp, by go_num, ?_, Fr.set_new (w' := w) HF.out HB.out⟩, by simp [intOf]; omega⟩
      rw [heap_setCell_same HMM.out, show Value.int .i64 (k : Int) = intV (k : Int) from rfl, set_map, HNX.out]
    · have hd1 : decide (k < n) = false := decide_eq_false hkn
      have hkn2 : k = p.length := by have := HN.out; omega
      rw [hkn2, places_end HALL.out] at hmm
      have HE := Lib.hid hmm
      clear hmm hf hk hkn2
      go_wp2_with fail
      go_ret
      refine ⟨_, rfl, ?_, HF.out⟩
      refine .inr ⟨b, 0, n, ?_, ?_, by simp [maxLen]; omega, fun i hi => ?_⟩
      · rw [List.length_map, places_len, ← HN.out]
        rfl
      · rw [List.length_map, places_len, ← HN.out]; exact Nat.le_refl _
      · rw [cell_of_heap HE.out, Nat.zero_add, List.getElem?_toArray, List.getElem?_eq_getElem hi]
end Go.Proofs.YtjlkcdmeiakkbaaGreatDoor
