/- The program's sets of words (layer 19): Cat. -/
import Derived.Test.YtapkohdbnfaacaaWlI
import Derived.Test.YtapkohdbnfaacaaWlD
set_option linter.unusedVariables false
set_option linter.unusedSimpArgs false
namespace Go.Proofs.Ytapkohdbnfaacaa
open Go.RowKit Go.Maps Go.Sort

theorem TyAt.lt {w : World} {base p mb t : Nat} {ws : Words} {fv : Value} (h : TyAt w base p mb t ws fv) : ∀ i ∈ tyB p mb fv, i < w.heap.size := by
  intro i hi
  unfold tyB at hi
  rcases List.mem_cons.1 hi with rfl | hi
  · exact (Array.getElem?_eq_some_iff.1 h.obj).1
  rcases List.mem_cons.1 hi with rfl | hi
  · obtain ⟨es, c, hh, _⟩ := h.map
    exact (Array.getElem?_eq_some_iff.1 hh).1
  rcases h.row.2 with ⟨rfl, _⟩ | ⟨g, cap, cur, rfl, _, hb, _⟩
  · simp [Value.ownBlock] at hi
  · simp [Value.ownBlock] at hi
    subst hi
    exact (Array.getElem?_eq_some_iff.1 hb).1
/-- What the tails are, when so many heads are done. -/
structure TailsW (k : Int) (b hs : Words) (i : Nat) (T : Words) : Prop where
  set : setW T
  len : T.length ≤ b.length
  short : ∀ x ∈ T, x.length ≤ 1000
  cuts : ∀ c : Int, (∀ j (h : j < hs.length), j < i → c ≤ k - ((hs[j]'h).length : Int)) → cutsW T c = cutsW b c
theorem cutW_le (x : List UInt8) (k : Int) : (cutW x k).length ≤ x.length := by unfold cutW; rw [List.length_take]; omega
theorem TailsW.next {k : Int} {b hs T : Words} {i : Nat} (h : TailsW k b hs i T) (hi : i < hs.length) (ho : hs.Pairwise fun x y => x.length ≤ y.length) :
    cutsW T (k - ((hs[i]'hi).length : Int)) = cutsW b (k - ((hs[i]'hi).length : Int)) ∧ TailsW k b hs (i + 1) (cutsW b (k - ((hs[i]'hi).length : Int))) := by
  have e : cutsW T (k - ((hs[i]'hi).length : Int)) = cutsW b (k - ((hs[i]'hi).length : Int)) := h.cuts _ (fun j hj hji => by
    have := List.pairwise_iff_getElem.1 ho j i hj hi hji
    omega)
  refine ⟨e, set_cutsW _ _, cutsW_len _ _, fun x hx => ?_, fun c hc => cuts_cuts (hc i hi (Nat.lt_succ_self i))⟩
  rw [← e] at hx
  obtain ⟨y, hy, rfl⟩ := mem_cutsW.1 hx
  exact Nat.le_trans (cutW_le _ _) (h.short y hy)
theorem CatGot.made {l : Words} {w w' : World} {v : Value} (hl : l.length ≤ 4096) (hs : strsAt w' v l) (hf : Fr [] w w') : CatGot l w (.returned (.tuple #[v, .bool true])) w' :=
  ⟨v, by rw [decide_eq_true hl], by rw [if_pos hl]; exact hs, hf⟩
theorem CatGot.no {l : Words} {w w' : World} (hl : 4096 < l.length) (hf : Fr [] w w') : CatGot l w (.returned (.tuple #[.slice none 0 0, .bool false])) w' :=
  ⟨.slice none 0 0, by rw [decide_eq_false (by omega)], by rw [if_neg (by omega)]; exact cellsAt.nil _, hf⟩
def CatRel (w2 : World) (k : Int) (b hs : Words) (p mb : Nat) (tv iv : Value) (wx : World) : Prop :=
  ∃ (i : Nat) (T : Words) (fv : Value), i ≤ hs.length ∧ iv = .int .i64 (i : Int) ∧ TailsW k b hs i T ∧ strsAt wx tv T ∧ TyAt wx w2.heap.size p mb 1 (prodW k b (hs.take i)) fv ∧ (fndW 1 (prodW k b (hs.take i))).length ≤ 4096 ∧ (prodW k b (hs.take i)).length ≤ i * 4096 ∧ Fr [] w2 wx
set_option maxRecDepth 100000 in
set_option maxHeartbeats 1000000 in
theorem prog_wcat : ProgWCat := by
  intro k a b v u w hk1 hk2 ha hb sa sb sha shb
  obtain ⟨a0, c0, rfl, -, -⟩ := ha.form
  obtain ⟨a1, c1, rfl, -, -⟩ := hb.form
  have hcut := pcuts a k _ w ha sa (by have := sha.1; omega)
  obtain ⟨H, hH⟩ : ∃ H, H = cutsW a k := ⟨_, rfl⟩
  have hHl : H.length ≤ 100000 := by rw [hH]; exact Nat.le_trans (cutsW_len _ _) sha.1
  have hHx : ∀ x ∈ H, x.length ≤ 1000 ∧ -9223372036854775808 ≤ k - (x.length : Int) := fun x hx => by
    rw [hH] at hx
    obtain ⟨y, hy, rfl⟩ := mem_cutsW.1 hx
    have h1 := sha.2 y hy
    have h2 := cutW_le y k
    refine ⟨by omega, ?_⟩
    unfold cutW
    rw [List.length_take]
    omega
  rw [← hH] at hcut
  have HCUT := Lib.hid hcut
  have HHE := Lib.hid hH
  have HHX := Lib.hid hHx
  have HB := Lib.hid hb
  have HTW := Lib.hid (show ∀ hs, TailsW k b hs 0 b from fun hs => ⟨sb, Nat.le_refl _, shb.2, fun c _ => rfl⟩)
  have HBL := Lib.hid shb.1
  clear hcut hH hHx ha hb sa sb sha shb
  go_enter Try.func19, Try.ntmps19
  go_upto_region 4 with (first
    | (go_at_call 27; refine HCUT.out.mono ?_; rintro e w1 ⟨hbk, hc, rfl, hcc, hcm, hge, hs1, hfz, hlt, hf1⟩; have HSO := Lib.hid (psortS H hbk hc w1 hs1 hfz hlt hcc hcm (by omega)); have HF1 := Lib.hid hf1; have HGE := Lib.hid hge; clear hs1 hfz hlt hf1)
    | (go_at_call 28; unfold FV_len at HSO; refine HSO.out.mono ?_; rintro e w2 ⟨rfl, hs, hby, hs2, hf2⟩; have HF2 := Lib.hid (HF1.out.trans hf2 (by simp) (n := []) (fun i hi hlt => by simp at hi; have := HGE.out; omega)); have HCO := Lib.hid (pcount_any 1 [] _ w2 (by decide) (by decide) (sets_nil w2) (by simp) (by simp)); have HS2 := Lib.hid hs2; have HBY := Lib.hid hby; clear hs2 hf2 hby)
    | (go_at_call 21; refine HCO.out.mono ?_; rintro e w3 ⟨p, mb, fv, rfl, hT3, hF3⟩; have HT3 := Lib.hid hT3; have HF3 := Lib.hid hF3; clear hT3 hF3))
  have hmem : ∀ x, x ∈ hs ↔ x ∈ cutsW a k := fun x => by rw [HBY.out.1.mem_iff, HHE.out]
  have hsl : hs.length = H.length := HBY.out.1.length_eq
  have HM := Lib.hid hmem
  have HSL := Lib.hid hsl
  have HORD := Lib.hid HBY.out.2
  clear hmem hsl HSO HCO HCUT
  go_wp2_with fail
  go_loopw [9, 22] (CatRel w2 k b hs p mb) (fun _ iv _ => hs.length - (intOf iv).toNat)
  case atStart => exact ⟨0, b, fv, Nat.zero_le _, rfl, HTW.out hs, (HB.out.below HF2.out).below HF3.out, HT3.out, by simp [prodW, fndW, fndR], by simp [prodW], HF3.out⟩
  case round =>
    obtain ⟨i, T, fw, hi, rfl, hTW, hst, hTy, hfl, hpl, hF⟩ := hrel
    by_cases hin : i < hs.length
    · have hiH : i < H.length := by rw [← HSL.out]; exact hin
      have hd1 : decide (i < H.length) = true := decide_eq_true hiH
      obtain ⟨at1, ct1, rfl, -, -⟩ := hst.form
      obtain ⟨b', off', e', hc'⟩ := str_cell (HS2.out.below hF) i hin
      cases e'
      rw [Nat.zero_add] at hc'
      obtain ⟨hTe, hTn⟩ := hTW.next hin HORD.out
      have hxH : hs[i]'hin ∈ H := HBY.out.1.mem_iff.1 (List.getElem_mem hin)
      obtain ⟨hx1, hx2⟩ := HHX.out _ hxH
      have hxa : hs[i]'hin ∈ cutsW a k := by rw [← HHE.out]; exact hxH
      have hrow := row_le (b := b) hxa
      have htk : hs.take (i + 1) = hs.take i ++ [hs[i]'hin] := List.take_succ_eq_append_getElem hin
      have hpr : prodW k b (hs.take (i + 1)) = prodW k b (hs.take i) ++ rowsW k b (hs[i]'hin) := by rw [htk, prodW_snoc]
      have hcutT := pcuts T (k - ((hs[i]'hin).length : Int)) _ wr hst hTW.set (by have := hTW.len; have := HBL.out; omega)
      rw [hTe] at hcutT
      obtain ⟨x, hxe⟩ : ∃ x, x = hs[i]'hin := ⟨_, rfl⟩
      rw [← hxe] at hc' hTn hx1 hx2 hrow hpr hcutT
      obtain ⟨T', hT'⟩ : ∃ T', T' = cutsW b (k - (x.length : Int)) := ⟨_, rfl⟩
      rw [← hT'] at hTn hrow hcutT
      have hrw : rowsW k b x = T'.map fun y => x ++ y := by unfold rowsW; rw [hT']
      rw [hrw] at hpr
      have hTl : T'.length ≤ 100000 := Nat.le_trans hTn.len HBL.out
      have HTN := Lib.hid hTn
      have HROW := Lib.hid hrow
      have HPR := Lib.hid hpr
      have HCT := Lib.hid hcutT
      have HTY := Lib.hid hTy
      have HFL := Lib.hid hfl
      have HPL := Lib.hid hpl
      have HF := Lib.hid hF
      have HIN := Lib.hid hin
      clear hTe hTW hxH hxa htk hxe hT' hrw hst hTn hrow hpr hcutT hTy hfl hpl hF hi
      by_cases hgt : 4096 < T'.length
      · have hd2 : decide ((4096 : Int) < (T'.length : Int)) = true := decide_eq_true (by omega)
        go_wp2_with (go_at_call 27; refine HCT.out.mono ?_; rintro e w4 ⟨tb, tc, rfl, htc, htm, htg, hs4, hfz4, hlt4, hf4⟩)
        go_ret2
        exact CatGot.no (Nat.lt_of_lt_of_le hgt HROW.out) ((HF2.out.trans HF.out (by simp) (n := []) (by simp)).trans hf4 (by simp) (by simp))
      · have hd2 : decide ((4096 : Int) < (T'.length : Int)) = false := decide_eq_false (by omega)
        have hTl2 : T'.length ≤ 4096 := by omega
        obtain ⟨L5, hL5⟩ : ∃ L, L = T'.map fun y => x ++ y := ⟨_, rfl⟩
        have HL5 := Lib.hid hL5
        rw [← hL5] at HPR
        have hl5 : L5.length = T'.length := by rw [hL5, List.length_map]
        have hpl2 : (prodW k b (hs.take i)).length + L5.length ≤ 2000000000 := by
          have h1 := HPL.out
          have h2 : i ≤ 100000 := by have := HSL.out; have := HIN.out; omega
          omega
        have hxs : ∀ y ∈ T', x.length + y.length ≤ 9223372036854775807 := fun y hy => by have := HTN.out.short y hy; omega
        have hys : ∀ z ∈ L5, z.length ≤ maxLen := fun z hz => by
          rw [hL5] at hz
          obtain ⟨y, hy, rfl⟩ := List.mem_map.1 hz
          have := HTN.out.short y hy
          rw [List.length_append]
          simp only [maxLen]
          omega
        obtain ⟨P1, hP1⟩ : ∃ P, P = prodW k b (hs.take (i + 1)) := ⟨_, rfl⟩
        have HP1 := Lib.hid hP1
        have HPL2 := Lib.hid hpl2
        have HXS := Lib.hid hxs
        have HYS := Lib.hid hys
        have hfle : (fndW 1 P1).length ≤ (catW k a b).length := by
          rw [hP1]
          exact found_le (fun y hy => (HM.out y).1 (List.mem_of_mem_take hy))
        have hp1l : P1.length ≤ (i + 1) * 4096 := by
          have h1 := HPL.out
          rw [hP1, HPR.out, List.length_append]
          omega
        have HFLE := Lib.hid hfle
        have HP1L := Lib.hid hp1l
        have HGT := Lib.hid hgt
        have hbeh : Hid (∀ v wx, strsAt wx v T' → T'.length ≤ 2000000000 → (∀ y ∈ T', x.length + y.length ≤ 9223372036854775807) → Calls Try.prog 32 #[encStr x, v] wx (NewL L5 wx)) := Lib.hid (fun v wx h1 h2 h3 => by rw [HL5.out]; exact pbehind x T' v wx h1 h2 h3)
        clear hP1 hpl2 hxs hys hfle hp1l hgt hTl hTl2 hL5 hl5
        go_upto_region 11 with (first
          | (go_at_call 27; refine HCT.out.mono ?_; rintro e w4 ⟨tb, tc, rfl, htc, htm, htg, hs4, hfz4, hlt4, hf4⟩; have HBH := Lib.hid (hbeh.out _ w4 hs4 (by have := HGT.out; omega) HXS.out); have HS4 := Lib.hid hs4; have HF4 := Lib.hid hf4; have HTG := Lib.hid htg; clear hs4 hfz4 hlt4 hf4 htg)
          | (go_at_call 32; refine HBH.out.mono ?_; rintro e w5 ⟨nb, nc, rfl, hnc, hnm, hng, hs5, hfz5, hlt5, hf5⟩; have HF5 := Lib.hid hf5; have HT5 := Lib.hid ((HTY.out.fr HF4.out).fr hf5); have HAD := Lib.hid (padd_any w2.heap.size p mb 1 (prodW k b (hs.take i)) L5 fw _ w5 (by decide) (by decide) ((HTY.out.fr HF4.out).fr hf5) (fun w' hf' => cellsAt.kept hs5 hf' (fun q hq _ _ hm => by
              have h1 := HTY.out.lt q hm
              have h2 := HF4.out.size
              simp [Value.ownBlock] at hq
              omega)) (by have h1 := HF.out.size; have h2 := HF4.out.size; have h3 := hf5.size; omega) HPL2.out HYS.out); clear hs5 hfz5 hlt5 hf5 hng)
          | (go_at_call 31; refine HAD.out.mono ?_; rintro e w6 ⟨rfl, fv6, hT6, hf6, hsub6⟩; have HT6 := Lib.hid hT6; have HF6 := Lib.hid hf6; clear hT6 hf6 hsub6))
        have hT7 := HT6.out
        rw [← HPR.out, ← HP1.out] at hT7
        obtain ⟨a6, c6, rfl, hc6, hm6⟩ := owns_slice hT7.row
        have hob := hT7.obj
        obtain ⟨nf, hnf⟩ : ∃ n, n = (fndW 1 P1).length := ⟨_, rfl⟩
        have HNF := Lib.hid hnf
        rw [← hnf] at hob hc6
        obtain ⟨d1, d2, d3, g1, g2, g3⟩ := three_of_heap hob
        have hf25 : Fr [] w2 w5 := (HF.out.trans HF4.out (by simp) (n := []) (by simp)).trans HF5.out (by simp) (by simp)
        have HF26 := Lib.hid (Fr.new hf25 HF6.out (fun q hq => HTY.out.ge q hq))
        have HT7 := Lib.hid hT7
        have HST6 : Hid (strsAt w6 (.slice (some ⟨tb, 0, none⟩) T'.length tc) T') := Lib.hid (cellsAt.kept (cellsAt.below HS4.out HF5.out) HF6.out (fun q hq _ _ hm => by
          have h1 := HTY.out.lt q hm
          have h2 := HTG.out
          simp [Value.ownBlock] at hq
          omega))
        clear hnf hT7 hob hf25
        by_cases hg6 : 4096 < nf
        · have hd3 : decide ((4096 : Int) < (nf : Int)) = true := decide_eq_true (by omega)
          have HG6 := Lib.hid hg6
          clear hg6
          go_wp2_with fail
          go_ret2
          exact CatGot.no (Nat.lt_of_lt_of_le (by rw [← HNF.out]; exact HG6.out) HFLE.out) (HF2.out.trans HF26.out (by simp) (by simp))
        · have hd3 : decide ((4096 : Int) < (nf : Int)) = false := decide_eq_false (by omega)
          have HG6 := Lib.hid hg6
          clear hg6
          go_wp2_with fail
          refine ⟨⟨i + 1, T', .slice a6 (fndW 1 P1).length c6, HIN.out, by go_num, HTN.out, HST6.out, ?_, ?_, ?_, HF26.out⟩, ?_⟩
          · rw [← HP1.out]; exact HT7.out
          · rw [← HP1.out, ← HNF.out]; have := HG6.out; omega
          · rw [← HP1.out]; exact HP1L.out
          · simp [intOf]; have := HIN.out; omega
    · have hd1 : decide (i < H.length) = false := decide_eq_false (by rw [← HSL.out]; exact hin)
      obtain rfl : i = hs.length := by omega
      rw [List.take_length] at hTy hfl
      have hfin := found_all (k := k) (b := b) HM.out
      have hsrt : sortW (fndW 1 (prodW k b hs)) = catW k a b := by rw [fnd_one, prod_all HM.out]
      have hset := pset_any w2.heap.size p mb 1 (prodW k b hs) fw wr hTy (by omega)
      have HSET := Lib.hid hset
      have HTY := Lib.hid hTy
      have HF := Lib.hid hF
      have HSRT := Lib.hid hsrt
      have HLE := Lib.hid (show (catW k a b).length ≤ 4096 by rw [← hfin]; exact hfl)
      obtain ⟨at1, ct1, rfl, -, -⟩ := hst.form
      clear hset hTy hF hsrt hfin hfl hpl hst hTW hi
      go_wp2_with (go_at_call 22; refine HSET.out.mono ?_; rintro e w6 hg; have HG := Lib.hid (pdone HTY.out HF.out HSRT.out hg); clear hg; obtain ⟨v2, rfl, hs2, hf2⟩ := HG.out; obtain ⟨a2, c2, rfl, -, -⟩ := hs2.form)
      go_ret2
      exact CatGot.made HLE.out hs2 (HF2.out.trans hf2 (by simp) (by simp))
end Go.Proofs.Ytapkohdbnfaacaa
