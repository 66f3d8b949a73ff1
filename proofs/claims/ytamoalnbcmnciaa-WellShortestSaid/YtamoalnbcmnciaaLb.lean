/- Several texts in one: WrH, WrI. -/
import Derived.Test.YtamoalnbcmnciaaMm
import Derived.Test.YtamoalnbcmnciaaPb
import Derived.Test.YtamoalnbcmnciaaRr
/-! The law's fill (layer 15). -/
namespace Go.Proofs.Ytamoalnbcmnciaa
open Go.RowKit

def sl7 (b : Nat) : Value := .slice (some ⟨b, 0, none⟩) 7 7
/-- Rows of seven marks, each in its block. -/
def RowsAt (w : World) (bs : List Nat) (ms : List (List Bool)) : Prop := ms.length = bs.length ∧ Sevens ms ∧ ∀ i (h : i < bs.length) (h' : i < ms.length), boolRow w (bs[i]'h) (ms[i]'h')
def lensAt (w : World) (v : Value) (bs : List Nat) (ms : List (List Bool)) : Prop := cellsAt w v (bs.map sl7) ∧ RowsAt w bs ms
theorem RowsAt.below {w w' : World} {bs : List Nat} {ms : List (List Bool)} (h : RowsAt w bs ms) (hf : Fr [] w w') : RowsAt w' bs ms := ⟨h.1, h.2.1, fun i a b => (h.2.2 i a b).below hf⟩
theorem lensAt.below {w w' : World} {v : Value} {bs : List Nat} {ms : List (List Bool)} (h : lensAt w v bs ms) (hf : Fr [] w w') : lensAt w' v bs ms := ⟨cellsAt.below h.1 hf, h.2.below hf⟩
theorem lens_cell {w : World} {a0 : Option Addr} {n cap : Nat} {bs : List Nat} {ms : List (List Bool)} (h : lensAt w (.slice a0 n cap) bs ms) (k : Nat) (hk : k < bs.length) : ∃ b off, a0 = some ⟨b, off, none⟩ ∧ w.cell? ⟨b, off + k, none⟩ = some (.slice (some ⟨bs[k]'hk, 0, none⟩) 7 7) := by
  obtain ⟨b, off, rfl, -, hx⟩ := cellsAt.get h.1 (i := k) (by rw [List.length_map]; exact hk)
  exact ⟨b, off, rfl, by have := hx k (by rw [List.length_map]; exact hk); rw [List.getElem_map] at this; exact this⟩
def RFill (o : List Bool) (right : List Int) (w : World) (e : Ending) (w' : World) : Prop := ∃ b f, w.heap.size ≤ b ∧ e = .returned (.slice (some ⟨b, 0, none⟩) 7 7) ∧ boolRow w' b f ∧ f.length = 7 ∧ (∀ n, n < 7 → (marked f n ↔ fillP o right n)) ∧ Fr [] w w'
def Fi1Rel (o : List Bool) (right : List Int) (w : World) (nv iv : Value) (wx : World) : Prop := ∃ (i b : Nat) (f : List Bool), i ≤ right.length ∧ nv = .slice (some ⟨b, 0, none⟩) 7 7 ∧ iv = .int .i64 (i : Int) ∧ w.heap.size ≤ b ∧ boolRow wx b f ∧ f.length = 7 ∧ (∀ n, n < 7 → (marked f n ↔ fillP o (right.take i) n)) ∧ Fr [] w wx
def Fi2Rel (o now : List Bool) (s : Int) (b2 : Nat) (w1 : World) (iv : Value) (wx : World) : Prop := ∃ (n : Nat) (f : List Bool), n ≤ 7 ∧ iv = .int .i64 (n : Int) ∧ boolRow wx b2 f ∧ f.length = 7 ∧ (∀ m, m < 7 → (marked f m ↔ ∃ n' k, n' < n ∧ m = n' + k ∧ marked now n' ∧ oneP o s k)) ∧ Fr [b2] w1 wx
def Fi3Rel (o now : List Bool) (s : Int) (n b2 : Nat) (w1 : World) (iv : Value) (wx : World) : Prop := ∃ (k : Nat) (f : List Bool), n + k ≤ 7 ∧ iv = .int .i64 (k : Int) ∧ boolRow wx b2 f ∧ f.length = 7 ∧ (∀ m, m < 7 → (marked f m ↔ (∃ n' k', n' < n ∧ m = n' + k' ∧ marked now n' ∧ oneP o s k') ∨ (∃ k', k' < k ∧ m = n + k' ∧ marked now n ∧ oneP o s k'))) ∧ Fr [b2] w1 wx
set_option maxRecDepth 100000 in
set_option maxHeartbeats 8000000 in
theorem lfill_any (bs : List Nat) (ms : List (List Bool)) (lv rv : Value) (right : List Int) (w : World) (hl : lensAt w lv bs ms) (hr : intsAt w rv right) (hlen : right.length ≤ 64) (hsy : ∀ x ∈ right, x < (bs.length : Int)) :
    Calls Try.prog 27 #[lv, rv] w (RFill ms.flatten right w) := by
  obtain ⟨iB, hiB, hz0, hz1, hz2⟩ := info_parts infoBool
  obtain ⟨a0, c0, e0, hle0, hmx0⟩ := cellsAt.form hl.1
  subst e0
  obtain ⟨a1, c1, rfl, hle1, hmx1⟩ := hr.form
  rw [List.length_map] at hl hle0 ⊢
  simp only [maxLen] at hmx0
  have HLE := Lib.hid hl
  have HRI := Lib.hid hr
  have HSY := Lib.hid hsy
  obtain ⟨o, ho⟩ : ∃ o, o = ms.flatten := ⟨_, rfl⟩
  rw [← ho]
  have HO := Lib.hid ho
  obtain ⟨bn, hbn⟩ : ∃ n, n = bs.length := ⟨_, rfl⟩
  obtain ⟨rn, hrn⟩ : ∃ n, n = right.length := ⟨_, rfl⟩
  rw [← hbn] at HLE HSY hle0 ⊢
  rw [← hrn] at HRI hle1 hlen ⊢
  have HBN := Lib.hid hbn
  have HRN := Lib.hid hrn
  clear hl hr hsy ho hbn hrn
  go_enter Try.func27, Try.ntmps27
  go_upto_region 2 with (refine wpL_make rfl _ _ 31 rfl 4 iB (.bool false) 1 Try.underlying31 hiB hz0 hz1 hz2 rfl 7 rfl rfl (by decide) (by simp [maxLen]) ?_; intro w1 hh1 hf1 hs1)
  obtain ⟨b, hb⟩ : ∃ b, b = w.heap.size := ⟨_, rfl⟩
  rw [← hb] at hh1
  rw [← hb]
  have hrow : boolRow w1 b (List.replicate 7 false) := by unfold boolRow; rw [List.map_replicate]; exact hh1.out
  have c01 : w1.cell? ⟨b, 0, none⟩ = some (.bool false) := hrow.cell (i := 0) (by simp)
  have f01 := hrow.free 0
  have HROW := Lib.hid (hrow.set 0 true)
  have HFW := Lib.hid (hf1.trans (Fr.set0 w1 b 0 (.bool true)) (by simp) (n := []) (fun i hi hlt => by simp at hi; omega))
  have HGE := Lib.hid (show w.heap.size ≤ b by omega)
  clear hh1 hf1 hs1 hrow hb
  go_wp2_with fail
  go_loopw [5, 6] (Fi1Rel o right w) (fun _ iv _ => rn - (intOf iv).toNat)
  case atStart =>
    refine ⟨0, b, _, Nat.zero_le _, rfl, rfl, HGE.out, HROW.out, by simp, fun n hn => ?_, HFW.out⟩
    rw [List.take_zero]
    show marked _ n ↔ n = 0
    constructor
    · intro h
      rcases set_other h with e | h
      · exact e
      · exact (false_marked 7 n h).elim
    · rintro rfl
      exact set_marked (by simp)
  case round =>
    clear HROW HFW HGE
    obtain ⟨i, b, now, hi, rfl, rfl, hge, hrow, hnl, hmk, hf⟩ := hrel
    have hi2 : i ≤ rn := by have := HRN.out; omega
    have HGE := Lib.hid hge
    have HROW := Lib.hid hrow
    have HNL := Lib.hid hnl
    have HMK := Lib.hid hmk
    have HF := Lib.hid hf
    by_cases hin : i < rn
    · have hd1 : decide (i < rn) = true := decide_eq_true hin
      have hir : i < right.length := by have := HRN.out; omega
      obtain ⟨br, orr, rfl, p0⟩ := int_cell (HRI.out.below hf) i hir
      have HSN := Lib.hid (take_snoc hir)
      have hsx := HSY.out _ (List.getElem_mem hir)
      obtain ⟨x, hx⟩ : ∃ x, x = right[i]'hir := ⟨_, rfl⟩
      rw [← hx] at p0 HSN hsx
      have HP0 := Lib.hid p0
      clear hge hrow hnl hmk hf hx p0
      go_upto_region 7 with (refine wpL_make rfl _ _ 31 rfl 4 iB (.bool false) 1 Try.underlying31 hiB hz0 hz1 hz2 rfl 7 rfl rfl (by decide) (by simp [maxLen]) ?_; intro w2 hh2 hf2 hs2)
      obtain ⟨b2, hb2⟩ : ∃ b2, b2 = wr.heap.size := ⟨_, rfl⟩
      rw [← hb2] at hh2
      rw [← hb2]
      have HROW2 := Lib.hid (show boolRow w2 b2 (List.replicate 7 false) by unfold boolRow; rw [List.map_replicate]; exact hh2.out)
      have HLT := Lib.hid (show b < b2 by rw [hb2]; exact (Array.getElem?_eq_some_iff.1 HROW.out).1)
      have HGE2 := Lib.hid (show w.heap.size ≤ b2 by have := HGE.out; have := HLT.out; omega)
      have HF2 := Lib.hid (HF.out.trans hf2 (by simp) (n := []) (by simp))
      have HNOW := Lib.hid (HROW.out.below hf2)
      have HP2 := Lib.hid (hf2.cell HP0.out (by simp))
      have HBR := Lib.hid (show br < b2 by rw [hb2]; exact World.block_lt_of_cell? _ _ HP0.out)
      clear hh2 hf2 hs2 hb2
      have HLW := Lib.hid (show ∀ wx, Fr [b2] w2 wx → Fr [] w wx from fun wx hfx => HF2.out.trans hfx (by simp) (fun i hi hlt => by have := HGE2.out; simp at hi; omega))
      have HNB := Lib.hid (show b ∉ [b2] by have := HLT.out; simp; omega)
      have HRB := Lib.hid (show br ∉ [b2] by have := HBR.out; simp; omega)
      go_wp2_with fail
      go_loopw [8] (Fi2Rel o now x b2 w2) (fun iv _ => 7 - (intOf iv).toNat)
      case atStart =>
        refine ⟨0, _, Nat.zero_le _, rfl, HROW2.out, by simp, fun m hm => ?_, Fr.refl _ _⟩
        exact ⟨fun h => (false_marked 7 m h).elim, fun ⟨n', k, h, _⟩ => by omega⟩
      case round =>
        obtain ⟨n, f, hn, rfl, hrf, hfl, hmf, hf⟩ := hrel
        have HRF := Lib.hid hrf
        have HFL := Lib.hid hfl
        have HMF := Lib.hid hmf
        have HFN := Lib.hid hf
        clear hrf hfl hmf hf
        by_cases hn7 : n < 7
        · have hd2 : decide ((n : Int) < 7) = true := decide_eq_true (by omega)
          have hnn : n < now.length := by have := HNL.out; omega
          go_wp2_with fail
          obtain ⟨wn, hwn⟩ : ∃ wn, wn = wr := ⟨_, rfl⟩
          clear hwn
          go_loopw [9] (Fi3Rel o now x n b2 w2) (fun iv _ => 7 - (intOf iv).toNat)
          case atStart =>
            refine ⟨0, f, by omega, rfl, HRF.out, HFL.out, fun m hm => ?_, HFN.out⟩
            rw [HMF.out m hm]
            exact ⟨.inl, fun h => h.elim id (fun ⟨k', h, _⟩ => by omega)⟩
          case round =>
            obtain ⟨k, fk, hk, rfl, hrk, hfk, hmk, hf⟩ := hrel
            have HRK := Lib.hid hrk
            have HFK := Lib.hid hfk
            have HMK2 := Lib.hid hmk
            have HFN2 := Lib.hid hf
            clear hrk hfk hmk hf
            by_cases hnk : n + k < 7
            · have hd3 : decide ((n : Int) + (k : Int) < 7) = true := decide_eq_true (by omega)
              have hk7 : k < 7 := by omega
              have HSTEP := Lib.hid (show ∀ f' w', boolRow w' b2 f' → f'.length = 7 → (∀ m, m < 7 → (marked f' m ↔ marked fk m ∨ (m = n + k ∧ marked now n ∧ oneP o x k))) → Fr [b2] w2 w' → Fi3Rel o now x n b2 w2 (.int .i64 ((k + 1 : Nat) : Int)) w' from fun f' w' h1 h2 h3 h4 => by
                refine ⟨k + 1, f', by omega, rfl, h1, h2, fun m hm => ?_, h4⟩
                rw [h3 m hm, HMK2.out m hm]
                constructor
                · rintro ((q | ⟨k', hk', q⟩) | ⟨q1, q2, q3⟩)
                  · exact .inl q
                  · exact .inr ⟨k', by omega, q⟩
                  · exact .inr ⟨k, by omega, q1, q2, q3⟩
                · rintro (q | ⟨k', hk', q1, q2, q3⟩)
                  · exact .inl (.inl q)
                  · by_cases e : k' = k
                    · subst e; exact .inr ⟨q1, q2, q3⟩
                    · exact .inl (.inr ⟨k', by omega, q1, q2, q3⟩))
              have hfk7 : n + k < fk.length := by have := HFK.out; omega
              have p0 := HFN2.out.cell HP2.out HRB.out
              have y0 := (HNOW.out.kept HFN2.out HNB.out).cell hnn
              have y1 := HRK.out.cell hfk7
              have y2 := HRK.out.free (n + k)
              obtain ⟨u, hu⟩ : ∃ u, u = now[n]'hnn := ⟨_, rfl⟩
              rw [← hu] at y0
              have HU := Lib.hid (show marked now n ↔ u = true by unfold marked; rw [List.getElem?_eq_getElem hnn, ← hu]; simp)
              obtain ⟨d, hd⟩ : ∃ d, ((k : Int) == 1) = d := ⟨_, rfl⟩
              have HD := Lib.hid (show d = true ↔ k = 1 by rw [← hd, beq_iff_eq]; omega)
              have HYES := Lib.hid (show ∀ w', marked now n → oneP o x k → boolRow w' b2 (fk.set (n + k) true) → Fr [b2] w2 w' → Fi3Rel o now x n b2 w2 (.int .i64 ((k + 1 : Nat) : Int)) w' from fun w' q1 q2 h1 h4 =>
                HSTEP.out _ w' h1 (by rw [List.length_set]; exact HFK.out) (fun m hm => ⟨fun h => (set_other h).elim (fun e => .inr ⟨e, q1, q2⟩) .inl, fun h => h.elim (fun h => (set_below fk (n + k)).2 m h) (fun h => by rw [h.1]; exact set_marked hfk7)⟩) h4)
              have HNO := Lib.hid (show (marked now n → oneP o x k → False) → Fi3Rel o now x n b2 w2 (.int .i64 ((k + 1 : Nat) : Int)) wr from fun q =>
                HSTEP.out _ wr HRK.out HFK.out (fun m hm => ⟨.inl, fun h => h.elim id (fun h => (q h.2.1 h.2.2).elim)⟩) HFN2.out)
              clear hu
              by_cases h0 : 0 ≤ x
              · have hd4 : decide (0 ≤ x) = true := decide_eq_true h0
                obtain ⟨xi, rfl⟩ : ∃ xi : Nat, x = (xi : Int) := ⟨x.toNat, by omega⟩
                have hxb : xi < bs.length := by have := HBN.out; omega
                have hxm : xi < ms.length := by rw [HLE.out.2.1]; exact hxb
                have hxn : xi < bn := by have := HBN.out; omega
                have hll := HLE.out.below (HLW.out _ HFN2.out)
                obtain ⟨bl, ol, rfl, z0⟩ := lens_cell hll xi hxb
                have hrw := hll.2.2.2 xi hxb hxm
                have h7 := HLE.out.2.2.1 _ (List.getElem_mem hxm)
                have hkl : k < (ms[xi]'hxm).length := by omega
                have z1 := hrw.cell hkl
                obtain ⟨bx, hbx⟩ : ∃ bx, bx = bs[xi]'hxb := ⟨_, rfl⟩
                rw [← hbx] at z0 z1
                obtain ⟨v, hv⟩ : ∃ v, v = (ms[xi]'hxm)[k]'hkl := ⟨_, rfl⟩
                rw [← hv] at z1
                have HV := Lib.hid (show oneP o (xi : Int) k ↔ v = true by
                  unfold oneP
                  rw [Int.toNat_natCast, HO.out, seven_marked HLE.out.2.2.1 hxm hk7]
                  unfold marked
                  rw [List.getElem?_eq_getElem hkl, ← hv]
                  simp only [Option.some.injEq]
                  exact ⟨fun h => h.elim (fun h => by omega) (fun h => h.2.2), fun h => .inr ⟨by omega, by omega, h⟩⟩)
                clear hll hrw h7 hkl hbx hv h0 hsx
                cases u with
                | true =>
                  cases v with
                  | true =>
                    go_wp2_with fail
                    refine ⟨?_, by simp [intOf]; omega⟩
                    exact HYES.out _ (HU.out.2 rfl) (HV.out.2 rfl) (HRK.out.set _ _) (HFN2.out.trans (Fr.set0 _ _ _ _) (fun i hi _ => hi) (by simp))
                  | false =>
                    go_wp2_with fail
                    refine ⟨?_, by simp [intOf]; omega⟩
                    exact HNO.out (fun _ q => by have := HV.out.1 q; cases this)
                | false =>
                  go_wp2_with fail
                  refine ⟨?_, by simp [intOf]; omega⟩
                  exact HNO.out (fun q _ => by have := HU.out.1 q; cases this)
              · have hd4 : decide (0 ≤ x) = false := decide_eq_false h0
                have HV := Lib.hid (show oneP o x k ↔ d = true by
                  rw [HD.out]
                  exact ⟨fun h => h.elim (fun h => h.2) (fun h => (h0 h.1).elim), fun h => .inl ⟨by omega, h⟩⟩)
                clear h0 hsx
                cases u with
                | true =>
                  cases d with
                  | true =>
                    go_wp2_with fail
                    refine ⟨?_, by simp [intOf]; omega⟩
                    exact HYES.out _ (HU.out.2 rfl) (HV.out.2 rfl) (HRK.out.set _ _) (HFN2.out.trans (Fr.set0 _ _ _ _) (fun i hi _ => hi) (by simp))
                  | false =>
                    go_wp2_with fail
                    refine ⟨?_, by simp [intOf]; omega⟩
                    exact HNO.out (fun _ q => by have := HV.out.1 q; cases this)
                | false =>
                  go_wp2_with fail
                  refine ⟨?_, by simp [intOf]; omega⟩
                  exact HNO.out (fun q _ => by have := HU.out.1 q; cases this)
            · have hd3 : decide ((n : Int) + (k : Int) < 7) = false := decide_eq_false (by omega)
              have HNK := Lib.hid (show n + k = 7 by omega)
              clear hnk
              go_wp2_with fail
              refine ⟨⟨n + 1, fk, by omega, by go_num, HRK.out, HFK.out, fun m hm => ?_, HFN2.out⟩, by simp [intOf]; omega⟩
              rw [HMK2.out m hm]
              constructor
              · rintro (⟨n', k', q0, q1, q2, q3⟩ | ⟨k', q0, q1, q2, q3⟩)
                · exact ⟨n', k', by omega, q1, q2, q3⟩
                · exact ⟨n, k', by omega, q1, q2, q3⟩
              · rintro ⟨n', k', q0, q1, q2, q3⟩
                by_cases e : n' = n
                · subst e; exact .inr ⟨k', by have := HNK.out; omega, q1, q2, q3⟩
                · exact .inl ⟨n', k', by omega, q1, q2, q3⟩
        · have hd2 : decide ((n : Int) < 7) = false := decide_eq_false (by omega)
          have HN7 := Lib.hid (show n = 7 by omega)
          clear hn7
          go_wp2_with fail
          refine ⟨⟨i + 1, b2, f, by omega, rfl, by go_num, HGE2.out, HRF.out, HFL.out, fun m hm => ?_, HLW.out _ HFN.out⟩, by simp [intOf]; omega⟩
          rw [HMF.out m hm, HSN.out, fillP_snoc]
          constructor
          · rintro ⟨n', k', q0, q1, q2, q3⟩
            exact ⟨n', k', q1, (HMK.out n' (by have := HN7.out; omega)).1 q2, q3⟩
          · rintro ⟨n', k', q1, q2, q3⟩
            exact ⟨n', k', by have := HN7.out; omega, q1, (HMK.out n' (by omega)).2 q2, q3⟩
    · have hd1 : decide (i < rn) = false := decide_eq_false hin
      have HE := Lib.hid (show right.take i = right from List.take_of_length_le (by have := HRN.out; omega))
      clear hge hrow hnl hmk hf hin
      go_wp2_with fail
      go_ret
      refine ⟨b, now, HGE.out, rfl, HROW.out, HNL.out, fun n hn => ?_, HF.out⟩
      rw [HMK.out n hn, HE.out]
end Go.Proofs.Ytamoalnbcmnciaa

/-! The law's lengths (layer 15). -/
namespace Go.Proofs.Ytamoalnbcmnciaa
open Go.RowKit

theorem infoBs : (Try.prog.info? 31).map (fun i => (i.zero, i.size, i.bytes)) = some (some (.slice none 0 0), 1, 24) := by kernel_rfl
theorem RowsAt.set {w : World} {bs : List Nat} {ms : List (List Bool)} (h : RowsAt w bs ms) (hnd : bs.Nodup) (i : Nat) (hi : i < bs.length) (hi' : i < ms.length) (n : Nat) : RowsAt (w.setCell ⟨bs[i]'hi, n, none⟩ (.bool true)) bs (ms.set i ((ms[i]'hi').set n true)) := by
  refine ⟨by rw [List.length_set]; exact h.1, sevens_set h.2.1 (by rw [List.length_set]; exact h.2.1 _ (List.getElem_mem hi')), fun j hj hj' => ?_⟩
  have hj2 : j < ms.length := by rw [List.length_set] at hj'; exact hj'
  by_cases e : j = i
  · subst e
    rw [List.getElem_set_self]
    exact (h.2.2 j hj hj2).set n true
  · rw [List.getElem_set_ne (fun q => e q.symm)]
    refine (h.2.2 j hj hj2).kept (Fr.set0 _ _ _ _) ?_
    have hp := List.pairwise_iff_getElem.1 hnd
    simp only [List.mem_singleton]
    rcases Nat.lt_or_gt_of_ne e with q | q
    · exact hp j i hj hi q
    · exact fun e => hp i j hi hj q e.symm
theorem RowsAt.kept {w w' : World} {bs L : List Nat} {ms : List (List Bool)} (h : RowsAt w bs ms) (hf : Fr L w w') (hL : ∀ b ∈ bs, b ∉ L) : RowsAt w' bs ms := ⟨h.1, h.2.1, fun i a b => (h.2.2 i a b).kept hf (hL _ (List.getElem_mem a))⟩
def ApRel (w0 : World) (N : Nat) (ov iv : Value) (wx : World) : Prop := ∃ (k : Nat) (bs : List Nat), k ≤ N ∧ iv = .int .i64 (k : Int) ∧ bs.length = k ∧ wx.ownsRow w0.heap.size 31 1 ov k (bs.map sl7) ∧ (∀ b ∈ bs, w0.heap.size ≤ b ∧ boolRow wx b (List.replicate 7 false)) ∧ bs.Nodup ∧ Fr [] w0 wx
def Ln1Rel (g : GramG) (bs : List Nat) (w1 : World) (iv : Value) (wx : World) : Prop := ∃ (k : Nat) (ms : List (List Bool)), k ≤ 7 * g.names.length + 1 ∧ iv = .int .i64 (k : Int) ∧ RowsAt wx bs ms ∧ ms.flatten = iterL (lenR g) k (List.replicate (g.names.length * 7) false) ∧ Fr bs w1 wx
def Ln2Rel (g : GramG) (bs : List Nat) (o0 : List Bool) (w1 : World) (iv : Value) (wx : World) : Prop := ∃ (i : Nat) (ms : List (List Bool)), i ≤ g.rules.length ∧ iv = .int .i64 (i : Int) ∧ RowsAt wx bs ms ∧ lenR g o0 = (g.rules.drop i).foldl lenS ms.flatten ∧ Fr bs w1 wx
def Ln3Rel (r : RuleG) (bs : List Nat) (o0 f : List Bool) (bf : Nat) (w1 : World) (iv : Value) (wx : World) : Prop := ∃ (n : Nat) (ms : List (List Bool)), n ≤ 7 ∧ iv = .int .i64 (n : Int) ∧ RowsAt wx bs ms ∧ ms.flatten = (List.range n).foldl (lenS1 o0 r) o0 ∧ boolRow wx bf f ∧ Fr bs w1 wx
/-- What lengths gives. -/
def RLenL (g : GramG) (w : World) (e : Ending) (w' : World) : Prop := ∃ v bs ms, e = .returned v ∧ lensAt w' v bs ms ∧ ms.length = g.names.length ∧ ms.flatten = iterL (lenR g) (7 * g.names.length + 1) (List.replicate (g.names.length * 7) false) ∧ Fr [] w w'
set_option maxRecDepth 100000 in
set_option maxHeartbeats 8000000 in
theorem llengths_any (g : GramG) (gv : Value) (w : World) (hg : gramAt w gv g) (hv : ValidG g) : Calls Try.prog 16 #[gv] w (RLenL g w) := by
  obtain ⟨iB, hiB, hz0, hz1, hz2⟩ := info_parts infoBool
  obtain ⟨iS, hiS, hS0, hS1, hS2⟩ := info_parts infoBs
  obtain ⟨a1, c1, a2, c2, a3, c3, rfl, ⟨-, q1, p1⟩, ⟨-, q2, p2⟩, ⟨h3, q3, p3⟩⟩ := hg.parts
  have hb := heap_alloc_new w (.cells #[.slice a1 g.names.length c1, .slice a2 g.terms.length c2, .slice a3 g.rules.length c3] 25)
  have hf0 := Fr.alloc w (.cells #[.slice a1 g.names.length c1, .slice a2 g.terms.length c2, .slice a3 g.rules.length c3] 25)
  obtain ⟨w0, hw0⟩ : ∃ w1, w1 = w.alloc (.cells #[.slice a1 g.names.length c1, .slice a2 g.terms.length c2, .slice a3 g.rules.length c3] 25) := ⟨_, rfl⟩
  have hs0 : w0.heap.size = w.heap.size + 1 := by rw [hw0, World.size_alloc]
  obtain ⟨q0, hq0⟩ : ∃ q0, q0 = w.heap.size := ⟨_, rfl⟩
  rw [← hw0] at hb hf0
  rw [← hq0] at hb
  have hsm : g.names.length ≤ 256 := by have := hv.syms; omega
  have hrs : g.rules.length ≤ 4096 := hv.few
  have HVR := Lib.hid hv.rules
  obtain ⟨N, hN⟩ : ∃ n, n = g.names.length := ⟨_, rfl⟩
  obtain ⟨n2, hn2⟩ : ∃ n, n = g.terms.length := ⟨_, rfl⟩
  obtain ⟨n3, hn3⟩ : ∃ n, n = g.rules.length := ⟨_, rfl⟩
  rw [← hN, ← hn2, ← hn3] at hb hw0
  rw [← hN] at hsm q1 HVR
  rw [← hn3] at hrs q3 h3
  rw [← hN, ← hn2, ← hn3]
  have HB := Lib.hid hb
  have HF0 := Lib.hid hf0
  have HW0 := Lib.hid hw0
  have HQ0 := Lib.hid hq0
  have HS0 := Lib.hid hs0
  have H3 := Lib.hid h3
  have HN := Lib.hid hN
  have HN3 := Lib.hid hn3
  clear hb hf0 hw0 hq0 hs0 h3 hg hv hN hn2 hn3 q2 p2
  go_enter Try.func16, Try.ntmps16
  go_upto_region 1 with fail
  rw [← HW0.out, ← HQ0.out]
  go_wp2_with fail
  go_loopw [3, 4] (ApRel w0 N) (fun _ iv _ => N - (intOf iv).toNat)
  case atStart => exact ⟨0, [], Nat.zero_le _, rfl, rfl, ⟨rfl, .inl ⟨rfl, rfl⟩⟩, by simp, by simp, Fr.refl _ _⟩
  case round =>
    obtain ⟨k, bs, hk, rfl, hbl, hown, hrows, hnd, hf⟩ := hrel
    have HBL := Lib.hid hbl
    have HROWS := Lib.hid hrows
    have HND := Lib.hid hnd
    have HF := Lib.hid hf
    have HBX := Lib.hid (hf.heap HB.out (by simp))
    obtain ⟨x0, x1, x2, -⟩ := three_of_heap HBX.out
    obtain ⟨ao, co, rfl, hco, hmo⟩ := owns_slice hown
    have HOWN := Lib.hid hown
    by_cases hkn : k < N
    · have hd1 : decide (k < N) = true := decide_eq_true hkn
      have hk256 : k ≤ 256 := by omega
      have hbase : w0.heap.size ≤ wr.heap.size := hf.size
      clear hbl hrows hnd hf hown
      go_wp2_with (first
        | (at_builtin; have := hh2; refine wpL_append1 rfl _ _ 36 rfl w0.heap.size 31 iS (.slice none 0 0) 24 Try.underlying36 hiS hS0 hS1 hS2 rfl (.slice ao k co) k (bs.map sl7) rfl (owns_kept HOWN.out hf2 (by simp)) (sl7 wr.heap.size) rfl rfl (by omega) (by simp [maxLen]; omega) (by have := hf2.size; omega) ?_; intro v3 w3 hown3 hf3 _)
        | (refine wpL_make rfl _ _ 31 rfl 4 iB (.bool false) 1 Try.underlying31 hiB hz0 hz1 hz2 rfl 7 rfl rfl (by decide) (by simp [maxLen]) ?_; intro w2 hh2 hf2 hs2))
      have hb2 : boolRow w2 wr.heap.size (List.replicate 7 false) := by unfold boolRow; rw [List.map_replicate]; exact hh2.out
      have hown2 := owns_kept HOWN.out hf2 (by simp)
      refine ⟨⟨k + 1, bs ++ [wr.heap.size], by omega, by go_num, by rw [List.length_append, HBL.out]; rfl, by rw [List.map_append]; exact hown3, ?_, ?_, Fr.own (HF.out.trans hf2 (by simp) (by simp)) hown2 hf3⟩, by simp [intOf]; omega⟩
      · intro b hbm
        rcases List.mem_append.1 hbm with hbm | hbm
        · obtain ⟨g1, g2⟩ := HROWS.out b hbm
          have g3 := g2.below hf2
          exact ⟨g1, g3.kept hf3 (heap_apart g3 hown2 (by decide))⟩
        · obtain rfl : b = wr.heap.size := by simpa using hbm
          exact ⟨hbase, hb2.kept hf3 (heap_apart hb2 hown2 (by decide))⟩
      · rw [List.nodup_append]
        refine ⟨HND.out, by simp, fun x hx y hy e => ?_⟩
        obtain rfl : y = wr.heap.size := by simpa using hy
        have := (Array.getElem?_eq_some_iff.1 (HROWS.out x hx).2).1
        omega
    · have hd1 : decide (k < N) = false := decide_eq_false hkn
      have hkN : k = N := by omega
      subst hkN
      have HCELL := Lib.hid (show cellsAt wr (.slice ao k co) (bs.map sl7) from by
        have h1 := HOWN.out
        have : (bs.map sl7).length = k := by rw [List.length_map, hbl]
        rw [← this] at h1 ⊢
        exact cellsAt_of_owns h1)
      have HNB := Lib.hid (show ∀ j, (Value.slice ao k co).ownBlock = some j → j ∉ bs from fun j hj hm => by
        exact heap_apart (hrows j hm).2 HOWN.out (by decide) (Option.mem_toList.2 hj))
      have HR0 := Lib.hid (show RowsAt wr bs (List.replicate k (List.replicate 7 false)) from ⟨by rw [List.length_replicate, hbl], sevens_first k, fun i a b => by rw [List.getElem_replicate]; exact (hrows _ (List.getElem_mem a)).2⟩)
      have HGB := Lib.hid (show ∀ b ∈ bs, w.heap.size < b ∧ b < wr.heap.size from fun b hm => ⟨by have := (hrows b hm).1; have := HS0.out; omega, (Array.getElem?_eq_some_iff.1 (hrows b hm).2).1⟩)
      have HFW := Lib.hid (HF0.out.trans hf (by simp) (n := []) (by simp))
      clear hbl hrows hnd hf hown hkn
      go_wp2_with fail
      clear x0 x1 x2
      obtain ⟨w1, hw1⟩ : ∃ w1, w1 = wr := ⟨_, rfl⟩
      rw [← hw1] at HCELL HR0 HGB HFW HBX ⊢
      have HLW := Lib.hid (show ∀ wx, Fr bs w1 wx → Fr [] w wx from fun wx hfx => HFW.out.trans hfx (by simp) (fun i hi hlt => by have := (HGB.out i hi).1; omega))
      have HQB := Lib.hid (show q0 ∉ bs from fun hm => by have := (HGB.out q0 hm).1; have := HQ0.out; omega)
      have HCK := Lib.hid (show ∀ wx, Fr bs w1 wx → cellsAt wx (.slice ao k co) (bs.map sl7) from fun wx hfx => HCELL.out.kept hfx (fun j hj _ _ => HNB.out j hj))
      clear hw1
      go_loopw [5] (Ln1Rel g bs w1) (fun iv _ => 7 * k + 1 - (intOf iv).toNat)
      case atStart => exact ⟨0, _, Nat.zero_le _, rfl, HR0.out, by rw [flat_first, ← HN.out]; rfl, Fr.refl _ _⟩
      case round =>
        obtain ⟨u, ms, hu, rfl, hro, hit, hf⟩ := hrel
        rw [← HN.out] at hu
        have HRO := Lib.hid hro
        have HIT := Lib.hid hit
        have HFR := Lib.hid hf
        obtain ⟨x0, x1, x2, -⟩ := three_of_heap (hf.heap HBX.out HQB.out)
        clear hro hit hf
        by_cases hun : u < 7 * k + 1
        · have hd2 : decide ((u : Int) < 7 * (k : Int) + 1) = true := decide_eq_true (by omega)
          go_wp2_with fail
          clear x0 x1 x2
          obtain ⟨wo, hwo⟩ : ∃ wo, wo = wr := ⟨_, rfl⟩
          clear hwo
          obtain ⟨o0, ho0⟩ : ∃ o, o = ms.flatten := ⟨_, rfl⟩
          have HO0 := Lib.hid ho0
          go_loopw [6] (Ln2Rel g bs o0 w1) (fun iv _ => n3 - (intOf iv).toNat)
          case atStart => exact ⟨0, ms, Nat.zero_le _, rfl, HRO.out, by rw [HO0.out]; rfl, HFR.out⟩
          case round =>
            clear HRO HFR
            obtain ⟨i, mi, hi, rfl, hroi, hfo, hfi⟩ := hrel
            have hi3 : i ≤ n3 := by have := HN3.out; omega
            have HRO := Lib.hid hroi
            have HFO := Lib.hid hfo
            have HFR := Lib.hid hfi
            obtain ⟨x0, x1, x2, -⟩ := three_of_heap (hfi.heap HBX.out HQB.out)
            by_cases hin : i < n3
            · have hd3 : decide (i < n3) = true := decide_eq_true hin
              have hir : i < g.rules.length := by have := HN3.out; omega
              obtain ⟨b1, o1, v1, rfl, z0, z1, hv1⟩ := rule_cells (H3.out.below (HLW.out _ hfi)) i hir
              have HVM := Lib.hid (HVR.out _ (List.getElem_mem hir))
              have HDR := Lib.hid (List.drop_eq_getElem_cons hir)
              obtain ⟨r, hr⟩ : ∃ r, r = g.rules[i]'hir := ⟨_, rfl⟩
              rw [← hr] at z0 hv1 HVM HDR
              have HRR := Lib.hid hr
              obtain ⟨lf, rg⟩ := r
              simp only at z0 hv1 HVM
              obtain ⟨li, hli⟩ : ∃ li : Nat, lf = (li : Int) := ⟨lf.toNat, by have := HVM.out.1; omega⟩
              subst hli
              have hlN : li < k := by have := HVM.out.2.1; omega
              have hlb : li < bs.length := by have := HBL.out; omega
              obtain ⟨a4, c4, rfl, hle4, hmx4⟩ := hv1.form
              have HFILL := Lib.hid (lfill_any bs mi (.slice ao k co) _ rg wr ⟨HCK.out _ hfi, hroi⟩ hv1 HVM.out.2.2.1 (fun x hx => by have := (HVM.out.2.2.2 x hx).2; have := HBL.out; omega))
              obtain ⟨rn, hrn⟩ : ∃ n, n = rg.length := ⟨_, rfl⟩
              rw [← hrn] at z1 hle4 HFILL
              clear hfi hroi hfo hr hv1 hmx4 hrn z0
              go_wp2_with (go_at_call 27; refine HFILL.out.mono ?_; rintro e w4 ⟨bf, f, hbf, rfl, hrf, hfl, hmk, hf4⟩)
              clear x0 x1 x2 z1
              have HRF := Lib.hid hrf
              have HFL := Lib.hid hfl
              have HMK := Lib.hid hmk
              have HRO4 := Lib.hid (HRO.out.below hf4)
              have HFR4 := Lib.hid (HFR.out.trans hf4 (fun i hi _ => hi) (by simp) (n := bs))
              have HBF := Lib.hid (show bf ∉ bs from fun hm => by have h1 := (HGB.out bf hm).2; have h2 := HFR.out.size; omega)
              clear hrf hfl hmk hf4 hbf
              go_loopw [8] (Ln3Rel ⟨(li : Int), rg⟩ bs mi.flatten f bf w1) (fun iv _ => 7 - (intOf iv).toNat)
              case atStart => exact ⟨0, mi, Nat.zero_le _, rfl, HRO4.out, rfl, HRF.out, HFR4.out⟩
              case round =>
                obtain ⟨n, mn, hn, rfl, hron, hfn, hrfn, hfrn⟩ := hrel
                have HRN := Lib.hid hron
                have HFNN := Lib.hid hfn
                have HRFN := Lib.hid hrfn
                have HFRN := Lib.hid hfrn
                by_cases hn7 : n < 7
                · have hd4 : decide ((n : Int) < 7) = true := decide_eq_true (by omega)
                  have hnf : n < f.length := by have := HFL.out; omega
                  have y0 := hrfn.cell hnf
                  obtain ⟨v, hvv⟩ : ∃ v, v = f[n]'hnf := ⟨_, rfl⟩
                  rw [← hvv] at y0
                  have HV := Lib.hid (show fillP mi.flatten rg n ↔ v = true by
                    rw [← HMK.out n hn7]
                    unfold marked
                    rw [List.getElem?_eq_getElem hnf, ← hvv]
                    simp)
                  obtain ⟨x0, x1, x2, -⟩ := three_of_heap (hfrn.heap HBX.out HQB.out)
                  obtain ⟨b5, o5, v5, e5, z0, z1, hv5⟩ := rule_cells (H3.out.below (HLW.out _ hfrn)) i hir
                  rw [← HRR.out] at z0
                  simp only at z0
                  injection e5 with e5
                  injection e5 with eb eo
                  subst eb eo
                  have hlm : li < mn.length := by rw [hron.1]; exact hlb
                  obtain ⟨b6, o6, e6, z2⟩ := lens_cell (ms := mn) ⟨HCK.out _ hfrn, hron⟩ li hlb
                  subst e6
                  have hrow := hron.2.2 li hlb hlm
                  have h7 := hron.2.1 _ (List.getElem_mem hlm)
                  obtain ⟨vz, z3⟩ : ∃ vz : Bool, wr.cell? ⟨bs[li]'hlb, n, none⟩ = some (.bool vz) := ⟨_, hrow.cell (i := n) (by omega)⟩
                  have z4 := hrow.free n
                  have HSET := Lib.hid (RowsAt.set hron HND.out li hlb hlm n)
                  have HSV := Lib.hid (seven_set hron.2.1 hlm hn7)
                  have HMB := Lib.hid (List.getElem_mem hlb)
                  obtain ⟨bl, hbl⟩ : ∃ b, b = bs[li]'hlb := ⟨_, rfl⟩
                  rw [← hbl] at z2 z3 z4 HSET HMB
                  have HLR := Lib.hid (lenS_range mi.flatten ⟨(li : Int), rg⟩ n)
                  have HTN := Lib.hid (Int.toNat_natCast li)
                  clear hron hfn hrfn hfrn hvv hv5 hrow h7 hbl
                  cases v with
                  | true =>
                    have HS1 := Lib.hid (show ∀ o, lenS1 mi.flatten ⟨(li : Int), rg⟩ o n = o.set (li * 7 + n) true from fun o => by unfold lenS1; rw [if_pos (HV.out.2 rfl), HTN.out])
                    go_wp2_with fail
                    refine ⟨⟨n + 1, _, by omega, by go_num, HSET.out, by rw [HSV.out, HLR.out, HS1.out, HFNN.out], HRFN.out.kept (Fr.set0 _ _ _ _) (by simp; exact fun e => HBF.out (e ▸ HMB.out)), HFRN.out.trans (Fr.set0 _ _ _ _) (fun i hi _ => hi) (fun i hi _ => by simp at hi; rw [hi]; exact HMB.out)⟩, by simp [intOf]; omega⟩
                  | false =>
                    have HS1 := Lib.hid (show ∀ o, lenS1 mi.flatten ⟨(li : Int), rg⟩ o n = o from fun o => by unfold lenS1; rw [if_neg (fun q => by have := HV.out.1 q; cases this)])
                    go_wp2_with fail
                    refine ⟨⟨n + 1, mn, by omega, by go_num, HRN.out, by rw [HLR.out, HS1.out, HFNN.out], HRFN.out, HFRN.out⟩, by simp [intOf]; omega⟩
                · have hd4 : decide ((n : Int) < 7) = false := decide_eq_false (by omega)
                  have HE := Lib.hid (show mn.flatten = lenS mi.flatten ⟨(li : Int), rg⟩ by rw [hfn, show n = 7 by omega]; rfl)
                  clear hron hfn hrfn hfrn hn7
                  go_wp2_with fail
                  refine ⟨⟨i + 1, mn, by omega, by go_num, HRN.out, ?_, HFRN.out⟩, by simp [intOf]; omega⟩
                  rw [HFO.out, HDR.out, List.foldl_cons, HE.out]
            · have hd3 : decide (i < n3) = false := decide_eq_false hin
              have HE := Lib.hid (show lenR g o0 = mi.flatten by rw [hfo, List.drop_eq_nil_of_le (by have := HN3.out; omega), List.foldl_nil])
              clear hfi hroi hfo hin
              go_wp2_with fail
              refine ⟨⟨u + 1, mi, by rw [← HN.out]; omega, by go_num, HRO.out, by rw [← HE.out, HO0.out, HIT.out]; rfl, HFR.out⟩, by simp [intOf]; omega⟩
        · have hd2 : decide ((u : Int) < 7 * (k : Int) + 1) = false := decide_eq_false (by omega)
          have HE := Lib.hid (show u = 7 * g.names.length + 1 by rw [← HN.out]; omega)
          clear hun
          go_wp2_with fail
          go_ret
          refine ⟨_, bs, ms, rfl, ⟨HCK.out _ HFR.out, HRO.out⟩, by rw [HRO.out.1, HBL.out]; exact HN.out, ?_, HLW.out _ HFR.out⟩
          rw [HIT.out, HE.out]
end Go.Proofs.Ytamoalnbcmnciaa
