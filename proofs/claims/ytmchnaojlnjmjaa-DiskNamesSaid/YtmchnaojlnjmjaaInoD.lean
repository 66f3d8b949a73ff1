/- Contract of inode's Crash. -/
import Derived.Test.YtmchnaojlnjmjaaInoC
import Derived.Deep.DeepCutAuto
namespace Go.Proofs.Ytmchnaojlnjmjaa
open Go.RowKit

/-- What k tears have left of l0. -/
def TornInv (l0 : List UInt8) (s : Nat) (cuts : List Int) (k : Nat) (l : List UInt8) : Prop :=
  l.length = l0.length ∧ ∀ i (h : i < l0.length), l[i]? = some (if i < s then l0[i]'h else if i / 16 - s / 16 < k then keepB s cuts i (l0[i]'h) else l0[i]'h)
theorem torn_zero (l0 : List UInt8) (s : Nat) (cuts : List Int) : TornInv l0 s cuts 0 l0 := ⟨rfl, fun i h => by simp [h]⟩
theorem splice_get {α : Type} (L : List α) (off : Nat) (cs : List α) (h : off + cs.length ≤ L.length) (i : Nat) : (splice L off cs)[i]? = if off ≤ i ∧ i < off + cs.length then cs[i - off]? else L[i]? := by
  have e1 : (L.take off).length = off := by simp; omega
  simp only [splice, List.append_assoc]
  by_cases h1 : i < off
  · rw [List.getElem?_append_left (by omega), if_neg (by omega), List.getElem?_take, if_pos h1]
  · rw [List.getElem?_append_right (by omega), e1]
    by_cases h2 : i < off + cs.length
    · rw [if_pos (by omega), List.getElem?_append_left (by omega)]
    · rw [if_neg (by omega), List.getElem?_append_right (by omega), List.getElem?_drop]
      congr 1; omega
theorem torn_next (l0 : List UInt8) (s : Nat) (cuts : List Int) (k : Nat) (l : List UInt8) (h : TornInv l0 s cuts k l) : TornInv l0 s cuts (k + 1) (tearC l s (s / 16 + k) (cutAt cuts k)) := by
  obtain ⟨hl, hg⟩ := h
  have ht := tearAt_le l.length s (s / 16 + k) (cutAt cuts k)
  refine ⟨by rw [tearC_length, hl], fun i hi => ?_⟩
  rw [tearC, splice_get _ _ _ (by simp; omega), List.length_replicate]
  by_cases hin : tearAt l.length s (s / 16 + k) (cutAt cuts k) ≤ i ∧ i < tearTo l.length (s / 16 + k)
  · rw [if_pos (by omega), List.getElem?_replicate, if_pos (by omega)]
    have h1 : s ≤ i ∧ i / 16 = s / 16 + k ∧ ¬ ((i % 16 : Nat) : Int) < cutAt cuts k := by
      unfold tearAt tearTo at hin
      generalize cutAt cuts k = x at hin
      omega
    rw [if_neg (by omega), if_pos (by omega), keepB, show i / 16 - s / 16 = k from by omega, if_neg h1.2.2]
  · rw [if_neg (by omega), hg i hi]
    by_cases h1 : i < s
    · rw [if_pos h1, if_pos h1]
    · rw [if_neg h1, if_neg h1]
      by_cases h2 : i / 16 - s / 16 < k
      · rw [if_pos h2, if_pos (by omega)]
      · rw [if_neg h2]
        by_cases h3 : i / 16 - s / 16 = k
        · rw [if_pos (by omega), keepB, h3, if_pos]
          unfold tearAt tearTo at hin
          generalize cutAt cuts k = x at hin ⊢
          have : i / 16 = s / 16 + k := by
            have := Nat.div_le_div_right (c := 16) (show s ≤ i by omega)
            omega
          rw [hl] at hin
          omega
        · rw [if_neg (by omega)]
theorem torn_end (now : List UInt8) (s : Nat) (size : Int) (cuts : List Int) (hs : s ≤ now.length) (m : Nat) (hm : m = s + sizeC now.length s size) (l : List UInt8) (h : TornInv (now.take m) s cuts (secsC m s) l) : l = crashC now s size cuts := by
  have hz := sizeC_le now.length s size
  obtain ⟨hl, hg⟩ := h
  have hml : (now.take m).length = m := by simp; omega
  rw [hml] at hl
  apply List.ext_getElem?
  intro i
  by_cases hi : i < m
  · rw [hg i (by omega), crashC, leftC_get now s cuts _ i hs (by omega) (by omega)]
    simp only [List.getElem_take]
    by_cases h1 : i < s
    · rw [if_pos h1, if_pos h1]
    · rw [if_neg h1, if_neg h1, if_pos (secsC_in m s i (by omega) hi)]
  · rw [List.getElem?_eq_none (by omega), List.getElem?_eq_none (by rw [crashC_length _ _ _ _ hs]; omega)]
theorem size_int (n s : Nat) (size : Int) (h : s ≤ n) : min (max size 0) ((n : Int) - (s : Int)) = (sizeC n s size : Int) := by unfold sizeC; omega

theorem size_ite (n s : Nat) (size : Int) (h : s ≤ n) : (if (n : Int) - (s : Int) < (if size < 0 then 0 else size) then (n : Int) - (s : Int) else if size < 0 then 0 else size) = (sizeC n s size : Int) := by unfold sizeC; split <;> split at * <;> omega
theorem isF.cut {w : World} {p g s m : Nat} {now : List UInt8} (h : isF w p g now s) (cap : Nat) (hc : w.cell? ⟨p, 0, none⟩ = some (.slice (some ⟨g, 0, none⟩) now.length cap)) (h1 : s ≤ m) (h2 : m ≤ now.length) : isF (w.setCell ⟨p, 0, none⟩ (.slice (some ⟨g, 0, none⟩) m cap)).drew p g (now.take m) s := by
  obtain ⟨cap', cur, e1, e2, e3, e4, e5, e6, e7, e8⟩ := h
  have hml : (now.take m).length = m := by simp; omega
  have hcc : cap' = cap := by rw [cell_of_heap e1] at hc; simpa using hc
  subst hcc
  refine ⟨cap', cur, ?_, ?_, e3, by omega, e5, ?_, e7, by omega⟩
  · rw [hml]; exact heap_setCell_same e1 _
  · exact (Fr.set0 w p 0 _).heap e2 (by simpa using e7)
  · rw [hml, show m = min m now.length from by omega, ← List.take_take, e6]; simp [cellsB, List.map_take]
def CrashRel (w : World) (p g s : Nat) (l0 : List UInt8) (cuts : List Int) (ns : Nat) (iv : Value) (wr : World) : Prop :=
  ∃ (k : Nat) (l : List UInt8), k ≤ ns ∧ iv = .int .i64 (k : Int) ∧ isF wr p g l s ∧ TornInv l0 s cuts k l ∧ Fr [p, g] w wr
set_option maxRecDepth 100000 in
theorem icrash_any (p g s : Nat) (now : List UInt8) (size : Int) (cuts : List Int) (cv : Value) (w : World) (h : isF w p g now s) (hc : cellsAt w cv (cuts.map (Value.int .i64))) (hcl : cuts.length ≤ 1048576) (hl : now.length ≤ 1048576) (hcb : cuts ≠ [] → ∀ k, cv.ownBlock = some k → k ≠ p ∧ k ≠ g) :
    Calls Try.prog 41 #[.pointer (some ⟨p, 0, none⟩), .int .i64 size, cv] w fun e w' => e = .returned (.int .i64 ((min (secsC (s + sizeC now.length s size) s) cuts.length : Nat) : Int)) ∧ isF w' p g (crashC now s size cuts) (s + sizeC now.length s size) ∧ Fr [p, g] w w' := by
  have HF := Lib.hid h
  have hgp := h.ne
  obtain ⟨cap, hle, hmx, hc0, hc1, hf0, hf1, -⟩ := h.open
  have hs := h.safe
  have hz := sizeC_le now.length s size
  have hite := size_ite now.length s size hs
  obtain ⟨a, cap2, rfl, hcl2, hcm⟩ := hc.form
  rw [List.length_map] at hc hcb hcl2 ⊢
  have HCU := Lib.hid hc
  have HCB := Lib.hid hcb
  have hfin := torn_end now s size cuts hs
  obtain ⟨z, hzz⟩ : ∃ z, z = sizeC now.length s size := ⟨_, rfl⟩
  rw [← hzz] at hite hz hfin ⊢
  have HI := Lib.hid hite
  obtain ⟨m, hm⟩ : ∃ m, m = s + z := ⟨_, rfl⟩
  rw [← hm] at hfin ⊢
  have hml : m ≤ now.length := by omega
  have hsm : s ≤ m := by omega
  have htn : ((s : Int) + (z : Int)).toNat = m := by omega
  have HT := Lib.hid htn
  have HFin := Lib.hid (hfin m rfl)
  have hcut := h.cut (m := m) cap hc0 hsm hml
  have hfr : Fr [p, g] w (w.setCell ⟨p, 0, none⟩ (.slice (some ⟨g, 0, none⟩) m cap)).drew := ((Fr.set0 w p 0 _).mono (by simp)).andDrew
  have HZZ := Lib.hid hzz
  have HM := Lib.hid hm
  clear hite htn hfin h hc hcb hm hzz hz
  obtain ⟨ns, hns⟩ : ∃ ns, ns = secsC m s := ⟨_, rfl⟩
  have hnsb : ns ≤ 65537 := by rw [hns]; unfold secsC; split <;> omega
  have hsin : s / 16 ≤ 65536 := by omega
  rw [← hns] at HFin ⊢
  obtain ⟨u, hu⟩ : ∃ u, u = min ns cuts.length := ⟨_, rfl⟩
  have HU := Lib.hid hu
  have HNS := Lib.hid hns
  clear hns
  rw [← hu]
  clear hu
  go_enter Try.func41, Try.ntmps41
  go_wp2_with fail
  go_region
  rw [HI.out, HT.out]
  generalize (w.setCell ⟨p, 0, none⟩ (.slice (some ⟨g, 0, none⟩) m cap)).drew = w1 at hcut hfr ⊢
  clear hc0 hc1 hf0 hf1
  have HS := Lib.hid (isectors_any p g s _ w1 hcut (by simp; omega))
  have hml2 : (now.take m).length = m := by simp; omega
  rw [hml2, ← HNS.out] at HS
  have HTZ := Lib.hid (torn_zero (now.take m) s cuts)
  obtain ⟨l0, hl0⟩ : ∃ l0, l0 = now.take m := ⟨_, rfl⟩
  rw [← hl0] at HTZ hcut hml2 HFin
  have HL0 := Lib.hid hl0
  clear hl0
  generalize (if size < 0 then 0 else size) = sz0
  go_upto_region 5 with (go_at_call 59; refine HS.out.mono ?_; rintro e w2 ⟨rfl, rfl⟩)
  go_cut [8] (fun s8 wx => s8 = .int .i64 (u : Int) ∧ w1 = wx)
  case first =>
    go_wp2_with fail
    all_goals
      go_meet
      refine ⟨congrArg (Value.int .i64) ?_, rfl⟩
      rw [HU.out]
      omega
  case rest =>
    obtain ⟨rfl, rfl⟩ := hcut
    clear HI HT HS HZZ HM HNS
    go_wp2_with fail
    go_loopw [46] (CrashRel w p g s l0 cuts ns) (fun iv _ => ns - (intOf iv).toNat)
    case atStart => exact ⟨0, l0, Nat.zero_le _, rfl, hcut, HTZ.out, hfr⟩
    case round =>
      clear hcut hfr
      obtain ⟨k, l, hk, rfl, hF, hT, hfr⟩ := hrel
      have hll : l.length ≤ 1048576 := by rw [hT.1]; omega
      by_cases hkn : k < ns
      · have hd1 : decide (k < ns) = true := decide_eq_true hkn
        obtain ⟨cap3, -, -, hc0, hc1, -, -, -⟩ := hF.open
        have hsec := Lib.hid (isector_any s wr (by omega))
        have htr := tear_any p g s (s / 16 + k) (cutAt cuts k) l wr hF hll (by omega)
        have hnx := Lib.hid (torn_next l0 s cuts k l hT)
        have hcu : cellsAt wr (.slice a cuts.length cap2) (cuts.map (Value.int .i64)) := HCU.out.kept hfr (fun q hq hne _ => by
          have h2 := HCB.out (by intro e; rw [e] at hne; exact hne rfl) q hq
          simp; omega)
        rw [Int.natCast_add] at htr
        by_cases hku : k < cuts.length
        · have hd2 : decide (k < u) = true := decide_eq_true (by rw [HU.out]; omega)
          obtain ⟨b, off, rfl, -, hcell⟩ := hcu.get (i := k) (by simpa using hku)
          have hck := hcell k (by simpa using hku)
          rw [List.getElem_map] at hck
          have hx : cutAt cuts k = cuts[k] := by simp [cutAt, List.getD_eq_getElem?_getD, hku]
          obtain ⟨x, hxx⟩ : ∃ x, x = cuts[k] := ⟨_, rfl⟩
          rw [hx, ← hxx] at htr hnx
          rw [← hxx] at hck
          have HTR := Lib.hid htr
          clear htr hx hxx hcell hcu hF hT
          go_wp2_with (first
            | (go_at_call 61; refine hsec.out.mono ?_; rintro e w2 ⟨rfl, rfl⟩)
            | (go_at_call 60; refine HTR.out.mono ?_; rintro e w2 ⟨rfl, hF2, hf2⟩))
          refine ⟨⟨k + 1, _, by omega, by go_num, hF2, hnx.out, hfr.trans hf2 (fun i hi _ => hi) (by simp)⟩, by simp [intOf]; omega⟩
        · have hd2 : decide (k < u) = false := decide_eq_false (by rw [HU.out]; omega)
          have hx : cutAt cuts k = 0 := by simp [cutAt, List.getD_eq_getElem?_getD, Nat.not_lt.1 hku]
          rw [hx] at htr hnx
          have HTR := Lib.hid htr
          clear htr hx hcu hF hT
          go_wp2_with (first
            | (go_at_call 61; refine hsec.out.mono ?_; rintro e w2 ⟨rfl, rfl⟩)
            | (go_at_call 60; refine HTR.out.mono ?_; rintro e w2 ⟨rfl, hF2, hf2⟩))
          refine ⟨⟨k + 1, _, by omega, by go_num, hF2, hnx.out, hfr.trans hf2 (fun i hi _ => hi) (by simp)⟩, by simp [intOf]; omega⟩
      · have hd1 : decide (k < ns) = false := decide_eq_false hkn
        obtain rfl : k = ns := by omega
        have hlm : l.length = m := by rw [hT.1, hml2]
        have hres := HFin.out l hT
        have HSY := Lib.hid (isync_any p g s l wr hF)
        rw [hlm, hres] at HSY
        go_wp2_with (go_at_call 32; refine HSY.out.mono ?_; rintro e w2 ⟨rfl, hF2, hf2⟩)
        go_ret
        exact ⟨rfl, hF2, hfr.trans hf2 (fun i hi _ => hi) (by simp)⟩
end Go.Proofs.Ytmchnaojlnjmjaa
