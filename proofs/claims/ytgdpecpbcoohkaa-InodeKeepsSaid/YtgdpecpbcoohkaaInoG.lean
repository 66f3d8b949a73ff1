/- Contracts of the document's Sectors and Crash. -/
import Derived.Test.YtgdpecpbcoohkaaInoE
import Derived.Deep.DeepCutAuto
namespace Go.Proofs.Ytgdpecpbcoohkaa
open Go.RowKit

def lastAt (s i : Nat) : Int := if i = s then -1 else (((i - 1) / 16 : Nat) : Int)
theorem lastAt_succ (s i : Nat) (h : s ≤ i) : lastAt s (i + 1) = ((i / 16 : Nat) : Int) := by
  unfold lastAt; rw [if_neg (by omega)]; simp
theorem last_same (s i : Nat) (h : s ≤ i) (he : ((i / 16 : Nat) : Int) = lastAt s i) : secsC (i + 1) s = secsC i s ∧ ¬ (i = s ∨ i % 16 = 0) := by
  unfold lastAt at he
  have hn : ¬ (i = s ∨ i % 16 = 0) := by
    split at he <;> omega
  exact ⟨by rw [secsC_succ i s h, if_neg hn]; rfl, hn⟩
theorem last_other (s i : Nat) (h : s ≤ i) (he : ¬ ((i / 16 : Nat) : Int) = lastAt s i) : secsC (i + 1) s = secsC i s + 1 ∧ (i = s ∨ i % 16 = 0) := by
  unfold lastAt at he
  have hn : i = s ∨ i % 16 = 0 := by
    split at he
    · left; assumption
    · right; omega
  exact ⟨by rw [secsC_succ i s h, if_pos hn], hn⟩
def SecsRel (s n : Nat) (w1 : World) (nv lv iv : Value) (wr : World) : Prop :=
  ∃ i : Nat, s ≤ i ∧ i ≤ n ∧ nv = .int .i64 ((secsC i s : Nat) : Int) ∧ lv = .int .i64 (lastAt s i) ∧ iv = .int .i64 (i : Int) ∧ wr = w1
theorem secsC_le (n s : Nat) : secsC n s ≤ n + 1 := by unfold secsC; split <;> omega
set_option maxRecDepth 100000 in
theorem ref_sectors_any (now sf : List UInt8) (nv sv : Value) (w : World) (h : bytesAt w nv now) (hs : bytesAt w sv sf) (hle : sf.length ≤ now.length) (hl : now.length ≤ 1000000) :
    Calls Try.prog 14 #[.agg #[nv, sv]] w fun e w' => e = .returned (.int .i64 ((secsC now.length sf.length : Nat) : Int)) ∧ Fr [] w w' := by
  obtain ⟨a0, c0, rfl, h0, h0'⟩ := h.form
  obtain ⟨a1, c1, rfl, h1, h1'⟩ := hs.form
  obtain ⟨n, hn⟩ : ∃ n, n = now.length := ⟨_, rfl⟩
  obtain ⟨s, hss⟩ : ∃ s, s = sf.length := ⟨_, rfl⟩
  rw [← hn, ← hss] at hle ⊢
  rw [← hn] at hl
  clear h hs h0 h1 h0' h1' hn hss
  go_enter Try.func14, Try.ntmps14
  go_wp2_with fail
  go_loopw [3, 4, 5] (SecsRel s n (w.alloc (.cells #[.slice a0 n c0, .slice a1 s c1] 29))) (fun _ _ iv _ => n - (intOf iv).toNat)
  case atStart => exact ⟨s, Nat.le_refl _, hle, by rw [secsC_none]; rfl, by simp [lastAt], rfl, rfl⟩
  case round =>
    obtain ⟨i, hi1, hi2, rfl, rfl, rfl, rfl⟩ := hrel
    have hsl := secsC_le i s
    by_cases hin : i < n
    · have hd : decide (i < n) = true := decide_eq_true hin
      have hls := lastAt_succ s i hi1
      by_cases he : ((i / 16 : Nat) : Int) = lastAt s i
      · have HN := Lib.hid (last_same s i hi1 he).1
        have HE := Lib.hid he
        have he2 : ((i : Int) / 16 != lastAt s i) = false := by
          rw [bne_eq_false_iff_eq, ← he]; omega
        obtain ⟨x, hx⟩ : ∃ x, x = lastAt s i := ⟨_, rfl⟩
        rw [← hx] at he2 HE ⊢
        have HX := Lib.hid hx
        clear he hx hls
        go_wp2_with fail
        refine ⟨⟨i + 1, by omega, by omega, by rw [HN.out], ?_, by go_num, rfl⟩, by simp [intOf]; omega⟩
        rw [lastAt_succ s i hi1, HE.out]
      · have HN := Lib.hid (last_other s i hi1 he).1
        have he2 : ((i : Int) / 16 != lastAt s i) = true := by
          rw [bne_iff_ne]; omega
        obtain ⟨x, hx⟩ : ∃ x, x = lastAt s i := ⟨_, rfl⟩
        rw [← hx] at he2 ⊢
        clear he hx hls
        go_wp2_with fail
        refine ⟨⟨i + 1, by omega, by omega, by rw [HN.out]; go_num, ?_, by go_num, rfl⟩, by simp [intOf]; omega⟩
        rw [lastAt_succ s i hi1]; go_num
    · have hd : decide (i < n) = false := decide_eq_false hin
      obtain rfl : i = n := by omega
      go_wp2_with fail
      go_ret
      exact ⟨rfl, Fr.alloc _ _⟩

def kAt (s i : Nat) : Int := if i = s then -1 else (((i - 1) / 16 - s / 16 : Nat) : Int)
def thereAt (s : Nat) (cuts : List Int) (i : Nat) : Int := if i = s then 0 else cutAt cuts ((i - 1) / 16 - s / 16)
theorem there_succ (s : Nat) (cuts : List Int) (i : Nat) (h : s ≤ i) : thereAt s cuts (i + 1) = cutAt cuts (i / 16 - s / 16) := by
  unfold thereAt; rw [if_neg (by omega)]; simp
theorem k_succ (s i : Nat) (h : s ≤ i) : kAt s (i + 1) = ((i / 16 - s / 16 : Nat) : Int) := by
  unfold kAt; rw [if_neg (by omega)]; simp
theorem at_same (s : Nat) (cuts : List Int) (i : Nat) (h : s ≤ i) (he : ((i / 16 : Nat) : Int) = lastAt s i) : kAt s (i + 1) = kAt s i ∧ thereAt s cuts (i + 1) = thereAt s cuts i := by
  have hn := (last_same s i h he).2
  unfold lastAt at he
  rw [if_neg (by omega)] at he
  have e : (i - 1) / 16 = i / 16 := by omega
  unfold kAt thereAt
  rw [if_neg (by omega), if_neg (by omega), if_neg (by omega), if_neg (by omega), e]
  simp
theorem at_other (s i : Nat) (h : s ≤ i) (he : ¬ ((i / 16 : Nat) : Int) = lastAt s i) : kAt s (i + 1) = kAt s i + 1 := by
  have hn := (last_other s i h he).2
  rw [k_succ s i h]
  unfold kAt
  split
  · next e => subst e; simp
  · omega
theorem byteAt2 {w : World} {a : Option Addr} {n cap : Nat} {bs : List UInt8} (h : bytesAt w (.slice a n cap) bs) (k : Nat) (hk : k < bs.length) : ∃ b off, a = some ⟨b, off, none⟩ ∧ w.cell? ⟨b, off + k, none⟩ = some (.int .u8 ((bs[k]'hk).toNat : Int)) := by
  rcases h with ⟨_, _, _, _, rfl⟩ | ⟨b, off, cap', e, _, _, hcell⟩
  · simp at hk
  · simp only [Value.slice.injEq] at e
    obtain ⟨rfl, -, rfl⟩ := e
    exact ⟨b, off, rfl, hcell k hk⟩
def CrashR (now : List UInt8) (s z : Nat) (cuts : List Int) (w : World) (v8 v9 v10 v11 v12 : Value) (wr : World) : Prop :=
  ∃ q : Nat, s ≤ q ∧ q ≤ s + z ∧ wr.ownsRow w.heap.size 5 1 v8 q (cellsB (leftC now s cuts (q - s))) ∧ v9 = .int .i64 (kAt s q) ∧ v10 = .int .i64 (lastAt s q) ∧ v11 = .int .i64 (thereAt s cuts q) ∧ v12 = .int .i64 (q : Int) ∧ Fr [] w wr
theorem size_max (n s : Nat) (size : Int) (h : s ≤ n) : min (max size 0) ((n : Int) - (s : Int)) = (sizeC n s size : Int) := by unfold sizeC; omega
set_option maxHeartbeats 2000000 in
set_option maxRecDepth 100000 in
theorem ref_crash_any (now sf : List UInt8) (nv sv : Value) (size : Int) (cuts : List Int) (cv : Value) (w : World) (h : bytesAt w nv now) (hs : bytesAt w sv sf) (hsf : sf = now.take sf.length) (hl : now.length ≤ 1000000)
    (hc : cellsAt w cv (cuts.map (Value.int .i64))) (hcl : cuts.length ≤ 1000000) :
    Calls Try.prog 19 #[.agg #[nv, sv], .int .i64 size, cv] w (Bytesd w (crashC now sf.length size cuts)) := by
  obtain ⟨i, hi, hz0, hz1, hz2⟩ := info_parts infoB
  have hle : sf.length ≤ now.length := by rw [hsf]; simp; omega
  obtain ⟨a0, c0, rfl, h0, h0'⟩ := h.form
  obtain ⟨a1, c1, rfl, h1, h1'⟩ := hs.form
  obtain ⟨a2, c2, rfl, h2, h2'⟩ := hc.form
  rw [List.length_map] at hc h2 ⊢
  have HH := Lib.hid h
  have HS := Lib.hid hs
  have HC := Lib.hid hc
  have HSF := Lib.hid hsf
  have hz := sizeC_le now.length sf.length size
  obtain ⟨n, hn⟩ : ∃ n, n = now.length := ⟨_, rfl⟩
  obtain ⟨s, hss⟩ : ∃ s, s = sf.length := ⟨_, rfl⟩
  obtain ⟨z, hzz⟩ : ∃ z, z = sizeC n s size := ⟨_, rfl⟩
  have hfin : crashC now s size cuts = leftC now s cuts z := by rw [crashC, hzz, hn]
  rw [← hss, hfin]
  rw [← hn, ← hss] at hle hz
  rw [← hzz] at hz
  rw [← hn] at hl ⊢
  rw [← hss] at HSF
  have HN := Lib.hid hn
  have HSS := Lib.hid hss
  have HZ := Lib.hid hzz
  clear h hs hc hsf h0 h1 h0' h1' h2 h2' hn hss hzz hfin
  go_enter Try.func19, Try.ntmps19
  go_upto_if 21 with fail
  have hf1 := Fr.alloc w (.cells #[.slice a0 n c0, .slice a1 s c1] 29)
  have hb1 := heap_alloc_new w (.cells #[.slice a0 n c0, .slice a1 s c1] 29)
  have hs1 : (w.alloc (.cells #[.slice a0 n c0, .slice a1 s c1] 29)).heap.size = w.heap.size + 1 := by simp
  generalize w.alloc (.cells #[.slice a0 n c0, .slice a1 s c1] 29) = w1 at hf1 hb1 hs1 ⊢
  have hbl : w.heap.size < w1.heap.size := by omega
  clear hs1
  go_cut [1] (fun s1 wx => s1 = .int .i64 (max size 0) ∧ w1 = wx)
  case first =>
    by_cases hsz : size < 0
    · have hd : decide (size < 0) = true := decide_eq_true hsz
      have HM := Lib.hid (show max size 0 = 0 by omega)
      clear hsz
      rw [hd]
      go_wp2_with fail
      go_meet
      exact ⟨by rw [HM.out], rfl⟩
    · have hd : decide (size < 0) = false := decide_eq_false hsz
      have HM := Lib.hid (show max size 0 = size by omega)
      clear hsz
      rw [hd]
      go_wp2_with fail
      go_meet
      exact ⟨by rw [HM.out], rfl⟩
  case rest =>
    obtain ⟨rfl, rfl⟩ := hcut
    have HMX := Lib.hid (size_max n s size hle)
    rw [← HZ.out] at HMX
    obtain ⟨size2, hsz2⟩ : ∃ size2, size2 = max size 0 := ⟨_, rfl⟩
    rw [← hsz2] at HMX ⊢
    clear hsz2
    go_upto_if 24 with fail
    go_cut [1] (fun s1 wx => s1 = .int .i64 (z : Int) ∧ w1 = wx)
    case first =>
      by_cases hsz : (n : Int) - (s : Int) < size2
      · have hd : decide ((n : Int) - (s : Int) < size2) = true := decide_eq_true hsz
        have HM := Lib.hid (show (n : Int) - (s : Int) = (z : Int) by rw [← HMX.out]; omega)
        clear hsz
        rw [hd]
        go_wp2_with fail
        go_meet
        exact ⟨by rw [HM.out], rfl⟩
      · have hd : decide ((n : Int) - (s : Int) < size2) = false := decide_eq_false hsz
        have HM := Lib.hid (show size2 = (z : Int) by rw [← HMX.out]; omega)
        clear hsz
        rw [hd]
        go_wp2_with fail
        go_meet
        exact ⟨by rw [HM.out], rfl⟩
    case rest =>
      obtain ⟨rfl, rfl⟩ := hcut
      have hsfb : bytesAt (w1.alloc (.cells (#[] : Array Value) 5)) (.slice a1 s c1) sf := by
        have := (HS.out.below hf1).below (Fr.alloc w1 (.cells (#[] : Array Value) 5))
        rwa [← HSS.out] at this
      have HSB := Lib.hid hsfb
      have hb10 : w1.cell? ⟨w.heap.size, 0, none⟩ = some (.slice a0 n c0) := by rw [cell_of_heap hb1]; rfl
      have hb11 : w1.cell? ⟨w.heap.size, 1, none⟩ = some (.slice a1 s c1) := by rw [cell_of_heap hb1]; rfl
      have hsfl : sf.length ≤ 1000000 := by have := HSS.out; omega
      have hnin : w.heap.size ∉ (Value.slice (some ⟨w1.heap.size, 0, none⟩) 0 0).ownBlock.toList := by
        show w.heap.size ∉ [w1.heap.size]
        simp; omega
      have HNIL := Lib.hid (hnil_new w1)
      clear hsfb
      go_wp2_with (at_builtin; refine wpL_append rfl (.tmp 26) (.tmp 28) 22 rfl w1.heap.size 5 i (.int .u8 0) Try.underlying22 hi hz0 hz1 hz2 rfl _ [] rfl HNIL.out _ sf rfl HSB.out (by simp; omega) (by simp) ?_; intro v8 w2 hown2 hf2 hb2; clear hb2; have hc2 := hf2.cell ((Fr.alloc w1 (.cells (#[] : Array Value) 5)).cell hb11 (by simp)) hnin; obtain ⟨a8, n8, c8, rfl⟩ := (bytesAt_of_owns (bs := sf) hown2).slice)
      have hf12 : Fr [] w1 w2 := (Fr.alloc w1 _).trans (m := [w1.heap.size]) hf2 (by simp) (by simp)
      have hrow0 : w2.ownsRow w1.heap.size 5 1 (.slice a8 n8 c8) s (cellsB (leftC now s cuts (s - s))) := by
        rw [Nat.sub_self, leftC_zero, ← HSF.out, HSS.out]
        exact hown2
      clear hown2 hf2 hc2 HSB HNIL
      obtain ⟨v8, hv8⟩ : ∃ v8, v8 = Value.slice a8 n8 c8 := ⟨_, rfl⟩
      rw [← hv8] at hrow0 ⊢
      clear hv8
      go_loopw [8, 9, 10, 11, 12] (CrashR now s z cuts w1) (fun _ _ _ _ v12 _ => s + z - (intOf v12).toNat)
      case atStart => exact ⟨s, Nat.le_refl _, by omega, hrow0, by simp [kAt], by simp [lastAt], by simp [thereAt], rfl, hf12⟩
      case round =>
        clear hrow0 hf12
        obtain ⟨q, hq1, hq2, hrow, rfl, rfl, rfl, rfl, hf⟩ := hrel
        have hc1 := hf.cell hb11 (by simp)
        have hc0 := hf.cell hb10 (by simp)
        by_cases hjz : q < s + z
        · have hd : decide ((q : Int) < (s : Int) + (z : Int)) = true := decide_eq_true (by omega)
          have hqn : q < now.length := by have := HN.out; omega
          have hst : leftC now s cuts (q + 1 - s) = leftC now s cuts (q - s) ++ [keepB s cuts q (now[q]'hqn)] := by
            have e : s + (q - s) = q := by omega
            have := leftC_succ now s cuts (q - s) (by omega)
            simp only [e] at this
            rw [show q + 1 - s = q - s + 1 from by omega, this]
          have hth := there_succ s cuts q hq1
          have hla := lastAt_succ s q hq1
          have hks := k_succ s q hq1
          have hHH := (HH.out.below hf1).below hf
          have HST := Lib.hid hst
          have HHQ := Lib.hid hHH
          have HROW := Lib.hid hrow
          have HB10 := Lib.hid hb10
          clear hst hHH hrow hb10 hc0
          obtain ⟨x, hx⟩ : ∃ x, x = cutAt cuts (q / 16 - s / 16) := ⟨_, rfl⟩
          have hcase : (((q / 16 : Nat) : Int) = lastAt s q ∧ kAt s (q + 1) = kAt s q ∧ thereAt s cuts (q + 1) = thereAt s cuts q) ∨ (¬ ((q / 16 : Nat) : Int) = lastAt s q ∧ kAt s (q + 1) = kAt s q + 1) := by
            by_cases he : ((q / 16 : Nat) : Int) = lastAt s q
            · exact .inl ⟨he, at_same s cuts q hq1 he⟩
            · exact .inr ⟨he, at_other s q hq1 he⟩
          have HX := Lib.hid hx
          have HTH := Lib.hid hth
          have HLA := Lib.hid hla
          have HKS := Lib.hid hks
          have HCS := Lib.hid hcase
          obtain ⟨k9, hk9⟩ : ∃ k9, k9 = kAt s q := ⟨_, rfl⟩
          obtain ⟨l10, hl10⟩ : ∃ l10, l10 = lastAt s q := ⟨_, rfl⟩
          obtain ⟨t11, ht11⟩ : ∃ t11, t11 = thereAt s cuts q := ⟨_, rfl⟩
          rw [← hk9, ← hl10, ← ht11]
          rw [← hk9, ← hl10, ← ht11] at HCS
          clear hk9 hl10 ht11 hx hth hla hks hcase
          go_upto_if 45 with fail
          go_cut [9, 10, 11] (fun s9 s10 s11 wx => s9 = .int .i64 (kAt s (q + 1)) ∧ s10 = .int .i64 (lastAt s (q + 1)) ∧ s11 = .int .i64 x ∧ wr = wx)
          case first =>
            by_cases he : ((q / 16 : Nat) : Int) = l10
            · obtain ⟨_, e1, e2⟩ := HCS.out.resolve_right (fun h => h.1 he)
              have he2 : ((q : Int) / 16 != l10) = false := by rw [bne_eq_false_iff_eq, ← he]; omega
              have HE1 := Lib.hid e1
              have HE2 := Lib.hid e2
              have HE := Lib.hid he
              clear e1 e2 he
              rw [he2]
              go_wp2_with fail
              go_meet
              exact ⟨by rw [HE1.out], by rw [HLA.out, HE.out], by rw [HX.out, ← HTH.out, HE2.out], rfl⟩
            · obtain ⟨_, e1⟩ := HCS.out.resolve_left (fun h => he h.1)
              have he2 : ((q : Int) / 16 != l10) = true := by rw [bne_iff_ne]; omega
              obtain ⟨kk, hkk⟩ : ∃ kk, kk = q / 16 - s / 16 := ⟨_, rfl⟩
              rw [← hkk] at HX HKS
              have hk1 : k9 + 1 = (kk : Int) := by have := HKS.out; omega
              have HKK := Lib.hid hkk
              have hkb : kk ≤ 1000000 := by omega
              clear he hkk e1
              rw [he2]
              by_cases hkc : kk < cuts.length
              · have hd3 : decide (kk < cuts.length) = true := decide_eq_true hkc
                obtain ⟨b, off, rfl, -, hcell⟩ := ((HC.out.below hf1).below hf).get (i := kk) (by simpa using hkc)
                have hck := hcell kk (by simpa using hkc)
                rw [List.getElem_map, show cuts[kk] = x by rw [HX.out]; simp [cutAt, List.getD_eq_getElem?_getD, hkc]] at hck
                clear hcell
                go_wp2_with fail
                go_meet
                exact ⟨by rw [HKS.out], by rw [HLA.out]; go_num, rfl, rfl⟩
              · have hd3 : decide (kk < cuts.length) = false := decide_eq_false hkc
                have hx0 : x = 0 := by rw [HX.out]; simp [cutAt, List.getD_eq_getElem?_getD, Nat.not_lt.1 hkc]
                subst hx0
                go_wp2_with fail
                go_meet
                exact ⟨by rw [HKS.out], by rw [HLA.out]; go_num, rfl, rfl⟩
          case rest =>
            obtain ⟨rfl, rfl, rfl, rfl⟩ := hcut
            have hsz : w1.heap.size ≤ wr.heap.size := hf.size
            obtain ⟨k9', hk9'⟩ : ∃ k9', k9' = kAt s (q + 1) := ⟨_, rfl⟩
            obtain ⟨l10', hl10'⟩ : ∃ l10', l10' = lastAt s (q + 1) := ⟨_, rfl⟩
            rw [← hk9', ← hl10']
            have HK9 := Lib.hid hk9'
            have HL10 := Lib.hid hl10'
            clear hk9' hl10'
            have HB0 := Lib.hid (hf.cell HB10.out (by simp))
            by_cases hqx : ((q % 16 : Nat) : Int) < x
            · have hd4 : decide ((q : Int) % 16 < x) = true := decide_eq_true (by omega)
              have hkb : keepB s cuts q (now[q]'hqn) = now[q]'hqn := by rw [keepB, ← HX.out, if_pos hqx]
              obtain ⟨b, off, rfl, hcq⟩ := byteAt2 HHQ.out q hqn
              have hc0 := HB0.out
              have HST2 := HST.out
              rw [hkb] at HST2
              obtain ⟨c, hcc⟩ : ∃ c, c = now[q]'hqn := ⟨_, rfl⟩
              rw [← hcc] at HST2 hcq
              have HST3 := Lib.hid HST2
              have hqn2 : q < n := by have := HN.out; omega
              clear hqx hkb HST2 hcc HHQ HST
              go_wp2_with (at_builtin; refine wpL_append1 rfl (.tmp 62) (.tmp 68) 22 rfl w1.heap.size 5 i (.int .u8 0) 1 Try.underlying22 hi hz0 hz1 hz2 rfl _ q (cellsB (leftC now s cuts (q - s))) rfl HROW.out (.int .u8 (c.toNat : Int)) rfl rfl (by omega) (by simp [maxLen]; omega) hsz ?_; intro v' w' hown' hf' hb')
              refine ⟨⟨q + 1, by omega, by omega, ?_, by rw [HK9.out], by rw [HL10.out], by rw [HTH.out, HX.out], by go_num, hf.own HROW.out hf'⟩, by simp [intOf]; omega⟩
              rw [HST3.out, cellsB_append]
              exact hown'
            · have hd4 : decide ((q : Int) % 16 < x) = false := decide_eq_false (by omega)
              have hkb : keepB s cuts q (now[q]'hqn) = 0 := by rw [keepB, ← HX.out, if_neg hqx]
              have HST2 := HST.out
              rw [hkb] at HST2
              have HST3 := Lib.hid HST2
              clear hqx hkb HST2 HHQ HST
              go_wp2_with (at_builtin; refine wpL_append1 rfl (.tmp 70) (.tmp 71) 22 rfl w1.heap.size 5 i (.int .u8 0) 1 Try.underlying22 hi hz0 hz1 hz2 rfl _ q (cellsB (leftC now s cuts (q - s))) rfl HROW.out (.int .u8 0) rfl rfl (by omega) (by simp [maxLen]; omega) hsz ?_; intro v' w' hown' hf' hb')
              refine ⟨⟨q + 1, by omega, by omega, ?_, by rw [HK9.out], by rw [HL10.out], by rw [HTH.out, HX.out], by go_num, hf.own HROW.out hf'⟩, by simp [intOf]; omega⟩
              rw [HST3.out, cellsB_append]
              exact hown'
        · have hd : decide ((q : Int) < (s : Int) + (z : Int)) = false := decide_eq_false (by omega)
          obtain rfl : q = s + z := by omega
          rw [show s + z - s = z from by omega] at hrow
          have hll : s + z = (leftC now s cuts z).length := by rw [leftC_length _ _ _ _ (by have := HN.out; omega)]
          have hrow2 := hrow
          rw [hll] at hrow2
          have HR2 := Lib.hid hrow2
          clear hrow2 hll hrow
          go_wp2_with fail
          go_ret
          exact bytesd_of_owns (owns_base HR2.out (fun k hk => by have := (HR2.out.lt k hk).1; omega)) (hf1.trans hf (by simp) (by simp))
end Go.Proofs.Ytgdpecpbcoohkaa
