/- FaultPlays: what each step comes to, how many there were, whether the meter is down, what is armed. -/
import Derived.Test.YtheanpmgdkajnaaFltL
import Derived.Deep.DeepCutAuto
namespace Go.Proofs.Ytheanpmgdkajnaa
open Go.RowKit

def PlayRel (w : World) (p : Nat) (l : List ADat) (s4 s5 s6 s7 : Value) (wx : World) : Prop :=
  ∃ (k : Nat) (n : Int) (dn : Bool) (la : List FltD) (B : List Nat), k ≤ l.length ∧ s4 = .int .i64 n ∧ s5 = .bool dn ∧ s7 = .int .i64 (k : Int) ∧ OkS n la k ∧ TwoM w p B n dn la s6 wx
/-- Behind the act, before what is told is looked at. -/
def PlayMid (w : World) (p k : Nat) (s4 s5 s6 : Value) (wx : World) : Prop :=
  ∃ (n : Int) (dn : Bool) (la : List FltD) (B : List Nat), s4 = .int .i64 n ∧ s5 = .bool dn ∧ OkS n la (k + 1) ∧ TwoM w p B n dn la s6 wx
/-- From the last to the first: what the step comes to so far. -/
def StepRel (la : List FltD) (t : Int) (s8 s9 : Value) : Prop := ∃ j : Nat, j ≤ la.length ∧ s9 = .int .i64 ((j : Int) - 1) ∧ s8 = .int .i64 (codeF 11 (hitF (la.drop j) t))
/-- What has been armed so far, and how many. -/
def ArmLoop (w w0 : World) (la fl : List FltD) (n : Int) (av : Value) (s6 s10 s11 : Value) (wx : World) : Prop :=
  ∃ j : Nat, j ≤ fl.length ∧ s10 = .int .i64 (((armF (fl.take j) n).length : Nat) : Int) ∧ s11 = .int .i64 (j : Int) ∧ wx.ownsRow w.heap.size 31 2 s6 (la ++ armF (fl.take j) n).length (fcells (la ++ armF (fl.take j) n)) ∧
    Fr av.ownBlock.toList w0 wx ∧ ∀ i, s6.ownBlock = some i → av.ownBlock = some i ∨ w0.heap.size ≤ i
/-- What was told so far. -/
def TellRel (w0 : World) (la : List FltD) (n : Int) (s14 s15 : Value) (wx : World) : Prop :=
  ∃ j : Nat, j ≤ la.length ∧ s14 = .int .i64 (((futureF (la.take j) n).length : Nat) : Int) ∧ s15 = .int .i64 (j : Int) ∧ Fr [] w0 wx
set_option maxHeartbeats 2000000 in
set_option maxRecDepth 100000 in
theorem plays_any (l : List ADat) (lv : Value) (w : World) (h : elemsAt w lv 2 (l.map ADat.cells)) (hok : ∀ a ∈ l, a.ok w) :
    Calls Try.prog 3 #[lv] w fun e w' => e = .returned (.bool true) ∧ Fr [] w w' := by
  have HAW := Lib.hid (fun wx => awake_any wx)
  obtain ⟨a1, c1, rfl, hle, hmx⟩ := h.form
  rw [List.length_map] at h hle ⊢
  have hmx' : c1 ≤ 9223372036854775807 := by simpa [maxLen] using hmx
  have HE := Lib.hid h
  have HOK := Lib.hid hok
  clear h hok hmx
  by_cases hl40 : l.length ≤ 40
  · have hd40 : decide (40 < (l.length : Int)) = false := decide_eq_false (by omega)
    go_enter Try.func3, Try.ntmps3
    go_wp2_with (go_at_call 5; refine (mnew_any _).mono ?_; rintro e w1 ⟨p, B1, rfl, hM1, hf1, hB1⟩)
    have hstart : PlayRel w p l (.int .i64 0) (.bool false) (.slice none 0 0) (.int .i64 0) w1 := ⟨0, 0, false, [], B1, Nat.zero_le _, rfl, rfl, rfl, ⟨by omega, by simp, by simp, by simp [kindsOk], by simp⟩, hM1, World.ownsRow_nil _ _ _ _, by simp [Value.ownBlock], hB1, hf1⟩
    clear hM1 hf1 hB1
    go_loopw [4, 5, 6, 7] (PlayRel w p l) (fun _ _ _ iv _ => l.length - (intOf iv).toNat)
    case atStart => exact hstart
    case round =>
      clear hstart
      obtain ⟨w0, hw0⟩ : ∃ w0, w0 = wr := ⟨_, rfl⟩
      subst hw0
      obtain ⟨k, n, dn, la, B, hk, rfl, rfl, rfl, hS, hT⟩ := hrel
      obtain ⟨av0, cav, rfl, hlav, hmav⟩ := owns_slice hT.row
      have HT := Lib.hid hT
      have HS := Lib.hid hS
      have hf := hT.fr
      clear hT hS
      by_cases hkn : k < l.length
      · have hd2 : decide (k < l.length) = true := decide_eq_true hkn
        obtain ⟨b1, off1, rfl, -, hb1w, -⟩ := act_cells HE.out k hkn
        have hel := fun wx (hx : Fr [] w wx) => act_cells (HE.out.below hx) k hkn
        have hak := HOK.out _ (List.getElem_mem hkn)
        obtain ⟨A, hA⟩ : ∃ A, A = l[k] := ⟨_, rfl⟩
        rw [← hA] at hel hak
        have hcl : ∀ wx, Fr [] w wx → wx.cell? ⟨b1, off1 + k * 2, none⟩ = some (.int .i64 A.kind) ∧ wx.cell? ⟨b1, off1 + k * 2 + 1, none⟩ = some A.fv := by
          intro wx hx
          obtain ⟨b', off', e, _, _, h1⟩ := hel wx hx
          cases e
          exact h1
        obtain ⟨fa, fc, hfv, hflc, hfcm⟩ := hak.form
        rw [hfv] at hcl
        have hak2 : faultsAt w (.slice fa A.fl.length fc) A.fl := by rw [← hfv]; exact hak
        obtain ⟨fl, hfl⟩ : ∃ fl, fl = A.fl := ⟨_, rfl⟩
        obtain ⟨ak, hka⟩ : ∃ ak, ak = A.kind := ⟨_, rfl⟩
        rw [← hfl] at hcl hak2 hflc
        rw [← hka] at hcl
        have HCL := Lib.hid hcl
        have HFL := Lib.hid hak2
        have hfm' : fc ≤ 9223372036854775807 := by simpa [maxLen] using hfcm
        obtain ⟨y0, y1⟩ := hcl w0 hf
        have HF := Lib.hid hf
        clear hel hcl hak hak2 hfv hA hfl hka hf hfcm
        by_cases h20 : fl.length ≤ 20
        · have hd20 : decide (20 < (fl.length : Int)) = false := decide_eq_false (by omega)
          go_upto_if 40 with fail
          go_cut [4, 5, 6] (fun s4 s5 s6 wx => PlayMid w p k s4 s5 s6 wx)
          case first =>
            have hn0 := HS.out.lo
            have hn1 := HS.out.hi
            by_cases hk0 : ak = 0
            · have hb0 : (ak == 0) = true := by simp [hk0]
              cases dn with
              | true =>
                have hst : Calls Try.prog 6 #[.pointer (some ⟨p, 0, none⟩)] w0 fun e w' => e = .returned (.int .i64 11) ∧ TurnedM p B n true (liveF la n) w0 w' :=
                  step_any p B n true (liveF la n) w0 HT.out.met ⟨hn0, by omega⟩ (liveF_kinds HS.out.kinds n)
                have HST := Lib.hid hst
                clear hst
                go_wp2_with (go_at_call 6; refine HST.out.mono ?_; rintro e w2 ⟨rfl, ht2⟩)
                go_meet
                obtain ⟨B', hT'⟩ := HT.out.turn ht2
                exact ⟨n, true, la, B', rfl, rfl, HS.out.stay, hT'⟩
              | false =>
                have hll := HS.out.len
                obtain ⟨c, hc⟩ : ∃ c, c = codeF 11 (hitF la (n + 1)) := ⟨_, rfl⟩
                have hst : Calls Try.prog 6 #[.pointer (some ⟨p, 0, none⟩)] w0 fun e w' => e = .returned (.int .i64 c) ∧ TurnedM p B (n + 1) (c == 11) (liveF la (n + 1)) w0 w' := by
                  have h1 := step_any p B n false (liveF la n) w0 HT.out.met ⟨hn0, by omega⟩ (liveF_kinds HS.out.kinds n)
                  unfold stepC stepN stepL at h1
                  simp only [Bool.false_eq_true, if_false] at h1
                  rw [liveF_hit, liveF_keep, ← hc] at h1
                  have e : (c == 11) = decide (c = 11) := by rw [Bool.eq_iff_iff]; simp
                  rw [e]
                  exact h1
                have HST := Lib.hid hst
                have HC := Lib.hid hc
                have HRW := Lib.hid (faults_of_owns HT.out.row)
                have HKI := Lib.hid HS.out.kinds
                have HAT := Lib.hid HS.out.ats
                clear hst hc
                go_wp2_with fail
                go_loop [8, 9] (StepRel la (n + 1)) (fun _ iv => (intOf iv + 1).toNat)
                case atStart => exact ⟨la.length, Nat.le_refl _, rfl, by rw [List.drop_length]; rfl⟩
                case round =>
                  obtain ⟨j, hj, rfl, rfl⟩ := hrel
                  cases j with
                  | zero =>
                    have hd5 : decide (0 ≤ ((0 : Nat) : Int) - 1) = false := by decide
                    rw [List.drop_zero, ← HC.out]
                    go_wp2_with (go_at_call 6; refine HST.out.mono ?_; rintro e w2 ⟨rfl, ht2⟩)
                    go_meet
                    obtain ⟨B', hT'⟩ := HT.out.turn ht2
                    exact ⟨n + 1, c == 11, la, B', rfl, rfl, HS.out.step, hT'⟩
                  | succ i =>
                    have hi : i < la.length := by omega
                    rw [show (((i + 1 : Nat) : Int) - 1) = (i : Int) from by omega]
                    have hcv := codeF_val HKI.out (n + 1) i hi
                    have hkd := HKI.out _ (List.getElem_mem hi)
                    obtain ⟨b2, off2, rfl, -, -, hc0, hc1⟩ := HRW.out.get i hi
                    obtain ⟨f, hfe⟩ : ∃ f, f = la[i]'hi := ⟨_, rfl⟩
                    rw [← hfe] at hcv hkd hc0 hc1
                    have hd5 : decide (0 ≤ (i : Int)) = true := decide_eq_true (by omega)
                    obtain ⟨hkd0, hkd1⟩ := hkd
                    by_cases ha : f.at_ = n + 1
                    · have hd6 : (f.at_ == n + 1) = true := by simp [ha]
                      rw [if_pos ha] at hcv
                      by_cases hk1 : f.kind = 1
                      · have hd7 : (f.kind == 1) = true := by simp [hk1]
                        rw [if_pos hk1] at hcv
                        have HCV := Lib.hid hcv
                        clear hcv ha hk1 hfe
                        go_wp2_with fail
                        exact ⟨⟨i, by omega, rfl, by rw [HCV.out]⟩, by simp [intOf]⟩
                      · have hd7 : (f.kind == 1) = false := by simp [hk1]
                        rw [if_neg hk1] at hcv
                        have HCV := Lib.hid hcv
                        clear hcv ha hk1 hfe
                        go_wp2_with fail
                        exact ⟨⟨i, by omega, rfl, by rw [HCV.out]⟩, by simp [intOf]⟩
                    · have hd6 : (f.at_ == n + 1) = false := by simp [ha]
                      rw [if_neg ha] at hcv
                      have HCV := Lib.hid hcv
                      clear hcv ha hfe
                      go_wp2_with fail
                      exact ⟨⟨i, by omega, rfl, by rw [HCV.out]⟩, by simp [intOf]⟩
            · have hb0 : (ak == 0) = false := by simp [hk0]
              by_cases hk1 : ak = 1
              · have hb1 : (ak == 1) = true := by simp [hk1]
                clear hk0 hk1
                have hll := HS.out.len
                obtain ⟨ti, hti, hz0, hz1, hz2⟩ := info_parts infoF
                have HB0 := Lib.hid HT.out.met.lt
                go_wp2_with fail
                rw [hb0]
                go_loopw [6, 10, 11] (ArmLoop w w0 la fl n (.slice av0 la.length cav)) (fun _ _ iv _ => fl.length - (intOf iv).toNat)
                case atStart => exact ⟨0, Nat.zero_le _, rfl, rfl, by simpa [armF] using HT.out.row, Fr.refl _ _, fun i hi => .inl hi⟩
                case round =>
                  obtain ⟨j, hj, rfl, rfl, hrow, hfj, hbj⟩ := hrel
                  have hfw : Fr [] w wr := HF.out.own HT.out.row hfj
                  obtain ⟨z0, z1⟩ := HCL.out wr hfw
                  obtain ⟨a6, c6, rfl, hlc6, hcm6⟩ := owns_slice hrow
                  by_cases hjn : j < fl.length
                  · have hd5 : decide (j < fl.length) = true := decide_eq_true hjn
                    have htk := armF_take fl n j hjn
                    have hal := armF_le (fl.take j) n
                    rw [List.length_take] at hal
                    obtain ⟨b2, off2, rfl, -, -, hc0, hc1⟩ := (HFL.out.below hfw).get j hjn
                    have hmy := fun wx => may_any (fl[j]'hjn) wx
                    obtain ⟨f, hfe⟩ : ∃ f, f = fl[j]'hjn := ⟨_, rfl⟩
                    rw [← hfe] at hc0 hc1 htk hmy
                    unfold FltD.val at hmy
                    obtain ⟨c10, hc10⟩ : ∃ c, c = (armF (fl.take j) n).length := ⟨_, rfl⟩
                    obtain ⟨X, hX⟩ : ∃ X, X = la ++ armF (fl.take j) n := ⟨_, rfl⟩
                    obtain ⟨m, hm⟩ : ∃ m, m = X.length := ⟨_, rfl⟩
                    have hmm : m ≤ 2000 := by rw [hm, hX, List.length_append]; omega
                    rw [← hX] at hrow hlc6
                    rw [← hm] at hrow hlc6
                    rw [← hc10] at hal
                    rw [← hX, ← hm, ← hc10]
                    rw [← hX, ← hm] at hbj
                    have HX := Lib.hid hX
                    have HM := Lib.hid hm
                    have HC10 := Lib.hid hc10
                    have hfa := Fr.alloc wr (.cells #[.int .i64 f.at_, .int .i64 f.kind] 31)
                    have hba := heap_alloc_new wr (.cells #[.int .i64 f.at_, .int .i64 f.kind] 31)
                    have HFA := Lib.hid hfa
                    have HBA := Lib.hid hba
                    have HRO := Lib.hid hrow
                    have HFJ := Lib.hid hfj
                    have HFW := Lib.hid hfw
                    have HBJ := Lib.hid hbj
                    have HTK := Lib.hid htk
                    clear hX hm hc10 hfa hba hrow hfj hfw hbj htk hfe
                    by_cases hma : mayF f = true
                    · rw [hma] at hmy
                      obtain ⟨-, -, hat1, hat2⟩ := (mayF_iff f).1 hma
                      have HMY := Lib.hid hmy
                      have HMA := Lib.hid hma
                      clear hmy hma
                      go_wp2_with (first
                        | (go_at_call 7; refine (HMY.out _).mono ?_; rintro e w2 ⟨rfl, hf2⟩; obtain ⟨d0, d1⟩ := two_of_heap (hf2.heap HBA.out (by simp)); have HF2 := Lib.hid hf2; have HRO2 := Lib.hid (owns_kept (owns_kept HRO.out HFA.out (by simp)) hf2 (by simp)); clear hf2)
                        | (at_builtin; refine wpL_appendS rfl (.tmp 102) (.tmp 110) 26 rfl w.heap.size 31 ti _ 2 16 Try.underlying26 hti hz0 hz1 hz2 (by rfl) (by decide) (.slice a6 m c6) m _ rfl HRO2.out [.int .i64 (n + f.at_), .int .i64 f.kind] rfl (by intro u hu; simp at hu; rcases hu with rfl | rfl <;> rfl) rfl (by omega) (by simp [maxLen]; omega) (by have := HFW.out.size; have := HFA.out.size; have := HF2.out.size; omega) ?_; intro v5 w5 hown5 hf5 hb5; obtain ⟨a5, c5, rfl, -, -⟩ := owns_slice hown5))
                      have hte : armF (fl.take (j + 1)) n = armF (fl.take j) n ++ [⟨n + f.at_, f.kind⟩] := by rw [HTK.out, if_pos HMA.out]
                      have hle2 : w0.heap.size ≤ w2.heap.size := by have := HFJ.out.size; have := HFA.out.size; have := HF2.out.size; omega
                      refine ⟨⟨j + 1, by omega, ?_, by go_num, ?_, ?_, ?_⟩, by simp [intOf]; omega⟩
                      · rw [hte, List.length_append, ← HC10.out]
                        rfl
                      · rw [hte, ← List.append_assoc, ← HX.out, List.length_append, ← HM.out, fcells_append]
                        exact hown5
                      · have h1 : Fr (Value.slice av0 la.length cav).ownBlock.toList w0 w2 := (HFJ.out.trans HFA.out (fun _ h _ => h) (by simp)).trans HF2.out (fun _ h _ => h) (by simp)
                        have h2 := h1.trans (Fr.alloc w2 (.cells #[.int .i64 (n + f.at_), .int .i64 f.kind] 31)) (n := (Value.slice av0 la.length cav).ownBlock.toList) (fun _ h _ => h) (by simp)
                        refine h2.trans hf5 (fun _ h _ => h) (fun i hi hlt => ?_)
                        rcases HBJ.out i (Option.mem_toList.1 hi) with q | q
                        · exact Option.mem_toList.2 q
                        · omega
                      · intro i hi
                        rcases hb5 with q | ⟨i', q, q2⟩
                        · rw [q] at hi
                          exact HBJ.out i hi
                        · rw [q] at hi
                          have : i' = i := Option.some.inj hi
                          right
                          omega
                    · have hma' : mayF f = false := by simpa using hma
                      rw [hma'] at hmy
                      have HMY := Lib.hid hmy
                      have HMA := Lib.hid hma'
                      clear hmy hma hma'
                      go_wp2_with (go_at_call 7; refine (HMY.out _).mono ?_; rintro e w2 ⟨rfl, hf2⟩)
                      have hte : armF (fl.take (j + 1)) n = armF (fl.take j) n := by rw [HTK.out, HMA.out]; rfl
                      refine ⟨⟨j + 1, by omega, ?_, by go_num, ?_, ?_, HBJ.out⟩, by simp [intOf]; omega⟩
                      · rw [hte, HC10.out]
                      · rw [hte, ← HX.out, ← HM.out]
                        exact owns_kept (owns_kept HRO.out HFA.out (by simp)) hf2 (by simp)
                      · exact (HFJ.out.trans HFA.out (fun _ h _ => h) (by simp)).trans hf2 (fun _ h _ => h) (by simp)
                  · have hd5 : decide (j < fl.length) = false := decide_eq_false hjn
                    obtain rfl : j = fl.length := by omega
                    rw [List.take_length] at hrow hbj ⊢
                    have hM : isM wr p B n dn (liveF la n) := HT.out.met.kept hfj (fun i hi hm => HT.out.apart i (Option.mem_toList.1 hm) hi)
                    have hll2 := liveF_le la n
                    have harm := arm_any p B n dn (liveF la n) fl _ wr hM (HFL.out.below hfw) ⟨hn0, by omega⟩ (by omega) (fun i hi hne hm => by
                      have h1 := elemsAt.lt HFL.out (by simpa using hne) i hi
                      have h2 := HT.out.new i hm
                      omega)
                    rw [← liveF_arm] at harm
                    have hap6 : ∀ i, (Value.slice a6 (la ++ armF fl n).length c6).ownBlock = some i → i ∉ B := fun i hi hm => by
                      rcases hbj i hi with q | q
                      · exact HT.out.apart i q hm
                      · have := HB0.out i hm; omega
                    have HAR := Lib.hid harm
                    have HRO := Lib.hid hrow
                    have HFW := Lib.hid hfw
                    have HAP := Lib.hid hap6
                    clear harm hrow hfj hfw hbj hM hap6
                    go_wp2_with (go_at_call 8; refine HAR.out.mono ?_; rintro e w2 ⟨rfl, ht2⟩)
                    go_meet
                    obtain ⟨B', hT'⟩ := two_mk HRO.out HAP.out HT.out.new HFW.out ht2
                    rw [List.length_append] at hT'
                    exact ⟨n, dn, la ++ armF fl n, B', rfl, rfl, HS.out.arm (by omega) h20, hT'⟩
              · have hb1 : (ak == 1) = false := by simp [hk1]
                by_cases hk2 : ak = 2
                · have hb2 : (ak == 2) = true := by simp [hk2]
                  clear hk0 hk1 hk2
                  have HFA := Lib.hid (mfall_any p B n dn (liveF la n) w0 HT.out.met)
                  go_wp2_with (go_at_call 9; refine HFA.out.mono ?_; rintro e w2 ⟨rfl, ht2⟩)
                  go_meet
                  obtain ⟨B', hT'⟩ := HT.out.turn ht2
                  exact ⟨n, true, la, B', rfl, rfl, HS.out.stay, hT'⟩
                · have hb2 : (ak == 2) = false := by simp [hk2]
                  clear hk0 hk1 hk2
                  have HRI := Lib.hid (mrise_any p B n dn (liveF la n) w0 HT.out.met)
                  go_wp2_with (go_at_call 10; refine HRI.out.mono ?_; rintro e w2 ⟨rfl, ht2⟩)
                  go_meet
                  obtain ⟨B', hT'⟩ := two_mk (la := []) (n' := n) (av := .slice none 0 0) (World.ownsRow_nil _ _ _ _) (by simp [Value.ownBlock]) HT.out.new HT.out.fr ht2
                  exact ⟨n, false, [], B', rfl, rfl, HS.out.none, hT'⟩
          case rest =>
            obtain ⟨n, dn, la, B, rfl, rfl, hS, hT⟩ := hcut
            obtain ⟨av1, cav1, rfl, hlav1, hmav1⟩ := owns_slice hT.row
            have hn0 := hS.lo
            have hn1 := hS.hi
            have hll := hS.len
            have hll2 := liveF_le la n
            have HARM := Lib.hid (armed_any p B n dn (liveF la n) wc hT.met ⟨hn0, by omega⟩ (by omega) (fun f hf => hS.ats f (List.mem_filter.1 hf).1))
            have HT2 := Lib.hid hT
            have HS2 := Lib.hid hS
            clear hT hS
            go_wp2_with (go_at_call 11; refine HARM.out.mono ?_; rintro e w2 ⟨gv, rfl, hg, hf2⟩; rw [futureF_back] at hg; obtain ⟨ga, gc, rfl, -, -⟩ := hg.form)
            have HG := Lib.hid hg
            have HT3 := Lib.hid (HT2.out.below hf2)
            clear hg hf2
            go_loopw [14, 15] (TellRel w2 la n) (fun _ iv _ => la.length - (intOf iv).toNat)
            case atStart => exact ⟨0, Nat.zero_le _, rfl, rfl, Fr.refl _ _⟩
            case round =>
              obtain ⟨j, hj, rfl, rfl, hfj⟩ := hrel
              by_cases hjn : j < la.length
              · have hd5 : decide (j < la.length) = true := decide_eq_true hjn
                have hat := HS2.out.ats _ (List.getElem_mem hjn)
                have hfa := futureF_at la n j hjn
                have htk := futureF_take la n j hjn
                obtain ⟨b2, off2, rfl, -, -, hc0, hc1⟩ := (faults_of_owns (HT3.out.below hfj).row).get j hjn
                obtain ⟨f, hfe⟩ : ∃ f, f = la[j]'hjn := ⟨_, rfl⟩
                rw [← hfe] at hat hfa htk hc0 hc1
                obtain ⟨hat1, hat2⟩ := hat
                by_cases hlt : n < f.at_
                · have hd6 : decide (n < f.at_) = true := decide_eq_true hlt
                  rw [if_pos hlt] at htk
                  obtain ⟨hc, hfu⟩ := hfa hlt
                  obtain ⟨b3, off3, rfl, -, -, hg0, hg1⟩ := (HG.out.below hfj).get _ hc
                  rw [hfu] at hg0 hg1
                  obtain ⟨c, hcc⟩ : ∃ c, c = (futureF (la.take j) n).length := ⟨_, rfl⟩
                  rw [← hcc] at hc hg0 hg1
                  obtain ⟨G, hG⟩ : ∃ G, G = (futureF la n).length := ⟨_, rfl⟩
                  rw [← hG] at hc
                  rw [← hcc, ← hG]
                  have hd7 : decide (G ≤ c) = false := decide_eq_false (by omega)
                  have hGl : G ≤ la.length := by rw [hG]; exact futureF_le la n
                  have LW : Hid (∀ w', Fr [] wr w' → w'.cell? ⟨b2, off2 + j * 2, none⟩ = some (.int .i64 f.at_) ∧ w'.cell? ⟨b2, off2 + j * 2 + 1, none⟩ = some (.int .i64 f.kind) ∧ w'.cell? ⟨b3, off3 + c * 2, none⟩ = some (.int .i64 (f.at_ - n)) ∧ w'.cell? ⟨b3, off3 + c * 2 + 1, none⟩ = some (.int .i64 f.kind)) :=
                    Lib.hid (fun w' hf' => ⟨hf'.cell hc0 (by simp), hf'.cell hc1 (by simp), hf'.cell hg0 (by simp), hf'.cell hg1 (by simp)⟩)
                  have HCC := Lib.hid hcc
                  have HFJ := Lib.hid hfj
                  have HTK := Lib.hid htk
                  have HLT := Lib.hid hlt
                  clear hcc hG hfj htk hfa hfe hlt hg0 hg1 hfu
                  go_wp2_with fail
                  refine wp_region_G [] [(0, false), (1, false), (2, false), (3, false), (4, false), (5, false), (6, false), (7, false), (8, false), (9, false), (10, false), (11, false), (12, false), (13, false), (14, false), (15, false), (16, false), (17, false), (18, false), (19, false), (20, false), (21, false), (22, false), (23, false), (24, false), (25, false), (26, false), (27, false), (28, false), (29, false), (30, false), (31, false)] 199 rfl (by kernel_rfl) (by kernel_rfl) (by kernel_rfl) (fun c a d v w h => by cases d <;> exact h) (fun wq hfq => ?_)
                  simp only [List.map_cons, List.map_nil, List.getElem?_toArray, List.getElem?_cons_succ, List.getElem?_cons_zero, Option.getD_some]
                  have HFQ := Lib.hid hfq
                  clear hc0 hc1 hfq
                  repeat (apply wpG_t; · (intro w' hf'; obtain ⟨k0, k1, k2, k3⟩ := LW.out w' (HFQ.out.trans hf' (by simp) (by simp)); go_wp2_with fail; exact ⟨rfl, rfl⟩))
                  refine wpG_end ?_
                  go_wp2_with fail
                  refine ⟨⟨j + 1, by omega, ?_, by go_num, HFJ.out.trans HFQ.out (by simp) (by simp)⟩, by simp [intOf]; omega⟩
                  rw [HTK.out, List.length_append, ← HCC.out]
                  rfl
                · have hd6 : decide (n < f.at_) = false := decide_eq_false hlt
                  rw [if_neg hlt] at htk
                  have HFJ := Lib.hid hfj
                  have HTK := Lib.hid htk
                  clear hfj htk hfa hfe hlt
                  go_wp2_with fail
                  refine ⟨⟨j + 1, by omega, by rw [HTK.out], by go_num, HFJ.out⟩, by simp [intOf]; omega⟩
              · have hd5 : decide (j < la.length) = false := decide_eq_false hjn
                obtain rfl : j = la.length := by omega
                rw [List.take_length]
                obtain ⟨G, hG⟩ : ∃ G, G = (futureF la n).length := ⟨_, rfl⟩
                rw [← hG]
                have hT4 := HT3.out.below hfj
                have HSP := Lib.hid (msteps_any p B n dn (liveF la n) wr hT4.met)
                have HDN := Lib.hid (mdown_any p B n dn (liveF la n) wr hT4.met)
                have HT4 := Lib.hid hT4
                clear hT4 hfj hG
                go_wp2_with (first
                  | (go_at_call 12; refine HSP.out.mono ?_; rintro e w6 ⟨rfl, rfl⟩)
                  | (go_at_call 13; refine HDN.out.mono ?_; rintro e w6 ⟨rfl, rfl⟩))
                exact ⟨⟨k + 1, n, dn, la, B, by omega, rfl, rfl, by go_num, HS2.out, HT4.out⟩, by simp [intOf]; omega⟩
        · have hd20 : decide (20 < (fl.length : Int)) = true := decide_eq_true (by omega)
          go_wp2_with (go_at_call 4; refine (HAW.out _).mono ?_; rintro e w' ⟨rfl, hfa⟩)
          go_ret
          exact ⟨rfl, HF.out.trans hfa (by simp) (by simp)⟩
      · have hd2 : decide (k < l.length) = false := decide_eq_false hkn
        have HF := Lib.hid hf
        clear hf
        go_wp2_with (go_at_call 4; refine (HAW.out _).mono ?_; rintro e w' ⟨rfl, hfa⟩)
        go_ret
        exact ⟨rfl, HF.out.trans hfa (by simp) (by simp)⟩
  · have hd40 : decide (40 < (l.length : Int)) = true := decide_eq_true (by omega)
    go_enter Try.func3, Try.ntmps3
    go_wp2_with (go_at_call 4; refine (HAW.out _).mono ?_; rintro e w' ⟨rfl, hf⟩)
    go_ret
    exact ⟨rfl, hf⟩
end Go.Proofs.Ytheanpmgdkajnaa
