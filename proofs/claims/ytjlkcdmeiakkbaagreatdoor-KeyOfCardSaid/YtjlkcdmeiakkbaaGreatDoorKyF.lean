/- Stage 17, the program: candidate, Read. -/
import Derived.Test.YtjlkcdmeiakkbaaGreatDoorKyE
set_option linter.unusedVariables false
set_option linter.unusedSimpArgs false
namespace Go.Proofs.YtjlkcdmeiakkbaaGreatDoor
open Go.RowKit

theorem sizeNm : (Tryz.prog.info? 39).map (·.size) = some 35 := by kernel_rfl
set_option maxRecDepth 100000 in
theorem cand_journal (w : World) :
    Calls Tryz.prog 18 #[.string ⟨journalB.toArray⟩] w fun e w' => e = .returned (.agg (nameC (candN journalB))) ∧ Fr [] w w' := by
  have hzz := zeroNm
  have hb := built_name1 4
  have hs := sizeN (x := ⟨4, zeroH, 0, 0⟩) rfl
  have h1 := nameC_one ⟨4, zeroH, 0, 0⟩
  have hZs : (nameC zeroN).size = (nameC ⟨4, zeroH, 0, 0⟩).size := by rw [nameC_size rfl, nameC_size rfl]
  have hR : candN journalB = ⟨4, zeroH, 0, 0⟩ := by unfold candN; rw [if_pos rfl]
  rw [hR]
  obtain ⟨Z, hZ⟩ : ∃ Z, Z = nameC zeroN := ⟨_, rfl⟩
  obtain ⟨C, hC⟩ : ∃ C, C = nameC ⟨4, zeroH, 0, 0⟩ := ⟨_, rfl⟩
  rw [← hZ] at hzz hZs
  rw [← hC] at hb hs h1 hZs
  rw [← hC]
  clear hR hZ hC
  unfold journalB
  go_enter Tryz.func18, Tryz.ntmps18
  go_wp2_with (first
    | (refine wpL_newArr rfl 39 rfl Z hzz ?_; intro w1 hh1 hf1 hs1)
    | (refine wpL_build rfl _ _ rfl C _ rfl hb ?_; refine wpL_storeArr rfl _ _ _ rfl w.heap.size C Z rfl rfl _ hh1.out hs hZs h1 ?_; intro w2 hh2 hf2 hs2))
  refine bodyPost_ret (v := .agg C) (results_cell_row rfl _ _ w.heap.size 39 C _ _ rfl hh2.out Tryz.underlying39 rfl hs) rfl ⟨rfl, ?_⟩
  exact hf1.trans hf2 (by simp) (by simp)
set_option maxRecDepth 100000 in
theorem cand_fresh (w : World) :
    Calls Tryz.prog 18 #[.string ⟨freshB.toArray⟩] w fun e w' => e = .returned (.agg (nameC (candN freshB))) ∧ Fr [] w w' := by
  have hzz := zeroNm
  have hb := built_name1 5
  have hs := sizeN (x := ⟨5, zeroH, 0, 0⟩) rfl
  have h1 := nameC_one ⟨5, zeroH, 0, 0⟩
  have hZs : (nameC zeroN).size = (nameC ⟨5, zeroH, 0, 0⟩).size := by rw [nameC_size rfl, nameC_size rfl]
  have hR : candN freshB = ⟨5, zeroH, 0, 0⟩ := by unfold candN; rw [if_neg (by decide), if_pos rfl]
  rw [hR]
  obtain ⟨Z, hZ⟩ : ∃ Z, Z = nameC zeroN := ⟨_, rfl⟩
  obtain ⟨C, hC⟩ : ∃ C, C = nameC ⟨5, zeroH, 0, 0⟩ := ⟨_, rfl⟩
  rw [← hZ] at hzz hZs
  rw [← hC] at hb hs h1 hZs
  rw [← hC]
  clear hR hZ hC
  unfold freshB
  go_enter Tryz.func18, Tryz.ntmps18
  go_wp2_with (first
    | (refine wpL_newArr rfl 39 rfl Z hzz ?_; intro w1 hh1 hf1 hs1)
    | (refine wpL_build rfl _ _ rfl C _ rfl hb ?_; refine wpL_storeArr rfl _ _ _ rfl w.heap.size C Z rfl rfl _ hh1.out hs hZs h1 ?_; intro w2 hh2 hf2 hs2))
  refine bodyPost_ret (v := .agg C) (results_cell_row rfl _ _ w.heap.size 39 C _ _ rfl hh2.out Tryz.underlying39 rfl hs) rfl ⟨rfl, ?_⟩
  exact hf1.trans hf2 (by simp) (by simp)

/-- What is known where a text is neither of the two whole names. -/
structure CandAt (s a r : List UInt8) (w : World) : Prop where
  nj : (s == journalB) = false
  nf : (s == freshB) = false
  cut : ∀ wx, VarsAt wx → ∃ b, Calls Tryz.prog 41 #[.string ⟨s.toArray⟩, .string ⟨#[45]⟩] wx fun e w' => e = .returned (.tuple #[.string ⟨a.toArray⟩, .string ⟨r.toArray⟩, .bool b]) ∧ Fr [] wx w'
  parse : ∀ wx, VarsAt wx → ∃ b, Calls Tryz.prog 42 #[.string ⟨r.toArray⟩] wx fun e w' => e = .returned (KP (keyD r) b) ∧ Fr [] wx w'
  atoi : ∀ wx, VarsAt wx → Calls Tryz.prog 43 #[.string ⟨r.toArray⟩] wx (AtoiRet r wx)
  vars : VarsAt w
theorem cut_le (s : List UInt8) : (Lib.cut s [45]).2.1.length ≤ s.length := by
  unfold Lib.cut
  split
  · simp
  · simp
theorem cand_at (s : List UInt8) (w : World) (hl : s.length ≤ 1000000) (hv : VarsAt w) (h1 : s ≠ journalB) (h2 : s ≠ freshB) : CandAt s (Lib.cut s [45]).1 (Lib.cut s [45]).2.1 w where
  nj := by rw [beq_eq_false_iff_ne]; exact h1
  nf := by rw [beq_eq_false_iff_ne]; exact h2
  cut := fun wx hx => ⟨_, cut_any s hl wx hx⟩
  parse := fun wx hx => ⟨_, kparse_any _ wx (by have := cut_le s; omega) hx⟩
  atoi := fun wx hx => atoi_any _ (by have := cut_le s; omega) wx hx
  vars := hv
set_option maxRecDepth 100000 in
theorem cand_entry (s r : List UInt8) (w : World) (h : CandAt s [111] r w) :
    Calls Tryz.prog 18 #[.string ⟨s.toArray⟩] w fun e w' => e = .returned (.agg (nameC ⟨1, (keyD r).1, (keyD r).2, 0⟩)) ∧ Fr [] w w' := by
  have hzz := zeroNm
  have hl := keyD_length r
  have hb := built_nameK hl 1 (keyD r).2
  have hs := sizeN (x := ⟨1, (keyD r).1, (keyD r).2, 0⟩) hl
  have h1 := nameC_one ⟨1, (keyD r).1, (keyD r).2, 0⟩
  have hZs : (nameC zeroN).size = (nameC ⟨1, (keyD r).1, (keyD r).2, 0⟩).size := by rw [nameC_size rfl, nameC_size hl]
  obtain ⟨nj, nf, hcut, hpar, hato, hv⟩ := h
  unfold journalB at nj
  unfold freshB at nf
  have hkz := zeroK
  have hks := sizeK (k := (keyD r).2) hl
  have hk1 := keyC_one (keyD r).1 (keyD r).2
  have hZK : (keyC zeroH 0).size = (keyC (keyD r).1 (keyD r).2).size := by rw [keyC_size rfl, keyC_size hl]
  obtain ⟨Z, hZ⟩ : ∃ Z, Z = nameC zeroN := ⟨_, rfl⟩
  obtain ⟨C, hC⟩ : ∃ C, C = nameC ⟨1, (keyD r).1, (keyD r).2, 0⟩ := ⟨_, rfl⟩
  obtain ⟨ZK, hZKe⟩ : ∃ C, C = keyC zeroH 0 := ⟨_, rfl⟩
  obtain ⟨CK, hCK⟩ : ∃ C, C = keyC (keyD r).1 (keyD r).2 := ⟨_, rfl⟩
  have hKP : ∀ b, KP (keyD r) b = .tuple #[.agg CK, .bool b] := fun b => by rw [hCK]; rfl
  simp only [hKP] at hpar
  rw [← hC] at hb hs h1 hZs
  rw [← hZ] at hzz hZs
  rw [← hZKe] at hkz hZK
  rw [← hCK] at hks hk1 hZK hb
  rw [← hC]
  have HC := Lib.hid hcut
  have HP := Lib.hid hpar
  have HA := Lib.hid hato
  have HV := Lib.hid hv
  clear hZ hC hl hZKe hCK hKP hcut hpar hato hv
  go_enter Tryz.func18, Tryz.ntmps18
  go_wp2_with (first
    | (refine wpL_newArr rfl 39 rfl Z hzz ?_; intro w1 hh1 hf1 hs1)
    | (go_at_call 41; obtain ⟨b2, hc2⟩ := HC.out _ (HV.out.below hf1); refine hc2.mono ?_; rintro e w2 ⟨rfl, hf2⟩; have hf12 := hf1.trans hf2 (by simp) (n := []) (by simp); have hh12 := hf2.heap hh1.out (by simp))
    | (go_at_call 42; obtain ⟨b3, hc3⟩ := HP.out _ (HV.out.below hf12); refine hc3.mono ?_; rintro e w3 ⟨rfl, hf3⟩; have hf13 := hf12.trans hf3 (by simp) (n := []) (by simp); have hh13 := hf3.heap hh12 (by simp); have hz13 := hf13.size; have hz1 := hs1.out; have hlt3 := lt_k hh13)
    | (refine wpL_newArr rfl 30 rfl ZK hkz ?_; intro w4 hh4 hf4 hs4; refine wpL_storeArr rfl _ _ _ rfl w3.heap.size CK ZK rfl rfl _ hh4.out hks hZK hk1 ?_; intro w5 hh5 hf5 hs5; have hf15 := (hf13.trans hf4 (by simp) (n := []) (by simp)).trans hf5 (by simp) (n := []) (by simp; omega); have hh15 := hf5.heap (hf4.heap hh13 (by simp)) (by simp; omega))
    | (go_at_call 43; refine (HA.out _ (HV.out.below hf15)).mono ?_; rintro e w6 ⟨⟨ev, rfl, hev⟩, hf6⟩)
    | (refine wpList_load_row rfl _ _ rfl w3.heap.size rfl _ CK _ _ (hf6.heap hh5.out (by simp)) Tryz.underlying30 rfl hks ?_; refine wpL_build rfl _ _ rfl C _ rfl hb ?_; refine wpL_storeArr rfl _ _ _ rfl w.heap.size C Z rfl rfl _ (hf6.heap hh15 (by simp)) hs hZs h1 ?_; intro w7 hh7 hf7 hs7))
  refine bodyPost_ret (v := .agg C) (results_cell_row rfl _ _ w.heap.size 39 C _ _ rfl hh7.out Tryz.underlying39 rfl hs) rfl ⟨rfl, ?_⟩
  exact (hf15.trans hf6 (by simp) (n := []) (by simp)).trans hf7 (by simp) (by simp)
set_option maxRecDepth 100000 in
theorem cand_temp (s r : List UInt8) (w : World) (h : CandAt s [116] r w) :
    Calls Tryz.prog 18 #[.string ⟨s.toArray⟩] w fun e w' => e = .returned (.agg (nameC ⟨2, zeroH, 0, atoiV r⟩)) ∧ Fr [] w w' := by
  have hzz := zeroNm
  have hl := keyD_length r
  have hb := built_nameN 2 (atoiV r)
  have hs := sizeN (x := ⟨2, zeroH, 0, atoiV r⟩) rfl
  have h1 := nameC_one ⟨2, zeroH, 0, atoiV r⟩
  have hZs : (nameC zeroN).size = (nameC ⟨2, zeroH, 0, atoiV r⟩).size := by rw [nameC_size rfl, nameC_size rfl]
  obtain ⟨nj, nf, hcut, hpar, hato, hv⟩ := h
  unfold journalB at nj
  unfold freshB at nf
  have hkz := zeroK
  have hks := sizeK (k := (keyD r).2) hl
  have hk1 := keyC_one (keyD r).1 (keyD r).2
  have hZK : (keyC zeroH 0).size = (keyC (keyD r).1 (keyD r).2).size := by rw [keyC_size rfl, keyC_size hl]
  obtain ⟨Z, hZ⟩ : ∃ Z, Z = nameC zeroN := ⟨_, rfl⟩
  obtain ⟨C, hC⟩ : ∃ C, C = nameC ⟨2, zeroH, 0, atoiV r⟩ := ⟨_, rfl⟩
  obtain ⟨ZK, hZKe⟩ : ∃ C, C = keyC zeroH 0 := ⟨_, rfl⟩
  obtain ⟨CK, hCK⟩ : ∃ C, C = keyC (keyD r).1 (keyD r).2 := ⟨_, rfl⟩
  have hKP : ∀ b, KP (keyD r) b = .tuple #[.agg CK, .bool b] := fun b => by rw [hCK]; rfl
  simp only [hKP] at hpar
  rw [← hC] at hb hs h1 hZs
  rw [← hZ] at hzz hZs
  rw [← hZKe] at hkz hZK
  rw [← hCK] at hks hk1 hZK
  rw [← hC]
  have HC := Lib.hid hcut
  have HP := Lib.hid hpar
  have HA := Lib.hid hato
  have HV := Lib.hid hv
  clear hZ hC hl hZKe hCK hKP hcut hpar hato hv
  go_enter Tryz.func18, Tryz.ntmps18
  go_wp2_with (first
    | (refine wpL_newArr rfl 39 rfl Z hzz ?_; intro w1 hh1 hf1 hs1)
    | (go_at_call 41; obtain ⟨b2, hc2⟩ := HC.out _ (HV.out.below hf1); refine hc2.mono ?_; rintro e w2 ⟨rfl, hf2⟩; have hf12 := hf1.trans hf2 (by simp) (n := []) (by simp); have hh12 := hf2.heap hh1.out (by simp))
    | (go_at_call 42; obtain ⟨b3, hc3⟩ := HP.out _ (HV.out.below hf12); refine hc3.mono ?_; rintro e w3 ⟨rfl, hf3⟩; have hf13 := hf12.trans hf3 (by simp) (n := []) (by simp); have hh13 := hf3.heap hh12 (by simp); have hz13 := hf13.size; have hz1 := hs1.out; have hlt3 := lt_k hh13)
    | (refine wpL_newArr rfl 30 rfl ZK hkz ?_; intro w4 hh4 hf4 hs4; refine wpL_storeArr rfl _ _ _ rfl w3.heap.size CK ZK rfl rfl _ hh4.out hks hZK hk1 ?_; intro w5 hh5 hf5 hs5; have hf15 := (hf13.trans hf4 (by simp) (n := []) (by simp)).trans hf5 (by simp) (n := []) (by simp; omega); have hh15 := hf5.heap (hf4.heap hh13 (by simp)) (by simp; omega))
    | (go_at_call 43; refine (HA.out _ (HV.out.below hf15)).mono ?_; rintro e w6 ⟨⟨ev, rfl, hev⟩, hf6⟩)
    | (refine wpL_build rfl _ _ rfl C _ rfl hb ?_; refine wpL_storeArr rfl _ _ _ rfl w.heap.size C Z rfl rfl _ (hf6.heap hh15 (by simp)) hs hZs h1 ?_; intro w7 hh7 hf7 hs7))
  refine bodyPost_ret (v := .agg C) (results_cell_row rfl _ _ w.heap.size 39 C _ _ rfl hh7.out Tryz.underlying39 rfl hs) rfl ⟨rfl, ?_⟩
  exact (hf15.trans hf6 (by simp) (n := []) (by simp)).trans hf7 (by simp) (by simp)
set_option maxRecDepth 100000 in
theorem cand_aside (s r : List UInt8) (w : World) (h : CandAt s [113] r w) :
    Calls Tryz.prog 18 #[.string ⟨s.toArray⟩] w fun e w' => e = .returned (.agg (nameC ⟨3, zeroH, 0, atoiV r⟩)) ∧ Fr [] w w' := by
  have hzz := zeroNm
  have hl := keyD_length r
  have hb := built_nameN 3 (atoiV r)
  have hs := sizeN (x := ⟨3, zeroH, 0, atoiV r⟩) rfl
  have h1 := nameC_one ⟨3, zeroH, 0, atoiV r⟩
  have hZs : (nameC zeroN).size = (nameC ⟨3, zeroH, 0, atoiV r⟩).size := by rw [nameC_size rfl, nameC_size rfl]
  obtain ⟨nj, nf, hcut, hpar, hato, hv⟩ := h
  unfold journalB at nj
  unfold freshB at nf
  have hkz := zeroK
  have hks := sizeK (k := (keyD r).2) hl
  have hk1 := keyC_one (keyD r).1 (keyD r).2
  have hZK : (keyC zeroH 0).size = (keyC (keyD r).1 (keyD r).2).size := by rw [keyC_size rfl, keyC_size hl]
  obtain ⟨Z, hZ⟩ : ∃ Z, Z = nameC zeroN := ⟨_, rfl⟩
  obtain ⟨C, hC⟩ : ∃ C, C = nameC ⟨3, zeroH, 0, atoiV r⟩ := ⟨_, rfl⟩
  obtain ⟨ZK, hZKe⟩ : ∃ C, C = keyC zeroH 0 := ⟨_, rfl⟩
  obtain ⟨CK, hCK⟩ : ∃ C, C = keyC (keyD r).1 (keyD r).2 := ⟨_, rfl⟩
  have hKP : ∀ b, KP (keyD r) b = .tuple #[.agg CK, .bool b] := fun b => by rw [hCK]; rfl
  simp only [hKP] at hpar
  rw [← hC] at hb hs h1 hZs
  rw [← hZ] at hzz hZs
  rw [← hZKe] at hkz hZK
  rw [← hCK] at hks hk1 hZK
  rw [← hC]
  have HC := Lib.hid hcut
  have HP := Lib.hid hpar
  have HA := Lib.hid hato
  have HV := Lib.hid hv
  clear hZ hC hl hZKe hCK hKP hcut hpar hato hv
  go_enter Tryz.func18, Tryz.ntmps18
  go_wp2_with (first
    | (refine wpL_newArr rfl 39 rfl Z hzz ?_; intro w1 hh1 hf1 hs1)
    | (go_at_call 41; obtain ⟨b2, hc2⟩ := HC.out _ (HV.out.below hf1); refine hc2.mono ?_; rintro e w2 ⟨rfl, hf2⟩; have hf12 := hf1.trans hf2 (by simp) (n := []) (by simp); have hh12 := hf2.heap hh1.out (by simp))
    | (go_at_call 42; obtain ⟨b3, hc3⟩ := HP.out _ (HV.out.below hf12); refine hc3.mono ?_; rintro e w3 ⟨rfl, hf3⟩; have hf13 := hf12.trans hf3 (by simp) (n := []) (by simp); have hh13 := hf3.heap hh12 (by simp); have hz13 := hf13.size; have hz1 := hs1.out; have hlt3 := lt_k hh13)
    | (refine wpL_newArr rfl 30 rfl ZK hkz ?_; intro w4 hh4 hf4 hs4; refine wpL_storeArr rfl _ _ _ rfl w3.heap.size CK ZK rfl rfl _ hh4.out hks hZK hk1 ?_; intro w5 hh5 hf5 hs5; have hf15 := (hf13.trans hf4 (by simp) (n := []) (by simp)).trans hf5 (by simp) (n := []) (by simp; omega); have hh15 := hf5.heap (hf4.heap hh13 (by simp)) (by simp; omega))
    | (go_at_call 43; refine (HA.out _ (HV.out.below hf15)).mono ?_; rintro e w6 ⟨⟨ev, rfl, hev⟩, hf6⟩)
    | (refine wpL_build rfl _ _ rfl C _ rfl hb ?_; refine wpL_storeArr rfl _ _ _ rfl w.heap.size C Z rfl rfl _ (hf6.heap hh15 (by simp)) hs hZs h1 ?_; intro w7 hh7 hf7 hs7))
  refine bodyPost_ret (v := .agg C) (results_cell_row rfl _ _ w.heap.size 39 C _ _ rfl hh7.out Tryz.underlying39 rfl hs) rfl ⟨rfl, ?_⟩
  exact (hf15.trans hf6 (by simp) (n := []) (by simp)).trans hf7 (by simp) (by simp)
set_option maxRecDepth 100000 in
theorem cand_none (s a r : List UInt8) (w : World) (h : CandAt s a r w) (n1 : (a == [111]) = false) (n2 : (a == [116]) = false) (n3 : (a == [113]) = false) :
    Calls Tryz.prog 18 #[.string ⟨s.toArray⟩] w fun e w' => e = .returned (.agg (nameC zeroN)) ∧ Fr [] w w' := by
  have hzz := zeroNm
  have hl := keyD_length r
  have hb := built_name0
  have hs := sizeN (x := zeroN) rfl
  have h1 := nameC_one zeroN
  obtain ⟨nj, nf, hcut, hpar, hato, hv⟩ := h
  unfold journalB at nj
  unfold freshB at nf
  have hkz := zeroK
  have hks := sizeK (k := (keyD r).2) hl
  have hk1 := keyC_one (keyD r).1 (keyD r).2
  have hZK : (keyC zeroH 0).size = (keyC (keyD r).1 (keyD r).2).size := by rw [keyC_size rfl, keyC_size hl]
  obtain ⟨Z, hZ⟩ : ∃ Z, Z = nameC zeroN := ⟨_, rfl⟩
  obtain ⟨C, hC⟩ : ∃ C, C = nameC zeroN := ⟨_, rfl⟩
  obtain ⟨ZK, hZKe⟩ : ∃ C, C = keyC zeroH 0 := ⟨_, rfl⟩
  obtain ⟨CK, hCK⟩ : ∃ C, C = keyC (keyD r).1 (keyD r).2 := ⟨_, rfl⟩
  have hKP : ∀ b, KP (keyD r) b = .tuple #[.agg CK, .bool b] := fun b => by rw [hCK]; rfl
  simp only [hKP] at hpar
  rw [← hC] at hb hs h1
  have hZs : Z.size = C.size := by rw [hZ, hC]
  rw [← hZ] at hzz
  rw [← hZKe] at hkz hZK
  rw [← hCK] at hks hk1 hZK
  rw [← hC]
  have HC := Lib.hid hcut
  have HP := Lib.hid hpar
  have HA := Lib.hid hato
  have HV := Lib.hid hv
  clear hZ hC hl hZKe hCK hKP hcut hpar hato hv
  go_enter Tryz.func18, Tryz.ntmps18
  go_wp2_with (first
    | (refine wpL_newArr rfl 39 rfl Z hzz ?_; intro w1 hh1 hf1 hs1)
    | (go_at_call 41; obtain ⟨b2, hc2⟩ := HC.out _ (HV.out.below hf1); refine hc2.mono ?_; rintro e w2 ⟨rfl, hf2⟩; have hf12 := hf1.trans hf2 (by simp) (n := []) (by simp); have hh12 := hf2.heap hh1.out (by simp))
    | (go_at_call 42; obtain ⟨b3, hc3⟩ := HP.out _ (HV.out.below hf12); refine hc3.mono ?_; rintro e w3 ⟨rfl, hf3⟩; have hf13 := hf12.trans hf3 (by simp) (n := []) (by simp); have hh13 := hf3.heap hh12 (by simp); have hz13 := hf13.size; have hz1 := hs1.out; have hlt3 := lt_k hh13)
    | (refine wpL_newArr rfl 30 rfl ZK hkz ?_; intro w4 hh4 hf4 hs4; refine wpL_storeArr rfl _ _ _ rfl w3.heap.size CK ZK rfl rfl _ hh4.out hks hZK hk1 ?_; intro w5 hh5 hf5 hs5; have hf15 := (hf13.trans hf4 (by simp) (n := []) (by simp)).trans hf5 (by simp) (n := []) (by simp; omega); have hh15 := hf5.heap (hf4.heap hh13 (by simp)) (by simp; omega))
    | (go_at_call 43; refine (HA.out _ (HV.out.below hf15)).mono ?_; rintro e w6 ⟨⟨ev, rfl, hev⟩, hf6⟩)
    | (refine wpL_build rfl _ _ rfl C _ rfl hb ?_; refine wpL_storeArr rfl _ _ _ rfl w.heap.size C Z rfl rfl _ (hf6.heap hh15 (by simp)) hs hZs h1 ?_; intro w7 hh7 hf7 hs7))
  refine bodyPost_ret (v := .agg C) (results_cell_row rfl _ _ w.heap.size 39 C _ _ rfl hh7.out Tryz.underlying39 rfl hs) rfl ⟨rfl, ?_⟩
  exact (hf15.trans hf6 (by simp) (n := []) (by simp)).trans hf7 (by simp) (by simp)
/-- candidate: the only thing that a text can be the name of. -/
theorem cand_any (s : List UInt8) (w : World) (hl : s.length ≤ 1000000) (hv : VarsAt w) :
    Calls Tryz.prog 18 #[.string ⟨s.toArray⟩] w fun e w' => e = .returned (.agg (nameC (candN s))) ∧ Fr [] w w' := by
  by_cases h1 : s = journalB
  · subst h1; exact cand_journal w
  · by_cases h2 : s = freshB
    · subst h2; exact cand_fresh w
    · have hc := cand_at s w hl hv h1 h2
      have hR : candN s = if (Lib.cut s [45]).1 = [111] then ⟨1, (keyD (Lib.cut s [45]).2.1).1, (keyD (Lib.cut s [45]).2.1).2, 0⟩ else if (Lib.cut s [45]).1 = [116] then ⟨2, zeroH, 0, atoiV (Lib.cut s [45]).2.1⟩ else if (Lib.cut s [45]).1 = [113] then ⟨3, zeroH, 0, atoiV (Lib.cut s [45]).2.1⟩ else zeroN := by
        unfold candN
        rw [if_neg h1, if_neg h2]
      rw [hR]
      generalize (Lib.cut s [45]).1 = a at *
      generalize (Lib.cut s [45]).2.1 = r at *
      by_cases e1 : a = [111]
      · rw [if_pos e1]; subst e1; exact cand_entry s r w hc
      · rw [if_neg e1]
        by_cases e2 : a = [116]
        · rw [if_pos e2]; subst e2; exact cand_temp s r w hc
        · rw [if_neg e2]
          by_cases e3 : a = [113]
          · rw [if_pos e3]; subst e3; exact cand_aside s r w hc
          · rw [if_neg e3]
            exact cand_none s a r w hc (by rw [beq_eq_false_iff_ne]; exact e1) (by rw [beq_eq_false_iff_ne]; exact e2) (by rw [beq_eq_false_iff_ne]; exact e3)
end Go.Proofs.YtjlkcdmeiakkbaaGreatDoor
