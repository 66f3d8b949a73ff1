/- Stage 17, the document: Parse. (Made by gen_kyi.py.) -/
import Derived.Test.YtjlkcdmeiakkbaaDoorKyC
import Derived.Test.YtjlkcdmeiakkbaaDoorKyH
set_option linter.unusedVariables false
set_option linter.unusedSimpArgs false
namespace Go.Proofs.YtjlkcdmeiakkbaaDoor
open Go.RowKit

theorem keyC_setH (H : List UInt8) (k : Int) (i : Nat) (c : UInt8) (hi : i < H.length) : (keyC H k).setIfInBounds i (.int .u8 (c.toNat : Int)) = keyC (H.set i c) k := by
  apply Array.ext
  · simp [keyC, cellsB]
  · intro j h1 h2
    by_cases e : i = j
    · subst e
      simp [keyC, cellsB, hi]
    · rw [Array.getElem_setIfInBounds (by simpa using h1), if_neg e]
      by_cases hj : j < H.length
      · simp [keyC, cellsB, hj, e]
      · have hsz : j < H.length + 1 := by simpa [keyC, cellsB] using h1
        obtain rfl : j = H.length := by omega
        simp [keyC, cellsB]
theorem keyC_setK (H : List UInt8) (k k' : Int) (hl : H.length = 32) : (keyC H k).setIfInBounds 32 (.int .i64 k') = keyC H k' := by
  apply Array.ext
  · simp [keyC, cellsB]
  · intro j h1 h2
    by_cases e : 32 = j
    · subst e
      simp [keyC, cellsB, hl]
    · have hj : j < H.length := by
        have : j < H.length + 1 := by simpa [keyC, cellsB] using h1
        omega
      rw [Array.getElem_setIfInBounds (by simpa using h1), if_neg e]
      simp [keyC, cellsB, hj]

set_option maxRecDepth 100000 in
theorem rparse_len (s : List UInt8) (w : World) (h66 : s.length ≠ 66) :
    Calls Tryd.prog 13 #[.string ⟨s.toArray⟩] w fun e w' => e = .returned (KP (zeroH, 0) false) ∧ Fr [] w w' := by
  have hd : ((s.length : Int) != 66) = true := by rw [bne_iff_ne]; omega
  obtain ⟨Z, hZ⟩ : ∃ Z, Z = keyC zeroH 0 := ⟨_, rfl⟩
  have hzz := zeroK
  have hzb := built_key0
  have hzs := sizeK (h := zeroH) (k := 0) rfl
  have hz1 := keyC_one zeroH 0
  have hR : KP (zeroH, 0) false = .tuple #[.agg Z, .bool false] := by rw [hZ]; rfl
  rw [hR]
  rw [← hZ] at hzz hzb hzs hz1
  clear hZ hR h66
  go_enter Tryd.func13, Tryd.ntmps13
  go_wp2_with (first
    | (refine wpL_newArr rfl 24 rfl Z hzz ?_; intro w1 hh1 hf1 hs1; refine Hid.out ?_))
  refine Lib.hid ?_
  go_wp2_with (first
    | (refine wpL_newArr rfl 24 rfl Z hzz ?_; intro w2 hh2 hf2 hs2; have hf12 := hf1.trans hf2 (by simp) (n := []) (by simp))
    | (refine wpL_build rfl _ _ rfl Z [] rfl hzb ?_; refine wpL_storeArr rfl _ _ _ rfl w.heap.size Z Z rfl rfl _ (hf2.heap hh1.out (by simp)) hzs rfl hz1 ?_; intro w3 hh3 hf3 hs3))
  refine bodyPost_ret (v := .tuple #[.agg Z, .bool false]) (results_k rfl _ _ w.heap.size 24 Z _ rfl hh3.out Tryd.underlying24 rfl hzs _ rfl) rfl ⟨rfl, ?_⟩
  exact hf12.trans hf3 (by simp) (by simp)
set_option maxRecDepth 100000 in
theorem rparse_dash (s : List UInt8) (w : World) (h66 : s.length = 66) (hx : s.getD 64 0 ≠ 45) :
    Calls Tryd.prog 13 #[.string ⟨s.toArray⟩] w fun e w' => e = .returned (KP (zeroH, 0) false) ∧ Fr [] w w' := by
  have hd : ((s.length : Int) != 66) = false := by rw [bne_eq_false_iff_eq]; omega
  have hi64 := fun wx => run_index_str (P := Tryd.prog) wx 9 s 64 64 (s.getD 64 0) Tryd.underlying9 rfl (by rw [List.getD_eq_getElem?_getD, List.getElem?_eq_getElem (by omega)]; rfl)
  have hd2 : (((s.getD 64 0).toNat : Int) != 45) = true := by rw [bne_iff_ne]; intro e; exact hx (UInt8.toNat_inj.1 (by show (s.getD 64 0).toNat = 45; omega))
  generalize s.getD 64 0 = c at *
  obtain ⟨Z, hZ⟩ : ∃ Z, Z = keyC zeroH 0 := ⟨_, rfl⟩
  have hzz := zeroK
  have hzb := built_key0
  have hzs := sizeK (h := zeroH) (k := 0) rfl
  have hz1 := keyC_one zeroH 0
  have hR : KP (zeroH, 0) false = .tuple #[.agg Z, .bool false] := by rw [hZ]; rfl
  rw [hR]
  rw [← hZ] at hzz hzb hzs hz1
  clear hZ hR h66 hx
  go_enter Tryd.func13, Tryd.ntmps13
  go_wp2_with (first
    | (refine wpL_newArr rfl 24 rfl Z hzz ?_; intro w1 hh1 hf1 hs1; refine Hid.out ?_))
  refine Lib.hid ?_
  go_wp2_with (first
    | (refine wpL_newArr rfl 24 rfl Z hzz ?_; intro w2 hh2 hf2 hs2; have hf12 := hf1.trans hf2 (by simp) (n := []) (by simp))
    | (refine wpL_build rfl _ _ rfl Z [] rfl hzb ?_; refine wpL_storeArr rfl _ _ _ rfl w.heap.size Z Z rfl rfl _ (hf2.heap hh1.out (by simp)) hzs rfl hz1 ?_; intro w3 hh3 hf3 hs3))
  refine bodyPost_ret (v := .tuple #[.agg Z, .bool false]) (results_k rfl _ _ w.heap.size 24 Z _ rfl hh3.out Tryd.underlying24 rfl hzs _ rfl) rfl ⟨rfl, ?_⟩
  exact hf12.trans hf3 (by simp) (by simp)
set_option maxRecDepth 100000 in
theorem rparse_low (s : List UInt8) (w : World) (h66 : s.length = 66) (hx : s.getD 64 0 = 45) (hy : (s.getD 65 0).toNat < 49) :
    Calls Tryd.prog 13 #[.string ⟨s.toArray⟩] w fun e w' => e = .returned (KP (zeroH, 0) false) ∧ Fr [] w w' := by
  have hd : ((s.length : Int) != 66) = false := by rw [bne_eq_false_iff_eq]; omega
  have hi64 := fun wx => run_index_str (P := Tryd.prog) wx 9 s 64 64 (s.getD 64 0) Tryd.underlying9 rfl (by rw [List.getD_eq_getElem?_getD, List.getElem?_eq_getElem (by omega)]; rfl)
  have hi65 := fun wx => run_index_str (P := Tryd.prog) wx 9 s 65 65 (s.getD 65 0) Tryd.underlying9 rfl (by rw [List.getD_eq_getElem?_getD, List.getElem?_eq_getElem (by omega)]; rfl)
  have hd2 : (((s.getD 64 0).toNat : Int) != 45) = false := by rw [hx]; rfl
  have hd3 : decide (((s.getD 65 0).toNat : Int) < 49) = true := decide_eq_true (by omega)
  generalize s.getD 64 0 = c at *
  generalize s.getD 65 0 = d at *
  obtain ⟨Z, hZ⟩ : ∃ Z, Z = keyC zeroH 0 := ⟨_, rfl⟩
  have hzz := zeroK
  have hzb := built_key0
  have hzs := sizeK (h := zeroH) (k := 0) rfl
  have hz1 := keyC_one zeroH 0
  have hR : KP (zeroH, 0) false = .tuple #[.agg Z, .bool false] := by rw [hZ]; rfl
  rw [hR]
  rw [← hZ] at hzz hzb hzs hz1
  clear hZ hR h66 hx hy
  go_enter Tryd.func13, Tryd.ntmps13
  go_wp2_with (first
    | (refine wpL_newArr rfl 24 rfl Z hzz ?_; intro w1 hh1 hf1 hs1; refine Hid.out ?_))
  refine Lib.hid ?_
  go_wp2_with (first
    | (refine wpL_newArr rfl 24 rfl Z hzz ?_; intro w2 hh2 hf2 hs2; have hf12 := hf1.trans hf2 (by simp) (n := []) (by simp))
    | (refine wpL_build rfl _ _ rfl Z [] rfl hzb ?_; refine wpL_storeArr rfl _ _ _ rfl w.heap.size Z Z rfl rfl _ (hf2.heap hh1.out (by simp)) hzs rfl hz1 ?_; intro w3 hh3 hf3 hs3))
  refine bodyPost_ret (v := .tuple #[.agg Z, .bool false]) (results_k rfl _ _ w.heap.size 24 Z _ rfl hh3.out Tryd.underlying24 rfl hzs _ rfl) rfl ⟨rfl, ?_⟩
  exact hf12.trans hf3 (by simp) (by simp)
set_option maxRecDepth 100000 in
theorem rparse_high (s : List UInt8) (w : World) (h66 : s.length = 66) (hx : s.getD 64 0 = 45) (hy : 52 < (s.getD 65 0).toNat) :
    Calls Tryd.prog 13 #[.string ⟨s.toArray⟩] w fun e w' => e = .returned (KP (zeroH, 0) false) ∧ Fr [] w w' := by
  have hd : ((s.length : Int) != 66) = false := by rw [bne_eq_false_iff_eq]; omega
  have hi64 := fun wx => run_index_str (P := Tryd.prog) wx 9 s 64 64 (s.getD 64 0) Tryd.underlying9 rfl (by rw [List.getD_eq_getElem?_getD, List.getElem?_eq_getElem (by omega)]; rfl)
  have hi65 := fun wx => run_index_str (P := Tryd.prog) wx 9 s 65 65 (s.getD 65 0) Tryd.underlying9 rfl (by rw [List.getD_eq_getElem?_getD, List.getElem?_eq_getElem (by omega)]; rfl)
  have hd2 : (((s.getD 64 0).toNat : Int) != 45) = false := by rw [hx]; rfl
  have hd3 : decide (((s.getD 65 0).toNat : Int) < 49) = false := decide_eq_false (by omega)
  have hd4 : decide (52 < ((s.getD 65 0).toNat : Int)) = true := decide_eq_true (by omega)
  generalize s.getD 64 0 = c at *
  generalize s.getD 65 0 = d at *
  obtain ⟨Z, hZ⟩ : ∃ Z, Z = keyC zeroH 0 := ⟨_, rfl⟩
  have hzz := zeroK
  have hzb := built_key0
  have hzs := sizeK (h := zeroH) (k := 0) rfl
  have hz1 := keyC_one zeroH 0
  have hR : KP (zeroH, 0) false = .tuple #[.agg Z, .bool false] := by rw [hZ]; rfl
  rw [hR]
  rw [← hZ] at hzz hzb hzs hz1
  clear hZ hR h66 hx hy
  go_enter Tryd.func13, Tryd.ntmps13
  go_wp2_with (first
    | (refine wpL_newArr rfl 24 rfl Z hzz ?_; intro w1 hh1 hf1 hs1; refine Hid.out ?_))
  refine Lib.hid ?_
  go_wp2_with (first
    | (refine wpL_newArr rfl 24 rfl Z hzz ?_; intro w2 hh2 hf2 hs2; have hf12 := hf1.trans hf2 (by simp) (n := []) (by simp))
    | (refine wpL_build rfl _ _ rfl Z [] rfl hzb ?_; refine wpL_storeArr rfl _ _ _ rfl w.heap.size Z Z rfl rfl _ (hf2.heap hh1.out (by simp)) hzs rfl hz1 ?_; intro w3 hh3 hf3 hs3))
  refine bodyPost_ret (v := .tuple #[.agg Z, .bool false]) (results_k rfl _ _ w.heap.size 24 Z _ rfl hh3.out Tryd.underlying24 rfl hzs _ rfl) rfl ⟨rfl, ?_⟩
  exact hf12.trans hf3 (by simp) (by simp)
def RPRel (w : World) (S : List UInt8) (Z : Array Value) (g2 g4 : Nat) (i : Value) (wr : World) : Prop :=
  ∃ k : Nat, k ≤ 32 ∧ i = .int .i64 (k : Int) ∧ wr.heap[g2]? = some (.cells Z 24 (0, 0)) ∧ wr.heap[g4]? = some (.cells (keyC (padH S k) 0) 24 (0, 0)) ∧ Fr [] w wr ∧
    ∀ j, j < k → ∀ h : 2 * j + 1 < S.length, isD (S[2 * j]'(by omega)) = true ∧ isD (S[2 * j + 1]'h) = true
set_option maxRecDepth 100000 in
theorem rparse_loop (s : List UInt8) (w : World) (h66 : s.length = 66) (hx : s.getD 64 0 = 45) (hy1 : 49 ≤ (s.getD 65 0).toNat) (hy2 : (s.getD 65 0).toNat ≤ 52) :
    Calls Tryd.prog 13 #[.string ⟨s.toArray⟩] w fun e w' => e = .returned (KP (keyD s) (keyP s).isSome) ∧ Fr [] w w' := by
  have hd : ((s.length : Int) != 66) = false := by rw [bne_eq_false_iff_eq]; omega
  have hi64 := fun wx => run_index_str (P := Tryd.prog) wx 9 s 64 64 (s.getD 64 0) Tryd.underlying9 rfl (by rw [List.getD_eq_getElem?_getD, List.getElem?_eq_getElem (by omega)]; rfl)
  have hi65 := fun wx => run_index_str (P := Tryd.prog) wx 9 s 65 65 (s.getD 65 0) Tryd.underlying9 rfl (by rw [List.getD_eq_getElem?_getD, List.getElem?_eq_getElem (by omega)]; rfl)
  have hd2 : (((s.getD 64 0).toNat : Int) != 45) = false := by rw [hx]; rfl
  have hd3 : decide (((s.getD 65 0).toNat : Int) < 49) = false := decide_eq_false (by omega)
  have hd4 : decide (52 < ((s.getD 65 0).toNat : Int)) = false := decide_eq_false (by omega)
  obtain ⟨Z, hZ⟩ : ∃ Z, Z = keyC zeroH 0 := ⟨_, rfl⟩
  have hzz := zeroK
  have hzb := built_key0
  have hzs := sizeK (h := zeroH) (k := 0) rfl
  have hz1 := keyC_one zeroH 0
  have hZs := keyC_size (h := zeroH) (k := 0) rfl
  obtain ⟨RV, hRV⟩ : ∃ RV : Value, RV = KP (keyD s) (keyP s).isSome := ⟨_, rfl⟩
  rw [← hRV]
  obtain ⟨S, hS⟩ : ∃ S, S = s.take 64 := ⟨_, rfl⟩
  have hSl : S.length = 64 := by rw [hS, List.length_take]; omega
  have HBAD := Lib.hid (show goodD S = false → RV = .tuple #[.agg Z, .bool false] by
    intro hg
    have e : keyP s = none := by unfold keyP; rw [if_neg (fun x => by rw [← hS, hg] at x; cases x.2.1)]
    rw [hRV, hZ]
    unfold keyD
    rw [e]
    rfl)
  have HGOOD := Lib.hid (show goodD S = true → RV = .tuple #[.agg (keyC (unhex S) (((s.getD 65 0).toNat : Int) - 48)), .bool true] by
    intro hg
    have hdk : docK s = true := by
      unfold docK
      rw [← hS, hg, hx]
      rw [decide_eq_true h66, decide_eq_true hy1, decide_eq_true hy2]
      rfl
    have hsm := docK_spec s
    rw [hdk] at hsm
    cases hp : keyP s with
    | none => rw [hp] at hsm; cases hsm
    | some x =>
      obtain ⟨a, b⟩ := x
      obtain ⟨e1, e2⟩ := lastK_of hp
      rw [hRV]
      unfold keyD
      rw [hp, e1, e2, hS]
      rfl)
  have HIX := Lib.hid (show ∀ (k : Nat) (hk : k < S.length) (wx : World) (i : Int), i = (k : Int) → (Instr.index 9 (.string ⟨s.toArray⟩) (.int .i64 i)).run Tryd.prog wx = .ok (.int .u8 ((S[k]'hk).toNat : Int)) wx from fun k hk wx i hi => run_index_str (P := Tryd.prog) wx 9 s i k (S[k]'hk) Tryd.underlying9 hi (by
    have : (s.take 64)[k]? = some (S[k]'hk) := by rw [← hS, List.getElem?_eq_getElem hk]
    rwa [List.getElem?_take, if_pos (by omega)] at this))
  have hp0 := padH_zero S
  rw [hSl] at hp0
  have hpl : ∀ k, k ≤ 32 → (padH S k).length = 32 := fun k hk => by rw [padH_length S k (by rw [hSl]; omega), hSl]
  have hZ0 : Z = keyC (padH S 0) 0 := by rw [hp0, hZ]; rfl
  have hby1 : (s.getD 65 0).toNat < 256 := (s.getD 65 0).toNat_lt
  rw [← hZ] at hzz hzb hzs hz1 hZs
  generalize s.getD 64 0 = c at *
  generalize s.getD 65 0 = d at *
  have HZ0 := Lib.hid hZ0
  have HPL := Lib.hid hpl
  have HSL := Lib.hid hSl
  clear hZ hRV hS hx h66 hp0 hpl hZ0 hSl
  go_enter Tryd.func13, Tryd.ntmps13
  go_wp2_with (first
    | (refine wpL_newArr rfl 24 rfl Z hzz ?_; intro w1 hh1 hf1 hs1; refine Hid.out ?_))
  refine Lib.hid ?_
  go_wp2_with (first
    | (refine wpL_newArr rfl 24 rfl Z hzz ?_; intro w2 hh2 hf2 hs2; have hf12 := hf1.trans hf2 (by simp) (n := []) (by simp); have hh12 := hf2.heap hh1.out (by simp)))
  obtain ⟨g4, hg4⟩ : ∃ g, g = w1.heap.size := ⟨_, rfl⟩
  have hz1s := hs1.out
  have hgne : g4 ≠ w.heap.size := by omega
  have hglt : w.heap.size ≤ g4 := by omega
  have hh2' : w2.heap[g4]? = some (.cells (keyC (padH S 0) 0) 24 (0, 0)) := by rw [hg4, ← HZ0.out]; exact hh2.out
  rw [← hg4]
  clear hh2 hg4 hz1s hs1
  go_loopw [5] (RPRel w S Z w.heap.size g4) (fun i _ => 32 - (intOf i).toNat)
  case atStart => exact ⟨0, by omega, rfl, hh12, hh2', hf12, fun j hj => by omega⟩
  case round =>
    clear hh2' hh12 hf12
    obtain ⟨k, hk, rfl, hz2, hz4, hf, hgood⟩ := hrel
    by_cases hk2 : k < 32
    · have hd5 : decide ((k : Int) < 32) = true := decide_eq_true (by omega)
      have hb1 : 2 * k + 1 < S.length := by rw [HSL.out]; omega
      have hia := fun wx => HIX.out (2 * k) (by omega) wx (2 * (k : Int)) (by omega)
      have hib := fun wx => HIX.out (2 * k + 1) hb1 wx (2 * (k : Int) + 1) (by omega)
      by_cases hab : isD (S[2 * k]'(by omega)) = true ∧ isD (S[2 * k + 1]'hb1) = true
      · obtain ⟨ha, hb⟩ := hab
        have hset := padH_set S k hb1
        have hbt := byteD_toNat _ _ ha hb
        have hgood2 : ∀ j, j < k + 1 → ∀ h : 2 * j + 1 < S.length, isD (S[2 * j]'(by omega)) = true ∧ isD (S[2 * j + 1]'h) = true := by
          intro j hj h
          by_cases e : j = k
          · subst e; exact ⟨ha, hb⟩
          · exact hgood j (by omega) h
        have HGD := Lib.hid hgood2
        generalize S[2 * k]'(by omega) = a at *
        generalize S[2 * k + 1]'hb1 = b at *
        have hva := value_yes a
        have hvb := value_yes b
        have hxl := (isD_spec a ha).1
        have hyl := (isD_spec b hb).1
        have HA := Lib.hid (fun wx => hva wx ha)
        have HB := Lib.hid (fun wx => hvb wx hb)
        generalize valD a = x at *
        generalize valD b = y at *
        have hbl := (byteD a b).toNat_lt
        have hcell : wr.cell? ⟨g4, k, none⟩ = some (.int .u8 (((padH S k)[k]'(by rw [HPL.out k (by omega)]; exact hk2)).toNat : Int)) := by rw [cell_of_heap hz4, keyC_H]
        have hfree := free_of_heap hz4 k
        have hnew : ∀ z : Int, z = 16 * (x : Int) + (y : Int) → (wr.setCell ⟨g4, k, none⟩ (.int .u8 z)).heap[g4]? = some (.cells (keyC (padH S (k + 1)) 0) 24 (0, 0)) := by
          rintro z rfl
          rw [heap_setCell_same hz4, show 16 * (x : Int) + (y : Int) = ((byteD a b).toNat : Int) from by rw [hbt]; omega, keyC_setH _ _ _ _ (by rw [HPL.out k (by omega)]; exact hk2), hset]
        have hfr : ∀ v, Fr [] w (wr.setCell ⟨g4, k, none⟩ v) := fun v => hf.trans (Fr.set0 wr g4 k v) (by simp) (by simp; omega)
        have hold : ∀ v, (wr.setCell ⟨g4, k, none⟩ v).heap[w.heap.size]? = some (.cells Z 24 (0, 0)) := fun v => (Fr.set0 wr g4 k v).heap hz2 (by simp; omega)
        have HW := Lib.hid hnew
        have HF := Lib.hid hfr
        have HO := Lib.hid hold
        have hn1 : 16 * (x : Int) + (y : Int) < 256 := by omega
        have hd6 : decide ((x : Int) < 0) = false := decide_eq_false (by omega)
        have hd7 : decide ((y : Int) < 0) = false := decide_eq_false (by omega)
        clear hset hbt hgood hgood2 hva hvb ha hb hbl hnew hfr hold hz4 hz2
        go_wp2_with (first
          | (go_at_call 23; with_reducible refine (HA.out _).mono ?_; rintro e w5 ⟨rfl, rfl⟩)
          | (go_at_call 23; with_reducible refine (HB.out _).mono ?_; rintro e w5 ⟨rfl, rfl⟩))
        exact ⟨⟨k + 1, by omega, by go_num, HO.out _, HW.out _ rfl, HF.out _, HGD.out⟩, by simp [intOf]; omega⟩
      ·
        have hba : goodD S = false := by
          cases hq : goodD S with
          | false => rfl
          | true => exact (hab ⟨goodD_pair hq _ _, goodD_pair hq _ _⟩).elim
        have HBD := Lib.hid (HBAD.out hba)
        clear hba
        obtain ⟨a, ea⟩ : ∃ a, a = S[2 * k]'(by omega) := ⟨_, rfl⟩
        obtain ⟨b, eb⟩ : ∃ b, b = S[2 * k + 1]'hb1 := ⟨_, rfl⟩
        rw [← ea, ← eb] at hab
        rw [← ea] at hia
        rw [← eb] at hib
        cases h1 : isD a with
        | true =>
          have h2' : isD b = false := by cases q : isD b with | false => rfl | true => exact (hab ⟨h1, q⟩).elim
          have HA := Lib.hid (fun wx => value_yes a wx h1)
          have HB := Lib.hid (fun wx => value_no b wx h2')
          have hd6 : decide (((valD a : Nat) : Int) < 0) = false := decide_eq_false (by omega)
          generalize valD a = x at *
          clear hab h1 h2' hgood ea eb
          go_wp2_with (first
            | (go_at_call 23; with_reducible refine (HA.out _).mono ?_; rintro e w5 ⟨rfl, rfl⟩)
            | (go_at_call 23; with_reducible refine (HB.out _).mono ?_; rintro e w5 ⟨rfl, rfl⟩)
            | (refine wpL_build rfl _ _ rfl Z [] rfl hzb ?_; refine wpL_storeArr rfl _ _ _ rfl w.heap.size Z Z rfl rfl _ hz2 hzs rfl hz1 ?_; intro w3 hh3 hf3 hs3))
          refine bodyPost_ret (v := .tuple #[.agg Z, .bool false]) (results_k rfl _ _ w.heap.size 24 Z _ rfl hh3.out Tryd.underlying24 rfl hzs _ rfl) rfl ⟨by rw [HBD.out], ?_⟩
          exact hf.trans hf3 (by simp) (by simp)
        | false =>
          cases h2' : isD b with
          | true =>
            have HA := Lib.hid (fun wx => value_no a wx h1)
            have HB := Lib.hid (fun wx => value_yes b wx h2')
            generalize valD b = y at *
            clear hab h1 h2' hgood ea eb
            go_wp2_with (first
              | (go_at_call 23; with_reducible refine (HA.out _).mono ?_; rintro e w5 ⟨rfl, rfl⟩)
              | (go_at_call 23; with_reducible refine (HB.out _).mono ?_; rintro e w5 ⟨rfl, rfl⟩)
              | (refine wpL_build rfl _ _ rfl Z [] rfl hzb ?_; refine wpL_storeArr rfl _ _ _ rfl w.heap.size Z Z rfl rfl _ hz2 hzs rfl hz1 ?_; intro w3 hh3 hf3 hs3))
            refine bodyPost_ret (v := .tuple #[.agg Z, .bool false]) (results_k rfl _ _ w.heap.size 24 Z _ rfl hh3.out Tryd.underlying24 rfl hzs _ rfl) rfl ⟨by rw [HBD.out], ?_⟩
            exact hf.trans hf3 (by simp) (by simp)
          | false =>
            have HA := Lib.hid (fun wx => value_no a wx h1)
            have HB := Lib.hid (fun wx => value_no b wx h2')
            clear hab h1 h2' hgood ea eb
            go_wp2_with (first
              | (go_at_call 23; with_reducible refine (HA.out _).mono ?_; rintro e w5 ⟨rfl, rfl⟩)
              | (go_at_call 23; with_reducible refine (HB.out _).mono ?_; rintro e w5 ⟨rfl, rfl⟩)
              | (refine wpL_build rfl _ _ rfl Z [] rfl hzb ?_; refine wpL_storeArr rfl _ _ _ rfl w.heap.size Z Z rfl rfl _ hz2 hzs rfl hz1 ?_; intro w3 hh3 hf3 hs3))
            refine bodyPost_ret (v := .tuple #[.agg Z, .bool false]) (results_k rfl _ _ w.heap.size 24 Z _ rfl hh3.out Tryd.underlying24 rfl hzs _ rfl) rfl ⟨by rw [HBD.out], ?_⟩
            exact hf.trans hf3 (by simp) (by simp)
    · have hd5 : decide ((k : Int) < 32) = false := decide_eq_false (by omega)
      obtain rfl : k = 32 := by omega
      have hgd : goodD S = true := goodD_of (by rw [HSL.out]) (fun j hj h => hgood j (by rw [HSL.out] at hj; omega) h)
      have hpe := padH_end S
      rw [HSL.out] at hpe
      have hul : (unhex S).length = 32 := by rw [unhex_length, HSL.out]
      have HRV := Lib.hid (HGOOD.out hgd)
      have hcs := sizeK (k := (d.toNat : Int) - 48) hul
      have hc1 := keyC_one (unhex S) ((d.toNat : Int) - 48)
      have hCs := keyC_size (k := (d.toNat : Int) - 48) hul
      have hcell : wr.cell? ⟨g4, 32, none⟩ = some (.int .i64 0) := by rw [cell_of_heap hz4, keyC_K (HPL.out 32 (by omega))]
      have hfree := free_of_heap hz4 32
      have hnew : ∀ z : Int, z = (d.toNat : Int) - 48 → (wr.setCell ⟨g4, 32, none⟩ (.int .i64 z)).heap[g4]? = some (.cells (keyC (unhex S) ((d.toNat : Int) - 48)) 24 (0, 0)) := by
        rintro z rfl
        rw [heap_setCell_same hz4, keyC_setK _ _ _ (HPL.out 32 (by omega))]
        show some (Obj.cells (keyC (padH S 32) ((d.toNat : Int) - 48)) _ _) = _
        rw [show padH S 32 = unhex S from hpe]
      have hfr : ∀ v, Fr [] w (wr.setCell ⟨g4, 32, none⟩ v) := fun v => hf.trans (Fr.set0 wr g4 32 v) (by simp) (by simp; omega)
      have hold : ∀ v, (wr.setCell ⟨g4, 32, none⟩ v).heap[w.heap.size]? = some (.cells Z 24 (0, 0)) := fun v => (Fr.set0 wr g4 32 v).heap hz2 (by simp; omega)
      have HW := Lib.hid (hnew _ rfl)
      have HF := Lib.hid (hfr (.int .i64 ((d.toNat : Int) - 48)))
      have HO := Lib.hid (hold (.int .i64 ((d.toNat : Int) - 48)))
      have hZC : Z.size = (keyC (unhex S) ((d.toNat : Int) - 48)).size := by rw [hZs, hCs]
      generalize keyC (unhex S) ((d.toNat : Int) - 48) = C at *
      clear hgood hpe hul hgd hnew hfr hold hz4 hz2 hCs hZs
      go_wp2_with (first
        | (refine wpList_load_row rfl _ _ rfl g4 rfl _ C _ _ HW.out Tryd.underlying24 rfl hcs ?_; refine wpL_storeArr rfl _ _ _ rfl w.heap.size C Z rfl rfl _ HO.out hcs hZC hc1 ?_; intro w7 hh7 hf7 hs7))
      refine bodyPost_ret (v := .tuple #[.agg C, .bool true]) (results_k rfl _ _ w.heap.size 24 C _ rfl hh7.out Tryd.underlying24 rfl hcs _ rfl) rfl ⟨by rw [HRV.out], ?_⟩
      exact HF.out.trans hf7 (by simp) (by simp)
/-- The document's Parse: the key of a text, or the zero value. -/
theorem rparse_any (s : List UInt8) (w : World) :
    Calls Tryd.prog 13 #[.string ⟨s.toArray⟩] w fun e w' => e = .returned (KP (keyD s) (keyP s).isSome) ∧ Fr [] w w' := by
  have hno : docK s = false → KP (keyD s) (keyP s).isSome = KP (zeroH, 0) false := by
    intro h
    have := docK_spec s
    rw [h] at this
    unfold keyD
    cases hp : keyP s with
    | none => rfl
    | some x => rw [hp] at this; cases this
  by_cases h66 : s.length = 66
  · by_cases hx : s.getD 64 0 = 45
    · by_cases hy1 : 49 ≤ (s.getD 65 0).toNat
      · by_cases hy2 : (s.getD 65 0).toNat ≤ 52
        · exact rparse_loop s w h66 hx hy1 hy2
        · rw [hno (by unfold docK; rw [decide_eq_false hy2]; simp)]
          exact rparse_high s w h66 hx (by omega)
      · rw [hno (by unfold docK; rw [decide_eq_false hy1]; simp)]
        exact rparse_low s w h66 hx (by omega)
    · rw [hno (by unfold docK; rw [beq_eq_false_iff_ne.2 hx]; simp)]
      exact rparse_dash s w h66 hx
  · rw [hno (by unfold docK; rw [decide_eq_false h66]; simp)]
    exact rparse_len s w h66
end Go.Proofs.YtjlkcdmeiakkbaaDoor
