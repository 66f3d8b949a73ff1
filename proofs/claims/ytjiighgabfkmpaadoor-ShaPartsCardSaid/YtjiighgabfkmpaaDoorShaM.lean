/- The document's answer Block. -/
import Derived.Test.YtjiighgabfkmpaaDoorShaL
namespace Go.Proofs.YtjiighgabfkmpaaDoor
open Go.RowKit

theorem stC_nums (s : St) : stC s = numsC s.list := rfl
/-- What lies where in Block. -/
structure BlkAt (w : World) (ga gk gw g0 g1 : Nat) (S Z : Array Value) (ws : List Nat) (A : Array Value) (W : World) : Prop where
  fa : W.heap[ga]? = some (.cells A 29 (0, 0))
  fk : W.heap[gk]? = some (.cells (numsC kk) 46 (0, 0))
  fw : W.heap[gw]? = some (.cells (numsC ws) 28 (0, 0))
  fs : W.heap[g0]? = some (.cells S 29 (0, 0))
  fz : W.heap[g1]? = some (.cells Z 29 (0, 0))
  ff : Fr [] w W
theorem BlkAt.drewN {w : World} {ga gk gw g0 g1 : Nat} {S Z : Array Value} {ws : List Nat} {A : Array Value} {W : World} (h : BlkAt w ga gk gw g0 g1 S Z ws A W) (n : Nat) : BlkAt w ga gk gw g0 g1 S Z ws A (W.drewN n) :=
  ⟨h.fa, h.fk, h.fw, h.fs, h.fz, h.ff.andDrewN n⟩
theorem BlkAt.drew {w : World} {ga gk gw g0 g1 : Nat} {S Z : Array Value} {ws : List Nat} {A : Array Value} {W : World} (h : BlkAt w ga gk gw g0 g1 S Z ws A W) : BlkAt w ga gk gw g0 g1 S Z ws A W.drew :=
  ⟨h.fa, h.fk, h.fw, h.fs, h.fz, h.ff.andDrew⟩
theorem BlkAt.set {w : World} {ga gk gw g0 g1 : Nat} {S Z : Array Value} {ws : List Nat} {A : Array Value} {W : World} (h : BlkAt w ga gk gw g0 g1 S Z ws A W) (hk : ga ≠ gk) (hw : ga ≠ gw) (hs : ga ≠ g0) (hz : ga ≠ g1) (hg : w.heap.size ≤ ga) (i : Nat) (v : Value) :
    BlkAt w ga gk gw g0 g1 S Z ws (A.setIfInBounds i v) (W.setCell ⟨ga, i, none⟩ v) :=
  ⟨heap_setCell_same h.fa v, (Fr.set0 W ga i v).heap h.fk (by simpa using hk.symm), (Fr.set0 W ga i v).heap h.fw (by simpa using hw.symm), (Fr.set0 W ga i v).heap h.fs (by simpa using hs.symm), (Fr.set0 W ga i v).heap h.fz (by simpa using hz.symm),
    h.ff.trans (Fr.set0 W ga i v) (by simp) (by simp; omega)⟩
theorem stC_shift (a b c d e f g h x0 x4 : Nat) : ((((((((stC ⟨a, b, c, d, e, f, g, h⟩).setIfInBounds 7 (.int .u32 (g : Int))).setIfInBounds 6 (.int .u32 (f : Int))).setIfInBounds 5 (.int .u32 (e : Int))).setIfInBounds 4 (.int .u32 (x4 : Int))).setIfInBounds 3 (.int .u32 (c : Int))).setIfInBounds 2 (.int .u32 (b : Int))).setIfInBounds 1 (.int .u32 (a : Int))).setIfInBounds 0 (.int .u32 (x0 : Int)) = stC ⟨x0, a, b, c, x4, e, f, g⟩ := by
  rw [stC_nums, numsC_set, numsC_set, numsC_set, numsC_set, numsC_set, numsC_set, numsC_set, numsC_set]
  rfl
/-- The sums so far. -/
def mixL (s t : St) (i : Nat) : List Nat := (combSt s t).list.take i ++ t.list.drop i
theorem mixL_zero (s t : St) : mixL s t 0 = t.list := rfl
theorem mixL_end (s t : St) : mixL s t 8 = (combSt s t).list := rfl
theorem mixL_length (s t : St) (i : Nat) (h : i ≤ 8) : (mixL s t i).length = 8 := by simp [mixL, St.list_length]; omega
theorem mixL_get (s t : St) (i : Nat) (h : i < 8) : (mixL s t i)[i]? = some (t.list[i]'(by rw [St.list_length]; exact h)) := by
  match i, h with
  | 0, _ | 1, _ | 2, _ | 3, _ | 4, _ | 5, _ | 6, _ | 7, _ => rfl
theorem mixL_set (s t : St) (i : Nat) (h : i < 8) : (mixL s t i).set i (((t.list[i]'(by rw [St.list_length]; exact h)) + (s.list[i]'(by rw [St.list_length]; exact h))) % 4294967296) = mixL s t (i + 1) := by
  rw [Nat.add_comm]
  match i, h with
  | 0, _ | 1, _ | 2, _ | 3, _ | 4, _ | 5, _ | 6, _ | 7, _ => rfl

def BRel (w : World) (ga gk gw g0 g1 : Nat) (S Z : Array Value) (ws : List Nat) (s : St) (vi : Value) (W : World) : Prop :=
  ∃ n a b c d e f g h : Nat, n ≤ 64 ∧ rnds ws n s = ⟨a, b, c, d, e, f, g, h⟩ ∧ vi = .int .i64 (n : Int) ∧ BlkAt w ga gk gw g0 g1 S Z ws (stC ⟨a, b, c, d, e, f, g, h⟩) W
set_option maxRecDepth 100000 in
theorem ref_block_any (s : St) (bs : List UInt8) (sv : Value) (w : World) (hs : s.ok) (hb : bytesAt w sv bs) (hl : bs.length = 64) :
    Calls Tryd.prog 16 #[.agg (stC s), sv] w fun e w' => e = .returned (.agg (stC (blockSt s bs))) ∧ Fr [] w w' := by
  have hszS := sizeN8 s
  have hszR := sizeN8 (blockSt s bs)
  have honS := stC_one s
  have honR := stC_one (blockSt s bs)
  obtain ⟨S, hS⟩ : ∃ S, S = stC s := ⟨_, rfl⟩
  obtain ⟨Z, hZ⟩ : ∃ Z, Z = stC zeroSt := ⟨_, rfl⟩
  obtain ⟨R, hR⟩ : ∃ R, R = stC (blockSt s bs) := ⟨_, rfl⟩
  obtain ⟨Z64, hZ64⟩ : ∃ Z, Z = numsC (List.replicate 64 0) := ⟨_, rfl⟩
  obtain ⟨K, hK⟩ : ∃ K, K = numsC kk := ⟨_, rfl⟩
  have hkn := fun wx => ref_known_any wx
  have hiz := infoN8
  have hiz64 := infoN64
  have hold : Z.size = S.size := by rw [hZ, hS, stC_size, stC_size]
  have holdR : Z.size = R.size := by rw [hZ, hR, stC_size, stC_size]
  have hszK := sizeKK
  have honK := numsC_one kk
  have holdK : Z64.size = K.size := by rw [hZ64, hK, numsC_size, numsC_size, kk_length, List.length_replicate]
  rw [← hS] at hszS honS
  rw [← hR] at hszR honR
  rw [← hZ] at hiz
  rw [← hZ64] at hiz64
  rw [← hK] at hszK honK hkn
  rw [← hS, ← hR]
  have HI := Lib.hid hiz
  have HI64 := Lib.hid hiz64
  have HSZS := Lib.hid hszS
  have HSZR := Lib.hid hszR
  have HONS := Lib.hid honS
  have HONR := Lib.hid honR
  have HOLD := Lib.hid hold
  have HOLDR := Lib.hid holdR
  have HSZK := Lib.hid hszK
  have HONK := Lib.hid honK
  have HOLDK := Lib.hid holdK
  have HKN := Lib.hid hkn
  have HS := Lib.hid hS
  have HK := Lib.hid hK
  have HR := Lib.hid hR
  have HB := Lib.hid hb
  have HWD := Lib.hid (fun wx hx => ref_words_any bs sv wx hx hl)
  clear hiz hiz64 hszS hszR honS honR hold holdR hszK honK holdK hkn hS hZ hR hZ64 hK hb
  go_enter Tryd.func16, Tryd.ntmps16
  go_wp2_with (first
    | (refine wpL_boxArr rfl 29 _ rfl S rfl ?_; intro w1 hh1 hf1 hs1; refine wpL_newArr rfl 29 rfl Z HI.out ?_; intro w2 hh2 hf2 hs2; have hb2 := HB.out.below (hf1.trans hf2 (by simp) (n := []) (by simp)))
    | (go_at_call 25; refine (HWD.out w2 hb2).mono ?_; rintro e w3 ⟨rfl, hh3, hf3⟩)
    | (go_at_call 26; refine (HKN.out w3).mono ?_; rintro e w4 ⟨rfl, hf4⟩)
    | (refine wpL_newArr rfl 46 rfl Z64 HI64.out ?_; intro w5 hh5 hf5 hs5; refine wpL_storeArr rfl 46 (.tmp 6) (.tmp 18) rfl w4.heap.size K Z64 rfl rfl 46 hh5.out HSZK.out HOLDK.out HONK.out ?_; intro w6 hh6 hf6 hs6)
    | (refine wpList_load_row rfl 29 (.tmp 2) rfl w.heap.size rfl 29 S (0, 0) _ (hf6.heap ((((hf2.trans hf3 (by simp) (n := []) (by simp)).trans hf4 (by simp) (n := []) (by simp)).trans hf5 (by simp) (n := []) (by simp)).heap hh1.out (by simp)) (by simp; have := hs1.out; have := hs2.out; have := hf3.size; have := hf4.size; omega)) Tryd.underlying29 rfl HSZS.out ?_)
    | (refine wpL_newArr rfl 29 rfl Z HI.out ?_; intro w7 hh7 hf7 hs7; refine wpL_storeArr rfl 29 (.tmp 7) (.tmp 19) rfl w6.heap.size S Z rfl rfl 29 hh7.out HSZS.out HOLD.out HONS.out ?_; intro w8 hh8 hf8 hs8))
  have z1 := hs1.out
  have z2 := hs2.out
  have z3 := hf3.size
  have z4 := hf4.size
  have z5 := hs5.out
  have z6 := hs6.out
  have z3' : w2.heap.size < w3.heap.size := (Array.getElem?_eq_some_iff.1 hh3).1
  have f6 : ∀ (k : Nat) (ob : Obj), k ≠ w4.heap.size → w5.heap[k]? = some ob → w6.heap[k]? = some ob := fun k ob hk ho => hf6.heap ho (by simpa using hk)
  have f8 : ∀ (k : Nat) (ob : Obj), k ≠ w6.heap.size → w6.heap[k]? = some ob → w8.heap[k]? = some ob := fun k ob hk ho => hf8.heap (hf7.heap ho (by simp)) (by simpa using hk)
  have f25 : Fr [] w2 w5 := (hf3.trans hf4 (by simp) (n := []) (by simp)).trans hf5 (by simp) (by simp)
  have hfr : Fr [] w w8 := ((((hf1.trans hf2 (by simp) (n := []) (by simp)).trans f25 (by simp) (n := []) (by simp)).trans hf6 (by simp) (n := []) (by simp; omega)).trans hf7 (by simp) (n := []) (by simp)).trans hf8 (by simp) (by simp; omega)
  have hB : BlkAt w w6.heap.size w4.heap.size w2.heap.size w.heap.size w1.heap.size S Z (sched bs) S w8 :=
    ⟨hh8.out, by rw [← HK.out]; exact f8 _ _ (by omega) hh6.out, f8 _ _ (by omega) (f6 _ _ (by omega) ((hf4.trans hf5 (by simp) (n := []) (by simp)).heap hh3 (by simp))),
      f8 _ _ (by omega) (f6 _ _ (by omega) (f25.heap (hf2.heap hh1.out (by simp)) (by simp))), f8 _ _ (by omega) (f6 _ _ (by omega) (f25.heap hh2.out (by simp))), hfr⟩
  have ne1 : w6.heap.size ≠ w4.heap.size := by omega
  have ne2 : w6.heap.size ≠ w2.heap.size := by omega
  have ne3 : w6.heap.size ≠ w.heap.size := by omega
  have ne4 : w6.heap.size ≠ w1.heap.size := by omega
  have ne5 : w.heap.size ≤ w6.heap.size := by omega
  have ne6 : w.heap.size ≤ w1.heap.size := by omega
  have ne7 : w1.heap.size ≠ w6.heap.size := by omega
  clear hh1 hf1 hs1 hh2 hf2 hs2 hh3 hf3 hf4 hh5 hf5 hs5 hh6 hf6 hs6 hh7 hf7 hs7 hh8 hf8 hs8 z1 z2 z3 z4 z5 z6 z3' f6 f8 f25 hfr hb2
  obtain ⟨ga, ea⟩ : ∃ g, g = w6.heap.size := ⟨_, rfl⟩
  obtain ⟨gk, ek⟩ : ∃ g, g = w4.heap.size := ⟨_, rfl⟩
  obtain ⟨gw, ew⟩ : ∃ g, g = w2.heap.size := ⟨_, rfl⟩
  obtain ⟨g0, e0⟩ : ∃ g, g = w.heap.size := ⟨_, rfl⟩
  obtain ⟨g1, e1⟩ : ∃ g, g = w1.heap.size := ⟨_, rfl⟩
  rw [← ea] at hB ne1 ne2 ne3 ne4 ne5 ne7 ⊢
  rw [← ek] at hB ne1 ⊢
  rw [← ew] at hB ne2 ⊢
  rw [← e1] at hB ne4 ne6 ne7 ⊢
  rw [← e0] at hB ne3 ne5 ne6 ⊢
  have E0 := Lib.hid e0
  clear ea ek ew e0 e1
  have hsl := sched_length bs
  obtain ⟨ws, hws⟩ : ∃ ws, ws = sched bs := ⟨_, rfl⟩
  rw [← hws] at hsl hB
  have HWS := Lib.hid hws
  clear hws
  have hg : w.heap.size ≤ ga := by rw [← E0.out]; exact ne5
  have SET := Lib.hid (fun A W (h : BlkAt w ga gk gw g0 g1 S Z ws A W) i v => h.set ne1 ne2 ne3 ne4 hg i v)
  obtain ⟨sa, sb, sc, sd, se, sf, sg, sh⟩ := s
  have hB0 : BlkAt w ga gk gw g0 g1 S Z ws (stC ⟨sa, sb, sc, sd, se, sf, sg, sh⟩) w8 := by rw [← HS.out]; exact hB
  clear hB
  go_loopw [8] (BRel w ga gk gw g0 g1 S Z ws ⟨sa, sb, sc, sd, se, sf, sg, sh⟩) (fun i _ => 64 - (intOf i).toNat)
  case atStart => exact ⟨0, sa, sb, sc, sd, se, sf, sg, sh, by omega, rfl, rfl, hB0⟩
  case round =>
    clear hB0
    obtain ⟨n, a, b, c, d, e, f, g, h, hn, hrn, rfl, hB⟩ := hrel
    have HB := Lib.hid hB
    clear hB
    by_cases hn64 : n < 64
    · have hd : decide ((n : Int) < 64) = true := decide_eq_true (by omega)
      have hok : (⟨a, b, c, d, e, f, g, h⟩ : St).ok := by rw [← hrn]; exact rnds_ok ws hsl _ hs n (by omega)
      have hnext := rnds_succ ws hsl n hn64 ⟨sa, sb, sc, sd, se, sf, sg, sh⟩
      rw [hrn, turnSt_eq] at hnext
      obtain ⟨k, hkk⟩ : ∃ k, k = kk[n]'(by rw [kk_length]; exact hn64) := ⟨_, rfl⟩
      obtain ⟨x, hx⟩ : ∃ x, x = ws[n]'(by omega) := ⟨_, rfl⟩
      rw [← hkk, ← hx] at hnext
      have HCK : Hid (∀ W A, BlkAt w ga gk gw g0 g1 S Z ws A W → W.cell? ⟨gk, n, none⟩ = some (.int .u32 (k : Int))) := Lib.hid (fun W A hW => by rw [cell_of_heap hW.fk, numsC_get _ _ (by rw [kk_length]; exact hn64), hkk])
      have HCW : Hid (∀ W A, BlkAt w ga gk gw g0 g1 S Z ws A W → W.cell? ⟨gw, n, none⟩ = some (.int .u32 (x : Int))) := Lib.hid (fun W A hW => by rw [cell_of_heap hW.fw, numsC_get _ _ (by omega), hx])
      have hn64i : (n : Int) < 64 := by omega

      have qe6 : ∀ wx, Calls Tryd.prog 27 #[.int .u32 e, .int .i64 6] wx fun r w' => r = .returned (.int .u32 (rotN e 6 : Nat)) ∧ w' = wx := fun wx => flip_same (ref_turn_any e 6 wx hok.e (by decide))
      have qe11 : ∀ wx, Calls Tryd.prog 27 #[.int .u32 e, .int .i64 11] wx fun r w' => r = .returned (.int .u32 (rotN e 11 : Nat)) ∧ w' = wx := fun wx => flip_same (ref_turn_any e 11 wx hok.e (by decide))
      have qe25 : ∀ wx, Calls Tryd.prog 27 #[.int .u32 e, .int .i64 25] wx fun r w' => r = .returned (.int .u32 (rotN e 25 : Nat)) ∧ w' = wx := fun wx => flip_same (ref_turn_any e 25 wx hok.e (by decide))
      have qa2 : ∀ wx, Calls Tryd.prog 27 #[.int .u32 a, .int .i64 2] wx fun r w' => r = .returned (.int .u32 (rotN a 2 : Nat)) ∧ w' = wx := fun wx => flip_same (ref_turn_any a 2 wx hok.a (by decide))
      have qa13 : ∀ wx, Calls Tryd.prog 27 #[.int .u32 a, .int .i64 13] wx fun r w' => r = .returned (.int .u32 (rotN a 13 : Nat)) ∧ w' = wx := fun wx => flip_same (ref_turn_any a 13 wx hok.a (by decide))
      have qa22 : ∀ wx, Calls Tryd.prog 27 #[.int .u32 a, .int .i64 22] wx fun r w' => r = .returned (.int .u32 (rotN a 22 : Nat)) ∧ w' = wx := fun wx => flip_same (ref_turn_any a 22 wx hok.a (by decide))
      have xe1 := u32_xor_nat (rotN e 6) (rotN e 11) (rotN_lt e 6 hok.e (by decide)) (rotN_lt e 11 hok.e (by decide))
      have xe2 : bits .xor .u32 ((rotN e 6 ^^^ rotN e 11 : Nat) : Int) ((rotN e 25 : Nat) : Int) = ((bigE e : Nat) : Int) := u32_xor_nat _ _ (xor32 (rotN_lt e 6 hok.e (by decide)) (rotN_lt e 11 hok.e (by decide))) (rotN_lt e 25 hok.e (by decide))
      have xa1 := u32_xor_nat (rotN a 2) (rotN a 13) (rotN_lt a 2 hok.a (by decide)) (rotN_lt a 13 hok.a (by decide))
      have xa2 : bits .xor .u32 ((rotN a 2 ^^^ rotN a 13 : Nat) : Int) ((rotN a 22 : Nat) : Int) = ((bigA a : Nat) : Int) := u32_xor_nat _ _ (xor32 (rotN_lt a 2 hok.a (by decide)) (rotN_lt a 13 hok.a (by decide))) (rotN_lt a 22 hok.a (by decide))
      have b1 := u32_and_nat e f hok.e hok.f
      have b2 : bits .and .u32 (4294967295 - (e : Int)) (g : Int) = (((4294967295 - e) &&& g : Nat) : Int) := by
        have he := hok.e
        simp only at he
        rw [show 4294967295 - (e : Int) = ((4294967295 - e : Nat) : Int) from by omega]
        exact u32_and_nat (4294967295 - e) g (by omega) hok.g
      have b3 : bits .or .u32 ((e &&& f : Nat) : Int) (((4294967295 - e) &&& g : Nat) : Int) = ((chN e f g : Nat) : Int) := u32_or_nat (e &&& f) ((4294967295 - e) &&& g) (and32 hok.f) (and32 hok.g)
      have m1 := u32_and_nat a b hok.a hok.b
      have m2 := u32_and_nat a c hok.a hok.c
      have m3 := u32_and_nat b c hok.b hok.c
      have m4 := u32_or_nat (a &&& b) (a &&& c) (and32 hok.b) (and32 hok.c)
      have m5 : bits .or .u32 (((a &&& b) ||| (a &&& c) : Nat) : Int) ((b &&& c : Nat) : Int) = ((majN a b c : Nat) : Int) := u32_or_nat ((a &&& b) ||| (a &&& c)) (b &&& c) (or32 (and32 hok.b) (and32 hok.c)) (and32 hok.c)
      have hel : e ≤ 4294967295 := by have he := hok.e; simp only at he; omega
      have hst := fun W A hW => SET.out A W hW
      have Qe6 := Lib.hid qe6
      have Qe11 := Lib.hid qe11
      have Qe25 := Lib.hid qe25
      have Qa2 := Lib.hid qa2
      have Qa13 := Lib.hid qa13
      have Qa22 := Lib.hid qa22
      have HN := Lib.hid hnext
      clear hst hnext hkk hx hrn hok qe6 qe11 qe25 qa2 qa13 qa22
      have HBb := HB
      have c0 : wr.cell? ⟨ga, 0, none⟩ = some (.int .u32 (a : Int)) := by rw [cell_of_heap HB.out.fa]; rfl
      have c1 : wr.cell? ⟨ga, 1, none⟩ = some (.int .u32 (b : Int)) := by rw [cell_of_heap HB.out.fa]; rfl
      have c2 : wr.cell? ⟨ga, 2, none⟩ = some (.int .u32 (c : Int)) := by rw [cell_of_heap HB.out.fa]; rfl
      have c3 : wr.cell? ⟨ga, 3, none⟩ = some (.int .u32 (d : Int)) := by rw [cell_of_heap HB.out.fa]; rfl
      have c4 : wr.cell? ⟨ga, 4, none⟩ = some (.int .u32 (e : Int)) := by rw [cell_of_heap HB.out.fa]; rfl
      have c5 : wr.cell? ⟨ga, 5, none⟩ = some (.int .u32 (f : Int)) := by rw [cell_of_heap HB.out.fa]; rfl
      have c6 : wr.cell? ⟨ga, 6, none⟩ = some (.int .u32 (g : Int)) := by rw [cell_of_heap HB.out.fa]; rfl
      have c7 : wr.cell? ⟨ga, 7, none⟩ = some (.int .u32 (h : Int)) := by rw [cell_of_heap HB.out.fa]; rfl
      go_wp2_with fail
      go_quiet (first | (go_at_call 27; with_reducible refine Calls.quiet_of_same (Qe6.out _)) | (go_at_call 27; with_reducible refine Calls.quiet_of_same (Qe11.out _)) | (go_at_call 27; with_reducible refine Calls.quiet_of_same (Qe25.out _)))
      clear c0 c1 c2 c3 c4 c5 c6 c7
      have HB1 := Lib.hid (HB.out.drewN nq)
      generalize wr.drewN nq = wrq at HB1 ⊢
      clear nq
      have c0 : wrq.cell? ⟨ga, 0, none⟩ = some (.int .u32 (a : Int)) := by rw [cell_of_heap HB1.out.fa]; rfl
      have c1 : wrq.cell? ⟨ga, 1, none⟩ = some (.int .u32 (b : Int)) := by rw [cell_of_heap HB1.out.fa]; rfl
      have c2 : wrq.cell? ⟨ga, 2, none⟩ = some (.int .u32 (c : Int)) := by rw [cell_of_heap HB1.out.fa]; rfl
      have c3 : wrq.cell? ⟨ga, 3, none⟩ = some (.int .u32 (d : Int)) := by rw [cell_of_heap HB1.out.fa]; rfl
      have c4 : wrq.cell? ⟨ga, 4, none⟩ = some (.int .u32 (e : Int)) := by rw [cell_of_heap HB1.out.fa]; rfl
      have c5 : wrq.cell? ⟨ga, 5, none⟩ = some (.int .u32 (f : Int)) := by rw [cell_of_heap HB1.out.fa]; rfl
      have c6 : wrq.cell? ⟨ga, 6, none⟩ = some (.int .u32 (g : Int)) := by rw [cell_of_heap HB1.out.fa]; rfl
      have c7 : wrq.cell? ⟨ga, 7, none⟩ = some (.int .u32 (h : Int)) := by rw [cell_of_heap HB1.out.fa]; rfl
      go_wp2_with fail
      have ck := HCK.out _ _ HB1.out
      have cw := HCW.out _ _ HB1.out
      go_quiet (fail)
      clear ck cw
      clear c0 c1 c2 c3 c4 c5 c6 c7
      have HB2 := Lib.hid (HB1.out.drewN nq)
      generalize wrq.drewN nq = wrqq at HB2 ⊢
      clear nq
      have c0 : wrqq.cell? ⟨ga, 0, none⟩ = some (.int .u32 (a : Int)) := by rw [cell_of_heap HB2.out.fa]; rfl
      have c1 : wrqq.cell? ⟨ga, 1, none⟩ = some (.int .u32 (b : Int)) := by rw [cell_of_heap HB2.out.fa]; rfl
      have c2 : wrqq.cell? ⟨ga, 2, none⟩ = some (.int .u32 (c : Int)) := by rw [cell_of_heap HB2.out.fa]; rfl
      have c3 : wrqq.cell? ⟨ga, 3, none⟩ = some (.int .u32 (d : Int)) := by rw [cell_of_heap HB2.out.fa]; rfl
      have c4 : wrqq.cell? ⟨ga, 4, none⟩ = some (.int .u32 (e : Int)) := by rw [cell_of_heap HB2.out.fa]; rfl
      have c5 : wrqq.cell? ⟨ga, 5, none⟩ = some (.int .u32 (f : Int)) := by rw [cell_of_heap HB2.out.fa]; rfl
      have c6 : wrqq.cell? ⟨ga, 6, none⟩ = some (.int .u32 (g : Int)) := by rw [cell_of_heap HB2.out.fa]; rfl
      have c7 : wrqq.cell? ⟨ga, 7, none⟩ = some (.int .u32 (h : Int)) := by rw [cell_of_heap HB2.out.fa]; rfl
      go_wp2_with fail
      go_quiet (first | (go_at_call 27; with_reducible refine Calls.quiet_of_same (Qa2.out _)) | (go_at_call 27; with_reducible refine Calls.quiet_of_same (Qa13.out _)) | (go_at_call 27; with_reducible refine Calls.quiet_of_same (Qa22.out _)))
      clear c0 c1 c2 c3 c4 c5 c6 c7
      have HB3 := Lib.hid (HB2.out.drewN nq)
      generalize wrqq.drewN nq = wrqqq at HB3 ⊢
      clear nq
      have c0 : wrqqq.cell? ⟨ga, 0, none⟩ = some (.int .u32 (a : Int)) := by rw [cell_of_heap HB3.out.fa]; rfl
      have c1 : wrqqq.cell? ⟨ga, 1, none⟩ = some (.int .u32 (b : Int)) := by rw [cell_of_heap HB3.out.fa]; rfl
      have c2 : wrqqq.cell? ⟨ga, 2, none⟩ = some (.int .u32 (c : Int)) := by rw [cell_of_heap HB3.out.fa]; rfl
      have c3 : wrqqq.cell? ⟨ga, 3, none⟩ = some (.int .u32 (d : Int)) := by rw [cell_of_heap HB3.out.fa]; rfl
      have c4 : wrqqq.cell? ⟨ga, 4, none⟩ = some (.int .u32 (e : Int)) := by rw [cell_of_heap HB3.out.fa]; rfl
      have c5 : wrqqq.cell? ⟨ga, 5, none⟩ = some (.int .u32 (f : Int)) := by rw [cell_of_heap HB3.out.fa]; rfl
      have c6 : wrqqq.cell? ⟨ga, 6, none⟩ = some (.int .u32 (g : Int)) := by rw [cell_of_heap HB3.out.fa]; rfl
      have c7 : wrqqq.cell? ⟨ga, 7, none⟩ = some (.int .u32 (h : Int)) := by rw [cell_of_heap HB3.out.fa]; rfl
      have fz0 := free_of_heap HB3.out.fa 0
      have fz1 := free_of_heap HB3.out.fa 1
      have fz2 := free_of_heap HB3.out.fa 2
      have fz3 := free_of_heap HB3.out.fa 3
      have fz4 := free_of_heap HB3.out.fa 4
      have fz5 := free_of_heap HB3.out.fa 5
      have fz6 := free_of_heap HB3.out.fa 6
      have fz7 := free_of_heap HB3.out.fa 7
      go_wp2_with fail
      obtain ⟨x4, hx4⟩ : ∃ x4, x4 = (d + xN e f g h k x) % 4294967296 := ⟨_, rfl⟩
      obtain ⟨x0, hx0⟩ : ∃ x0, x0 = (xN e f g h k x + yN a b c) % 4294967296 := ⟨_, rfl⟩
      rw [← hx4, ← hx0] at HN
      have key : ∀ z4 z0 : Int, z4 = (x4 : Int) → z0 = (x0 : Int) → BlkAt w ga gk gw g0 g1 S Z ws (stC ⟨x0, a, b, c, x4, e, f, g⟩)
          ((((((((wrqqq.setCell ⟨ga, 7, none⟩ (.int .u32 (g : Int))).setCell ⟨ga, 6, none⟩ (.int .u32 (f : Int))).setCell ⟨ga, 5, none⟩ (.int .u32 (e : Int))).setCell ⟨ga, 4, none⟩ (.int .u32 z4)).setCell ⟨ga, 3, none⟩ (.int .u32 (c : Int))).setCell ⟨ga, 2, none⟩ (.int .u32 (b : Int))).setCell ⟨ga, 1, none⟩ (.int .u32 (a : Int))).setCell ⟨ga, 0, none⟩ (.int .u32 z0)) := by
        rintro _ _ rfl rfl
        have r7 := SET.out _ _ HB3.out 7 (.int .u32 (g : Int))
        have r6 := SET.out _ _ r7 6 (.int .u32 (f : Int))
        have r5 := SET.out _ _ r6 5 (.int .u32 (e : Int))
        have r4 := SET.out _ _ r5 4 (.int .u32 (x4 : Int))
        have r3 := SET.out _ _ r4 3 (.int .u32 (c : Int))
        have r2 := SET.out _ _ r3 2 (.int .u32 (b : Int))
        have r1 := SET.out _ _ r2 1 (.int .u32 (a : Int))
        have r0 := SET.out _ _ r1 0 (.int .u32 (x0 : Int))
        rw [stC_shift] at r0
        exact r0
      unfold xN at hx4
      unfold xN yN at hx0
      go_roundw
      case rel => exact ⟨n + 1, _, _, _, _, _, _, _, _, by omega, HN.out, by go_num, key _ _ (by omega) (by omega)⟩
      case measure => simp [intOf]; omega
    · have hd : decide ((n : Int) < 64) = false := decide_eq_false (by omega)
      have hend : blockSt ⟨sa, sb, sc, sd, se, sf, sg, sh⟩ bs = combSt ⟨sa, sb, sc, sd, se, sf, sg, sh⟩ ⟨a, b, c, d, e, f, g, h⟩ := by
        rw [blockSt, ← HWS.out, ← hrn, show n = 64 from by omega]
      have HEND := Lib.hid hend
      have HB4 : Hid (BlkAt w ga gk gw g0 g1 S Z ws (numsC (mixL ⟨sa, sb, sc, sd, se, sf, sg, sh⟩ ⟨a, b, c, d, e, f, g, h⟩ 0)) wr) := Lib.hid HB.out
      clear hend hrn HB
      obtain ⟨s1, hs1⟩ : ∃ s1 : St, s1 = ⟨sa, sb, sc, sd, se, sf, sg, sh⟩ := ⟨_, rfl⟩
      obtain ⟨t1, ht1⟩ : ∃ t1 : St, t1 = ⟨a, b, c, d, e, f, g, h⟩ := ⟨_, rfl⟩
      rw [← hs1] at HEND HB4 hs HS HR
      rw [← ht1] at HEND HB4
      clear hs1 ht1
      go_wp2_with fail
      go_loopw [15] (fun vi W => ∃ i : Nat, i ≤ 8 ∧ vi = .int .i64 (i : Int) ∧ BlkAt w ga gk gw g0 g1 S Z ws (numsC (mixL s1 t1 i)) W) (fun vi _ => 8 - (intOf vi).toNat)
      case atStart => exact ⟨0, by omega, rfl, HB4.out⟩
      case round =>
        clear HB4
        obtain ⟨i, hi, rfl, hB⟩ := hrel
        by_cases hi8 : i < 8
        · have hd2 : decide ((i : Int) < 8) = true := decide_eq_true (by omega)
          have hi8i : (i : Int) < 8 := by omega
          obtain ⟨y, hy⟩ : ∃ y, y = t1.list[i]'(by rw [St.list_length]; exact hi8) := ⟨_, rfl⟩
          obtain ⟨z, hz⟩ : ∃ z, z = s1.list[i]'(by rw [St.list_length]; exact hi8) := ⟨_, rfl⟩
          have hml := mixL_length s1 t1 i hi
          have cy : wr.cell? ⟨ga, i, none⟩ = some (.int .u32 (y : Int)) := by
            have hg := mixL_get s1 t1 i hi8
            rw [List.getElem?_eq_getElem (by omega)] at hg
            rw [cell_of_heap hB.fa, numsC_get _ _ (by omega), Option.some.inj hg, hy]
          have cz : wr.cell? ⟨g0, i, none⟩ = some (.int .u32 (z : Int)) := by
            rw [cell_of_heap hB.fs, HS.out, stC_list _ _ hi8, hz]
          have hset := mixL_set s1 t1 i hi8
          rw [← hy, ← hz] at hset
          have hfz := free_of_heap hB.fa i
          have key : ∀ v : Int, v = (((y + z) % 4294967296 : Nat) : Int) → BlkAt w ga gk gw g0 g1 S Z ws (numsC (mixL s1 t1 (i + 1))) (wr.setCell ⟨ga, i, none⟩ (.int .u32 v)) := by
            rintro _ rfl
            rw [← hset, ← numsC_set]
            exact SET.out _ _ hB i _
          have KEY := Lib.hid key
          clear key hset hy hz hml hB
          go_wp2_with fail
          go_region
          go_wp2_with fail
          go_roundw
          case rel => exact ⟨i + 1, by omega, by go_num, (KEY.out _ (by omega)).drew⟩
          case measure => simp [intOf]; omega
        · have hd2 : decide ((i : Int) < 8) = false := decide_eq_false (by omega)
          rw [show i = 8 from by omega, mixL_end, ← stC_nums, ← HEND.out, ← HR.out] at hB
          have HB5 := Lib.hid hB
          clear hB
          go_wp2_with (refine wpList_load_row rfl 29 _ rfl ga rfl 29 R (0, 0) _ HB5.out.fa Tryd.underlying29 rfl HSZR.out ?_; refine wpL_storeArr rfl 29 (.tmp 4) (.tmp 133) rfl g1 R Z rfl rfl 29 HB5.out.fz HSZR.out HOLDR.out HONR.out ?_; intro w9 hh9 hf9 hs9)
          refine bodyPost_ret (v := .agg R) ?_ rfl ⟨rfl, HB5.out.ff.trans hf9 (by simp) (by simp; have := E0.out; omega)⟩
          exact results_cell_row rfl _ _ g1 29 R (0, 0) _ rfl hh9.out Tryd.underlying29 rfl HSZR.out
end Go.Proofs.YtjiighgabfkmpaaDoor
