/- Layer 19, the document's: Cat. (Split out of WsC.) -/
import Derived.Test.YtmcekpgmebanaaaWsB
import Derived.Test.YtmcekpgmebanaaaWoR
import Derived.Test.YtmcekpgmebanaaaCatW
set_option linter.unusedVariables false
set_option linter.unusedSimpArgs false
namespace Go.Proofs.Ytmcekpgmebanaaa
open Go.RowKit

theorem ofW_snoc (l : Words) (x : List UInt8) : ofW (l ++ [x]) = putW (ofW l) x := by unfold ofW; rw [List.foldl_append]; rfl
def rowW (k : Int) (x : List UInt8) (b : Words) : Words := b.map fun y => cutW (x ++ y) k
theorem catsW_next {k : Int} {a b : Words} {i : Nat} (h : i < a.length) : catsW k (a.take (i + 1)) b = catsW k (a.take i) b ++ rowW k (a[i]'h) b := by
  unfold catsW
  rw [List.take_succ_eq_append_getElem h, List.flatMap_append]
  simp [rowW]
theorem rowW_next {k : Int} {x : List UInt8} {b : Words} {j : Nat} (h : j < b.length) : rowW k x (b.take (j + 1)) = rowW k x (b.take j) ++ [cutW (x ++ b[j]'h) k] := by
  unfold rowW
  rw [List.take_succ_eq_append_getElem h, List.map_append]
  rfl
theorem cutW_len (x : List UInt8) (k : Int) : (cutW x k).length ≤ x.length := by unfold cutW; rw [List.length_take]; omega
def CatO (w : World) (k : Int) (a b : Words) (v iv : Value) (wx : World) : Prop := ∃ i : Nat, i ≤ a.length ∧ iv = .int .i64 (i : Int) ∧ strsAt wx v (ofW (catsW k (a.take i) b)) ∧ Fr [] w wx
def CatI (w : World) (k : Int) (L : Words) (x : List UInt8) (b : Words) (v iv : Value) (wx : World) : Prop := ∃ j : Nat, j ≤ b.length ∧ iv = .int .i64 (j : Int) ∧ strsAt wx v (ofW (L ++ rowW k x (b.take j))) ∧ Fr [] w wx
set_option maxRecDepth 100000 in
set_option maxHeartbeats 4000000 in
theorem rcat_any (k : Int) (a b : Words) (v u : Value) (w : World) (h : strsAt w v a) (g : strsAt w u b) (hl : a.length * b.length ≤ 900000) (ha : ∀ y ∈ a, y.length ≤ 1000000) (hb : ∀ y ∈ b, y.length ≤ 1000000) :
    Calls Try.prog 21 #[.int .i64 k, v, u] w (GotS (catW k a b) w) := by
  obtain ⟨a0, c0, rfl, hle, hmx⟩ := h.form
  obtain ⟨a1, c1, rfl, hle1, hmx1⟩ := g.form
  have HL := Lib.hid h
  have HM := Lib.hid g
  have HS := Lib.hid ha
  have HT := Lib.hid hb
  have HMUL := Lib.hid hl
  clear h g ha hb hl
  go_enter Try.func21, Try.ntmps21
  go_wp2_with fail
  go_loopw [7, 8] (CatO w k a b) (fun _ iv _ => a.length - (intOf iv).toNat)
  case atStart => exact ⟨0, Nat.zero_le _, rfl, cellsAt.nil _, Fr.refl _ _⟩
  case round =>
    obtain ⟨i, hi, rfl, hst, hfr⟩ := hrel
    by_cases hin : i < a.length
    · have hd : decide (i < a.length) = true := decide_eq_true hin
      obtain ⟨b0, off0, rfl, hca⟩ := str_cell HL.out i hin
      have hnx := catsW_next (k := k) (b := b) hin
      have hxm := HS.out _ (List.getElem_mem hin)
      have hLen : (catsW k (a.take i) b).length + b.length ≤ 900000 := by
        rw [catsW_len, List.length_take, Nat.min_eq_left hi]
        have h1 : (i + 1) * b.length ≤ a.length * b.length := Nat.mul_le_mul_right _ hin
        have h2 := HMUL.out
        rw [Nat.succ_mul] at h1
        omega
      have hsub : ∀ y ∈ catsW k (a.take i) b, y.length ≤ 2000000 := by
        intro y hy
        unfold catsW at hy
        obtain ⟨p, hp, hy⟩ := List.mem_flatMap.1 hy
        obtain ⟨q, hq, rfl⟩ := List.mem_map.1 hy
        have h1 := cutW_len (p ++ q) k
        rw [List.length_append] at h1
        have h2 := HS.out p (List.mem_of_mem_take hp)
        have h3 := HT.out q hq
        omega
      obtain ⟨x, hx⟩ : ∃ x, x = a[i]'hin := ⟨_, rfl⟩
      obtain ⟨L, hL⟩ : ∃ L, L = catsW k (a.take i) b := ⟨_, rfl⟩
      rw [← hx] at hca hnx hxm
      rw [← hL] at hst hnx hLen hsub
      have HNX := Lib.hid hnx
      have HST := Lib.hid hst
      have HFR := Lib.hid hfr
      have HLEN := Lib.hid hLen
      have HSUB := Lib.hid hsub
      have HXM := Lib.hid hxm
      have HCA := Lib.hid hca
      clear hnx hst hfr hLen hsub hxm hx hL hca
      go_wp2_with fail
      go_loopw [7, 9] (CatI w k L x b) (fun _ iv _ => b.length - (intOf iv).toNat)
      case atStart => exact ⟨0, Nat.zero_le _, rfl, by simpa [rowW] using HST.out, HFR.out⟩
      case round =>
        clear HST HFR
        obtain ⟨j, hj, rfl, hst, hfr⟩ := hrel
        by_cases hjn : j < b.length
        · have hd2 : decide (j < b.length) = true := decide_eq_true hjn
          obtain ⟨b2, off2, rfl, hcb⟩ := str_cell (HM.out.below hfr) j hjn
          have hca := hfr.cell HCA.out (by simp)
          have hrx := rowW_next (k := k) (x := x) hjn
          have hym := HT.out _ (List.getElem_mem hjn)
          obtain ⟨y, hy⟩ : ∃ y, y = b[j]'hjn := ⟨_, rfl⟩
          rw [← hy] at hcb hrx hym
          have hsum : (x ++ y).length ≤ 2000000 := by rw [List.length_append]; have := HXM.out; omega
          have hq2 : ∀ z ∈ L ++ rowW k x (b.take j), z.length ≤ maxLen := by
            intro z hz
            simp only [maxLen]
            rcases List.mem_append.1 hz with hz | hz
            · have := HSUB.out z hz; omega
            · unfold rowW at hz
              obtain ⟨q, hq, rfl⟩ := List.mem_map.1 hz
              have h1 := cutW_len (x ++ q) k
              rw [List.length_append] at h1
              have h2 := HXM.out
              have h3 := HT.out q (List.mem_of_mem_take hq)
              omega
          have hql : (L ++ rowW k x (b.take j)).length ≤ 1000000 := by
            rw [List.length_append]
            unfold rowW
            rw [List.length_map, List.length_take]
            have := HLEN.out
            omega
          obtain ⟨z, hz⟩ : ∃ z, z = cutW (x ++ y) k := ⟨_, rfl⟩
          have hzl : z.length ≤ 2000000 := by rw [hz]; exact Nat.le_trans (cutW_len _ _) hsum
          obtain ⟨XY, hXY⟩ : ∃ X, X = (x ++ y).toArray := ⟨_, rfl⟩
          have hcat := fun wx => cat_w (P := Try.prog) (A := x.toArray) (B := y.toArray) (C := XY) rfl rfl hXY (by omega) wx
          have HCUT := Lib.hid (fun wx => rcut_any (x ++ y) k wx)
          rw [← hXY, ← hz] at HCUT
          have HNY := Lib.hid (show ofW (L ++ rowW k x (b.take (j + 1))) = putW (ofW (L ++ rowW k x (b.take j))) z by rw [hrx, ← List.append_assoc, ofW_snoc, hz])
          have HP := Lib.hid (fun wx (hs : strsAt wx u7 (ofW (L ++ rowW k x (b.take j)))) => rput_any (ofW (L ++ rowW k x (b.take j))) z u7 wx hs (Nat.le_trans (ofW_len _) hql) (fun y hy => hq2 y (mem_ofW.1 hy)) (by simp only [maxLen]; omega))
          have HST := Lib.hid hst
          have HFR := Lib.hid hfr
          clear hq2 hql hrx hym hsum hz hzl hXY hy hst
          go_upto_region 8 with fail
          refine wp_region_G [] [(0, false), (1, false), (2, false), (3, false), (4, false), (5, false), (6, false), (7, false), (8, false), (9, false), (10, false), (11, true), (12, true), (13, false)] 36 rfl (by kernel_rfl) (by kernel_rfl) (by kernel_rfl) (fun c a d v w h => by cases d <;> exact h) (fun wd hfd => ?_)
          simp only [List.map_cons, List.map_nil, List.getElem?_toArray, List.getElem?_cons_succ, List.getElem?_cons_zero, Option.getD_some]
          have L1 : Hid (Later [] wd (fun w' => w'.cell? ⟨b0, off0 + i, none⟩ = some (encStr x))) := Lib.hid (fun w' hf' => hf'.cell (hfd.cell hca (by simp)) (by simp))
          have L2 : Hid (Later [] wd (fun w' => w'.cell? ⟨b2, off2 + j, none⟩ = some (encStr y))) := Lib.hid (fun w' hf' => hf'.cell (hfd.cell hcb (by simp)) (by simp))
          have HFD := Lib.hid (HFR.out.trans hfd (by simp) (n := []) (by simp))
          have HSD := Lib.hid (HST.out.below hfd)
          clear hca hcb hfd hfr
          repeat (apply wpG_t; · (intro w' hf'; have c1 := L1.out w' hf'; have c2 := L2.out w' hf'; go_wp2_with fail; exact ⟨rfl, rfl⟩))
          refine wpG_x ?_
          go_wp2_with (go_at_call 37; refine (HCUT.out _).mono ?_; rintro e w5 ⟨rfl, rfl⟩)
          refine ⟨Fr.refl _ _, rfl, ?_⟩
          refine wpG_x ?_
          go_wp2_with (go_at_call 26; refine (HP.out _ HSD.out).mono ?_; rintro e w6 ⟨v6, rfl, hs6, hf6⟩)
          refine ⟨hf6, rfl, ?_⟩
          have HS6 := Lib.hid hs6
          have HF6 := Lib.hid (HFD.out.trans hf6 (by simp) (n := []) (by simp))
          clear hs6 hf6
          apply wpG_t
          · (intro w' hf'; go_wp2_with fail; exact ⟨rfl, rfl⟩)
          refine wpG_end ?_
          go_wp2_with fail
          go_roundw
          case rel => exact ⟨j + 1, by omega, by go_num, by rw [HNY.out]; exact HS6.out, HF6.out⟩
          case measure => simp [intOf]; omega
        · have hd2 : decide (j < b.length) = false := decide_eq_false hjn
          obtain rfl : j = b.length := by omega
          rw [List.take_length, ← HNX.out] at hst
          have HST := Lib.hid hst
          have HFR := Lib.hid hfr
          clear hst hfr
          go_wp2_with fail
          go_roundw
          case rel => exact ⟨i + 1, by omega, by go_num, HST.out, HFR.out⟩
          case measure => simp [intOf]; omega
    · have hd : decide (i < a.length) = false := decide_eq_false hin
      obtain rfl : i = a.length := by omega
      rw [List.take_length] at hst
      have HR := Lib.hid hst
      have HFR := Lib.hid hfr
      clear hst hfr
      go_wp2_with fail
      go_ret
      exact ⟨_, rfl, HR.out, HFR.out⟩
end Go.Proofs.Ytmcekpgmebanaaa
