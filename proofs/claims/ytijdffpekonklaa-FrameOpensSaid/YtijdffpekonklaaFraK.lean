/- Contract of the document's Front: where the head is in order. -/
import Derived.Test.YtijdffpekonklaaFraJ
namespace Go.Proofs.Ytijdffpekonklaa
open Go.RowKit

set_option maxRecDepth 100000 in
theorem rf_big (bs : List UInt8) (n d : Nat) (sv : Value) (w : World) (h : bytesAt w sv bs) (hl : bs.length ≤ 100000) (hf : front (bs.drop 1) = some (n, d)) (hn : 1048576 < n) :
    Calls Try.prog 13 #[sv] w fun e w' => e = .returned (bad4 3) ∧ Fr [] w w' := by
  have hd1 := front_len hf
  simp only [List.length_drop] at hd1
  obtain ⟨a0, c0, rfl, hle, hmx⟩ := h.form
  simp only [maxLen] at hmx
  have hc := h.cut (lo := 1) (hi := bs.length) (by omega) (Nat.le_refl _)
  rw [List.take_length, if_neg (by omega), Nat.mul_one] at hc
  have HR := Lib.hid (rfront_some (bs.drop 1) n d _ w hc (by simp; omega) hf)
  obtain ⟨x, rest, hx⟩ : ∃ x n, n ≤ 18446744073709551615 := ⟨0, 0, by omega⟩
  obtain ⟨_, _, _, hn64⟩ := front_some hf
  have hd0 : ((bs.length : Int) == 0) = false := by rw [beq_eq_false_iff_ne]; omega
  have hd2 : ((d : Int) == 0) = false := by rw [beq_eq_false_iff_ne]; omega
  have hd3 : decide (1048576 < (n : Int)) = true := decide_eq_true (by omega)
  have hL1 : 1 ≤ bs.length := by omega
  have hc1 : ¬ c0 = 1 := by omega
  obtain ⟨L, hL⟩ : ∃ L, L = bs.length := ⟨_, rfl⟩
  rw [← hL] at HR hd0 hL1 hle ⊢
  clear h hc hf hL hn
  go_enter Try.func13, Try.ntmps13
  go_wp2_with (go_at_call 28; refine HR.out.mono ?_; rintro e w1 ⟨rfl, rfl⟩)
  refine bodyPost_ret (results_tmp4 rfl _ _ _) rfl ?_
  exact ⟨rfl, Fr.refl _ _⟩
set_option maxRecDepth 100000 in
theorem rf_short (bs : List UInt8) (n d : Nat) (sv : Value) (w : World) (h : bytesAt w sv bs) (hl : bs.length ≤ 100000) (hf : front (bs.drop 1) = some (n, d)) (hn : n ≤ 1048576) (hs : bs.length < 1 + d + n + 4) :
    Calls Try.prog 13 #[sv] w fun e w' => e = .returned (bad4 2) ∧ Fr [] w w' := by
  have hd1 := front_len hf
  simp only [List.length_drop] at hd1
  obtain ⟨a0, c0, rfl, hle, hmx⟩ := h.form
  simp only [maxLen] at hmx
  have hc := h.cut (lo := 1) (hi := bs.length) (by omega) (Nat.le_refl _)
  rw [List.take_length, if_neg (by omega), Nat.mul_one] at hc
  have HR := Lib.hid (rfront_some (bs.drop 1) n d _ w hc (by simp; omega) hf)
  have hd0 : ((bs.length : Int) == 0) = false := by rw [beq_eq_false_iff_ne]; omega
  have hd2 : ((d : Int) == 0) = false := by rw [beq_eq_false_iff_ne]; omega
  have hd3 : decide (1048576 < (n : Int)) = false := decide_eq_false (by omega)
  have hd4 : decide ((bs.length : Int) < 1 + (d : Int) + (n : Int) + 4) = true := decide_eq_true (by omega)
  have hL1 : 1 ≤ bs.length := by omega
  have hc1 : ¬ c0 = 1 := by omega
  obtain ⟨L, hL⟩ : ∃ L, L = bs.length := ⟨_, rfl⟩
  rw [← hL] at HR hd0 hd4 hL1 hle hs ⊢
  clear h hc hf hL
  go_enter Try.func13, Try.ntmps13
  go_wp2_with (go_at_call 28; refine HR.out.mono ?_; rintro e w1 ⟨rfl, rfl⟩)
  refine bodyPost_ret (results_tmp4 rfl _ _ _) rfl ?_
  exact ⟨rfl, Fr.refl _ _⟩

/-- What Front gives where head and length are in order. -/
def Fronted7 (bs : List UInt8) (w : World) (e : Ending) (w' : World) : Prop :=
  Fr [] w w' ∧ ((sumOk bs = true ∧ ∃ lv, e = .returned (.tuple #[.int .u8 ((kindF bs).toNat : Int), lv, .int .i64 ((endF bs + 4 : Nat) : Int), .int .i64 0]) ∧ bytesAt w' lv (loadF bs)) ∨ (sumOk bs = false ∧ e = .returned (bad4 6)))
theorem drop4 (bs : List UInt8) (f : Nat) (h : f + 4 ≤ bs.length) : (bs.take (f + 4)).drop f = [bs[f]'(by omega), bs[f + 1]'(by omega), bs[f + 2]'(by omega), bs[f + 3]'(by omega)] := by
  apply List.ext_getElem
  · simp; omega
  · intro i h1 h2
    simp only [List.length_cons, List.length_nil] at h2
    match i, h2 with
    | 0, _ => simp
    | 1, _ => simp
    | 2, _ => simp
    | 3, _ => simp
theorem kindF_get (bs : List UInt8) (h : 0 < bs.length) : bs[0]'h = kindF bs := by
  cases bs with
  | nil => simp at h
  | cons c r => rfl
theorem sum4_eq (c0 c1 c2 c3 : UInt8) (s : Nat) : [c0, c1, c2, c3] = sum4 s ↔ c0.toNat = s % 256 ∧ c1.toNat = s / 256 % 256 ∧ c2.toNat = s / 65536 % 256 ∧ c3.toNat = s / 16777216 % 256 := by
  have key : ∀ (c : UInt8) (n : Nat), c = UInt8.ofNat (n % 256) ↔ c.toNat = n % 256 := fun c n => by
    constructor
    · rintro rfl; exact u8n n
    · intro h; rw [← h]; simp
  simp only [sum4, List.cons.injEq, and_true, key]
set_option maxRecDepth 100000 in
theorem rf_full (bs : List UInt8) (sv : Value) (w : World) (h : bytesAt w sv bs) (hl : bs.length ≤ 100000) (hy : (lenOf bs).1 = 0) (hs : endF bs + 4 ≤ bs.length) :
    Calls Try.prog 13 #[sv] w (Fronted7 bs w) := by
  obtain ⟨k, r, n, d, hbs, hf, hn, hlo⟩ := lenOf_ok hy
  have hdr : bs.drop 1 = r := by rw [hbs]; rfl
  rw [← hdr] at hf
  have hdl := front_len hf
  simp only [List.length_drop] at hdl
  have he : endF bs = 1 + d + n := by rw [endF, hlo]
  have hat : atF bs = 1 + d := by rw [atF, hlo]
  have hHB := fun wx (hx : Fr [] w wx) => h.below hx
  have hex : ∃ b off c0, sv = .slice (some ⟨b, off, none⟩) bs.length c0 ∧ bs.length ≤ c0 ∧ c0 ≤ maxLen ∧ ∀ i (h : i < bs.length), w.cell? ⟨b, off + i, none⟩ = some (.int .u8 ((bs[i]'h).toNat : Int)) := by
    rcases h with ⟨_, _, _, _, rfl⟩ | ⟨b, off, c, e, h3, h4, h5⟩
    · simp at hs
    · exact ⟨b, off, c, e, h3, h4, h5⟩
  obtain ⟨b, off, c0, rfl, hle, hmx, hcell⟩ := hex
  simp only [maxLen] at hmx
  have hc := h.cut (lo := 1) (hi := bs.length) (by omega) (Nat.le_refl _)
  rw [List.take_length, if_neg (by omega), Nat.mul_one] at hc
  have HR := Lib.hid (rfront_some (bs.drop 1) n d _ w hc (by simp; omega) hf)
  have HX := Lib.hid (h.take (n := endF bs) (by omega))
  have hl1 := h.cut (lo := atF bs) (hi := endF bs) (by omega) (by omega)
  rw [if_neg (by omega), Nat.mul_one, show (bs.take (endF bs)).drop (atF bs) = loadF bs from rfl, show Option.map (fun x : Addr => x.add (atF bs)) (some ⟨b, off, none⟩) = some ⟨b, off + atF bs, none⟩ from by simp only [Option.map_some, Addr.add]; rw [if_neg (by omega)]] at hl1
  have HLD := Lib.hid hl1
  have hd0 : ((bs.length : Int) == 0) = false := by rw [beq_eq_false_iff_ne]; omega
  have hd2 : ((d : Int) == 0) = false := by rw [beq_eq_false_iff_ne]; omega
  have hd3 : decide (1048576 < (n : Int)) = false := decide_eq_false (by omega)
  have hd4 : decide ((bs.length : Int) < 1 + (d : Int) + (n : Int) + 4) = false := decide_eq_false (by omega)
  have hL1 : 1 ≤ bs.length := by omega
  have hc1 : ¬ c0 = 1 := by omega
  have hcf : (bs.take (endF bs)).length = endF bs := by simp; omega
  have hcl : crcOf (bs.take (endF bs)) < 4294967296 := by unfold crcOf; have := crcS_ones (bs.take (endF bs)); omega
  have hsum := ref_sum_any (bs.take (endF bs)) _ w HX.out
  obtain ⟨s, hss⟩ : ∃ s, s = crcOf (bs.take (endF bs)) := ⟨_, rfl⟩
  rw [← hss] at hsum hcl
  have HSM := Lib.hid hsum
  have hok : sumOk bs = true ↔ ((bs[endF bs]'(by omega)).toNat = s % 256 ∧ (bs[endF bs + 1]'(by omega)).toNat = s / 256 % 256 ∧ (bs[endF bs + 2]'(by omega)).toNat = s / 65536 % 256 ∧ (bs[endF bs + 3]'(by omega)).toNat = s / 16777216 % 256) := by
    rw [sumOk, drop4 bs _ hs, ← hss, decide_eq_true_eq, sum4_eq]
  have k0 := hcell (endF bs) (by omega)
  have k1 := hcell (endF bs + 1) (by omega)
  have k2 := hcell (endF bs + 2) (by omega)
  have k3 := hcell (endF bs + 3) (by omega)
  have kk : w.cell? ⟨b, off, none⟩ = some (.int .u8 ((kindF bs).toNat : Int)) := by
    have := hcell 0 (by omega)
    rw [Nat.add_zero] at this
    rw [this, kindF_get]
  obtain ⟨x0, hx0⟩ : ∃ x, x = (bs[endF bs]'(by omega)).toNat := ⟨_, rfl⟩
  obtain ⟨x1, hx1⟩ : ∃ x, x = (bs[endF bs + 1]'(by omega)).toNat := ⟨_, rfl⟩
  obtain ⟨x2, hx2⟩ : ∃ x, x = (bs[endF bs + 2]'(by omega)).toNat := ⟨_, rfl⟩
  obtain ⟨x3, hx3⟩ : ∃ x, x = (bs[endF bs + 3]'(by omega)).toNat := ⟨_, rfl⟩
  rw [← hx0] at k0
  rw [← hx1] at k1
  rw [← hx2] at k2
  rw [← hx3] at k3
  rw [← hx0, ← hx1, ← hx2, ← hx3] at hok
  clear hx0 hx1 hx2 hx3
  obtain ⟨B, hB⟩ : ∃ B, B = sumOk bs := ⟨_, rfl⟩
  rw [← hB] at hok
  have HBB := Lib.hid hB
  have HOK := Lib.hid hok
  rw [he] at k0 k1 k2 k3 hs HSM
  rw [he, hat] at HLD
  have HE := Lib.hid he
  obtain ⟨L, hL⟩ : ∃ L, L = bs.length := ⟨_, rfl⟩
  rw [← hL] at HR hd0 hd4 hL1 hle hs ⊢
  have hix0 : decide (1 + d + n < L) = true := decide_eq_true (by omega)
  have hfc : 1 + d + n ≤ c0 := by omega
  clear h hc hl1 hHB hcell hcf hsum hss hok hB he hat hlo hdr hf hbs hy hL HX
  go_enter Try.func13, Try.ntmps13
  go_upto_region 18 with (first
    | (go_at_call 28; refine HR.out.mono ?_; rintro e w1 ⟨rfl, rfl⟩)
    | (go_at_call 24; refine HSM.out.mono ?_; rintro e w1 ⟨rfl, rfl⟩))
  go_cut [97] (fun s97 wx => s97 = .bool (!B) ∧ w = wx)
  case first =>
    clear HR HLD HSM kk HBB
    by_cases e0 : x0 = s % 256
    · have f0 : ((x0 : Int) != (s : Int) % 256) = false := by rw [bne_eq_false_iff_eq]; omega
      by_cases e1 : x1 = s / 256 % 256
      · have f1 : ((x1 : Int) != (s : Int) / 256 % 256) = false := by rw [bne_eq_false_iff_eq]; omega
        by_cases e2 : x2 = s / 65536 % 256
        · have f2 : ((x2 : Int) != (s : Int) / 65536 % 256) = false := by rw [bne_eq_false_iff_eq]; omega
          by_cases e3 : x3 = s / 16777216 % 256
          · have f3 : ((x3 : Int) != (s : Int) / 16777216) = false := by rw [bne_eq_false_iff_eq]; omega
            have hBt : B = true := HOK.out.2 ⟨e0, e1, e2, e3⟩
            subst hBt
            clear e0 e1 e2 e3 HOK
            go_wp2_with fail
            go_meet
            exact ⟨rfl, rfl⟩
          · have f3 : ((x3 : Int) != (s : Int) / 16777216) = true := by rw [bne_iff_ne]; omega
            have hBt : B = false := by rw [Bool.eq_false_iff]; intro q; exact e3 (HOK.out.1 q).2.2.2
            subst hBt
            clear e0 e1 e2 e3 HOK
            go_wp2_with fail
            go_meet
            exact ⟨rfl, rfl⟩
        · have f2 : ((x2 : Int) != (s : Int) / 65536 % 256) = true := by rw [bne_iff_ne]; omega
          have hBt : B = false := by rw [Bool.eq_false_iff]; intro q; exact e2 (HOK.out.1 q).2.2.1
          subst hBt
          clear e0 e1 e2 HOK
          go_wp2_with fail
          go_meet
          exact ⟨rfl, rfl⟩
      · have f1 : ((x1 : Int) != (s : Int) / 256 % 256) = true := by rw [bne_iff_ne]; omega
        have hBt : B = false := by rw [Bool.eq_false_iff]; intro q; exact e1 (HOK.out.1 q).2.1
        subst hBt
        clear e0 e1 HOK
        go_wp2_with fail
        go_meet
        exact ⟨rfl, rfl⟩
    · have f0 : ((x0 : Int) != (s : Int) % 256) = true := by rw [bne_iff_ne]; omega
      have hBt : B = false := by rw [Bool.eq_false_iff]; intro q; exact e0 (HOK.out.1 q).1
      subst hBt
      clear e0 HOK
      go_wp2_with fail
      go_meet
      exact ⟨rfl, rfl⟩
  case rest =>
    obtain ⟨rfl, rfl⟩ := hcut
    clear k0 k1 k2 k3 HOK HR HSM
    cases B
    · go_wp2_with fail
      refine bodyPost_ret (results_tmp4 rfl _ _ _) rfl ?_
      exact ⟨Fr.refl _ _, .inr ⟨HBB.out.symm, rfl⟩⟩
    · go_wp2_with fail
      refine wp_region_G [] [(0, false), (1, false), (2, false), (3, false), (4, false), (5, false), (6, false), (7, false), (8, false), (9, false), (10, false), (11, false), (12, false)] 107 rfl (by kernel_rfl) (by kernel_rfl) (by kernel_rfl) (fun c a d v w h => by cases d <;> exact h) (fun w3 hf3 => ?_)
      simp only [List.map_cons, List.map_nil, List.getElem?_toArray, List.getElem?_cons_succ, List.getElem?_cons_zero, Option.getD_some]
      have HKK := Lib.hid (fun w' (hw' : Fr [] w3 w') => hw'.cell (hf3.cell kk (by simp)) (by simp))
      repeat (apply wpG_t; · (intro w' hf'; have c1 := HKK.out w' hf'; go_wp2_with fail; exact ⟨rfl, rfl⟩))
      refine wpG_end ?_
      go_wp2_with fail
      refine bodyPost_ret (results_tmp4 rfl _ _ _) rfl ?_
      refine ⟨hf3, .inl ⟨HBB.out.symm, _, ?_, HLD.out.below hf3⟩⟩
      have hz : (1 + (d : Int) + (n : Int) + 4) = ((endF bs + 4 : Nat) : Int) := by rw [HE.out]; omega
      rw [← hz]
      rfl
end Go.Proofs.Ytijdffpekonklaa
