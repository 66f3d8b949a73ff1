/- WsetOf, WsetCats (layer 19): the laws, over any program that does what it must. -/
import Derived.Test.YtmcekpgmebanaaaWsD
set_option linter.unusedVariables false
set_option linter.unusedSimpArgs false
namespace Go.Proofs.Ytmcekpgmebanaaa
open Go.RowKit

theorem few_short {l : Words} (h : fewW l = true) : ShortW l := by
  obtain ⟨h1, h2⟩ := few_parts h
  exact ⟨by omega, fun x hx => by have := h2 x hx; omega⟩
theorem Fr.tr {a b c : World} (h : Fr [] a b) (k : Fr [] b c) : Fr [] a c := h.trans k (by simp) (by simp)
set_option maxRecDepth 100000 in
theorem wsof_bad (hC : ProgWCat) (l m : Words) (x : Value) (v u : Value) (w : World) (h : strsAt w v l) (g : strsAt w u m) (hb : fewW l = false ∨ fewW m = false) :
    Calls Try.prog 3 #[v, u, x] w fun e w' => e = .returned (.bool true) ∧ Fr [] w w' := by
  have HFL := Lib.hid (lfew_any l v w h)
  have HFM := Lib.hid (lfew_any m u w g)
  have HAW := Lib.hid (fun wx => wsawake_any hC wx)
  obtain ⟨fl, hfl⟩ : ∃ f, f = fewW l := ⟨_, rfl⟩
  obtain ⟨fm, hfm⟩ : ∃ f, f = fewW m := ⟨_, rfl⟩
  rw [← hfl] at HFL hb
  rw [← hfm] at HFM hb
  clear hC h g hfl hfm
  cases fl with
  | false =>
    clear hb
    go_enter Try.func3, Try.ntmps3
    go_wp2_with (first
      | (go_at_call 8; with_reducible refine (HFL.out).mono ?_; rintro e w1 ⟨rfl, rfl⟩)
      | (go_at_call 9; refine (HAW.out _).mono ?_; rintro e w1 ⟨rfl, hf1⟩))
    go_ret
    exact ⟨rfl, hf1⟩
  | true =>
    obtain rfl : fm = false := hb.resolve_left (by decide)
    clear hb
    go_enter Try.func3, Try.ntmps3
    go_wp2_with (first
      | (go_at_call 8; with_reducible refine (HFL.out).mono ?_; rintro e w1 ⟨rfl, rfl⟩)
      | (go_at_call 8; with_reducible refine (HFM.out).mono ?_; rintro e w1 ⟨rfl, rfl⟩)
      | (go_at_call 9; refine (HAW.out _).mono ?_; rintro e w1 ⟨rfl, hf1⟩))
    go_ret
    exact ⟨rfl, hf1⟩
set_option maxRecDepth 100000 in
set_option maxHeartbeats 4000000 in
theorem wsof_any (hO : ProgWOf) (hI : ProgWIs) (hH : ProgWHas) (hS : ProgWSame) (hC : ProgWCat) (l m : Words) (x : List UInt8) (v u : Value) (w : World) (h : strsAt w v l) (g : strsAt w u m) :
    Calls Try.prog 3 #[v, u, encStr x] w fun e w' => e = .returned (.bool true) ∧ Fr [] w w' := by
  by_cases hb : fewW l = false ∨ fewW m = false
  · exact wsof_bad hC l m (encStr x) v u w h g hb
  · have hfl : fewW l = true := by cases h1 : fewW l with
      | true => rfl
      | false => exact absurd (.inl h1) hb
    have hfm : fewW m = true := by cases h1 : fewW m with
      | true => rfl
      | false => exact absurd (.inr h1) hb
    have hsl := few_short hfl
    have hsm := few_short hfm
    have HFL := Lib.hid (lfew_any l v w h)
    have HFM := Lib.hid (lfew_any m u w g)
    rw [hfl] at HFL
    rw [hfm] at HFM
    have HAW := Lib.hid (fun wx => wsawake_any hC wx)
    have HO := Lib.hid (hO l v w h hsl)
    have HRO := Lib.hid (fun wx (hf : Fr [] w wx) => rof_any l v wx (h.below hf) (by have := hsl.1; omega) hsl.max)
    have HSA := Lib.hid (fun a b wx (h1 : strsAt wx a (ofW l)) (h2 : strsAt wx b (ofW l)) => rsm_val (ofW l) (ofW l) a b wx h1 h2 true (by simp))
    have HI := Lib.hid (fun wx (hf : Fr [] w wx) => hI l v wx (h.below hf) hsl)
    have HRI := Lib.hid (fun wx (hf : Fr [] w wx) => lis_any l v wx (h.below hf) hsl.max)
    have HH := Lib.hid (fun wx (hf : Fr [] w wx) => hH l x v wx (h.below hf))
    have HRH := Lib.hid (fun wx (hf : Fr [] w wx) => rhas_any l x v wx (h.below hf))
    have HS := Lib.hid (fun wx (hf : Fr [] w wx) => hS l m v u wx (h.below hf) (g.below hf))
    have HRS := Lib.hid (fun wx (hf : Fr [] w wx) => rsm_any l m v u wx (h.below hf) (g.below hf))
    obtain ⟨B1, hB1⟩ : ∃ B, B = isSetB l := ⟨_, rfl⟩
    obtain ⟨B2, hB2⟩ : ∃ B, B = decide (x ∈ l) := ⟨_, rfl⟩
    obtain ⟨B3, hB3⟩ : ∃ B, B = decide (l = m) := ⟨_, rfl⟩
    rw [← hB1] at HI HRI
    rw [← hB2] at HH HRH
    rw [← hB3] at HS HRS
    have e1 : (B1 == B1) = true := by simp
    have e2 : (B2 == B2) = true := by simp
    have e3 : (B3 == B3) = true := by simp
    clear hO hI hH hS hC h g hb hfl hfm hsl hsm hB1 hB2 hB3
    go_enter Try.func3, Try.ntmps3
    go_wp2_with (first
      | (go_at_call 8; with_reducible refine (HFL.out).mono ?_; rintro e w1 ⟨rfl, rfl⟩)
      | (go_at_call 8; with_reducible refine (HFM.out).mono ?_; rintro e w1 ⟨rfl, rfl⟩)
      | (go_at_call 11; refine (HO.out).mono ?_; rintro e w1 ⟨v1, rfl, hs1, hf1⟩; have HS1 := Lib.hid hs1; have HF1 := Lib.hid hf1; clear hs1 hf1)
      | (go_at_call 12; refine (HRO.out _ HF1.out).mono ?_; rintro e w2 ⟨v2, rfl, hs2, hf2⟩; have HS2 := Lib.hid hs2; have HS12 := Lib.hid (HS1.out.below hf2); have HF2 := Lib.hid (HF1.out.tr hf2); clear hs2 hf2)
      | (go_at_call 13; refine (HI.out _ HF3.out).mono ?_; rintro e w4 ⟨rfl, hf4⟩; have HF4 := Lib.hid (HF3.out.tr hf4); clear hf4)
      | (go_at_call 14; refine (HRI.out _ HF4.out).mono ?_; rintro e w5 ⟨rfl, hf5⟩; have HF5 := Lib.hid (HF4.out.tr hf5); clear hf5)
      | (go_at_call 15; refine (HH.out _ HF5.out).mono ?_; rintro e w6 ⟨rfl, hf6⟩; have HF6 := Lib.hid (HF5.out.tr hf6); clear hf6)
      | (go_at_call 16; refine (HRH.out _ HF6.out).mono ?_; rintro e w7 ⟨rfl, rfl⟩; have HF7 := HF6)
      | (go_at_call 17; refine (HS.out _ HF7.out).mono ?_; rintro e w8 ⟨rfl, hf8⟩; have HF8 := Lib.hid (HF7.out.tr hf8); clear hf8)
      | (go_at_call 10; refine (HRS.out _ HF8.out).mono ?_; rintro e w9 ⟨rfl, hf9⟩; have HF9 := Lib.hid (HF8.out.tr hf9); clear hf9)
      | (go_at_call 10; refine (HSA.out _ _ _ HS12.out HS2.out).mono ?_; rintro e w3 ⟨rfl, hf3⟩; have HF3 := Lib.hid (HF2.out.tr hf3); clear hf3)
      | (go_at_call 9; refine (HAW.out _).mono ?_; rintro e w10 ⟨rfl, hf10⟩))
    go_ret
    exact ⟨rfl, HF9.out.tr hf10⟩
set_option maxRecDepth 100000 in
set_option maxHeartbeats 4000000 in
theorem wscats_any (hC : ProgWCat) (k : Int) (hk1 : -9223372036854775808 ≤ k) (hk2 : k ≤ 9223372036854775807) (l m : Words) (v u : Value) (w : World) (h : strsAt w v l) (g : strsAt w u m) :
    Calls Try.prog 5 #[.int .i64 k, v, u] w fun e w' => e = .returned (.bool true) ∧ Fr [] w w' := by
  have HFL := Lib.hid (lfew_any l v w h)
  have HFM := Lib.hid (lfew_any m u w g)
  have HAW := Lib.hid (fun wx => wsawake_any hC wx)
  cases hfl : fewW l with
  | false =>
    rw [hfl] at HFL
    clear hC h g hfl hk1 hk2
    go_enter Try.func5, Try.ntmps5
    go_wp2_with (first
      | (go_at_call 8; with_reducible refine (HFL.out).mono ?_; rintro e w1 ⟨rfl, rfl⟩)
      | (go_at_call 9; refine (HAW.out _).mono ?_; rintro e w1 ⟨rfl, hf1⟩))
    go_ret
    exact ⟨rfl, hf1⟩
  | true =>
    rw [hfl] at HFL
    cases hfm : fewW m with
    | false =>
      rw [hfm] at HFM
      clear hC h g hfl hfm hk1 hk2
      go_enter Try.func5, Try.ntmps5
      go_wp2_with (first
        | (go_at_call 8; with_reducible refine (HFL.out).mono ?_; rintro e w1 ⟨rfl, rfl⟩)
        | (go_at_call 8; with_reducible refine (HFM.out).mono ?_; rintro e w1 ⟨rfl, rfl⟩)
        | (go_at_call 9; refine (HAW.out _).mono ?_; rintro e w1 ⟨rfl, hf1⟩))
      go_ret
      exact ⟨rfl, hf1⟩
    | true =>
      rw [hfm] at HFM
      obtain ⟨l60, l20⟩ := few_parts hfl
      obtain ⟨m60, m20⟩ := few_parts hfm
      have a60 : (ofW l).length ≤ 60 := Nat.le_trans (ofW_len l) l60
      have b60 : (ofW m).length ≤ 60 := Nat.le_trans (ofW_len m) m60
      have a20 : ∀ x ∈ ofW l, x.length ≤ 20 := fun x hx => l20 x (mem_ofW.1 hx)
      have b20 : ∀ x ∈ ofW m, x.length ≤ 20 := fun x hx => m20 x (mem_ofW.1 hx)
      have hmul : (ofW l).length * (ofW m).length ≤ 60 * 60 := Nat.mul_le_mul a60 b60
      have HO1 := Lib.hid (rof_any l v w h (by omega) (fun x hx => by have := l20 x hx; simp only [maxLen]; omega))
      have HO2 := Lib.hid (fun wx (hf : Fr [] w wx) => rof_any m u wx (g.below hf) (by omega) (fun x hx => by have := m20 x hx; simp only [maxLen]; omega))
      have HCA := Lib.hid (fun p q wx (h1 : strsAt wx p (ofW l)) (h2 : strsAt wx q (ofW m)) => (hC k (ofW l) (ofW m) p q wx hk1 hk2 h1 h2 (set_ofW l) (set_ofW m) ⟨by omega, fun x hx => by have := a20 x hx; omega⟩ ⟨by omega, fun x hx => by have := b20 x hx; omega⟩).mono (fun e w' hh => hh.yes (by have := catW_len k (ofW l) (ofW m); omega)))
      have HRC := Lib.hid (fun p q wx (h1 : strsAt wx p (ofW l)) (h2 : strsAt wx q (ofW m)) => rcat_any k (ofW l) (ofW m) p q wx h1 h2 (by omega) (fun x hx => by have := a20 x hx; omega) (fun x hx => by have := b20 x hx; omega))
      have HSA := Lib.hid (fun p q wx (h1 : strsAt wx p (catW k (ofW l) (ofW m))) (h2 : strsAt wx q (catW k (ofW l) (ofW m))) => rsm_val _ _ p q wx h1 h2 true (by simp))
      clear hC h g hfl hfm l60 l20 m60 m20 a60 b60 a20 b20 hmul hk1 hk2
      go_enter Try.func5, Try.ntmps5
      go_wp2_with (first
        | (go_at_call 8; with_reducible refine (HFL.out).mono ?_; rintro e w1 ⟨rfl, rfl⟩)
        | (go_at_call 8; with_reducible refine (HFM.out).mono ?_; rintro e w1 ⟨rfl, rfl⟩)
        | (go_at_call 12; refine (HO2.out _ HF1.out).mono ?_; rintro e w2 ⟨v2, rfl, hs2, hf2⟩; have HS2 := Lib.hid hs2; have HS12 := Lib.hid (HS1.out.below hf2); have HF2 := Lib.hid (HF1.out.tr hf2); clear hs2 hf2)
        | (go_at_call 12; refine (HO1.out).mono ?_; rintro e w1 ⟨v1, rfl, hs1, hf1⟩; have HS1 := Lib.hid hs1; have HF1 := Lib.hid hf1; clear hs1 hf1)
        | (go_at_call 20; refine (HCA.out _ _ _ HS12.out HS2.out).mono ?_; rintro e w3 ⟨v3, rfl, hs3, hf3⟩; have HS3 := Lib.hid hs3; have HA3 := Lib.hid (HS12.out.below hf3); have HB3 := Lib.hid (HS2.out.below hf3); have HF3 := Lib.hid (HF2.out.tr hf3); clear hs3 hf3)
        | (go_at_call 21; refine (HRC.out _ _ _ HA3.out HB3.out).mono ?_; rintro e w4 ⟨v4, rfl, hs4, hf4⟩; have HS4 := Lib.hid hs4; have HS34 := Lib.hid (HS3.out.below hf4); have HF4 := Lib.hid (HF3.out.tr hf4); clear hs4 hf4)
        | (go_at_call 10; refine (HSA.out _ _ _ HS34.out HS4.out).mono ?_; rintro e w5 ⟨rfl, hf5⟩; have HF5 := Lib.hid (HF4.out.tr hf5); clear hf5)
        | (go_at_call 9; refine (HAW.out _).mono ?_; rintro e w10 ⟨rfl, hf10⟩))
      go_ret
      exact ⟨rfl, HF5.out.tr hf10⟩
end Go.Proofs.Ytmcekpgmebanaaa
