/- WsetLimit (layer 19): the law, over any program that does what it must. Written by wip/tools/gen_wsh.py. -/
import Derived.Test.YtmcekpgmebanaaaWsG
set_option linter.unusedVariables false
set_option linter.unusedSimpArgs false
namespace Go.Proofs.Ytmcekpgmebanaaa
open Go.RowKit

def LimR (w0 : World) (n : Nat) (v iv : Value) (wx : World) : Prop := ∃ k : Nat, k ≤ n ∧ iv = .int .i64 (k : Int) ∧ RowS w0 wx v (oneW k)
set_option maxRecDepth 100000 in
theorem wslim_bad (hC : ProgWCat) (n m : Int) (hb : n < 0 ∨ 256 < n ∨ m < 0 ∨ 256 < m) (w : World) :
    Calls Try.prog 6 #[.int .i64 n, .int .i64 m] w fun e w' => e = .returned (.bool true) ∧ Fr [] w w' := by
  have HAW := Lib.hid (fun wx => wsawake_any hC wx)
  clear hC
  by_cases h1 : n < 0
  · have d1 : decide (n < 0) = true := decide_eq_true h1
    clear hb h1
    go_enter Try.func6, Try.ntmps6
    go_wp2_with (go_at_call 9; refine (HAW.out _).mono ?_; rintro e w1 ⟨rfl, hf1⟩)
    go_ret
    exact ⟨rfl, hf1⟩
  · have d1 : decide (n < 0) = false := decide_eq_false h1
    by_cases h2 : 256 < n
    · have d2 : decide (256 < n) = true := decide_eq_true h2
      clear hb h1 h2
      go_enter Try.func6, Try.ntmps6
      go_wp2_with (go_at_call 9; refine (HAW.out _).mono ?_; rintro e w1 ⟨rfl, hf1⟩)
      go_ret
      exact ⟨rfl, hf1⟩
    · have d2 : decide (256 < n) = false := decide_eq_false h2
      by_cases h3 : m < 0
      · have d3 : decide (m < 0) = true := decide_eq_true h3
        clear hb h1 h2 h3
        go_enter Try.func6, Try.ntmps6
        go_wp2_with (go_at_call 9; refine (HAW.out _).mono ?_; rintro e w1 ⟨rfl, hf1⟩)
        go_ret
        exact ⟨rfl, hf1⟩
      · have d3 : decide (m < 0) = false := decide_eq_false h3
        have d4 : decide (256 < m) = true := decide_eq_true (by omega)
        clear hb h1 h2 h3
        go_enter Try.func6, Try.ntmps6
        go_wp2_with (go_at_call 9; refine (HAW.out _).mono ?_; rintro e w1 ⟨rfl, hf1⟩)
        go_ret
        exact ⟨rfl, hf1⟩
set_option maxRecDepth 100000 in
set_option maxHeartbeats 8000000 in
theorem wslim_good (hI : ProgWIs) (hC : ProgWCat) (N M : Nat) (hN : N ≤ 256) (hM : M ≤ 256) (w : World) :
    Calls Try.prog 6 #[.int .i64 (N : Int), .int .i64 (M : Int)] w fun e w' => e = .returned (.bool true) ∧ Fr [] w w' := by
  obtain ⟨iS, hiS, hS0, hS1, hS2⟩ := info_parts infoStrS
  have HAW := Lib.hid (fun wx => wsawake_any hC wx)
  have hNl := oneW_len N
  have hMl := oneW_len M
  have HCA := Lib.hid (fun a b wx (h1 : strsAt wx a (oneW N)) (h2 : strsAt wx b (oneW M)) => hC 2 (oneW N) (oneW M) a b wx (by decide) (by decide) h1 h2 (set_oneW hN) (set_oneW hM) (short_oneW hN) (short_oneW hM))
  have h1l : (catW 1 (oneW N) (oneW M)).length ≤ 4096 := by
    by_cases h0 : M = 0
    · subst h0; rw [cat1_none]; simp
    · rw [cat1_some hN (by omega), hNl]; omega
  have HCB := Lib.hid (fun a b wx (h1 : strsAt wx a (oneW N)) (h2 : strsAt wx b (oneW M)) => (hC 1 (oneW N) (oneW M) a b wx (by decide) (by decide) h1 h2 (set_oneW hN) (set_oneW hM) (short_oneW hN) (short_oneW hM)).mono (fun e w' h => h.yes h1l))
  obtain ⟨P, hP⟩ : ∃ P, P = N * M := ⟨_, rfl⟩
  have hPI : (N : Int) * (M : Int) = (P : Int) := by rw [hP]; rfl
  have hP2 : P ≤ 65536 := by rw [hP]; exact Nat.mul_le_mul hN hM
  have hlen := cat2_len hN hM
  rw [← hP] at hlen
  have hsetL := set_catW 2 (oneW N) (oneW M)
  have hshL : ∀ x ∈ catW 2 (oneW N) (oneW M), x.length ≤ 1000 := by
    intro x hx
    obtain ⟨y, hy, z, hz, rfl⟩ := mem_catW.1 hx
    obtain ⟨p, _, rfl⟩ := List.mem_map.1 hy
    obtain ⟨q, _, rfl⟩ := List.mem_map.1 hz
    exact Nat.le_trans (cutW_len _ _) (by simp)
  obtain ⟨L, hL⟩ : ∃ L, L = catW 2 (oneW N) (oneW M) := ⟨_, rfl⟩
  rw [← hL] at HCA hlen hsetL hshL
  have hIS : isSetB L = true := (isSetB_iff _).2 hsetL
  have HIS := Lib.hid (fun a wx (h1 : strsAt wx a L) => hI L a wx h1 ⟨by omega, hshL⟩)
  rw [hIS] at HIS
  have HONE := Lib.hid (show 0 < M → catW 1 (oneW N) (oneW M) = oneW N from fun h => cat1_some hN h)
  have HNON := Lib.hid (show M = 0 → catW 1 (oneW N) (oneW M) = [] from fun h => by subst h; exact cat1_none)
  obtain ⟨O, hO⟩ : ∃ O, O = catW 1 (oneW N) (oneW M) := ⟨_, rfl⟩
  rw [← hO] at HCB HONE HNON
  have HSM := Lib.hid (fun a b wx (h1 : strsAt wx a (oneW N)) (h2 : strsAt wx b (oneW N)) => rsm_val (oneW N) (oneW N) a b wx h1 h2 true (by simp))
  have HLEN := Lib.hid hlen
  have HPN := Lib.hid hP
  have d1 : decide ((N : Int) < 0) = false := decide_eq_false (by omega)
  have d2 : decide (256 < (N : Int)) = false := decide_eq_false (by omega)
  have d3 : decide ((M : Int) < 0) = false := decide_eq_false (by omega)
  have d4 : decide (256 < (M : Int)) = false := decide_eq_false (by omega)
  have HPI := Lib.hid hPI
  clear hI hC h1l hP hPI hlen hsetL hshL hL hIS hO hNl hMl
  go_enter Try.func6, Try.ntmps6
  go_wp2_with fail
  clear d1 d2 d3 d4
  go_loopw [5, 7] (LimR w N) (fun _ iv _ => N - (intOf iv).toNat)
  case atStart => exact ⟨0, Nat.zero_le _, rfl, World.ownsRow_nil _ _ _ _, Fr.refl _ _⟩
  case round =>
    obtain ⟨k, hk, rfl, hrow⟩ := hrel
    by_cases hkn : k < N
    · have hd : decide (k < N) = true := decide_eq_true hkn
      have hk8 : k < 256 := by omega
      have hcl : (#[.int .u8 (k : Int)] : Array Value) = (cellsB [UInt8.ofNat k]).toArray := by
        have e1 : ((UInt8.ofNat k).toNat : Int) = (k : Int) := by rw [UInt8.toNat_ofNat_of_lt' (by show k < 256; omega)]
        show _ = (#[Value.int .u8 ((UInt8.ofNat k).toNat : Int)] : Array Value)
        rw [e1]
      have hby := bytesAt_new wr [UInt8.ofNat k] 5 1 rfl (by simp [maxLen]) _ hcl
      have hcv := run_conv_bytes (P := Try.prog) hby 37 5 9 Try.underlying37 Try.underlying5 Try.underlying9
      obtain ⟨C, hC⟩ : ∃ C, C = [UInt8.ofNat k].toArray := ⟨_, rfl⟩
      rw [← hC] at hcv
      have HC := Lib.hid (show Value.string { data := C } = encStr [UInt8.ofNat k] by rw [hC])
      have HRA := Lib.hid (hrow.fr (Fr.alloc wr (.cells #[.int .u8 (k : Int)] 5)))
      have hll := oneW_len k
      obtain ⟨a5, c5, rfl, hc5, hm5⟩ := hrow.form
      have HOT := Lib.hid (oneW_next k)
      clear hcl hby hC hrow
      go_wp2_with (at_builtin; refine wpL_append1 rfl _ _ 22 rfl w.heap.size 9 iS (.string ⟨#[]⟩) 16 Try.underlying22 hiS hS0 hS1 hS2 rfl _ (oneW k).length ((oneW k).map encStr) rfl HRA.out.1 (.string { data := C }) rfl (by rw [World.size_alloc]; rfl) (by omega) (by simp only [maxLen]; omega) HRA.out.2.size ?_; intro v9 w9 hown9 hf9 _; rw [HC.out] at hown9; have HR9 := Lib.hid (HRA.out.push hown9 hf9); clear hown9 hf9)
      rw [← HOT.out] at HR9
      go_roundw
      case rel => exact ⟨k + 1, by omega, by go_num, HR9.out⟩
      case measure => simp [intOf]; omega
    · have hd : decide (k < N) = false := decide_eq_false hkn
      obtain rfl : N = k := by omega
      obtain ⟨a1, c1, rfl, hc1, hm1⟩ := hrow.form
      have HA0 := Lib.hid hrow.strs
      have HF0 := Lib.hid hrow.2
      obtain ⟨w2, hw2⟩ : ∃ w2, w2 = wr := ⟨_, rfl⟩
      rw [← hw2] at HA0 HF0 ⊢
      rw [oneW_len] at hc1 HA0 ⊢
      clear hrow hw2
      go_wp2_with fail
      go_loopw [6, 8] (LimR w2 M) (fun _ iv _ => M - (intOf iv).toNat)
      case atStart => exact ⟨0, Nat.zero_le _, rfl, World.ownsRow_nil _ _ _ _, Fr.refl _ _⟩
      case round =>
        obtain ⟨q, hq, rfl, hrow⟩ := hrel
        by_cases hkm : q < M
        · have hd2 : decide (q < M) = true := decide_eq_true hkm
          have hk8 : q < 256 := by omega
          have hcl : (#[.int .u8 (q : Int)] : Array Value) = (cellsB [UInt8.ofNat q]).toArray := by
            have e1 : ((UInt8.ofNat q).toNat : Int) = (q : Int) := by rw [UInt8.toNat_ofNat_of_lt' (by show q < 256; omega)]
            show _ = (#[Value.int .u8 ((UInt8.ofNat q).toNat : Int)] : Array Value)
            rw [e1]
          have hby := bytesAt_new wr [UInt8.ofNat q] 5 1 rfl (by simp [maxLen]) _ hcl
          have hcv := run_conv_bytes (P := Try.prog) hby 37 5 9 Try.underlying37 Try.underlying5 Try.underlying9
          obtain ⟨C, hC⟩ : ∃ C, C = [UInt8.ofNat q].toArray := ⟨_, rfl⟩
          rw [← hC] at hcv
          have HC := Lib.hid (show Value.string { data := C } = encStr [UInt8.ofNat q] by rw [hC])
          have HRA := Lib.hid (hrow.fr (Fr.alloc wr (.cells #[.int .u8 (q : Int)] 5)))
          have hll := oneW_len q
          obtain ⟨a5, c5, rfl, hc5, hm5⟩ := hrow.form
          have HOT := Lib.hid (oneW_next q)
          clear hcl hby hC hrow
          go_wp2_with (at_builtin; refine wpL_append1 rfl _ _ 22 rfl w2.heap.size 9 iS (.string ⟨#[]⟩) 16 Try.underlying22 hiS hS0 hS1 hS2 rfl _ (oneW q).length ((oneW q).map encStr) rfl HRA.out.1 (.string { data := C }) rfl (by rw [World.size_alloc]; rfl) (by omega) (by simp only [maxLen]; omega) HRA.out.2.size ?_; intro v9 w9 hown9 hf9 _; rw [HC.out] at hown9; have HR9 := Lib.hid (HRA.out.push hown9 hf9); clear hown9 hf9)
          rw [← HOT.out] at HR9
          go_roundw
          case rel => exact ⟨q + 1, by omega, by go_num, HR9.out⟩
          case measure => simp [intOf]; omega
        · have hd2 : decide (q < M) = false := decide_eq_false hkm
          obtain rfl : M = q := by omega
          obtain ⟨a2, c2, rfl, hc2, hm2⟩ := hrow.form
          have HB := Lib.hid hrow.strs
          have HA := Lib.hid (HA0.out.below hrow.2)
          have HF3 := Lib.hid (HF0.out.tr hrow.2)
          rw [oneW_len] at hc2 HB ⊢
          clear hrow
          by_cases hov : 4096 < P
          · have hM0 : 0 < M := by
              rcases Nat.eq_zero_or_pos M with h0 | h0
              · have := HPN.out; rw [h0, Nat.mul_zero] at this; omega
              · exact h0
            obtain rfl := HONE.out hM0
            have HC2 := Lib.hid (fun a b wx h1 h2 => (HCA.out a b wx h1 h2).mono (R' := fun e w' => ∃ v, e = .returned (.tuple #[v, .bool false]) ∧ strsAt w' v [] ∧ Fr [] wx w') (fun e w' ⟨v, he, hs, hf⟩ => by
              rw [decide_eq_false (by rw [HLEN.out]; omega)] at he
              rw [if_neg (by rw [HLEN.out]; omega)] at hs
              exact ⟨v, he, hs, hf⟩))
            have hPI := HPI.out
            have d6 : decide (4096 < (P : Int)) = true := decide_eq_true (by omega)
            have d6' : decide (4096 < P) = true := decide_eq_true hov
            have d7 : decide (0 < M) = true := decide_eq_true hM0
            have d7' : decide (0 < (M : Int)) = true := decide_eq_true (by omega)
            have d8 : (M == 0) = false := by rw [beq_eq_false_iff_ne]; omega
            have d8' : ((M : Int) == 0) = false := by rw [beq_eq_false_iff_ne]; omega
            clear hov hM0 HCA HONE HNON HIS HPN HPI
            go_wp2_with (first
              | (go_at_call 20; have := w4; refine (HCB.out _ _ _ HA4.out HB4.out).mono ?_; rintro e w5 ⟨v5, rfl, hs5, hf5⟩; have HS5 := Lib.hid hs5; have HA5 := Lib.hid (HA4.out.below hf5); have HF5 := Lib.hid (HF4.out.tr hf5); obtain ⟨a5, c5, rfl, hc5, hm5⟩ := hs5.form; clear hs5 hf5)
              | (go_at_call 20; refine (HC2.out _ _ _ HA.out HB.out).mono ?_; rintro e w4 ⟨v4, rfl, hs4, hf4⟩; have HA4 := Lib.hid (HA.out.below hf4); have HB4 := Lib.hid (HB.out.below hf4); have HF4 := Lib.hid (HF3.out.tr hf4); obtain ⟨a4, c4, e4, hc4, hm4⟩ := hs4.form; have e4' : v4 = .slice a4 0 c4 := e4; clear e4 hs4 hf4; subst e4')
              | (go_at_call 10; refine (HSM.out _ _ _ HS5.out HA5.out).mono ?_; rintro e w6 ⟨rfl, hf6⟩; have HF6 := Lib.hid (HF5.out.tr hf6); clear hf6)
              | (go_at_call 9; refine (HAW.out _).mono ?_; rintro e w8 ⟨rfl, hf8⟩))
            go_ret
            exact ⟨rfl, HF6.out.tr hf8⟩
          · have HC2 := Lib.hid (fun a b wx h1 h2 => (HCA.out a b wx h1 h2).mono (fun e w' h => h.yes (by rw [HLEN.out]; omega)))
            have hPI := HPI.out
            have d6 : decide (4096 < (P : Int)) = false := decide_eq_false (by omega)
            have d6' : decide (4096 < P) = false := decide_eq_false hov
            have d9 : (P == P) = true := by simp
            by_cases hM0 : 0 < M
            · obtain rfl := HONE.out hM0
              have d7 : decide (0 < M) = true := decide_eq_true hM0
              have d7' : decide (0 < (M : Int)) = true := decide_eq_true (by omega)
              have d8 : (M == 0) = false := by rw [beq_eq_false_iff_ne]; omega
              have d8' : ((M : Int) == 0) = false := by rw [beq_eq_false_iff_ne]; omega
              clear hov hM0 HCA HONE HNON HPN HPI
              go_wp2_with (first
                | (go_at_call 20; have := w4; refine (HCB.out _ _ _ HA4.out HB4.out).mono ?_; rintro e w5 ⟨v5, rfl, hs5, hf5⟩; have HS5 := Lib.hid hs5; have HA5 := Lib.hid (HA4.out.below hf5); have HS45 := Lib.hid (HS4.out.below hf5); have HF5 := Lib.hid (HF4.out.tr hf5); obtain ⟨a5, c5, rfl, hc5, hm5⟩ := hs5.form; clear hs5 hf5)
                | (go_at_call 20; refine (HC2.out _ _ _ HA.out HB.out).mono ?_; rintro e w4 ⟨v4, rfl, hs4, hf4⟩; have HA4 := Lib.hid (HA.out.below hf4); have HB4 := Lib.hid (HB.out.below hf4); have HF4 := Lib.hid (HF3.out.tr hf4); obtain ⟨a4, c4, e4, hc4, hm4⟩ := hs4.form; rw [HLEN.out] at e4 hc4; subst e4; have HS4 := Lib.hid hs4; clear hs4 hf4)
                | (go_at_call 10; refine (HSM.out _ _ _ HS5.out HA5.out).mono ?_; rintro e w6 ⟨rfl, hf6⟩; have HS46 := Lib.hid (HS45.out.below hf6); have HF6 := Lib.hid (HF5.out.tr hf6); clear hf6)
                | (go_at_call 13; refine (HIS.out _ _ HS46.out).mono ?_; rintro e w7 ⟨rfl, hf7⟩; have HF7 := Lib.hid (HF6.out.tr hf7); clear hf7)
                | (go_at_call 9; refine (HAW.out _).mono ?_; rintro e w8 ⟨rfl, hf8⟩))
              go_ret
              exact ⟨rfl, HF7.out.tr hf8⟩
            · obtain rfl := HNON.out (by omega)
              have d7 : decide (0 < M) = false := decide_eq_false hM0
              have d7' : decide (0 < (M : Int)) = false := decide_eq_false (by omega)
              have d8 : (M == 0) = true := by rw [beq_iff_eq]; omega
              have d8' : ((M : Int) == 0) = true := by rw [beq_iff_eq]; omega
              clear hov hM0 HCA HONE HNON HPN HPI
              go_wp2_with (first
                | (go_at_call 20; have := w4; refine (HCB.out _ _ _ HA4.out HB4.out).mono ?_; rintro e w5 ⟨v5, rfl, hs5, hf5⟩; have HS45 := Lib.hid (HS4.out.below hf5); have HF5 := Lib.hid (HF4.out.tr hf5); obtain ⟨a5, c5, e5, hc5, hm5⟩ := hs5.form; have e5' : v5 = .slice a5 0 c5 := e5; clear e5 hs5 hf5; subst e5')
                | (go_at_call 20; refine (HC2.out _ _ _ HA.out HB.out).mono ?_; rintro e w4 ⟨v4, rfl, hs4, hf4⟩; have HA4 := Lib.hid (HA.out.below hf4); have HB4 := Lib.hid (HB.out.below hf4); have HF4 := Lib.hid (HF3.out.tr hf4); obtain ⟨a4, c4, e4, hc4, hm4⟩ := hs4.form; rw [HLEN.out] at e4 hc4; subst e4; have HS4 := Lib.hid hs4; clear hs4 hf4)
                | (go_at_call 13; refine (HIS.out _ _ HS45.out).mono ?_; rintro e w7 ⟨rfl, hf7⟩; have HF7 := Lib.hid (HF5.out.tr hf7); clear hf7)
                | (go_at_call 9; refine (HAW.out _).mono ?_; rintro e w8 ⟨rfl, hf8⟩))
              go_ret
              exact ⟨rfl, HF7.out.tr hf8⟩
theorem wslim_any (hI : ProgWIs) (hC : ProgWCat) (n m : Int) (w : World) :
    Calls Try.prog 6 #[.int .i64 n, .int .i64 m] w fun e w' => e = .returned (.bool true) ∧ Fr [] w w' := by
  by_cases hb : n < 0 ∨ 256 < n ∨ m < 0 ∨ 256 < m
  · exact wslim_bad hC n m hb w
  · obtain ⟨N, rfl⟩ := Int.eq_ofNat_of_zero_le (show 0 ≤ n by omega)
    obtain ⟨M, rfl⟩ := Int.eq_ofNat_of_zero_le (show 0 ≤ m by omega)
    exact wslim_good hI hC N M (by omega) (by omega) w
end Go.Proofs.Ytmcekpgmebanaaa
