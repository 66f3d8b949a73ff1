/- InodeKeeps: a crash loses no durable byte, and every byte that it leaves is as it was, or 0. -/
import Derived.Test.YtgdpecpbcoohkaaInoF
import Derived.Deep.DeepCutAuto
namespace Go.Proofs.Ytgdpecpbcoohkaa
open Go.RowKit

theorem infoI : (Try.prog.info? 3).map (fun i => (i.zero, i.size, i.bytes)) = some (some (.int .i64 0), 1, 8) := by kernel_rfl
theorem owns_sl {w : World} {base : Nat} {e : TypeId} {size : Nat} {v : Value} {n : Nat} {xs : List Value} (h : w.ownsRow base e size v n xs) : ∃ a cap, v = .slice a n cap := by
  rcases h.2 with ⟨rfl, h0⟩ | ⟨g, cap, cur, rfl, _⟩
  · exact ⟨_, _, by rw [h0]⟩
  · exact ⟨_, _, rfl⟩
theorem crash_keeps2 (C now : List UInt8) (s : Nat) (size : Int) (cuts : List Int) (h : s ≤ now.length) (hC : C = crashC now s size cuts) (i : Nat) (hi : i < C.length) (hn : i < now.length) : C[i]'hi = now[i]'hn ∨ (s ≤ i ∧ C[i]'hi = 0) := by
  subst hC
  exact crash_keeps now s size cuts h i hi hn
/-- Two files, apart from each other, and the blocks of both. -/
def TwoF (w wx : World) (p g q k : Nat) (x : List UInt8) (sx : Nat) (y : List UInt8) (sy : Nat) : Prop :=
  isF wx p g x sx ∧ isF wx q k y sy ∧ p ≠ q ∧ p ≠ k ∧ g ≠ q ∧ g ≠ k ∧ w.heap.size ≤ p ∧ w.heap.size ≤ g ∧ w.heap.size ≤ q ∧ w.heap.size ≤ k ∧ Fr [] w wx
def GotRel (n : Nat) (w : World) (v15 : Value) (wr : World) : Prop := ∃ t : Nat, t ≤ n ∧ v15 = .int .i64 (t : Int) ∧ Fr [] w wr
def WholeRel (ns : Nat) (w : World) (v12 v13 : Value) (wr : World) : Prop :=
  ∃ j : Nat, j ≤ ns ∧ wr.ownsRow w.heap.size 3 1 v12 j ((List.replicate j (16 : Int)).map (Value.int .i64)) ∧ v13 = .int .i64 (j : Int) ∧ Fr [] w wr
set_option maxHeartbeats 4000000 in
set_option maxRecDepth 100000 in
theorem keeps_any (b more : List UInt8) (size : Int) (cuts : List Int) (bv mv cv : Value) (w : World) (hb : bytesAt w bv b) (hm : bytesAt w mv more) (hc : cellsAt w cv (cuts.map (Value.int .i64))) :
    Calls Try.prog 4 #[bv, mv, .int .i64 size, cv] w fun e w' => e = .returned (.bool true) ∧ Fr [] w w' := by
  obtain ⟨i, hi, hz0, hz1, hz2⟩ := info_parts infoB
  obtain ⟨iI, hiI, hI0, hI1, hI2⟩ := info_parts infoI
  have HAW := Lib.hid (fun wx => awake_any wx)
  obtain ⟨a0, c0, rfl, hle0, hmx0⟩ := hb.form
  obtain ⟨a1, c1, rfl, hle1, hmx1⟩ := hm.form
  obtain ⟨a2, c2, rfl, hle2, hmx2⟩ := hc.form
  rw [List.length_map] at hc hle2 ⊢
  by_cases h1 : 300 < b.length
  · have hd1 : decide (300 < (b.length : Int)) = true := decide_eq_true (by omega)
    clear hb hm hc h1
    go_enter Try.func4, Try.ntmps4
    go_wp2_with (go_at_call 7; refine (HAW.out _).mono ?_; rintro e w' ⟨rfl, hf⟩)
    go_ret
    exact ⟨rfl, hf⟩
  have hd1 : decide (300 < (b.length : Int)) = false := decide_eq_false (by omega)
  by_cases h2 : 300 < more.length
  · have hd2 : decide (300 < (more.length : Int)) = true := decide_eq_true (by omega)
    clear hb hm hc h1 h2
    go_enter Try.func4, Try.ntmps4
    go_wp2_with (go_at_call 7; refine (HAW.out _).mono ?_; rintro e w' ⟨rfl, hf⟩)
    go_ret
    exact ⟨rfl, hf⟩
  have hd2 : decide (300 < (more.length : Int)) = false := decide_eq_false (by omega)
  by_cases h3 : 40 < cuts.length
  · have hd3 : decide (40 < (cuts.length : Int)) = true := decide_eq_true (by omega)
    clear hb hm hc h1 h2 h3
    go_enter Try.func4, Try.ntmps4
    go_wp2_with (go_at_call 7; refine (HAW.out _).mono ?_; rintro e w' ⟨rfl, hf⟩)
    go_ret
    exact ⟨rfl, hf⟩
  have hd3 : decide (40 < (cuts.length : Int)) = false := decide_eq_false (by omega)
  have hbl : b.length ≤ 300 := by omega
  have hml : more.length ≤ 300 := by omega
  have hcl : cuts.length ≤ 40 := by omega
  have HB := Lib.hid hb
  have HM := Lib.hid hm
  have HC := Lib.hid hc
  have HBL := Lib.hid hb.lt
  have HML := Lib.hid hm.lt
  have HCL := Lib.hid hc.lt
  clear hb hm hc h1 h2 h3
  go_enter Try.func4, Try.ntmps4
  go_upto_region 4 with (go_at_call 8; refine (inew_any b _ _ HB.out (by omega)).mono ?_; rintro e w1 ⟨p, g, rfl, hF1, hf1, hp1, hg1⟩)
  have HNB := Lib.hid (inew_any b _ _ (HB.out.below hf1) (by omega))
  have hlt1 := hF1.lt
  go_upto_region 5 with (go_at_call 8; refine HNB.out.mono ?_; rintro e w2 ⟨q, k, rfl, hF2, hf2, hp2, hg2⟩)
  have hlt2 := hF2.lt
  have h2F : TwoF w w2 p g q k b b.length b b.length := ⟨hF1.below hf2, hF2, by omega, by omega, by omega, by omega, hp1, hg1, by have := hf1.size; omega, by have := hf1.size; omega, hf1.trans hf2 (by simp) (by simp)⟩
  clear hF1 hF2 hf1 hf2 hp1 hg1 hp2 hg2 HNB
  have HN := Lib.hid (hnil_new w2)
  have hb2 := (HB.out.below h2F.2.2.2.2.2.2.2.2.2.2).below (Fr.alloc w2 (.cells (#[] : Array Value) 5))
  have HB2 := Lib.hid hb2
  have h2s : w.heap.size ≤ w2.heap.size := h2F.2.2.2.2.2.2.2.2.2.2.size
  have H2F := Lib.hid h2F
  clear hb2 h2F
  go_upto_region 6 with (first
    | (at_builtin; refine wpL_append rfl (.tmp 34) (.tmp 35) 22 rfl w2.heap.size 5 i (.int .u8 0) Try.underlying22 hi hz0 hz1 hz2 rfl _ [] rfl HN.out _ b rfl HB2.out (by simp; omega) (by simp) ?_; intro v3 w3 hown3 hf3 hb3; clear hb3; have hf23 : Fr [] w2 w3 := (Fr.alloc w2 _).trans (m := [w2.heap.size]) hf3 (by simp) (by simp); have hm3 := (HM.out.below H2F.out.2.2.2.2.2.2.2.2.2.2).below hf23; have hs23 := hf23.size)
    | (at_builtin; refine wpL_append rfl (.tmp 36) (.tmp 37) 22 rfl w2.heap.size 5 i (.int .u8 0) Try.underlying22 hi hz0 hz1 hz2 rfl v3 b rfl hown3 _ more rfl hm3 (by omega) hs23 ?_; intro v4 w4 hown4 hf4 hb4; clear hb4; obtain ⟨x4, y4, hv4, hxy4, hym4⟩ := (bytesAt_of_owns hown4).form; subst hv4))
  have hf24 : Fr [] w2 w4 := hf23.trans hf4 (by simp) (fun j hj hlt => by have := (hown3.lt j (by simpa [Option.mem_toList] using hj)).1; omega)
  have hb4 : bytesAt w4 (.slice x4 (b.length + more.length) y4) (b ++ more) := by have := bytesAt_of_owns hown4; rwa [List.length_append] at this
  have hk4 : ∀ j, (Value.slice x4 (b.length + more.length) y4).ownBlock = some j → w2.heap.size ≤ j ∧ j < w4.heap.size := by
    intro j hj
    refine hown4.lt j ?_
    rw [List.length_append]; exact hj
  obtain ⟨hF2, hG2, e1, e2, e3, e4, e5, e6, e7, e8, hfw2⟩ := H2F.out
  have hlt2' := hF2.lt
  have hlt2'' := hG2.lt
  have hx5 := iappend_yes p g b.length b more (.slice a1 more.length c1) w4 (hF2.below hf24) ((HM.out.below hfw2).below hf24) (by omega) (fun hne j hj => by have := HML.out hne j hj; omega)
  have HX5 := Lib.hid hx5
  have hy5 := fun wx (hx : isF wx q k b b.length) (hmx : bytesAt wx (.slice a1 more.length c1) more) => iappend_yes q k b.length b more (.slice a1 more.length c1) wx hx hmx (by omega) (fun hne j hj => by have := HML.out hne j hj; omega)
  have HY5 := Lib.hid hy5
  have hG4 := hG2.below hf24
  have hm4 := (HM.out.below hfw2).below hf24
  have hs24 := hf24.size
  have HG4 := Lib.hid hG4
  have HM4 := Lib.hid hm4
  have HB4 := Lib.hid hb4
  have HF24 := Lib.hid hf24
  have HFW2 := Lib.hid hfw2
  have HK4 := Lib.hid hk4
  obtain ⟨N, hN⟩ : ∃ N, N = b ++ more := ⟨_, rfl⟩
  obtain ⟨n, hn⟩ : ∃ n, n = b.length + more.length := ⟨_, rfl⟩
  have hNn : N.length = n := by rw [hN, hn, List.length_append]
  rw [← hN] at HB4
  rw [← hn] at HB4 HK4 ⊢
  have HNN := Lib.hid hNn
  have HNE := Lib.hid hn
  have HND := Lib.hid hN
  have hn600 : n ≤ 600 := by omega
  clear hx5 hy5 hG4 hm4 hb4 hf24 hfw2 hk4 hF2 hG2 hown4 hown3 hf23 hf4 hm3 hs23 H2F HB2 HN hN hNn hn
  go_wp2_with (first
    | (go_at_call 15; refine (HY5.out w5 hG5 hm5).mono ?_; rintro e w6 ⟨k6, rfl, hG6, hf6, hg6⟩; rw [← HND.out] at hG6)
    | (go_at_call 15; refine HX5.out.mono ?_; rintro e w5 ⟨g5, rfl, hF5, hf5, hg5⟩; rw [← HND.out] at hF5; have hG5 := HG4.out.kept hf5 (by simp; omega) (by simp; omega); have hm5 := HM4.out.kept hf5 (fun j hj hne _ => by have := HML.out hne j hj; simp; omega); have hlt5 := hG5.lt))
  have hF6 := hF5.kept hf6 (by have := hF5.lt; simp; omega) (by have := hF5.lt; have := HF24.out.size; simp; omega)
  have hf56 : Fr [p, g, q, k] w4 w6 := (hf5.mono (by simp)).trans (hf6.mono (m := [p, g, q, k]) (by simp)) (fun _ hi _ => hi) (fun _ hi _ => hi)
  have hs45 := hf5.size
  have hs56 := hf6.size
  have hs24 := HF24.out.size
  have hfw6 : Fr [] w w6 := ((HFW2.out.trans HF24.out (by simp) (n := []) (by simp)).trans hf56 (by simp) (by simp; omega))
  have h2F : TwoF w w6 p g5 q k6 N b.length N b.length := ⟨hF6, hG6, by omega, by rcases hg6 with h | h <;> omega, by rcases hg5 with h | h <;> omega, by have := hF5.lt; rcases hg5 with h | h <;> rcases hg6 with h' | h' <;> omega, e5, by rcases hg5 with h | h <;> omega, e7, by rcases hg6 with h | h <;> omega, hfw6⟩
  have hb6 : bytesAt w6 (.slice x4 n y4) N := HB4.out.kept hf56 (fun j hj _ _ => by have := HK4.out j hj; simp; omega)
  have hk6 : ∀ j, (Value.slice x4 n y4).ownBlock = some j → (j ≠ p ∧ j ≠ g5) ∧ (j ≠ q ∧ j ≠ k6) := fun j hj => by
    have := HK4.out j hj
    rcases hg5 with h | h <;> rcases hg6 with h' | h' <;> omega
  obtain ⟨ns, hns⟩ : ∃ ns, ns = secsC n b.length := ⟨_, rfl⟩
  have hnsb : ns ≤ 601 := by rw [hns]; have := secsC_le n b.length; omega
  have HSY := Lib.hid (fun wx (hx : Fr [] w6 wx) => isectors_any q k6 b.length N wx (hG6.below hx) (by have := HNN.out; omega))
  rw [HNN.out, ← hns] at HSY
  have H2F := Lib.hid h2F
  have HB6 := Lib.hid hb6
  have HK6 := Lib.hid hk6
  have HNS := Lib.hid hns
  clear hF6 hG6 hf56 hs45 hs56 hs24 hfw6 h2F hb6 hk6 hns hF5 hG5 hf5 hf6 hg5 hg6 hm5 hlt5 HX5 HY5 HG4 HM4 HB4 HF24 HK4 e1 e2 e3 e4 e5 e6 e7 e8 hlt2 hlt2' hlt2'' HFW2
  have hrow0 : w6.ownsRow w6.heap.size 3 1 (.slice none 0 0) 0 ((List.replicate 0 (16 : Int)).map (Value.int .i64)) := ⟨by simp, .inl ⟨rfl, rfl⟩⟩
  go_loopw [12, 13] (WholeRel ns w6) (fun _ v13 _ => ns - (intOf v13).toNat)
  case atStart => exact ⟨0, Nat.zero_le _, hrow0, rfl, Fr.refl _ _⟩
  case round =>
    clear hrow0
    obtain ⟨j, hj, hrow, rfl, hf⟩ := hrel
    by_cases hjn : j < ns
    · have hd5 : decide (j < ns) = true := decide_eq_true hjn
      have HROW := Lib.hid hrow
      have hsz : w6.heap.size ≤ wr.heap.size := hf.size
      clear hrow
      go_wp2_with (first
        | (go_at_call 13; refine (HSY.out wr hf).mono ?_; rintro e w7 ⟨rfl, rfl⟩)
        | (at_builtin; refine wpL_append1 rfl (.tmp 55) (.tmp 56) 32 rfl w6.heap.size 3 iI (.int .i64 0) 8 Try.underlying32 hiI hI0 hI1 hI2 rfl _ j _ rfl HROW.out (.int .i64 16) rfl rfl (by omega) (by simp [maxLen]; omega) hsz ?_; intro v' w' hown' hf' hb'))
      refine ⟨⟨j + 1, by omega, ?_, by go_num, hf.own HROW.out hf'⟩, by simp [intOf]; omega⟩
      rw [List.replicate_succ', List.map_append]
      exact hown'
    · have hd5 : decide (j < ns) = false := decide_eq_false hjn
      obtain rfl : j = ns := by omega
      obtain ⟨hF6, hG6, e1, e2, e3, e4, e5, e6, e7, e8, hfw6⟩ := H2F.out
      have hsz6 := hf.size
      have hltF := hF6.lt
      have hltG := hG6.lt
      have hcw : cellsAt wr (.slice a2 cuts.length c2) (cuts.map (Value.int .i64)) := HC.out.below (hfw6.trans hf (by simp) (by simp))
      have hxc := icrash_any p g5 b.length N size cuts _ wr (hF6.below hf) hcw (by omega) (by have := HNN.out; omega) (fun hne j hj => by have := HCL.out (by simpa using hne) j hj; omega)
      have hrl : ((List.replicate j (16 : Int)).map (Value.int .i64)).length = j := by simp
      obtain ⟨x12, y12, rfl⟩ := owns_sl hrow
      have hrow2 : wr.ownsRow w6.heap.size 3 1 (.slice x12 j y12) ((List.replicate j (16 : Int)).map (Value.int .i64)).length ((List.replicate j (16 : Int)).map (Value.int .i64)) := by rw [hrl]; exact hrow
      have hlt12 := hrow.lt
      have hcwh := cellsAt_of_owns hrow2
      have hyc := fun wx (hx : isF wx q k6 N b.length) (hcx : cellsAt wx (.slice x12 j y12) ((List.replicate j (16 : Int)).map (Value.int .i64))) => icrash_any q k6 b.length N (more.length : Int) (List.replicate j 16) _ wx hx hcx (by simp; omega) (by have := HNN.out; omega) (fun _ i' hi' => by have := (hlt12 i' hi').1; omega)
      have hwhole : crashC N b.length (more.length : Int) (List.replicate j 16) = N := crash_whole N b.length j (more.length : Int) (by have := HNN.out; have := HNE.out; omega) (by have := HNN.out; have := HNE.out; omega) (by rw [HNS.out, HNN.out])
      rw [hwhole] at hyc
      have hxl := crashC_length N b.length size cuts (by have := HNN.out; have := HNE.out; omega)
      have hzz := sizeC_le N.length b.length size
      obtain ⟨C, hC⟩ : ∃ C, C = crashC N b.length size cuts := ⟨_, rfl⟩
      obtain ⟨z, hz⟩ : ∃ z, z = b.length + sizeC N.length b.length size := ⟨_, rfl⟩
      rw [← hC, ← hz] at hxc
      rw [← hC, ← hz] at hxl
      have hCn : C.length ≤ n := by have := HNN.out; have := HNE.out; omega
      have hCb : b.length ≤ C.length := by omega
      have hkeeps := crash_keeps2 C N b.length size cuts (by have := HNN.out; have := HNE.out; omega) hC
      have HXC := Lib.hid hxc
      have HYC := Lib.hid hyc
      have HXL := Lib.hid hxl
      have HKE := Lib.hid hkeeps
      have HG6 := Lib.hid hG6
      have HWH := Lib.hid hcwh
      have hk6' := HK6.out
      have hb6' := HB6.out.below hf
      have HK6' := Lib.hid hk6'
      have HB6' := Lib.hid hb6'
      have HFR := Lib.hid hf
      have HL12 := Lib.hid hlt12
      have hd5' := HNS.out
      have HHSY := Lib.hid (HSY.out wr hf)
      clear hF6 hG6 hcw hxc hyc hwhole hxl hkeeps hzz hC hz hrow hrow2 hcwh hk6' hb6' hlt12 hrl hd5' HSY hd1 hd2 hd3
      go_upto_region 15 with (first
        | (go_at_call 13; refine HHSY.out.mono ?_; rintro e w7 ⟨rfl, rfl⟩)
        | (go_at_call 16; refine (HYC.out w7 hG7 hc7).mono ?_; rintro e w8 ⟨rfl, hG8, hf8⟩)
        | (go_at_call 16; refine HXC.out.mono ?_; rintro e w7 ⟨rfl, hF7, hf7⟩; have hG7 := (HG6.out.below HFR.out).kept hf7 (by simp; omega) (by simp; omega); have hc7 := HWH.out.kept hf7 (fun i' hi' _ _ => by have := (HL12.out i' hi').1; simp; omega)))
      have hF8 := hF7.kept hf8 (by simp; omega) (by simp; omega)
      have hf68 : Fr [p, g5, q, k6] w6 w8 := ((HFR.out.trans hf7 (by simp) (n := [p, g5, q, k6]) (by simp)).trans hf8 (fun _ hi _ => hi) (by simp))
      have hb8 : bytesAt w8 (.slice x4 n y4) N := HB6.out.kept hf68 (fun i' hi' _ _ => by have := HK6.out i' hi'; simp; omega)
      have hfw8 : Fr [] w w8 := hfw6.trans hf68 (by simp) (by simp; omega)
      have hbo8 := HB.out.below hfw8
      have HBX := Lib.hid (ibytes_any p g5 z C w8 hF8 (by omega))
      have HF8 := Lib.hid hF8
      have HG8 := Lib.hid hG8
      have HB8 := Lib.hid hb8
      have HFW8 := Lib.hid hfw8
      clear hF7 hf7 hG7 hc7 hf8 hF8 hG8 hb8 hf68 hbo8 hfw8
      go_upto_region 16 with (go_at_call 10; refine HBX.out.mono ?_; rintro e w9 ⟨v14, rfl, hb14, hk14, hf9⟩; obtain ⟨x14, y14, rfl, hxy14, hym14⟩ := hb14.form)
      have hf9' := hf9
      have HF9 := Lib.hid hf9
      have HB14 := Lib.hid hb14
      have HYB := Lib.hid (fun wx (hx : Fr [] w9 wx) => ibytes_any q k6 _ N wx ((HG8.out.below hf9).below hx) (by have := HNN.out; omega))
      have HXS := Lib.hid (fun wx (hx : Fr [] w9 wx) => isafe_any p g5 z C wx ((HF8.out.below hf9).below hx))
      rw [← HXL.out] at HXS
      clear hf9 hf9' hb14 hk14
      refine wp_region_G [] [(0, false), (3, false), (4, false), (1, true), (2, false), (5, false), (6, false), (7, false), (8, false), (9, false), (10, false), (11, false), (12, false), (13, false), (14, false), (15, false), (16, false), (17, false), (18, false), (19, false), (20, false), (21, false), (23, false), (24, false), (22, true), (25, false), (26, false)] 125 rfl (by kernel_rfl) (by kernel_rfl) (by kernel_rfl) (fun c a d v w h => by cases d <;> exact h) (fun wd hfd => ?_)
      simp only [List.map_cons, List.map_nil, List.getElem?_toArray, List.getElem?_cons_succ, List.getElem?_cons_zero, Option.getD_some]
      have HFD := Lib.hid hfd
      have hA : Later [] wd _ := Later.conv (P := Try.prog) ((HB8.out.below HF9.out).below hfd) (by simp) 22 5 9 Try.underlying22 Try.underlying5 Try.underlying9
      have HA := Lib.hid hA
      clear hA hfd
      have hq1 : decide (C.length < b.length) = false := decide_eq_false (by omega)
      have hq2 : decide (n < C.length) = false := decide_eq_false (by omega)
      repeat (apply wpG_t; · (intro w' hf'; have c1 := HA.out w' hf'; go_wp2_with fail; exact ⟨rfl, rfl⟩))
      refine wpG_x ?_
      go_wp2_with (go_at_call 10; refine (HYB.out _ HFD.out).mono ?_; rintro e w10 ⟨v16, rfl, hb16, hk16, hf10⟩)
      refine ⟨hf10, rfl, ?_⟩
      have hB : Later [] w10 _ := Later.conv (P := Try.prog) hb16 (by simp) 22 5 9 Try.underlying22 Try.underlying5 Try.underlying9
      have HBB := Lib.hid hB
      have hf910 : Fr [] w9 w10 := HFD.out.trans hf10 (by simp) (by simp)
      have HF910 := Lib.hid hf910
      clear hB hb16 hk16 hf10 hf910 HA
      repeat (apply wpG_t; · (intro w' hf'; have c1 := HBB.out w' hf'; go_wp2_with fail; exact ⟨rfl, rfl⟩))
      refine wpG_x ?_
      go_wp2_with (go_at_call 12; refine (HXS.out _ HF910.out).mono ?_; rintro e w11 ⟨rfl, rfl⟩)
      refine ⟨Fr.refl _ _, rfl, ?_⟩
      repeat (apply wpG_t; · (intro w' hf'; go_wp2_with fail; exact ⟨rfl, rfl⟩))
      refine wpG_end ?_
      have hb14 := HB14.out.below HF910.out
      have hb11 := (HB8.out.below HF9.out).below HF910.out
      have hfwz : Fr [] w w10 := (HFW8.out.trans HF9.out (by simp) (n := []) (by simp)).trans HF910.out (by simp) (by simp)
      have HZ14 := Lib.hid hb14
      have HZ11 := Lib.hid hb11
      have HFWZ := Lib.hid hfwz
      clear hb14 hb11 hfwz HBB HFD
      go_wp2_with fail
      go_loopw [15] (GotRel C.length w10) (fun v15 _ => C.length - (intOf v15).toNat)
      case atStart => exact ⟨0, Nat.zero_le _, rfl, Fr.refl _ _⟩
      case round =>
        obtain ⟨t, ht, rfl, hf⟩ := hrel
        by_cases htn : t < C.length
        · have hd6 : decide (t < C.length) = true := decide_eq_true htn
          have htn2 : t < N.length := by have := HNN.out; omega
          have htn3 : t < n := by have := HNN.out; omega
          have htn4 : t < n := htn3
          obtain ⟨b14, o14, rfl, hc14⟩ := byteAt2 (HZ14.out.below hf) t htn
          obtain ⟨b11, o11, rfl, hc11⟩ := byteAt2 (HZ11.out.below hf) t htn2
          have hke := HKE.out t htn htn2
          obtain ⟨cg, hcg⟩ : ∃ cg, cg = C[t]'htn := ⟨_, rfl⟩
          obtain ⟨ca, hca⟩ : ∃ ca, ca = N[t]'htn2 := ⟨_, rfl⟩
          rw [← hcg, ← hca] at hke
          rw [← hcg] at hc14
          rw [← hca] at hc11
          have HC14 := Lib.hid hc14
          have HC11 := Lib.hid hc11
          have HFR2 := Lib.hid hf
          clear hcg hca hc14 hc11 hf
          by_cases he : cg = ca
          · subst he
            have he1 : ((cg.toNat : Int) != (cg.toNat : Int)) = false := by simp
            clear hke
            go_upto_region 21 with fail
            refine wp_region_G [] [(0, false), (1, false), (2, false), (3, false), (4, false), (5, false), (6, false), (7, false), (8, false), (9, false), (10, false), (11, false), (12, false), (13, false), (14, false), (15, false), (16, false), (17, false), (18, false), (19, false), (20, false), (21, false)] 125 rfl (by kernel_rfl) (by kernel_rfl) (by kernel_rfl) (fun c a d v w h => by cases d <;> exact h) (fun we hfe => ?_)
            simp only [List.map_cons, List.map_nil, List.getElem?_toArray, List.getElem?_cons_succ, List.getElem?_cons_zero, Option.getD_some]
            have L14 := Lib.hid (fun w' (hf' : Fr [] we w') => hf'.cell (hfe.cell HC14.out (by simp)) (by simp))
            have L11 := Lib.hid (fun w' (hf' : Fr [] we w') => hf'.cell (hfe.cell HC11.out (by simp)) (by simp))
            repeat (apply wpG_t; · (intro w' hf'; have c1 := L14.out w' hf'; have c2 := L11.out w' hf'; go_wp2_with fail; exact ⟨rfl, rfl⟩))
            refine wpG_end ?_
            go_wp2_with fail
            exact ⟨⟨t + 1, by omega, by go_num, HFR2.out.trans hfe (by simp) (by simp)⟩, by simp [intOf]; omega⟩
          · obtain ⟨hst, hz0⟩ := hke.resolve_left he
            have he1 : ((cg.toNat : Int) != (ca.toNat : Int)) = true := by
              rw [bne_iff_ne]
              intro e
              exact he (UInt8.toNat_inj.1 (by omega))
            have he3 : ((cg.toNat : Int) != 0) = false := by rw [hz0]; rfl
            have hd7 : decide (t < b.length) = false := decide_eq_false (by omega)
            clear he hst hz0
            go_upto_region 21 with fail
            refine wp_region_G [] [(0, false), (1, false), (2, false), (3, false), (4, false), (5, false), (6, false), (7, false), (8, false), (9, false), (10, false), (11, false), (12, false), (13, false), (14, false), (15, false), (16, false), (17, false), (18, false), (19, false), (20, false), (21, false)] 125 rfl (by kernel_rfl) (by kernel_rfl) (by kernel_rfl) (fun c a d v w h => by cases d <;> exact h) (fun we hfe => ?_)
            simp only [List.map_cons, List.map_nil, List.getElem?_toArray, List.getElem?_cons_succ, List.getElem?_cons_zero, Option.getD_some]
            have L14 := Lib.hid (fun w' (hf' : Fr [] we w') => hf'.cell (hfe.cell HC14.out (by simp)) (by simp))
            have L11 := Lib.hid (fun w' (hf' : Fr [] we w') => hf'.cell (hfe.cell HC11.out (by simp)) (by simp))
            repeat (apply wpG_t; · (intro w' hf'; have c1 := L14.out w' hf'; have c2 := L11.out w' hf'; go_wp2_with fail; exact ⟨rfl, rfl⟩))
            refine wpG_end ?_
            go_wp2_with fail
            exact ⟨⟨t + 1, by omega, by go_num, HFR2.out.trans hfe (by simp) (by simp)⟩, by simp [intOf]; omega⟩
        · have hd6 : decide (t < C.length) = false := decide_eq_false htn
          obtain rfl : t = C.length := by omega
          have HF := Lib.hid hf
          clear hf
          go_wp2_with (go_at_call 7; refine (HAW.out _).mono ?_; rintro e w' ⟨rfl, hfa⟩)
          go_ret
          exact ⟨rfl, (HFWZ.out.trans HF.out (by simp) (n := []) (by simp)).trans hfa (by simp) (by simp)⟩
end Go.Proofs.Ytgdpecpbcoohkaa
