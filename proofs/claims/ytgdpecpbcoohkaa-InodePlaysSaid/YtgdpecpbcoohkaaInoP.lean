/- InodePlays: after any acts the contents, the number of durable bytes and the number of the other sectors are as specified. -/
import Derived.Test.YtgdpecpbcoohkaaInoM
import Derived.Test.YtgdpecpbcoohkaaRegionF
import Derived.Deep.DeepCutAuto
namespace Go.Proofs.Ytgdpecpbcoohkaa
open Go.RowKit

/-- The two files in the loop. -/
def PlayAt (w : World) (p F0 : Nat) (now : List UInt8) (s : Nat) (wx : World) : Prop :=
  ∃ g nv sv, isF wx p g now s ∧ isDA wx p g nv sv now s ∧ wx.heap[F0]? = some (.cells #[nv, sv] 29 (0, 0)) ∧ F0 ≠ p ∧ F0 ≠ g ∧ w.heap.size ≤ g ∧ Fr [] w wx
def PlayRel (w : World) (p F0 : Nat) (l : List ADat) (iv : Value) (wx : World) : Prop :=
  ∃ (k : Nat) (now : List UInt8) (s : Nat), k ≤ l.length ∧ iv = .int .i64 (k : Int) ∧ now.length ≤ 300 + 100 * k ∧ PlayAt w p F0 now s wx
/-- Behind do: what is next lies in a variable of its own. -/
def PlayMid (w : World) (p F0 : Nat) (now : List UInt8) (s : Nat) (v8 v9 : Value) (wx : World) : Prop :=
  ∃ N0 g nv sv x1 y1 z1 x2 y2 z2, v8 = .pointer (some ⟨N0, 0, none⟩) ∧ v9 = .bool true ∧ isF wx p g now s ∧ isDA wx p g nv sv now s ∧ wx.heap[N0]? = some (.cells #[nv, sv] 29 (0, 0)) ∧ wx.heap[F0]? = some (.cells #[.slice x1 y1 z1, .slice x2 y2 z2] 29 (0, 0)) ∧ F0 ≠ p ∧ F0 ≠ g ∧ w.heap.size ≤ g ∧ Fr [] w wx
theorem ne_of_cells {w : World} {v : Value} {bs : List UInt8} {N0 y1 z1 y2 z2 : Nat} {x1 x2 : Option Addr} (h : bytesAt w v bs) (hN : w.heap[N0]? = some (.cells #[.slice x1 y1 z1, .slice x2 y2 z2] 29 (0, 0))) : ∀ k, v.ownBlock = some k → bs ≠ [] → k < w.heap.size → k ∉ [N0] := by
  intro k hk hne _ hm
  obtain rfl : k = N0 := by simpa using hm
  rcases h with ⟨_, _, _, _, rfl⟩ | ⟨b, off, cap, rfl, _, _, hc⟩
  · exact hne rfl
  · have hk' : b = k := Option.some.inj hk
    subst hk'
    have h0 := hc 0 (List.length_pos_iff.2 hne)
    rw [cell_of_heap hN, Nat.add_zero] at h0
    match off, h0 with
    | 0, h0 => cases h0
    | 1, h0 => cases h0
    | (n + 2), h0 => cases h0
theorem mid_mk {w wz : World} {p F0 N0 g s : Nat} {now : List UInt8} {nv sv : Value} {x1 x2 : Option Addr} {y1 z1 y2 z2 : Nat} (hF : isF wz p g now s) (hD : isDA wz p g nv sv now s) (hN : wz.heap[N0]? = some (.cells #[.slice none 0 0, .slice none 0 0] 29 (0, 0)))
    (hh : wz.heap[F0]? = some (.cells #[.slice x1 y1 z1, .slice x2 y2 z2] 29 (0, 0))) (hNF : N0 ≠ F0) (hNp : N0 ≠ p) (hNw : w.heap.size ≤ N0) (hFp : F0 ≠ p) (hFg : F0 ≠ g) (hgw : w.heap.size ≤ g) (hf : Fr [] w wz) :
    PlayMid w p F0 now s (.pointer (some ⟨N0, 0, none⟩)) (.bool true) ((wz.setCell ⟨N0, 0, none⟩ nv).setCell ⟨N0, 1, none⟩ sv) := by
  have hfs := Fr.set2 wz N0 nv sv
  have hNg : g ≠ N0 := by
    rintro rfl
    obtain ⟨cap, cur, _, h2, _⟩ := hF
    rw [hN] at h2
    simp only [Option.some.injEq, Obj.cells.injEq] at h2
    exact absurd h2.2.1 (by decide)
  refine ⟨N0, g, nv, sv, x1, y1, z1, x2, y2, z2, rfl, rfl, hF.kept hfs (by simpa using Ne.symm hNp) (by simpa using hNg), ⟨⟨hD.1.1.kept hfs (ne_of_cells hD.1.1 hN), hD.1.2.1.kept hfs (ne_of_cells hD.1.2.1 hN), hD.1.2.2⟩, hD.2⟩, heap_set2 hN, hfs.heap hh (by simpa using Ne.symm hNF), hFp, hFg, hgw, hf.trans hfs (by simp) (by simp; omega)⟩
set_option maxHeartbeats 400000 in
set_option maxRecDepth 100000 in
theorem plays_any (b : List UInt8) (l : List ADat) (bv lv : Value) (w : World) (hb : bytesAt w bv b) (h : elemsAt w lv 4 (l.map ADat.cells)) (hok : ∀ a ∈ l, a.ok w) :
    Calls Try.prog 3 #[bv, lv] w fun e w' => e = .returned (.bool true) ∧ Fr [] w w' := by
  have hblt := hb.lt
  obtain ⟨a0, c0, rfl, hb0, hbm⟩ := hb.form
  have HFW := Lib.hid (few_any l lv w h hok)
  have HAW := Lib.hid (fun wx => awake_any wx)
  obtain ⟨a1, c1, rfl, hle, hmx⟩ := h.form
  rw [List.length_map] at h hle HFW ⊢
  by_cases hb3 : 300 < b.length
  · have hd : decide (300 < (b.length : Int)) = true := decide_eq_true (by omega)
    clear hb h hok
    go_enter Try.func3, Try.ntmps3
    go_wp2_with (go_at_call 7; refine (HAW.out _).mono ?_; rintro e w' ⟨rfl, hf⟩)
    go_ret
    exact ⟨rfl, hf⟩
  have hd : decide (300 < (b.length : Int)) = false := decide_eq_false (by omega)
  by_cases hfw : fewB l = true
  · rw [hfw] at HFW
    have hfew := of_decide_eq_true hfw
    have HB := Lib.hid hb
    have HE := Lib.hid h
    have HOK := Lib.hid hok
    have HFE := Lib.hid hfew.2
    have hl30 : l.length ≤ 30 := hfew.1
    have HBL := Lib.hid hblt
    have hbl : b.length ≤ 300 := by omega
    clear hb h hok hfew hblt hb3 hfw
    go_enter Try.func3, Try.ntmps3
    go_wp2_with (first
      | (go_at_call 6; refine HFW.out.mono ?_; rintro e w1 ⟨rfl, rfl⟩)
      | (go_at_call 8; refine (inew_any b _ _ HB.out (by omega)).mono ?_; rintro e w1 ⟨p, g, rfl, hF1, hf1, hp1, hg1⟩))
    have hlt1 := hF1.lt
    have hfa := Fr.alloc w1 (.cells #[.slice a0 b.length c0, .slice a0 b.length c0] 29)
    have hha := heap_alloc_new w1 (.cells #[.slice a0 b.length c0, .slice a0 b.length c0] 29)
    have hF2 := hF1.below hfa
    have hf02 : Fr [] w (w1.alloc (.cells #[.slice a0 b.length c0, .slice a0 b.length c0] 29)) := hf1.trans hfa (by simp) (by simp)
    obtain ⟨w2, hw2⟩ : ∃ w2, w2 = w1.alloc (.cells #[.slice a0 b.length c0, .slice a0 b.length c0] 29) := ⟨_, rfl⟩
    obtain ⟨F0, hF0⟩ : ∃ F0, F0 = w1.heap.size := ⟨_, rfl⟩
    rw [← hF0, ← hw2]
    rw [← hw2] at hha hF2 hf02
    rw [← hF0] at hha hlt1
    have hap0 : apartV p g (.slice a0 b.length c0) b := fun hne k hk => by have := HBL.out hne k hk; omega
    have hbw := HB.out.below hf02
    have hstart : PlayAt w p F0 b b.length w2 := ⟨g, _, _, hF2, ⟨⟨hbw, by rw [List.take_length]; exact hbw, Nat.le_refl _⟩, hap0, by rw [List.take_length]; exact hap0⟩, hha, by omega, by omega, hg1, hf02⟩
    have hF0w : w.heap.size ≤ F0 := by have := hf1.size; omega
    clear hfa hha hF2 hf02 hw2 hF0 hap0 hbw hF1 hf1 hg1 hlt1
    go_loopw [7] (PlayRel w p F0 l) (fun iv _ => l.length - (intOf iv).toNat)
    case atStart => exact ⟨0, b, b.length, Nat.zero_le _, rfl, by omega, hstart⟩
    case round =>
      clear hstart
      obtain ⟨k, now, s, hk, rfl, hnl, g1, nv, sv, hF, hD, hh, hne1, hne2, hgw, hf⟩ := hrel
      by_cases hkn : k < l.length
      · have hd2 : decide (k < l.length) = true := decide_eq_true hkn
        have hkl : k ≤ 30 := by omega
        obtain ⟨b1, off1, rfl, -, -⟩ := act_cells HE.out k hkn
        have hel := fun wx (hx : Fr [] w wx) => (act_cells (HE.out.below hx) k hkn)
        have hak := HOK.out _ (List.getElem_mem hkn)
        have hfk := HFE.out _ (List.getElem_mem hkn)
        obtain ⟨A, hA⟩ : ∃ A, A = l[k] := ⟨_, rfl⟩
        rw [← hA] at hel hak hfk
        have hcl : ∀ wx, Fr [] w wx → wx.cell? ⟨b1, off1 + k * 4, none⟩ = some (.int .i64 A.kind) ∧ wx.cell? ⟨b1, off1 + k * 4 + 1, none⟩ = some A.bv ∧ wx.cell? ⟨b1, off1 + k * 4 + 2, none⟩ = some (.int .i64 A.n) ∧ wx.cell? ⟨b1, off1 + k * 4 + 3, none⟩ = some A.cv := by
          intro wx hx
          obtain ⟨b', off', e, _, h1⟩ := hel wx hx
          cases e
          exact h1
        have hapb : apartV p g1 A.bv A.b := fun hne j hj => by have := hak.1.lt hne j hj; omega
        have hapc : apartC p g1 A := fun hne j hj => by
          have := hak.2.1.lt (by simpa using hne) j hj; omega
        have hdo := fun wx (hx : Fr [] wr wx) => do_any p g1 s now nv sv A wx (hF.below hx) ⟨hD.1.below hx, hD.2⟩ (hak.below (hf.trans hx (by simp) (by simp))) hapb hapc hfk (by omega)
        have hnn := nextN_le now s A hD.1.2.2 hfk.1
        obtain ⟨now2, hn2⟩ : ∃ now2, now2 = nextN now s A := ⟨_, rfl⟩
        obtain ⟨s2, hs2⟩ : ∃ s2, s2 = nextS now s A := ⟨_, rfl⟩
        rw [← hn2, ← hs2] at hdo
        simp only [ADat.val] at hdo
        rw [← hn2] at hnn
        obtain ⟨x3, y3, z3, hbv⟩ := hak.1.slice
        obtain ⟨x4, y4, hcv, -, -⟩ := hak.2.1.form
        rw [List.length_map] at hcv
        simp only [hbv, hcv] at hdo hcl
        have HDO := Lib.hid hdo
        have HCL := Lib.hid hcl
        have HH := Lib.hid hh
        have HF := Lib.hid hf
        have hplt := hF.lt
        obtain ⟨x1, y1, z1, hnv⟩ := hD.1.1.slice
        obtain ⟨x2, y2, z2, hsv⟩ := hD.1.2.1.slice
        subst hnv hsv
        obtain ⟨hc0, hc1, -, -⟩ := two_of_heap hh
        obtain ⟨hk0, hk1, hk2, hk3⟩ := hcl wr hf
        clear hel hdo hcl hh hf hak hfk hapb hapc hn2 hs2 hA hbv hcv
        go_upto_region 8 with fail
        go_cut [8, 9] (fun s8 s9 wx => PlayMid w p F0 now2 s2 s8 s9 wx)
        case first =>
          have hbb1 : b1 < w.heap.size := World.block_lt_of_cell? w _ (HCL.out w (Fr.refl _ _)).1
          have hws := HF.out.size
          have hF0r : F0 < wr.heap.size := (Array.getElem?_eq_some_iff.1 HH.out).1
          have hpw : w.heap.size ≤ p := hp1
          refine wp_region_F (FrB wr.heap.size [p, g1]) (FrB.refl _ _) (fun _ _ _ => FrB.trans) [(0, false), (1, false), (2, false), (3, false), (4, false), (5, false)] 6 10 [(7, false), (8, false), (9, false), (10, true), (11, true), (12, false)] [(6, true), (7, false), (8, false), (9, false), (11, true), (12, false)] 76 rfl (by kernel_rfl) (by kernel_rfl) (by kernel_rfl) (fun c a d v w h => by cases d <;> exact h) ?_
          simp only [List.map_cons, List.map_nil, List.getElem?_toArray, List.getElem?_cons_succ, List.getElem?_cons_zero, Option.getD_some]
          have hfd := Fr.drew wr
          have hsd : wr.drew.heap.size = wr.heap.size := rfl
          obtain ⟨wd, hwd⟩ : ∃ wd, wd = wr.drew := ⟨_, rfl⟩
          rw [← hwd] at hfd hsd ⊢
          clear hwd
          have HFD := Lib.hid hfd
          have HSD := Lib.hid hsd
          have hHd := hfd.heap HH.out (by simp)
          have hCd := HCL.out wd (HF.out.trans hfd (by simp) (by simp))
          have LH : Hid (∀ w', FrB wr.heap.size [p, g1] wd w' → w'.heap[F0]? = some (.cells #[.slice x1 y1 z1, .slice x2 y2 z2] 29 (0, 0))) := Lib.hid (fun w' hf' => hf'.heap hHd hF0r (by simp; omega))
          have LC : Hid (∀ w', FrB wr.heap.size [p, g1] wd w' → w'.cell? ⟨b1, off1 + k * 4, none⟩ = some (.int .i64 A.kind) ∧ w'.cell? ⟨b1, off1 + k * 4 + 1, none⟩ = some (.slice x3 y3 z3) ∧ w'.cell? ⟨b1, off1 + k * 4 + 2, none⟩ = some (.int .i64 A.n) ∧ w'.cell? ⟨b1, off1 + k * 4 + 3, none⟩ = some (.slice x4 A.cuts.length y4)) :=
            Lib.hid (fun w' hf' => ⟨hf'.cell hCd.1 (by show b1 < _; omega) (by show b1 ∉ _; simp; omega), hf'.cell hCd.2.1 (by show b1 < _; omega) (by show b1 ∉ _; simp; omega), hf'.cell hCd.2.2.1 (by show b1 < _; omega) (by show b1 ∉ _; simp; omega), hf'.cell hCd.2.2.2 (by show b1 < _; omega) (by show b1 ∉ _; simp; omega)⟩)
          clear hfd hsd hHd hCd hc0 hc1 hk0 hk1 hk2 hk3
          repeat (apply wpT_t; · (intro w' hf'; have c1 : w'.cell? ⟨F0, 0, none⟩ = _ := cell_of_heap (LH.out w' hf') 0; have c2 : w'.cell? ⟨F0, 1, none⟩ = _ := cell_of_heap (LH.out w' hf') 1; obtain ⟨d0, d1, d2, d3⟩ := LC.out w' hf'; go_wp2_with fail; exact ⟨rfl, rfl⟩))
          refine wpT_end ⟨?_, ?_⟩
          · simp only [List.map_cons, List.map_nil, List.getElem?_toArray, List.getElem?_cons_succ, List.getElem?_cons_zero, Option.getD_some]
            refine wpT_x ?_
            go_wp2_with (go_at_call 9; refine (HDO.out _ HFD.out).mono ?_; rintro e w4 ⟨g4, nv4, sv4, rfl, hF4, hD4, hf4, hg4⟩)
            obtain ⟨n1, n2, n3, rfl⟩ := hD4.1.1.slice
            obtain ⟨n4, n5, n6, rfl⟩ := hD4.1.2.1.slice
            refine ⟨FrB.of hf4 (by rw [HSD.out]; exact Nat.le_refl _) (fun i hi _ => hi), rfl, ?_⟩
            repeat (apply wpT_t; · (intro w' hf'; go_wp2_with fail; exact ⟨rfl, rfl⟩))
            refine wpT_x ?_
            go_wp2_with fail
            have hw4 : wr.heap.size ≤ w4.heap.size := by have := hf4.size; have := HSD.out; omega
            have hfz := Fr.alloc w4 (.cells #[.slice none 0 0, .slice none 0 0] 29)
            have hN := heap_alloc_new w4 (.cells #[.slice none 0 0, .slice none 0 0] 29)
            refine ⟨FrB.of hfz (by omega) (by simp), rfl, ?_⟩
            obtain ⟨wz, hwz⟩ : ∃ wz, wz = w4.alloc (.cells #[.slice none 0 0, .slice none 0 0] 29) := ⟨_, rfl⟩
            obtain ⟨N0, hN0⟩ : ∃ N0, N0 = w4.heap.size := ⟨_, rfl⟩
            rw [← hwz, ← hN0]
            rw [← hwz] at hfz hN
            rw [← hN0] at hN hw4
            clear hwz hN0
            have HN := Lib.hid hN
            have HFZ := Lib.hid hfz
            obtain ⟨q0, q1, q2, q3⟩ := two_of_heap hN
            clear hN hfz
            refine wpT_x ?_
            go_wp2_with fail
            refine ⟨FrB.of (Fr.set2 wz N0 _ _) (by have := HFZ.out.size; have := hf4.size; have := HSD.out; omega) (by simp; omega), rfl, ?_⟩
            clear q0 q1 q2 q3
            repeat (apply wpT_t; · (intro w' hf'; go_wp2_with fail; exact ⟨rfl, rfl⟩))
            refine wpT_end ?_
            go_wp2_with fail
            go_meet
            exact mid_mk (hF4.below HFZ.out) ⟨hD4.1.below HFZ.out, hD4.2⟩ HN.out (HFZ.out.heap (hf4.heap (HFD.out.heap HH.out (by simp)) (by simp; omega)) (by simp)) (by omega) (by omega) (by omega) hne1 (by have := HSD.out; rcases hg4 with h | h <;> omega) (by have := HSD.out; rcases hg4 with h | h <;> omega)
              (((HF.out.trans HFD.out (by simp) (n := []) (by simp)).trans hf4 (by simp) (n := []) (by simp; omega)).trans HFZ.out (by simp) (by simp))
          · simp only [List.map_cons, List.map_nil, List.getElem?_toArray, List.getElem?_cons_succ, List.getElem?_cons_zero, Option.getD_some]
            refine wpT_x ?_
            go_wp2_with fail
            have hfz := Fr.alloc wd (.cells #[.slice none 0 0, .slice none 0 0] 29)
            have hN := heap_alloc_new wd (.cells #[.slice none 0 0, .slice none 0 0] 29)
            refine ⟨FrB.of hfz (by rw [HSD.out]; exact Nat.le_refl _) (by simp), rfl, ?_⟩
            obtain ⟨wz, hwz⟩ : ∃ wz, wz = wd.alloc (.cells #[.slice none 0 0, .slice none 0 0] 29) := ⟨_, rfl⟩
            obtain ⟨N0, hN0⟩ : ∃ N0, N0 = wd.heap.size := ⟨_, rfl⟩
            rw [← hwz, ← hN0]
            rw [← hwz] at hfz hN
            rw [← hN0] at hN
            have hNr : N0 = wr.heap.size := by rw [hN0]; exact HSD.out
            have HNR := Lib.hid hNr
            clear hwz hN0 hNr
            have HN := Lib.hid hN
            have HFZ := Lib.hid hfz
            clear hN hfz
            have hdz := HDO.out wz (HFD.out.trans HFZ.out (by simp) (by simp))
            have HDZ := Lib.hid hdz
            clear hdz
            refine wpT_x ?_
            go_wp2_with (go_at_call 9; refine HDZ.out.mono ?_; rintro e w4 ⟨g4, nv4, sv4, rfl, hF4, hD4, hf4, hg4⟩)
            obtain ⟨n1, n2, n3, rfl⟩ := hD4.1.1.slice
            obtain ⟨n4, n5, n6, rfl⟩ := hD4.1.2.1.slice
            have hwz : wr.heap.size ≤ wz.heap.size := by have := HFZ.out.size; have := HSD.out; omega
            refine ⟨FrB.of hf4 hwz (fun i hi _ => hi), rfl, ?_⟩
            repeat (apply wpT_t; · (intro w' hf'; go_wp2_with fail; exact ⟨rfl, rfl⟩))
            have hN4 := hf4.heap HN.out (by have := HNR.out; simp; omega)
            obtain ⟨q0, q1, q2, q3⟩ := two_of_heap hN4
            refine wpT_x ?_
            go_wp2_with fail
            refine ⟨FrB.of (Fr.set2 w4 N0 _ _) (by have := hf4.size; omega) (by have := HNR.out; simp; omega), rfl, ?_⟩
            clear q0 q1 q2 q3
            repeat (apply wpT_t; · (intro w' hf'; go_wp2_with fail; exact ⟨rfl, rfl⟩))
            refine wpT_end ?_
            go_wp2_with fail
            go_meet
            have hnr := HNR.out
            exact mid_mk hF4 hD4 hN4 (hf4.heap (HFZ.out.heap (HFD.out.heap HH.out (by simp)) (by simp)) (by simp; omega)) (by omega) (by omega) (by omega) hne1 (by rcases hg4 with h | h <;> omega) (by rcases hg4 with h | h <;> omega)
              ((HF.out.trans (HFD.out.trans HFZ.out (by simp) (n := []) (by simp)) (by simp) (n := []) (by simp)).trans hf4 (by simp) (by simp; omega))
        case rest =>
          obtain ⟨N0, g4, nv4, sv4, r1, r2, r3, r4, r5, r6, rfl, rfl, hF4, hD4, hN4, hh4, hne3, hne4, hgw4, hf4⟩ := hcut
          obtain ⟨n1, n2, rfl, hn12, -⟩ := hD4.1.1.form
          obtain ⟨n4, n5, rfl, hn45, -⟩ := hD4.1.2.1.form
          have hsl4 : (now2.take s2).length = s2 := by have := hD4.1.2.2; simp; omega
          rw [hsl4] at hD4 hN4 hn45
          obtain ⟨q0, q1, -, -⟩ := two_of_heap hN4
          obtain ⟨-, -, q2, q3⟩ := two_of_heap hh4
          have hr0 := cell_of_heap hh4 0
          have hr1 := cell_of_heap hh4 1
          go_upto_region 10 with fail
          have hfs := Fr.set2 wc F0 (.slice n1 now2.length n2) (.slice n4 s2 n5)
          have hFs := heap_set2 hh4 (x := .slice n1 now2.length n2) (y := .slice n4 s2 n5)
          have hD5 : isDA ((wc.setCell ⟨F0, 0, none⟩ (.slice n1 now2.length n2)).setCell ⟨F0, 1, none⟩ (.slice n4 s2 n5)) p g4 (.slice n1 now2.length n2) (.slice n4 s2 n5) now2 s2 :=
            ⟨⟨hD4.1.1.kept hfs (ne_of_cells hD4.1.1 hh4), hD4.1.2.1.kept hfs (ne_of_cells hD4.1.2.1 hh4), hD4.1.2.2⟩, hD4.2⟩
          have hF5 := hF4.kept hfs (by simpa using Ne.symm hne3) (by simpa using Ne.symm hne4)
          have hf5 : Fr [] w ((wc.setCell ⟨F0, 0, none⟩ (.slice n1 now2.length n2)).setCell ⟨F0, 1, none⟩ (.slice n4 s2 n5)) := hf4.trans hfs (by simp) (by simp; omega)
          obtain ⟨wr2, hwr2⟩ : ∃ wr2, wr2 = (wc.setCell ⟨F0, 0, none⟩ (.slice n1 now2.length n2)).setCell ⟨F0, 1, none⟩ (.slice n4 s2 n5) := ⟨_, rfl⟩
          rw [← hwr2] at hFs hD5 hF5 hf5 ⊢
          clear hwr2 hfs hD4 hF4 hf4 hN4 hh4 q0 q1 q2 q3 hr0 hr1
          have HF5 := Lib.hid hF5
          have HD5 := Lib.hid hD5
          have HFS := Lib.hid hFs
          have HFF := Lib.hid hf5
          have hnb : now2.length ≤ 4000 := by omega
          have hsb : s2 ≤ 4000 := by have := hD5.1.2.2; omega
          have hse := fun wx (hx : Fr [] wr2 wx) => ref_sectors_any now2 (now2.take s2) (.slice n1 now2.length n2) (.slice n4 s2 n5) wx (hD5.1.1.below hx) (hD5.1.2.1.below hx) (by rw [hsl4]; exact hD5.1.2.2) (by omega)
          rw [hsl4] at hse
          have HSE := Lib.hid hse
          have HBY := Lib.hid (fun wx (hx : Fr [] wr2 wx) => ibytes_any p g4 s2 now2 wx (hF5.below hx) (by omega))
          have HLE := Lib.hid (fun wx (hx : Fr [] wr2 wx) => ilen_any p g4 s2 now2 wx (hF5.below hx))
          have HSA := Lib.hid (fun wx (hx : Fr [] wr2 wx) => isafe_any p g4 s2 now2 wx (hF5.below hx))
          have HSC := Lib.hid (fun wx (hx : Fr [] wr2 wx) => isectors_any p g4 s2 now2 wx (hF5.below hx) (by omega))
          clear hF5 hD5 hFs hf5 hse
          refine wp_region_G [] [(0, false), (1, false), (2, false), (3, false), (6, false), (7, false), (8, false), (4, true), (5, false), (9, false), (10, false), (11, false), (12, false), (14, false), (15, false), (16, false), (13, true), (17, false), (18, false), (19, false), (20, false), (22, false), (23, false), (24, false), (21, true), (25, false), (26, false), (27, false), (28, false), (30, false), (29, true), (31, true), (32, false), (33, false)] 76 rfl (by kernel_rfl) (by kernel_rfl) (by kernel_rfl) (fun c a d v w h => by cases d <;> exact h) (fun wd hfd => ?_)
          simp only [List.map_cons, List.map_nil, List.getElem?_toArray, List.getElem?_cons_succ, List.getElem?_cons_zero, Option.getD_some]
          have HFD := Lib.hid hfd
          have hA : Later [] wd _ := Later.conv (P := Try.prog) (HD5.out.1.1.below hfd) (by simp) 22 5 9 Try.underlying22 Try.underlying5 Try.underlying9
          have HA := Lib.hid hA
          have LH : Hid (∀ w', Fr [] wd w' → w'.heap[F0]? = some (.cells #[.slice n1 now2.length n2, .slice n4 s2 n5] 29 (0, 0))) := Lib.hid (fun w' hf' => hf'.heap (hfd.heap HFS.out (by simp)) (by simp))
          clear hA hfd
          repeat (apply wpG_t; · (intro w' hf'; have c1 := HA.out w' hf'; have c2 : w'.cell? ⟨F0, 0, none⟩ = _ := cell_of_heap (LH.out w' hf') 0; have c3 : w'.cell? ⟨F0, 1, none⟩ = _ := cell_of_heap (LH.out w' hf') 1; go_wp2_with fail; exact ⟨rfl, rfl⟩))
          refine wpG_x ?_
          go_wp2_with (go_at_call 10; refine (HBY.out _ HFD.out).mono ?_; rintro e w5 ⟨v5, rfl, hb5, hk5, hf5⟩)
          refine ⟨hf5, rfl, ?_⟩
          have hB : Later [] w5 _ := Later.conv (P := Try.prog) hb5 (by simp) 22 5 9 Try.underlying22 Try.underlying5 Try.underlying9
          have HB := Lib.hid hB
          have hfd5 : Fr [] wr2 w5 := HFD.out.trans hf5 (by simp) (by simp)
          have HFD5 := Lib.hid hfd5
          have LH5 : Hid (∀ w', Fr [] w5 w' → w'.heap[F0]? = some (.cells #[.slice n1 now2.length n2, .slice n4 s2 n5] 29 (0, 0))) := Lib.hid (fun w' hf' => LH.out w' (hf5.trans hf' (by simp) (by simp)))
          clear hB hb5 hk5 hf5 hfd5 HA LH
          repeat (apply wpG_t; · (intro w' hf'; have c1 := HB.out w' hf'; have c2 : w'.cell? ⟨F0, 0, none⟩ = _ := cell_of_heap (LH5.out w' hf') 0; have c3 : w'.cell? ⟨F0, 1, none⟩ = _ := cell_of_heap (LH5.out w' hf') 1; go_wp2_with fail; exact ⟨rfl, rfl⟩))
          refine wpG_x ?_
          go_wp2_with (go_at_call 11; refine (HLE.out _ HFD5.out).mono ?_; rintro e w6 ⟨rfl, rfl⟩)
          refine ⟨Fr.refl _ _, rfl, ?_⟩
          repeat (apply wpG_t; · (intro w' hf'; have c2 : w'.cell? ⟨F0, 0, none⟩ = _ := cell_of_heap (LH5.out w' hf') 0; have c3 : w'.cell? ⟨F0, 1, none⟩ = _ := cell_of_heap (LH5.out w' hf') 1; go_wp2_with fail; exact ⟨rfl, rfl⟩))
          refine wpG_x ?_
          go_wp2_with (go_at_call 12; refine (HSA.out _ HFD5.out).mono ?_; rintro e w6 ⟨rfl, rfl⟩)
          refine ⟨Fr.refl _ _, rfl, ?_⟩
          repeat (apply wpG_t; · (intro w' hf'; have c2 : w'.cell? ⟨F0, 0, none⟩ = _ := cell_of_heap (LH5.out w' hf') 0; have c3 : w'.cell? ⟨F0, 1, none⟩ = _ := cell_of_heap (LH5.out w' hf') 1; go_wp2_with fail; exact ⟨rfl, rfl⟩))
          refine wpG_x ?_
          go_wp2_with (go_at_call 13; refine (HSC.out _ HFD5.out).mono ?_; rintro e w6 ⟨rfl, rfl⟩)
          refine ⟨Fr.refl _ _, rfl, ?_⟩
          refine wpG_x ?_
          go_wp2_with (go_at_call 14; refine (HSE.out _ HFD5.out).mono ?_; rintro e w7 ⟨rfl, hf7⟩)
          refine ⟨hf7, rfl, ?_⟩
          repeat (apply wpG_t; · (intro w' hf'; go_wp2_with fail; exact ⟨rfl, rfl⟩))
          refine wpG_end ?_
          go_wp2_with fail
          have hfz : Fr [] wr2 w7 := HFD5.out.trans hf7 (by simp) (by simp)
          refine ⟨⟨k + 1, now2, s2, by omega, by go_num, by omega, g4, _, _, HF5.out.below hfz, ⟨HD5.out.1.below hfz, HD5.out.2⟩, hfz.heap HFS.out (by simp), hne3, hne4, hgw4, HFF.out.trans hfz (by simp) (by simp)⟩, by simp [intOf]; omega⟩
      · have hd2 : decide (k < l.length) = false := decide_eq_false hkn
        obtain rfl : k = l.length := by omega
        have HF := Lib.hid hf
        clear hF hD hh hf
        go_wp2_with (go_at_call 7; refine (HAW.out _).mono ?_; rintro e w' ⟨rfl, hfa⟩)
        go_ret
        exact ⟨rfl, HF.out.trans hfa (by simp) (by simp)⟩
  · have hfw' : fewB l = false := by simpa using hfw
    rw [hfw'] at HFW
    clear hb h hok hfw hfw'
    go_enter Try.func3, Try.ntmps3
    go_wp2_with (first
      | (go_at_call 6; refine HFW.out.mono ?_; rintro e w1 ⟨rfl, rfl⟩)
      | (go_at_call 7; refine (HAW.out _).mono ?_; rintro e w' ⟨rfl, hf⟩))
    go_ret
    exact ⟨rfl, hf⟩
end Go.Proofs.Ytgdpecpbcoohkaa
