/- DirWhole: a crash that keeps nothing leaves the durable directory, and one that keeps everything the current one. -/
import Derived.Test.YtjmkieacaejcgaaDirR
namespace Go.Proofs.Ytjmkieacaejcgaa
open Go.RowKit Go.Maps

/-- Two directories of the program's, and the document's in the variable F0. -/
def WholeAt (w : World) (p p2 F0 : Nat) (B B2 : List Nat) (s : StD) (m : Nat) (wx : World) : Prop :=
  ∃ nv sv ov, isD wx p B s.now s.safe (s.ops.map normO) m ∧ isD wx p2 B2 s.now s.safe (s.ops.map normO) m ∧ RD wx nv sv ov s.now s.safe s.ops ∧ wx.heap[F0]? = some (.cells #[nv, sv, ov] 30 (0, 0)) ∧
    (∀ k ∈ B, w.heap.size ≤ k) ∧ (∀ k ∈ B2, w.heap.size ≤ k) ∧ (∀ k ∈ B, k ∉ B2) ∧ Fr [] w wx
def WholeRel (w : World) (p p2 F0 : Nat) (l : List ADat) (iv : Value) (wx : World) : Prop :=
  ∃ (k : Nat) (s : StD) (B B2 : List Nat), k ≤ l.length ∧ iv = .int .i64 (k : Int) ∧ okS s k ∧ WholeAt w p p2 F0 B B2 s k wx
/-- Behind the first do. -/
def Mid2 (wr : World) (p : Nat) (B : List Nat) (s : StD) (m : Nat) (v7 v8 : Value) (wx : World) : Prop :=
  ∃ N0 B4 nv sv ov, v7 = .pointer (some ⟨N0, 0, none⟩) ∧ v8 = .bool true ∧ isD wx p B4 s.now s.safe (s.ops.map normO) m ∧ RD wx nv sv ov s.now s.safe s.ops ∧ wx.heap[N0]? = some (.cells #[nv, sv, ov] 30 (0, 0)) ∧
    wr.heap.size ≤ N0 ∧ (∀ k ∈ B4, k ∈ B ∨ wr.heap.size ≤ k) ∧ Fr B wr wx
theorem Fr.andTrans {B : List Nat} {a b c : World} (h : Fr B a b) (k : Fr [] b c) : Fr B a c := h.trans k (fun _ hk _ => hk) (by simp)
theorem mid2_mk {wr wz : World} {p N0 m : Nat} {B B4 : List Nat} {s : StD} {nv sv ov : Value} (hD : isD wz p B4 s.now s.safe (s.ops.map normO) m) (hR : RD wz nv sv ov s.now s.safe s.ops) (hN : wz.heap[N0]? = some (.cells #[.slice none 0 0, .slice none 0 0, .slice none 0 0] 30 (0, 0)))
    (hNr : wr.heap.size ≤ N0) (hB : ∀ k ∈ B4, k ∈ B ∨ wr.heap.size ≤ k) (hf : Fr B wr wz) :
    Mid2 wr p B s m (.pointer (some ⟨N0, 0, none⟩)) (.bool true) (((wz.setCell ⟨N0, 0, none⟩ nv).setCell ⟨N0, 1, none⟩ sv).setCell ⟨N0, 2, none⟩ ov) := by
  have hfs := Fr.set3 wz N0 nv sv ov
  exact ⟨N0, B4, nv, sv, ov, rfl, rfl, hD.set hN, hR.set hN, heap_set3 hN, hNr, hB, hf.trans hfs (fun _ hk _ => hk) (by simp; omega)⟩
theorem infoBool : (Try.prog.info? 4).map (fun i => (i.zero, i.size, i.bytes)) = some (some (.bool false), 1, 1) := by kernel_rfl
def AllRel (wl : World) (n : Nat) (v i : Value) (wx : World) : Prop := ∃ j : Nat, j ≤ n ∧ i = .int .i64 (j : Int) ∧ wx.ownsRow wl.heap.size 4 1 v j (List.replicate j (.bool true)) ∧ Fr [] wl wx
set_option maxHeartbeats 2000000 in
set_option maxRecDepth 100000 in
theorem whole_any (l : List ADat) (lv : Value) (w : World) (h : elemsAt w lv 5 (l.map ADat.cells)) (hok : ∀ a ∈ l, a.ok w) :
    Calls Try.prog 4 #[lv] w fun e w' => e = .returned (.bool true) ∧ Fr [] w w' := by
  have HFW := Lib.hid (few_any l lv w h hok)
  have HAW := Lib.hid (fun wx => awake_any wx)
  obtain ⟨a1, c1, rfl, hle, hmx⟩ := h.form
  rw [List.length_map] at h hle HFW ⊢
  by_cases hfw : fewB l = true
  · rw [hfw] at HFW
    have hfew := of_decide_eq_true hfw
    have HE := Lib.hid h
    have HOK := Lib.hid hok
    have HFE := Lib.hid hfew.2
    have hl40 : l.length ≤ 40 := hfew.1
    have hmx' : c1 ≤ 9223372036854775807 := by simpa [maxLen] using hmx
    clear h hok hfew hfw hmx
    go_enter Try.func4, Try.ntmps4
    go_wp2_with (first
      | (go_at_call 5; refine HFW.out.mono ?_; rintro e w1 ⟨rfl, rfl⟩)
      | (go_at_call 7; have := hD1; refine (dnew_any _).mono ?_; rintro e w0 ⟨p2, B2, rfl, hD2, hf2, hB2⟩)
      | (go_at_call 7; refine (dnew_any _).mono ?_; rintro e w1 ⟨p, B1, rfl, hD1, hf1, hB1⟩))
    have hfa := Fr.alloc w0 (.cells #[.slice none 0 0, .slice none 0 0, .slice none 0 0] 30)
    have hha := heap_alloc_new w0 (.cells #[.slice none 0 0, .slice none 0 0, .slice none 0 0] 30)
    obtain ⟨w2, hw2⟩ : ∃ w2, w2 = w0.alloc (.cells #[.slice none 0 0, .slice none 0 0, .slice none 0 0] 30) := ⟨_, rfl⟩
    obtain ⟨F0, hF0⟩ : ∃ F0, F0 = w0.heap.size := ⟨_, rfl⟩
    rw [← hF0, ← hw2]
    rw [← hw2] at hha hfa
    rw [← hF0] at hha
    have hF0w : w.heap.size ≤ F0 := by have := hf1.size; have := hf2.size; omega
    have hstart : WholeRel w p p2 F0 l (.int .i64 0) w2 := ⟨0, ⟨[], [], []⟩, B1, B2, Nat.zero_le _, rfl, ⟨by simp [sortedL], by simp [sortedL], fun _ h => by simp at h, fun _ h => by simp at h, fun _ h => by simp at h, by simp, by simp⟩, _, _, _, (hD1.below hf2).below hfa, hD2.below hfa, ⟨World.ownsRow_nil _ _ _ _, World.ownsRow_nil _ _ _ _, World.ownsRow_nil _ _ _ _⟩, hha, hB1, fun k hk => by have := hB2 k hk; have := hf1.size; omega, fun k hk hk2 => by have := hD1.lt k hk; have := hB2 k hk2; omega, (hf1.trans hf2 (by simp) (n := []) (by simp)).trans hfa (by simp) (by simp)⟩
    clear hfa hha hw2 hF0 hD1 hf1 hB1 hD2 hf2 hB2
    go_loopw [6] (WholeRel w p p2 F0 l) (fun iv _ => l.length - (intOf iv).toNat)
    case atStart => exact hstart
    case round =>
      clear hstart
      obtain ⟨k, s, B, B2, hk, rfl, hoks, nv, sv, ov, hD, hDy, hR, hh, hBw, hBw2, hdj, hf⟩ := hrel
      by_cases hkn : k < l.length
      · have hd2 : decide (k < l.length) = true := decide_eq_true hkn
        have hkl : k ≤ 40 := by omega
        obtain ⟨b1, off1, rfl, -, hb1w, -⟩ := act_cells HE.out k hkn
        have hel := fun wx (hx : Fr [] w wx) => (act_cells (HE.out.below hx) k hkn)
        have hak := HOK.out _ (List.getElem_mem hkn)
        have hfk := HFE.out _ (List.getElem_mem hkn)
        obtain ⟨A, hA⟩ : ∃ A, A = l[k] := ⟨_, rfl⟩
        rw [← hA] at hel hak hfk
        have hcl : ∀ wx, Fr [] w wx → wx.cell? ⟨b1, off1 + k * 5, none⟩ = some (.int .i64 A.kind) ∧ wx.cell? ⟨b1, off1 + k * 5 + 1, none⟩ = some (encStr A.a) ∧ wx.cell? ⟨b1, off1 + k * 5 + 2, none⟩ = some (encStr A.b) ∧ wx.cell? ⟨b1, off1 + k * 5 + 3, none⟩ = some (.int .i64 A.n) ∧ wx.cell? ⟨b1, off1 + k * 5 + 4, none⟩ = some A.kv := by
          intro wx hx
          obtain ⟨b', off', e, _, _, h1⟩ := hel wx hx
          cases e
          exact h1
        have hap : ∀ j, A.kv.ownBlock = some j → A.keep ≠ [] → j ∉ B := fun j hj hne hm => by
          have h1 := hak.1.lt (by simpa using hne) j hj
          have := hBw j hm; omega
        have hap2 : ∀ j, A.kv.ownBlock = some j → A.keep ≠ [] → j ∉ B2 := fun j hj hne hm => by
          have h1 := hak.1.lt (by simpa using hne) j hj
          have := hBw2 j hm; omega
        have hdo := fun wx (hx : Fr [] wr wx) => do_any p k B s nv sv ov A wx (hD.below hx) (hR.below hx) hoks (by omega) (hak.below (hf.trans hx (by simp) (by simp))) hfk hap
        have hdo2 := fun wx (hx : Fr B wr wx) (hx2 : Fr [] w wx) => do_any p2 k B2 s nv sv ov A wx (hDy.kept hx (fun j hj hm => hdj j hm hj)) (hR.keptD hD hx) hoks (by omega) (hak.below hx2) hfk hap2
        have hoks2 := hoks.step A hfk
        obtain ⟨s2, hs2⟩ : ∃ s2, s2 = stepD s A := ⟨_, rfl⟩
        rw [← hs2] at hdo hdo2 hoks2
        simp only [ADat.val] at hdo hdo2
        obtain ⟨x4, y4, hkv, -, -⟩ := hak.1.form
        rw [List.length_map] at hkv
        simp only [hkv] at hdo hdo2 hcl
        obtain ⟨x1, y1, x2, y2, x3, y3, rfl, rfl, rfl⟩ := hR.slices
        have HDO := Lib.hid hdo
        have HDO2 := Lib.hid hdo2
        have HCL := Lib.hid hcl
        have HH := Lib.hid hh
        have HF := Lib.hid hf
        have HOS := Lib.hid hoks2
        have HBW := Lib.hid hBw
        have HBW2 := Lib.hid hBw2
        have HBL := Lib.hid hD.lt
        have HBL2 := Lib.hid hDy.lt
        have HDJ := Lib.hid hdj
        have HDY := Lib.hid hDy
        have hF0B := hD.apart hh (by decide) (by decide)
        have HFB := Lib.hid hF0B
        have hF0B2 := hDy.apart hh (by decide) (by decide)
        have HFB2 := Lib.hid hF0B2
        clear hel hdo hdo2 hcl hh hf hak hfk hap hap2 hs2 hA hkv hoks hoks2 hBw hBw2 hdj hR hD hDy hF0B hF0B2
        go_upto_region 9 with fail
        go_cut [7, 8] (fun s8 s9 wx => Mid2 wr p B s2 (k + 1) s8 s9 wx)
        case first =>
          have hws := HF.out.size
          have hF0r : F0 < wr.heap.size := (Array.getElem?_eq_some_iff.1 HH.out).1
          refine wp_region_F (FrB wr.heap.size B) (FrB.refl _ _) (fun _ _ _ => FrB.trans) [(0, false), (1, false), (2, false), (3, false), (4, false), (5, false)] 6 10 [(7, false), (8, false), (9, false), (10, true), (11, true), (12, false)] [(6, true), (7, false), (8, false), (9, false), (11, true), (12, false)] 135 rfl (by kernel_rfl) (by kernel_rfl) (by kernel_rfl) (fun c a d v w h => by cases d <;> exact h) ?_
          simp only [List.map_cons, List.map_nil, List.getElem?_toArray, List.getElem?_cons_succ, List.getElem?_cons_zero, Option.getD_some]
          have hfd := Fr.drew wr
          have hsd : wr.drew.heap.size = wr.heap.size := rfl
          obtain ⟨wd, hwd⟩ : ∃ wd, wd = wr.drew := ⟨_, rfl⟩
          rw [← hwd] at hfd hsd ⊢
          clear hwd
          have HFD := Lib.hid hfd
          have HSD := Lib.hid hsd
          have hHd := hfd.heap HH.out (by simp)
          have hCd := HCL.out wd (HF.out.trans hfd (by simp) (by simp))
          have hF0B := HFB.out
          have hb1B : b1 ∉ B := fun hm => by have := HBW.out b1 hm; omega
          have hb1r : b1 < wr.heap.size := by omega
          have LH : Hid (∀ w', FrB wr.heap.size B wd w' → w'.heap[F0]? = some (.cells #[.slice x1 s.now.length y1, .slice x2 s.safe.length y2, .slice x3 s.ops.length y3] 30 (0, 0))) := Lib.hid (fun w' hf' => hf'.heap hHd hF0r hF0B)
          have LC : Hid (∀ w', FrB wr.heap.size B wd w' → w'.cell? ⟨b1, off1 + k * 5, none⟩ = some (.int .i64 A.kind) ∧ w'.cell? ⟨b1, off1 + k * 5 + 1, none⟩ = some (encStr A.a) ∧ w'.cell? ⟨b1, off1 + k * 5 + 2, none⟩ = some (encStr A.b) ∧ w'.cell? ⟨b1, off1 + k * 5 + 3, none⟩ = some (.int .i64 A.n) ∧ w'.cell? ⟨b1, off1 + k * 5 + 4, none⟩ = some (.slice x4 A.keep.length y4)) :=
            Lib.hid (fun w' hf' => ⟨hf'.cell hCd.1 hb1r hb1B, hf'.cell hCd.2.1 hb1r hb1B, hf'.cell hCd.2.2.1 hb1r hb1B, hf'.cell hCd.2.2.2.1 hb1r hb1B, hf'.cell hCd.2.2.2.2 hb1r hb1B⟩)
          clear hfd hsd hHd hCd hb1B hF0B
          repeat (apply wpT_t; · (intro w' hf'; obtain ⟨c1, c2, c3, -, -, -⟩ := three_of_heap (LH.out w' hf'); obtain ⟨d0, d1, d2, d3, d4⟩ := LC.out w' hf'; go_wp2_with fail; exact ⟨rfl, rfl⟩))
          refine wpT_end ⟨?_, ?_⟩
          · simp only [List.map_cons, List.map_nil, List.getElem?_toArray, List.getElem?_cons_succ, List.getElem?_cons_zero, Option.getD_some]
            refine wpT_x ?_
            go_wp2_with (go_at_call 8; refine (HDO.out _ HFD.out).mono ?_; rintro e w4 ⟨B4, nv4, sv4, ov4, rfl, hD4, hR4, hf4, hB4⟩; obtain ⟨n1, m1, n2, m2, n3, m3, rfl, rfl, rfl⟩ := hR4.slices)
            refine ⟨FrB.of hf4 (by rw [HSD.out]; exact Nat.le_refl _) (fun i hi _ => hi), rfl, ?_⟩
            repeat (apply wpT_t; · (intro w' hf'; go_wp2_with fail; exact ⟨rfl, rfl⟩))
            refine wpT_x ?_
            go_wp2_with fail
            have hw4 : wr.heap.size ≤ w4.heap.size := by have := hf4.size; have := HSD.out; omega
            have hfz := Fr.alloc w4 (.cells #[.slice none 0 0, .slice none 0 0, .slice none 0 0] 30)
            have hN := heap_alloc_new w4 (.cells #[.slice none 0 0, .slice none 0 0, .slice none 0 0] 30)
            refine ⟨FrB.of hfz (by omega) (by simp), rfl, ?_⟩
            obtain ⟨wz, hwz⟩ : ∃ wz, wz = w4.alloc (.cells #[.slice none 0 0, .slice none 0 0, .slice none 0 0] 30) := ⟨_, rfl⟩
            obtain ⟨N0, hN0⟩ : ∃ N0, N0 = w4.heap.size := ⟨_, rfl⟩
            rw [← hwz, ← hN0]
            rw [← hwz] at hfz hN
            rw [← hN0] at hN hw4
            clear hwz hN0
            have HN := Lib.hid hN
            have HFZ := Lib.hid hfz
            obtain ⟨q0, q1, q2, q3, q4, q5⟩ := three_of_heap hN
            clear hN hfz
            refine wpT_x ?_
            go_wp2_with fail
            refine ⟨FrB.of (Fr.set3 wz N0 _ _ _) (by have := HFZ.out.size; have := hf4.size; have := HSD.out; omega) (by simp; omega), rfl, ?_⟩
            clear q0 q1 q2 q3 q4 q5
            repeat (apply wpT_t; · (intro w' hf'; go_wp2_with fail; exact ⟨rfl, rfl⟩))
            refine wpT_end ?_
            go_wp2_with fail
            go_meet
            exact mid2_mk (hD4.below HFZ.out) (hR4.below HFZ.out) HN.out (by omega) (fun j hj => (hB4 j hj).imp id (fun h => by have := HSD.out; omega)) ((HFD.out.trans hf4 (n := B) (by simp) (fun _ hk _ => hk)).trans HFZ.out (fun _ hk _ => hk) (by simp))
          · simp only [List.map_cons, List.map_nil, List.getElem?_toArray, List.getElem?_cons_succ, List.getElem?_cons_zero, Option.getD_some]
            refine wpT_x ?_
            go_wp2_with fail
            have hfz := Fr.alloc wd (.cells #[.slice none 0 0, .slice none 0 0, .slice none 0 0] 30)
            have hN := heap_alloc_new wd (.cells #[.slice none 0 0, .slice none 0 0, .slice none 0 0] 30)
            refine ⟨FrB.of hfz (by rw [HSD.out]; exact Nat.le_refl _) (by simp), rfl, ?_⟩
            obtain ⟨wz, hwz⟩ : ∃ wz, wz = wd.alloc (.cells #[.slice none 0 0, .slice none 0 0, .slice none 0 0] 30) := ⟨_, rfl⟩
            obtain ⟨N0, hN0⟩ : ∃ N0, N0 = wd.heap.size := ⟨_, rfl⟩
            rw [← hwz, ← hN0]
            rw [← hwz] at hfz hN
            rw [← hN0] at hN
            have hNr : N0 = wr.heap.size := by rw [hN0]; exact HSD.out
            have HNR := Lib.hid hNr
            clear hwz hN0 hNr
            have HN := Lib.hid hN
            have HFZ := Lib.hid hfz
            clear hN hfz
            have hdz := HDO.out wz (HFD.out.trans HFZ.out (by simp) (by simp))
            have HDZ := Lib.hid hdz
            clear hdz
            refine wpT_x ?_
            go_wp2_with (go_at_call 8; refine HDZ.out.mono ?_; rintro e w4 ⟨B4, nv4, sv4, ov4, rfl, hD4, hR4, hf4, hB4⟩; obtain ⟨n1, m1, n2, m2, n3, m3, rfl, rfl, rfl⟩ := hR4.slices)
            have hwz : wr.heap.size ≤ wz.heap.size := by have := HFZ.out.size; have := HSD.out; omega
            refine ⟨FrB.of hf4 hwz (fun i hi _ => hi), rfl, ?_⟩
            repeat (apply wpT_t; · (intro w' hf'; go_wp2_with fail; exact ⟨rfl, rfl⟩))
            have hN4 := hf4.heap HN.out (fun hm => by have := HBL.out N0 hm; have := HNR.out; omega)
            obtain ⟨q0, q1, q2, q3, q4, q5⟩ := three_of_heap hN4
            refine wpT_x ?_
            go_wp2_with fail
            refine ⟨FrB.of (Fr.set3 w4 N0 _ _ _) (by have := hf4.size; omega) (by have := HNR.out; simp; omega), rfl, ?_⟩
            clear q0 q1 q2 q3 q4 q5
            repeat (apply wpT_t; · (intro w' hf'; go_wp2_with fail; exact ⟨rfl, rfl⟩))
            refine wpT_end ?_
            go_wp2_with fail
            go_meet
            have hnr := HNR.out
            exact mid2_mk hD4 hR4 hN4 (by omega) (fun j hj => (hB4 j hj).imp id (fun h => by omega)) ((HFD.out.trans HFZ.out (by simp) (n := []) (by simp)).trans hf4 (n := B) (by simp) (fun _ hk _ => hk))
        case rest =>
          obtain ⟨N0, B4, nv4, sv4, ov4, rfl, rfl, hD4, hR4, hN4, hNr, hB4, hf4⟩ := hcut
          obtain ⟨n1, m1, n2, m2, n3, m3, rfl, rfl, rfl⟩ := hR4.slices
          have hfw4 : Fr [] w wc := HF.out.new hf4 HBW.out
          have hDy4 := HDY.out.kept hf4 (fun j hj hm => HDJ.out j hm hj)
          have hF4 := hf4.heap HH.out HFB.out
          have hNB2 := hDy4.apart hN4 (by decide) (by decide)
          have hdj4 : ∀ j ∈ B4, j ∉ B2 := fun j hj hm => (hB4 j hj).elim (fun h => HDJ.out j h hm) (fun h => by have := HBL2.out j hm; omega)
          have hb12 : b1 ∉ B2 := fun hm => by have := HBW2.out b1 hm; omega
          have HD4 := Lib.hid hD4
          have HL4 := Lib.hid hD4.lt
          have HR4 := Lib.hid hR4
          have HN4 := Lib.hid hN4
          have HB4 := Lib.hid hB4
          have HF4 := Lib.hid hf4
          have HFW4 := Lib.hid hfw4
          have HDY4 := Lib.hid hDy4
          have HFF4 := Lib.hid hF4
          have HNB2 := Lib.hid hNB2
          have HDJ4 := Lib.hid hdj4
          clear hD4 hR4 hN4 hB4 hf4 hfw4 hDy4 hF4 hNB2 hdj4
          go_upto_region 10 with fail
          refine wp_region_G B2 [(0, false), (1, false), (2, false), (3, false), (4, false), (5, false), (6, true)] 135 rfl (by kernel_rfl) (by kernel_rfl) (by kernel_rfl) (fun c a d v w h => by cases d <;> exact h) (fun wd hfd => ?_)
          simp only [List.map_cons, List.map_nil, List.getElem?_toArray, List.getElem?_cons_succ, List.getElem?_cons_zero, Option.getD_some]
          have LH : Hid (∀ w', Fr B2 wd w' → w'.heap[F0]? = some (.cells #[.slice x1 s.now.length y1, .slice x2 s.safe.length y2, .slice x3 s.ops.length y3] 30 (0, 0))) := Lib.hid (fun w' hf' => hf'.heap (hfd.heap HFF4.out (by simp)) HFB2.out)
          have hCd := HCL.out wd (HFW4.out.trans hfd (by simp) (by simp))
          have LC : Hid (∀ w', Fr B2 wd w' → w'.cell? ⟨b1, off1 + k * 5, none⟩ = some (.int .i64 A.kind) ∧ w'.cell? ⟨b1, off1 + k * 5 + 1, none⟩ = some (encStr A.a) ∧ w'.cell? ⟨b1, off1 + k * 5 + 2, none⟩ = some (encStr A.b) ∧ w'.cell? ⟨b1, off1 + k * 5 + 3, none⟩ = some (.int .i64 A.n) ∧ w'.cell? ⟨b1, off1 + k * 5 + 4, none⟩ = some (.slice x4 A.keep.length y4)) :=
            Lib.hid (fun w' hf' => ⟨hf'.cell hCd.1 hb12, hf'.cell hCd.2.1 hb12, hf'.cell hCd.2.2.1 hb12, hf'.cell hCd.2.2.2.1 hb12, hf'.cell hCd.2.2.2.2 hb12⟩)
          have HFD := Lib.hid hfd
          clear hfd hCd hb12
          repeat (apply wpG_t; · (intro w' hf'; obtain ⟨c1, c2, c3, -, -, -⟩ := three_of_heap (LH.out w' hf'); obtain ⟨d0, d1, d2, d3, d4⟩ := LC.out w' hf'; go_wp2_with fail; exact ⟨rfl, rfl⟩))
          refine wpG_x ?_
          go_wp2_with (go_at_call 8; refine (HDO2.out wd (HF4.out.andTrans HFD.out) (HFW4.out.trans HFD.out (by simp) (by simp))).mono ?_; rintro e w5 ⟨B5, nv5, sv5, ov5, rfl, hD5, hR5, hf5, hB5⟩; obtain ⟨g1, e1, g2, e2, g3, e3, rfl, rfl, rfl⟩ := hR5.slices)
          refine ⟨hf5, rfl, ?_⟩
          refine wpG_end ?_
          have hN5 := hf5.heap (HFD.out.heap HN4.out (by simp)) HNB2.out
          have hF5 := hf5.heap (HFD.out.heap HFF4.out (by simp)) HFB2.out
          obtain ⟨q0, q1, q2, -, -, -⟩ := three_of_heap hN5
          obtain ⟨u0, u1, u2, u3, u4, u5⟩ := three_of_heap hF5
          have HD5 := Lib.hid hD5
          have HF5 := Lib.hid hf5
          have HB5 := Lib.hid hB5
          have HFF5 := Lib.hid hF5
          clear hD5 hR5 hf5 hB5 hN5 hF5
          go_wp2_with fail
          have hxD := ((HD4.out.below HFD.out).kept HF5.out HDJ4.out).set HFF5.out (x := .slice n1 s2.now.length m1) (y := .slice n2 s2.safe.length m2) (z := .slice n3 s2.ops.length m3)
          have hyD := HD5.out.set HFF5.out (x := .slice n1 s2.now.length m1) (y := .slice n2 s2.safe.length m2) (z := .slice n3 s2.ops.length m3)
          have hRR := ((HR4.out.below HFD.out).keptD (HDY4.out.below HFD.out) HF5.out).set HFF5.out (x := .slice n1 s2.now.length m1) (y := .slice n2 s2.safe.length m2) (z := .slice n3 s2.ops.length m3)
          have hHH := heap_set3 HFF5.out (x := .slice n1 s2.now.length m1) (y := .slice n2 s2.safe.length m2) (z := .slice n3 s2.ops.length m3)
          have hws := HF.out.size
          have hcs := HF4.out.size
          have hds := HFD.out.size
          refine ⟨⟨k + 1, s2, B4, B5, by omega, by go_num, HOS.out, _, _, _, hxD, hyD, hRR, hHH, fun j hj => (HB4.out j hj).elim (HBW.out j) (fun h => by omega), fun j hj => (HB5.out j hj).elim (HBW2.out j) (fun h => by omega), fun j hj hm => (HB5.out j hm).elim (HDJ4.out j hj) (fun h => by have := HL4.out j hj; omega), ?_⟩, by simp [intOf]; omega⟩
          exact (((HFW4.out.trans HFD.out (by simp) (n := []) (by simp)).new HF5.out HBW2.out)).trans (Fr.set3 _ _ _ _ _) (by simp) (by simp; omega)
      · have hd2 : decide (k < l.length) = false := decide_eq_false hkn
        obtain ⟨i0, hi, hz0, hz1, hz2⟩ := info_parts infoBool
        obtain ⟨x1, y1, x2, y2, x3, y3, rfl, rfl, rfl⟩ := hR.slices
        have hpe := fun wx (hx : Fr [] wr wx) => dpending_any p k B s.now s.safe (s.ops.map normO) wx (hD.below hx)
        rw [List.length_map] at hpe
        have hall : crashL s.safe (s.ops.map normO) (List.replicate s.ops.length true) = s.now := by
          rw [crash_all _ _ _ (by rw [List.length_map]), ← hD.sorted]
        have hnone : crashL s.safe (s.ops.map normO) [] = s.safe := crash_none _ _
        have HPE := Lib.hid hpe
        have HALL := Lib.hid hall
        have HNONE := Lib.hid hnone
        have HD := Lib.hid hD
        have HDY := Lib.hid hDy
        have HR := Lib.hid hR
        have HH := Lib.hid hh
        have HBW := Lib.hid hBw
        have HBW2 := Lib.hid hBw2
        have HDJ := Lib.hid hdj
        have HBL2 := Lib.hid hDy.lt
        have HF := Lib.hid hf
        have HOS := Lib.hid hoks
        have hk40 : k ≤ 40 := by omega
        have hn40 : s.ops.length ≤ 40 := by have := hoks.ls; omega
        have hs40 : s.safe.length ≤ 40 := by have := hoks.ls; omega
        have hw40 : s.now.length ≤ 40 := by have := hoks.ln; omega
        clear hpe hall hnone hD hDy hR hh hBw hBw2 hdj hf hoks
        go_wp2_with fail
        obtain ⟨wl, hwl⟩ : ∃ wl, wl = wr := ⟨_, rfl⟩
        rw [← hwl] at HPE HD HDY HR HH HBL2 HF ⊢
        clear hwl
        go_loopw [9, 10] (AllRel wl s.ops.length) (fun _ iv _ => s.ops.length - (intOf iv).toNat)
        case atStart => exact ⟨0, Nat.zero_le _, rfl, World.ownsRow_nil _ _ _ _, Fr.refl _ _⟩
        case round =>
          obtain ⟨j, hj, rfl, hrow, hfj⟩ := hrel
          have hws := hfj.size
          by_cases hjn : j < s.ops.length
          · have hd3 : decide (j < s.ops.length) = true := decide_eq_true hjn
            have HRW := Lib.hid hrow
            have HFJ := Lib.hid hfj
            clear hrow hfj
            go_wp2_with (first
              | (go_at_call 10; refine (HPE.out _ HFJ.out).mono ?_; rintro e w6 ⟨rfl, rfl⟩)
              | (at_builtin; refine wpL_append1 rfl _ _ 33 rfl wl.heap.size 4 i0 (.bool false) 1 Try.underlying33 hi hz0 hz1 hz2 rfl _ j (List.replicate j (.bool true)) rfl HRW.out (.bool true) rfl rfl (by omega) (by simp [maxLen]; omega) hws ?_; intro v6 w6 hown6 hf6 hb6))
            have hf7 : Fr [] wl w6 := HFJ.out.own HRW.out hf6
            go_wp2_with fail
            refine ⟨⟨j + 1, by omega, by go_num, by rw [List.replicate_succ']; exact hown6, hf7⟩, by simp [intOf]; omega⟩
          · have hd3 : decide (j < s.ops.length) = false := decide_eq_false hjn
            obtain rfl : j = s.ops.length := by omega
            obtain ⟨a9, c9, rfl, -, -⟩ := owns_slice hrow
            have hcells : cellsAt wr (.slice a9 s.ops.length c9) ((List.replicate s.ops.length true).map Value.bool) := by
              rw [List.map_replicate]
              exact cellsAt_of_owns (by rw [List.length_replicate]; exact hrow)
            have hDr := HD.out.below hfj
            have hDYr := HDY.out.below hfj
            have HNX := Lib.hid (dnames_any p k B _ _ _ wr hDr HOS.out.sn (by omega))
            have hcx := fun wx (hx : Fr [] wr wx) => dcrash_any p k B s.now s.safe (s.ops.map normO) (List.replicate s.ops.length true) _ wx (hDr.below hx) (hcells.below hx) (by rw [List.length_replicate]; omega) (by omega)
            rw [HALL.out] at hcx
            have HCX := Lib.hid hcx
            have HPW := Lib.hid (HPE.out wr hfj)
            have hcy := fun wx (hx : Fr B wr wx) => dcrash_any p2 k B2 s.now s.safe (s.ops.map normO) [] (.slice none 0 0) wx (hDYr.kept hx (fun j hj hm => HDJ.out j hm hj)) (cellsAt.nil _) (by simp) (by omega)
            rw [HNONE.out] at hcy
            have HCY := Lib.hid hcy
            have HDR := Lib.hid hDr
            have HDYR := Lib.hid hDYr
            have HRR := Lib.hid (HR.out.below hfj)
            have HHR := Lib.hid (hfj.heap HH.out (by simp))
            have HFR := Lib.hid (HF.out.trans hfj (by simp) (n := []) (by simp))
            have HBL2R : Hid (∀ j ∈ B2, j < wr.heap.size) := Lib.hid (fun j hj => by have := HBL2.out j hj; omega)
            clear hcells hDr hDYr hcx hcy hrow hfj hws HPE HD HDY HR HH HF HBL2
            go_wp2_with (first
              | (go_at_call 10; refine HPW.out.mono ?_; rintro e w4 ⟨rfl, rfl⟩)
              | (go_at_call 9; have := w7; refine (dnames_any p k B6 _ _ _ w7 HD7.out HOS.out.sn (by omega)).mono ?_; rintro e w8 ⟨v8, rfl, hro8, hf8⟩; obtain ⟨x8, y8, rfl, -, -⟩ := owns_slice hro8)
              | (go_at_call 9; refine HNX.out.mono ?_; rintro e w5 ⟨v5, rfl, hro5, hf5⟩; obtain ⟨x5, y5, rfl, -, -⟩ := owns_slice hro5; have HRO5 := Lib.hid hro5; have HF5 := Lib.hid hf5; clear hro5 hf5)
              | (go_at_call 13; have := w6; refine (HCY.out w6 (HF5.out.trans HF6.out (n := B) (by simp) (fun _ hk _ => hk))).mono ?_; rintro e w7 ⟨rfl, B7, hD7, hf7, hB7⟩; have HDY7 := Lib.hid hD7; have HF7 := Lib.hid hf7; have HB7 := Lib.hid hB7; have HD7 := Lib.hid (HD6.out.kept hf7 HDJ6.out); clear hD7 hf7 hB7)
              | (go_at_call 13; refine (HCX.out w5 HF5.out).mono ?_; rintro e w6 ⟨rfl, B6, hD6, hf6, hB6⟩; have HD6 := Lib.hid hD6; have HF6 := Lib.hid hf6; have HDX5 := Lib.hid (HDR.out.below HF5.out); have HDY6 := Lib.hid ((HDYR.out.below HF5.out).kept hf6 (fun j hj hm => HDJ.out j hm hj)); have HBW6 : Hid (∀ j ∈ B6, w.heap.size ≤ j) := Lib.hid (fun j hj => (hB6 j hj).elim (HBW.out j) (fun h => by have := HF5.out.size; have := HFR.out.size; omega)); have HDJ6 : Hid (∀ j ∈ B6, j ∉ B2) := Lib.hid (fun j hj hm => (hB6 j hj).elim (fun h => HDJ.out j h hm) (fun h => by have := HBL2R.out j hm; have := HF5.out.size; omega)); clear hD6 hf6 hB6))
            have hro7 : w7.ownsRow wr.heap.size 9 1 (.slice x5 s.now.length y5) s.now.length ((s.now.map (·.1)).map encStr) := owns_keptD (owns_keptD HRO5.out HDX5.out (by decide) (by decide) HF6.out) HDY6.out (by decide) (by decide) HF7.out
            have hwas : w8.ownsRow wr.heap.size 9 1 (.slice x5 s.now.length y5) ((s.now.map (·.1)).map encStr).length ((s.now.map (·.1)).map encStr) := by
              rw [List.length_map, List.length_map]; exact owns_kept hro7 hf8 (by simp)
            have hgot : w8.ownsRow w7.heap.size 9 1 (.slice x8 s.now.length y8) ((s.now.map (·.1)).map encStr).length ((s.now.map (·.1)).map encStr) := by
              rw [List.length_map, List.length_map]; exact hro8
            have HWAS := Lib.hid (cellsAt_of_owns hwas)
            have HGOT := Lib.hid (cellsAt_of_owns hgot)
            have HR8 := Lib.hid ((((HRR.out.below HF5.out).keptD HDX5.out HF6.out).keptD HDY6.out HF7.out).below hf8)
            have hF5 := HF5.out.heap HHR.out (by simp)
            have hF6 := HF6.out.heap hF5 (HDX5.out.apart hF5 (by decide) (by decide))
            have hF7 := HF7.out.heap hF6 (HDY6.out.apart hF6 (by decide) (by decide))
            have HF08 := Lib.hid (hf8.heap hF7 (by simp))
            have HX8 := Lib.hid (HD7.out.below hf8)
            have HY8 := Lib.hid (HDY7.out.below hf8)
            have HFR8 := Lib.hid ((((HFR.out.trans HF5.out (by simp) (n := []) (by simp)).new HF6.out HBW.out).new HF7.out HBW2.out).trans hf8 (by simp) (n := []) (by simp))
            have HNY := Lib.hid (fun wx (hx : Fr [] w8 wx) => (dnames_any p2 k B7 s.safe s.safe [] wx (HY8.out.below hx) HOS.out.ss (by omega)).mono (fun _ _ h => names_n h))
            clear hro7 hwas hgot hF5 hF6 hF7 hro8 hf8 HNX HCX HCY HPW HDR HDYR HRR HHR HBL2R HDX5 HDY6 HDJ6 HF6 HF7 HB7 HDY7 HD7 HD6 HRO5
            refine wp_region_G [] [(0, false), (1, false), (2, false), (3, false), (4, false), (5, false), (6, false), (9, false), (10, false), (11, false), (7, true), (8, false), (12, false), (13, false)] 135 rfl (by kernel_rfl) (by kernel_rfl) (by kernel_rfl) (fun c a d v w h => by cases d <;> exact h) (fun wd hfd => ?_)
            simp only [List.map_cons, List.map_nil, List.getElem?_toArray, List.getElem?_cons_succ, List.getElem?_cons_zero, Option.getD_some]
            have LH : Hid (∀ w', Fr [] wd w' → w'.heap[F0]? = some (.cells #[.slice x1 s.now.length y1, .slice x2 s.safe.length y2, .slice x3 s.ops.length y3] 30 (0, 0))) := Lib.hid (fun w' hf' => hf'.heap (hfd.heap HF08.out (by simp)) (by simp))
            have HFD := Lib.hid hfd
            clear hfd
            repeat (apply wpG_t; · (intro w' hf'; obtain ⟨d1, d2, d3, -, -, -⟩ := three_of_heap (LH.out w' hf'); go_wp2_with fail; exact ⟨rfl, rfl⟩))
            refine wpG_x ?_
            go_wp2_with (go_at_call 9; refine (HNY.out _ HFD.out).mono ?_; rintro e w9 ⟨x9, y9, rfl, hf9⟩)
            refine ⟨hf9, rfl, ?_⟩
            have HF9 := Lib.hid (HFD.out.trans hf9 (by simp) (n := []) (by simp))
            clear hf9
            repeat (apply wpG_t; · (intro w' hf'; go_wp2_with fail; exact ⟨rfl, rfl⟩))
            refine wpG_end ?_
            go_wp2_with fail
            go_loopw [13] (InRel w9 s.now.length) (fun iv _ => s.now.length - (intOf iv).toNat)
            case atStart => exact ⟨0, Nat.zero_le _, rfl, Fr.refl _ _⟩
            case round =>
              obtain ⟨j, hj, rfl, hfj⟩ := hrel
              have hf8w : Fr [] w8 wr := HF9.out.trans hfj (by simp) (by simp)
              by_cases hjn : j < s.now.length
              · have hd3 : decide (j < s.now.length) = true := decide_eq_true hjn
                have hgl : j < ((s.now.map (·.1)).map encStr).length := by simpa using hjn
                obtain ⟨bg, og, rfl, -, hcg⟩ := (HGOT.out.below hf8w).get (i := j) hgl
                obtain ⟨bw, ow, rfl, -, hcw⟩ := (HWAS.out.below hf8w).get (i := j) hgl
                have hc1 := hcg j hgl
                have hc2 := hcw j hgl
                rw [List.getElem_map, List.getElem_map] at hc1 hc2
                obtain ⟨x, hx⟩ : ∃ x, x = (s.now[j]'hjn).1 := ⟨_, rfl⟩
                rw [← hx] at hc1 hc2
                have LW : Hid (∀ w', Fr [] wr w' → w'.cell? ⟨bg, og + j, none⟩ = some (encStr x) ∧ w'.cell? ⟨bw, ow + j, none⟩ = some (encStr x)) := Lib.hid (fun w' hf' => ⟨hf'.cell hc1 (by simp), hf'.cell hc2 (by simp)⟩)
                have HFJ := Lib.hid hfj
                clear hcg hcw hc1 hc2 hx hgl hfj hf8w
                go_upto_region 26 with fail
                refine wp_region_G [] [(0, false), (1, false), (2, false), (3, false), (4, false), (5, false), (6, false), (7, false), (8, false)] 135 rfl (by kernel_rfl) (by kernel_rfl) (by kernel_rfl) (fun c a d v w h => by cases d <;> exact h) (fun wq hfq => ?_)
                simp only [List.map_cons, List.map_nil, List.getElem?_toArray, List.getElem?_cons_succ, List.getElem?_cons_zero, Option.getD_some]
                have HFQ := Lib.hid hfq
                clear hfq
                repeat (apply wpG_t; · (intro w' hf'; obtain ⟨k0, k1⟩ := LW.out w' (HFQ.out.trans hf' (by simp) (by simp)); go_wp2_with fail; exact ⟨rfl, rfl⟩))
                refine wpG_end ?_
                go_wp2_with fail
                refine ⟨⟨j + 1, by omega, by go_num, HFJ.out.trans HFQ.out (by simp) (by simp)⟩, by simp [intOf]; omega⟩
              · have hd3 : decide (j < s.now.length) = false := decide_eq_false hjn
                have HFW8 := Lib.hid hf8w
                clear hfj hf8w
                go_wp2_with fail
                obtain ⟨w10, hw10⟩ : ∃ w10, w10 = wr := ⟨_, rfl⟩
                rw [← hw10] at HFW8 ⊢
                clear hw10
                go_loopw [14] (InRel w10 s.safe.length) (fun iv _ => s.safe.length - (intOf iv).toNat)
                case atStart => exact ⟨0, Nat.zero_le _, rfl, Fr.refl _ _⟩
                case round =>
                  obtain ⟨i, hi', rfl, hfi⟩ := hrel
                  have hf8i : Fr [] w8 wr := HFW8.out.trans hfi (by simp) (by simp)
                  obtain ⟨d1, d2, d3, -, -, -⟩ := three_of_heap (hf8i.heap HF08.out (by simp))
                  by_cases hin : i < s.safe.length
                  · have hd4 : decide (i < s.safe.length) = true := decide_eq_true hin
                    obtain ⟨b2, off2, rfl, -, -, hn0, hn1⟩ := duo_cells (HR8.out.2.1.elems.below hf8i) i hin
                    have hlm := look_mem HOS.out.ss _ (List.getElem_mem hin)
                    have hkx := HOS.out.ks _ (List.getElem_mem hin)
                    obtain ⟨E, hE⟩ : ∃ E, E = s.safe[i]'hin := ⟨_, rfl⟩
                    rw [← hE] at hn0 hn1 hlm hkx
                    obtain ⟨x, v⟩ := E
                    simp only at hn0 hn1 hlm hkx
                    have hge := dget_any p2 k B7 s.safe s.safe [] x wr (HY8.out.below hf8i) hkx
                    rw [show numL s.safe x = v from by unfold numL; rw [hlm]; rfl, show (lookL s.safe x).isSome = true from by rw [hlm]; rfl] at hge
                    have HGX := Lib.hid hge
                    have HFI := Lib.hid hfi
                    clear hge hlm hkx hE hfi hf8i
                    go_wp2_with (go_at_call 11; refine HGX.out.mono ?_; rintro e w6 ⟨rfl, rfl⟩)
                    refine ⟨⟨i + 1, by omega, by go_num, HFI.out⟩, by simp [intOf]; omega⟩
                  · have hd4 : decide (i < s.safe.length) = false := decide_eq_false hin
                    have HPX := Lib.hid (dpending_any p k B6 _ _ _ wr (HX8.out.below hf8i))
                    have HPY := Lib.hid (dpending_any p2 k B7 _ _ _ wr (HY8.out.below hf8i))
                    have HFZ := Lib.hid (HFR8.out.trans hf8i (by simp) (n := []) (by simp))
                    clear hfi hf8i
                    go_wp2_with (first
                      | (go_at_call 10; refine HPX.out.mono ?_; rintro e w11 ⟨rfl, rfl⟩)
                      | (go_at_call 10; refine HPY.out.mono ?_; rintro e w11 ⟨rfl, rfl⟩)
                      | (go_at_call 6; refine (HAW.out _).mono ?_; rintro e w' ⟨rfl, hfa⟩))
                    go_ret
                    exact ⟨rfl, HFZ.out.trans hfa (by simp) (by simp)⟩
  · have hfw' : fewB l = false := by simpa using hfw
    rw [hfw'] at HFW
    clear h hok hfw hfw'
    go_enter Try.func4, Try.ntmps4
    go_wp2_with (first
      | (go_at_call 5; refine HFW.out.mono ?_; rintro e w1 ⟨rfl, rfl⟩)
      | (go_at_call 6; refine (HAW.out _).mono ?_; rintro e w' ⟨rfl, hf⟩))
    go_ret
    exact ⟨rfl, hf⟩
end Go.Proofs.Ytjmkieacaejcgaa
