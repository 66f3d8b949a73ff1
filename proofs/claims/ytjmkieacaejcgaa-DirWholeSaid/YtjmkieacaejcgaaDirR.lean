/- DirPlays: after any acts all names, their numbers and the number of pending operations are as specified. -/
import Derived.Test.YtjmkieacaejcgaaDirO
import Derived.Test.YtjmkieacaejcgaaDirQ
namespace Go.Proofs.Ytjmkieacaejcgaa
open Go.RowKit Go.Maps

theorem elems_struct {w : World} {a0 : Option Addr} {n cap : Nat} {l : List ADat} (h : elemsAt w (.slice a0 n cap) 5 (l.map ADat.cells)) : n = l.length := by
  rcases h with ⟨_, _, e, _, e2⟩ | ⟨b, off, cap', e, _⟩
  · rw [List.map_eq_nil_iff] at e2; subst e2
    simp only [Value.slice.injEq] at e; exact e.2.1
  · simp only [Value.slice.injEq, List.length_map] at e; exact e.2.1
/-- The program's directory and the document's, the latter in the variable F0. -/
def TwoD (w : World) (p F0 : Nat) (B : List Nat) (s : StD) (m : Nat) (wx : World) : Prop :=
  ∃ nv sv ov, isD wx p B s.now s.safe (s.ops.map normO) m ∧ RD wx nv sv ov s.now s.safe s.ops ∧ wx.heap[F0]? = some (.cells #[nv, sv, ov] 30 (0, 0)) ∧ (∀ k ∈ B, w.heap.size ≤ k) ∧ Fr [] w wx
def PlayRel (w : World) (p F0 : Nat) (l : List ADat) (iv : Value) (wx : World) : Prop :=
  ∃ (k : Nat) (s : StD) (B : List Nat), k ≤ l.length ∧ iv = .int .i64 (k : Int) ∧ okS s k ∧ TwoD w p F0 B s k wx
/-- Behind do: what is next lies in a variable of its own. -/
def PlayMid (w : World) (p F0 : Nat) (s : StD) (m : Nat) (v8 v9 : Value) (wx : World) : Prop :=
  ∃ N0 B nv sv ov x1 y1 z1 x2 y2 z2 x3 y3 z3, v8 = .pointer (some ⟨N0, 0, none⟩) ∧ v9 = .bool true ∧ isD wx p B s.now s.safe (s.ops.map normO) m ∧ RD wx nv sv ov s.now s.safe s.ops ∧ wx.heap[N0]? = some (.cells #[nv, sv, ov] 30 (0, 0)) ∧
    wx.heap[F0]? = some (.cells #[.slice x1 y1 z1, .slice x2 y2 z2, .slice x3 y3 z3] 30 (0, 0)) ∧ (∀ k ∈ B, w.heap.size ≤ k) ∧ Fr [] w wx
theorem RD.set {w : World} {q : Nat} {nv sv ov x y z : Value} {now safe : List Ent} {ops : List OpD} {cs : Array Value} {fr : Nat × Nat} (h : RD w nv sv ov now safe ops) (hq : w.heap[q]? = some (.cells cs 30 fr)) :
    RD (((w.setCell ⟨q, 0, none⟩ x).setCell ⟨q, 1, none⟩ y).setCell ⟨q, 2, none⟩ z) nv sv ov now safe ops := by
  have hfs := Fr.set3 w q x y z
  exact ⟨owns_kept h.1 hfs (fun k hk => by simpa using owns_ne h.1 hq (by decide) k hk), owns_kept h.2.1 hfs (fun k hk => by simpa using owns_ne h.2.1 hq (by decide) k hk), owns_kept h.2.2 hfs (fun k hk => by simpa using owns_ne h.2.2 hq (by decide) k hk)⟩
theorem isD.set {w : World} {q p m : Nat} {x y z : Value} {B : List Nat} {now safe : List Ent} {ops : List OpD} {cs : Array Value} {fr : Nat × Nat} (h : isD w p B now safe ops m) (hq : w.heap[q]? = some (.cells cs 30 fr)) :
    isD (((w.setCell ⟨q, 0, none⟩ x).setCell ⟨q, 1, none⟩ y).setCell ⟨q, 2, none⟩ z) p B now safe ops m :=
  h.kept (Fr.set3 w q x y z) (fun k hk hm => h.apart hq (by decide) (by decide) (by
    obtain rfl : k = q := by simpa using hm
    exact hk))
theorem mid_mk {w wz : World} {p F0 N0 m : Nat} {B : List Nat} {s : StD} {nv sv ov : Value} {x1 x2 x3 : Option Addr} {y1 z1 y2 z2 y3 z3 : Nat} (hD : isD wz p B s.now s.safe (s.ops.map normO) m) (hR : RD wz nv sv ov s.now s.safe s.ops) (hN : wz.heap[N0]? = some (.cells #[.slice none 0 0, .slice none 0 0, .slice none 0 0] 30 (0, 0)))
    (hh : wz.heap[F0]? = some (.cells #[.slice x1 y1 z1, .slice x2 y2 z2, .slice x3 y3 z3] 30 (0, 0))) (hNF : N0 ≠ F0) (hNw : w.heap.size ≤ N0) (hB : ∀ k ∈ B, w.heap.size ≤ k) (hf : Fr [] w wz) :
    PlayMid w p F0 s m (.pointer (some ⟨N0, 0, none⟩)) (.bool true) (((wz.setCell ⟨N0, 0, none⟩ nv).setCell ⟨N0, 1, none⟩ sv).setCell ⟨N0, 2, none⟩ ov) := by
  have hfs := Fr.set3 wz N0 nv sv ov
  exact ⟨N0, B, nv, sv, ov, x1, y1, z1, x2, y2, z2, x3, y3, z3, rfl, rfl, hD.set hN, hR.set hN, heap_set3 hN, hfs.heap hh (by simpa using Ne.symm hNF), hB, hf.trans hfs (by simp) (by simp; omega)⟩
def InRel (w5 : World) (n : Nat) (iv : Value) (wx : World) : Prop := ∃ k : Nat, k ≤ n ∧ iv = .int .i64 (k : Int) ∧ Fr [] w5 wx
set_option maxHeartbeats 2000000 in
set_option maxRecDepth 100000 in
theorem plays_any (l : List ADat) (nm : List UInt8) (lv : Value) (w : World) (h : elemsAt w lv 5 (l.map ADat.cells)) (hok : ∀ a ∈ l, a.ok w) (hnm : nm.length ≤ maxLen) :
    Calls Try.prog 3 #[lv, encStr nm] w fun e w' => e = .returned (.bool true) ∧ Fr [] w w' := by
  have HFW := Lib.hid (few_any l lv w h hok)
  have HAW := Lib.hid (fun wx => awake_any wx)
  obtain ⟨a1, c1, rfl, hle, hmx⟩ := h.form
  rw [List.length_map] at h hle HFW ⊢
  by_cases hfw : fewB l = true
  · rw [hfw] at HFW
    have hfew := of_decide_eq_true hfw
    have HE := Lib.hid h
    have HOK := Lib.hid hok
    have HFE := Lib.hid hfew.2
    have hl40 : l.length ≤ 40 := hfew.1
    have HNM := Lib.hid hnm
    have hmx' : c1 ≤ 9223372036854775807 := by simpa [maxLen] using hmx
    clear h hok hfew hfw hnm hmx
    go_enter Try.func3, Try.ntmps3
    go_wp2_with (first
      | (go_at_call 5; refine HFW.out.mono ?_; rintro e w1 ⟨rfl, rfl⟩)
      | (go_at_call 7; refine (dnew_any _).mono ?_; rintro e w1 ⟨p, B1, rfl, hD1, hf1, hB1⟩))
    have hfa := Fr.alloc w1 (.cells #[.slice none 0 0, .slice none 0 0, .slice none 0 0] 30)
    have hha := heap_alloc_new w1 (.cells #[.slice none 0 0, .slice none 0 0, .slice none 0 0] 30)
    obtain ⟨w2, hw2⟩ : ∃ w2, w2 = w1.alloc (.cells #[.slice none 0 0, .slice none 0 0, .slice none 0 0] 30) := ⟨_, rfl⟩
    obtain ⟨F0, hF0⟩ : ∃ F0, F0 = w1.heap.size := ⟨_, rfl⟩
    rw [← hF0, ← hw2]
    rw [← hw2] at hha hfa
    rw [← hF0] at hha
    have hF0w : w.heap.size ≤ F0 := by have := hf1.size; omega
    have hstart : PlayRel w p F0 l (.int .i64 0) w2 := ⟨0, ⟨[], [], []⟩, B1, Nat.zero_le _, rfl, ⟨by simp [sortedL], by simp [sortedL], fun _ h => by simp at h, fun _ h => by simp at h, fun _ h => by simp at h, by simp, by simp⟩, _, _, _, hD1.below hfa, ⟨World.ownsRow_nil _ _ _ _, World.ownsRow_nil _ _ _ _, World.ownsRow_nil _ _ _ _⟩, hha, hB1, hf1.trans hfa (by simp) (by simp)⟩
    clear hfa hha hw2 hF0 hD1 hf1 hB1
    go_loopw [7] (PlayRel w p F0 l) (fun iv _ => l.length - (intOf iv).toNat)
    case atStart => exact hstart
    case round =>
      clear hstart
      obtain ⟨k, s, B, hk, rfl, hoks, nv, sv, ov, hD, hR, hh, hBw, hf⟩ := hrel
      by_cases hkn : k < l.length
      · have hd2 : decide (k < l.length) = true := decide_eq_true hkn
        have hkl : k ≤ 40 := by omega
        obtain ⟨b1, off1, rfl, -, hb1w, -⟩ := act_cells HE.out k hkn
        have hel := fun wx (hx : Fr [] w wx) => (act_cells (HE.out.below hx) k hkn)
        have hak := HOK.out _ (List.getElem_mem hkn)
        have hfk := HFE.out _ (List.getElem_mem hkn)
        obtain ⟨A, hA⟩ : ∃ A, A = l[k] := ⟨_, rfl⟩
        rw [← hA] at hel hak hfk
        have hcl : ∀ wx, Fr [] w wx → wx.cell? ⟨b1, off1 + k * 5, none⟩ = some (.int .i64 A.kind) ∧ wx.cell? ⟨b1, off1 + k * 5 + 1, none⟩ = some (encStr A.a) ∧ wx.cell? ⟨b1, off1 + k * 5 + 2, none⟩ = some (encStr A.b) ∧ wx.cell? ⟨b1, off1 + k * 5 + 3, none⟩ = some (.int .i64 A.n) ∧ wx.cell? ⟨b1, off1 + k * 5 + 4, none⟩ = some A.kv := by
          intro wx hx
          obtain ⟨b', off', e, _, _, h1⟩ := hel wx hx
          cases e
          exact h1
        have hap : ∀ j, A.kv.ownBlock = some j → A.keep ≠ [] → j ∉ B := fun j hj hne hm => by
          have h1 := hak.1.lt (by simpa using hne) j hj
          have := hBw j hm; omega
        have hdo := fun wx (hx : Fr [] wr wx) => do_any p k B s nv sv ov A wx (hD.below hx) (hR.below hx) hoks (by omega) (hak.below (hf.trans hx (by simp) (by simp))) hfk hap
        have hoks2 := hoks.step A hfk
        obtain ⟨s2, hs2⟩ : ∃ s2, s2 = stepD s A := ⟨_, rfl⟩
        rw [← hs2] at hdo hoks2
        simp only [ADat.val] at hdo
        obtain ⟨x4, y4, hkv, -, -⟩ := hak.1.form
        rw [List.length_map] at hkv
        simp only [hkv] at hdo hcl
        obtain ⟨x1, y1, x2, y2, x3, y3, rfl, rfl, rfl⟩ := hR.slices
        have HDO := Lib.hid hdo
        have HCL := Lib.hid hcl
        have HH := Lib.hid hh
        have HF := Lib.hid hf
        have HOS := Lib.hid hoks2
        have HBW := Lib.hid hBw
        have HBL := Lib.hid hD.lt
        have hF0B := hD.apart hh (by decide) (by decide)
        have HFB := Lib.hid hF0B
        clear hel hdo hcl hh hf hak hfk hap hs2 hA hkv hoks hoks2 hBw hR hD hF0B
        go_upto_region 8 with fail
        go_cut [8, 9] (fun s8 s9 wx => PlayMid w p F0 s2 (k + 1) s8 s9 wx)
        case first =>
          have hws := HF.out.size
          have hF0r : F0 < wr.heap.size := (Array.getElem?_eq_some_iff.1 HH.out).1
          refine wp_region_F (FrB wr.heap.size B) (FrB.refl _ _) (fun _ _ _ => FrB.trans) [(0, false), (1, false), (2, false), (3, false), (4, false), (5, false)] 6 10 [(7, false), (8, false), (9, false), (10, true), (11, true), (12, false)] [(6, true), (7, false), (8, false), (9, false), (11, true), (12, false)] 137 rfl (by kernel_rfl) (by kernel_rfl) (by kernel_rfl) (fun c a d v w h => by cases d <;> exact h) ?_
          simp only [List.map_cons, List.map_nil, List.getElem?_toArray, List.getElem?_cons_succ, List.getElem?_cons_zero, Option.getD_some]
          have hfd := Fr.drew wr
          have hsd : wr.drew.heap.size = wr.heap.size := rfl
          obtain ⟨wd, hwd⟩ : ∃ wd, wd = wr.drew := ⟨_, rfl⟩
          rw [← hwd] at hfd hsd ⊢
          clear hwd
          have HFD := Lib.hid hfd
          have HSD := Lib.hid hsd
          have hHd := hfd.heap HH.out (by simp)
          have hCd := HCL.out wd (HF.out.trans hfd (by simp) (by simp))
          have hF0B := HFB.out
          have hb1B : b1 ∉ B := fun hm => by have := HBW.out b1 hm; omega
          have hb1r : b1 < wr.heap.size := by omega
          have LH : Hid (∀ w', FrB wr.heap.size B wd w' → w'.heap[F0]? = some (.cells #[.slice x1 s.now.length y1, .slice x2 s.safe.length y2, .slice x3 s.ops.length y3] 30 (0, 0))) := Lib.hid (fun w' hf' => hf'.heap hHd hF0r hF0B)
          have LC : Hid (∀ w', FrB wr.heap.size B wd w' → w'.cell? ⟨b1, off1 + k * 5, none⟩ = some (.int .i64 A.kind) ∧ w'.cell? ⟨b1, off1 + k * 5 + 1, none⟩ = some (encStr A.a) ∧ w'.cell? ⟨b1, off1 + k * 5 + 2, none⟩ = some (encStr A.b) ∧ w'.cell? ⟨b1, off1 + k * 5 + 3, none⟩ = some (.int .i64 A.n) ∧ w'.cell? ⟨b1, off1 + k * 5 + 4, none⟩ = some (.slice x4 A.keep.length y4)) :=
            Lib.hid (fun w' hf' => ⟨hf'.cell hCd.1 hb1r hb1B, hf'.cell hCd.2.1 hb1r hb1B, hf'.cell hCd.2.2.1 hb1r hb1B, hf'.cell hCd.2.2.2.1 hb1r hb1B, hf'.cell hCd.2.2.2.2 hb1r hb1B⟩)
          clear hfd hsd hHd hCd hb1B hF0B
          repeat (apply wpT_t; · (intro w' hf'; obtain ⟨c1, c2, c3, -, -, -⟩ := three_of_heap (LH.out w' hf'); obtain ⟨d0, d1, d2, d3, d4⟩ := LC.out w' hf'; go_wp2_with fail; exact ⟨rfl, rfl⟩))
          refine wpT_end ⟨?_, ?_⟩
          · simp only [List.map_cons, List.map_nil, List.getElem?_toArray, List.getElem?_cons_succ, List.getElem?_cons_zero, Option.getD_some]
            refine wpT_x ?_
            go_wp2_with (go_at_call 8; refine (HDO.out _ HFD.out).mono ?_; rintro e w4 ⟨B4, nv4, sv4, ov4, rfl, hD4, hR4, hf4, hB4⟩; obtain ⟨n1, m1, n2, m2, n3, m3, rfl, rfl, rfl⟩ := hR4.slices)
            refine ⟨FrB.of hf4 (by rw [HSD.out]; exact Nat.le_refl _) (fun i hi _ => hi), rfl, ?_⟩
            repeat (apply wpT_t; · (intro w' hf'; go_wp2_with fail; exact ⟨rfl, rfl⟩))
            refine wpT_x ?_
            go_wp2_with fail
            have hw4 : wr.heap.size ≤ w4.heap.size := by have := hf4.size; have := HSD.out; omega
            have hfz := Fr.alloc w4 (.cells #[.slice none 0 0, .slice none 0 0, .slice none 0 0] 30)
            have hN := heap_alloc_new w4 (.cells #[.slice none 0 0, .slice none 0 0, .slice none 0 0] 30)
            refine ⟨FrB.of hfz (by omega) (by simp), rfl, ?_⟩
            obtain ⟨wz, hwz⟩ : ∃ wz, wz = w4.alloc (.cells #[.slice none 0 0, .slice none 0 0, .slice none 0 0] 30) := ⟨_, rfl⟩
            obtain ⟨N0, hN0⟩ : ∃ N0, N0 = w4.heap.size := ⟨_, rfl⟩
            rw [← hwz, ← hN0]
            rw [← hwz] at hfz hN
            rw [← hN0] at hN hw4
            clear hwz hN0
            have HN := Lib.hid hN
            have HFZ := Lib.hid hfz
            obtain ⟨q0, q1, q2, q3, q4, q5⟩ := three_of_heap hN
            clear hN hfz
            refine wpT_x ?_
            go_wp2_with fail
            refine ⟨FrB.of (Fr.set3 wz N0 _ _ _) (by have := HFZ.out.size; have := hf4.size; have := HSD.out; omega) (by simp; omega), rfl, ?_⟩
            clear q0 q1 q2 q3 q4 q5
            repeat (apply wpT_t; · (intro w' hf'; go_wp2_with fail; exact ⟨rfl, rfl⟩))
            refine wpT_end ?_
            go_wp2_with fail
            go_meet
            exact mid_mk (hD4.below HFZ.out) (hR4.below HFZ.out) HN.out (HFZ.out.heap (hf4.heap (HFD.out.heap HH.out (by simp)) HFB.out) (by simp)) (by omega) (by omega) (fun j hj => (hB4 j hj).elim (HBW.out j) (fun h => by have := HSD.out; omega))
              ((((HF.out.trans HFD.out (by simp) (n := []) (by simp)).new hf4 HBW.out)).trans HFZ.out (by simp) (by simp))
          · simp only [List.map_cons, List.map_nil, List.getElem?_toArray, List.getElem?_cons_succ, List.getElem?_cons_zero, Option.getD_some]
            refine wpT_x ?_
            go_wp2_with fail
            have hfz := Fr.alloc wd (.cells #[.slice none 0 0, .slice none 0 0, .slice none 0 0] 30)
            have hN := heap_alloc_new wd (.cells #[.slice none 0 0, .slice none 0 0, .slice none 0 0] 30)
            refine ⟨FrB.of hfz (by rw [HSD.out]; exact Nat.le_refl _) (by simp), rfl, ?_⟩
            obtain ⟨wz, hwz⟩ : ∃ wz, wz = wd.alloc (.cells #[.slice none 0 0, .slice none 0 0, .slice none 0 0] 30) := ⟨_, rfl⟩
            obtain ⟨N0, hN0⟩ : ∃ N0, N0 = wd.heap.size := ⟨_, rfl⟩
            rw [← hwz, ← hN0]
            rw [← hwz] at hfz hN
            rw [← hN0] at hN
            have hNr : N0 = wr.heap.size := by rw [hN0]; exact HSD.out
            have HNR := Lib.hid hNr
            clear hwz hN0 hNr
            have HN := Lib.hid hN
            have HFZ := Lib.hid hfz
            clear hN hfz
            have hdz := HDO.out wz (HFD.out.trans HFZ.out (by simp) (by simp))
            have HDZ := Lib.hid hdz
            clear hdz
            refine wpT_x ?_
            go_wp2_with (go_at_call 8; refine HDZ.out.mono ?_; rintro e w4 ⟨B4, nv4, sv4, ov4, rfl, hD4, hR4, hf4, hB4⟩; obtain ⟨n1, m1, n2, m2, n3, m3, rfl, rfl, rfl⟩ := hR4.slices)
            have hwz : wr.heap.size ≤ wz.heap.size := by have := HFZ.out.size; have := HSD.out; omega
            refine ⟨FrB.of hf4 hwz (fun i hi _ => hi), rfl, ?_⟩
            repeat (apply wpT_t; · (intro w' hf'; go_wp2_with fail; exact ⟨rfl, rfl⟩))
            have hN4 := hf4.heap HN.out (fun hm => by have := HBL.out N0 hm; have := HNR.out; omega)
            obtain ⟨q0, q1, q2, q3, q4, q5⟩ := three_of_heap hN4
            refine wpT_x ?_
            go_wp2_with fail
            refine ⟨FrB.of (Fr.set3 w4 N0 _ _ _) (by have := hf4.size; omega) (by have := HNR.out; simp; omega), rfl, ?_⟩
            clear q0 q1 q2 q3 q4 q5
            repeat (apply wpT_t; · (intro w' hf'; go_wp2_with fail; exact ⟨rfl, rfl⟩))
            refine wpT_end ?_
            go_wp2_with fail
            go_meet
            have hnr := HNR.out
            exact mid_mk hD4 hR4 hN4 (hf4.heap (HFZ.out.heap (HFD.out.heap HH.out (by simp)) (by simp)) HFB.out) (by omega) (by omega) (fun j hj => (hB4 j hj).elim (HBW.out j) (fun h => by omega))
              ((HF.out.trans (HFD.out.trans HFZ.out (by simp) (n := []) (by simp)) (by simp) (n := []) (by simp)).new hf4 HBW.out)
        case rest =>
          obtain ⟨N0, B4, nv4, sv4, ov4, r1, t1, z1, r2, t2, z2, r3, t3, z3, rfl, rfl, hD4, hR4, hN4, hh4, hB4, hf4⟩ := hcut
          obtain ⟨n1, m1, n2, m2, n3, m3, rfl, rfl, rfl⟩ := hR4.slices
          obtain ⟨q0, q1, q2, -, -, -⟩ := three_of_heap hN4
          obtain ⟨u0, u1, u2, u3, u4, u5⟩ := three_of_heap hh4
          go_upto_region 10 with fail
          have hfs := Fr.set3 wc F0 (.slice n1 s2.now.length m1) (.slice n2 s2.safe.length m2) (.slice n3 s2.ops.length m3)
          have hFs := heap_set3 hh4 (x := .slice n1 s2.now.length m1) (y := .slice n2 s2.safe.length m2) (z := .slice n3 s2.ops.length m3)
          have hD5 := hD4.set hh4 (x := .slice n1 s2.now.length m1) (y := .slice n2 s2.safe.length m2) (z := .slice n3 s2.ops.length m3)
          have hR5 := hR4.set hh4 (x := .slice n1 s2.now.length m1) (y := .slice n2 s2.safe.length m2) (z := .slice n3 s2.ops.length m3)
          have hf5 : Fr [] w _ := hf4.trans hfs (by simp) (by simp; omega)
          obtain ⟨wr2, hwr2⟩ : ∃ wr2, wr2 = ((wc.setCell ⟨F0, 0, none⟩ (.slice n1 s2.now.length m1)).setCell ⟨F0, 1, none⟩ (.slice n2 s2.safe.length m2)).setCell ⟨F0, 2, none⟩ (.slice n3 s2.ops.length m3) := ⟨_, rfl⟩
          rw [← hwr2] at hFs hD5 hR5 hf5 ⊢
          clear hwr2 hfs hD4 hR4 hN4 hh4 hf4 q0 q1 q2 u0 u1 u2 u3 u4 u5
          have HD5 := Lib.hid hD5
          have HR5 := Lib.hid hR5
          have HFS := Lib.hid hFs
          have HFF := Lib.hid hf5
          have HB4 := Lib.hid hB4
          have HLN := Lib.hid HOS.out.ln
          have hla : s2.now.length ≤ 100 := by have := HOS.out.ln; omega
          have hlo : s2.ops.length ≤ 100 := by have := HOS.out.ls; omega
          have hpe := fun wx (hx : Fr [] wr2 wx) => dpending_any p (k + 1) B4 s2.now s2.safe (s2.ops.map normO) wx (hD5.below hx)
          rw [List.length_map] at hpe
          have HPE := Lib.hid hpe
          have HGE := Lib.hid (fun x (hx : x.length ≤ maxLen) wx (hx2 : Fr [] wr2 wx) => dget_any p (k + 1) B4 s2.now s2.safe (s2.ops.map normO) x wx (hD5.below hx2) hx)
          clear hpe hD5 hR5 hFs hf5 hB4
          go_wp2_with (go_at_call 9; refine (dnames_any p (k + 1) B4 _ _ _ _ HD5.out HOS.out.sn (by omega)).mono ?_; rintro e w5 ⟨v5, rfl, hro5, hf5⟩; obtain ⟨x5, y5, rfl, -, -⟩ := owns_slice hro5)
          have HRO := Lib.hid hro5
          have HF5 := Lib.hid hf5
          clear hro5 hf5
          refine wp_region_G [] [(0, false), (1, false), (2, false), (3, false), (4, false), (5, false), (6, false), (7, false), (8, false), (9, false), (10, false), (11, false), (13, false), (14, false), (15, false), (12, true), (16, false), (17, false)] 137 rfl (by kernel_rfl) (by kernel_rfl) (by kernel_rfl) (fun c a d v w h => by cases d <;> exact h) (fun wd hfd => ?_)
          simp only [List.map_cons, List.map_nil, List.getElem?_toArray, List.getElem?_cons_succ, List.getElem?_cons_zero, Option.getD_some]
          have LH : Hid (∀ w', Fr [] wd w' → w'.heap[F0]? = some (.cells #[.slice n1 s2.now.length m1, .slice n2 s2.safe.length m2, .slice n3 s2.ops.length m3] 30 (0, 0))) := Lib.hid (fun w' hf' => hf'.heap (hfd.heap (HF5.out.heap HFS.out (by simp)) (by simp)) (by simp))
          have HFD := Lib.hid (HF5.out.trans hfd (by simp) (n := []) (by simp))
          have HFD5 := Lib.hid hfd
          clear hfd
          repeat (apply wpG_t; · (intro w' hf'; obtain ⟨c1, c2, c3, -, -, -⟩ := three_of_heap (LH.out w' hf'); go_wp2_with fail; exact ⟨rfl, rfl⟩))
          refine wpG_x ?_
          go_wp2_with (go_at_call 10; refine (HPE.out _ HFD.out).mono ?_; rintro e w6 ⟨rfl, rfl⟩)
          refine ⟨Fr.refl _ _, rfl, ?_⟩
          repeat (apply wpG_t; · (intro w' hf'; go_wp2_with fail; exact ⟨rfl, rfl⟩))
          refine wpG_end ?_
          go_wp2_with fail
          go_loopw [11] (InRel wd s2.now.length) (fun iv _ => s2.now.length - (intOf iv).toNat)
          case atStart => exact ⟨0, Nat.zero_le _, rfl, Fr.refl _ _⟩
          case round =>
            obtain ⟨j, hj, rfl, hfj⟩ := hrel
            have hfw5 : Fr [] wr2 wr := HFD.out.trans hfj (by simp) (by simp)
            have HFJ := Lib.hid hfw5
            by_cases hjn : j < s2.now.length
            · have hd3 : decide (j < s2.now.length) = true := decide_eq_true hjn
              have hgl : j < ((s2.now.map (·.1)).map encStr).length := by simpa using hjn
              have hro : w5.ownsRow wr2.heap.size 9 1 (.slice x5 s2.now.length y5) ((s2.now.map (·.1)).map encStr).length ((s2.now.map (·.1)).map encStr) := by rw [List.length_map, List.length_map]; exact HRO.out
              have hcw := (cellsAt_of_owns hro).below (HFD5.out.trans hfj (by simp) (n := []) (by simp))
              obtain ⟨bg, og, rfl, -, hcg⟩ := hcw.get (i := j) hgl
              have hcj := hcg j hgl
              rw [List.getElem_map, List.getElem_map] at hcj
              obtain ⟨b2, off2, rfl, -, -, hn0, hn1⟩ := duo_cells (HR5.out.1.elems.below hfw5) j hjn
              have hlm := look_mem HOS.out.sn _ (List.getElem_mem hjn)
              have hkx := HOS.out.kn _ (List.getElem_mem hjn)
              obtain ⟨E, hE⟩ : ∃ E, E = s2.now[j]'hjn := ⟨_, rfl⟩
              rw [← hE] at hcj hn0 hn1 hlm hkx
              obtain ⟨x, v⟩ := E
              simp only at hcj hn0 hn1 hlm hkx
              have hge := HGE.out x hkx wr hfw5
              rw [show numL s2.now x = v from by unfold numL; rw [hlm]; rfl, show (lookL s2.now x).isSome = true from by rw [hlm]; rfl] at hge
              have HGX := Lib.hid hge
              have LW : Hid (∀ w', Fr [] wr w' → w'.cell? ⟨bg, og + j, none⟩ = some (encStr x) ∧ w'.cell? ⟨b2, off2 + j * 2, none⟩ = some (encStr x) ∧ w'.cell? ⟨b2, off2 + j * 2 + 1, none⟩ = some (.int .i64 v) ∧ w'.heap[F0]? = some (.cells #[.slice (some ⟨b2, off2, none⟩) s2.now.length m1, .slice n2 s2.safe.length m2, .slice n3 s2.ops.length m3] 30 (0, 0))) :=
                Lib.hid (fun w' hf' => ⟨hf'.cell hcj (by simp), hf'.cell hn0 (by simp), hf'.cell hn1 (by simp), hf'.heap (hfw5.heap HFS.out (by simp)) (by simp)⟩)
              have HFJ2 := Lib.hid hfj
              clear hfj hfw5 hro hcw hcg hn0 hn1 hlm hkx hge hE hgl
              go_wp2_with (go_at_call 11; refine HGX.out.mono ?_; rintro e w6 ⟨rfl, rfl⟩)
              refine wp_region_G [] [(0, false), (1, false), (2, false), (3, false), (4, false), (5, false), (6, false), (7, false), (8, false), (9, false), (10, false), (11, false), (12, false), (13, false), (14, false), (15, false), (16, false), (17, false), (18, false), (19, false), (20, false), (21, false), (22, false), (23, false), (24, false)] 137 rfl (by kernel_rfl) (by kernel_rfl) (by kernel_rfl) (fun c a d v w h => by cases d <;> exact h) (fun wq hfq => ?_)
              simp only [List.map_cons, List.map_nil, List.getElem?_toArray, List.getElem?_cons_succ, List.getElem?_cons_zero, Option.getD_some]
              have HFQ := Lib.hid hfq
              clear hcj hfq
              repeat (apply wpG_t; · (intro w' hf'; obtain ⟨k0, k1, k2, k3⟩ := LW.out w' (HFQ.out.trans hf' (by simp) (by simp)); obtain ⟨c1, c2, c3, -, -, -⟩ := three_of_heap k3; clear k3; go_wp2_with fail; exact ⟨rfl, rfl⟩))
              refine wpG_end ?_
              go_wp2_with fail
              refine ⟨⟨j + 1, by omega, by go_num, HFJ2.out.trans HFQ.out (by simp) (by simp)⟩, by simp [intOf]; omega⟩
            · have hd3 : decide (j < s2.now.length) = false := decide_eq_false hjn
              have HFJ2 := Lib.hid hfj
              clear hfj hfw5
              go_wp2_with fail
              refine ⟨⟨k + 1, s2, B4, by omega, by go_num, HOS.out, _, _, _, HD5.out.below HFJ.out, HR5.out.below HFJ.out, HFJ.out.heap HFS.out (by simp), HB4.out, HFF.out.trans HFJ.out (by simp) (by simp)⟩, by simp [intOf]; omega⟩
      · have hd2 : decide (k < l.length) = false := decide_eq_false hkn
        have hge := dget_any p k B s.now s.safe (s.ops.map normO) nm wr hD HNM.out
        have hfi := rfind_any s.now nm nv wr hR.1.elems
        obtain ⟨x1, y1, x2, y2, x3, y3, rfl, rfl, rfl⟩ := hR.slices
        obtain ⟨c0, c1', c2, -, -, -⟩ := three_of_heap hh
        have HF := Lib.hid hf
        have hel := hR.1.elems
        cases hv : lookL s.now nm with
        | none =>
          rw [show numL s.now nm = 0 from by unfold numL; rw [hv]; rfl, hv] at hge
          rw [findI_none hv] at hfi
          have HGX := Lib.hid hge
          have HFX := Lib.hid hfi
          clear hge hfi hf hD hR hh hoks hBw hel hv
          go_wp2_with (first
            | (go_at_call 11; refine HGX.out.mono ?_; rintro e w6 ⟨rfl, rfl⟩)
            | (go_at_call 12; refine HFX.out.mono ?_; rintro e w6 ⟨rfl, rfl⟩)
            | (go_at_call 6; refine (HAW.out _).mono ?_; rintro e w' ⟨rfl, hfa⟩))
          go_ret
          exact ⟨rfl, HF.out.trans hfa (by simp) (by simp)⟩
        | some v =>
          rw [show numL s.now nm = v from by unfold numL; rw [hv]; rfl, hv] at hge
          obtain ⟨i, hi, hil, hiv⟩ := findI_of_look hv
          rw [hi] at hfi
          obtain ⟨b2, off2, rfl, -, -, hn0, hn1⟩ := duo_cells hel i hil
          rw [hiv] at hn1
          have HGX := Lib.hid hge
          have HFX := Lib.hid hfi
          have hi0 : decide (0 ≤ (i : Int)) = true := decide_eq_true (by omega)
          have hil' : i < s.now.length := hil
          clear hge hfi hf hD hR hh hoks hBw hel hv hi hiv hn0
          go_wp2_with (first
            | (go_at_call 11; refine HGX.out.mono ?_; rintro e w6 ⟨rfl, rfl⟩)
            | (go_at_call 12; refine HFX.out.mono ?_; rintro e w6 ⟨rfl, rfl⟩)
            | (go_at_call 6; refine (HAW.out _).mono ?_; rintro e w' ⟨rfl, hfa⟩))
          go_ret
          exact ⟨rfl, HF.out.trans hfa (by simp) (by simp)⟩
  · have hfw' : fewB l = false := by simpa using hfw
    rw [hfw'] at HFW
    clear h hok hfw hfw'
    go_enter Try.func3, Try.ntmps3
    go_wp2_with (first
      | (go_at_call 5; refine HFW.out.mono ?_; rintro e w1 ⟨rfl, rfl⟩)
      | (go_at_call 6; refine (HAW.out _).mono ?_; rintro e w' ⟨rfl, hf⟩))
    go_ret
    exact ⟨rfl, hf⟩
end Go.Proofs.Ytjmkieacaejcgaa
