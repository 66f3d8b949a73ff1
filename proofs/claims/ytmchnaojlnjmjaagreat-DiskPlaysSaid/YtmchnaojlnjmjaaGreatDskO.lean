/- DiskPlays (layer 11), whatever the program's disk is, so long as it keeps what ProgK says. -/
import Derived.Test.YtmchnaojlnjmjaaGreatDskN
import Derived.Test.YtmchnaojlnjmjaaGreatBs
import Derived.Deep.DeepCutAuto
namespace Go.Proofs.YtmchnaojlnjmjaaGreat
open Go.RowKit Go.Maps

/-- What the program's disk has to keep: PK w px pm d B, the disk at px with its meter at pm reads as d, all in the blocks of B. -/
structure ProgK (PK : World → Nat → Nat → DskD → List Nat → Prop) : Prop where
  kept : ∀ {w w' : World} {px pm : Nat} {d : DskD} {B L : List Nat}, PK w px pm d B → Fr L w w' → (∀ k ∈ B, k ∉ L) → PK w' px pm d B
  lt : ∀ {w : World} {px pm : Nat} {d : DskD} {B : List Nat}, PK w px pm d B → ∀ k ∈ B, k < w.heap.size
  clean : ∀ {w : World} {px pm : Nat} {d : DskD} {B : List Nat}, PK w px pm d B → clean w B
  new : ∀ (room : Int) (w : World), 0 ≤ room → room ≤ 9223372036854775807 → Calls Tryz.prog 6 #[.int .i64 room] w fun e w' => ∃ px pm B, e = .returned (.pointer (some ⟨px, 0, none⟩)) ∧ PK w' px pm ⟨[], [], [], [], room, 0, false, []⟩ B ∧ Fr [] w w' ∧ ∀ k ∈ B, w.heap.size ≤ k
  none_ : ∀ (room : Int) (w : World), room < 0 → Calls Tryz.prog 6 #[.int .i64 room] w fun e w' => e = .returned (.pointer none) ∧ Fr [] w w'
  answers : ∀ {w : World} {px pm : Nat} {d : DskD} {B : List Nat} {k : Nat}, PK w px pm d B → AllOk d k → k ≤ 400 → RightOk d → Answers px pm d w
  act : ∀ {w : World} {px pm : Nat} {d : DskD} {B : List Nat} {k : Nat} (A : ActK), PK w px pm d B → AllOk d k → k ≤ 400 → RightOk d → A.ok w → fewK A → A.off B →
    Calls Tryz.prog 9 #[.pointer (some ⟨px, 0, none⟩), A.val] w fun e w' => ∃ B', e = .returned (.int .i64 (plainK d A).2) ∧ PK w' px pm (plainK d A).1 B' ∧ Fr B w w' ∧ ∀ j ∈ B', j ∈ B ∨ w.heap.size ≤ j
  read : ∀ {w : World} {px pm : Nat} {d : DskD} {B : List Nat} {k : Nat} (m : List UInt8), PK w px pm d B → AllOk d k → k ≤ 400 → RightOk d → m.length ≤ maxLen →
    Calls Tryz.prog 11 #[.pointer (some ⟨px, 0, none⟩), encStr m] w fun e w' => ∃ v, e = .returned (.tuple #[v, .int .i64 (readK d m).2]) ∧ bytesAt w' v (readK d m).1 ∧ Fr [] w w'
  isName : ∀ (m : List UInt8) (w : World), m.length ≤ maxLen → Calls Tryz.prog 13 #[encStr m] w fun e w' => e = .returned (.bool (rightB m)) ∧ Fr [] w w'
  awake : ∀ w : World, Calls Tryz.prog 5 #[] w fun e w' => e = .returned (.bool true) ∧ Fr [] w w'

/-- The program's disk and the document's, the latter in the variable F0. -/
structure TwoK (PK : World → Nat → Nat → DskD → List Nat → Prop) (w : World) (px pm F0 : Nat) (B D : List Nat) (nv sv ov fv av : Value) (d : DskD) (wx : World) : Prop where
  pk : PK wx px pm d B
  rk : RK wx nv sv ov fv av d D
  box : wx.heap[F0]? = some (.cells #[nv, sv, ov, fv, .int .i64 d.room, .int .i64 d.steps, .bool d.down, av] 34 (0, 0))
  bw : ∀ k ∈ B, w.heap.size ≤ k
  fb : F0 ∉ B
  db : ∀ k ∈ D, k ∉ B
  df : ∀ k ∈ D, k ≠ F0
  fr : Fr [] w wx
def KPlayRel (PK : World → Nat → Nat → DskD → List Nat → Prop) (w : World) (px pm F0 : Nat) (l : List ActK) (iv : Value) (wx : World) : Prop :=
  ∃ (k : Nat) (d : DskD) (B D : List Nat) (nv sv ov fv av : Value), k ≤ l.length ∧ iv = .int .i64 (k : Int) ∧ AllOk d k ∧ RightOk d ∧ TwoK PK w px pm F0 B D nv sv ov fv av d wx
/-- Behind Plain: what is next lies in a variable of its own. -/
def KPlayMid (PK : World → Nat → Nat → DskD → List Nat → Prop) (w : World) (px pm F0 : Nat) (B : List Nat) (d d2 : DskD) (c2 : Int) (s10 s11 : Value) (wx : World) : Prop :=
  ∃ (N0 : Nat) (D : List Nat) (nv sv ov fv av x0 x1 x2 x3 x4 x5 x6 x7 : Value), s10 = .pointer (some ⟨N0, 0, none⟩) ∧ s11 = .int .i64 c2 ∧ PK wx px pm d B ∧ RK wx nv sv ov fv av d2 D ∧
    wx.heap[N0]? = some (.cells #[nv, sv, ov, fv, .int .i64 d2.room, .int .i64 d2.steps, .bool d2.down, av] 34 (0, 0)) ∧
    wx.heap[F0]? = some (.cells #[x0, x1, x2, x3, x4, x5, x6, x7] 34 (0, 0)) ∧ (∀ k ∈ D, k ∉ B) ∧ (∀ k ∈ D, k ≠ F0) ∧ F0 < N0 ∧ Fr [] w wx
theorem allOk_new (room : Int) : AllOk ⟨[], [], [], [], room, 0, false, []⟩ 0 :=
  ⟨⟨by simp [sortedL], by simp [sortedL], by simp, by simp, by simp, by simp, by simp, by simp, by simp, by simp, by simp, by simp, by simp⟩, by simp [kindsOk], by simp [okNames], by simp [okNames], by simp [okOps], by simp⟩
theorem rightOk_new (room : Int) : RightOk ⟨[], [], [], [], room, 0, false, []⟩ := ⟨by simp, by simp, by simp, by simp⟩
theorem rk_new (room : Int) (w : World) : RK w (.slice none 0 0) (.slice none 0 0) (.slice none 0 0) (.slice none 0 0) (.slice none 0 0) ⟨[], [], [], [], room, 0, false, []⟩ [] :=
  ⟨⟨World.ownsRow_nil _ _ _ _, World.ownsRow_nil _ _ _ _, World.ownsRow_nil _ _ _ _⟩, ⟨[], rfl, World.ownsRow_nil _ _ _ _, fun i h => by simp at h⟩, World.ownsRow_nil _ _ _ _, by simp⟩
theorem mem_of_look {l : List Ent} {m : List UInt8} {v : Int} (h : lookL l m = some v) : ∃ e ∈ l, e.1 = m := by
  unfold lookL at h
  cases hf : l.find? (fun e => e.1 = m) with
  | none => rw [hf] at h; simp at h
  | some e => exact ⟨e, List.mem_of_find?_eq_some hf, by simpa using List.find?_some hf⟩
theorem kmid_mk {PK : World → Nat → Nat → DskD → List Nat → Prop} (hP : ProgK PK) {w wz : World} {px pm F0 N0 : Nat} {B D : List Nat} {d d2 : DskD} {c2 : Int} {nv sv ov fv av x0 x1 x2 x3 x4 x5 x6 x7 z0 z1 z2 z3 z4 z5 z6 z7 : Value}
    (hpk : PK wz px pm d B) (hR : RK wz nv sv ov fv av d2 D) (hN : wz.heap[N0]? = some (.cells #[z0, z1, z2, z3, z4, z5, z6, z7] 34 (0, 0))) (hh : wz.heap[F0]? = some (.cells #[x0, x1, x2, x3, x4, x5, x6, x7] 34 (0, 0)))
    (hFN : F0 < N0) (hNw : w.heap.size ≤ N0) (hNB : N0 ∉ B) (hND : ∀ k ∈ D, k ≠ N0) (hdb : ∀ k ∈ D, k ∉ B) (hdf : ∀ k ∈ D, k ≠ F0) (hf : Fr [] w wz) :
    KPlayMid PK w px pm F0 B d d2 c2 (.pointer (some ⟨N0, 0, none⟩)) (.int .i64 c2) ((((((((wz.setCell ⟨N0, 0, none⟩ nv).setCell ⟨N0, 1, none⟩ sv).setCell ⟨N0, 2, none⟩ ov).setCell ⟨N0, 3, none⟩ fv).setCell ⟨N0, 4, none⟩ (.int .i64 d2.room)).setCell ⟨N0, 5, none⟩ (.int .i64 d2.steps)).setCell ⟨N0, 6, none⟩ (.bool d2.down)).setCell ⟨N0, 7, none⟩ av) := by
  have hfs := Fr.set8 wz N0 nv sv ov fv (.int .i64 d2.room) (.int .i64 d2.steps) (.bool d2.down) av
  refine ⟨N0, D, nv, sv, ov, fv, av, x0, x1, x2, x3, x4, x5, x6, x7, rfl, rfl, hP.kept hpk hfs (fun k hk hm => ?_), hR.box hN hND hfs, heap_set8 hN nv sv ov fv (.int .i64 d2.room) (.int .i64 d2.steps) (.bool d2.down) av, hfs.heap hh (by simp; omega), hdb, hdf, hFN, hf.trans hfs (by simp) (by simp; omega)⟩
  obtain rfl : k = N0 := by simpa using hm
  exact hNB hk
set_option maxRecDepth 100000 in
set_option maxHeartbeats 4000000 in
theorem diskplays_any {PK : World → Nat → Nat → DskD → List Nat → Prop} (hP : ProgK PK) (room : Int) (hr0 : -9223372036854775808 ≤ room) (hr1 : room ≤ 9223372036854775807) (l : List ActK) (lv : Value) (nm : List UInt8) (w : World) (h : elemsAt w lv 8 (l.map ActK.cells)) (hok : ∀ a ∈ l, a.ok w) (hnm : nm.length ≤ maxLen) :
    Calls Tryz.prog 3 #[.int .i64 room, lv, encStr nm] w fun e w' => e = .returned (.bool true) ∧ Fr [] w w' := by
  have HP := Lib.hid hP
  have HFW := Lib.hid (fewk_any l lv w h hok)
  have HAW := Lib.hid (fun wx => hP.awake wx)
  obtain ⟨a1, c1, rfl, hle, hmx⟩ := h.form
  rw [List.length_map] at h hle HFW ⊢
  by_cases hfw : fewLB l = true
  · have e1 : (if fewLB l = true then (1 : Int) else 0) = 1 := if_pos hfw
    rw [e1] at HFW
    have hfew := of_decide_eq_true hfw
    have HE := Lib.hid h
    have HOK := Lib.hid hok
    have HFE := Lib.hid hfew.2
    have hl60 : l.length ≤ 60 := hfew.1
    have HNM := Lib.hid hnm
    have hmx' : c1 ≤ 9223372036854775807 := by simpa [maxLen] using hmx
    have hnm' : nm.length ≤ 9223372036854775807 := by simpa [maxLen] using hnm
    clear h hok hfew hfw hnm hmx hP e1
    by_cases h100 : nm.length ≤ 100
    · have hd100 : decide (100 < (nm.length : Int)) = false := decide_eq_false (by omega)
      by_cases hr : room < 0
      · have hdr : decide (room < 0) = true := decide_eq_true hr
        have HNE := Lib.hid (fun wx => HP.out.none_ room wx hr)
        clear hr
        go_enter Tryz.func3, Tryz.ntmps3
        go_wp2_with (first
          | (go_at_call 4; refine HFW.out.mono ?_; rintro e w1 ⟨rfl, hf1⟩)
          | (go_at_call 6; refine (HNE.out _).mono ?_; rintro e w2 ⟨rfl, hf2⟩)
          | (go_at_call 5; refine (HAW.out _).mono ?_; rintro e w3 ⟨rfl, hf3⟩))
        go_ret
        exact ⟨rfl, (hf1.trans hf2 (by simp) (n := []) (by simp)).trans hf3 (by simp) (by simp)⟩
      · have hdr : decide (room < 0) = false := decide_eq_false hr
        have HNE := Lib.hid (fun wx => HP.out.new room wx (by omega) hr1)
        go_enter Tryz.func3, Tryz.ntmps3
        go_upto_region 9 with (first
          | (go_at_call 4; refine HFW.out.mono ?_; rintro e w1 ⟨rfl, hf1⟩)
          | (go_at_call 6; refine (HNE.out _).mono ?_; rintro e w2 ⟨px, pm, B1, rfl, hP2, hf2, hB2⟩)
          | (go_at_call 7; refine (knew_any _ _).mono ?_; rintro e w3 ⟨rfl, hf3⟩; unfold kval))
        have hfa := Fr.alloc w3 (.cells #[.slice none 0 0, .slice none 0 0, .slice none 0 0, .slice none 0 0, .int .i64 room, .int .i64 0, .bool false, .slice none 0 0] 34)
        have hba := heap_alloc_new w3 (.cells #[.slice none 0 0, .slice none 0 0, .slice none 0 0, .slice none 0 0, .int .i64 room, .int .i64 0, .bool false, .slice none 0 0] 34)
        obtain ⟨w4, hw4⟩ : ∃ w4, w4 = w3.alloc (.cells #[.slice none 0 0, .slice none 0 0, .slice none 0 0, .slice none 0 0, .int .i64 room, .int .i64 0, .bool false, .slice none 0 0] 34) := ⟨_, rfl⟩
        obtain ⟨F0, hF0⟩ : ∃ F0, F0 = w3.heap.size := ⟨_, rfl⟩
        rw [← hw4] at hfa hba ⊢
        rw [← hF0] at hba ⊢
        have hF0w : w.heap.size ≤ F0 := by have := hf1.size; have := hf2.size; have := hf3.size; omega
        have hf34 := hf3.trans hfa (by simp) (n := []) (by simp)
        have hstart : KPlayRel PK w px pm F0 l (.int .i64 0) w4 :=
          ⟨0, _, B1, [], _, _, _, _, _, Nat.zero_le _, rfl, allOk_new room, rightOk_new room, HP.out.kept hP2 hf34 (by simp), rk_new room w4, hba, fun k hk => by have := hB2 k hk; have := hf1.size; omega, fun hm => by have := HP.out.lt hP2 _ hm; have := hf3.size; omega, by simp, by simp, (hf1.trans hf2 (by simp) (n := []) (by simp)).trans hf34 (by simp) (by simp)⟩
        clear hfa hba hw4 hF0 hf34 hf1 hf2 hf3 hP2 hB2 hr
        go_wp2_with fail
        go_loopw [9] (KPlayRel PK w px pm F0 l) (fun iv _ => l.length - (intOf iv).toNat)
        case atStart => exact hstart
        case round =>
          clear hstart
          obtain ⟨k, d, B, D, nv, sv, ov, fv, av, hk, rfl, hOK, hRT, hT⟩ := hrel
          by_cases hkn : k < l.length
          · have hd2 : decide (k < l.length) = true := decide_eq_true hkn
            have hkl : k ≤ 60 := by omega
            obtain ⟨b1, off1, rfl, -, hb1w, -⟩ := actK_cells HE.out k hkn
            have hel := fun wx (hx : Fr [] w wx) => (actK_cells (HE.out.below hx) k hkn)
            have hak := HOK.out _ (List.getElem_mem hkn)
            have hfk := HFE.out _ (List.getElem_mem hkn)
            obtain ⟨A, hA⟩ : ∃ A, A = l[k] := ⟨_, rfl⟩
            rw [← hA] at hel hak hfk
            have hcl : ∀ wx, Fr [] w wx → wx.cell? ⟨b1, off1 + k * 8, none⟩ = some (.int .i64 A.kind) ∧ wx.cell? ⟨b1, off1 + k * 8 + 1, none⟩ = some (encStr A.a) ∧ wx.cell? ⟨b1, off1 + k * 8 + 2, none⟩ = some (encStr A.b) ∧ wx.cell? ⟨b1, off1 + k * 8 + 3, none⟩ = some A.dv ∧ wx.cell? ⟨b1, off1 + k * 8 + 4, none⟩ = some (.int .i64 A.n) ∧ wx.cell? ⟨b1, off1 + k * 8 + 5, none⟩ = some A.kv ∧ wx.cell? ⟨b1, off1 + k * 8 + 6, none⟩ = some A.zv ∧ wx.cell? ⟨b1, off1 + k * 8 + 7, none⟩ = some A.cv := by
              intro wx hx
              obtain ⟨b', off', e, _, _, h1⟩ := hel wx hx
              cases e
              exact h1
            have hoff : A.off B := hak.off hT.bw
            have hpl := fun wx (hx : Fr [] wr wx) => plain_any nv sv ov fv av d D A k wx (hT.rk.below hx) hOK (by omega) (hak.below (hT.fr.trans hx (by simp) (by simp))) hfk
            have hdo := fun wx (hp : PK wx px pm d B) (hx : Fr [] w wx) => HP.out.act A hp hOK (by omega) hRT (hak.below hx) hfk hoff
            have hOK2 := hOK.plain A hfk
            have hRT2 := hRT.plain hOK A
            obtain ⟨d2, hd2e⟩ : ∃ d2, d2 = (plainK d A).1 := ⟨_, rfl⟩
            obtain ⟨c2, hc2e⟩ : ∃ c2, c2 = (plainK d A).2 := ⟨_, rfl⟩
            rw [← hd2e] at hOK2 hRT2
            simp only [← hd2e, ← hc2e] at hpl hdo
            obtain ⟨x0, y0, x1, y1, x2, y2, x3, y3, e0, e1, e2, e3⟩ := hak.slices
            simp only [ActK.val, e0, e1, e2, e3] at hpl hdo hcl
            obtain ⟨g0, m0, g1, m1, g2, m2, g3, m3, g4, m4, rfl, rfl, rfl, rfl, rfl⟩ := hT.rk.slices
            unfold kval at hpl
            have HPL := Lib.hid hpl
            have HDO := Lib.hid hdo
            have HCL := Lib.hid hcl
            have HT := Lib.hid hT
            have HO2 := Lib.hid hOK2
            have HR2 := Lib.hid hRT2
            have hBl := HP.out.lt hT.pk
            have HBL := Lib.hid hBl
            clear hel hpl hdo hcl hak hfk hd2e hc2e hA e0 e1 e2 e3 hOK hRT hOK2 hRT2 hT hoff hBl
            go_upto_region 12 with fail
            go_cut [10, 11] (fun s10 s11 wx => KPlayMid PK w px pm F0 B d d2 c2 s10 s11 wx)
            case first =>
              have hws := HT.out.fr.size
              have hF0r : F0 < wr.heap.size := (Array.getElem?_eq_some_iff.1 HT.out.box).1
              refine wp_region_F (FrB wr.heap.size []) (FrB.refl _ _) (fun _ _ _ => FrB.trans) [(0, false), (1, false), (2, false), (3, false), (4, false)] 5 9 [(6, false), (7, false), (8, false), (9, true), (10, true), (11, false)] [(5, true), (6, false), (7, false), (8, false), (10, true), (11, false)] 109 rfl (by kernel_rfl) (by kernel_rfl) (by kernel_rfl) (fun c a d v w h => by cases d <;> exact h) ?_
              simp only [List.map_cons, List.map_nil, List.getElem?_toArray, List.getElem?_cons_succ, List.getElem?_cons_zero, Option.getD_some]
              have hfd := Fr.drew wr
              have hsd : wr.drew.heap.size = wr.heap.size := rfl
              obtain ⟨wd, hwd⟩ : ∃ wd, wd = wr.drew := ⟨_, rfl⟩
              rw [← hwd] at hfd hsd ⊢
              clear hwd
              have HFD := Lib.hid hfd
              have HSD := Lib.hid hsd
              have hHd := hfd.heap HT.out.box (by simp)
              have hCd := HCL.out wd (HT.out.fr.trans hfd (by simp) (by simp))
              have hb1r : b1 < wr.heap.size := by omega
              have LH : Hid (∀ w', FrB wr.heap.size [] wd w' → w'.heap[F0]? = some (.cells #[.slice g0 d.dn.length m0, .slice g1 d.ds.length m1, .slice g2 d.ops.length m2, .slice g3 d.files.length m3, .int .i64 d.room, .int .i64 d.steps, .bool d.down, .slice g4 d.armed.length m4] 34 (0, 0))) := Lib.hid (fun w' hf' => hf'.heap hHd hF0r (by simp))
              have LC : Hid (∀ w', FrB wr.heap.size [] wd w' → w'.cell? ⟨b1, off1 + k * 8, none⟩ = some (.int .i64 A.kind) ∧ w'.cell? ⟨b1, off1 + k * 8 + 1, none⟩ = some (encStr A.a) ∧ w'.cell? ⟨b1, off1 + k * 8 + 2, none⟩ = some (encStr A.b) ∧ w'.cell? ⟨b1, off1 + k * 8 + 3, none⟩ = some (.slice x0 A.data.length y0) ∧ w'.cell? ⟨b1, off1 + k * 8 + 4, none⟩ = some (.int .i64 A.n) ∧ w'.cell? ⟨b1, off1 + k * 8 + 5, none⟩ = some (.slice x1 A.keep.length y1) ∧ w'.cell? ⟨b1, off1 + k * 8 + 6, none⟩ = some (.slice x2 A.sizes.length y2) ∧ w'.cell? ⟨b1, off1 + k * 8 + 7, none⟩ = some (.slice x3 A.cuts.length y3)) :=
                Lib.hid (fun w' hf' => ⟨hf'.cell hCd.1 hb1r (by simp), hf'.cell hCd.2.1 hb1r (by simp), hf'.cell hCd.2.2.1 hb1r (by simp), hf'.cell hCd.2.2.2.1 hb1r (by simp), hf'.cell hCd.2.2.2.2.1 hb1r (by simp), hf'.cell hCd.2.2.2.2.2.1 hb1r (by simp), hf'.cell hCd.2.2.2.2.2.2.1 hb1r (by simp), hf'.cell hCd.2.2.2.2.2.2.2 hb1r (by simp)⟩)
              have HB0 := HBL.out
              clear hfd hsd hHd hCd
              repeat (apply wpT_t; · (intro w' hf'; obtain ⟨r0, r1, r2, r3, r4, r5, r6, r7⟩ := eight_of_heap (LH.out w' hf'); obtain ⟨s0, s1, s2, s3, s4, s5, s6, s7⟩ := LC.out w' hf'; go_wp2_with fail; exact ⟨rfl, rfl⟩))
              refine wpT_end ⟨?_, ?_⟩
              · simp only [List.map_cons, List.map_nil, List.getElem?_toArray, List.getElem?_cons_succ, List.getElem?_cons_zero, Option.getD_some]
                refine wpT_x ?_
                go_wp2_with (go_at_call 8; refine (HPL.out _ HFD.out).mono ?_; rintro e w4 ⟨nv4, sv4, ov4, fv4, av4, D4, rfl, hR4, hf4, hD4⟩; unfold kval; obtain ⟨n0, o0, n1, o1, n2, o2, n3, o3, n4, o4, rfl, rfl, rfl, rfl, rfl⟩ := hR4.slices)
                refine ⟨FrB.of hf4 (by rw [HSD.out]; exact Nat.le_refl _) (by simp), rfl, ?_⟩
                repeat (apply wpT_t; · (intro w' hf'; go_wp2_with fail; exact ⟨rfl, rfl⟩))
                refine wpT_x ?_
                go_wp2_with fail
                have hw4 : wr.heap.size ≤ w4.heap.size := by have := hf4.size; have := HSD.out; omega
                have hfz := Fr.alloc w4 (.cells #[.slice none 0 0, .slice none 0 0, .slice none 0 0, .slice none 0 0, .int .i64 0, .int .i64 0, .bool false, .slice none 0 0] 34)
                have hN := heap_alloc_new w4 (.cells #[.slice none 0 0, .slice none 0 0, .slice none 0 0, .slice none 0 0, .int .i64 0, .int .i64 0, .bool false, .slice none 0 0] 34)
                refine ⟨FrB.of hfz (by omega) (by simp), rfl, ?_⟩
                obtain ⟨wz, hwz⟩ : ∃ wz, wz = w4.alloc (.cells #[.slice none 0 0, .slice none 0 0, .slice none 0 0, .slice none 0 0, .int .i64 0, .int .i64 0, .bool false, .slice none 0 0] 34) := ⟨_, rfl⟩
                obtain ⟨N0, hN0⟩ : ∃ N0, N0 = w4.heap.size := ⟨_, rfl⟩
                rw [← hwz, ← hN0]
                rw [← hwz] at hfz hN
                rw [← hN0] at hN hw4
                have hDN : ∀ j ∈ D4, j ≠ N0 := fun j hj => by have := hR4.lt j hj; omega
                have hDN := Lib.hid hDN
                clear hwz hN0
                have HN := Lib.hid hN
                have HFZ := Lib.hid hfz
                obtain ⟨r0, r1, r2, r3, r4, r5, r6, r7⟩ := eight_of_heap hN
                obtain ⟨s0, s1, s2, s3, s4, s5, s6, s7⟩ := eight_free hN
                clear hN hfz
                refine wpT_x ?_
                go_wp2_with fail
                refine ⟨FrB.of (Fr.set8 wz N0 _ _ _ _ _ _ _ _) (by have := HFZ.out.size; have := hf4.size; have := HSD.out; omega) (by simp; omega), rfl, ?_⟩
                clear r0 r1 r2 r3 r4 r5 r6 r7 s0 s1 s2 s3 s4 s5 s6 s7
                repeat (apply wpT_t; · (intro w' hf'; go_wp2_with fail; exact ⟨rfl, rfl⟩))
                refine wpT_end ?_
                go_wp2_with fail
                go_meet
                exact kmid_mk HP.out (HP.out.kept HT.out.pk ((HFD.out.trans hf4 (by simp) (n := []) (by simp)).trans HFZ.out (by simp) (n := []) (by simp)) (by simp)) (hR4.below HFZ.out) HN.out (HFZ.out.heap (hf4.heap (HFD.out.heap HT.out.box (by simp)) (by simp)) (by simp)) (by omega) (by omega) (fun hm => by have := HB0 _ hm; omega) hDN.out
                  (fun j hj => (hD4 j hj).elim (HT.out.db j) (fun q hm => by have := HB0 j hm; have := HSD.out; omega)) (fun j hj => (hD4 j hj).elim (HT.out.df j) (fun q => by have := HSD.out; omega))
                  (((HT.out.fr.trans HFD.out (by simp) (n := []) (by simp)).trans hf4 (by simp) (n := []) (by simp)).trans HFZ.out (by simp) (by simp))
              · simp only [List.map_cons, List.map_nil, List.getElem?_toArray, List.getElem?_cons_succ, List.getElem?_cons_zero, Option.getD_some]
                refine wpT_x ?_
                go_wp2_with fail
                have hfz := Fr.alloc wd (.cells #[.slice none 0 0, .slice none 0 0, .slice none 0 0, .slice none 0 0, .int .i64 0, .int .i64 0, .bool false, .slice none 0 0] 34)
                have hN := heap_alloc_new wd (.cells #[.slice none 0 0, .slice none 0 0, .slice none 0 0, .slice none 0 0, .int .i64 0, .int .i64 0, .bool false, .slice none 0 0] 34)
                refine ⟨FrB.of hfz (by rw [HSD.out]; exact Nat.le_refl _) (by simp), rfl, ?_⟩
                obtain ⟨wz, hwz⟩ : ∃ wz, wz = wd.alloc (.cells #[.slice none 0 0, .slice none 0 0, .slice none 0 0, .slice none 0 0, .int .i64 0, .int .i64 0, .bool false, .slice none 0 0] 34) := ⟨_, rfl⟩
                obtain ⟨N0, hN0⟩ : ∃ N0, N0 = wd.heap.size := ⟨_, rfl⟩
                rw [← hwz, ← hN0]
                rw [← hwz] at hfz hN
                rw [← hN0] at hN
                have hNr : N0 = wr.heap.size := by rw [hN0]; exact HSD.out
                have HNR := Lib.hid hNr
                clear hwz hN0 hNr
                have HN := Lib.hid hN
                have HFZ := Lib.hid hfz
                have hNz : N0 < wz.heap.size := (Array.getElem?_eq_some_iff.1 hN).1
                clear hN hfz
                have hdz := HPL.out wz (HFD.out.trans HFZ.out (by simp) (by simp))
                have HDZ := Lib.hid hdz
                clear hdz
                refine wpT_x ?_
                go_wp2_with (go_at_call 8; refine HDZ.out.mono ?_; rintro e w4 ⟨nv4, sv4, ov4, fv4, av4, D4, rfl, hR4, hf4, hD4⟩; unfold kval; obtain ⟨n0, o0, n1, o1, n2, o2, n3, o3, n4, o4, rfl, rfl, rfl, rfl, rfl⟩ := hR4.slices)
                have hwz : wr.heap.size ≤ wz.heap.size := by have := HFZ.out.size; have := HSD.out; omega
                refine ⟨FrB.of hf4 hwz (by simp), rfl, ?_⟩
                repeat (apply wpT_t; · (intro w' hf'; go_wp2_with fail; exact ⟨rfl, rfl⟩))
                have hN4 := hf4.heap HN.out (by simp)
                obtain ⟨r0, r1, r2, r3, r4, r5, r6, r7⟩ := eight_of_heap hN4
                obtain ⟨s0, s1, s2, s3, s4, s5, s6, s7⟩ := eight_free hN4
                refine wpT_x ?_
                go_wp2_with fail
                refine ⟨FrB.of (Fr.set8 w4 N0 _ _ _ _ _ _ _ _) (by have := hf4.size; omega) (by have := HNR.out; simp; omega), rfl, ?_⟩
                clear r0 r1 r2 r3 r4 r5 r6 r7 s0 s1 s2 s3 s4 s5 s6 s7
                repeat (apply wpT_t; · (intro w' hf'; go_wp2_with fail; exact ⟨rfl, rfl⟩))
                refine wpT_end ?_
                go_wp2_with fail
                go_meet
                have hnr := HNR.out
                exact kmid_mk HP.out (HP.out.kept HT.out.pk ((HFD.out.trans HFZ.out (by simp) (n := []) (by simp)).trans hf4 (by simp) (n := []) (by simp)) (by simp)) hR4 hN4 (hf4.heap (HFZ.out.heap (HFD.out.heap HT.out.box (by simp)) (by simp)) (by simp)) (by omega) (by omega) (fun hm => by have := HB0 _ hm; omega) (fun j hj => (hD4 j hj).elim (fun q => by have := HT.out.rk.lt j q; omega) (fun q => by omega))
                  (fun j hj => (hD4 j hj).elim (HT.out.db j) (fun q hm => by have := HB0 j hm; omega)) (fun j hj => (hD4 j hj).elim (HT.out.df j) (fun q => by omega))
                  ((HT.out.fr.trans (HFD.out.trans HFZ.out (by simp) (n := []) (by simp)) (by simp) (n := []) (by simp)).trans hf4 (by simp) (by simp))
            case rest =>
              obtain ⟨N0, D4, nv4, sv4, ov4, fv4, av4, t0, t1, t2, t3, t4, t5, t6, t7, rfl, rfl, hpk4, hR4, hN4, hh4, hdb4, hdf4, hFN, hf4⟩ := hcut
              obtain ⟨n0, o0, n1, o1, n2, o2, n3, o3, n4, o4, rfl, rfl, rfl, rfl, rfl⟩ := hR4.slices
              obtain ⟨r0, r1, r2, r3, r4, r5, r6, r7⟩ := eight_of_heap hN4
              obtain ⟨pp0, pp1, pp2, pp3, pp4, pp5, pp6, pp7⟩ := eight_of_heap hh4
              obtain ⟨s0, s1, s2, s3, s4, s5, s6, s7⟩ := eight_free hh4
              go_upto_region 14 with fail
              have hfs := Fr.set8 wc F0 (.slice n0 d2.dn.length o0) (.slice n1 d2.ds.length o1) (.slice n2 d2.ops.length o2) (.slice n3 d2.files.length o3) (.int .i64 d2.room) (.int .i64 d2.steps) (.bool d2.down) (.slice n4 d2.armed.length o4)
              have hFs := heap_set8 hh4 (.slice n0 d2.dn.length o0) (.slice n1 d2.ds.length o1) (.slice n2 d2.ops.length o2) (.slice n3 d2.files.length o3) (.int .i64 d2.room) (.int .i64 d2.steps) (.bool d2.down) (.slice n4 d2.armed.length o4)
              have hR5 := hR4.box hh4 hdf4 hfs
              have hP5 := HP.out.kept hpk4 hfs (fun j hj hm => by
                obtain rfl : j = F0 := by simpa using hm
                exact HT.out.fb hj)
              have hF0w2 : w.heap.size ≤ F0 := hF0w
              have hf5 : Fr [] w _ := hf4.trans hfs (by simp) (by simp; omega)
              obtain ⟨w5, hw5⟩ : ∃ w5, w5 = ((((((((wc.setCell ⟨F0, 0, none⟩ (.slice n0 d2.dn.length o0)).setCell ⟨F0, 1, none⟩ (.slice n1 d2.ds.length o1)).setCell ⟨F0, 2, none⟩ (.slice n2 d2.ops.length o2)).setCell ⟨F0, 3, none⟩ (.slice n3 d2.files.length o3)).setCell ⟨F0, 4, none⟩ (.int .i64 d2.room)).setCell ⟨F0, 5, none⟩ (.int .i64 d2.steps)).setCell ⟨F0, 6, none⟩ (.bool d2.down)).setCell ⟨F0, 7, none⟩ (.slice n4 d2.armed.length o4)) := ⟨_, rfl⟩
              rw [← hw5] at hFs hR5 hP5 hf5 ⊢
              clear hw5 hfs hR4 hN4 hh4 hf4 hpk4 r0 r1 r2 r3 r4 r5 r6 r7 pp0 pp1 pp2 pp3 pp4 pp5 pp6 pp7 s0 s1 s2 s3 s4 s5 s6 s7
              have HD5 := Lib.hid (HDO.out _ hP5 hf5)
              have HFB := Lib.hid HT.out.fb
              have HBW := Lib.hid HT.out.bw
              have HBS := Lib.hid (HP.out.lt hP5)
              have HCLN := Lib.hid (HP.out.clean hP5)
              have HFS := Lib.hid hFs
              have HF5 := Lib.hid hf5
              have HR5 := Lib.hid hR5
              obtain ⟨l0, l1, l2, l3, l4, l5, l6, l7⟩ := HCL.out w5 hf5
              have HSH : Hid (∀ (B' : List Nat) (w6 : World), PK w6 px pm d2 B' → Fr B w5 w6 → Calls Tryz.prog 10 #[.pointer (some ⟨px, 0, none⟩), .agg #[.slice n0 d2.dn.length o0, .slice n1 d2.ds.length o1, .slice n2 d2.ops.length o2, .slice n3 d2.files.length o3, .int .i64 d2.room, .int .i64 d2.steps, .bool d2.down, .slice n4 d2.armed.length o4]] w6 fun e w' => e = .returned (.bool true) ∧ Fr [] w6 w') :=
                Lib.hid (fun B' w6 hp hf => shows_any px pm _ _ _ _ _ d2 D4 (k + 1) w6 (HR5.out.kept hf HCLN.out hdb4) HO2.out (by omega) (HP.out.answers hp HO2.out (by omega) HR2.out))
              clear hFs hR5 hP5 hf5
              go_wp2_with (first
                | (go_at_call 10; refine (HSH.out _ _ hp6 hf6).mono ?_; rintro e w7 ⟨rfl, hf7⟩)
                | (go_at_call 9; refine HD5.out.mono ?_; rintro e w6 ⟨B6, rfl, hp6, hf6, hB6⟩; obtain ⟨q0, q1, q2, q3, q4, q5, q6, q7⟩ := eight_of_heap (hf6.heap HFS.out HFB.out)))
              refine ⟨⟨k + 1, d2, B6, D4, _, _, _, _, _, by omega, by go_num, HO2.out, HR2.out, HP.out.kept hp6 hf7 (by simp), (HR5.out.kept hf6 HCLN.out hdb4).below hf7, hf7.heap (hf6.heap HFS.out HFB.out) (by simp), fun j hj => (hB6 j hj).elim (HBW.out j) (fun q => by have := HF5.out.size; omega), fun hm => (hB6 _ hm).elim HFB.out (fun q => by have := (Array.getElem?_eq_some_iff.1 HFS.out).1; omega), fun j hj hm => (hB6 j hm).elim (hdb4 j hj) (fun q => by have := HR5.out.lt j hj; omega), hdf4, (HF5.out.new hf6 HBW.out).trans hf7 (by simp) (by simp)⟩, by simp [intOf]; omega⟩
          · have hd2 : decide (k < l.length) = false := decide_eq_false hkn
            have hkl : k ≤ 60 := by omega
            have hrd := HP.out.read nm hT.pk hOK (by omega) hRT HNM.out
            have hel := hT.rk.dir.1.elems
            have HF := Lib.hid hT.fr
            have hbx := hT.box
            obtain ⟨g0, m0, g1, m1, g2, m2, g3, m3, g4, m4, rfl, rfl, rfl, rfl, rfl⟩ := hT.rk.slices
            have HEL := Lib.hid hel
            have HBX := Lib.hid hbx
            have HFI := Lib.hid (fun wx (hx : Fr [] wr wx) => rfind_any d.dn nm (.slice g0 d.dn.length m0) wx (HEL.out.below hx))
            unfold readK at hrd
            cases hdn : d.down with
            | true =>
              rw [if_pos hdn] at hrd
              rw [hdn] at HBX
              have HRD := Lib.hid hrd
              clear hrd hel hbx hT hOK hRT hdn
              go_wp2_with (first
                | (go_at_call 11; refine HRD.out.mono ?_; rintro e w6 ⟨v6, rfl, hb6, hf6⟩; obtain ⟨a6, c6, rfl, -, -⟩ := hb6.form; obtain ⟨q0, q1, q2, q3, q4, q5, q6, q7⟩ := eight_of_heap (hf6.heap HBX.out (by simp)))
                | (go_at_call 5; refine (HAW.out _).mono ?_; rintro e w' ⟨rfl, hfa⟩))
              go_ret
              exact ⟨rfl, (HF.out.trans hf6 (by simp) (n := []) (by simp)).trans hfa (by simp) (by simp)⟩
            | false =>
              rw [if_neg (by rw [hdn]; simp)] at hrd
              rw [hdn] at HBX
              cases hv : lookL d.dn nm with
              | none =>
                rw [hv] at hrd
                rw [findI_none hv] at HFI
                have HRD := Lib.hid hrd
                clear hrd hel hbx hT hOK hRT hdn hv
                go_wp2_with (first
                  | (go_at_call 12; refine (HFI.out _ hf6).mono ?_; rintro e w7 ⟨rfl, rfl⟩)
                  | (go_at_call 11; refine HRD.out.mono ?_; rintro e w6 ⟨v6, rfl, hb6, hf6⟩; obtain ⟨a6, c6, rfl, -, -⟩ := hb6.form; obtain ⟨q0, q1, q2, q3, q4, q5, q6, q7⟩ := eight_of_heap (hf6.heap HBX.out (by simp)))
                  | (go_at_call 5; refine (HAW.out _).mono ?_; rintro e w' ⟨rfl, hfa⟩))
                go_ret
                exact ⟨rfl, (HF.out.trans hf6 (by simp) (n := []) (by simp)).trans hfa (by simp) (by simp)⟩
              | some v =>
                rw [hv] at hrd
                obtain ⟨i, hi, hil, hiv⟩ := findI_of_look hv
                rw [hi] at HFI
                obtain ⟨e0, he0, he1⟩ := mem_of_look hv
                have hrn := hRT.dn e0 he0
                rw [he1] at hrn
                have hin := fun wx => HP.out.isName nm wx HNM.out
                rw [hrn] at hin
                have HIN := Lib.hid hin
                have hi0 : decide ((i : Int) < 0) = false := decide_eq_false (by omega)
                obtain ⟨F, hF⟩ : ∃ F, F = (fileK d v).now := ⟨_, rfl⟩
                simp only [← hF] at hrd
                have HRD := Lib.hid hrd
                clear hrd hel hbx hT hOK hRT hdn hv hi hil hiv he0 he1 hrn hin hF
                go_wp2_with (first
                  | (go_at_call 12; refine (HFI.out _ hf6).mono ?_; rintro e w7 ⟨rfl, rfl⟩)
                  | (go_at_call 11; refine HRD.out.mono ?_; rintro e w6 ⟨v6, rfl, hb6, hf6⟩; obtain ⟨a6, c6, rfl, -, -⟩ := hb6.form; obtain ⟨q0, q1, q2, q3, q4, q5, q6, q7⟩ := eight_of_heap (hf6.heap HBX.out (by simp)))
                  | (go_at_call 13; refine (HIN.out _).mono ?_; rintro e w8 ⟨rfl, hf8⟩)
                  | (go_at_call 5; refine (HAW.out _).mono ?_; rintro e w' ⟨rfl, hfa⟩))
                go_ret
                exact ⟨rfl, ((HF.out.trans hf6 (by simp) (n := []) (by simp)).trans hf8 (by simp) (n := []) (by simp)).trans hfa (by simp) (by simp)⟩
    · have hd100 : decide (100 < (nm.length : Int)) = true := decide_eq_true (by omega)
      go_enter Tryz.func3, Tryz.ntmps3
      go_wp2_with (first
        | (go_at_call 4; refine HFW.out.mono ?_; rintro e w1 ⟨rfl, hf1⟩)
        | (go_at_call 5; refine (HAW.out _).mono ?_; rintro e w' ⟨rfl, hfa⟩))
      go_ret
      exact ⟨rfl, hf1.trans hfa (by simp) (by simp)⟩
  · have hfw' : fewLB l = false := by simpa using hfw
    have e1 : (if fewLB l = true then (1 : Int) else 0) = 0 := if_neg hfw
    rw [e1] at HFW
    clear h hok hfw hfw' e1 hP
    go_enter Tryz.func3, Tryz.ntmps3
    go_wp2_with (first
      | (go_at_call 4; refine HFW.out.mono ?_; rintro e w1 ⟨rfl, hf1⟩)
      | (go_at_call 5; refine (HAW.out _).mono ?_; rintro e w' ⟨rfl, hfa⟩))
    go_ret
    exact ⟨rfl, hf1.trans hfa (by simp) (by simp)⟩
end Go.Proofs.YtmchnaojlnjmjaaGreat
