/- The statement's own shows (layer 11), whatever the program's methods are, so long as they answer as the document's disk says: those are its premises. Written by wip/tools/gen_dskN.py. -/
import Derived.Test.YtmchnaojlnjmjaaGreatDskM
namespace Go.Proofs.YtmchnaojlnjmjaaGreat
open Go.RowKit Go.Maps

/-- What the program's disk must answer, from the world w0 on: its block px, its meter's block pm. -/
structure Answers (px pm : Nat) (d : DskD) (w0 : World) : Prop where
  met : w0.cell? ⟨px, 0, none⟩ = some (.pointer (some ⟨pm, 0, none⟩))
  names : ∀ wx, Fr [] w0 wx → Calls Tryz.prog 18 #[.pointer (some ⟨px, 0, none⟩)] wx fun e w' => ∃ a c, e = .returned (.slice a (if d.down then [] else d.dn.map (·.1)).length c) ∧ cellsAt w' (.slice a (if d.down then [] else d.dn.map (·.1)).length c) ((if d.down then [] else d.dn.map (·.1)).map encStr) ∧ Fr [] wx w'
  down : ∀ wx, Fr [] w0 wx → Calls Tryz.prog 36 #[.pointer (some ⟨pm, 0, none⟩)] wx fun e w' => e = .returned (.bool d.down) ∧ Fr [] wx w'
  steps : ∀ wx, Fr [] w0 wx → Calls Tryz.prog 37 #[.pointer (some ⟨pm, 0, none⟩)] wx fun e w' => e = .returned (.int .i64 d.steps) ∧ Fr [] wx w'
  used : ∀ wx, Fr [] w0 wx → Calls Tryz.prog 38 #[.pointer (some ⟨px, 0, none⟩)] wx fun e w' => e = .returned (.int .i64 ((usedK d : Nat) : Int)) ∧ Fr [] wx w'
  room : ∀ wx, Fr [] w0 wx → Calls Tryz.prog 40 #[.pointer (some ⟨px, 0, none⟩)] wx fun e w' => e = .returned (.int .i64 d.room) ∧ Fr [] wx w'
  pending : ∀ wx, Fr [] w0 wx → Calls Tryz.prog 41 #[.pointer (some ⟨px, 0, none⟩)] wx fun e w' => e = .returned (.int .i64 ((d.ops.length : Nat) : Int)) ∧ Fr [] wx w'
  read : d.down = false → ∀ e ∈ d.dn, ∀ wx, Fr [] w0 wx → Calls Tryz.prog 11 #[.pointer (some ⟨px, 0, none⟩), encStr e.1] wx fun en w' => ∃ v, en = .returned (.tuple #[v, .int .i64 0]) ∧ bytesAt w' v (fileK d e.2).now ∧ Fr [] wx w'
def ShowRel (w0 : World) (n : Nat) (iv : Value) (wx : World) : Prop := ∃ k : Nat, k ≤ n ∧ iv = .int .i64 (k : Int) ∧ Fr [] w0 wx
set_option maxRecDepth 100000 in
set_option maxHeartbeats 4000000 in
theorem shows_any (px pm : Nat) (nv sv ov fv av : Value) (d : DskD) (D : List Nat) (k : Nat) (w : World) (h : RK w nv sv ov fv av d D) (hk : AllOk d k) (hk6 : k ≤ 400) (hA : Answers px pm d w) :
    Calls Tryz.prog 10 #[.pointer (some ⟨px, 0, none⟩), kval nv sv ov fv av d] w fun e w' => e = .returned (.bool true) ∧ Fr [] w w' := by
  have HRK := Lib.hid h
  have HOK := Lib.hid hk
  have HA := Lib.hid hA
  have hup := usedTo_le d 1000000 (fun g hg => by have := hk.ok.len g hg; omega) d.dn.length (Nat.le_refl _)
  rw [usedTo_all] at hup
  have hul : usedK d ≤ 1000000000 := by have := hk.ok.nl; omega
  obtain ⟨U, hU⟩ : ∃ U, U = usedK d := ⟨_, rfl⟩
  have HU := Lib.hid hU
  rw [← hU] at hul
  have hku := fun wx (hx : Fr [] w wx) => kused_any _ _ _ _ _ d D wx (HRK.out.below hx) HOK.out.ok.nums (by have := HOK.out.ok.nl; omega) (fun g hg => by have := HOK.out.ok.len g hg; omega)
  have hpu := fun wx (hx : Fr [] w wx) => HA.out.used wx hx
  rw [← hU] at hku hpu
  have HPU := Lib.hid hpu
  obtain ⟨a0, c0, a1, c1, a2, c2, a3, c3, a4, c4, rfl, rfl, rfl, rfl, rfl⟩ := h.slices
  unfold kval at hku
  have HKU := Lib.hid hku
  have hst0 := hk.ok.st0
  have hst1 := hk.ok.st
  have hnl := hk.ok.nl
  have hol := hk.ok.ol
  have hfa := Fr.alloc w (.cells #[.slice a0 d.dn.length c0, .slice a1 d.ds.length c1, .slice a2 d.ops.length c2, .slice a3 d.files.length c3, .int .i64 d.room, .int .i64 d.steps, .bool d.down, .slice a4 d.armed.length c4] 34)
  have hba := heap_alloc_new w (.cells #[.slice a0 d.dn.length c0, .slice a1 d.ds.length c1, .slice a2 d.ops.length c2, .slice a3 d.files.length c3, .int .i64 d.room, .int .i64 d.steps, .bool d.down, .slice a4 d.armed.length c4] 34)
  have HNM := Lib.hid hA.names
  have HDO := Lib.hid hA.down
  have HSO := Lib.hid hA.steps
  have HRO := Lib.hid hA.room
  have HPO := Lib.hid hA.pending
  have HRD := Lib.hid hA.read
  have HME := Lib.hid hA.met
  unfold kval
  clear h hk hA hup hU hku hpu
  cases hdn : d.down with
  | true =>
    rw [hdn] at HNM HDO HRD HKU hfa hba
    have hnm : ∀ wx, Fr [] w wx → Calls Tryz.prog 18 #[.pointer (some ⟨px, 0, none⟩)] wx fun e w' => ∃ a c, e = .returned (.slice a 0 c) ∧ cellsAt w' (.slice a 0 c) (([] : List (List UInt8)).map encStr) ∧ Fr [] wx w' := fun wx hx => by
      have := HNM.out wx hx
      simpa using this
    have HNA := Lib.hid hnm
    have HFA := Lib.hid hfa
    have HBA := Lib.hid hba
    have HDN := Lib.hid hdn
    clear hnm hfa hba HNM hdn
    go_enter Tryz.func10, Tryz.ntmps10
    go_upto_region 1 with fail
    obtain ⟨w1, hw1⟩ : ∃ w1, w1 = w.alloc (.cells #[.slice a0 d.dn.length c0, .slice a1 d.ds.length c1, .slice a2 d.ops.length c2, .slice a3 d.files.length c3, .int .i64 d.room, .int .i64 d.steps, .bool true, .slice a4 d.armed.length c4] 34) := ⟨_, rfl⟩
    obtain ⟨q0, hq0⟩ : ∃ q0, q0 = w.heap.size := ⟨_, rfl⟩
    rw [← hw1] at HFA HBA ⊢
    rw [← hq0] at HBA ⊢
    clear hw1 hq0
    go_upto_region 5 with (go_at_call 18; refine (HNA.out _ HFA.out).mono ?_; rintro e w2 ⟨an, cn, rfl, hcn, hf2⟩; obtain ⟨y0, y1, y2, y3, y4, y5, y6, y7⟩ := eight_of_heap (hf2.heap HBA.out (by simp)))
    have HCN := Lib.hid hcn
    have HF2 := Lib.hid (HFA.out.trans hf2 (by simp) (n := []) (by simp))
    have HB2 := Lib.hid (hf2.heap HBA.out (by simp))
    clear hcn hf2 y0 y1 y2 y3 y4 y5 y6 y7
    refine wp_region_G [] [(0, false), (1, false), (2, false), (3, false), (4, false), (5, false), (6, false), (7, false), (8, false), (10, false), (11, false), (9, true), (12, false), (13, false), (14, false), (15, false), (16, false), (17, false), (18, false), (20, false), (21, false), (19, true), (22, false), (23, false), (24, false), (25, false), (27, false), (26, true), (28, true), (29, false), (30, false), (31, false), (32, false), (34, false), (35, false), (33, true), (36, false), (37, false), (38, false), (39, false), (41, false), (42, false), (43, false), (44, false), (40, true), (45, false), (46, false)] 113 rfl (by kernel_rfl) (by kernel_rfl) (by kernel_rfl) (fun c a d v w h => by cases d <;> exact h) (fun wd hfd => ?_)
    simp only [List.map_cons, List.map_nil, List.getElem?_toArray, List.getElem?_cons_succ, List.getElem?_cons_zero, Option.getD_some]
    have LB : Hid (Later [] wd (fun w' => w'.heap[q0]? = some (.cells #[.slice a0 d.dn.length c0, .slice a1 d.ds.length c1, .slice a2 d.ops.length c2, .slice a3 d.files.length c3, .int .i64 d.room, .int .i64 d.steps, .bool true, .slice a4 d.armed.length c4] 34 (0, 0)))) := Lib.hid (fun w' hf' => hf'.heap (hfd.heap HB2.out (by simp)) (by simp))
    have FW := Lib.hid (HF2.out.trans hfd (by simp) (n := []) (by simp))
    have LM : Hid (Later [] wd (fun w' => w'.cell? ⟨px, 0, none⟩ = some (.pointer (some ⟨pm, 0, none⟩)))) := Lib.hid (fun w' hf' => hf'.cell (FW.out.cell HME.out (by simp)) (by simp))
    have FD := Lib.hid hfd
    have GG := Lib.hid (Fr.refl [] wd)
    clear hfd
    repeat (apply wpG_t; · (intro w' hf'; obtain ⟨y0, y1, y2, y3, y4, y5, y6, y7⟩ := eight_of_heap (LB.out w' (GG.out.trans hf' (by simp) (by simp))); have m0 := LM.out w' (GG.out.trans hf' (by simp) (by simp)); go_wp2_with fail; exact ⟨rfl, rfl⟩))
    refine wpG_x ?_
    go_wp2_with (go_at_call 36; refine (HDO.out _ (FW.out.trans GG.out (by simp) (n := []) (by simp))).mono ?_; rintro e wc0 ⟨rfl, hfc⟩)
    refine ⟨hfc, rfl, ?_⟩
    replace GG := Lib.hid (GG.out.trans hfc (by simp) (n := []) (by simp))
    clear hfc
    repeat (apply wpG_t; · (intro w' hf'; obtain ⟨y0, y1, y2, y3, y4, y5, y6, y7⟩ := eight_of_heap (LB.out w' (GG.out.trans hf' (by simp) (by simp))); have m0 := LM.out w' (GG.out.trans hf' (by simp) (by simp)); go_wp2_with fail; exact ⟨rfl, rfl⟩))
    refine wpG_x ?_
    go_wp2_with (go_at_call 37; refine (HSO.out _ (FW.out.trans GG.out (by simp) (n := []) (by simp))).mono ?_; rintro e wc1 ⟨rfl, hfc⟩)
    refine ⟨hfc, rfl, ?_⟩
    replace GG := Lib.hid (GG.out.trans hfc (by simp) (n := []) (by simp))
    clear hfc
    repeat (apply wpG_t; · (intro w' hf'; obtain ⟨y0, y1, y2, y3, y4, y5, y6, y7⟩ := eight_of_heap (LB.out w' (GG.out.trans hf' (by simp) (by simp))); have m0 := LM.out w' (GG.out.trans hf' (by simp) (by simp)); go_wp2_with fail; exact ⟨rfl, rfl⟩))
    refine wpG_x ?_
    go_wp2_with (go_at_call 38; refine (HPU.out _ (FW.out.trans GG.out (by simp) (n := []) (by simp))).mono ?_; rintro e wc2 ⟨rfl, hfc⟩)
    refine ⟨hfc, rfl, ?_⟩
    replace GG := Lib.hid (GG.out.trans hfc (by simp) (n := []) (by simp))
    clear hfc
    repeat (apply wpG_t; · (intro w' hf'; obtain ⟨y0, y1, y2, y3, y4, y5, y6, y7⟩ := eight_of_heap (LB.out w' (GG.out.trans hf' (by simp) (by simp))); have m0 := LM.out w' (GG.out.trans hf' (by simp) (by simp)); go_wp2_with fail; exact ⟨rfl, rfl⟩))
    refine wpG_x ?_
    go_wp2_with (go_at_call 39; refine (HKU.out _ (FW.out.trans GG.out (by simp) (n := []) (by simp))).mono ?_; rintro e wc3 ⟨rfl, hfc⟩)
    refine ⟨hfc, rfl, ?_⟩
    replace GG := Lib.hid (GG.out.trans hfc (by simp) (n := []) (by simp))
    clear hfc
    repeat (apply wpG_t; · (intro w' hf'; obtain ⟨y0, y1, y2, y3, y4, y5, y6, y7⟩ := eight_of_heap (LB.out w' (GG.out.trans hf' (by simp) (by simp))); have m0 := LM.out w' (GG.out.trans hf' (by simp) (by simp)); go_wp2_with fail; exact ⟨rfl, rfl⟩))
    refine wpG_x ?_
    go_wp2_with (go_at_call 40; refine (HRO.out _ (FW.out.trans GG.out (by simp) (n := []) (by simp))).mono ?_; rintro e wc4 ⟨rfl, hfc⟩)
    refine ⟨hfc, rfl, ?_⟩
    replace GG := Lib.hid (GG.out.trans hfc (by simp) (n := []) (by simp))
    clear hfc
    repeat (apply wpG_t; · (intro w' hf'; obtain ⟨y0, y1, y2, y3, y4, y5, y6, y7⟩ := eight_of_heap (LB.out w' (GG.out.trans hf' (by simp) (by simp))); have m0 := LM.out w' (GG.out.trans hf' (by simp) (by simp)); go_wp2_with fail; exact ⟨rfl, rfl⟩))
    refine wpG_x ?_
    go_wp2_with (go_at_call 41; refine (HPO.out _ (FW.out.trans GG.out (by simp) (n := []) (by simp))).mono ?_; rintro e wc5 ⟨rfl, hfc⟩)
    refine ⟨hfc, rfl, ?_⟩
    replace GG := Lib.hid (GG.out.trans hfc (by simp) (n := []) (by simp))
    clear hfc
    repeat (apply wpG_t; · (intro w' hf'; obtain ⟨y0, y1, y2, y3, y4, y5, y6, y7⟩ := eight_of_heap (LB.out w' (GG.out.trans hf' (by simp) (by simp))); have m0 := LM.out w' (GG.out.trans hf' (by simp) (by simp)); go_wp2_with fail; exact ⟨rfl, rfl⟩))
    refine wpG_end ?_
    have HB5 := Lib.hid (LB.out _ GG.out)
    have HF5 := Lib.hid (FW.out.trans GG.out (by simp) (n := []) (by simp))
    have HC5 := Lib.hid ((HCN.out.below FD.out).below GG.out)
    clear LB LM FW FD GG HCN HB2 HF2
    go_wp2_with fail
    go_loopw [7] (ShowRel wc5 0) (fun iv _ => 0 - (intOf iv).toNat)
    case atStart => exact ⟨0, Nat.zero_le _, rfl, Fr.refl _ _⟩
    case round =>
      obtain ⟨i, hi, rfl, hf⟩ := hrel
      obtain rfl : i = 0 := by omega
      have HF := Lib.hid hf
      clear hf
      go_wp2_with fail
      go_ret
      exact ⟨rfl, HF5.out.trans HF.out (by simp) (by simp)⟩
  | false =>
    rw [hdn] at HNM HDO HRD HKU hfa hba
    have hnm : ∀ wx, Fr [] w wx → Calls Tryz.prog 18 #[.pointer (some ⟨px, 0, none⟩)] wx fun e w' => ∃ a c, e = .returned (.slice a d.dn.length c) ∧ cellsAt w' (.slice a d.dn.length c) ((d.dn.map (·.1)).map encStr) ∧ Fr [] wx w' := fun wx hx => by
      have := HNM.out wx hx
      simpa using this
    have HNA := Lib.hid hnm
    have HFA := Lib.hid hfa
    have HBA := Lib.hid hba
    have HDN := Lib.hid hdn
    clear hnm hfa hba HNM hdn
    go_enter Tryz.func10, Tryz.ntmps10
    go_upto_region 1 with fail
    obtain ⟨w1, hw1⟩ : ∃ w1, w1 = w.alloc (.cells #[.slice a0 d.dn.length c0, .slice a1 d.ds.length c1, .slice a2 d.ops.length c2, .slice a3 d.files.length c3, .int .i64 d.room, .int .i64 d.steps, .bool false, .slice a4 d.armed.length c4] 34) := ⟨_, rfl⟩
    obtain ⟨q0, hq0⟩ : ∃ q0, q0 = w.heap.size := ⟨_, rfl⟩
    rw [← hw1] at HFA HBA ⊢
    rw [← hq0] at HBA ⊢
    clear hw1 hq0
    go_upto_region 5 with (go_at_call 18; refine (HNA.out _ HFA.out).mono ?_; rintro e w2 ⟨an, cn, rfl, hcn, hf2⟩; obtain ⟨y0, y1, y2, y3, y4, y5, y6, y7⟩ := eight_of_heap (hf2.heap HBA.out (by simp)))
    have HCN := Lib.hid hcn
    have HF2 := Lib.hid (HFA.out.trans hf2 (by simp) (n := []) (by simp))
    have HB2 := Lib.hid (hf2.heap HBA.out (by simp))
    clear hcn hf2 y0 y1 y2 y3 y4 y5 y6 y7
    refine wp_region_G [] [(0, false), (1, false), (2, false), (3, false), (4, false), (5, false), (6, false), (7, false), (8, false), (10, false), (11, false), (9, true), (12, false), (13, false), (14, false), (15, false), (16, false), (17, false), (18, false), (20, false), (21, false), (19, true), (22, false), (23, false), (24, false), (25, false), (27, false), (26, true), (28, true), (29, false), (30, false), (31, false), (32, false), (34, false), (35, false), (33, true), (36, false), (37, false), (38, false), (39, false), (41, false), (42, false), (43, false), (44, false), (40, true), (45, false), (46, false)] 113 rfl (by kernel_rfl) (by kernel_rfl) (by kernel_rfl) (fun c a d v w h => by cases d <;> exact h) (fun wd hfd => ?_)
    simp only [List.map_cons, List.map_nil, List.getElem?_toArray, List.getElem?_cons_succ, List.getElem?_cons_zero, Option.getD_some]
    have LB : Hid (Later [] wd (fun w' => w'.heap[q0]? = some (.cells #[.slice a0 d.dn.length c0, .slice a1 d.ds.length c1, .slice a2 d.ops.length c2, .slice a3 d.files.length c3, .int .i64 d.room, .int .i64 d.steps, .bool false, .slice a4 d.armed.length c4] 34 (0, 0)))) := Lib.hid (fun w' hf' => hf'.heap (hfd.heap HB2.out (by simp)) (by simp))
    have FW := Lib.hid (HF2.out.trans hfd (by simp) (n := []) (by simp))
    have LM : Hid (Later [] wd (fun w' => w'.cell? ⟨px, 0, none⟩ = some (.pointer (some ⟨pm, 0, none⟩)))) := Lib.hid (fun w' hf' => hf'.cell (FW.out.cell HME.out (by simp)) (by simp))
    have FD := Lib.hid hfd
    have GG := Lib.hid (Fr.refl [] wd)
    clear hfd
    repeat (apply wpG_t; · (intro w' hf'; obtain ⟨y0, y1, y2, y3, y4, y5, y6, y7⟩ := eight_of_heap (LB.out w' (GG.out.trans hf' (by simp) (by simp))); have m0 := LM.out w' (GG.out.trans hf' (by simp) (by simp)); go_wp2_with fail; exact ⟨rfl, rfl⟩))
    refine wpG_x ?_
    go_wp2_with (go_at_call 36; refine (HDO.out _ (FW.out.trans GG.out (by simp) (n := []) (by simp))).mono ?_; rintro e wc0 ⟨rfl, hfc⟩)
    refine ⟨hfc, rfl, ?_⟩
    replace GG := Lib.hid (GG.out.trans hfc (by simp) (n := []) (by simp))
    clear hfc
    repeat (apply wpG_t; · (intro w' hf'; obtain ⟨y0, y1, y2, y3, y4, y5, y6, y7⟩ := eight_of_heap (LB.out w' (GG.out.trans hf' (by simp) (by simp))); have m0 := LM.out w' (GG.out.trans hf' (by simp) (by simp)); go_wp2_with fail; exact ⟨rfl, rfl⟩))
    refine wpG_x ?_
    go_wp2_with (go_at_call 37; refine (HSO.out _ (FW.out.trans GG.out (by simp) (n := []) (by simp))).mono ?_; rintro e wc1 ⟨rfl, hfc⟩)
    refine ⟨hfc, rfl, ?_⟩
    replace GG := Lib.hid (GG.out.trans hfc (by simp) (n := []) (by simp))
    clear hfc
    repeat (apply wpG_t; · (intro w' hf'; obtain ⟨y0, y1, y2, y3, y4, y5, y6, y7⟩ := eight_of_heap (LB.out w' (GG.out.trans hf' (by simp) (by simp))); have m0 := LM.out w' (GG.out.trans hf' (by simp) (by simp)); go_wp2_with fail; exact ⟨rfl, rfl⟩))
    refine wpG_x ?_
    go_wp2_with (go_at_call 38; refine (HPU.out _ (FW.out.trans GG.out (by simp) (n := []) (by simp))).mono ?_; rintro e wc2 ⟨rfl, hfc⟩)
    refine ⟨hfc, rfl, ?_⟩
    replace GG := Lib.hid (GG.out.trans hfc (by simp) (n := []) (by simp))
    clear hfc
    repeat (apply wpG_t; · (intro w' hf'; obtain ⟨y0, y1, y2, y3, y4, y5, y6, y7⟩ := eight_of_heap (LB.out w' (GG.out.trans hf' (by simp) (by simp))); have m0 := LM.out w' (GG.out.trans hf' (by simp) (by simp)); go_wp2_with fail; exact ⟨rfl, rfl⟩))
    refine wpG_x ?_
    go_wp2_with (go_at_call 39; refine (HKU.out _ (FW.out.trans GG.out (by simp) (n := []) (by simp))).mono ?_; rintro e wc3 ⟨rfl, hfc⟩)
    refine ⟨hfc, rfl, ?_⟩
    replace GG := Lib.hid (GG.out.trans hfc (by simp) (n := []) (by simp))
    clear hfc
    repeat (apply wpG_t; · (intro w' hf'; obtain ⟨y0, y1, y2, y3, y4, y5, y6, y7⟩ := eight_of_heap (LB.out w' (GG.out.trans hf' (by simp) (by simp))); have m0 := LM.out w' (GG.out.trans hf' (by simp) (by simp)); go_wp2_with fail; exact ⟨rfl, rfl⟩))
    refine wpG_x ?_
    go_wp2_with (go_at_call 40; refine (HRO.out _ (FW.out.trans GG.out (by simp) (n := []) (by simp))).mono ?_; rintro e wc4 ⟨rfl, hfc⟩)
    refine ⟨hfc, rfl, ?_⟩
    replace GG := Lib.hid (GG.out.trans hfc (by simp) (n := []) (by simp))
    clear hfc
    repeat (apply wpG_t; · (intro w' hf'; obtain ⟨y0, y1, y2, y3, y4, y5, y6, y7⟩ := eight_of_heap (LB.out w' (GG.out.trans hf' (by simp) (by simp))); have m0 := LM.out w' (GG.out.trans hf' (by simp) (by simp)); go_wp2_with fail; exact ⟨rfl, rfl⟩))
    refine wpG_x ?_
    go_wp2_with (go_at_call 41; refine (HPO.out _ (FW.out.trans GG.out (by simp) (n := []) (by simp))).mono ?_; rintro e wc5 ⟨rfl, hfc⟩)
    refine ⟨hfc, rfl, ?_⟩
    replace GG := Lib.hid (GG.out.trans hfc (by simp) (n := []) (by simp))
    clear hfc
    repeat (apply wpG_t; · (intro w' hf'; obtain ⟨y0, y1, y2, y3, y4, y5, y6, y7⟩ := eight_of_heap (LB.out w' (GG.out.trans hf' (by simp) (by simp))); have m0 := LM.out w' (GG.out.trans hf' (by simp) (by simp)); go_wp2_with fail; exact ⟨rfl, rfl⟩))
    refine wpG_end ?_
    have HB5 := Lib.hid (LB.out _ GG.out)
    have HF5 := Lib.hid (FW.out.trans GG.out (by simp) (n := []) (by simp))
    have HC5 := Lib.hid ((HCN.out.below FD.out).below GG.out)
    clear LB LM FW FD GG HCN HB2 HF2
    go_wp2_with fail
    go_loopw [7] (ShowRel wc5 d.dn.length) (fun iv _ => d.dn.length - (intOf iv).toNat)
    case atStart => exact ⟨0, Nat.zero_le _, rfl, Fr.refl _ _⟩
    case round =>
      obtain ⟨i, hi, rfl, hf⟩ := hrel
      have HF := Lib.hid hf
      have HFW := Lib.hid (HF5.out.trans hf (by simp) (n := []) (by simp))
      by_cases hin : i < d.dn.length
      · have hd2 : decide (i < d.dn.length) = true := decide_eq_true hin
        have hgl : i < ((d.dn.map (·.1)).map encStr).length := by simpa using hin
        obtain ⟨bg, og, rfl, -, hcg⟩ := (HC5.out.below hf).get (i := i) hgl
        have hcj := hcg i hgl
        rw [List.getElem_map, List.getElem_map] at hcj
        have hel : elemsAt w (.slice a0 d.dn.length c0) 2 (d.dn.map entC) := elems_of_owns (xs := d.dn.map entC) (by rw [List.length_map]; exact HRK.out.dir.1) (fun x hx => by obtain ⟨f, _, rfl⟩ := List.mem_map.1 hx; rfl)
        obtain ⟨b1, off1, rfl, -, -, hn0, hn1⟩ := duo_cells (hel.below HFW.out) i hin
        have hnum := HOK.out.ok.nums _ (List.getElem_mem hin)
        have hrd := fun wx (hx : Fr [] w wx) => HRD.out (by simp) _ (List.getElem_mem hin) wx hx
        obtain ⟨E, hE⟩ : ∃ E, E = d.dn[i]'hin := ⟨_, rfl⟩
        rw [← hE] at hcj hn0 hn1 hnum hrd
        obtain ⟨x, nn⟩ := E
        simp only at hcj hn0 hn1 hnum hrd
        obtain ⟨n, hn⟩ : ∃ n : Nat, nn = (n : Int) := ⟨nn.toNat, by omega⟩
        subst hn
        have hnl2 : n < d.files.length := by simpa using hnum.2
        have hfk : fileK d (n : Int) = d.files[n]'hnl2 := by unfold fileK; rw [Int.toNat_natCast]; simp only [List.getD, List.getElem?_eq_getElem hnl2, Option.getD_some]
        obtain ⟨b2, off2, p, rfl, -, -, hp0, -, hpr⟩ := (HRK.out.files.below HFW.out).get n hnl2
        obtain ⟨f, hfe⟩ : ∃ f, f = d.files[n]'hnl2 := ⟨_, rfl⟩
        rw [hfk, ← hfe] at hrd
        rw [← hfe] at hpr
        obtain ⟨p0, p1⟩ := p
        obtain ⟨av0, cv0, hav, -, -⟩ := hpr.1.form
        simp only at hav hp0
        subst hav
        have HRX := Lib.hid (hrd _ HFW.out)
        have HPR := Lib.hid hpr.1
        obtain ⟨y0, y1, y2, y3, y4, y5, y6, y7⟩ := eight_of_heap (hf.heap HB5.out (by simp))
        have LW : Hid (∀ w', Fr [] wr w' → w'.cell? ⟨bg, og + i, none⟩ = some (encStr x) ∧ w'.cell? ⟨b1, off1 + i * 2, none⟩ = some (encStr x) ∧ w'.cell? ⟨b1, off1 + i * 2 + 1, none⟩ = some (.int .i64 (n : Int)) ∧ w'.cell? ⟨b2, off2 + n * 2, none⟩ = some (.slice av0 f.now.length cv0) ∧ w'.heap[q0]? = some (.cells #[.slice (some ⟨b1, off1, none⟩) d.dn.length c0, .slice a1 d.ds.length c1, .slice a2 d.ops.length c2, .slice (some ⟨b2, off2, none⟩) d.files.length c3, .int .i64 d.room, .int .i64 d.steps, .bool false, .slice a4 d.armed.length c4] 34 (0, 0))) :=
          Lib.hid (fun w' hf' => ⟨hf'.cell hcj (by simp), hf'.cell hn0 (by simp), hf'.cell hn1 (by simp), hf'.cell hp0 (by simp), hf'.heap (hf.heap HB5.out (by simp)) (by simp)⟩)
        clear hf hgl hcg hel hn0 hn1 hnum hrd hE hfk hfe hp0 hpr
        go_wp2_with (go_at_call 11; refine HRX.out.mono ?_; rintro e w6 ⟨v6, rfl, hb6, hf6⟩; obtain ⟨a6, c6, rfl, -, -⟩ := hb6.form)
        have HB6 := Lib.hid hb6
        have HF6 := Lib.hid hf6
        clear hb6 hf6 hcj y0 y1 y2 y3 y4 y5 y6 y7
        refine wp_region_G [] [(0, false), (1, false), (2, false), (3, false), (4, false), (5, false), (6, false), (7, false), (8, false), (9, false), (10, false), (11, false), (12, false), (13, false), (14, false), (15, false), (16, false), (17, false), (18, false), (19, false), (20, false), (21, false), (22, false), (23, false), (24, false), (25, false), (26, false), (27, false), (28, false), (29, false), (30, false), (31, false), (32, false), (33, false)] 113 rfl (by kernel_rfl) (by kernel_rfl) (by kernel_rfl) (fun c a d v w h => by cases d <;> exact h) (fun wq hfq => ?_)
        simp only [List.map_cons, List.map_nil, List.getElem?_toArray, List.getElem?_cons_succ, List.getElem?_cons_zero, Option.getD_some]
        have HFQ := Lib.hid (HF6.out.trans hfq (by simp) (n := []) (by simp))
        have C1 := Lib.hid (Later.conv (P := Tryz.prog) (L := []) (HB6.out.below hfq) (by simp) 38 5 9 Tryz.underlying38 Tryz.underlying5 Tryz.underlying9)
        have C2 := Lib.hid (Later.conv (P := Tryz.prog) (L := []) (HPR.out.below HFQ.out) (by simp) 38 5 9 Tryz.underlying38 Tryz.underlying5 Tryz.underlying9)
        clear hfq
        repeat (apply wpG_t; · (intro w' hf'; obtain ⟨k0, k1, k2, k3, k4⟩ := LW.out w' (HFQ.out.trans hf' (by simp) (by simp)); obtain ⟨y0, y1, y2, y3, y4, y5, y6, y7⟩ := eight_of_heap k4; have v1 := C1.out w' hf'; have v2 := C2.out w' hf'; clear k4; go_wp2_with fail; exact ⟨rfl, rfl⟩))
        refine wpG_end ?_
        go_wp2_with fail
        refine ⟨⟨i + 1, by omega, by go_num, HF.out.trans HFQ.out (by simp) (by simp)⟩, by simp [intOf]; omega⟩
      · have hd2 : decide (i < d.dn.length) = false := decide_eq_false hin
        clear hf
        go_wp2_with fail
        go_ret
        exact ⟨rfl, HFW.out⟩
end Go.Proofs.YtmchnaojlnjmjaaGreat
