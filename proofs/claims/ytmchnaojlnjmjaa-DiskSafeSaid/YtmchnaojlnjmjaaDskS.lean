/- DiskSafe (layer 11), whatever the program's disk is, so long as it keeps what ProgS says. -/
import Derived.Test.YtmchnaojlnjmjaaDskP
import Derived.Test.YtmchnaojlnjmjaaDskDid
import Derived.Test.YtmchnaojlnjmjaaBs
import Derived.Test.YtmchnaojlnjmjaaPart
namespace Go.Proofs.Ytmchnaojlnjmjaa
open Go.RowKit Go.Maps

/-- What the program's disk has to keep, method by method. -/
structure ProgS (PK : World → Nat → Nat → DskD → List Nat → Prop) : Prop where
  kept : ∀ {w w' : World} {px pm : Nat} {d : DskD} {B L : List Nat}, PK w px pm d B → Fr L w w' → (∀ k ∈ B, k ∉ L) → PK w' px pm d B
  lt : ∀ {w : World} {px pm : Nat} {d : DskD} {B : List Nat}, PK w px pm d B → ∀ k ∈ B, k < w.heap.size
  met : ∀ {w : World} {px pm : Nat} {d : DskD} {B : List Nat}, PK w px pm d B → w.cell? ⟨px, 0, none⟩ = some (.pointer (some ⟨pm, 0, none⟩))
  new : ∀ (room : Int) (w : World), 0 ≤ room → room ≤ 9223372036854775807 → Calls Try.prog 9 #[.int .i64 room] w fun e w' => ∃ px pm B, e = .returned (.pointer (some ⟨px, 0, none⟩)) ∧ PK w' px pm ⟨[], [], [], [], room, 0, false, []⟩ B ∧ Fr [] w w' ∧ ∀ k ∈ B, w.heap.size ≤ k
  create : ∀ {w : World} {px pm : Nat} {d : DskD} {B : List Nat} {k : Nat} (m : List UInt8), PK w px pm d B → AllOk d k → k ≤ 400 → RightOk d → m.length ≤ maxLen → Calls Try.prog 10 #[.pointer (some ⟨px, 0, none⟩), encStr m] w (DidK PK px pm (createK d m).1 (.int .i64 (createK d m).2) B w)
  append : ∀ {w : World} {px pm : Nat} {d : DskD} {B : List Nat} {k : Nat} (m b : List UInt8) (pv bv : Value), PK w px pm d B → AllOk d k → k ≤ 400 → RightOk d → m.length ≤ maxLen → b.length ≤ 1000 → cellsAt w pv [bv] → bytesAt w bv b → (∀ j, pv.ownBlock = some j → j ∉ B) → (∀ j, bv.ownBlock = some j → b ≠ [] → j ∉ B) →
    Calls Try.prog 11 #[.pointer (some ⟨px, 0, none⟩), encStr m, pv] w (DidK PK px pm (appendK d m b).1 (.int .i64 (appendK d m b).2) B w)
  sync : ∀ {w : World} {px pm : Nat} {d : DskD} {B : List Nat} {k : Nat} (m : List UInt8), PK w px pm d B → AllOk d k → k ≤ 400 → RightOk d → m.length ≤ maxLen → Calls Try.prog 12 #[.pointer (some ⟨px, 0, none⟩), encStr m] w (DidK PK px pm (syncK d m).1 (.int .i64 (syncK d m).2) B w)
  syncDir : ∀ {w : World} {px pm : Nat} {d : DskD} {B : List Nat} {k : Nat}, PK w px pm d B → AllOk d k → k ≤ 400 → RightOk d → Calls Try.prog 13 #[.pointer (some ⟨px, 0, none⟩)] w (DidK PK px pm (syncDirK d).1 (.int .i64 (syncDirK d).2) B w)
  act : ∀ {w : World} {px pm : Nat} {d : DskD} {B : List Nat} {k : Nat} (A : ActK), PK w px pm d B → AllOk d k → k ≤ 400 → RightOk d → A.ok w → fewK A → A.off B →
    Calls Try.prog 14 #[.pointer (some ⟨px, 0, none⟩), A.val] w (DidK PK px pm (plainK d A).1 (.int .i64 (plainK d A).2) B w)
  up : ∀ {w : World} {px pm : Nat} {d : DskD} {B : List Nat} {k : Nat} (ks : List Bool) (sizes cuts : List Int) (kv zv cv : Value), PK w px pm d B → AllOk d k → k ≤ 400 → RightOk d → ks.length ≤ 60 → sizes.length ≤ 20 → cuts.length ≤ 60 →
    cellsAt w kv (ks.map Value.bool) → cellsAt w zv (sizes.map (Value.int .i64)) → cellsAt w cv (cuts.map (Value.int .i64)) → (∀ j, (kv.ownBlock = some j ∧ ks ≠ []) ∨ (zv.ownBlock = some j ∧ sizes ≠ []) ∨ (cv.ownBlock = some j ∧ cuts ≠ []) → j ∉ B) →
    Calls Try.prog 15 #[.pointer (some ⟨px, 0, none⟩), .agg #[kv, zv, cv]] w (DidK PK px pm (upK d ks sizes cuts) (.tuple #[]) B w)
  read : ∀ {w : World} {px pm : Nat} {d : DskD} {B : List Nat} {k : Nat} (m : List UInt8), PK w px pm d B → AllOk d k → k ≤ 400 → RightOk d → m.length ≤ maxLen →
    Calls Try.prog 16 #[.pointer (some ⟨px, 0, none⟩), encStr m] w fun e w' => ∃ v, e = .returned (.tuple #[v, .int .i64 (readK d m).2]) ∧ bytesAt w' v (readK d m).1 ∧ Fr [] w w'
  down : ∀ {w : World} {px pm : Nat} {d : DskD} {B : List Nat}, PK w px pm d B → Calls Try.prog 17 #[.pointer (some ⟨pm, 0, none⟩)] w fun e w' => e = .returned (.bool d.down) ∧ Fr [] w w'
  armed0 : ∀ {w : World} {px pm : Nat} {d : DskD} {B : List Nat} {k : Nat}, PK w px pm d B → AllOk d k → k ≤ 400 → d.armed = [] → Calls Try.prog 18 #[.pointer (some ⟨pm, 0, none⟩)] w fun e w' => ∃ a c, e = .returned (.slice a 0 c) ∧ Fr [] w w'
  pending : ∀ {w : World} {px pm : Nat} {d : DskD} {B : List Nat}, PK w px pm d B → Calls Try.prog 19 #[.pointer (some ⟨px, 0, none⟩)] w fun e w' => e = .returned (.int .i64 ((d.ops.length : Nat) : Int)) ∧ Fr [] w w'
  awake : ∀ w : World, Calls Try.prog 5 #[] w fun e w' => e = .returned (.bool true) ∧ Fr [] w w'
/-- What else is kept: the box X0. -/
structure KeepX (w : World) (X0 : Nat) (cs : Array Value) (B : List Nat) (wx : World) : Prop where
  bw : ∀ j ∈ B, w.heap.size ≤ j
  xb : X0 ∉ B
  box : wx.heap[X0]? = some (.cells cs 29 (0, 0))
  fr : Fr [] w wx
theorem KeepX.step {w wx w' : World} {X0 : Nat} {cs : Array Value} {B B' : List Nat} (h : KeepX w X0 cs B wx) (hf : Fr B wx w') (hB : ∀ j ∈ B', j ∈ B ∨ wx.heap.size ≤ j) : KeepX w X0 cs B' w' :=
  ⟨fun j hj => (hB j hj).elim (h.bw j) (fun q => by have := h.fr.size; omega), fun hm => (hB _ hm).elim h.xb (fun q => by have := (Array.getElem?_eq_some_iff.1 h.box).1; omega), hf.heap h.box h.xb, h.fr.new hf h.bw⟩
theorem KeepX.same {w wx w' : World} {X0 : Nat} {cs : Array Value} {B : List Nat} (h : KeepX w X0 cs B wx) (hf : Fr [] wx w') : KeepX w X0 cs B w' := ⟨h.bw, h.xb, hf.heap h.box (by simp), h.fr.trans hf (by simp) (by simp)⟩
/-- The program's disk within the loop: the loss in the box X0. -/
def SafeRel (PK : World → Nat → Nat → DskD → List Nat → Prop) (w : World) (px pm X0 : Nat) (data : List UInt8) (l : List ActK) (cs : Array Value) (iv : Value) (wx : World) : Prop :=
  ∃ (k : Nat) (d : DskD) (B : List Nat), k ≤ l.length ∧ iv = .int .i64 (k : Int) ∧ AllOk d (k + 4) ∧ RightOk d ∧ SafeOk data d ∧ PK wx px pm d B ∧ KeepX w X0 cs B wx
theorem allOk_new' (room : Int) : AllOk ⟨[], [], [], [], room, 0, false, []⟩ 0 :=
  ⟨⟨by simp [sortedL], by simp [sortedL], by simp, by simp, by simp, by simp, by simp, by simp, by simp, by simp, by simp, by simp, by simp⟩, by simp [kindsOk], by simp [okNames], by simp [okNames], by simp [okOps], by simp⟩
theorem rightOk_new' (room : Int) : RightOk ⟨[], [], [], [], room, 0, false, []⟩ := ⟨by simp, by simp, by simp, by simp⟩
theorem encSafe : encStr safeN = .string { data := #[115, 97, 102, 101] } := rfl
set_option maxRecDepth 100000 in
set_option maxHeartbeats 4000000 in
theorem disksafe_any {PK : World → Nat → Nat → DskD → List Nat → Prop} (hP : ProgS PK) (data : List UInt8) (dv : Value) (l : List ActK) (lv : Value) (ks : List Bool) (sizes cuts : List Int) (kv zv cv : Value) (w : World) (hdat : bytesAt w dv data) (h : elemsAt w lv 8 (l.map ActK.cells)) (hok : ∀ a ∈ l, a.ok w)
    (hkv : cellsAt w kv (ks.map Value.bool)) (hzv : cellsAt w zv (sizes.map (Value.int .i64))) (hcv : cellsAt w cv (cuts.map (Value.int .i64))) :
    Calls Try.prog 4 #[dv, lv, .agg #[kv, zv, cv]] w fun e w' => e = .returned (.bool true) ∧ Fr [] w w' := by
  have HP := Lib.hid hP
  have HAW := Lib.hid (fun wx => hP.awake wx)
  have HDA := Lib.hid hdat
  have HKV := Lib.hid hkv
  have HZV := Lib.hid hzv
  have HCV := Lib.hid hcv
  obtain ⟨a0, c0, rfl, hle0, -⟩ := hdat.form
  obtain ⟨k1, k2, rfl, hk2, -⟩ := hkv.form
  obtain ⟨z1, z2, rfl, hz2, -⟩ := hzv.form
  obtain ⟨r1, r2, rfl, hr2, -⟩ := hcv.form
  rw [List.length_map] at hkv hzv hcv HKV HZV HCV hk2 hz2 hr2 ⊢
  rw [List.length_map, List.length_map]
  have hfa := Fr.alloc w (.cells #[.slice k1 ks.length k2, .slice z1 sizes.length z2, .slice r1 cuts.length r2] 29)
  have hba := heap_alloc_new w (.cells #[.slice k1 ks.length k2, .slice z1 sizes.length z2, .slice r1 cuts.length r2] 29)
  obtain ⟨a1, c1, rfl, hle, hmx⟩ := h.form
  rw [List.length_map] at h hle ⊢
  have HFW := Lib.hid (fun wx (hx : Fr [] w wx) => fewk_any l (.slice a1 l.length c1) wx (h.below hx) (fun a ha => (hok a ha).below hx))
  have HE := Lib.hid h
  have HOK := Lib.hid hok
  have hmx' : c1 ≤ 9223372036854775807 := by simpa [maxLen] using hmx
  clear h hok hmx hP hdat hkv hzv hcv
  go_enter Try.func4, Try.ntmps4
  go_upto_region 1 with fail
  obtain ⟨w0, hw0⟩ : ∃ w0, w0 = w.alloc (.cells #[.slice k1 ks.length k2, .slice z1 sizes.length z2, .slice r1 cuts.length r2] 29) := ⟨_, rfl⟩
  obtain ⟨X0, hX0⟩ : ∃ X0, X0 = w.heap.size := ⟨_, rfl⟩
  rw [← hw0] at hfa hba ⊢
  rw [← hX0] at hba ⊢
  have HFA := Lib.hid hfa
  have HBA := Lib.hid hba
  have HX0 := Lib.hid hX0
  have HF1 := Lib.hid (HFW.out w0 hfa)
  clear hw0 hfa hba hX0
  by_cases hfw : fewLB l = true
  · have e1 : (if fewLB l = true then (1 : Int) else 0) = 1 := if_pos hfw
    rw [e1] at HF1
    have hfew := of_decide_eq_true hfw
    have HFE := Lib.hid hfew.2
    have hl60 : l.length ≤ 60 := hfew.1
    clear hfew hfw e1
    by_cases hb0 : data.length ≤ 200
    · have hd0 : decide (200 < (data.length : Int)) = false := decide_eq_false (by omega)
      by_cases hb1 : ks.length ≤ 60
      · have hd1 : decide (60 < (ks.length : Int)) = false := decide_eq_false (by omega)
        by_cases hb2 : sizes.length ≤ 20
        · have hd2 : decide (20 < (sizes.length : Int)) = false := decide_eq_false (by omega)
          by_cases hb3 : cuts.length ≤ 60
          · have hd3 : decide (60 < (cuts.length : Int)) = false := decide_eq_false (by omega)
            obtain ⟨q1, q2, q3, q4, q5⟩ := safe_start data hb0
            have A1 := (allOk_new' 1000000).create safeN (by simp [safeN, maxLen])
            have R1 := (rightOk_new' 1000000).create (allOk_new' 1000000) safeN
            have A2 := A1.append safeN data (by omega)
            have R2 := R1.append safeN data
            have A3 := A2.sync safeN
            have R3 := R2.sync safeN
            have A4 := A3.syncDir
            have R4 := R3.syncDir
            unfold disk1 at q1 q2 q3 q4 q5
            have HN := Lib.hid (fun wx => HP.out.new 1000000 wx (by omega) (by omega))
            have HCR := Lib.hid (fun (wx : World) (px pm : Nat) (B : List Nat) (hp : PK wx px pm ⟨[], [], [], [], 1000000, 0, false, []⟩ B) => HP.out.create safeN hp (allOk_new' 1000000) (by omega) (rightOk_new' 1000000) (by simp [safeN, maxLen]))
            rw [encSafe, q1] at HCR
            obtain ⟨d1, hd1e⟩ : ∃ d1, d1 = (createK ⟨[], [], [], [], 1000000, 0, false, []⟩ safeN).1 := ⟨_, rfl⟩
            rw [← hd1e] at A1 R1 A2 R2 A3 R3 A4 R4 q2 q3 q4 q5 HCR
            have HAP := Lib.hid (fun (wx : World) (px pm : Nat) (B : List Nat) (pv bv : Value) (hp : PK wx px pm d1 B) => HP.out.append safeN data pv bv hp A1 (by omega) R1 (by simp [safeN, maxLen]) (by omega))
            rw [encSafe, q2] at HAP
            obtain ⟨d2, hd2e⟩ : ∃ d2, d2 = (appendK d1 safeN data).1 := ⟨_, rfl⟩
            rw [← hd2e] at A2 R2 A3 R3 A4 R4 q3 q4 q5 HAP
            have HSY := Lib.hid (fun (wx : World) (px pm : Nat) (B : List Nat) (hp : PK wx px pm d2 B) => HP.out.sync safeN hp A2 (by omega) R2 (by simp [safeN, maxLen]))
            rw [encSafe, q3] at HSY
            obtain ⟨d3, hd3e⟩ : ∃ d3, d3 = (syncK d2 safeN).1 := ⟨_, rfl⟩
            rw [← hd3e] at A3 R3 A4 R4 q4 q5 HSY
            have HSD := Lib.hid (fun (wx : World) (px pm : Nat) (B : List Nat) (hp : PK wx px pm d3 B) => HP.out.syncDir hp A3 (by omega) R3)
            rw [q4] at HSD
            obtain ⟨d4, hd4e⟩ : ∃ d4, d4 = (syncDirK d3).1 := ⟨_, rfl⟩
            rw [← hd4e] at A4 R4 q5 HSD
            have HA4 := Lib.hid A4
            have HR4 := Lib.hid R4
            have HQ5 := Lib.hid q5
            clear A1 R1 A2 R2 A3 R3 A4 R4 q1 q2 q3 q4 q5 hd1e hd2e hd3e hd4e
            go_upto_region 4 with (first
              | (go_at_call 8; refine HF1.out.mono ?_; rintro e w1 ⟨rfl, hf1⟩; obtain ⟨y0, y1, y2, -, -, -⟩ := three_of_heap (hf1.heap HBA.out (by simp)))
              | (go_at_call 9; refine (HN.out _).mono ?_; rintro e w2 ⟨px, pm, B2, rfl, hp2, hf2, hB2⟩))
            have hXs : X0 < w1.heap.size := (Array.getElem?_eq_some_iff.1 (hf1.heap HBA.out (by simp))).1
            have HK2 := Lib.hid (show KeepX w X0 #[.slice k1 ks.length k2, .slice z1 sizes.length z2, .slice r1 cuts.length r2] B2 w2 from ⟨fun j hj => by have := hB2 j hj; have := HX0.out; omega, fun hm => by have := hB2 _ hm; omega, hf2.heap (hf1.heap HBA.out (by simp)) (by simp), (HFA.out.trans hf1 (by simp) (n := []) (by simp)).trans hf2 (by simp) (by simp)⟩)
            have HC2 := Lib.hid (HCR.out _ _ _ _ hp2)
            clear hf1 hf2 hB2 hXs hp2 y0 y1 y2
            go_upto_region 6 with (first
              | (go_at_call 13; refine (HSD.out _ _ _ _ hp5).mono ?_; rintro e w6 ⟨B6, rfl, hp6, hf6, hB6⟩)
              | (go_at_call 12; refine (HSY.out _ _ _ _ hp4).mono ?_; rintro e w5 ⟨B5, rfl, hp5, hf5, hB5⟩)
              | (go_at_call 11; refine HA3.mono ?_; rintro e w4 ⟨B4, rfl, hp4, hf4, hB4⟩)
              | (go_at_call 10; refine HC2.out.mono ?_; rintro e w3 ⟨B3, rfl, hp3, hf3, hB3⟩; have K3 := HK2.out.step hf3 hB3; have HA3 := HAP.out _ px pm B3 _ _ (HP.out.kept hp3 (Fr.alloc w3 (.cells #[.slice a0 data.length c0] 24)) (by simp)) (cellsAt_new w3 [.slice a0 data.length c0] 24 1 rfl (by simp [maxLen])) (HDA.out.below (K3.fr.trans (Fr.alloc w3 (.cells #[.slice a0 data.length c0] 24)) (by simp) (n := []) (by simp))) (fun j hj hm => by
                  have h1 := HP.out.lt hp3 j hm
                  simp only [Value.ownBlock, Option.some.injEq] at hj
                  omega) (fun j hj hne hm => by
                  have h1 := HDA.out.lt hne j hj
                  have h2 := K3.bw j hm
                  omega)))
            have K4 := (K3.same (Fr.alloc w3 (.cells #[.slice a0 data.length c0] 24))).step hf4 hB4
            have K6 := (K4.step hf5 hB5).step hf6 hB6
            have hstart : SafeRel PK w px pm X0 data l #[.slice k1 ks.length k2, .slice z1 sizes.length z2, .slice r1 cuts.length r2] (.int .i64 0) w6 := ⟨0, d4, B6, Nat.zero_le _, rfl, HA4.out, HR4.out, HQ5.out, hp6, K6⟩
            clear hp3 hp4 hp5 hp6 hf3 hf4 hf5 hf6 hB3 hB4 hB5 hB6 K3 K4 K6 HA3
            go_wp2_with fail
            go_loopw [8] (SafeRel PK w px pm X0 data l #[.slice k1 ks.length k2, .slice z1 sizes.length z2, .slice r1 cuts.length r2]) (fun iv _ => l.length - (intOf iv).toNat)
            case atStart => exact hstart
            case round =>
              clear hstart
              obtain ⟨k, d, B, hk, rfl, hOK, hRT, hSF, hpk, hK⟩ := hrel
              by_cases hkn : k < l.length
              · have hd4 : decide (k < l.length) = true := decide_eq_true hkn
                obtain ⟨b1, off1, rfl, -, hb1w, x0, x1, x2, x3, x4, x5, x6, x7⟩ := actK_cells (HE.out.below hK.fr) k hkn
                have hak := HOK.out _ (List.getElem_mem hkn)
                have hfk := HFE.out _ (List.getElem_mem hkn)
                obtain ⟨A, hA⟩ : ∃ A, A = l[k] := ⟨_, rfl⟩
                rw [← hA] at hak hfk x0 x1 x2 x3 x4 x5 x6 x7
                have hdo := HP.out.act A hpk hOK (by omega) hRT (hak.below hK.fr) hfk (hak.off hK.bw)
                obtain ⟨s0, t0, s1, t1, s2, t2, s3, t3, e0, e1, e2, e3⟩ := hak.slices
                simp only [ActK.val, e0, e1, e2, e3] at hdo x3 x5 x6 x7
                have HDO := Lib.hid hdo
                have HOKK := Lib.hid hOK
                have HRTT := Lib.hid hRT
                have HSFF := Lib.hid hSF
                have HFKK := Lib.hid hfk
                have HKK := Lib.hid hK
                have HPK := Lib.hid hpk
                clear hdo hOK hRT hSF hpk hK hak hfk hA e0 e1 e2 e3
                by_cases ha : A.a = safeN
                · have hq0 : (A.a == [115, 97, 102, 101]) = true := by rw [ha]; rfl
                  clear ha
                  go_wp2_with fail
                  refine ⟨⟨k + 1, d, B, by omega, by go_num, by have h := HOKK.out.more; rw [show k + 4 + 1 = k + 1 + 4 from by omega] at h; exact h, HRTT.out, HSFF.out, HPK.out, HKK.out⟩, by simp [intOf]; omega⟩
                · have hq0 : (A.a == [115, 97, 102, 101]) = false := by rw [beq_eq_false_iff_ne]; exact ha
                  by_cases hb : A.b = safeN
                  · have hq1 : (A.b == [115, 97, 102, 101]) = true := by rw [hb]; rfl
                    clear ha hb
                    go_wp2_with fail
                    refine ⟨⟨k + 1, d, B, by omega, by go_num, by have h := HOKK.out.more; rw [show k + 4 + 1 = k + 1 + 4 from by omega] at h; exact h, HRTT.out, HSFF.out, HPK.out, HKK.out⟩, by simp [intOf]; omega⟩
                  · have hq1 : (A.b == [115, 97, 102, 101]) = false := by rw [beq_eq_false_iff_ne]; exact hb
                    have HS2 := Lib.hid (HSFF.out.plain HOKK.out A ha hb)
                    clear ha hb
                    go_wp2_with (go_at_call 14; refine HDO.out.mono ?_; rintro e w7 ⟨B7, rfl, hp7, hf7, hB7⟩)
                    refine ⟨⟨k + 1, (plainK d A).1, B7, by omega, by go_num, by have h := HOKK.out.plain A HFKK.out; rw [show k + 4 + 1 = k + 1 + 4 from by omega] at h; exact h, HRTT.out.plain HOKK.out A, HS2.out, hp7, HKK.out.step hf7 hB7⟩, by simp [intOf]; omega⟩
              · have hd4 : decide (k < l.length) = false := decide_eq_false hkn
                have hup := HP.out.up ks sizes cuts _ _ _ hpk hOK (by omega) hRT hb1 hb2 hb3 (HKV.out.below hK.fr) (HZV.out.below hK.fr) (HCV.out.below hK.fr) (fun j hj hm => by
                  have h1 := hK.bw j hm
                  rcases hj with ⟨q, e⟩ | ⟨q, e⟩ | ⟨q, e⟩
                  · have := HKV.out.lt (by simpa using e) j q; omega
                  · have := HZV.out.lt (by simpa using e) j q; omega
                  · have := HCV.out.lt (by simpa using e) j q; omega)
                have hOK2 := hOK.up ks sizes cuts
                have hRT2 := hRT.up hOK ks sizes cuts
                have hSF2 := hSF.up hOK ks sizes cuts
                have hdn : (upK d ks sizes cuts).down = false := rfl
                have har : (upK d ks sizes cuts).armed = [] := rfl
                have hop : (upK d ks sizes cuts).ops = [] := rfl
                obtain ⟨du, hdu⟩ : ∃ du, du = upK d ks sizes cuts := ⟨_, rfl⟩
                rw [← hdu] at hup hOK2 hRT2 hSF2 hdn har hop
                have HUP := Lib.hid hup
                have HRD := Lib.hid (fun (wx : World) (B' : List Nat) (hp : PK wx px pm du B') => HP.out.read safeN hp hOK2 (by omega) hRT2 (by simp [safeN, maxLen]))
                rw [hSF2.read hdn, encSafe] at HRD
                have HDN := Lib.hid (fun (wx : World) (B' : List Nat) (hp : PK wx px pm du B') => HP.out.down hp)
                rw [hdn] at HDN
                have HAR := Lib.hid (fun (wx : World) (B' : List Nat) (hp : PK wx px pm du B') => HP.out.armed0 hp hOK2 (by omega) har)
                have HPE := Lib.hid (fun (wx : World) (B' : List Nat) (hp : PK wx px pm du B') => HP.out.pending hp)
                rw [hop] at HPE
                have HKK := Lib.hid hK
                obtain ⟨y0, y1, y2, -, -, -⟩ := three_of_heap hK.box
                clear hup hOK hRT hSF hpk hK hOK2 hRT2 hSF2 hdn har hop hdu
                go_wp2_with (first
                  | (go_at_call 19; refine (HPE.out _ _ hp10).mono ?_; rintro e w11 ⟨rfl, hf11⟩)
                  | (go_at_call 18; refine (HAR.out _ _ hp9).mono ?_; rintro e w10 ⟨ga, gc, rfl, hf10⟩; have hp10 := HP.out.kept hp9 hf10 (by simp))
                  | (go_at_call 17; refine (HDN.out _ _ hp8).mono ?_; rintro e w9 ⟨rfl, hf9⟩; have hp9 := HP.out.kept hp8 hf9 (by simp); have m9 := HP.out.met hp9)
                  | (go_at_call 16; refine (HRD.out _ _ hp7).mono ?_; rintro e w8 ⟨v8, rfl, hb8, hf8⟩; obtain ⟨a8, c8, rfl, -, -⟩ := hb8.form; have hp8 := HP.out.kept hp7 hf8 (by simp); have m8 := HP.out.met hp8; have K8 := (HKK.out.step hf7 hB7).same hf8; have v1 := Later.conv (P := Try.prog) (L := []) hb8 (by simp) 24 5 9 Try.underlying24 Try.underlying5 Try.underlying9 w8 (Fr.refl _ _); have v2 := Later.conv (P := Try.prog) (L := []) (HDA.out.below K8.fr) (by simp) 24 5 9 Try.underlying24 Try.underlying5 Try.underlying9 w8 (Fr.refl _ _))
                  | (go_at_call 15; refine HUP.out.mono ?_; rintro e w7 ⟨B7, rfl, hp7, hf7, hB7⟩)
                  | (go_at_call 5; refine (HAW.out _).mono ?_; rintro e w12 ⟨rfl, hf12⟩))
                go_ret
                exact ⟨rfl, (((K8.fr.trans hf9 (by simp) (n := []) (by simp)).trans hf10 (by simp) (n := []) (by simp)).trans hf11 (by simp) (n := []) (by simp)).trans hf12 (by simp) (by simp)⟩
          · have hd3 : decide (60 < (cuts.length : Int)) = true := decide_eq_true (by omega)
            go_wp2_with (first
              | (go_at_call 8; refine HF1.out.mono ?_; rintro e w1 ⟨rfl, hf1⟩; obtain ⟨y0, y1, y2, -, -, -⟩ := three_of_heap (hf1.heap HBA.out (by simp)))
              | (go_at_call 5; refine (HAW.out _).mono ?_; rintro e w3 ⟨rfl, hf3⟩))
            go_ret
            exact ⟨rfl, (HFA.out.trans hf1 (by simp) (n := []) (by simp)).trans hf3 (by simp) (by simp)⟩
        · have hd2 : decide (20 < (sizes.length : Int)) = true := decide_eq_true (by omega)
          go_wp2_with (first
            | (go_at_call 8; refine HF1.out.mono ?_; rintro e w1 ⟨rfl, hf1⟩; obtain ⟨y0, y1, y2, -, -, -⟩ := three_of_heap (hf1.heap HBA.out (by simp)))
            | (go_at_call 5; refine (HAW.out _).mono ?_; rintro e w3 ⟨rfl, hf3⟩))
          go_ret
          exact ⟨rfl, (HFA.out.trans hf1 (by simp) (n := []) (by simp)).trans hf3 (by simp) (by simp)⟩
      · have hd1 : decide (60 < (ks.length : Int)) = true := decide_eq_true (by omega)
        go_wp2_with (first
          | (go_at_call 8; refine HF1.out.mono ?_; rintro e w1 ⟨rfl, hf1⟩; obtain ⟨y0, y1, y2, -, -, -⟩ := three_of_heap (hf1.heap HBA.out (by simp)))
          | (go_at_call 5; refine (HAW.out _).mono ?_; rintro e w3 ⟨rfl, hf3⟩))
        go_ret
        exact ⟨rfl, (HFA.out.trans hf1 (by simp) (n := []) (by simp)).trans hf3 (by simp) (by simp)⟩
    · have hd0 : decide (200 < (data.length : Int)) = true := decide_eq_true (by omega)
      go_wp2_with (first
        | (go_at_call 8; refine HF1.out.mono ?_; rintro e w1 ⟨rfl, hf1⟩; obtain ⟨y0, y1, y2, -, -, -⟩ := three_of_heap (hf1.heap HBA.out (by simp)))
        | (go_at_call 5; refine (HAW.out _).mono ?_; rintro e w3 ⟨rfl, hf3⟩))
      go_ret
      exact ⟨rfl, (HFA.out.trans hf1 (by simp) (n := []) (by simp)).trans hf3 (by simp) (by simp)⟩
  · have e1 : (if fewLB l = true then (1 : Int) else 0) = 0 := if_neg hfw
    rw [e1] at HF1
    clear hfw e1
    go_wp2_with (first
      | (go_at_call 8; refine HF1.out.mono ?_; rintro e w1 ⟨rfl, hf1⟩; obtain ⟨y0, y1, y2, -, -, -⟩ := three_of_heap (hf1.heap HBA.out (by simp)))
      | (go_at_call 5; refine (HAW.out _).mono ?_; rintro e w3 ⟨rfl, hf3⟩))
    go_ret
    exact ⟨rfl, (HFA.out.trans hf1 (by simp) (n := []) (by simp)).trans hf3 (by simp) (by simp)⟩
end Go.Proofs.Ytmchnaojlnjmjaa
