/- What the statements of layer 11 walk over: the acts, what they do; Few. -/
import Derived.Test.YtmchnaojlnjmjaaGreatEight
import Derived.Test.YtmchnaojlnjmjaaGreatDirA
import Derived.Test.YtmchnaojlnjmjaaGreatBs
import Derived.Deep.DeepCutAuto
import Derived.Test.YtmchnaojlnjmjaaGreatDskOk
namespace Go.Proofs.YtmchnaojlnjmjaaGreat
open Go.RowKit Go.Maps

/-- An act. -/
structure ActK where
  kind : Int
  a : List UInt8
  b : List UInt8
  dv : Value
  data : List UInt8
  n : Int
  kv : Value
  keep : List Bool
  zv : Value
  sizes : List Int
  cv : Value
  cuts : List Int
def ActK.cells (d : ActK) : List Value := [.int .i64 d.kind, encStr d.a, encStr d.b, d.dv, .int .i64 d.n, d.kv, d.zv, d.cv]
def ActK.val (d : ActK) : Value := .agg #[.int .i64 d.kind, encStr d.a, encStr d.b, d.dv, .int .i64 d.n, d.kv, d.zv, d.cv]
structure ActK.ok (d : ActK) (w : World) : Prop where
  data : bytesAt w d.dv d.data
  keep : cellsAt w d.kv (d.keep.map Value.bool)
  sizes : cellsAt w d.zv (d.sizes.map (Value.int .i64))
  cuts : cellsAt w d.cv (d.cuts.map (Value.int .i64))
  lo : -9223372036854775808 ≤ d.n
  hi : d.n ≤ 9223372036854775807
theorem ActK.ok.below {d : ActK} {w w' : World} (h : d.ok w) (hf : Fr [] w w') : d.ok w' := ⟨h.data.below hf, h.keep.below hf, h.sizes.below hf, h.cuts.below hf, h.lo, h.hi⟩
theorem ActK.ok.slices {d : ActK} {w : World} (h : d.ok w) : ∃ x0 y0 x1 y1 x2 y2 x3 y3, d.dv = .slice x0 d.data.length y0 ∧ d.kv = .slice x1 d.keep.length y1 ∧ d.zv = .slice x2 d.sizes.length y2 ∧ d.cv = .slice x3 d.cuts.length y3 := by
  obtain ⟨x0, y0, h0, -, -⟩ := h.data.form
  obtain ⟨x1, y1, h1, -, -⟩ := h.keep.form
  obtain ⟨x2, y2, h2, -, -⟩ := h.sizes.form
  obtain ⟨x3, y3, h3, -, -⟩ := h.cuts.form
  rw [List.length_map] at h1 h2 h3
  exact ⟨x0, y0, x1, y1, x2, y2, x3, y3, h0, h1, h2, h3⟩
def fewK (d : ActK) : Prop := d.a.length ≤ 90 ∧ d.b.length ≤ 90 ∧ d.data.length ≤ 200 ∧ d.keep.length ≤ 60 ∧ d.sizes.length ≤ 20 ∧ d.cuts.length ≤ 60
instance (d : ActK) : Decidable (fewK d) := by unfold fewK; infer_instance
def fewLB (l : List ActK) : Bool := decide (l.length ≤ 60 ∧ ∀ a ∈ l, fewK a)
/-- The cells of one act of a list. -/
theorem actK_cells {w : World} {a0 : Option Addr} {n cap : Nat} {l : List ActK} (h : elemsAt w (.slice a0 n cap) 8 (l.map ActK.cells)) (k : Nat) (hk : k < l.length) : ∃ b off, a0 = some ⟨b, off, none⟩ ∧ n = l.length ∧ b < w.heap.size ∧
    w.cell? ⟨b, off + k * 8, none⟩ = some (.int .i64 (l[k]'hk).kind) ∧ w.cell? ⟨b, off + k * 8 + 1, none⟩ = some (encStr (l[k]'hk).a) ∧ w.cell? ⟨b, off + k * 8 + 2, none⟩ = some (encStr (l[k]'hk).b) ∧ w.cell? ⟨b, off + k * 8 + 3, none⟩ = some (l[k]'hk).dv ∧
    w.cell? ⟨b, off + k * 8 + 4, none⟩ = some (.int .i64 (l[k]'hk).n) ∧ w.cell? ⟨b, off + k * 8 + 5, none⟩ = some (l[k]'hk).kv ∧ w.cell? ⟨b, off + k * 8 + 6, none⟩ = some (l[k]'hk).zv ∧ w.cell? ⟨b, off + k * 8 + 7, none⟩ = some (l[k]'hk).cv := by
  rcases h with ⟨_, _, _, _, e⟩ | ⟨b, off, cap', e, _, _, hb, hcell⟩
  · rw [List.map_eq_nil_iff] at e; subst e; simp at hk
  · simp only [Value.slice.injEq, List.length_map] at e
    obtain ⟨rfl, hn, rfl⟩ := e
    obtain ⟨-, h1⟩ := hcell k (by simpa using hk)
    rw [List.getElem_map] at h1
    exact ⟨b, off, rfl, hn, hb, by simpa using h1 0 _ rfl, h1 1 _ rfl, h1 2 _ rfl, h1 3 _ rfl, h1 4 _ rfl, h1 5 _ rfl, h1 6 _ rfl, h1 7 _ rfl⟩
def FewRelK (w : World) (l : List ActK) (iv : Value) (wx : World) : Prop := ∃ k : Nat, k ≤ l.length ∧ iv = .int .i64 (k : Int) ∧ (∀ j, j < k → ∀ h : j < l.length, fewK (l[j]'h)) ∧ Fr [] w wx
set_option maxRecDepth 100000 in
set_option maxHeartbeats 1000000 in
theorem fewk_any (l : List ActK) (lv : Value) (w : World) (h : elemsAt w lv 8 (l.map ActK.cells)) (hok : ∀ a ∈ l, a.ok w) :
    Calls Tryz.prog 4 #[lv] w fun e w' => e = .returned (.int .i64 (if fewLB l then 1 else 0)) ∧ Fr [] w w' := by
  obtain ⟨a0, c0, rfl, hle, hmx⟩ := h.form
  rw [List.length_map] at h hle ⊢
  have hm' : c0 ≤ 9223372036854775807 := by simpa [maxLen] using hmx
  have HE := Lib.hid h
  have HOK := Lib.hid hok
  clear h hok
  obtain ⟨R, hR⟩ : ∃ R : Int, R = if fewLB l then 1 else 0 := ⟨_, rfl⟩
  rw [← hR]
  have HR := Lib.hid hR
  clear hR
  by_cases hl : l.length ≤ 60
  · have hd : decide (60 < (l.length : Int)) = false := decide_eq_false (by omega)
    go_enter Tryz.func4, Tryz.ntmps4
    go_wp2_with fail
    go_loopw [3] (FewRelK w l) (fun iv _ => l.length - (intOf iv).toNat)
    case atStart => exact ⟨0, Nat.zero_le _, rfl, fun j hj => by omega, Fr.refl _ _⟩
    case round =>
      obtain ⟨k, hk, rfl, hall, hf⟩ := hrel
      have HA := Lib.hid hall
      have HF := Lib.hid hf
      by_cases hkn : k < l.length
      · have hd2 : decide (k < l.length) = true := decide_eq_true hkn
        obtain ⟨b, off, rfl, -, -, hc0, hc1, hc2, hc3, hc4, hc5, hc6, hc7⟩ := actK_cells (HE.out.below hf) k hkn
        have hak := HOK.out _ (List.getElem_mem hkn)
        obtain ⟨x0, y0, x1, y1, x2, y2, x3, y3, e0, e1, e2, e3⟩ := hak.slices
        rw [e0] at hc3
        rw [e1] at hc5
        rw [e2] at hc6
        rw [e3] at hc7
        obtain ⟨A, hA⟩ : ∃ A, A = l[k] := ⟨_, rfl⟩
        rw [← hA] at hc0 hc1 hc2 hc3 hc4 hc5 hc6 hc7
        have HAA := Lib.hid hA
        have hba := heap_alloc_new wr (.cells #[.int .i64 A.kind, encStr A.a, encStr A.b, .slice x0 A.data.length y0, .int .i64 A.n, .slice x1 A.keep.length y1, .slice x2 A.sizes.length y2, .slice x3 A.cuts.length y3] 42)
        have hfa := Fr.alloc wr (.cells #[.int .i64 A.kind, encStr A.a, encStr A.b, .slice x0 A.data.length y0, .int .i64 A.n, .slice x1 A.keep.length y1, .slice x2 A.sizes.length y2, .slice x3 A.cuts.length y3] 42)
        obtain ⟨v0, v1, v2, v3, v4, v5, v6, v7⟩ := eight_of_heap hba
        have HFA := Lib.hid hfa
        clear hak e0 e1 e2 e3 hA hall hf hba hfa
        by_cases hb0 : A.a.length ≤ 90
        · have hq0 : decide (90 < (A.a.length : Int)) = false := decide_eq_false (by omega)
          by_cases hb1 : A.b.length ≤ 90
          · have hq1 : decide (90 < (A.b.length : Int)) = false := decide_eq_false (by omega)
            by_cases hb2 : A.data.length ≤ 200
            · have hq2 : decide (200 < (A.data.length : Int)) = false := decide_eq_false (by omega)
              by_cases hb3 : A.keep.length ≤ 60
              · have hq3 : decide (60 < (A.keep.length : Int)) = false := decide_eq_false (by omega)
                by_cases hb4 : A.sizes.length ≤ 20
                · have hq4 : decide (20 < (A.sizes.length : Int)) = false := decide_eq_false (by omega)
                  by_cases hb5 : A.cuts.length ≤ 60
                  · have hq5 : decide (60 < (A.cuts.length : Int)) = false := decide_eq_false (by omega)
                    have hfk := Lib.hid (show fewK A from ⟨hb0, hb1, hb2, hb3, hb4, hb5⟩)
                    clear hb0 hb1 hb2 hb3 hb4 hb5
                    go_wp2_with fail
                    refine ⟨⟨k + 1, by omega, by go_num, fun j hj hjl => ?_, HF.out.trans HFA.out (by simp) (by simp)⟩, by simp [intOf]; omega⟩
                    by_cases e : j = k
                    · subst e; rw [← HAA.out]; exact hfk.out
                    · exact HA.out j (by omega) hjl
                  · have hq5 : decide (60 < (A.cuts.length : Int)) = true := decide_eq_true (by omega)
                    have HF0 := Lib.hid (show R = 0 by rw [HR.out, show fewLB l = false from decide_eq_false (fun h => hb5 ((h.2 A (HAA.out ▸ List.getElem_mem hkn)).2.2.2.2.2))]; rfl)
                    clear hb0 hb1 hb2 hb3 hb4 hb5
                    go_wp2_with fail
                    go_ret
                    exact ⟨by rw [HF0.out]; rfl, HF.out.trans HFA.out (by simp) (by simp)⟩
                · have hq4 : decide (20 < (A.sizes.length : Int)) = true := decide_eq_true (by omega)
                  have HF0 := Lib.hid (show R = 0 by rw [HR.out, show fewLB l = false from decide_eq_false (fun h => hb4 ((h.2 A (HAA.out ▸ List.getElem_mem hkn)).2.2.2.2.1))]; rfl)
                  clear hb0 hb1 hb2 hb3 hb4
                  go_wp2_with fail
                  go_ret
                  exact ⟨by rw [HF0.out]; rfl, HF.out.trans HFA.out (by simp) (by simp)⟩
              · have hq3 : decide (60 < (A.keep.length : Int)) = true := decide_eq_true (by omega)
                have HF0 := Lib.hid (show R = 0 by rw [HR.out, show fewLB l = false from decide_eq_false (fun h => hb3 ((h.2 A (HAA.out ▸ List.getElem_mem hkn)).2.2.2.1))]; rfl)
                clear hb0 hb1 hb2 hb3
                go_wp2_with fail
                go_ret
                exact ⟨by rw [HF0.out]; rfl, HF.out.trans HFA.out (by simp) (by simp)⟩
            · have hq2 : decide (200 < (A.data.length : Int)) = true := decide_eq_true (by omega)
              have HF0 := Lib.hid (show R = 0 by rw [HR.out, show fewLB l = false from decide_eq_false (fun h => hb2 ((h.2 A (HAA.out ▸ List.getElem_mem hkn)).2.2.1))]; rfl)
              clear hb0 hb1 hb2
              go_wp2_with fail
              go_ret
              exact ⟨by rw [HF0.out]; rfl, HF.out.trans HFA.out (by simp) (by simp)⟩
          · have hq1 : decide (90 < (A.b.length : Int)) = true := decide_eq_true (by omega)
            have HF0 := Lib.hid (show R = 0 by rw [HR.out, show fewLB l = false from decide_eq_false (fun h => hb1 ((h.2 A (HAA.out ▸ List.getElem_mem hkn)).2.1))]; rfl)
            clear hb0 hb1
            go_wp2_with fail
            go_ret
            exact ⟨by rw [HF0.out]; rfl, HF.out.trans HFA.out (by simp) (by simp)⟩
        · have hq0 : decide (90 < (A.a.length : Int)) = true := decide_eq_true (by omega)
          have HF0 := Lib.hid (show R = 0 by rw [HR.out, show fewLB l = false from decide_eq_false (fun h => hb0 ((h.2 A (HAA.out ▸ List.getElem_mem hkn)).1))]; rfl)
          clear hb0
          go_wp2_with fail
          go_ret
          exact ⟨by rw [HF0.out]; rfl, HF.out.trans HFA.out (by simp) (by simp)⟩
      · have hd2 : decide (k < l.length) = false := decide_eq_false hkn
        have HF1 := Lib.hid (show R = 1 by rw [HR.out, show fewLB l = true from decide_eq_true ⟨hl, fun a ha => by obtain ⟨j, hj, rfl⟩ := List.getElem_of_mem ha; exact hall j (by omega) hj⟩]; rfl)
        clear hall hf
        go_wp2_with fail
        go_ret
        exact ⟨by rw [HF1.out]; rfl, HF.out⟩
  · have hd : decide (60 < (l.length : Int)) = true := decide_eq_true (by omega)
    have HF0 := Lib.hid (show R = 0 by rw [HR.out, show fewLB l = false from decide_eq_false (fun h => hl h.1)]; rfl)
    clear hl
    go_enter Tryz.func4, Tryz.ntmps4
    go_wp2_with fail
    go_ret
    exact ⟨by rw [HF0.out]; rfl, Fr.refl _ _⟩
/-- A disk behind an act, and what it answers. -/
def plainK (d : DskD) (A : ActK) : DskD × Int :=
  if A.kind = 0 then createK d A.a else if A.kind = 1 then appendK d A.a A.data else if A.kind = 2 then syncK d A.a else if A.kind = 3 then syncDirK d else if A.kind = 4 then moveK d A.a A.b else if A.kind = 5 then dropK d A.a
  else if A.kind = 6 then (armK d A.n A.data.length, 0) else if A.kind = 7 then ({ d with down := true }, 0) else if A.kind = 8 then (upK d A.keep A.sizes A.cuts, 0) else ((flipK d A.a A.n).1, if (flipK d A.a A.n).2 then 1 else 0)
theorem AllOk.plain {d : DskD} {k : Nat} (h : AllOk d k) (A : ActK) (hf : fewK A) : AllOk (plainK d A).1 (k + 1) := by
  have ha : A.a.length ≤ maxLen := by have := hf.1; simp [maxLen]; omega
  have hb : A.b.length ≤ maxLen := by have := hf.2.1; simp [maxLen]; omega
  have hd : A.data.length ≤ 1000 := by have := hf.2.2.1; omega
  unfold plainK
  split
  · exact h.create _ ha
  · split
    · exact h.append _ _ hd
    · split
      · exact h.sync _
      · split
        · exact h.syncDir
        · split
          · exact h.move _ _ ha hb
          · split
            · exact h.drop _ ha
            · split
              · exact h.arm _ _
              · split
                · have o := h.more.ok
                  exact ⟨⟨o.sn, o.ss, o.nums, o.snums, o.onums, o.pre, o.fl, o.nl, o.sl, o.ol, o.st0, o.st, o.len⟩, h.more.kinds, h.okn, h.oks, h.oko, h.more.al⟩
                · split
                  · exact h.up _ _ _
                  · exact h.flip _ _
theorem RightOk.plain {d : DskD} {k : Nat} (h : RightOk d) (hk : AllOk d k) (A : ActK) : RightOk (plainK d A).1 := by
  unfold plainK
  split
  · exact h.create hk _
  · split
    · exact h.append _ _
    · split
      · exact h.sync _
      · split
        · exact h.syncDir
        · split
          · exact h.move hk _ _
          · split
            · exact h.drop hk _
            · split
              · exact h.arm _ _
              · split
                · exact h.same rfl rfl rfl
                · split
                  · exact h.up hk _ _ _
                  · exact h.flip _ _
/-- What reading a name gives. -/
def readK (d : DskD) (m : List UInt8) : List UInt8 × Int := if d.down then ([], 11) else match lookL d.dn m with | some n => ((fileK d n).now, 0) | none => ([], 7)
/-- None of the act's data lies in a block of B. -/
def ActK.off (A : ActK) (B : List Nat) : Prop := ∀ j, (A.dv.ownBlock = some j ∧ A.data ≠ []) ∨ (A.kv.ownBlock = some j ∧ A.keep ≠ []) ∨ (A.zv.ownBlock = some j ∧ A.sizes ≠ []) ∨ (A.cv.ownBlock = some j ∧ A.cuts ≠ []) → j ∉ B
theorem ActK.ok.off {A : ActK} {w : World} {B : List Nat} (h : A.ok w) (hB : ∀ k ∈ B, w.heap.size ≤ k) : A.off B := by
  intro j hj hm
  have := hB j hm
  rcases hj with ⟨q, e⟩ | ⟨q, e⟩ | ⟨q, e⟩ | ⟨q, e⟩
  · have := h.data.lt (by simpa using e) j q; omega
  · have := h.keep.lt (by simpa using e) j q; omega
  · have := h.sizes.lt (by simpa using e) j q; omega
  · have := h.cuts.lt (by simpa using e) j q; omega
end Go.Proofs.YtmchnaojlnjmjaaGreat
