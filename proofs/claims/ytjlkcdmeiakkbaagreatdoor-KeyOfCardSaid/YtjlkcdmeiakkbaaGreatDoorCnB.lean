/- The document's sorted (layer 16). -/
import Derived.Test.YtjlkcdmeiakkbaaGreatDoorMm
import Derived.Test.YtjlkcdmeiakkbaaGreatDoorDt
import Derived.Test.YtjlkcdmeiakkbaaGreatDoorDirLs
import Derived.Test.YtjlkcdmeiakkbaaGreatDoorBs
import Derived.LoopTactic
import Derived.WalkMore
import Derived.Deep.DeepCutAuto
set_option linter.unusedVariables false
set_option linter.unusedSimpArgs false
namespace Go.Proofs.YtjlkcdmeiakkbaaGreatDoor
open Go.RowKit

theorem infoStrC : (Tryz.prog.info? 9).map (fun i => (i.zero, i.size, i.bytes)) = some (some (.string ⟨#[]⟩), 1, 16) := by kernel_rfl
theorem sort_step {α : Type} (lt : α → α → Bool) (stay : Nat) {l : List α} {k : Nat} (h : k < l.length) : (l.take (k + 1)).foldl (insB lt stay) [] = insB lt stay ((l.take k).foldl (insB lt stay) []) (l[k]'h) := by
  rw [List.take_succ_eq_append_getElem h, List.foldl_append]
  rfl
theorem sort_take_len {α : Type} (lt : α → α → Bool) (stay : Nat) {l : List α} {k : Nat} (h : k ≤ l.length) : ((l.take k).foldl (insB lt stay) []).length = k := by
  rw [(sortB_fold lt stay (l.take k) []).length_eq, List.nil_append, List.length_take]
  omega
/-- A row of the call's own: what its front and its back read like. -/
theorem row_front {w : World} {base g n co : Nat} {e : TypeId} {xs : List Value} (h : w.ownsRow base e 1 (.slice (some ⟨g, 0, none⟩) n co) n xs) (p : Nat) : ∀ j u, (xs.take p)[j]? = some u → w.cell? ((⟨g, 0, none⟩ : Addr).add j) = some u := fun j u hj => by
  have hl := (List.getElem?_eq_some_iff.1 hj).1
  rw [List.length_take] at hl
  rw [List.getElem?_take, if_pos (by omega)] at hj
  exact h.cells rfl j u hj
theorem row_back {w : World} {base g n co : Nat} {e : TypeId} {xs : List Value} (h : w.ownsRow base e 1 (.slice (some ⟨g, 0, none⟩) n co) n xs) (p : Nat) : ∀ j u, (xs.drop p)[j]? = some u → w.cell? ((⟨g, p, none⟩ : Addr).add j) = some u := fun j u hj => by
  rw [List.getElem?_drop] at hj
  have := h.cells rfl (p + j) u hj
  have h1 : (⟨g, 0, none⟩ : Addr).add (p + j) = ⟨g, 0 + (p + j), none⟩ := by unfold Addr.add; split <;> simp_all
  have h2 : (⟨g, p, none⟩ : Addr).add j = ⟨g, p + j, none⟩ := by unfold Addr.add; split <;> simp_all
  rw [h1] at this
  rw [h2, show p + j = 0 + (p + j) by omega]
  exact this
def SoRel (w : World) (l : List (List UInt8)) (stay : Nat) (ov iv : Value) (wx : World) : Prop := ∃ k : Nat, k ≤ l.length ∧ iv = .int .i64 (k : Int) ∧ wx.ownsRow w.heap.size 9 1 ov k (((l.take k).foldl (insB lessB stay) []).map encStr) ∧ Fr [] w wx
def SiRel (w : World) (o : List (List UInt8)) (stay : Nat) (x : List UInt8) (av : Value) (wx : World) : Prop := ∃ p : Nat, p ≤ o.length ∧ av = .int .i64 (p : Int) ∧ insPos lessB stay x o o.length = insPos lessB stay x o p ∧ Fr [] w wx
set_option maxRecDepth 100000 in
set_option maxHeartbeats 4000000 in
theorem csorted_any (l : List (List UInt8)) (lv : Value) (stay : Nat) (w : World) (h : strsAt w lv l) (hl : l.length ≤ 100000) (hx : ∀ x ∈ l, x.length ≤ maxLen) (hs : stay ≤ 1000) :
    Calls Tryz.prog 39 #[lv, .int .i64 (stay : Int)] w fun e w' => ∃ v, e = .returned v ∧ strsAt w' v (sortB lessB stay l) ∧ Fr [] w w' := by
  obtain ⟨iS, hiS, hz0, hz1, hz2⟩ := info_parts infoStrC
  obtain ⟨a0, c0, rfl, hle, hmx⟩ := h.form
  have HE := Lib.hid h
  have HXL := Lib.hid hx
  obtain ⟨n, hn⟩ : ∃ n, n = l.length := ⟨_, rfl⟩
  rw [← hn] at HE hl hle ⊢
  have HN := Lib.hid hn
  clear h hx hn
  go_enter Tryz.func39, Tryz.ntmps39
  go_wp2_with fail
  go_loopw [5, 6] (SoRel w l stay) (fun _ iv _ => n - (intOf iv).toNat)
  case atStart => exact ⟨0, Nat.zero_le _, rfl, World.ownsRow_nil _ _ _ _, Fr.refl _ _⟩
  case round =>
    obtain ⟨k, hk, rfl, hown, hf⟩ := hrel
    have hk2 : k ≤ n := by have := HN.out; omega
    have HOWN := Lib.hid hown
    have HF := Lib.hid hf
    obtain ⟨ao, co, rfl, hco, hmo⟩ := owns_slice hown
    by_cases hkn : k < n
    · have hd1 : decide (k < n) = true := decide_eq_true hkn
      have hkl : k < l.length := by have := HN.out; omega
      obtain ⟨b, off, rfl, hc⟩ := str_cell (HE.out.below hf) k hkl
      have hxm := HXL.out _ (List.getElem_mem hkl)
      have HST := Lib.hid (sort_step lessB stay hkl)
      have hol := sort_take_len lessB stay (l := l) (k := k) hk
      obtain ⟨x, hxx⟩ : ∃ x, x = l[k]'hkl := ⟨_, rfl⟩
      rw [← hxx] at hc hxm HST
      obtain ⟨o, ho⟩ : ∃ o, o = (l.take k).foldl (insB lessB stay) [] := ⟨_, rfl⟩
      rw [← ho] at HOWN HST hol
      have HOL := Lib.hid hol
      have HOX := Lib.hid (show ∀ y ∈ o, y.length ≤ maxLen from fun y hy => by
        rw [ho] at hy
        have := (sortB_fold lessB stay (l.take k) []).mem_iff.1 hy
        rw [List.nil_append] at this
        exact HXL.out y (List.mem_of_mem_take this))
      have hbase : w.heap.size ≤ wr.heap.size := hf.size
      have HC := Lib.hid hc
      clear hown hf hxx ho hol hc
      go_wp2_with fail
      obtain ⟨wo, hwo⟩ : ∃ wo, wo = wr := ⟨_, rfl⟩
      rw [← hwo] at HOWN HF HC hbase ⊢
      clear hwo
      go_loopw [7] (SiRel wo o stay x) (fun av _ => (intOf av).toNat)
      case atStart => exact ⟨k, by rw [HOL.out]; exact Nat.le_refl _, rfl, by rw [HOL.out], Fr.refl _ _⟩
      case round =>
        obtain ⟨p, hp, rfl, hpos, hf⟩ := hrel
        have hpk : p ≤ k := by have := HOL.out; omega
        have HPOS := Lib.hid hpos
        have HFI := Lib.hid hf
        clear hpos hf
        by_cases hsp : stay < p
        · have hd2 : decide (stay < p) = true := decide_eq_true hsp
          obtain ⟨q, hpq1⟩ : ∃ q, p = q + 1 := ⟨p - 1, by omega⟩
          have hpq : (p : Int) - 1 = (q : Int) := by omega
          have hqo : q < o.length := by have := HOL.out; omega
          have hqk : q < k := by have := HOL.out; omega
          have hne : o ≠ [] := fun e => by rw [e] at hqo; simp at hqo
          have HCELL := Lib.hid (show ∃ g, ao = some ⟨g, 0, none⟩ ∧ wo.cell? ⟨g, q, none⟩ = some (encStr (o[q]'hqo)) by
            rcases HOWN.out.2 with ⟨-, h0⟩ | ⟨g, cap, cur, e, -, -, -⟩
            · omega
            · have e2 := e
              injection e with e1
              refine ⟨g, e1, ?_⟩
              have h1 := HOWN.out.cells (g := g) (by rw [e2]; rfl) q _ (by rw [List.getElem?_map, List.getElem?_eq_getElem hqo]; rfl)
              have hadd : (⟨g, 0, none⟩ : Addr).add q = ⟨g, 0 + q, none⟩ := by unfold Addr.add; split <;> simp_all
              rwa [hadd, Nat.zero_add] at h1)
          obtain ⟨g, rfl, hcq⟩ := HCELL.out
          obtain ⟨y, hy⟩ : ∃ y, y = o[q]'hqo := ⟨_, rfl⟩
          rw [← hy] at hcq
          have hym := HOX.out _ (List.getElem_mem hqo)
          rw [← hy] at hym
          have HLS := Lib.hid (fun wx => rless_any x y wx hxm hym)
          have HIN := Lib.hid (show insPos lessB stay x o p = if lessB x y = true then insPos lessB stay x o q else p by
            rw [hpq1]
            have e1 : insPos lessB stay x o (q + 1) = if stay < q + 1 ∧ (o[q]?.map (lessB x)) = some true then insPos lessB stay x o q else q + 1 := rfl
            rw [e1, List.getElem?_eq_getElem hqo, ← hy]
            by_cases c : lessB x y = true
            · rw [if_pos c, if_pos ⟨by omega, by rw [← c]; rfl⟩]
            · rw [if_neg c, if_neg (fun z => c (by simpa using z.2))])
          have HCQ := Lib.hid hcq
          obtain ⟨L, hL⟩ : ∃ L, L = lessB x y := ⟨_, rfl⟩
          rw [← hL] at HLS HIN
          have HPQ := Lib.hid hpq1
          have HPI := Lib.hid hpq
          clear hy hym hcq hL hne HCELL hpq1 hpq hsp hqo
          go_upto_region 6 with fail
          refine wp_region_G [] [(0, false), (1, false), (2, false), (3, false), (4, false), (5, false), (6, false), (7, false), (8, false), (9, false), (10, false), (11, false), (12, false), (13, true), (14, false)] 52 rfl (by kernel_rfl) (by kernel_rfl) (by kernel_rfl) (fun c a d v w h => by cases d <;> exact h) (fun w6 hf6 => ?_)
          simp only [List.map_cons, List.map_nil, List.getElem?_toArray, List.getElem?_cons_succ, List.getElem?_cons_zero, Option.getD_some]
          have HF6 := Lib.hid (HFI.out.trans hf6 (by simp) (n := []) (by simp))
          clear hf6
          iterate 10 (apply wpG_t; · (intro w' hf'; have hff := HF6.out.trans hf' (by simp) (n := []) (by simp); have c0 := hff.cell HC.out (by simp); go_wp2_with fail; exact ⟨rfl, rfl⟩))
          iterate 3 (apply wpG_t; · (intro w' hf'; have hff := HF6.out.trans hf' (by simp) (n := []) (by simp); have c1 := hff.cell HCQ.out (by simp); have hpq := HPI.out; go_wp2_with fail; exact ⟨rfl, rfl⟩))
          refine wpG_x ?_
          go_wp2_with (go_at_call 79; refine (HLS.out _).mono ?_; rintro e w7 ⟨rfl, hf7⟩)
          refine ⟨hf7, rfl, ?_⟩
          have HF7 := Lib.hid (HF6.out.trans hf7 (by simp) (n := []) (by simp))
          clear hf7
          apply wpG_t
          · (intro w' hf'; go_wp2_with fail; exact ⟨rfl, rfl⟩)
          refine wpG_end ?_
          cases L with
          | true =>
            go_wp2_with fail
            refine ⟨⟨q, by have := HOL.out; omega, by rw [HPI.out], by rw [HPOS.out, HIN.out, if_pos rfl], HF7.out⟩, ?_⟩
            rw [HPI.out]
            simp [intOf]
            have := HPQ.out
            omega
          | false =>
            have HINS := Lib.hid (show insPos lessB stay x o o.length = p by rw [HPOS.out, HIN.out, if_neg (by decide)])
            go_upto_region 8 with fail
            have hz : w.heap.size ≤ w7.heap.size := by have := HF7.out.size; omega
            have hown0 : (w7.alloc (.cells #[] 9)).ownsRow w7.heap.size 9 1 (.slice (some ⟨w7.heap.size, 0, none⟩) 0 0) 0 [] := owns_of_heap (cur := []) (heap_alloc_new _ _) (Nat.le_refl _) rfl (Nat.le_refl _) (by decide) rfl
            have hfa := Fr.alloc w7 (.cells #[] 9)
            have HOA := Lib.hid (fun wx (hfx : Fr [] w7 wx) => owns_kept HOWN.out (HF7.out.trans hfx (by simp) (n := []) (by simp)) (by simp))
            have HC2 := Lib.hid (fun wx (hfx : Fr [] w7 wx) => (HF7.out.trans hfx (by simp) (n := []) (by simp)).cell HC.out (by simp))
            have hp1 : p ≤ 100001 := by have := HOL.out; omega
            have hk1 : k ≤ 100000 := by omega
            have hl1 : ((o.take p).map encStr).length = p * 1 := by rw [List.length_map, List.length_take]; omega
            have hl3 : ((o.drop p).map encStr).length = (k - p) * 1 := by rw [List.length_map, List.length_drop, HOL.out]; omega
            have HL1 := Lib.hid hl1
            have HL3 := Lib.hid hl3
            have HEND := Lib.hid (show ([] ++ (o.take p).map encStr) ++ [encStr x] ++ (o.drop p).map encStr = (insB lessB stay o x).map encStr by unfold insB; rw [HINS.out]; simp)
            have HS1 := Lib.hid (fun wx (hfx : Fr [] w7 wx) => fun j u (hj : ((o.take p).map encStr)[j]? = some u) => row_front (HOA.out wx hfx) p j u (by rw [← List.map_take]; exact hj))
            have HS3 := Lib.hid (fun wx (hfx : Fr [] w7 wx) => row_back (HOA.out wx hfx) p)
            have HZA := Lib.hid hfa
            have HO0 := Lib.hid hown0
            have HNUM := Lib.hid (show 0 + p + 1 + (k - p) = k + 1 by omega)
            clear hl1 hl3 hfa hown0
            by_cases hcp : co = p
            · obtain rfl : p = co := hcp.symm
              obtain rfl : k = p := by omega
              have HSRC := Lib.hid (show ∀ wx, Fr [] w7 wx → ∀ j u, ((o.drop k).map encStr)[j]? = some u → wx.cell? ((⟨g, 0, none⟩ : Addr).add j) = some u from fun wx _ j u hj => by
                rw [List.drop_eq_nil_of_le (by rw [HOL.out]; exact Nat.le_refl _)] at hj
                simp at hj)
              have HL30 := Lib.hid (show ((o.drop k).map encStr).length = 0 * 1 by rw [HL3.out]; omega)
              go_wp2_with (first
                | (at_builtin; have := w9; refine wpL_appendE rfl _ _ 22 rfl w7.heap.size 9 iS (.string ⟨#[]⟩) 1 16 Tryz.underlying22 hiS hz0 hz1 hz2 rfl (by decide) v9 (0 + k + 1) _ rfl HO9.out (.slice (some ⟨g, 0, none⟩) 0 0) 0 ((o.drop k).map encStr) rfl HL30.out (by intro u hu; obtain ⟨y, -, rfl⟩ := List.mem_map.1 hu; rfl) (.inr ⟨_, _, rfl, HSRC.out w9 HF9.out⟩) (by omega) (by simp only [maxLen]; omega) HF9.out.size ?_; intro v10 w10 hown10 hf10; have HF10 := Lib.hid (Fr.own HF9.out HO9.out hf10); have HO10 := Lib.hid hown10)
                | (at_builtin; have := w8; refine wpL_append1 rfl _ _ 22 rfl w7.heap.size 9 iS (.string ⟨#[]⟩) 16 Tryz.underlying22 hiS hz0 hz1 hz2 rfl v8 (0 + k) _ rfl HO8.out (encStr x) rfl rfl (by omega) (by simp only [maxLen]; omega) HF8.out.size ?_; intro v9 w9 hown9 hf9 _; have HF9 := Lib.hid (Fr.own HF8.out HO8.out hf9); have HO9 := Lib.hid hown9)
                | (at_builtin; refine wpL_appendE rfl _ _ 22 rfl w7.heap.size 9 iS (.string ⟨#[]⟩) 1 16 Tryz.underlying22 hiS hz0 hz1 hz2 rfl (by decide) _ 0 _ rfl HO0.out (.slice (some ⟨g, 0, none⟩) k k) k ((o.take k).map encStr) rfl HL1.out (by intro u hu; obtain ⟨y, -, rfl⟩ := List.mem_map.1 hu; rfl) (.inr ⟨_, _, rfl, HS1.out _ HZA.out⟩) (by omega) (by simp only [maxLen]; omega) HZA.out.size ?_; intro v8 w8 hown8 hf8; have HF8 := Lib.hid (Fr.own HZA.out HO0.out hf8); have HO8 := Lib.hid hown8; have c8 := HC2.out w8 HF8.out))
              have h10 := HO10.out
              rw [show 0 + k + 1 + 0 = k + 1 by omega, HEND.out] at h10
              refine ⟨⟨k + 1, by have := HN.out; omega, by go_num, ?_, HF.out.trans (HF7.out.trans HF10.out (by simp) (n := []) (by simp)) (by simp) (by simp)⟩, by simp [intOf]; omega⟩
              rw [HST.out]
              exact owns_base h10 (fun j hj => Nat.le_trans hz (h10.lt j hj).1)
            · skip
              have HSRC := Lib.hid (show ∀ wx, Fr [] w7 wx → ∀ j u, ((o.drop p).map encStr)[j]? = some u → wx.cell? ((⟨g, p, none⟩ : Addr).add j) = some u from fun wx hfx j u hj => HS3.out wx hfx j u (by rw [← List.map_drop]; exact hj))
              go_wp2_with (first
                | (at_builtin; have := w9; refine wpL_appendE rfl _ _ 22 rfl w7.heap.size 9 iS (.string ⟨#[]⟩) 1 16 Tryz.underlying22 hiS hz0 hz1 hz2 rfl (by decide) v9 (0 + p + 1) _ rfl HO9.out (.slice (some ⟨g, p, none⟩) (k - p) (co - p)) (k - p) ((o.drop p).map encStr) rfl HL3.out (by intro u hu; obtain ⟨y, -, rfl⟩ := List.mem_map.1 hu; rfl) (.inr ⟨_, _, rfl, HSRC.out w9 HF9.out⟩) (by omega) (by simp only [maxLen]; omega) HF9.out.size ?_; intro v10 w10 hown10 hf10; have HF10 := Lib.hid (Fr.own HF9.out HO9.out hf10); have HO10 := Lib.hid hown10)
                | (at_builtin; have := w8; refine wpL_append1 rfl _ _ 22 rfl w7.heap.size 9 iS (.string ⟨#[]⟩) 16 Tryz.underlying22 hiS hz0 hz1 hz2 rfl v8 (0 + p) _ rfl HO8.out (encStr x) rfl rfl (by omega) (by simp only [maxLen]; omega) HF8.out.size ?_; intro v9 w9 hown9 hf9 _; have HF9 := Lib.hid (Fr.own HF8.out HO8.out hf9); have HO9 := Lib.hid hown9)
                | (at_builtin; refine wpL_appendE rfl _ _ 22 rfl w7.heap.size 9 iS (.string ⟨#[]⟩) 1 16 Tryz.underlying22 hiS hz0 hz1 hz2 rfl (by decide) _ 0 _ rfl HO0.out (.slice (some ⟨g, 0, none⟩) p co) p ((o.take p).map encStr) rfl HL1.out (by intro u hu; obtain ⟨y, -, rfl⟩ := List.mem_map.1 hu; rfl) (.inr ⟨_, _, rfl, HS1.out _ HZA.out⟩) (by omega) (by simp only [maxLen]; omega) HZA.out.size ?_; intro v8 w8 hown8 hf8; have HF8 := Lib.hid (Fr.own HZA.out HO0.out hf8); have HO8 := Lib.hid hown8; have c8 := HC2.out w8 HF8.out))
              have h10 := HO10.out
              rw [HNUM.out, HEND.out] at h10
              refine ⟨⟨k + 1, by have := HN.out; omega, by go_num, ?_, HF.out.trans (HF7.out.trans HF10.out (by simp) (n := []) (by simp)) (by simp) (by simp)⟩, by simp [intOf]; omega⟩
              rw [HST.out]
              exact owns_base h10 (fun j hj => Nat.le_trans hz (h10.lt j hj).1)
        · have hd2 : decide (stay < p) = false := decide_eq_false hsp
          have HE2 := Lib.hid (show insPos lessB stay x o p = p by
            cases p with
            | zero => rfl
            | succ q =>
              have e1 : insPos lessB stay x o (q + 1) = if stay < q + 1 ∧ (o[q]?.map (lessB x)) = some true then insPos lessB stay x o q else q + 1 := rfl
              rw [e1, if_neg (fun z => hsp z.1)])
          clear hsp
          go_upto_region 6 with fail
          refine wp_region_G [] [(0, false), (1, false), (2, false), (3, false), (4, false), (5, false), (6, false), (7, false), (8, false), (9, false), (10, false), (11, false), (12, false), (13, true), (14, false)] 52 rfl (by kernel_rfl) (by kernel_rfl) (by kernel_rfl) (fun c a d v w h => by cases d <;> exact h) (fun w6 hf6 => ?_)
          simp only [List.map_cons, List.map_nil, List.getElem?_toArray, List.getElem?_cons_succ, List.getElem?_cons_zero, Option.getD_some]
          have HF6 := Lib.hid (HFI.out.trans hf6 (by simp) (n := []) (by simp))
          clear hf6
          iterate 4 (apply wpG_t; · (intro w' hf'; go_wp2_with fail; exact ⟨rfl, rfl⟩))
          repeat (apply wpG_t; · (intro w' hf'; go_wp2_with fail; exact ⟨rfl, rfl⟩))
          refine wpG_x ?_
          go_wp2_with fail
          refine ⟨Fr.refl _ _, rfl, ?_⟩
          apply wpG_t
          · (intro w' hf'; go_wp2_with fail; exact ⟨rfl, rfl⟩)
          refine wpG_end ?_
          have HCASE := Lib.hid (show (ao = none ∧ k = 0 ∧ co = 0 ∧ p = 0) ∨ ∃ g, ao = some ⟨g, 0, none⟩ from by
            rcases HOWN.out.2 with ⟨e, h0⟩ | ⟨g, cap, cur, e, -, -, -⟩
            · injection e with e1 e2 e3
              exact .inl ⟨e1, h0, by omega, by omega⟩
            · injection e with e1
              exact .inr ⟨g, e1⟩)
          rcases HCASE.out with ⟨rfl, hk0, hco0, hp0⟩ | ⟨g, rfl⟩
          · have HZ := Lib.hid (And.intro hk0 (And.intro hco0 hp0))
            clear hk0 hco0 hp0 HCASE
            have HINS := Lib.hid (show insPos lessB stay x o o.length = p by exact HPOS.out.trans HE2.out)
            go_upto_region 8 with fail
            have hkz : k ≤ 0 := by have := HZ.out; omega
            have hcz : co ≤ 0 := by have := HZ.out; omega
            have hpz : p ≤ 0 := by have := HZ.out; omega
            have hz : w.heap.size ≤ w6.heap.size := by have := HF6.out.size; omega
            have hown0 : (w6.alloc (.cells #[] 9)).ownsRow w6.heap.size 9 1 (.slice (some ⟨w6.heap.size, 0, none⟩) 0 0) 0 [] := owns_of_heap (cur := []) (heap_alloc_new _ _) (Nat.le_refl _) rfl (Nat.le_refl _) (by decide) rfl
            have hfa := Fr.alloc w6 (.cells #[] 9)
            have HEND := Lib.hid (show ([] ++ [] ++ [encStr x]) = (insB lessB stay o x).map encStr by
              have ho0 : o = [] := List.eq_nil_of_length_eq_zero (by rw [HOL.out]; exact HZ.out.1)
              unfold insB
              rw [HINS.out, ho0]
              simp)
            have HZA := Lib.hid hfa
            have HO0 := Lib.hid hown0
            have HZ1 := Lib.hid (show 0 + 1 = k + 1 by omega)
            clear hfa hown0
            go_wp2_with (first
              | (at_builtin; have := w9; refine wpL_appendE rfl _ _ 22 rfl w6.heap.size 9 iS (.string ⟨#[]⟩) 1 16 Tryz.underlying22 hiS hz0 hz1 hz2 rfl (by decide) v9 (0 + 0 + 1) _ rfl HO9.out (.slice none (k - p) (co - p)) 0 [] rfl rfl (by simp) (.inl ⟨by have := HZ.out; rw [show k - p = 0 by omega, show co - p = 0 by omega], rfl⟩) (by omega) (by simp only [maxLen]; omega) HF9.out.size ?_; intro v10 w10 hown10 hf10; have HF10 := Lib.hid (Fr.own HF9.out HO9.out hf10); have HO10 := Lib.hid hown10)
              | (at_builtin; have := w8; refine wpL_append1 rfl _ _ 22 rfl w6.heap.size 9 iS (.string ⟨#[]⟩) 16 Tryz.underlying22 hiS hz0 hz1 hz2 rfl v8 (0 + 0) _ rfl HO8.out (encStr x) rfl rfl (by omega) (by simp only [maxLen]; omega) HF8.out.size ?_; intro v9 w9 hown9 hf9 _; have HF9 := Lib.hid (Fr.own HF8.out HO8.out hf9); have HO9 := Lib.hid hown9)
              | (at_builtin; refine wpL_appendE rfl _ _ 22 rfl w6.heap.size 9 iS (.string ⟨#[]⟩) 1 16 Tryz.underlying22 hiS hz0 hz1 hz2 rfl (by decide) _ 0 _ rfl HO0.out (.slice none 0 0) 0 [] rfl rfl (by simp) (.inl ⟨rfl, rfl⟩) (by omega) (by simp only [maxLen]; omega) HZA.out.size ?_; intro v8 w8 hown8 hf8; have HF8 := Lib.hid (Fr.own HZA.out HO0.out hf8); have HO8 := Lib.hid hown8; have c8 := (HF6.out.trans HF8.out (by simp) (n := []) (by simp)).cell HC.out (by simp)))
            have h10 := HO10.out
            rw [show 0 + 0 + 1 + 0 = k + 1 by have := HZ1.out; omega, List.append_nil, HEND.out] at h10
            refine ⟨⟨k + 1, by have := HN.out; omega, by go_num, ?_, HF.out.trans (HF6.out.trans HF10.out (by simp) (n := []) (by simp)) (by simp) (by simp)⟩, by simp [intOf]; omega⟩
            rw [HST.out]
            exact owns_base h10 (fun j hj => Nat.le_trans hz (h10.lt j hj).1)
          · clear HCASE
            have HINS := Lib.hid (show insPos lessB stay x o o.length = p by exact HPOS.out.trans HE2.out)
            go_upto_region 8 with fail
            have hz : w.heap.size ≤ w6.heap.size := by have := HF6.out.size; omega
            have hown0 : (w6.alloc (.cells #[] 9)).ownsRow w6.heap.size 9 1 (.slice (some ⟨w6.heap.size, 0, none⟩) 0 0) 0 [] := owns_of_heap (cur := []) (heap_alloc_new _ _) (Nat.le_refl _) rfl (Nat.le_refl _) (by decide) rfl
            have hfa := Fr.alloc w6 (.cells #[] 9)
            have HOA := Lib.hid (fun wx (hfx : Fr [] w6 wx) => owns_kept HOWN.out (HF6.out.trans hfx (by simp) (n := []) (by simp)) (by simp))
            have HC2 := Lib.hid (fun wx (hfx : Fr [] w6 wx) => (HF6.out.trans hfx (by simp) (n := []) (by simp)).cell HC.out (by simp))
            have hp1 : p ≤ 100001 := by have := HOL.out; omega
            have hk1 : k ≤ 100000 := by omega
            have hl1 : ((o.take p).map encStr).length = p * 1 := by rw [List.length_map, List.length_take]; omega
            have hl3 : ((o.drop p).map encStr).length = (k - p) * 1 := by rw [List.length_map, List.length_drop, HOL.out]; omega
            have HL1 := Lib.hid hl1
            have HL3 := Lib.hid hl3
            have HEND := Lib.hid (show ([] ++ (o.take p).map encStr) ++ [encStr x] ++ (o.drop p).map encStr = (insB lessB stay o x).map encStr by unfold insB; rw [HINS.out]; simp)
            have HS1 := Lib.hid (fun wx (hfx : Fr [] w6 wx) => fun j u (hj : ((o.take p).map encStr)[j]? = some u) => row_front (HOA.out wx hfx) p j u (by rw [← List.map_take]; exact hj))
            have HS3 := Lib.hid (fun wx (hfx : Fr [] w6 wx) => row_back (HOA.out wx hfx) p)
            have HZA := Lib.hid hfa
            have HO0 := Lib.hid hown0
            have HNUM := Lib.hid (show 0 + p + 1 + (k - p) = k + 1 by omega)
            clear hl1 hl3 hfa hown0
            by_cases hcp : co = p
            · obtain rfl : p = co := hcp.symm
              obtain rfl : k = p := by omega
              have HSRC := Lib.hid (show ∀ wx, Fr [] w6 wx → ∀ j u, ((o.drop k).map encStr)[j]? = some u → wx.cell? ((⟨g, 0, none⟩ : Addr).add j) = some u from fun wx _ j u hj => by
                rw [List.drop_eq_nil_of_le (by rw [HOL.out]; exact Nat.le_refl _)] at hj
                simp at hj)
              have HL30 := Lib.hid (show ((o.drop k).map encStr).length = 0 * 1 by rw [HL3.out]; omega)
              go_wp2_with (first
                | (at_builtin; have := w9; refine wpL_appendE rfl _ _ 22 rfl w6.heap.size 9 iS (.string ⟨#[]⟩) 1 16 Tryz.underlying22 hiS hz0 hz1 hz2 rfl (by decide) v9 (0 + k + 1) _ rfl HO9.out (.slice (some ⟨g, 0, none⟩) 0 0) 0 ((o.drop k).map encStr) rfl HL30.out (by intro u hu; obtain ⟨y, -, rfl⟩ := List.mem_map.1 hu; rfl) (.inr ⟨_, _, rfl, HSRC.out w9 HF9.out⟩) (by omega) (by simp only [maxLen]; omega) HF9.out.size ?_; intro v10 w10 hown10 hf10; have HF10 := Lib.hid (Fr.own HF9.out HO9.out hf10); have HO10 := Lib.hid hown10)
                | (at_builtin; have := w8; refine wpL_append1 rfl _ _ 22 rfl w6.heap.size 9 iS (.string ⟨#[]⟩) 16 Tryz.underlying22 hiS hz0 hz1 hz2 rfl v8 (0 + k) _ rfl HO8.out (encStr x) rfl rfl (by omega) (by simp only [maxLen]; omega) HF8.out.size ?_; intro v9 w9 hown9 hf9 _; have HF9 := Lib.hid (Fr.own HF8.out HO8.out hf9); have HO9 := Lib.hid hown9)
                | (at_builtin; refine wpL_appendE rfl _ _ 22 rfl w6.heap.size 9 iS (.string ⟨#[]⟩) 1 16 Tryz.underlying22 hiS hz0 hz1 hz2 rfl (by decide) _ 0 _ rfl HO0.out (.slice (some ⟨g, 0, none⟩) k k) k ((o.take k).map encStr) rfl HL1.out (by intro u hu; obtain ⟨y, -, rfl⟩ := List.mem_map.1 hu; rfl) (.inr ⟨_, _, rfl, HS1.out _ HZA.out⟩) (by omega) (by simp only [maxLen]; omega) HZA.out.size ?_; intro v8 w8 hown8 hf8; have HF8 := Lib.hid (Fr.own HZA.out HO0.out hf8); have HO8 := Lib.hid hown8; have c8 := HC2.out w8 HF8.out))
              have h10 := HO10.out
              rw [show 0 + k + 1 + 0 = k + 1 by omega, HEND.out] at h10
              refine ⟨⟨k + 1, by have := HN.out; omega, by go_num, ?_, HF.out.trans (HF6.out.trans HF10.out (by simp) (n := []) (by simp)) (by simp) (by simp)⟩, by simp [intOf]; omega⟩
              rw [HST.out]
              exact owns_base h10 (fun j hj => Nat.le_trans hz (h10.lt j hj).1)
            · skip
              have HSRC := Lib.hid (show ∀ wx, Fr [] w6 wx → ∀ j u, ((o.drop p).map encStr)[j]? = some u → wx.cell? ((⟨g, p, none⟩ : Addr).add j) = some u from fun wx hfx j u hj => HS3.out wx hfx j u (by rw [← List.map_drop]; exact hj))
              go_wp2_with (first
                | (at_builtin; have := w9; refine wpL_appendE rfl _ _ 22 rfl w6.heap.size 9 iS (.string ⟨#[]⟩) 1 16 Tryz.underlying22 hiS hz0 hz1 hz2 rfl (by decide) v9 (0 + p + 1) _ rfl HO9.out (.slice (some ⟨g, p, none⟩) (k - p) (co - p)) (k - p) ((o.drop p).map encStr) rfl HL3.out (by intro u hu; obtain ⟨y, -, rfl⟩ := List.mem_map.1 hu; rfl) (.inr ⟨_, _, rfl, HSRC.out w9 HF9.out⟩) (by omega) (by simp only [maxLen]; omega) HF9.out.size ?_; intro v10 w10 hown10 hf10; have HF10 := Lib.hid (Fr.own HF9.out HO9.out hf10); have HO10 := Lib.hid hown10)
                | (at_builtin; have := w8; refine wpL_append1 rfl _ _ 22 rfl w6.heap.size 9 iS (.string ⟨#[]⟩) 16 Tryz.underlying22 hiS hz0 hz1 hz2 rfl v8 (0 + p) _ rfl HO8.out (encStr x) rfl rfl (by omega) (by simp only [maxLen]; omega) HF8.out.size ?_; intro v9 w9 hown9 hf9 _; have HF9 := Lib.hid (Fr.own HF8.out HO8.out hf9); have HO9 := Lib.hid hown9)
                | (at_builtin; refine wpL_appendE rfl _ _ 22 rfl w6.heap.size 9 iS (.string ⟨#[]⟩) 1 16 Tryz.underlying22 hiS hz0 hz1 hz2 rfl (by decide) _ 0 _ rfl HO0.out (.slice (some ⟨g, 0, none⟩) p co) p ((o.take p).map encStr) rfl HL1.out (by intro u hu; obtain ⟨y, -, rfl⟩ := List.mem_map.1 hu; rfl) (.inr ⟨_, _, rfl, HS1.out _ HZA.out⟩) (by omega) (by simp only [maxLen]; omega) HZA.out.size ?_; intro v8 w8 hown8 hf8; have HF8 := Lib.hid (Fr.own HZA.out HO0.out hf8); have HO8 := Lib.hid hown8; have c8 := HC2.out w8 HF8.out))
              have h10 := HO10.out
              rw [HNUM.out, HEND.out] at h10
              refine ⟨⟨k + 1, by have := HN.out; omega, by go_num, ?_, HF.out.trans (HF6.out.trans HF10.out (by simp) (n := []) (by simp)) (by simp) (by simp)⟩, by simp [intOf]; omega⟩
              rw [HST.out]
              exact owns_base h10 (fun j hj => Nat.le_trans hz (h10.lt j hj).1)
    · have hd1 : decide (k < n) = false := decide_eq_false hkn
      have HKN := Lib.hid (show k = l.length by have := HN.out; omega)
      clear hown hf hkn
      go_wp2_with fail
      go_ret
      have h1 := HOWN.out
      rw [show l.take k = l by rw [HKN.out, List.take_length]] at h1
      refine ⟨.slice ao k co, rfl, ?_, HF.out⟩
      unfold strsAt sortB
      have h2 : ((l.foldl (insB lessB stay) []).map encStr).length = k := by rw [List.length_map, HKN.out]; exact sortB_len lessB stay l
      exact cellsAt_of_owns (by rw [h2]; exact h1)
end Go.Proofs.YtjlkcdmeiakkbaaGreatDoor
