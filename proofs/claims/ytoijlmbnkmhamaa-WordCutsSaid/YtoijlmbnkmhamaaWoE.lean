/- Layer 18, the program's: a builder's WriteByte; Text. -/
import Derived.Test.YtoijlmbnkmhamaaWoB
import Derived.Test.YtoijlmbnkmhamaaWoC
namespace Go.Proofs.Ytoijlmbnkmhamaa
open Go.RowKit

set_option maxHeartbeats 2000000 in
set_option maxRecDepth 100000 in
theorem wbyte_raw (B b : Nat) (bs : List Value) (c : UInt8) (w : World) (h : Lib.IsBuilderF tB tU B b bs w) (hlen : bs.length + 1 ≤ 140737488355328) :
    Calls Try.prog 19 #[.pointer (some ⟨b, 0, none⟩), .int .u8 (c.toNat : Int)] w fun e w' => e = .returned .nilIface ∧ (Lib.BuilderAtF tB tU B b (.pointer (some ⟨b, 0, none⟩)) (bs ++ [.int .u8 (c.toNat : Int)]) w' ∧ Below B w w' ∧ Lib.OthersKept tU (some b) w w') := by
  obtain ⟨i0, hi, hz0, hz1, hz2⟩ := info_parts infoU8
  have HC := Lib.hid (pcopy_any B b bs w h)
  obtain ⟨x, hx⟩ : ∃ x : Int, x = (c.toNat : Int) := ⟨_, rfl⟩
  rw [← hx]
  have HX := Lib.hid hx
  clear h hx
  go_enter Try.func19, Try.ntmps19
  go_wp2_with (go_at_call 20; refine HC.out.mono ?_)
  rintro e w1 ⟨rfl, h1, hb1, hk1⟩
  obtain ⟨hB, v, hbk, hown, hne⟩ := h1
  have c0 : w1.cell? ⟨b, 0, none⟩ = some (.pointer (some ⟨b, 0, none⟩)) := by rw [Lib.cell_of_heap hbk]; rfl
  have c1 : w1.cell? ⟨b, 1, none⟩ = some v := by rw [Lib.cell_of_heap hbk]; rfl
  have hbw := hb1.size
  have hlt := lt_k hbk
  go_wp2_with (at_builtin; refine wpList_append_ownF _ rfl _ _ 33 rfl B tU i0 (.int .u8 0) 1 1 Try.underlying33 hi hz0 hz1 hz2 rfl (by decide) _ _ _ rfl (hown.alloc _) ⟨w1.heap.size, 0, none⟩ 1 1 [.int .u8 x] rfl rfl ?c1 ?c2 ?c3 ?c4 ?c5 ?_)
  case c1 =>
    intro j u hj
    match j, hj with
    | 0, hj => simp at hj; subst hj; simp [Addr.add]
  case c2 => intro u hu; simp at hu; subst hu; rfl
  case c3 => unfold maxLen; omega
  case c4 => omega
  case c5 => simp; omega
  intro v' w2 hown' hgrow _
  have hb2 : w2.heap[b]? = some (.cells #[.pointer (some ⟨b, 0, none⟩), v] tB (0, 0)) := by
    rw [hgrow.block b (by simp; omega) (fun e => hne e.symm), Lib.alloc_old w1 _ b hlt]
    exact hbk
  have d0 : w2.cell? ⟨b, 0, none⟩ = some (.pointer (some ⟨b, 0, none⟩)) := by rw [Lib.cell_of_heap hb2]; rfl
  have d1 : w2.cell? ⟨b, 1, none⟩ = some v := by rw [Lib.cell_of_heap hb2]; rfl
  have f1 : w2.frozen? ⟨b, 1, none⟩ = false := Lib.frozen_of_heap hb2 1
  obtain ⟨g, cap, rfl⟩ : ∃ g cap, v' = .slice (some ⟨g, 0, none⟩) (bs.length + 1) cap := by
    rcases hown'.2 with ⟨_, h0⟩ | ⟨g, cap, cur, fz, hv, _⟩
    · omega
    · exact ⟨g, cap, hv⟩
  go_wp2
  go_ret
  refine ⟨rfl, ?_, ?_, ((hk1.alloc _).grown hgrow (Lib.ownsRowF_kind (hown.alloc _))).setCell ⟨b, 1, none⟩ rfl _⟩
  · exact Lib.BuilderAtF.put (T := tB) (e := tU) hB hb2 (bs' := bs ++ [.int .u8 x]) (by simpa using hown') (by decide)
  · exact ((hb1.alloc (by omega) _).grown hgrow (by simp; omega) (fun k hk => (hown.lt k hk).1)).setCell (p := ⟨b, 1, none⟩) hB _
theorem bbyte {w0 w : World} {l : List UInt8} (c : UInt8) (x : Int) (hx : x = (c.toNat : Int)) (h : BldAt w0 l w) (hlen : l.length + 1 ≤ 140737488355328) :
    Calls Try.prog 19 #[.pointer (some ⟨w0.heap.size, 0, none⟩), .int .u8 x] w fun e w' => e = .returned .nilIface ∧ BldAt w0 (l ++ [c]) w' := by
  subst hx
  have hb : (Lib.byteCells l).length = l.length := by simp [Lib.byteCells]
  refine (wbyte_raw w0.heap.size w0.heap.size (Lib.byteCells l) c w h.1 (by rw [hb]; exact hlen)).mono ?_
  rintro e w' ⟨he, h1, h2, h3⟩
  refine ⟨he, .inr ?_, h.2.trans h2⟩
  rw [show Lib.byteCells (l ++ [c]) = Lib.byteCells l ++ [.int .u8 (c.toNat : Int)] by simp [Lib.byteCells]]
  exact h1

/-- The text of so many of a word's bytes. -/
def txtW (w : List UInt8) (terms : List (List UInt8)) : Nat → List UInt8
  | 0 => []
  | k + 1 => txtW w terms k ++ (if k = 0 then [] else [32]) ++ ([39] ++ terms.getD (w.getD k 0).toNat [] ++ [39])
def textW (w : List UInt8) (terms : List (List UInt8)) : List UInt8 := if w = [] then [101, 110, 100] else if belowW w terms.length then txtW w terms w.length else []
theorem txtW_len (w : List UInt8) (terms : List (List UInt8)) (ht : ∀ x ∈ terms, x.length ≤ 1048576) : ∀ k, (txtW w terms k).length ≤ k * 1048579
  | 0 => by simp [txtW]
  | k + 1 => by
    have ih := txtW_len w terms ht k
    have h2 : (terms.getD (w.getD k 0).toNat []).length ≤ 1048576 := by
      rw [List.getD_eq_getElem?_getD]
      rcases Nat.lt_or_ge (w.getD k 0).toNat terms.length with h | h
      · rw [List.getElem?_eq_getElem h]; exact ht _ (List.getElem_mem h)
      · rw [List.getElem?_eq_none h]; simp
    unfold txtW
    simp only [List.length_append, List.length_singleton]
    have h3 : (if k = 0 then ([] : List UInt8) else [32]).length ≤ 1 := by split <;> simp
    omega
theorem txtW_next (w : List UInt8) (terms : List (List UInt8)) (k : Nat) (hk : k < w.length) (hb : (w[k]'hk).toNat < terms.length) : txtW w terms (k + 1) = txtW w terms k ++ (if k = 0 then [] else [32]) ++ ([39] ++ terms[(w[k]'hk).toNat]'hb ++ [39]) := by
  have e1 : w.getD k 0 = w[k]'hk := by rw [List.getD_eq_getElem?_getD, List.getElem?_eq_getElem hk]; rfl
  have e2 : terms.getD (w[k]'hk).toNat [] = terms[(w[k]'hk).toNat]'hb := by rw [List.getD_eq_getElem?_getD, List.getElem?_eq_getElem hb]; rfl
  rw [txtW, e1, e2]
theorem belowW_get {s : List UInt8} {n : Nat} (h : belowW s (n : Int) = true) (k : Nat) (hk : k < s.length) : (s[k]'hk).toNat < n := by
  unfold belowW at h
  rw [List.all_eq_true] at h
  have := of_decide_eq_true (h _ (List.getElem_mem hk))
  omega
def TxtRel (w0 : World) (s : List UInt8) (terms : List (List UInt8)) (iv : Value) (wx : World) : Prop := ∃ i : Nat, i ≤ s.length ∧ iv = .int .i64 (i : Int) ∧ BldAt w0 (txtW s terms i) wx
set_option maxRecDepth 100000 in
set_option maxHeartbeats 4000000 in
theorem wtext_any (s : List UInt8) (terms : List (List UInt8)) (hs : s.length ≤ 1000) (ht : ∀ x ∈ terms, x.length ≤ 1048576) (v : Value) (w : World) (h : strsAt w v terms) :
    Calls Try.prog 14 #[.string ⟨s.toArray⟩, v] w fun e w' => e = .returned (.string ⟨(textW s terms).toArray⟩) ∧ Fr [] w w' := by
  obtain ⟨a1, c1, rfl, hc1, hm1⟩ := h.form
  have HL := Lib.hid h
  have HBEL := Lib.hid (fun wx => below_any s (terms.length : Int) (by omega) wx)
  cases hse : s with
  | nil =>
    clear HBEL h HL
    rw [show textW [] terms = [101, 110, 100] from rfl]
    go_enter Try.func14, Try.ntmps14
    go_wp2_with fail
    go_ret
    exact ⟨rfl, Fr.refl _ _⟩
  | cons c0 t0 =>
    have hne : s.isEmpty = false := by rw [hse]; rfl
    have hse0 : s ≠ [] := by rw [hse]; simp
    rw [← hse]
    clear hse
    cases hbl : belowW s (terms.length : Int) with
    | false =>
      rw [hbl] at HBEL
      rw [show textW s terms = [] by unfold textW; rw [if_neg hse0, hbl]; rfl]
      clear hbl hse0 h HL
      go_enter Try.func14, Try.ntmps14
      go_wp2_with (go_at_call 18; refine (HBEL.out _).mono ?_; rintro e w1 ⟨rfl, rfl⟩)
      go_ret
      exact ⟨rfl, Fr.refl _ _⟩
    | true =>
      rw [hbl] at HBEL
      have HTX := Lib.hid (show textW s terms = txtW s terms s.length by unfold textW; rw [if_neg hse0, hbl]; rfl)
      have HBG := Lib.hid (belowW_get hbl)
      have HLN := Lib.hid (txtW_len s terms ht)
      have HTL := Lib.hid ht
      clear hbl hse0 h ht
      go_enter Try.func14, Try.ntmps14
      go_upto_region 6 with (go_at_call 18; refine (HBEL.out _).mono ?_; rintro e w1 ⟨rfl, rfl⟩)
      have hnew := BldAt.new w
      obtain ⟨b, hb⟩ : ∃ b, b = w.heap.size := ⟨_, rfl⟩
      rw [← hb]
      generalize w.alloc (.cells #[.pointer none, .slice none 0 0] tB) = w1 at hnew ⊢
      have HB := Lib.hid hb
      have HNEW := Lib.hid hnew
      clear hb hnew
      go_wp2_with fail
      go_loopw [16] (TxtRel w s terms) (fun iv _ => s.length - (intOf iv).toNat)
      case atStart => exact ⟨0, Nat.zero_le _, rfl, HNEW.out⟩
      case round =>
        clear HNEW
        obtain ⟨i, hi, rfl, hbd⟩ := hrel
        by_cases hin : i < s.length
        · have hd1 : decide (i < s.length) = true := decide_eq_true hin
          have hbg := HBG.out i hin
          have hix := fun wx => run_index_str (P := Try.prog) wx 9 s (i : Int) i (s[i]'hin) Try.underlying9 rfl (List.getElem?_eq_getElem hin)
          obtain ⟨b1, off1, rfl, k0⟩ := str_cell HL.out _ hbg
          have r0 := hbd.base.cell k0 (by simp)
          have hnx := txtW_next s terms i hin hbg
          have hxl := HTL.out _ (List.getElem_mem hbg)
          obtain ⟨X, hX⟩ : ∃ X, X = terms[(s[i]'hin).toNat]'hbg := ⟨_, rfl⟩
          rw [← hX] at r0 k0 hnx hxl
          obtain ⟨x, hx⟩ : ∃ x, x = (s[i]'hin).toNat := ⟨_, rfl⟩
          rw [← hx] at hix r0 k0 hbg
          have hTl : (txtW s terms i).length ≤ 1000000000000 := by have := HLN.out i; omega
          obtain ⟨T, hT⟩ : ∃ T, T = txtW s terms i := ⟨_, rfl⟩
          rw [← hT] at hbd hnx hTl
          obtain ⟨Y1, hY1⟩ : ∃ Y, Y = ([39] ++ X).toArray := ⟨_, rfl⟩
          obtain ⟨Y2, hY2⟩ : ∃ Y, Y = ([39] ++ X ++ [39]).toArray := ⟨_, rfl⟩
          have ca := fun wx => cat_w (P := Try.prog) (A := #[39]) (B := X.toArray) (C := Y1) (x := [39]) rfl rfl hY1 (by simp; omega) wx
          have cb := fun wx => cat_w (P := Try.prog) (A := Y1) (B := #[39]) (C := Y2) (y := [39]) hY1 rfl hY2 (by simp; omega) wx
          have HNX := Lib.hid hnx
          have HX8 : x < 256 := by rw [hx]; exact (s[i]'hin).toNat_lt
          by_cases hi0 : i = 0
          · have d0 : decide (0 < i) = false := decide_eq_false (by omega)
            have d0' : decide (0 < (i : Int)) = false := decide_eq_false (by omega)
            have HWR := Lib.hid (bwrite hbd hY2 (by simp; omega) _ rfl)
            rw [← HB.out] at HWR
            have HI0 := Lib.hid hi0
            clear hi0 hT hbd k0 hnx hX hx hY1 hY2
            go_wp2_with (go_at_call 15; refine HWR.out.mono ?_; rintro e w3 ⟨rfl, hb3, -⟩)
            go_roundw
            case rel => exact ⟨i + 1, by omega, by go_num, by rw [HNX.out, if_pos HI0.out, List.append_nil]; exact hb3⟩
            case measure => simp [intOf]; omega
          · have d0 : decide (0 < i) = true := decide_eq_true (by omega)
            have d0' : decide (0 < (i : Int)) = true := decide_eq_true (by omega)
            have HBY := Lib.hid (bbyte 32 32 rfl hbd (by omega))
            have HWR := Lib.hid (fun wx (hbx : BldAt w (T ++ [32]) wx) => bwrite hbx hY2 (by simp; omega) _ rfl)
            rw [← HB.out] at HWR HBY
            have HI0 := Lib.hid hi0
            have HK0 := Lib.hid k0
            clear hi0 hT k0 r0 hbd hnx hX hx hY1 hY2
            go_upto_region 11 with (go_at_call 19; refine HBY.out.mono ?_; rintro e w3 ⟨rfl, hb3⟩)
            have r1 := hb3.base.cell HK0.out (by simp)
            have HW4 := Lib.hid (HWR.out _ hb3)
            clear hb3
            go_wp2_with (go_at_call 15; refine HW4.out.mono ?_; rintro e w4 ⟨rfl, hb4, -⟩)
            go_roundw
            case rel => exact ⟨i + 1, by omega, by go_num, by rw [HNX.out, if_neg HI0.out]; exact hb4⟩
            case measure => simp [intOf]; omega
        · have hd1 : decide (i < s.length) = false := decide_eq_false hin
          obtain rfl : i = s.length := by omega
          have HWE := Lib.hid (bstring hbd)
          rw [← HB.out, ← HTX.out] at HWE
          clear hbd
          go_wp2_with (go_at_call 17; refine HWE.out.mono ?_; rintro e w5 ⟨rfl, hb5⟩)
          go_ret
          refine ⟨rfl, Fr.of_below ?_⟩
          rw [← HB.out]
          exact hb5
end Go.Proofs.Ytoijlmbnkmhamaa
