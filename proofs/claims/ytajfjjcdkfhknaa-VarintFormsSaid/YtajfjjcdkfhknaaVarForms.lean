/- VarintForms: each number's encoding and its length. -/
import Derived.Test.YtajfjjcdkfhknaaVarLaw
import Derived.Test.YtajfjjcdkfhknaaVarLen
import Derived.Test.YtajfjjcdkfhknaaRegion
namespace Go.Proofs.Ytajfjjcdkfhknaa
open Go.RowKit

theorem vforms_big (v0 : Value) (l : List Nat) (w : World) (h0 : numsAt w v0 l) (hb : 40 < l.length) :
    Calls Try.prog 3 #[v0] w fun e w' => e = .returned (.bool true) ∧ Fr [] w w' := by
  obtain ⟨a0, c0, rfl, -, -⟩ := h0.form
  have hb1 : decide (40 < (l.length : Int)) = true := decide_eq_true (by omega)
  go_enter Try.func3, Try.ntmps3
  go_wp2_with (go_at_call 8; refine (awake_any _).mono ?_; rintro e w' ⟨rfl, hf⟩)
  go_ret
  exact ⟨rfl, hf⟩

def VFRel (p : Nat) (l : List Nat) (w w1 : World) (sa si : Value) (wr : World) : Prop :=
  ∃ (k : Nat) (g : Option Nat), k ≤ l.length ∧ si = .int .i64 (k : Int) ∧ wr.ownsRow w1.heap.size 5 1 sa (forms (l.take k)).length (cellsB (forms (l.take k))) ∧ isW wr p g (forms (l.take k)) ∧ (∀ q, sa.ownBlock = some q → g ≠ some q) ∧ (∀ q, g = some q → w.heap.size ≤ q) ∧ Fr [] w wr ∧ w1.heap.size ≤ wr.heap.size

/-- What a round leaves. -/
theorem vforms_keep {w w1 wr wA wB wC wD : World} {p : Nat} {g g' : Option Nat} {va va' : Value} {bs f : List UInt8} (hplt : p < w1.heap.size) (hp0 : w.heap.size ≤ p) (h01 : w.heap.size ≤ w1.heap.size)
    (hva : ∀ q, va.ownBlock = some q → w1.heap.size ≤ q ∧ q < wr.heap.size) (hgl : ∀ q, g = some q → q < wr.heap.size) (hg0 : ∀ q, g = some q → w.heap.size ≤ q) (hag : ∀ q, va.ownBlock = some q → g ≠ some q)
    (h1r : w1.heap.size ≤ wr.heap.size) (hf : Fr [] w wr) (hA : Fr [] wr wA) (hB : Fr [] wA wB) (hC : Fr (p :: g.toList) wB wC) (hgg : g' = g ∨ ∃ k, g' = some k ∧ wB.heap.size ≤ k) (hW : isW wC p g' (bs ++ f))
    (hD : Fr va.ownBlock.toList wC wD) (hb : va'.ownBlock = va.ownBlock ∨ va'.ownBlock = some wC.heap.size) :
    isW wD p g' (bs ++ f) ∧ (∀ q, va'.ownBlock = some q → g' ≠ some q) ∧ (∀ q, g' = some q → w.heap.size ≤ q) ∧ Fr [] w wD ∧ w1.heap.size ≤ wD.heap.size := by
  have sA := hA.size
  have sB := hB.size
  have sC := hC.size
  have sD := hD.size
  have mem : ∀ i, i ∈ va.ownBlock.toList → va.ownBlock = some i := fun i hi => by simpa [Option.mem_toList] using hi
  have hl' := hW.lt
  refine ⟨hW.kept hD (fun h => by have := hva p (mem p h); omega) (fun k hk h => ?_), fun q hq e => ?_, fun q hq => ?_, ?_, by omega⟩
  · have hk' := mem k h
    rcases hgg with rfl | ⟨j, rfl, hj⟩
    · exact hag k hk' hk
    · have := hva k hk'
      cases hk; omega
  · rcases hb with hb | hb
    · rw [hb] at hq
      rcases hgg with rfl | ⟨j, rfl, hj⟩
      · exact hag q hq e
      · have := hva q hq
        cases e; omega
    · rw [hb] at hq
      cases hq
      have := hl'.2 _ e
      omega
  · rcases hgg with rfl | ⟨j, rfl, hj⟩
    · exact hg0 q hq
    · cases hq; omega
  · have h1 := ((hf.trans hA (by simp) (n := []) (by simp)).trans hB (by simp) (n := []) (by simp))
    have h2 := h1.trans hC (by simp) (n := []) (fun i hi hlt => by
      rcases List.mem_cons.1 hi with rfl | hi
      · omega
      · have := hg0 i (by simpa [Option.mem_toList] using hi); omega)
    exact h2.trans hD (by simp) (fun i hi hlt => by have := hva i (mem i hi); omega)

set_option maxRecDepth 100000 in
theorem vforms_small (v0 : Value) (l : List Nat) (w : World) (h0 : numsAt w v0 l) (hbnd : ∀ v ∈ l, v ≤ 18446744073709551615) (hs : l.length ≤ 40) :
    Calls Try.prog 3 #[v0] w fun e w' => e = .returned (.bool true) ∧ Fr [] w w' := by
  obtain ⟨i, hi, hz0, hz1, hz2⟩ := info_parts infoB
  obtain ⟨a0, c0, rfl, -, -⟩ := h0.form
  have hlt0 := h0.lt
  have hb1 : decide (40 < (l.length : Int)) = false := decide_eq_false (by omega)
  have HB := Lib.hid hbnd
  clear hbnd
  go_enter Try.func3, Try.ntmps3
  go_wp2_with (go_at_call 9; refine (write_any _).mono ?_; rintro e w1 ⟨p, rfl, hw1, hf1, hp1⟩)
  have hplt := hw1.lt.1
  go_loopw [3, 5] (VFRel p l w w1) (fun _ i _ => l.length - (intOf i).toNat)
  case atStart => exact ⟨0, none, Nat.zero_le _, rfl, World.ownsRow_nil _ _ _ _, hw1, by simp, by simp, hf1, Nat.le_refl _⟩
  case round =>
    clear hb1 hw1
    obtain ⟨k, g, hk, rfl, hown, hw, hag, hg0, hf, h1r⟩ := hrel
    by_cases hkl : k < l.length
    · have hns := h0.below hf
      obtain ⟨b, off, rfl, hcell⟩ := hns.cell hkl
      have hc := hcell k hkl
      have hx := HB.out (l[k]'hkl) (List.getElem_mem hkl)
      have hfl := forms_len (l.take k) (fun v hv => HB.out v (List.mem_of_mem_take hv))
      have hlen : (forms (l.take k)).length ≤ 1000000 := by rw [List.length_take] at hfl; omega
      have hst : forms (l.take (k + 1)) = forms (l.take k) ++ form (l[k]'hkl) := by rw [List.take_succ_eq_append_getElem hkl, forms_append, forms_one]
      obtain ⟨x, hxe⟩ : ∃ x, x = l[k]'hkl := ⟨_, rfl⟩
      obtain ⟨bs, hbs⟩ : ∃ bs, bs = forms (l.take k) := ⟨_, rfl⟩
      rw [← hxe] at hc hx hst
      rw [← hbs] at hown hw hlen hst
      have hf10 := form_len10 x hx
      have HST := Lib.hid hst
      have hva := hown.lt
      have hwl := hw.lt
      have HAG := Lib.hid hag
      have HG0 := Lib.hid hg0
      have HVA := Lib.hid hva
      clear hst hcell hns hfl hxe hbs hag hg0 hva h0
      go_wp2_with fail
      refine (ref_form_any x _ hx).mono ?_
      rintro e wA ⟨vf, rfl, hfo, hA⟩
      have hfb := bytesAt_of_owns hfo
      have hfo1 := hfo.lt
      have HFO := Lib.hid hfo1
      have hfrm := hfb.form
      obtain ⟨af, cf, rfl, -, -⟩ := hfrm
      clear hfo hfo1
      go_wp2_with fail
      refine wp_region_G [] [(0, false), (1, false), (2, false), (3, false), (5, false), (6, false), (4, true), (7, false), (8, false), (9, false), (10, false), (11, false), (12, false), (16, false), (17, false), (13, true), (14, true), (15, false), (18, false), (19, false)] 69 rfl (by kernel_rfl) (by kernel_rfl) (by kernel_rfl) (fun c a d v w h => by cases d <;> exact h) (fun wd hfd => ?_)
      simp only [List.map_cons, List.map_nil, List.getElem?_toArray, List.getElem?_cons_succ, List.getElem?_cons_zero, Option.getD_some]
      have hcA := hfd.cell (hA.cell hc (by simp)) (by simp)
      have hcd : Later [] wd (fun w' => w'.cell? ⟨b, off + k, none⟩ = some (.int .u64 (x : Int))) := fun w' hf' => hf'.cell hcA (by simp)
      have hfd' : Later [] wd _ := Later.conv (P := Try.prog) (hfb.below hfd) (by simp) 24 5 9 Try.underlying24 Try.underlying5 Try.underlying9
      have hne : (((form x).length : Int) != ((form x).length : Int)) = false := by simp
      clear hcA
      repeat (apply wpG_t; · (intro w' hf'; have c1 := hcd w' hf'; go_wp2; exact ⟨rfl, rfl⟩))
      refine wpG_x ?_
      go_wp2_with (go_at_call 11; refine (len_form_any x _ hx).mono ?_; rintro e w' ⟨rfl, rfl⟩)
      refine ⟨Fr.refl _ _, rfl, ?_⟩
      repeat (apply wpG_t; · (intro w' hf'; have c1 := hcd w' hf'; have c2 := hfd' w' hf'; go_wp2; exact ⟨rfl, rfl⟩))
      refine wpG_x ?_
      go_wp2_with fail
      refine ⟨Fr.alloc _ _, rfl, ?_⟩
      refine wpG_x ?_
      go_wp2_with fail
      refine (list_any [x] _ _ (numsAt_new wd [x] 28 1 rfl (by simp [maxLen]) _ rfl) (by simpa using hx) (by simp)).mono ?_
      rintro e wB ⟨vl, rfl, hlo, hB⟩
      rw [forms_one] at hlo
      have hlc : Later [] wB _ := Later.conv (P := Try.prog) (bytesAt_of_owns hlo) (by simp) 24 5 9 Try.underlying24 Try.underlying5 Try.underlying9
      go_wp2
      refine ⟨hB, rfl, ?_⟩
      repeat (apply wpG_t; · (intro w' hf'; have c1 := hlc w' hf'; go_wp2; exact ⟨rfl, rfl⟩))
      refine wpG_end ?_
      have hAB : Fr [] wA wB := (hfd.trans (Fr.alloc wd _) (by simp) (n := []) (by simp)).trans hB (by simp) (by simp)
      have hrB : Fr [] wr wB := hA.trans hAB (by simp) (by simp)
      have hcB := hrB.cell hc (by simp)
      have hwB := hw.kept hrB (by simp) (by simp)
      have HP := Lib.hid (put_any p g bs x wB hwB hx hlen)
      have hownB := owns_kept hown hrB (by simp)
      have hfB := hfb.below hAB
      have hszA := hA.size
      have hszB := hAB.size
      clear hcd hfd' hne hlo hlc hwB hc hfb hown hw hrB
      go_wp2_with fail
      refine HP.out.mono ?_
      rintro e wC ⟨rfl, g', hwC, hC, hgg⟩
      have hmem : ∀ q, q ∈ p :: g.toList → q = p ∨ g = some q := fun q hq => by
        rcases List.mem_cons.1 hq with h | h
        · exact .inl h
        · exact .inr (by simpa [Option.mem_toList] using h)
      have hownC := owns_kept hownB hC (fun q hq h => by
        rcases hmem q h with rfl | e
        · have := (HVA.out q hq).1; omega
        · exact HAG.out q hq e)
      have hfC := hfB.kept hC (fun q hq _ _ h => by
        have hq' := (HFO.out q hq).1
        rcases hmem q h with rfl | e
        · omega
        · have := hwl.2 q e; omega)
      have hszC := hC.size
      clear hmem hownB hfB HP hcB
      go_wp2_with (at_builtin; refine wpL_append rfl (.tmp 49) (.tmp 50) 24 rfl w1.heap.size 5 i (.int .u8 0) Try.underlying24 hi hz0 hz1 hz2 rfl u3 bs rfl hownC _ (form x) rfl hfC (by omega) (by omega) ?_; intro va' wD hownD hD hbD)
      obtain ⟨k1, k2, k3, k4, k5⟩ := vforms_keep hplt hp1 hf1.size HVA.out hwl.2 HG0.out HAG.out h1r hf hA hAB hC hgg hwC hD hbD
      refine ⟨⟨k + 1, g', by omega, by go_num, ?_, ?_, k2, k3, k4, k5⟩, by simp [intOf]; omega⟩
      · rw [HST.out]; exact hownD
      · rw [HST.out]; exact k1
    · obtain rfl : k = l.length := by omega
      rw [List.take_length] at hown hw
      have hfl := forms_len l HB.out
      have hns := h0.below hf
      obtain ⟨bs, hbs⟩ : ∃ bs, bs = forms l := ⟨_, rfl⟩
      rw [← hbs] at hown hw hfl
      have hab := bytesAt_of_owns hown
      have hfrm := hab.form
      obtain ⟨aa, ca, rfl, -, -⟩ := hfrm
      have HBS := Lib.hid hbs
      clear hbs hown h0 hag hg0
      go_wp2_with fail
      refine wp_region_G [] [(0, false), (3, false), (4, false), (1, true), (2, false), (5, false), (6, false), (7, false), (10, false), (11, false), (8, true), (9, false), (12, false), (13, false), (14, false), (15, true), (16, false), (17, false)] 69 rfl (by kernel_rfl) (by kernel_rfl) (by kernel_rfl) (fun c a d v w h => by cases d <;> exact h) (fun wd hfd => ?_)
      simp only [List.map_cons, List.map_nil, List.getElem?_toArray, List.getElem?_cons_succ, List.getElem?_cons_zero, Option.getD_some]
      have hA : Later [] wd _ := Later.conv (P := Try.prog) (hab.below hfd) (by simp) 24 5 9 Try.underlying24 Try.underlying5 Try.underlying9
      repeat (apply wpG_t; · (intro w' hf'; have c1 := hA w' hf'; go_wp2; exact ⟨rfl, rfl⟩))
      refine wpG_x ?_
      go_wp2_with fail
      refine (bytes_any p g bs _ (hw.kept hfd (by simp) (by simp)) (by omega)).mono ?_
      rintro e w2 ⟨v2, rfl, ho2, hf2⟩
      have hC : Later [] w2 _ := Later.conv (P := Try.prog) (bytesAt_of_owns ho2) (by simp) 24 5 9 Try.underlying24 Try.underlying5 Try.underlying9
      have hA := hA.next hf2
      go_wp2
      refine ⟨hf2, rfl, ?_⟩
      repeat (apply wpG_t; · (intro w' hf'; have c1 := hC w' hf'; have c2 := hA w' hf'; go_wp2; exact ⟨rfl, rfl⟩))
      refine wpG_x ?_
      go_wp2_with fail
      refine (list_any l _ _ ((hns.below hfd).below hf2) HB.out (by omega)).mono ?_
      rintro e w3 ⟨v3, rfl, ho3, hf3⟩
      rw [← HBS.out] at ho3
      have hD : Later [] w3 _ := Later.conv (P := Try.prog) (bytesAt_of_owns ho3) (by simp) 24 5 9 Try.underlying24 Try.underlying5 Try.underlying9
      go_wp2
      refine ⟨hf3, rfl, ?_⟩
      repeat (apply wpG_t; · (intro w' hf'; have c1 := hD w' hf'; go_wp2; exact ⟨rfl, rfl⟩))
      refine wpG_x ?_
      go_wp2_with (go_at_call 8; refine (awake_any _).mono ?_; rintro e w4 ⟨rfl, hf4⟩)
      refine ⟨hf4, rfl, ?_⟩
      repeat (apply wpG_t; · (intro w' hf'; go_wp2; exact ⟨rfl, rfl⟩))
      refine wpG_end ?_
      have hfin : Fr [] w w4 := (((hf.trans hfd (by simp) (n := []) (by simp)).trans hf2 (by simp) (n := []) (by simp)).trans hf3 (by simp) (n := []) (by simp)).trans hf4 (by simp) (by simp)
      go_wp2
      go_ret
      exact ⟨rfl, hfin⟩

theorem vforms_any (v0 : Value) (l : List Nat) (w : World) (h0 : numsAt w v0 l) (hbnd : ∀ v ∈ l, v ≤ 18446744073709551615) :
    Calls Try.prog 3 #[v0] w fun e w' => e = .returned (.bool true) ∧ Fr [] w w' := by
  by_cases h : 40 < l.length
  · exact vforms_big v0 l w h0 h
  · exact vforms_small v0 l w h0 hbnd (by omega)
end Go.Proofs.Ytajfjjcdkfhknaa
