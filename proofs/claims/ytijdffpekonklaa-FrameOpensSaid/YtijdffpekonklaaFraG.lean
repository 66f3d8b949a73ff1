/- Contract of frame.find: a frame is there. -/
import Derived.Test.YtijdffpekonklaaFraF
namespace Go.Proofs.Ytijdffpekonklaa
open Go.RowKit

def foundV (k : UInt8) (lv rv : Value) : Value := .tuple #[.agg #[.int .u8 (k.toNat : Int), lv, rv], .int .i64 0]
/-- What find gives where a frame is there. -/
def Found (bs : List UInt8) (sv : Value) (w : World) (e : Ending) (w' : World) : Prop :=
  ∃ lv rv, e = .returned (foundV (kindF bs) lv rv) ∧ bytesAt w' lv (loadF bs) ∧ bytesAt w' rv (restF bs) ∧ (∀ k, lv.ownBlock = some k → sv.ownBlock = some k) ∧ (∀ k, rv.ownBlock = some k → sv.ownBlock = some k) ∧ Fr [] w w'
/-- A part of bytes: no copy. -/
def Parted (sv : Value) (X : List UInt8) (w : World) (e : Ending) (w' : World) : Prop := ∃ a n c, e = .returned (.slice a n c) ∧ bytesAt w' (.slice a n c) X ∧ (∀ k, (Value.slice a n c).ownBlock = some k → sv.ownBlock = some k) ∧ w = w'
theorem fpart_val (bs : List UInt8) (a : Option Addr) (cap lo hi : Nat) (w : World) (h : bytesAt w (.slice a bs.length cap) bs) (h1 : lo ≤ hi) (h2 : hi ≤ bs.length) (x y : Int) (hx : x = lo) (hy : y = hi) :
    Calls Try.prog 40 #[.slice a bs.length cap, .int .i64 x, .int .i64 y] w (Parted (.slice a bs.length cap) ((bs.take hi).drop lo) w) := by
  subst hx hy
  refine (fpart_any bs a cap lo hi w h h1 h2).mono ?_
  rintro e w' ⟨b, rfl, hb, hk, rfl⟩
  exact ⟨b, _, _, rfl, hb, hk, rfl⟩
set_option maxRecDepth 100000 in
theorem find_good (bs : List UInt8) (sv : Value) (w : World) (h : bytesAt w sv bs) (hl : bs.length ≤ 1000000) (hy : (lenOf bs).1 = 0) (hs : endF bs + 4 ≤ bs.length) (hk : sumOk bs = true) :
    Calls Try.prog 26 #[sv] w (Found bs sv w) := by
  obtain ⟨a0, c0, rfl, hle, hmx⟩ := h.form
  simp only [maxLen] at hmx
  obtain ⟨he, hn, hlo, hpos, hne, hat⟩ := lenOf_end hy
  have hex : ∃ b off, a0 = some ⟨b, off, none⟩ ∧ b < w.heap.size ∧ w.cell? ⟨b, off, none⟩ = some (.int .u8 ((kindF bs).toNat : Int)) := by
    rcases h with ⟨_, _, _, _, rfl⟩ | ⟨b, off, c, e, h3, h4, h5⟩
    · simp at hpos
    · cases e
      have := h5 0 hpos
      refine ⟨b, off, rfl, World.block_lt_of_cell? w _ this, ?_⟩
      rw [Nat.add_zero] at this
      rw [this, kindF]
      cases bs with
      | nil => simp at hpos
      | cons c r => rfl
  have HX := Lib.hid hex
  clear hex
  have HP1 := Lib.hid (fun wx (hx : bytesAt wx _ bs) => fpart_val bs a0 c0 (atF bs) (endF bs) wx hx (by omega) (by omega) ((endF bs : Int) - ((lenOf bs).2.1 : Int)) (endF bs) (by omega) rfl)
  have HP2 := Lib.hid (fun wx (hx : bytesAt wx _ bs) => fpart_val bs a0 c0 (endF bs + 4) bs.length wx hx hs (Nat.le_refl _) ((endF bs : Int) + 4) bs.length (by omega) rfl)
  rw [show (bs.take (endF bs)).drop (atF bs) = loadF bs from rfl] at HP1
  rw [List.take_length, show bs.drop (endF bs + 4) = restF bs from rfl] at HP2
  have HB := Lib.hid h
  have HL := Lib.hid (fun wx (hx : Fr [] w wx) => loadLen_any bs _ wx (h.below hx) hl)
  rw [hy] at HL
  have HN := Lib.hid (fun wx => flen_yes (lenOf bs).2.1 wx hn)
  rw [he] at HN
  obtain ⟨n, hnn⟩ : ∃ n, n = (lenOf bs).2.1 := ⟨_, rfl⟩
  rw [← hnn] at HL HN HP1
  have hnf : n ≤ endF bs := by omega
  have hcmp : ((bs.take (endF bs + 4)).drop (endF bs) == sum4 (crcOf (bs.take (endF bs)))) = true := by
    rw [sumOk, decide_eq_true_eq] at hk
    rw [beq_iff_eq]; exact hk
  have HCM := Lib.hid hcmp
  have H1 := Lib.hid (fun wx (hx : Fr [] w wx) => (h.below hx).cut (lo := endF bs) (hi := endF bs + 4) (by omega) hs)
  have H2 := Lib.hid (fun wx (hx : Fr [] w wx) => (h.below hx).take (n := endF bs) (by omega))
  rw [if_neg (by omega), Nat.mul_one, Nat.add_sub_cancel_left] at H1
  obtain ⟨X, hX⟩ : ∃ X, X = bs.take (endF bs) := ⟨_, rfl⟩
  obtain ⟨Y, hY⟩ : ∃ Y, Y = (bs.take (endF bs + 4)).drop (endF bs) := ⟨_, rfl⟩
  rw [← hX, ← hY] at HCM
  rw [← hY] at H1
  rw [← hX] at H2
  obtain ⟨L, hL⟩ : ∃ L, L = bs.length := ⟨_, rfl⟩
  obtain ⟨f, hf⟩ : ∃ f, f = endF bs := ⟨_, rfl⟩
  rw [← hL] at HL hs hl hle HP1 HP2 ⊢
  rw [← hf] at HN H1 H2 hs HP1 HP2 hnf
  rw [← hL] at HB
  have hd : decide (L < f + 4) = false := decide_eq_false (by omega)
  have hd2 : decide ((L : Int) < (f : Int) + 4) = false := decide_eq_false (by omega)
  have hc1 : f + 4 ≤ c0 := by omega
  have hc2 : ¬ c0 = f := by omega
  have hcl : crcOf X < 4294967296 := by unfold crcOf; have := crcS_ones X; omega
  obtain ⟨s, hss⟩ : ∃ s, s = crcOf X := ⟨_, rfl⟩
  have hcrc := fun sx wx (hx : partsAt wx sx [X]) => of_any [X] sx wx hx
  rw [show ([X] : List (List UInt8)).flatten = X from by simp, ← hss] at hcrc
  rw [← hss] at hcl HCM
  have HC := Lib.hid hcrc
  clear h he hn hlo hpos hne hnn hy hL hf hcmp hk hcrc hss hX hY hat
  go_enter Try.func26, Try.ntmps26
  go_wp2_with (first
    | (go_at_call 38; refine (HL.out _ (Fr.alloc _ _)).mono ?_; rintro e w1 ⟨rfl, hf1⟩)
    | (go_at_call 10; refine (HN.out _).mono ?_; rintro e w2 ⟨rfl, rfl⟩))
  have hf01 : Fr [] w w1 := (Fr.alloc w _).trans hf1 (by simp) (by simp)
  refine wp_region_G [] [(0, false), (1, false), (2, false), (3, false), (4, false), (5, false), (6, false), (7, true), (8, true), (9, true), (10, true), (11, false)] 54 rfl (by kernel_rfl) (by kernel_rfl) (by kernel_rfl) (fun c a d v w h => by cases d <;> exact h) (fun w2 hf2 => ?_)
  simp only [List.map_cons, List.map_nil, List.getElem?_toArray, List.getElem?_cons_succ, List.getElem?_cons_zero, Option.getD_some]
  repeat (apply wpG_t; · (intro w' hf'; go_wp2_with fail; exact ⟨rfl, rfl⟩))
  refine wpG_x ?_
  go_wp2_with fail
  refine ⟨Fr.alloc _ _, rfl, ?_⟩
  have hof := HC.out _ _ (partsAt_new1 w2 _ X 22 (H2.out _ (hf01.trans hf2 (by simp) (by simp))))
  refine wpG_x ?_
  go_wp2_with (go_at_call 22; refine hof.mono ?_; rintro e w3 ⟨rfl, hf3⟩)
  refine ⟨hf3, rfl, ?_⟩
  refine wpG_x ?_
  go_wp2_with (go_at_call 21; refine (sumForm_any s _ hcl).mono ?_; rintro e w4 ⟨v4, rfl, hb4, hk4, hf4⟩)
  refine ⟨hf4, rfl, ?_⟩
  have hf14 : Fr [] w1 w4 := ((hf2.trans (Fr.alloc w2 _) (by simp) (n := []) (by simp)).trans hf3 (by simp) (n := []) (by simp)).trans hf4 (by simp) (by simp)
  have heq := equal_any _ _ _ _ w4 (H1.out _ (hf01.trans hf14 (by simp) (by simp))) hb4
  rw [HCM.out] at heq
  refine wpG_x ?_
  go_wp2_with (go_at_call 39; refine heq.mono ?_; rintro e w5 ⟨rfl, rfl⟩)
  refine ⟨Fr.refl _ _, rfl, ?_⟩
  repeat (apply wpG_t; · (intro w' hf'; go_wp2_with fail; exact ⟨rfl, rfl⟩))
  refine wpG_end ?_
  obtain ⟨b, off, rfl, hbw, hcell⟩ := HX.out
  go_wp2_with fail
  refine wp_region_G [w.heap.size] [(0, false), (1, false), (2, false), (3, false), (4, false), (5, false), (6, false), (7, false), (9, false), (10, false), (11, false), (12, false), (8, true), (13, true), (14, true), (15, true), (16, false)] 54 rfl (by kernel_rfl) (by kernel_rfl) (by kernel_rfl) (fun c a d v w h => by cases d <;> exact h) (fun w6 hf6 => ?_)
  simp only [List.map_cons, List.map_nil, List.getElem?_toArray, List.getElem?_cons_succ, List.getElem?_cons_zero, Option.getD_some]
  have hf06 : Fr [] w w6 := (hf01.trans hf14 (by simp) (n := []) (by simp)).trans hf6 (by simp) (by simp)
  have hld : ∀ w', Fr [w.heap.size] w6 w' → w'.cell? ⟨b, off, none⟩ = some (.int .u8 ((kindF bs).toNat : Int)) := fun w' hw' => hw'.cell (hf06.cell hcell (by simp)) (by simp; omega)
  have HLD := Lib.hid hld
  clear hld
  have hLp : decide (0 < L) = true := decide_eq_true (by omega)
  repeat (apply wpG_t; · (intro w' hf'; have c1 := HLD.out w' hf'; go_wp2_with fail; exact ⟨rfl, rfl⟩))
  have hb6 := HB.out.below hf06
  refine wpG_x ?_
  go_wp2_with (go_at_call 40; refine (HP1.out _ hb6).mono ?_; rintro e w7 ⟨a1, n1, c1, rfl, hb7, hk7, rfl⟩)
  refine ⟨Fr.refl _ _, rfl, ?_⟩
  refine wpG_x ?_
  go_wp2_with (go_at_call 40; refine (HP2.out _ hb6).mono ?_; rintro e w8 ⟨a2, n2, c2, rfl, hb8, hk8, rfl⟩)
  refine ⟨Fr.refl _ _, rfl, ?_⟩
  refine wpG_x ?_
  go_wp2_with fail
  refine ⟨Fr.refl _ _, rfl, ?_⟩
  have hrow := (hf14.trans hf6 (by simp) (n := []) (by simp)).heap (hf1.heap (heap_alloc_new w _) (by simp)) (by simp)
  obtain ⟨hc0, hc1', hc2', hz0, hz1, hz2⟩ := three_of_heap hrow
  refine wpG_x ?_
  go_wp2_with fail
  refine ⟨Fr.set3 _ _ _ _ _, rfl, ?_⟩
  repeat (apply wpG_t; · (intro w' hf'; go_wp2_with fail; exact ⟨rfl, rfl⟩))
  refine wpG_end ?_
  go_wp2_with fail
  refine bodyPost_ret (v := foundV (kindF bs) (.slice a1 n1 c1) (.slice a2 n2 c2)) (results_cell2 rfl _ _ w.heap.size 54 #[.int .u8 ((kindF bs).toNat : Int), .slice a1 n1 c1, .slice a2 n2 c2] _ rfl (heap_set3 hrow) Try.underlying54 rfl sizeFound _ rfl) rfl ⟨_, _, rfl, ?_, ?_, hk7, hk8, ?_⟩
  · refine hb7.kept (Fr.set3 _ _ _ _ _) (fun q hq _ _ => ?_)
    have := hk7 q hq
    simp [Value.ownBlock] at this
    simp; omega
  · refine hb8.kept (Fr.set3 _ _ _ _ _) (fun q hq _ _ => ?_)
    have := hk8 q hq
    simp [Value.ownBlock] at this
    simp; omega
  · exact hf06.trans (Fr.set3 _ _ _ _ _) (by simp) (by simp)
end Go.Proofs.Ytijdffpekonklaa
