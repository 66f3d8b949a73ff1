/- CrcSteps: the register behind any bytes, of any register, its sum, and each place of the table. -/
import Derived.Test.YtbbnjfkhaoenhaaCrcLaw
import Derived.Test.YtbbnjfkhaoenhaaRegion
namespace Go.Proofs.Ytbbnjfkhaoenhaa
open Go.RowKit

theorem crcS_zero (i : Nat) : crcS i [0] = crcN 8 i := by
  show crcN 8 (i ^^^ 0) = _
  rw [Nat.xor_zero]
set_option maxRecDepth 100000 in
theorem steps_any (r i : Nat) (bs : List UInt8) (v0 : Value) (w : World) (h0 : bytesAt w v0 bs) (hr : r < 4294967296) (hi : i < 256) :
    Calls Try.prog 4 #[.int .u32 r, v0, .int .u8 i] w fun e w' => e = .returned (.bool true) ∧ Fr [] w w' := by
  obtain ⟨a0, c0, rfl, -, -⟩ := h0.form
  by_cases hb : 500 < bs.length
  · have hb1 : decide (500 < (bs.length : Int)) = true := decide_eq_true (by omega)
    go_enter Try.func4, Try.ntmps4
    go_wp2_with (go_at_call 7; refine (awake_any _).mono ?_; rintro e w' ⟨rfl, hf⟩)
    go_ret
    exact ⟨rfl, hf⟩
  · have hb1 : decide (500 < (bs.length : Int)) = false := decide_eq_false (by omega)
    have hn1 : ((4294967295 - r : Nat) : Int) = 4294967295 - (r : Int) := by omega
    have HC := Lib.hid (fun w' => end_any r w' hr)
    rw [hn1] at HC
    clear hn1
    have HO := Lib.hid (show (crcTab 0).size = (crcTab 256).size by rw [crcTab_size, crcTab_size])
    have HS := Lib.hid (show (Try.prog.info? 33).map (·.size) = some (crcTab 256).size by rw [crcTab_size]; exact sizeT)
    have HN := Lib.hid (crcTab_one 256)
    go_enter Try.func4, Try.ntmps4
    go_wp2_with (first
      | (go_at_call 9; refine (step_any r bs _ _ h0 hr).mono ?_; rintro e w1 ⟨rfl, hf1⟩)
      | (go_at_call 13; refine (ref_step_any r bs _ _ (h0.below hf1) hr).mono ?_; rintro e w2 ⟨rfl, rfl⟩)
      | (go_at_call 10; refine (HC.out _).mono ?_; rintro e w2 ⟨rfl, rfl⟩)
      | (go_at_call 8; refine (begin_any _).mono ?_; rintro e w2 ⟨rfl, rfl⟩)
      | (go_at_call 14; refine (table_any _).mono ?_; rintro e w3 ⟨rfl, hf3⟩)
      | (refine wpL_newArr rfl 33 rfl (crcTab 0) infoT ?_; intro w4 hh4 hf4 hs4; refine wpL_storeArr rfl 33 (.tmp 7) (.tmp 30) rfl w3.heap.size (crcTab 256) (crcTab 0) rfl rfl 33 hh4.out HS.out HO.out HN.out ?_; intro w5 hh5 hf5 hs5))
    have hf05 : Fr [] w w5 := ((hf1.trans hf3 (by simp) (n := []) (by simp)).trans hf4 (by simp) (n := []) (by simp)).trans hf5 (by simp) (by have := hf1.size; have := hf3.size; simp; omega)
    have hh := hh5.out
    obtain ⟨g, hg⟩ : ∃ g, g = w3.heap.size := ⟨_, rfl⟩
    rw [← hg] at hh ⊢
    clear hh4 hh5 hs4 hs5 hf5 hf4 hf3 hg HS HO HN HC h0 hf1
    refine wp_region_G [] [(0, false), (1, false), (2, false), (3, false), (4, false), (5, true), (6, true), (7, false), (8, false), (9, true), (10, false), (11, false)] 42 rfl (by kernel_rfl) (by kernel_rfl) (by kernel_rfl) (fun c a d v w h => by cases d <;> exact h) (fun wd hfd => ?_)
    simp only [List.map_cons, List.map_nil, List.getElem?_toArray, List.getElem?_cons_succ, List.getElem?_cons_zero, Option.getD_some]
    have hA : Later [] wd (fun w' => w'.cell? ⟨g, i, none⟩ = some (.int .u32 ((crcN 8 i : Nat) : Int))) := fun w' hf' => by
      show w'.cell? ⟨g, i, none⟩ = _
      rw [cell_of_heap ((hfd.trans hf' (by simp) (n := []) (by simp)).heap hh (by simp)), crcTab_full i hi]
    have hil : (i : Int) < 256 := by omega
    repeat (apply wpG_t; · (intro w' hf'; have c1 := hA w' hf'; go_wp2; exact ⟨rfl, rfl⟩))
    refine wpG_x ?_
    go_wp2
    refine ⟨Fr.alloc _ _, rfl, ?_⟩
    refine wpG_x ?_
    go_wp2_with (go_at_call 13; refine (ref_step_any i [0] _ _ (bytesAt_new wd [0] 5 1 rfl (by simp [maxLen]) _ rfl) (by omega)).mono ?_; rintro e w6 ⟨rfl, rfl⟩)
    refine ⟨Fr.refl _ _, rfl, ?_⟩
    rw [crcS_zero]
    repeat (apply wpG_t; · (intro w' hf'; go_wp2; exact ⟨rfl, rfl⟩))
    refine wpG_x ?_
    go_wp2_with (go_at_call 7; refine (awake_any _).mono ?_; rintro e w7 ⟨rfl, hf7⟩)
    refine ⟨hf7, rfl, ?_⟩
    repeat (apply wpG_t; · (intro w' hf'; go_wp2; exact ⟨rfl, rfl⟩))
    refine wpG_end ?_
    have hfin : Fr [] w w7 := ((hf05.trans hfd (by simp) (n := []) (by simp)).trans (Fr.alloc _ _) (by simp) (n := []) (by simp)).trans hf7 (by simp) (by simp)
    go_wp2
    go_ret
    exact ⟨rfl, hfin⟩
end Go.Proofs.Ytbbnjfkhaoenhaa
