/- Contract of package hex's Text. -/
import Derived.Test.YtjlkcdmeiakkbaaGreatDoorHexA
import Derived.Test.YtjlkcdmeiakkbaaGreatDoorBs
set_option linter.unusedVariables false
set_option linter.unusedSimpArgs false
namespace Go.Proofs.YtjlkcdmeiakkbaaGreatDoor
open Go.RowKit

def TextRel (w : World) (bs : List UInt8) (vs i : Value) (wr : World) : Prop :=
  ∃ (k : Nat) (a : Option Addr) (cap : Nat), k ≤ bs.length ∧ i = .int .i64 (k : Int) ∧ vs = .slice a (2 * k) cap ∧ wr.ownsRow w.heap.size 5 1 vs (hexOf (bs.take k)).length (cellsB (hexOf (bs.take k))) ∧ Fr [] w wr
theorem text_step (bs : List UInt8) (k : Nat) (h : k < bs.length) : hexOf (bs.take (k + 1)) = hexOf (bs.take k) ++ [hxd ((bs[k]'h).toNat / 16), hxd ((bs[k]'h).toNat % 16)] := by
  rw [← hexOf_snoc, List.take_add_one, List.getElem?_eq_getElem h]
  rfl
theorem hexOf_take (bs : List UInt8) (k : Nat) (h : k ≤ bs.length) : (hexOf (bs.take k)).length = 2 * k := by
  rw [hexOf_length, List.length_take, Nat.min_eq_left h]
set_option maxRecDepth 100000 in
theorem text_any (bs : List UInt8) (sv : Value) (w : World) (h : bytesAt w sv bs) (hr : digsAt w) (hl : bs.length ≤ 1000000) :
    Calls Tryz.prog 44 #[sv] w fun e w' => e = .returned (.string ⟨(hexOf bs).toArray⟩) ∧ Fr [] w w' := by
  obtain ⟨i, hi, hz0, hz1, hz2⟩ := info_parts infoB
  have hc := cellsAt_bytes h
  obtain ⟨a, cap, rfl, -, -⟩ := h.form
  have HB := Lib.hid h
  have HC := Lib.hid hc
  have HR := Lib.hid hr
  clear h hc hr
  go_enter Tryz.func44, Tryz.ntmps44
  go_wp2_with (refine wpL_makeCap rfl _ _ 45 rfl 5 i (.int .u8 0) 1 Tryz.underlying45 hi hz0 hz1 hz2 rfl 0 (2 * bs.length) rfl (by go_num) (by omega) (by omega) (by simp [maxLen]; omega) ?_; intro w1 hown1 hf1 hs1)
  go_loopw [3, 12] (TextRel w bs) (fun _ i _ => bs.length - (intOf i).toNat)
  case atStart => exact ⟨0, _, _, by omega, rfl, rfl, hown1, hf1⟩
  case round =>
    clear hown1 hf1 hs1
    obtain ⟨k, a2, cap2, hk, rfl, rfl, hown, hf⟩ := hrel
    by_cases hkl : k < bs.length
    · have hd : decide ((k : Int) < (bs.length : Int)) = true := decide_eq_true (by omega)
      obtain ⟨b, off, rfl, -, hcell⟩ := HC.out.get (i := k) (by rw [cellsB_length]; exact hkl)
      have hck := hf.cell (hcell k (by rw [cellsB_length]; exact hkl)) (by simp)
      have hcg := cellsB_get bs k hkl
      rw [List.getElem?_eq_getElem (by rw [cellsB_length]; exact hkl)] at hcg
      rw [Option.some.inj hcg] at hck
      obtain ⟨c, hcc⟩ : ∃ c, c = bs[k]'hkl := ⟨_, rfl⟩
      have hstep := text_step bs k hkl
      rw [← hcc] at hstep hck
      have hcl := c.toNat_lt
      have HS := Lib.hid hstep
      clear hcell hcg hcc hstep
      have hgp := HR.out.pos
      have hsz := hf.size
      have HL := Lib.hid hown.lt
      have HO := Lib.hid hown
      have hn1 : (c.toNat : Int) / 16 ≤ 15 := by omega
      have hn2 : (c.toNat : Int) % 16 ≤ 15 := by omega
      clear hown
      go_wp2_with fail
      refine wp_region_G (Value.slice a2 (2 * k) cap2).ownBlock.toList [(0, false), (1, false), (2, false), (3, false), (4, false), (5, false), (6, false), (7, false), (8, false), (9, true), (10, true), (11, false)] 30 rfl (by kernel_rfl) (by kernel_rfl) (by kernel_rfl) (fun c a d v w h => by cases d <;> exact h) (fun w3 hf3 => ?_)
      simp only [List.map_cons, List.map_nil, List.getElem?_toArray, List.getElem?_cons_succ, List.getElem?_cons_zero, Option.getD_some]
      have LR : Later (Value.slice a2 (2 * k) cap2).ownBlock.toList w3 (fun w' => digsAt w') := fun w' hf' => ((HR.out.below hf).below hf3).kept hf' (by
        intro hm
        have hk' : (Value.slice a2 (2 * k) cap2).ownBlock = some 0 := by simpa [Option.mem_toList] using hm
        have := (HL.out _ hk').1
        omega)
      have L1 : Later (Value.slice a2 (2 * k) cap2).ownBlock.toList w3 (fun w' => w'.cell? ⟨0, c.toNat / 16, none⟩ = some (.int .u8 ((hxd (c.toNat / 16)).toNat : Int))) := fun w' hf' => (LR w' hf').get _ (by omega)
      have L2 : Later (Value.slice a2 (2 * k) cap2).ownBlock.toList w3 (fun w' => w'.cell? ⟨0, c.toNat % 16, none⟩ = some (.int .u8 ((hxd (c.toNat % 16)).toNat : Int))) := fun w' hf' => (LR w' hf').get _ (by omega)
      have L1 := Lib.hid L1
      have L2 := Lib.hid L2
      clear LR
      repeat (apply wpG_t; · (intro w' hf'; have c1 := L1.out w' hf'; have c2 := L2.out w' hf'; go_wp2_with fail; exact ⟨rfl, rfl⟩))
      refine wpG_x ?_
      go_wp2_with fail
      have hfa := fun l cs => (Fr.alloc w3 (.cells cs 5)).mono (m := l) (by simp)
      refine ⟨hfa _ _, rfl, ?_⟩
      refine wpG_x ?_
      have hb2 := bytesAt_new w3 [hxd (c.toNat / 16), hxd (c.toNat % 16)] 5 2 rfl (by simp [maxLen]) _ rfl
      have ho2 := owns_kept (owns_kept HO.out hf3 (by simp)) (Fr.alloc w3 (.cells (cellsB [hxd (c.toNat / 16), hxd (c.toNat % 16)]).toArray 5)) (by simp)
      have hs3 := hf3.size
      have htl := hexOf_take bs k (by omega)
      go_wp2_with (at_builtin; refine wpL_append rfl (.tmp 16) (.tmp 25) 45 rfl w.heap.size 5 i (.int .u8 0) Tryz.underlying45 hi hz0 hz1 hz2 rfl _ (hexOf (bs.take k)) rfl ho2 _ [hxd (c.toNat / 16), hxd (c.toNat % 16)] rfl hb2 (by rw [htl]; simp; omega) (by simp; omega) ?_; intro v' w4 hown4 hf4 hb4)
      refine ⟨hf4, rfl, ?_⟩
      repeat (apply wpG_t; · (intro w' hf'; go_wp2_with fail; exact ⟨rfl, rfl⟩))
      refine wpG_end ?_
      go_wp2_with fail
      have hown5 : w4.ownsRow w.heap.size 5 1 v' (hexOf (bs.take (k + 1))).length (cellsB (hexOf (bs.take (k + 1)))) := by rw [HS.out]; exact hown4
      have htl2 := hexOf_take bs (k + 1) (by omega)
      obtain ⟨a5, c5, rfl, -, -⟩ := (bytesAt_of_owns hown5).form
      have hf03 : Fr [] w w3 := hf.trans hf3 (by simp) (by simp)
      have hf34 : Fr (Value.slice a2 (2 * k) cap2).ownBlock.toList w3 w4 := (Fr.alloc w3 _).trans hf4 (by simp) (fun i hi _ => hi)
      have hfin : Fr [] w w4 := hf03.own (owns_kept HO.out hf3 (by simp)) hf34
      exact ⟨⟨k + 1, a5, c5, by omega, by go_num, by rw [htl2], hown5, hfin⟩, by simp [intOf]; omega⟩
    · have hd : decide ((k : Int) < (bs.length : Int)) = false := decide_eq_false (by omega)
      obtain rfl : bs.length = k := by omega
      have hby := bytesAt_of_owns hown
      rw [List.take_length] at hby
      have hcv := run_conv_bytes (P := Tryz.prog) hby 45 5 9 Tryz.underlying45 Tryz.underlying5 Tryz.underlying9
      clear hown hby
      go_wp2_with fail
      go_ret
      exact ⟨rfl, hf⟩
end Go.Proofs.YtjlkcdmeiakkbaaGreatDoor
