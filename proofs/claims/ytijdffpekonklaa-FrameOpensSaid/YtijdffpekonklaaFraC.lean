/- Contract of the document's Seal. -/
import Derived.Test.YtijdffpekonklaaFraB
import Derived.Test.YtijdffpekonklaaCrcRef
import Derived.Test.YtijdffpekonklaaVarA
namespace Go.Proofs.Ytijdffpekonklaa
open Go.RowKit

theorem sum4_cells (s : Nat) (h : s < 4294967296) : (#[Value.int .u8 ((s : Int) % 256), .int .u8 ((s : Int) / 256 % 256), .int .u8 ((s : Int) / 65536 % 256), .int .u8 ((s : Int) / 16777216)] : Array Value) = (cellsB (sum4 s)).toArray := by
  have e : ((s : Int) / 16777216) = ((s / 16777216 % 256 : Nat) : Int) := by omega
  rw [e]
  simp only [cellsB, sum4, List.map_cons, List.map_nil, u8n]
  rfl
set_option maxRecDepth 100000 in
theorem ref_seal_any (k : UInt8) (load : List UInt8) (sv : Value) (w : World) (h : bytesAt w sv load) (hl : load.length ≤ 1000000) :
    Calls Try.prog 9 #[.int .u8 (k.toNat : Int), sv] w (Ret (Fresh w (sealF k load))) := by
  obtain ⟨i, hi, hz0, hz1, hz2⟩ := info_parts infoB
  obtain ⟨a0, c0, rfl, hle, hmx⟩ := h.form
  have hlt := h.lt
  have HB := Lib.hid h
  have hfl := form_len10 load.length (by omega)
  have hnew : (w.alloc (.cells #[.int .u8 (k.toNat : Int)] 5)).ownsRow w.heap.size 5 1 (.slice (some ⟨w.heap.size, 0, none⟩) 1 1) [k].length (cellsB [k]) :=
    owns_of_heap (cur := [.int .u8 (k.toNat : Int)]) (heap_alloc_new w _) (Nat.le_refl _) rfl (Nat.le_refl _) (by simp [maxLen]) rfl
  have HN := Lib.hid hnew
  have hsz0 : ∀ x : Obj, w.heap.size ≤ (w.alloc x).heap.size := by intro x; simp
  have hbody : [k] ++ form load.length ++ load = bodyF k load := rfl
  have HLT := Lib.hid hlt
  clear h hnew hlt
  go_enter Try.func9, Try.ntmps9
  go_wp2_with (first
    | (go_at_call 12; refine (ref_form_any load.length _ (by omega)).mono ?_; rintro e w1 ⟨v1, rfl, hown1, hf1⟩; have hb1 := bytesAt_of_owns hown1; have hn1 := owns_kept HN.out hf1 (by simp); have hs1 := Nat.le_trans (hsz0 _) hf1.size; have hf01 := (Fr.alloc w _).trans hf1 (by simp) (n := []) (by simp))
    | (at_builtin; refine wpL_append rfl (.tmp 9) (.tmp 13) 22 rfl w.heap.size 5 i (.int .u8 0) Try.underlying22 hi hz0 hz1 hz2 rfl _ [k] rfl hn1 _ (form load.length) rfl hb1 (by simp; omega) hs1 ?_; intro v2 w2 hown2 hf2 hb2; clear hb2; have hf2' : Fr [w.heap.size] w1 w2 := hf2; have hf02 := hf01.trans hf2' (by simp) (n := []) (by simp); have hby2 := HB.out.below hf02; have hs2 := hf02.size; clear hf2 hf2' hf1 hn1 hb1; obtain ⟨a2, n2, c2, rfl⟩ := (bytesAt_of_owns hown2).slice)
    | (at_builtin; refine wpL_append rfl (.tmp 15) (.tmp 16) 22 rfl w.heap.size 5 i (.int .u8 0) Try.underlying22 hi hz0 hz1 hz2 rfl _ ([k] ++ form load.length) rfl hown2 _ load rfl hby2 (by simp; omega) hs2 ?_; intro v3 w3 hown3 hf3 hb3; clear hb3; have hf03 := hf02.own hown2 hf3; rw [hbody] at hown3; clear hf3 hf02 hown2 hby2; obtain ⟨a3, n3, c3, rfl⟩ := (bytesAt_of_owns hown3).slice))
  have hcl : crcOf (bodyF k load) < 4294967296 := by unfold crcOf; have := crcS_ones (bodyF k load); omega
  have hsum := ref_sum_any (bodyF k load) _ w3 (bytesAt_of_owns hown3)
  obtain ⟨s, hs⟩ : ∃ s, s = crcOf (bodyF k load) := ⟨_, rfl⟩
  rw [← hs] at hsum hcl
  have hfin : bodyF k load ++ sum4 s = sealF k load := by rw [hs]; rfl
  have hbl : (bodyF k load).length ≤ 1000011 := by rw [bodyF_length]; omega
  have HSM := Lib.hid hsum
  obtain ⟨B, hB⟩ : ∃ B, B = bodyF k load := ⟨_, rfl⟩
  rw [← hB] at hown3 hfin hbl
  have HFin := Lib.hid hfin
  have hb4 := bytesAt_new w3 (sum4 s) 5 4 rfl (by simp [sum4, maxLen]) _ (sum4_cells s hcl)
  have hown4 := owns_kept hown3 (Fr.alloc w3 (.cells #[Value.int .u8 ((s : Int) % 256), .int .u8 ((s : Int) / 256 % 256), .int .u8 ((s : Int) / 65536 % 256), .int .u8 ((s : Int) / 16777216)] 5)) (by simp)
  have hsz4 := hf03.size
  have hf04 := hf03.trans (Fr.alloc w3 (.cells #[Value.int .u8 ((s : Int) % 256), .int .u8 ((s : Int) / 256 % 256), .int .u8 ((s : Int) / 65536 % 256), .int .u8 ((s : Int) / 16777216)] 5)) (by simp) (n := []) (by simp)
  clear hsum hs hfin hB hbody hfl HN HLT HB
  go_wp2_with (first
    | (go_at_call 24; refine HSM.out.mono ?_; rintro e w4 ⟨rfl, rfl⟩)
    | (at_builtin; refine wpL_append rfl (.tmp 20) (.tmp 35) 22 rfl w.heap.size 5 i (.int .u8 0) Try.underlying22 hi hz0 hz1 hz2 rfl _ B rfl hown4 _ (sum4 s) rfl hb4 (by simp [sum4]; omega) hf04.size ?_; intro v5 w5 hown5 hf5 hb5))
  go_ret
  rw [HFin.out] at hown5
  exact Ret.mk ⟨hown5, hf04.own hown4 hf5⟩
end Go.Proofs.Ytijdffpekonklaa
