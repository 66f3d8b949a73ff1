/- Several texts in one: FpA, FpO. -/
import Derived.Deep.DeepCutAuto
import Derived.LoopTactic
import Derived.Laws.EntriesVeiled
import Derived.WalkMore
import Derived.Test.YtnaamjpiaekmeaaGreatPr
import Derived.Test.YtnaamjpiaekmeaaGreatDt
import Derived.Test.YtnaamjpiaekmeaaGreatBs
import Derived.Test.YtnaamjpiaekmeaaGreatWq
set_option linter.unusedVariables false
set_option linter.unusedSimpArgs false
namespace Go.Proofs.YtnaamjpiaekmeaaGreat
open Go.RowKit
theorem isTerm_f (s : Int) (w : World) : Calls Tryz.prog 55 #[.int .i64 s] w fun e w' => e = .returned (.bool (decide (s < 0))) ∧ w' = w := by
 go_enter Tryz.func55, Tryz.ntmps55
 go_wp2_with fail
 go_ret
 exact ⟨rfl, rfl⟩
theorem strs_one (w : World) (x : List UInt8) : strsAt (w.alloc (.cells #[encStr x] 9)) (.slice (some ⟨w.heap.size, 0, none⟩) 1 1) [x] := cells_of_heap (cs := [encStr x]) (heap_alloc_new w _) (show 1 ≤ maxLen by decide) 1 rfl
def SymGot (r : Option Words) (w : World) (e : Ending) (w' : World) : Prop := ∃ v, e = .returned (.tuple #[v, .bool r.isSome]) ∧ strsAt w' v (r.getD []) ∧ Fr [] w w'
set_option maxRecDepth 100000 in
set_option maxHeartbeats 4000000 in
theorem pofsym (ls : List Words) (lv : Value) (s : Int) (w : World) (hl : setsAt w lv ls) (hr1 : -9223372036854775808 ≤ s) (hr2 : s ≤ 9223372036854775807) :
  Calls Tryz.prog 37 #[lv, .int .i64 s] w (SymGot (symW ls s) w) := by
 obtain ⟨al, cl, rfl, hcl, hml⟩ := hl.form
 have HL := Lib.hid hl
 have HIT := Lib.hid (isTerm_f s w)
 obtain ⟨N, hN⟩ : ∃ N, N = ls.length := ⟨_, rfl⟩
 rw [← hN] at hcl HL ⊢
 have HN := Lib.hid hN
 obtain ⟨G, hG⟩ : ∃ G, G = symW ls s := ⟨_, rfl⟩
 have HG := Lib.hid hG
 rw [← hG]
 clear hl hN hG
 by_cases hneg : s < 0
 ·have hd2 : decide (s < 0) = true := decide_eq_true hneg
  rw [hd2] at HIT
  by_cases hlow : s < -256
  ·have hd3 : decide (-1 - s < 256) = false := decide_eq_false (by omega)
   have HE := Lib.hid (show G = none by rw [HG.out]; exact sym_under hlow)
   clear hlow hneg hd2
   go_enter Tryz.func37, Tryz.ntmps37
   go_wp2_with (go_at_call 55; refine HIT.out.mono ?_; rintro e w1 ⟨rfl, rfl⟩)
   go_ret2
   exact ⟨_, by rw [HE.out]; rfl, by rw [HE.out]; exact cellsAt.nil _, Fr.refl _ _⟩
  ·have hd3 : decide (-1 - s < 256) = true := decide_eq_true (by omega)
   obtain ⟨bt, hbt⟩ : ∃ b : UInt8, b = UInt8.ofNat (-1 - s).toNat := ⟨_, rfl⟩
   have hbv : ((bt.toNat : Nat) : Int) = -1 - s := by rw [hbt, UInt8.toNat_ofNat_of_lt' (by show (-1 - s).toNat < 256; omega)]; omega
   have hsy : symW ls s = some [[bt]] := by rw [hbt]; exact sym_term hneg (by omega)
   have hby := bytesAt_new w [bt] 5 1 rfl (show 1 ≤ maxLen by decide) #[.int .u8 (-1 - s)] (by rw [← hbv]; rfl)
   have hcv := run_conv_bytes (P := Tryz.prog) hby 47 5 9 Tryz.underlying47 Tryz.underlying5 Tryz.underlying9
   obtain ⟨Cb, hCb⟩ : ∃ C, C = [bt].toArray := ⟨_, rfl⟩
   rw [← hCb] at hcv
   have hfA := Fr.alloc w (.cells #[.int .u8 (-1 - s)] 5)
   obtain ⟨wA, hwA⟩ : ∃ wA, wA = w.alloc (.cells #[.int .u8 (-1 - s)] 5) := ⟨_, rfl⟩
   have hsA := strs_one wA [bt]
   have hfB := Fr.alloc wA (.cells #[.string ⟨Cb⟩] 9)
   have hse : encStr [bt] = .string ⟨Cb⟩ := by rw [hCb]
   rw [hse] at hsA
   rw [hwA] at hsA hfB
   have HFB := Lib.hid (hfA.tr0 hfB)
   have HSB := Lib.hid hsA
   have HE := Lib.hid (show G = some [[bt]] by rw [HG.out]; exact hsy)
   have hwr : -1 - s ≤ 255 := by omega
   have hwr0 : 0 ≤ -1 - s := by omega
   clear hbv hbt hfA hfB hsA hse hCb hwA hsy hby hlow hneg hd2
   rw [World.size_alloc] at HSB
   go_enter Tryz.func37, Tryz.ntmps37
   go_wp2_with (go_at_call 55; refine HIT.out.mono ?_; rintro e w1 ⟨rfl, rfl⟩)
   go_ret2
   exact ⟨_, by rw [HE.out]; rfl, by rw [HE.out]; exact HSB.out, HFB.out⟩
 ·have hd2 : decide (s < 0) = false := decide_eq_false hneg
  rw [hd2] at HIT
  by_cases hbig : (N : Int) ≤ s
  ·have hd4 : decide ((N : Int) ≤ s) = true := decide_eq_true hbig
   have hd4b : decide (s < (N : Int)) = false := decide_eq_false (by omega)
   have HE := Lib.hid (show G = none by rw [HG.out]; exact sym_over (by rw [← HN.out]; exact hbig))
   clear hbig hneg hd2
   go_enter Tryz.func37, Tryz.ntmps37
   go_wp2_with (go_at_call 55; refine HIT.out.mono ?_; rintro e w1 ⟨rfl, rfl⟩)
   go_ret2
   exact ⟨_, by rw [HE.out]; rfl, by rw [HE.out]; exact cellsAt.nil _, Fr.refl _ _⟩
  ·obtain ⟨c, rfl⟩ := Int.eq_ofNat_of_zero_le (show 0 ≤ s by omega)
   have hcN : c < N := by omega
   have hd3 : decide ((c : Int) < (N : Int)) = true := decide_eq_true (by omega)
   have hd3b : decide (c < N) = true := decide_eq_true hcN
   have hd4 : decide ((N : Int) ≤ (c : Int)) = false := decide_eq_false (by omega)
   have hd4b : decide (N ≤ c) = false := decide_eq_false (by omega)
   have hcl2 : c < ls.length := by rw [← HN.out]; exact hcN
   obtain ⟨bl, ol, uv, el, hcu, hu⟩ := set_cell HL.out c hcl2
   subst el
   obtain ⟨pu, cu, rfl, hcu2, hmu⟩ := hu.form
   have HE := Lib.hid (show G = some (ls[c]'hcl2) by rw [HG.out]; exact sym_nont hcl2)
   have HU := Lib.hid hu
   clear hu hd2 hbig hneg
   go_enter Tryz.func37, Tryz.ntmps37
   go_wp2_with (go_at_call 55; refine HIT.out.mono ?_; rintro e w1 ⟨rfl, rfl⟩)
   go_ret2
   exact ⟨_, by rw [HE.out]; rfl, by rw [HE.out]; exact HU.out, Fr.refl _ _⟩
set_option maxRecDepth 100000 in
theorem pwhole1 (q : Nat) (k : Int) (x : List UInt8) (w : World) (hq : w.cell? ⟨q, 0, none⟩ = some (.int .i64 k)) (B : Bool) (hB : B = decide ((x.length : Int) < k)) :
  Calls Tryz.prog 69 #[encStr x, .pointer (some ⟨q, 0, none⟩)] w fun e w' => e = .returned (.bool B) ∧ w' = w := by
 go_enter Tryz.func69, Tryz.ntmps69
 go_wp2_with fail
 go_ret
 exact ⟨by rw [hB]; rfl, rfl⟩
def WhR (w : World) (l : Words) (k : Int) (iv : Value) (wx : World) : Prop := ∃ i : Nat, i ≤ l.length ∧ iv = .int .i64 (i : Int) ∧ (∀ c (h : c < l.length), c < i → k ≤ ((l[c]'h).length : Int)) ∧ w = wx
def wholeW (l : Words) (k : Int) : Bool := l.all fun x => decide (k ≤ (x.length : Int))
set_option maxRecDepth 100000 in
set_option maxHeartbeats 1000000 in
theorem pwholex (q : Nat) (l : Words) (k : Int) (lv : Value) (w : World) (hq : w.cell? ⟨q, 0, none⟩ = some (.int .i64 k)) (h : strsAt w lv l) :
  Calls Tryz.prog 106 #[lv, .func (.func 69) #[] #[.pointer (some ⟨q, 0, none⟩)]] w fun e w' => w' = w ∧ ∃ r : Int, e = .returned (.int .i64 r) ∧ decide (0 ≤ r) = !(wholeW l k) := by
 obtain ⟨a0, c0, rfl, hle, hmx⟩ := h.form
 have HE := Lib.hid h
 have HQ := Lib.hid hq
 obtain ⟨n, hn⟩ : ∃ n, n = l.length := ⟨_, rfl⟩
 rw [← hn] at HE hle ⊢
 have HN := Lib.hid hn
 clear h hq hn
 go_enter Tryz.func106, Tryz.ntmps106
 go_wp2_with fail
 go_loopw [8] (WhR w l k) (fun iv _ => n - (intOf iv).toNat)
 case atStart => exact ⟨0, Nat.zero_le _, rfl, fun c _ hc => by omega, rfl⟩
 case round =>
  obtain ⟨i, hi, rfl, hall, rfl⟩ := hrel
  have HA := Lib.hid hall
  clear hall
  rw [← HN.out] at hi
  by_cases hin : i < n
  ·have hd2 : decide (i < n) = true := decide_eq_true hin
   obtain ⟨b, off, rfl, hc⟩ := str_cell HE.out i (by rw [← HN.out]; exact hin)
   have hil : i < l.length := by rw [← HN.out]; exact hin
   obtain ⟨x, hx⟩ : ∃ x, x = l[i]'hil := ⟨_, rfl⟩
   rw [← hx] at hc
   have HX := Lib.hid hx
   obtain ⟨B, hB⟩ : ∃ B, B = decide ((x.length : Int) < k) := ⟨_, rfl⟩
   have HCL := Lib.hid (pwhole1 q k x w HQ.out B hB)
   clear hx
   cases B with
   | true =>
     have HW := Lib.hid (show wholeW l k = false from by
      have h1 := of_decide_eq_true hB.symm
      unfold wholeW
      rw [List.all_eq_false]
      exact ⟨x, by rw [HX.out]; exact List.getElem_mem hil, by simp only [decide_eq_true_eq]; omega⟩)
     clear hB
     go_wp2_with (go_at_call 69; refine HCL.out.mono ?_; rintro e w1 ⟨rfl, rfl⟩)
     go_ret
     exact ⟨rfl, _, rfl, by rw [HW.out]; exact decide_eq_true (by omega)⟩
   | false =>
     have HSM := Lib.hid (show k ≤ (x.length : Int) from by have h1 := of_decide_eq_false hB.symm; omega)
     clear hB
     go_wp2_with (go_at_call 69; refine HCL.out.mono ?_; rintro e w1 ⟨rfl, rfl⟩)
     refine ⟨⟨i + 1, by rw [← HN.out]; omega, by go_num, fun c hc1 hci => ?_, rfl⟩, by simp [intOf]; omega⟩
     by_cases e : c = i
     ·subst e; rw [← HX.out]; exact HSM.out
     ·exact HA.out c hc1 (by omega)
  ·have hd2 : decide (i < n) = false := decide_eq_false hin
   have HW := Lib.hid (show wholeW l k = true from by
    unfold wholeW
    rw [List.all_eq_true]
    intro x hx
    obtain ⟨c, hc, rfl⟩ := List.getElem_of_mem hx
    exact decide_eq_true (HA.out c hc (by have := HN.out; omega)))
   clear hin
   go_wp2_with fail
   go_ret
   exact ⟨rfl, _, rfl, by rw [HW.out]; rfl⟩
set_option maxRecDepth 100000 in
theorem pwholec (q : Nat) (l : Words) (k : Int) (lv : Value) (w : World) (hq : w.cell? ⟨q, 0, none⟩ = some (.int .i64 k)) (h : strsAt w lv l) :
  Calls Tryz.prog 68 #[lv, .func (.func 69) #[] #[.pointer (some ⟨q, 0, none⟩)]] w fun e w' => e = .returned (.bool (!(wholeW l k))) ∧ w' = w := by
 have HX := Lib.hid (pwholex q l k lv w hq h)
 obtain ⟨a0, c0, rfl, -⟩ := h.form
 obtain ⟨B, hB⟩ : ∃ B, B = !(wholeW l k) := ⟨_, rfl⟩
 rw [← hB] at HX ⊢
 clear hq h hB
 go_enter Tryz.func68, Tryz.ntmps68
 go_wp2_with (go_at_call 106; refine HX.out.mono ?_; rintro e w1 ⟨rfl, r, rfl, hr⟩)
 go_ret
 exact ⟨by rw [← hr]; rfl, rfl⟩
set_option maxRecDepth 100000 in
theorem piswhole (l : Words) (k : Int) (lv : Value) (w : World) (h : strsAt w lv l) :
  Calls Tryz.prog 36 #[lv, .int .i64 k] w fun e w' => e = .returned (.bool (wholeW l k)) ∧ Fr [] w w' := by
 have hf0 := Fr.alloc w (.cells #[.int .i64 k] 3)
 have hb0 := heap_alloc_new w (.cells #[.int .i64 k] 3)
 obtain ⟨w0, hw0⟩ : ∃ w0, w0 = w.alloc (.cells #[.int .i64 k] 3) := ⟨_, rfl⟩
 obtain ⟨q, hq⟩ : ∃ q, q = w.heap.size := ⟨_, rfl⟩
 rw [← hw0] at hf0 hb0
 rw [← hq] at hb0
 have HX := Lib.hid (pwholec q l k lv w0 (by rw [cell_of_heap hb0]; rfl) (h.below hf0))
 obtain ⟨a0, c0, rfl, -⟩ := h.form
 obtain ⟨B, hB⟩ : ∃ B, B = wholeW l k := ⟨_, rfl⟩
 rw [← hB] at HX ⊢
 have HF := Lib.hid hf0
 have HW := Lib.hid hw0
 have HQ := Lib.hid hq
 clear hf0 hb0 hw0 hq h hB
 go_enter Tryz.func36, Tryz.ntmps36
 go_upto_region 1 with fail
 rw [← HW.out, ← HQ.out]
 go_wp2_with (go_at_call 68; refine HX.out.mono ?_; rintro e w1 ⟨rfl, rfl⟩)
 go_ret
 exact ⟨by simp, HF.out⟩
end Go.Proofs.YtnaamjpiaekmeaaGreat
namespace Go.Proofs.YtnaamjpiaekmeaaGreat
open Go.RowKit
structure OfS (ls : List Words) (k : Int) (ss : List Int) (j : Nat) (acc : Words) : Prop where
 set : setW acc
 few : acc.length ≤ 4096
 short : ∀ x ∈ acc, x.length ≤ 4
 most : ∀ x ∈ acc, (x.length : Int) ≤ k
 rest : fofF ls k (ss.drop j) acc = fofG ls k ss
theorem OfS.start (ls : List Words) {k : Int} (hk : 1 ≤ k) (ss : List Int) : OfS ls k ss 0 [[]] := ⟨by unfold setW; simp, by decide, by decide, fun x hx => by rw [List.mem_singleton.1 hx]; simp; omega, rfl⟩
theorem OfS.sh {ls : List Words} {k : Int} {ss : List Int} {j : Nat} {acc : Words} (h : OfS ls k ss j acc) : ShortW acc := ⟨by have := h.few; omega, fun x hx => by have := h.short x hx; omega⟩
theorem OfS.bad {ls : List Words} {k : Int} {ss : List Int} {j : Nat} {acc : Words} (_ : OfS ls k ss j acc) (hj : j < ss.length) (hn : symW ls (ss[j]'hj) = none) : fofG ls k ss = none := fofF_bad ls k ss _ ⟨_, List.getElem_mem hj, hn⟩
theorem cat_short {k : Int} (hk4 : k ≤ 4) (a b : Words) : ∀ x ∈ catW k a b, x.length ≤ 4 := fun x hx => by
 obtain ⟨y, _, z, _, rfl⟩ := mem_catW.1 hx
 unfold cutW
 rw [List.length_take]
 omega
theorem cat_most {k : Int} (hk : 0 ≤ k) (a b : Words) : ∀ x ∈ catW k a b, (x.length : Int) ≤ k := fun x hx => by
 obtain ⟨y, _, z, _, rfl⟩ := mem_catW.1 hx
 unfold cutW
 rw [List.length_take]
 omega
theorem OfS.step {ls : List Words} {k : Int} {ss : List Int} {j : Nat} {acc : Words} (h : OfS ls k ss j acc) (hj : j < ss.length) {m : Words} (hm : symW ls (ss[j]'hj) = some m) :
  fofG ls k ss = if 4096 < (catW k acc m).length then none else fofF ls k (ss.drop (j + 1)) (catW k acc m) := by
 rw [← h.rest, List.drop_eq_getElem_cons hj, fofF, hm]
theorem OfS.over {ls : List Words} {k : Int} {ss : List Int} {j : Nat} {acc : Words} (h : OfS ls k ss j acc) (hj : j < ss.length) {m : Words} (hm : symW ls (ss[j]'hj) = some m) (ho : 4096 < (catW k acc m).length) : fofG ls k ss = none := by
 rw [h.step hj hm, if_pos ho]
theorem OfS.next {ls : List Words} {k : Int} {ss : List Int} {j : Nat} {acc : Words} (h : OfS ls k ss j acc) (hk1 : 1 ≤ k) (hk4 : k ≤ 4) (hj : j < ss.length) {m : Words} (hm : symW ls (ss[j]'hj) = some m) (ho : (catW k acc m).length ≤ 4096) : OfS ls k ss (j + 1) (catW k acc m) :=
 ⟨set_catW k acc m, ho, cat_short hk4 acc m, cat_most (by omega) acc m, by rw [h.step hj hm, if_neg (by omega)]⟩
theorem cat_whole {k : Int} {acc m : Words} (ha : setW acc) (hm : m ≠ []) (hw : wholeW acc k = true) (hl : ∀ x ∈ acc, (x.length : Int) ≤ k) : catW k acc m = acc := by
 have hw2 : ∀ x ∈ acc, k ≤ (x.length : Int) := fun x hx => by
  unfold wholeW at hw
  rw [List.all_eq_true] at hw
  exact of_decide_eq_true (hw x hx)
 have key : ∀ x ∈ acc, ∀ y : List UInt8, cutW (x ++ y) k = x := fun x hx y => by
  have h1 := hw2 x hx
  have h2 := hl x hx
  unfold cutW
  rw [List.take_append, List.take_of_length_le (by omega), show k.toNat - x.length = 0 by omega]
  simp
 refine (set_catW k acc m).one ha (fun x => ?_)
 rw [mem_catW]
 constructor
 ·rintro ⟨y, hy, z, _, rfl⟩
  rw [key y hy]; exact hy
 ·intro hx
  obtain ⟨z, hz⟩ := List.exists_mem_of_ne_nil m hm
  exact ⟨x, hx, z, hz, (key x hx z).symm⟩
theorem OfS.skip {ls : List Words} {k : Int} {ss : List Int} {j : Nat} {acc : Words} (h : OfS ls k ss j acc) (hj : j < ss.length) {m : Words} (hm : symW ls (ss[j]'hj) = some m) (hw : wholeW acc k = true) (hne : m ≠ []) : OfS ls k ss (j + 1) acc := by
 have e := cat_whole h.set hne hw h.most
 refine ⟨h.set, h.few, h.short, h.most, ?_⟩
 rw [h.step hj hm, e, if_neg (by have := h.few; omega)]
theorem OfS.done {ls : List Words} {k : Int} {ss : List Int} {acc : Words} (h : OfS ls k ss ss.length acc) : fofG ls k ss = some acc := by
 rw [← h.rest, List.drop_length]; rfl
def CatNo (w : World) (e : Ending) (w' : World) : Prop := ∃ v, e = .returned (.tuple #[v, .bool false]) ∧ Fr [] w w'
theorem CatGot.not {l : Words} {w w' : World} {e : Ending} (h : CatGot l w e w') (hl : 4096 < l.length) : CatNo w e w' := by
 obtain ⟨v, he, hs, hf⟩ := h
 rw [decide_eq_false (by omega)] at he
 exact ⟨v, he, hf⟩
def OfL (w : World) (ls : List Words) (k : Int) (ss : List Int) (ov wv iv : Value) (wx : World) : Prop := ∃ (j : Nat) (acc : Words), j ≤ ss.length ∧ iv = .int .i64 (j : Int) ∧ wv = .bool (wholeW acc k) ∧ strsAt wx ov acc ∧ OfS ls k ss j acc ∧ Fr [] w wx
set_option maxRecDepth 100000 in
set_option maxHeartbeats 8000000 in
theorem pof_any (hK : ProgWCat) : ProgFof := by
 intro ls lv k ss sv w hk1 hk4 hl hs hsets hint hlen
 obtain ⟨al, cl, rfl, hcl, hml⟩ := hl.form
 obtain ⟨a3, cs, rfl, hcs, hms⟩ := hs.form
 have HL := Lib.hid hl
 have HS := Lib.hid hs
 have HSETS := Lib.hid hsets
 have HINT := Lib.hid hint
 have HCAT := Lib.hid (fun a b v u wx (h1 : strsAt wx v a) (h2 : strsAt wx u b) s1 s2 s3 s4 => hK k a b v u wx (by omega) (by omega) h1 h2 s1 s2 s3 s4)
 have HWH := Lib.hid (fun l lv wx (h : strsAt wx lv l) => piswhole l k lv wx h)
 have HSY := Lib.hid (fun s wx (h : setsAt wx (.slice al ls.length cl) ls) (h1 : -9223372036854775808 ≤ s) (h2 : s ≤ 9223372036854775807) => pofsym ls _ s wx h h1 h2)
 obtain ⟨n, hn⟩ : ∃ n, n = ss.length := ⟨_, rfl⟩
 obtain ⟨N, hN⟩ : ∃ N, N = ls.length := ⟨_, rfl⟩
 rw [← hn] at hcs HS hlen ⊢
 rw [← hN] at hcl HL HSY ⊢
 have HN := Lib.hid hN
 have HNS := Lib.hid hn
 obtain ⟨G, hG⟩ : ∃ G, G = fofG ls k ss := ⟨_, rfl⟩
 have HG := Lib.hid hG
 rw [← hG]
 clear hl hs hsets hint hK hn hN hG
 go_enter Tryz.func17, Tryz.ntmps17
 go_upto_region 2 with fail
 have hf0 := Fr.alloc w (.cells #[.string ⟨#[]⟩] 9)
 have hs0 := strs_one w []
 change strsAt (w.alloc (.cells #[.string ⟨#[]⟩] 9)) _ _ at hs0
 obtain ⟨w0, hw0⟩ : ∃ w0, w0 = w.alloc (.cells #[.string ⟨#[]⟩] 9) := ⟨_, rfl⟩
 rw [← hw0] at hf0 hs0 ⊢
 obtain ⟨v0, hv0⟩ : ∃ v0, v0 = Value.slice (some ⟨w.heap.size, 0, none⟩) 1 1 := ⟨_, rfl⟩
 rw [← hv0] at hs0 ⊢
 have HF0 := Lib.hid hf0
 have HS0 := Lib.hid hs0
 have HWH0 := Lib.hid (HWH.out [[]] v0 w0 hs0)
 obtain ⟨W0, hW0⟩ : ∃ W0, W0 = wholeW [[]] k := ⟨_, rfl⟩
 rw [← hW0] at HWH0
 have HW0 := Lib.hid hW0
 clear hw0 hf0 hs0 hv0 hW0
 go_wp2_with (go_at_call 36; refine HWH0.out.mono ?_; rintro e w1 ⟨rfl, hf1⟩; have HF1 := Lib.hid hf1; clear hf1)
 go_loopw [8, 9, 20] (OfL w1 ls k ss) (fun _ _ iv _ => n - (intOf iv).toNat)
 case atStart => exact ⟨0, [[]], Nat.zero_le _, rfl, by rw [HW0.out], HS0.out.below HF1.out, OfS.start ls hk1 ss, Fr.refl _ _⟩
 case round =>
  obtain ⟨j, acc, hj, rfl, rfl, hov, hst, hfr⟩ := hrel
  rw [← HNS.out] at hj
  have HST := Lib.hid hst
  have HOV := Lib.hid hov
  have HFR := Lib.hid ((HF0.out.tr0 HF1.out).tr0 hfr)
  have HF1R := Lib.hid hfr
  by_cases hjn : j < n
  ·have hd1 : decide (j < n) = true := decide_eq_true hjn
   have hjl : j < ss.length := by rw [← HNS.out]; exact hjn
   obtain ⟨bs, os, es, hcell⟩ := int_cell (HS.out.below HFR.out) j hjl
   subst es
   have hr := HINT.out _ (List.getElem_mem hjl)
   have HBAD := Lib.hid (fun h => hst.bad hjl h)
   have HOVR := Lib.hid (fun m h ho => hst.over hjl (m := m) h ho)
   have HNXT := Lib.hid (fun m h ho => hst.next hk1 hk4 hjl (m := m) h ho)
   have HSKP := Lib.hid (fun m h hw hne => hst.skip hjl (m := m) h hw hne)
   have hst0 := hst.set
   have hst1 := hst.sh
   obtain ⟨s, hs⟩ : ∃ s, s = ss[j]'hjl := ⟨_, rfl⟩
   rw [← hs] at hcell hr HBAD HOVR HNXT HSKP
   obtain ⟨hr1, hr2⟩ := hr
   have HSET := Lib.hid hst0
   have HSH := Lib.hid hst1
   have HSYs := Lib.hid (HSY.out s wr (HL.out.below HFR.out) hr1 hr2)
   obtain ⟨W, hW⟩ : ∃ W, W = wholeW acc k := ⟨_, rfl⟩
   rw [← hW] at HSKP ⊢
   have HWE := Lib.hid hW
   have HSNG := Lib.hid (show ∀ m, symW ls s = some m → setW m ∧ ShortW m from fun m hm => by
    unfold symW at hm
    split at hm
    ·split at hm
     ·obtain rfl := Option.some.inj hm
      exact ⟨by unfold setW; simp, by show 1 ≤ 100000; decide, fun x hx => by rw [List.mem_singleton.1 hx]; show 1 ≤ 1000; decide⟩
     ·cases hm
    ·exact HSETS.out m (List.mem_of_getElem? hm))
   clear hst hov hfr hs hst0 hst1 hW
   cases hsy : symW ls s with
   | none =>
     have HE := Lib.hid (show G = none by rw [HG.out]; exact HBAD.out hsy)
     rw [hsy] at HSYs
     clear hsy
     go_wp2_with (go_at_call 37; refine HSYs.out.mono ?_; rintro e w2 ⟨v2, rfl, hs2, hf2⟩)
     go_ret2
     exact ⟨_, by rw [HE.out]; rfl, by rw [HE.out]; exact cellsAt.nil _, HFR.out.tr0 hf2⟩
   | some m =>
     obtain ⟨sm1, sm2⟩ := HSNG.out m hsy
     have HE := Lib.hid (fun h => (HG.out.trans (HOVR.out m hsy h)))
     have HX := Lib.hid (HNXT.out m hsy)
     have HK2 := Lib.hid (HSKP.out m hsy)
     have HM1 := Lib.hid sm1
     have HM2 := Lib.hid sm2
     rw [hsy] at HSYs
     have HSYm := Lib.hid (show Calls Tryz.prog 37 #[.slice al N cl, .int .i64 s] wr fun e w' => ∃ a c, e = .returned (.tuple #[.slice a m.length c, .bool true]) ∧ strsAt w' (.slice a m.length c) m ∧ Fr [] wr w' from HSYs.out.mono (by
      rintro e w' ⟨v, rfl, h1, h2⟩
      obtain ⟨a, c, rfl, -, -⟩ := h1.form
      exact ⟨a, c, rfl, h1, h2⟩))
     obtain ⟨nm, hnm⟩ : ∃ nm, nm = m.length := ⟨_, rfl⟩
     rw [← hnm] at HSYm
     have HNM := Lib.hid hnm
     clear hsy sm1 sm2 HSYs hnm
     by_cases hskip : W = true ∧ 0 < nm
     ·obtain ⟨hw, hm0⟩ := hskip
      subst hw
      have hd2 : decide (0 < nm) = true := decide_eq_true hm0
      have HNX := Lib.hid (HK2.out rfl (fun e => by have := HNM.out; rw [e] at this; simp at this; omega))
      clear hm0
      go_wp2_with (go_at_call 37; refine HSYm.out.mono ?_; rintro e w2 ⟨a5, c5, rfl, hs2, hf2⟩; have HF2 := Lib.hid hf2; clear hs2 hf2)
      go_roundw
      case rel => exact ⟨j + 1, acc, by rw [← HNS.out]; omega, by go_num, by rw [HWE.out], HOV.out.below HF2.out, HNX.out, HF1R.out.tr0 HF2.out⟩
      case measure => simp [intOf]; omega
     ·cases W with
      | true =>
        have hm0 : ¬ 0 < nm := fun h => hskip ⟨rfl, h⟩
        have hd2 : decide (0 < nm) = false := decide_eq_false hm0
        clear hskip hm0
        have HOVW := HOV
        by_cases ho : 4096 < (catW k acc m).length
        ·have HE2 := Lib.hid (HE.out ho)
         have hcc : Hid (∀ (u : Value) (wx : World), Fr [] wr wx → strsAt wx u m → Calls Tryz.prog 38 #[.int .i64 k, u8, u] wx (CatNo wx)) := Lib.hid (fun u wx hf hu => (HCAT.out acc m u8 u wx (HOV.out.below hf) hu HSET.out HM1.out HSH.out HM2.out).mono fun _ _ h => h.not ho)
         clear ho
         go_wp2_with (first
          | (go_at_call 37; refine HSYm.out.mono ?_; rintro e w2 ⟨a5, c5, rfl, hs2, hf2⟩; have HF2 := Lib.hid hf2; have HCC := Lib.hid (hcc.out _ w2 hf2 hs2); clear hs2 hf2)
          | (go_at_call 38; refine HCC.out.mono ?_; rintro e w5 ⟨v5, rfl, hf5⟩; have HF5 := Lib.hid hf5; clear hf5))
         go_ret2
         exact ⟨_, by rw [HE2.out]; rfl, by rw [HE2.out]; exact cellsAt.nil _, (HFR.out.tr0 HF2.out).tr0 HF5.out⟩
        ·have HX2 := Lib.hid (HX.out (Nat.le_of_not_lt ho))
         have hcc : Hid (∀ (u : Value) (wx : World), Fr [] wr wx → strsAt wx u m → Calls Tryz.prog 38 #[.int .i64 k, u8, u] wx (CatYes (catW k acc m) wx)) := Lib.hid (fun u wx hf hu => (HCAT.out acc m u8 u wx (HOV.out.below hf) hu HSET.out HM1.out HSH.out HM2.out).mono fun _ _ h => h.yes (Nat.le_of_not_lt ho))
         obtain ⟨acc2, hacc2⟩ : ∃ x, x = catW k acc m := ⟨_, rfl⟩
         rw [← hacc2] at HX2 hcc
         obtain ⟨W2, hW2⟩ : ∃ W, W = wholeW acc2 k := ⟨_, rfl⟩
         have HW2 := Lib.hid hW2
         have HWH2 := Lib.hid (fun v wx (h : strsAt wx v acc2) => HWH.out acc2 v wx h)
         rw [← hW2] at HWH2
         clear ho hacc2 hW2
         go_wp2_with (first
          | (go_at_call 37; refine HSYm.out.mono ?_; rintro e w2 ⟨a5, c5, rfl, hs2, hf2⟩; have HF2 := Lib.hid hf2; have HCC := Lib.hid (hcc.out _ w2 hf2 hs2); clear hs2 hf2)
          | (go_at_call 38; refine HCC.out.mono ?_; rintro e w5 ⟨v5, rfl, hs5, hf5⟩; have HS5 := Lib.hid hs5; have HF5 := Lib.hid hf5; have HW5 := Lib.hid (HWH2.out v5 w5 hs5); clear hs5 hf5)
          | (go_at_call 36; refine HW5.out.mono ?_; rintro e w6 ⟨rfl, hf6⟩; have HF6 := Lib.hid hf6; clear hf6))
         go_roundw
         case rel => exact ⟨j + 1, acc2, by rw [← HNS.out]; omega, by go_num, by rw [HW2.out], HS5.out.below HF6.out, HX2.out, ((HF1R.out.tr0 HF2.out).tr0 HF5.out).tr0 HF6.out⟩
         case measure => simp [intOf]; omega
      | false =>
        clear hskip
        have HOVW := HOV
        by_cases ho : 4096 < (catW k acc m).length
        ·have HE2 := Lib.hid (HE.out ho)
         have hcc : Hid (∀ (u : Value) (wx : World), Fr [] wr wx → strsAt wx u m → Calls Tryz.prog 38 #[.int .i64 k, u8, u] wx (CatNo wx)) := Lib.hid (fun u wx hf hu => (HCAT.out acc m u8 u wx (HOV.out.below hf) hu HSET.out HM1.out HSH.out HM2.out).mono fun _ _ h => h.not ho)
         clear ho
         go_wp2_with (first
          | (go_at_call 37; refine HSYm.out.mono ?_; rintro e w2 ⟨a5, c5, rfl, hs2, hf2⟩; have HF2 := Lib.hid hf2; have HCC := Lib.hid (hcc.out _ w2 hf2 hs2); clear hs2 hf2)
          | (go_at_call 38; refine HCC.out.mono ?_; rintro e w5 ⟨v5, rfl, hf5⟩; have HF5 := Lib.hid hf5; clear hf5))
         go_ret2
         exact ⟨_, by rw [HE2.out]; rfl, by rw [HE2.out]; exact cellsAt.nil _, (HFR.out.tr0 HF2.out).tr0 HF5.out⟩
        ·have HX2 := Lib.hid (HX.out (Nat.le_of_not_lt ho))
         have hcc : Hid (∀ (u : Value) (wx : World), Fr [] wr wx → strsAt wx u m → Calls Tryz.prog 38 #[.int .i64 k, u8, u] wx (CatYes (catW k acc m) wx)) := Lib.hid (fun u wx hf hu => (HCAT.out acc m u8 u wx (HOV.out.below hf) hu HSET.out HM1.out HSH.out HM2.out).mono fun _ _ h => h.yes (Nat.le_of_not_lt ho))
         obtain ⟨acc2, hacc2⟩ : ∃ x, x = catW k acc m := ⟨_, rfl⟩
         rw [← hacc2] at HX2 hcc
         obtain ⟨W2, hW2⟩ : ∃ W, W = wholeW acc2 k := ⟨_, rfl⟩
         have HW2 := Lib.hid hW2
         have HWH2 := Lib.hid (fun v wx (h : strsAt wx v acc2) => HWH.out acc2 v wx h)
         rw [← hW2] at HWH2
         clear ho hacc2 hW2
         go_wp2_with (first
          | (go_at_call 37; refine HSYm.out.mono ?_; rintro e w2 ⟨a5, c5, rfl, hs2, hf2⟩; have HF2 := Lib.hid hf2; have HCC := Lib.hid (hcc.out _ w2 hf2 hs2); clear hs2 hf2)
          | (go_at_call 38; refine HCC.out.mono ?_; rintro e w5 ⟨v5, rfl, hs5, hf5⟩; have HS5 := Lib.hid hs5; have HF5 := Lib.hid hf5; have HW5 := Lib.hid (HWH2.out v5 w5 hs5); clear hs5 hf5)
          | (go_at_call 36; refine HW5.out.mono ?_; rintro e w6 ⟨rfl, hf6⟩; have HF6 := Lib.hid hf6; clear hf6))
         go_roundw
         case rel => exact ⟨j + 1, acc2, by rw [← HNS.out]; omega, by go_num, by rw [HW2.out], HS5.out.below HF6.out, HX2.out, ((HF1R.out.tr0 HF2.out).tr0 HF5.out).tr0 HF6.out⟩
         case measure => simp [intOf]; omega
  ·have hd1 : decide (j < n) = false := decide_eq_false hjn
   obtain rfl : j = n := by omega
   have HE := Lib.hid (show G = some acc by rw [HG.out]; have h := hst; rw [HNS.out] at h; exact h.done)
   clear hst hov hfr
   go_wp2_with fail
   go_ret2
   exact ⟨_, by rw [HE.out]; rfl, by rw [HE.out]; exact HOV.out, HFR.out⟩
end Go.Proofs.YtnaamjpiaekmeaaGreat
