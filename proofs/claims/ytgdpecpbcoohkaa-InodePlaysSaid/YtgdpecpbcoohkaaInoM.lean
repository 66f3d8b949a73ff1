/- What the statements of layer 8 call beside inode: do, the acts that turn a bit; do as one. -/
import Derived.Test.YtgdpecpbcoohkaaInoK
import Derived.Test.YtgdpecpbcoohkaaInoL
namespace Go.Proofs.Ytgdpecpbcoohkaa
open Go.RowKit

theorem inB_lt (n : Nat) (bit : Int) (h : ¬ bit < 0) : inB n bit = decide (bit < 8 * (n : Int)) := by
  unfold inB
  by_cases h2 : bit < 8 * (n : Int)
  · rw [decide_eq_true h2, decide_eq_true ⟨by omega, h2⟩]
  · rw [decide_eq_false h2, decide_eq_false (fun q => h2 q.2)]
set_option maxHeartbeats 1000000 in
set_option maxRecDepth 100000 in
theorem do_flip (p g s : Nat) (now : List UInt8) (nv sv : Value) (a : ADat) (w : World) (hF : isF w p g now s) (hD : isDA w p g nv sv now s) (ha : a.ok w) (hk0 : a.kind ≠ 0) (hk1 : a.kind ≠ 1) (hk2 : a.kind ≠ 2) (hl : now.length ≤ 1000000) :
    Calls Try.prog 9 #[.pointer (some ⟨p, 0, none⟩), .agg #[nv, sv], a.val] w (Did w p g (flipC now a.n) s) := by
  have hs := hD.1.2.2
  have hplt := hF.lt
  have hsl : (now.take s).length = s := by simp; omega
  have hn64 := ha.2.2
  have HIF := Lib.hid (fun wx (hx : isF wx p g now s) => iflip_any p g s now a.n wx hx (by omega) hn64.2)
  have HRF := Lib.hid (fun wx (hx : bytesAt wx nv now) => ref_flip_any now a.n nv wx hx hl)
  have hlen := flipC_length now a.n
  obtain ⟨C, hC⟩ : ∃ C, C = flipC now a.n := ⟨_, rfl⟩
  obtain ⟨T, hT⟩ : ∃ T, T = inB now.length a.n := ⟨_, rfl⟩
  rw [← hC] at hlen HIF HRF ⊢
  rw [← hT] at HIF
  have HT := Lib.hid hT
  have HD := Lib.hid hD
  have HF := Lib.hid hF
  have HLEN := Lib.hid hlen
  obtain ⟨⟨h1, h2, h3⟩, hap1, hap2⟩ := hD
  obtain ⟨ha1, ha2, ha3⟩ := ha
  obtain ⟨a0, c0, rfl, -, -⟩ := h1.form
  obtain ⟨a1, c1, rfl, -, -⟩ := h2.form
  unfold ADat.val
  obtain ⟨kind, bv, b, n, cv, cuts⟩ := a
  simp only at ha1 ha2 hk0 hk1 hk2 hn64 HT HIF HRF ⊢
  obtain ⟨a2, c2, rfl, -, -⟩ := ha1.form
  obtain ⟨a3, c3, rfl, -, -⟩ := ha2.form
  rw [List.length_map] at *
  rw [List.length_take, Nat.min_eq_left h3] at *
  obtain ⟨hf3, hB1, hB2, hB3, hs3⟩ := do_boxes w #[.slice a0 now.length c0, .slice a1 s c1] #[.int .i64 kind, .slice a2 b.length c2, .int .i64 n, .slice a3 cuts.length c3] #[.slice none 0 0, .slice none 0 0] 29 34
  obtain ⟨w3, hw3⟩ : ∃ w3, w3 = ((w.alloc (.cells #[.slice a0 now.length c0, .slice a1 s c1] 29)).alloc (.cells #[.int .i64 kind, .slice a2 b.length c2, .int .i64 n, .slice a3 cuts.length c3] 34)).alloc (.cells #[.slice none 0 0, .slice none 0 0] 29) := ⟨_, rfl⟩
  rw [← hw3] at hf3 hB1 hB2 hB3 hs3
  have HRF3 := Lib.hid (HRF.out w3 (HD.out.1.1.below hf3))
  have HW := Lib.hid hw3
  have HB1 := Lib.hid hB1
  have HB2 := Lib.hid hB2
  have HB3 := Lib.hid hB3
  have HS3 := Lib.hid hs3
  have HF3 := Lib.hid hf3
  have e0 : (kind == 0) = false := by rw [beq_eq_false_iff_ne]; exact hk0
  have e1 : (kind == 1) = false := by rw [beq_eq_false_iff_ne]; exact hk1
  have e2 : (kind == 2) = false := by rw [beq_eq_false_iff_ne]; exact hk2
  clear h1 h2 h3 hap1 hap2 ha1 ha2 hw3 hf3 hB1 hB2 hB3 hs3 HRF hC hT hlen hs hsl hk0 hk1 hk2
  go_enter Try.func9, Try.ntmps9
  go_upto_region 9 with fail
  rw [← HW.out]
  have hc0 := cell_of_heap HB1.out 0
  have hc1 := cell_of_heap HB1.out 1
  have hd2 := cell_of_heap HB2.out 2
  go_cut [9] (fun s9 wx => s9 = .bool T ∧ w3 = wx)
  case first =>
    by_cases hn0 : n < 0
    · have hd : decide (0 ≤ n) = false := decide_eq_false (by omega)
      have HTT := Lib.hid (show T = false by rw [HT.out]; exact decide_eq_false (by omega))
      clear hn0
      go_wp2_with fail
      go_meet
      exact ⟨by rw [HTT.out], rfl⟩
    · have hd : decide (0 ≤ n) = true := decide_eq_true (by omega)
      have HTT := Lib.hid (show T = decide (n < 8 * (now.length : Int)) by rw [HT.out]; exact inB_lt _ _ hn0)
      clear hn0
      go_wp2_with fail
      go_meet
      exact ⟨by rw [HTT.out], rfl⟩
  case rest =>
    obtain ⟨rfl, rfl⟩ := hcut
    go_wp2_with (go_at_call 21; refine HRF3.out.mono ?_; rintro e w4 ⟨v4, rfl, hb4, hk4, hf4⟩; obtain ⟨x4, y4, rfl, hxy4, hym4⟩ := hb4.form)
    have hsC : s ≤ C.length := by have := HLEN.out; have := HD.out.1.2.2; omega
    have hsy : s ≤ y4 := by omega
    have hym : y4 ≤ 9223372036854775807 := by simpa [maxLen] using hym4
    have HTB := Lib.hid (hb4.take hsC)
    refine wp_region_W [p, g, w.heap.size + 1 + 1] [(0, false), (1, false), (2, false), (3, false), (4, false), (5, false), (6, false), (7, false), (8, false), (9, false), (11, false), (10, true), (12, false), (13, true), (14, false)] 90 rfl (by kernel_rfl) (by kernel_rfl) (by kernel_rfl) (fun c a d v w h => by cases d <;> exact h) ?_
    simp only [List.map_cons, List.map_nil, List.getElem?_toArray, List.getElem?_cons_succ, List.getElem?_cons_zero, Option.getD_some]
    have hf34 : Fr [] w3 w4.drew := hf4.andDrew
    have hb4d := hb4.below (Fr.drew w4)
    have htb := HTB.out.below (Fr.drew w4)
    clear HTB
    obtain ⟨wd, hwd⟩ : ∃ wd, wd = w4.drew := ⟨_, rfl⟩
    rw [← hwd] at hf34 hb4d htb ⊢
    clear hb4 hf4 hwd hc0 hc1 hd2
    have HF34 := Lib.hid hf34
    have LB1 : Hid (Later [p, g, w.heap.size + 1 + 1] wd (fun w' => w'.heap[w.heap.size]? = some (.cells #[.slice a0 now.length c0, .slice a1 s c1] 29 (0, 0)))) := Lib.hid (fun w' hf' => hf'.heap (HF34.out.heap HB1.out (by simp)) (by simp; omega))
    have LB2 : Hid (Later [p, g, w.heap.size + 1 + 1] wd (fun w' => w'.heap[w.heap.size + 1]? = some (.cells #[.int .i64 kind, .slice a2 b.length c2, .int .i64 n, .slice a3 cuts.length c3] 34 (0, 0)))) := Lib.hid (fun w' hf' => hf'.heap (HF34.out.heap HB2.out (by simp)) (by simp; omega))
    have HK4 := Lib.hid hk4
    have HB4 := Lib.hid hb4d
    have HTB := Lib.hid htb
    clear hf34 hk4 hb4d htb
    repeat (apply wpG_t; · (intro w' hf'; have c2 : w'.cell? ⟨w.heap.size, 1, none⟩ = _ := cell_of_heap (LB1.out w' hf') 1; have c5 : w'.cell? ⟨w.heap.size + 1, 2, none⟩ = _ := cell_of_heap (LB2.out w' hf') 2; go_wp2_with fail; exact ⟨rfl, rfl⟩))
    have hf0d : Fr [] w wd := HF3.out.trans HF34.out (by simp) (by simp)
    have hif := HIF.out wd (HF.out.below hf0d)
    have HIF2 := Lib.hid hif
    have HF0D := Lib.hid hf0d
    clear hif hf0d
    refine wpG_x ?_
    go_wp2_with (go_at_call 22; refine HIF2.out.mono ?_; rintro e w5 ⟨rfl, hF5, hf5⟩)
    refine ⟨hf5.mono (by simp), rfl, ?_⟩
    repeat (apply wpG_t; · (intro w' hf'; go_wp2_with fail; exact ⟨rfl, rfl⟩))
    have hh5 : w5.heap[w.heap.size + 1 + 1]? = _ := hf5.heap (HF34.out.heap HB3.out (by simp)) (by simp; omega)
    obtain ⟨hr0, hr1, hz0', hz1'⟩ := two_of_heap hh5
    refine wpG_x ?_
    go_wp2_with fail
    have hfs := Fr.set2 w5 (w.heap.size + 1 + 1) (.slice x4 C.length y4) (.slice x4 s y4)
    refine ⟨hfs.mono (by simp), rfl, ?_⟩
    clear hr0 hr1 hz0' hz1'
    repeat (apply wpG_t; · (intro w' hf'; go_wp2_with fail; exact ⟨rfl, rfl⟩))
    refine wpG_end ?_
    go_wp2_with fail
    refine bodyPost_ret (results_cell2 rfl _ _ (w.heap.size + 1 + 1) 29 #[.slice x4 C.length y4, .slice x4 s y4] _ rfl (heap_set2 hh5) Try.underlying29 rfl sizeFile _ rfl) rfl ?_
    have hf5' : Fr [p, g] wd w5 := hf5.mono (by simp)
    have hf05 : Fr [p, g] w w5 := HF0D.out.trans hf5' (by simp) (fun _ hk _ => hk)
    have hfz := hf05.trans hfs (n := [p, g]) (fun _ hk _ => hk) (by simp; omega)
    have hav : ∀ bs, apartV p g (.slice x4 C.length y4) bs := fun bs _ k hk => by have := HK4.out k hk; have := HS3.out; omega
    have hav2 : ∀ bs, apartV p g (.slice x4 s y4) bs := fun bs _ k hk => by
      have hk' : (Value.slice x4 C.length y4).ownBlock = some k := by rw [← hk]; cases x4 <;> rfl
      have := HK4.out k hk'; have := HS3.out; omega
    have hb5 := (HB4.out.keptV hf5' (hav _)).kept hfs (fun k hk _ _ => by have := HK4.out k hk; have := HS3.out; simp; omega)
    have hb6 := (HTB.out.keptV hf5' (hav2 _)).kept hfs (fun k hk _ _ => by
      have hk' : (Value.slice x4 C.length y4).ownBlock = some k := by rw [← hk]; cases x4 <;> rfl
      have := HK4.out k hk'; have := HS3.out; simp; omega)
    exact ⟨g, _, _, rfl, hF5.kept hfs (by simp; omega) (by simp; omega), ⟨⟨hb5, hb6, hsC⟩, hav _, hav2 _⟩, hfz, .inl rfl⟩

/-- The file behind an act. -/
def nextN (now : List UInt8) (s : Nat) (a : ADat) : List UInt8 :=
  if a.kind = 0 then now ++ a.b else if a.kind = 1 then now else if a.kind = 2 then crashC now s a.n a.cuts else flipC now a.n
def nextS (now : List UInt8) (s : Nat) (a : ADat) : Nat :=
  if a.kind = 0 then s else if a.kind = 1 then now.length else if a.kind = 2 then s + sizeC now.length s a.n else s
theorem nextN_le (now : List UInt8) (s : Nat) (a : ADat) (hs : s ≤ now.length) (hb : a.b.length ≤ 100) : (nextN now s a).length ≤ now.length + 100 := by
  have hz := sizeC_le now.length s a.n
  unfold nextN
  split
  · simp; omega
  · split
    · omega
    · split
      · rw [crashC_length _ _ _ _ hs]; omega
      · rw [flipC_length]; omega
theorem do_any (p g s : Nat) (now : List UInt8) (nv sv : Value) (a : ADat) (w : World) (hF : isF w p g now s) (hD : isDA w p g nv sv now s) (ha : a.ok w) (hap : apartV p g a.bv a.b) (hapc : apartC p g a) (hf : fewA a) (hl : now.length ≤ 100000) :
    Calls Try.prog 9 #[.pointer (some ⟨p, 0, none⟩), .agg #[nv, sv], a.val] w (Did w p g (nextN now s a) (nextS now s a)) := by
  have h1 := hf.1
  have h2 := hf.2
  unfold nextN nextS
  by_cases k0 : a.kind = 0
  · rw [if_pos k0, if_pos k0]; exact do_append p g s now nv sv a w hF hD ha hap k0 (by omega)
  · rw [if_neg k0, if_neg k0]
    by_cases k1 : a.kind = 1
    · rw [if_pos k1, if_pos k1]; exact do_sync p g s now nv sv a w hF hD ha k1
    · rw [if_neg k1, if_neg k1]
      by_cases k2 : a.kind = 2
      · rw [if_pos k2, if_pos k2]; exact do_crash p g s now nv sv a w hF hD ha hap hapc k2 (by omega) (by omega)
      · rw [if_neg k2, if_neg k2]; exact do_flip p g s now nv sv a w hF hD ha k0 k1 k2 (by omega)
end Go.Proofs.Ytgdpecpbcoohkaa
