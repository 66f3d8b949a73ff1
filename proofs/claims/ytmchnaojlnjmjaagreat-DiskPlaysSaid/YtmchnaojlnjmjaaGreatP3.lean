/- Several texts in one: DskPm, DskPw, DskPo. -/
import Derived.Lib.SlBytesConst
import Derived.Test.YtmchnaojlnjmjaaGreatP2
import Derived.Test.YtmchnaojlnjmjaaGreatDskDo
import Derived.Test.YtmchnaojlnjmjaaGreatDskAw
import Derived.Test.YtmchnaojlnjmjaaGreatBs
import Derived.Test.YtmchnaojlnjmjaaGreatDskO
import Derived.Test.YtmchnaojlnjmjaaGreatFltSteps
/-! The program's disk (layer 11): its methods, as one. -/
namespace Go.Proofs.YtmchnaojlnjmjaaGreat
open Go.RowKit Go.Maps

theorem prog_m : ProgM PK where
  kept := fun h hf hB => pk_kept h hf hB
  lt := fun h => pk_lt h
  met := fun h => pk_met h
  create := fun m hp hk hk4 _ hm => pcreate_any m hp hk hk4 hm
  append := fun m b pv bv hp hk hk4 _ hm hb hpv hbv h1 h2 => pappend_any m b pv bv hp hk hk4 hm hb hpv hbv h1 h2
  sync := fun m hp hk hk4 _ hm => psync_any m hp hk hk4 hm
  syncDir := fun hp hk hk4 _ => psyncDir_any hp hk hk4
  move := fun m n hp hk hk4 _ hm hn => pmove_any m n hp hk hk4 hm hn
  drop := fun m hp hk hk4 _ hm => pdrop_any m hp hk hk4 hm
  arm := fun fv a i hp hk hk4 _ hfv _ _ _ _ hfb => parm_any fv a i hp hk hk4 hfv hfb
  fall := fun hp _ _ _ => pfall_any hp
  up := fun ks sizes cuts kv zv cv hp hk hk4 _ h1 h2 h3 h4 h5 h6 h7 => pup_any ks sizes cuts kv zv cv hp hk hk4 h1 h2 h3 h4 h5 h6 h7
  flip := fun m bit hp hk hk4 _ hm _ h2 => pflip_any m bit hp hk hk4 hm h2
end Go.Proofs.YtmchnaojlnjmjaaGreat

/-! The statements' awake (layer 11). -/
namespace Go.Proofs.YtmchnaojlnjmjaaGreat
open Go.RowKit Go.Maps

theorem encA : encStr [97] = .string { data := #[97] } := rfl
theorem encB : encStr [98] = .string { data := #[98] } := rfl
/-- A row of one slice of bytes, both new. -/
theorem args_new (w : World) (bs : List UInt8) (cs : Array Value) (fr : Nat × Nat) (n : Nat) (hn : n = bs.length) (hb : bs.length ≤ 100) (hcs : cs = (cellsB bs).toArray) :
    cellsAt ((w.alloc (.cells cs 5 fr)).alloc (.cells #[.slice (some ⟨w.heap.size, 0, none⟩) n n] 38)) (.slice (some ⟨w.heap.size + 1, 0, none⟩) 1 1) [.slice (some ⟨w.heap.size, 0, none⟩) n n] ∧ bytesAt ((w.alloc (.cells cs 5 fr)).alloc (.cells #[.slice (some ⟨w.heap.size, 0, none⟩) n n] 38)) (.slice (some ⟨w.heap.size, 0, none⟩) n n) bs ∧
    Fr [] w ((w.alloc (.cells cs 5 fr)).alloc (.cells #[.slice (some ⟨w.heap.size, 0, none⟩) n n] 38)) := by
  have h1 := cellsAt_new (w.alloc (.cells cs 5 fr)) [.slice (some ⟨w.heap.size, 0, none⟩) n n] 38 1 rfl (by simp [maxLen])
  rw [World.size_alloc] at h1
  exact ⟨h1, (bytesAt_marked w bs 5 fr n hn (by simp [maxLen]; omega) cs hcs).below (Fr.alloc _ _), (Fr.alloc _ _).trans (Fr.alloc _ _) (by simp) (by simp)⟩
set_option maxRecDepth 100000 in
set_option maxHeartbeats 2000000 in
theorem awake_any (w : World) : Calls Tryz.prog 5 #[] w fun e w' => e = .returned (.bool true) ∧ Fr [] w w' := by
  have kc := fun (w : World) (C : Array Value) (n c : Nat) => Lib.run_convert_bytes_const (P := Tryz.prog) w 38 5 C n c Tryz.underlying38 Tryz.underlying5
  go_enter Tryz.func5, Tryz.ntmps5
  go_upto_region 2 with (go_at_call 6; refine (pnew_any 100 _ (by omega) (by omega)).mono ?_; rintro e w1 ⟨px, pm, B, rfl, hp1, hf1, hB1⟩)
  go_upto_region 3 with (go_at_call 6; refine (pnew_any 3 _ (by omega) (by omega)).mono ?_; rintro e w2 ⟨qx, qm, E, rfl, hp2, hf2, hE2⟩)
  have hT : TwoPK PK w px pm (aw0 100) B qx qm (aw0 3) E w2 := ⟨pk_kept hp1 hf2 (by simp), hp2, fun j hj hm => by have h1 := pk_lt hp1 j hj; have h2 := hE2 j hm; omega, hB1, fun j hj => by have := hE2 j hj; have := hf1.size; omega, hf1.trans hf2 (by simp) (by simp)⟩
  have HT2 := Lib.hid hT
  clear hp1 hf1 hB1 hp2 hf2 hE2 hT
  go_upto_region 5 with fail
  have hc := pcreate_any [97] HT2.out.pk (aw_ok 100) (by omega) (by simp [maxLen])
  rw [encA] at hc
  have HC := Lib.hid hc
  clear hc
  go_upto_region 6 with (go_at_call 14; refine HC.out.mono ?_; rintro e w3 ⟨B3, rfl, hp3, hf3, hB3⟩)
  have HT3 := Lib.hid (show TwoPK PK w px pm aw1 B3 qx qm (aw0 3) E w3 from HT2.out.step prog_m hp3 hf3 hB3)
  clear hp3 hf3 hB3 HC HT2
  obtain ⟨hq1, hq2, hq3⟩ := args_new w3 [120, 121] #[.int .u8 120, .int .u8 121] (2, 3) 2 rfl (by decide) rfl
  have hap := pappend_any [97] [120, 121] _ _ (HT3.out.same prog_m hq3).pk aw1_ok (by omega) (by simp [maxLen]) (by simp) hq1 hq2 (fun j hj hm => by
      have h1 := pk_lt HT3.out.pk j hm
      simp only [Value.ownBlock, Option.some.injEq] at hj
      omega) (fun j hj _ hm => by
      have h1 := pk_lt HT3.out.pk j hm
      simp only [Value.ownBlock, Option.some.injEq] at hj
      omega)
  rw [encA] at hap
  have HAP := Lib.hid hap
  have HQ3 := Lib.hid hq3
  clear hap hq1 hq2 hq3
  go_upto_region 7 with (go_at_call 15; refine HAP.out.mono ?_; rintro e w4 ⟨B4, rfl, hp4, hf4, hB4⟩)
  have HT4 := Lib.hid (show TwoPK PK w px pm aw2 B4 qx qm (aw0 3) E w4 from (HT3.out.same prog_m HQ3.out).step prog_m hp4 hf4 hB4)
  clear hp4 hf4 hB4 HAP HQ3 HT3
  have hs := psync_any [97] HT4.out.pk aw2_ok (by omega) (by simp [maxLen])
  rw [encA] at hs
  have HS := Lib.hid hs
  clear hs
  go_upto_region 8 with (go_at_call 16; refine HS.out.mono ?_; rintro e w5 ⟨B5, rfl, hp5, hf5, hB5⟩)
  have HT5 := Lib.hid (show TwoPK PK w px pm aw3 B5 qx qm (aw0 3) E w5 from HT4.out.step prog_m hp5 hf5 hB5)
  clear hp5 hf5 hB5 HS HT4
  have hc := pcreate_any [98] HT5.out.pk aw3_ok (by omega) (by simp [maxLen])
  rw [encB] at hc
  have HC := Lib.hid hc
  clear hc
  go_upto_region 9 with (go_at_call 14; refine HC.out.mono ?_; rintro e w6 ⟨B6, rfl, hp6, hf6, hB6⟩)
  have HT6 := Lib.hid (show TwoPK PK w px pm aw4 B6 qx qm (aw0 3) E w6 from HT5.out.step prog_m hp6 hf6 hB6)
  clear hp6 hf6 hB6 HC HT5
  have hfa := Fr.alloc w6 (.cells #[.bool true, .bool true] 4)
  have hks : cellsAt (w6.alloc (.cells #[.bool true, .bool true] 4)) (.slice (some ⟨w6.heap.size, 0, none⟩) 2 2) (([true, true] : List Bool).map Value.bool) := cellsAt_new w6 [.bool true, .bool true] 4 2 rfl (by simp [maxLen])
  have hup := pup_any [true, true] [] [] _ _ _ (HT6.out.same prog_m hfa).pk aw4_ok (by omega) (by simp) (by simp) (by simp) hks (cellsAt.nil _) (cellsAt.nil _) (fun j hj hm => by
      have h1 := pk_lt HT6.out.pk j hm
      simp only [Value.ownBlock, Option.some.injEq] at hj
      rcases hj with ⟨q, -⟩ | ⟨q, -⟩ | ⟨q, -⟩
      · omega
      · cases q
      · cases q)
  have HUP := Lib.hid hup
  have HFA := Lib.hid hfa
  clear hup hfa hks
  go_upto_region 10 with (go_at_call 17; refine HUP.out.mono ?_; rintro e w7 ⟨B7, rfl, hp7, hf7, hB7⟩)
  have HT7 := Lib.hid (show TwoPK PK w px pm aw5 B7 qx qm (aw0 3) E w7 from (HT6.out.same prog_m HFA.out).step prog_m hp7 hf7 hB7)
  clear hp7 hf7 hB7 HUP HFA HT6
  have hr := pread_any [97] HT7.out.pk aw5_ok (by omega) (by simp [maxLen])
  rw [encA, aw_read] at hr
  have HR := Lib.hid hr
  have HE7 := Lib.hid (pk_lt HT7.out.pe)
  clear hr
  go_upto_region 11 with (go_at_call 11; refine HR.out.mono ?_; rintro e w8 ⟨v8, rfl, hb8, hf8, hn8⟩)
  have HT8 := Lib.hid (HT7.out.same prog_m hf8)
  have HB8 := Lib.hid hb8
  have HN8 := Lib.hid hn8
  clear hb8 hf8 hn8 HR HT7
  have hc := pcreate_any [97] HT8.out.pe (aw_ok 3) (by omega) (by simp [maxLen])
  rw [encA] at hc
  have HC := Lib.hid hc
  clear hc
  go_upto_region 12 with (go_at_call 14; refine HC.out.mono ?_; rintro e w9 ⟨E9, rfl, hp9, hf9, hE9⟩)
  have hb9 := HB8.out.kept hf9 (fun j hj hne hlt hm => by
    have h1 := HE7.out j hm
    have h2 := HN8.out j hj
    omega)
  have HT9 := Lib.hid (show TwoPK PK w qx qm ae1 E9 px pm aw5 B7 w9 from HT8.out.swap.step prog_m hp9 hf9 hE9)
  obtain ⟨a9, c9, rfl, -, -⟩ := hb9.form
  have hconv : (convert 38 9 (.slice a9 2 c9)).run Tryz.prog w9 = .ok (.string { data := #[120, 121] }) w9 := run_conv_bytes (P := Tryz.prog) hb9 38 5 9 Tryz.underlying38 Tryz.underlying5 Tryz.underlying9
  have hnm := pnames_any HT9.out.pe aw5_ok (by omega)
  rw [aw_down] at hnm
  have hln : (if false = true then ([] : List (List UInt8)) else aw5.dn.map (·.1)).length = 2 := by rw [if_neg (by simp), List.length_map, aw_names]
  rw [hln] at hnm
  have HNM := Lib.hid hnm
  clear hp9 hf9 hE9 hb9 hnm hln HT8 HB8 HN8 HC HE7
  go_wp2_with (first
    | (go_at_call 18; refine HNM.out.mono ?_; rintro e w10 ⟨a10, c10, rfl, -, hf10⟩; have HT10 := Lib.hid (HT9.out.same prog_m hf10); obtain ⟨hq1, hq2, hq3⟩ := args_new w10 [102, 111, 117, 114] #[.int .u8 102, .int .u8 111, .int .u8 117, .int .u8 114] (4, 5) 4 rfl (by decide) rfl; have hap := pappend_any [97] [102, 111, 117, 114] _ _ (HT10.out.same prog_m hq3).pk ae1_ok (by omega) (by simp [maxLen]) (by simp) hq1 hq2 (fun j hj hm => by
        have h1 := pk_lt HT10.out.pk j hm
        simp only [Value.ownBlock, Option.some.injEq] at hj
        omega) (fun j hj _ hm => by
        have h1 := pk_lt HT10.out.pk j hm
        simp only [Value.ownBlock, Option.some.injEq] at hj
        omega); rw [encA, aw_full] at hap; have HAP := Lib.hid hap; have HQ3 := Lib.hid hq3; clear hap hq1 hq2 hq3 hf10)
    | (go_at_call 15; refine HAP.out.mono ?_; rintro e w11 ⟨E11, rfl, hp11, hf11, hE11⟩))
  go_ret
  exact ⟨rfl, ((HT10.out.same prog_m HQ3.out).step prog_m hp11 hf11 hE11).fr⟩
end Go.Proofs.YtmchnaojlnjmjaaGreat

/-! The program's disk (layer 11) keeps what DiskPlays wants. -/
namespace Go.Proofs.YtmchnaojlnjmjaaGreat
open Go.RowKit Go.Maps

theorem pk_clean {w : World} {px pm : Nat} {d : DskD} {B : List Nat} (hp : PK w px pm d B) : clean w B := by
  obtain ⟨L, h, hL, rfl⟩ := hp
  intro k hk cs t fr hh
  have key : ∀ {cs' : Array Value} {t' : TypeId} {fr' : Nat × Nat}, w.heap[k]? = some (.cells cs' t' fr') → t = t' := fun h2 => by
    rw [hh] at h2
    simp only [Option.some.injEq, Obj.cells.injEq] at h2
    exact h2.2.1
  rcases Lay.blocks_iff.1 hk with rfl | rfl | q | q | ⟨n, p, g, e, r⟩
  · rw [key h.obj]
    exact ⟨by decide, by decide, by decide, by decide⟩
  · obtain ⟨es, c, hm⟩ := h.mp.heap
    rw [hh] at hm; cases hm
  · obtain ⟨v, hB, hm, ho⟩ := h.mt
    rw [hB] at q
    simp only [List.mem_cons, Option.mem_toList] at q
    rcases q with rfl | q
    · rw [key hm]
      exact ⟨by decide, by decide, by decide, by decide⟩
    · rcases ho.2 with ⟨rfl, _⟩ | ⟨g, cap, cur, rfl, _, hg, _⟩
      · cases q
      · obtain rfl : g = k := by simpa [Value.ownBlock] using q
        rw [key hg]
        exact ⟨by decide, by decide, by decide, by decide⟩
  · rcases h.dr.kinds k q with ⟨es, c, hm⟩ | ⟨cs', fr', hm⟩ | ⟨cs', fr', hm⟩
    · rw [hh] at hm; cases hm
    · rw [key hm]
      exact ⟨by decide, by decide, by decide, by decide⟩
    · rw [key hm]
      exact ⟨by decide, by decide, by decide, by decide⟩
  · obtain ⟨cap, cur, h1, h2, -⟩ := h.fi n p g e
    rcases r with rfl | rfl
    · rw [key h1]
      exact ⟨by decide, by decide, by decide, by decide⟩
    · rw [key h2]
      exact ⟨by decide, by decide, by decide, by decide⟩
theorem pnone_any (room : Int) (w : World) (h0 : room < 0) : Calls Tryz.prog 6 #[.int .i64 room] w fun e w' => e = .returned (.pointer none) ∧ Fr [] w w' := by
  have hd : decide (room < 0) = true := decide_eq_true h0
  clear h0
  go_enter Tryz.func6, Tryz.ntmps6
  go_wp2_with fail
  go_ret
  exact ⟨rfl, Fr.refl _ _⟩
theorem proom_any {w : World} {px pm : Nat} {d : DskD} {B : List Nat} (hp : PK w px pm d B) : Calls Tryz.prog 40 #[.pointer (some ⟨px, 0, none⟩)] w fun e w' => e = .returned (.int .i64 d.room) ∧ Fr [] w w' := by
  obtain ⟨L, h, hL, rfl⟩ := hp
  obtain ⟨c0, c1, c2, c3, c4, f2, f3⟩ := h.cells
  clear h hL
  go_enter Tryz.func40, Tryz.ntmps40
  go_wp2_with fail
  go_ret
  exact ⟨rfl, Fr.refl _ _⟩
theorem pk_answers {w : World} {px pm : Nat} {d : DskD} {B : List Nat} {k : Nat} (hp : PK w px pm d B) (hk : AllOk d k) (hk4 : k ≤ 400) : Answers px pm d w where
  met := pk_met hp
  names := fun wx hx => pnames_any (pk_kept hp hx (by simp)) hk hk4
  down := fun wx hx => by
    obtain ⟨L, h, hL, -⟩ := pk_kept hp hx (by simp)
    refine (mdown_any pm L.Bm _ _ _ wx h.mt).mono ?_
    rintro e w' ⟨rfl, rfl⟩
    exact ⟨rfl, Fr.refl _ _⟩
  steps := fun wx hx => by
    obtain ⟨L, h, hL, -⟩ := pk_kept hp hx (by simp)
    refine (msteps_any pm L.Bm _ _ _ wx h.mt).mono ?_
    rintro e w' ⟨rfl, rfl⟩
    exact ⟨rfl, Fr.refl _ _⟩
  used := fun wx hx => by
    obtain ⟨L, h, hL, -⟩ := pk_kept hp hx (by simp)
    exact pused_any h hL hk (by omega)
  room := fun wx hx => proom_any (pk_kept hp hx (by simp))
  pending := fun wx hx => by
    obtain ⟨L, h, hL, -⟩ := pk_kept hp hx (by simp)
    refine (ppending_any h).mono ?_
    rintro e w' ⟨rfl, rfl⟩
    exact ⟨rfl, Fr.refl _ _⟩
  read := fun hdn e he wx hx => by
    have hr : readK d e.1 = ((fileK d e.2).now, 0) := by
      unfold readK
      rw [hdn, look_mem hk.ok.sn e he]; rfl
    have hc := pread_any e.1 (pk_kept hp hx (by simp)) hk hk4 (hk.okn e he)
    rw [hr] at hc
    exact hc.mono (fun _ _ ⟨v, h1, h2, h3, _⟩ => ⟨v, h1, h2, h3⟩)
theorem prog_k : ProgK PK where
  kept := fun h hf hB => pk_kept h hf hB
  lt := fun h => pk_lt h
  clean := fun h => pk_clean h
  new := fun room w h0 h1 => pnew_any room w h0 h1
  none_ := fun room w h0 => pnone_any room w h0
  answers := fun hp hk hk4 _ => pk_answers hp hk hk4
  act := fun A hp hk hk4 hr hA hf hoff => prog_m.act A hp hk hk4 hr hA hf hoff
  read := fun m hp hk hk4 _ hm => (pread_any m hp hk hk4 hm).mono (fun _ _ ⟨v, h1, h2, h3, _⟩ => ⟨v, h1, h2, h3⟩)
  isName := fun m w hm => pisname_any m hm w
  awake := fun w => awake_any w
end Go.Proofs.YtmchnaojlnjmjaaGreat
