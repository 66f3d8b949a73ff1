/- The statements' awake (layer 11). -/
import Derived.Test.YtmchnaojlnjmjaaDskPm
import Derived.Test.YtmchnaojlnjmjaaDskAw
import Derived.Test.YtmchnaojlnjmjaaBs
import Derived.Lib.SlBytesConst
namespace Go.Proofs.Ytmchnaojlnjmjaa
open Go.RowKit Go.Maps

theorem encA : encStr [97] = .string { data := #[97] } := rfl
theorem encB : encStr [98] = .string { data := #[98] } := rfl
/-- A row of one slice of bytes, both new. -/
theorem args_new (w : World) (bs : List UInt8) (cs : Array Value) (fr : Nat × Nat) (n : Nat) (hn : n = bs.length) (hb : bs.length ≤ 100) (hcs : cs = (cellsB bs).toArray) :
    cellsAt ((w.alloc (.cells cs 5 fr)).alloc (.cells #[.slice (some ⟨w.heap.size, 0, none⟩) n n] 24)) (.slice (some ⟨w.heap.size + 1, 0, none⟩) 1 1) [.slice (some ⟨w.heap.size, 0, none⟩) n n] ∧ bytesAt ((w.alloc (.cells cs 5 fr)).alloc (.cells #[.slice (some ⟨w.heap.size, 0, none⟩) n n] 24)) (.slice (some ⟨w.heap.size, 0, none⟩) n n) bs ∧
    Fr [] w ((w.alloc (.cells cs 5 fr)).alloc (.cells #[.slice (some ⟨w.heap.size, 0, none⟩) n n] 24)) := by
  have h1 := cellsAt_new (w.alloc (.cells cs 5 fr)) [.slice (some ⟨w.heap.size, 0, none⟩) n n] 24 1 rfl (by simp [maxLen])
  rw [World.size_alloc] at h1
  exact ⟨h1, (bytesAt_marked w bs 5 fr n hn (by simp [maxLen]; omega) cs hcs).below (Fr.alloc _ _), (Fr.alloc _ _).trans (Fr.alloc _ _) (by simp) (by simp)⟩
set_option maxRecDepth 100000 in
set_option maxHeartbeats 2000000 in
theorem awake_any (w : World) : Calls Try.prog 5 #[] w fun e w' => e = .returned (.bool true) ∧ Fr [] w w' := by
  have kc := fun (w : World) (C : Array Value) (n c : Nat) => Lib.run_convert_bytes_const (P := Try.prog) w 24 5 C n c Try.underlying24 Try.underlying5
  go_enter Try.func5, Try.ntmps5
  go_upto_region 2 with (go_at_call 9; refine (pnew_any 100 _ (by omega) (by omega)).mono ?_; rintro e w1 ⟨px, pm, B, rfl, hp1, hf1, hB1⟩)
  go_upto_region 3 with (go_at_call 9; refine (pnew_any 3 _ (by omega) (by omega)).mono ?_; rintro e w2 ⟨qx, qm, E, rfl, hp2, hf2, hE2⟩)
  have hT : TwoPK PK w px pm (aw0 100) B qx qm (aw0 3) E w2 := ⟨pk_kept hp1 hf2 (by simp), hp2, fun j hj hm => by have h1 := pk_lt hp1 j hj; have h2 := hE2 j hm; omega, hB1, fun j hj => by have := hE2 j hj; have := hf1.size; omega, hf1.trans hf2 (by simp) (by simp)⟩
  have HT2 := Lib.hid hT
  clear hp1 hf1 hB1 hp2 hf2 hE2 hT
  go_upto_region 5 with fail
  have hc := pcreate_any [97] HT2.out.pk (aw_ok 100) (by omega) (by simp [maxLen])
  rw [encA] at hc
  have HC := Lib.hid hc
  clear hc
  go_upto_region 6 with (go_at_call 10; refine HC.out.mono ?_; rintro e w3 ⟨B3, rfl, hp3, hf3, hB3⟩)
  have HT3 := Lib.hid (show TwoPK PK w px pm aw1 B3 qx qm (aw0 3) E w3 from HT2.out.step prog_m hp3 hf3 hB3)
  clear hp3 hf3 hB3 HC HT2
  obtain ⟨hq1, hq2, hq3⟩ := args_new w3 [120, 121] #[.int .u8 120, .int .u8 121] (2, 3) 2 rfl (by decide) rfl
  have hap := pappend_any [97] [120, 121] _ _ (HT3.out.same prog_m hq3).pk aw1_ok (by omega) (by simp [maxLen]) (by simp) hq1 hq2 (fun j hj hm => by
      have h1 := pk_lt HT3.out.pk j hm
      simp only [Value.ownBlock, Option.some.injEq] at hj
      omega) (fun j hj _ hm => by
      have h1 := pk_lt HT3.out.pk j hm
      simp only [Value.ownBlock, Option.some.injEq] at hj
      omega)
  rw [encA] at hap
  have HAP := Lib.hid hap
  have HQ3 := Lib.hid hq3
  clear hap hq1 hq2 hq3
  go_upto_region 7 with (go_at_call 11; refine HAP.out.mono ?_; rintro e w4 ⟨B4, rfl, hp4, hf4, hB4⟩)
  have HT4 := Lib.hid (show TwoPK PK w px pm aw2 B4 qx qm (aw0 3) E w4 from (HT3.out.same prog_m HQ3.out).step prog_m hp4 hf4 hB4)
  clear hp4 hf4 hB4 HAP HQ3 HT3
  have hs := psync_any [97] HT4.out.pk aw2_ok (by omega) (by simp [maxLen])
  rw [encA] at hs
  have HS := Lib.hid hs
  clear hs
  go_upto_region 8 with (go_at_call 12; refine HS.out.mono ?_; rintro e w5 ⟨B5, rfl, hp5, hf5, hB5⟩)
  have HT5 := Lib.hid (show TwoPK PK w px pm aw3 B5 qx qm (aw0 3) E w5 from HT4.out.step prog_m hp5 hf5 hB5)
  clear hp5 hf5 hB5 HS HT4
  have hc := pcreate_any [98] HT5.out.pk aw3_ok (by omega) (by simp [maxLen])
  rw [encB] at hc
  have HC := Lib.hid hc
  clear hc
  go_upto_region 9 with (go_at_call 10; refine HC.out.mono ?_; rintro e w6 ⟨B6, rfl, hp6, hf6, hB6⟩)
  have HT6 := Lib.hid (show TwoPK PK w px pm aw4 B6 qx qm (aw0 3) E w6 from HT5.out.step prog_m hp6 hf6 hB6)
  clear hp6 hf6 hB6 HC HT5
  have hfa := Fr.alloc w6 (.cells #[.bool true, .bool true] 4)
  have hks : cellsAt (w6.alloc (.cells #[.bool true, .bool true] 4)) (.slice (some ⟨w6.heap.size, 0, none⟩) 2 2) (([true, true] : List Bool).map Value.bool) := cellsAt_new w6 [.bool true, .bool true] 4 2 rfl (by simp [maxLen])
  have hup := pup_any [true, true] [] [] _ _ _ (HT6.out.same prog_m hfa).pk aw4_ok (by omega) (by simp) (by simp) (by simp) hks (cellsAt.nil _) (cellsAt.nil _) (fun j hj hm => by
      have h1 := pk_lt HT6.out.pk j hm
      simp only [Value.ownBlock, Option.some.injEq] at hj
      rcases hj with ⟨q, -⟩ | ⟨q, -⟩ | ⟨q, -⟩
      · omega
      · cases q
      · cases q)
  have HUP := Lib.hid hup
  have HFA := Lib.hid hfa
  clear hup hfa hks
  go_upto_region 10 with (go_at_call 15; refine HUP.out.mono ?_; rintro e w7 ⟨B7, rfl, hp7, hf7, hB7⟩)
  have HT7 := Lib.hid (show TwoPK PK w px pm aw5 B7 qx qm (aw0 3) E w7 from (HT6.out.same prog_m HFA.out).step prog_m hp7 hf7 hB7)
  clear hp7 hf7 hB7 HUP HFA HT6
  have hr := pread_any [97] HT7.out.pk aw5_ok (by omega) (by simp [maxLen])
  rw [encA, aw_read] at hr
  have HR := Lib.hid hr
  have HE7 := Lib.hid (pk_lt HT7.out.pe)
  clear hr
  go_upto_region 11 with (go_at_call 16; refine HR.out.mono ?_; rintro e w8 ⟨v8, rfl, hb8, hf8, hn8⟩)
  have HT8 := Lib.hid (HT7.out.same prog_m hf8)
  have HB8 := Lib.hid hb8
  have HN8 := Lib.hid hn8
  clear hb8 hf8 hn8 HR HT7
  have hc := pcreate_any [97] HT8.out.pe (aw_ok 3) (by omega) (by simp [maxLen])
  rw [encA] at hc
  have HC := Lib.hid hc
  clear hc
  go_upto_region 12 with (go_at_call 10; refine HC.out.mono ?_; rintro e w9 ⟨E9, rfl, hp9, hf9, hE9⟩)
  have hb9 := HB8.out.kept hf9 (fun j hj hne hlt hm => by
    have h1 := HE7.out j hm
    have h2 := HN8.out j hj
    omega)
  have HT9 := Lib.hid (show TwoPK PK w qx qm ae1 E9 px pm aw5 B7 w9 from HT8.out.swap.step prog_m hp9 hf9 hE9)
  obtain ⟨a9, c9, rfl, -, -⟩ := hb9.form
  have hconv : (convert 24 9 (.slice a9 2 c9)).run Try.prog w9 = .ok (.string { data := #[120, 121] }) w9 := run_conv_bytes (P := Try.prog) hb9 24 5 9 Try.underlying24 Try.underlying5 Try.underlying9
  have hnm := pnames_any HT9.out.pe aw5_ok (by omega)
  rw [aw_down] at hnm
  have hln : (if false = true then ([] : List (List UInt8)) else aw5.dn.map (·.1)).length = 2 := by rw [if_neg (by simp), List.length_map, aw_names]
  rw [hln] at hnm
  have HNM := Lib.hid hnm
  clear hp9 hf9 hE9 hb9 hnm hln HT8 HB8 HN8 HC HE7
  go_wp2_with (first
    | (go_at_call 20; refine HNM.out.mono ?_; rintro e w10 ⟨a10, c10, rfl, -, hf10⟩; have HT10 := Lib.hid (HT9.out.same prog_m hf10); obtain ⟨hq1, hq2, hq3⟩ := args_new w10 [102, 111, 117, 114] #[.int .u8 102, .int .u8 111, .int .u8 117, .int .u8 114] (4, 5) 4 rfl (by decide) rfl; have hap := pappend_any [97] [102, 111, 117, 114] _ _ (HT10.out.same prog_m hq3).pk ae1_ok (by omega) (by simp [maxLen]) (by simp) hq1 hq2 (fun j hj hm => by
        have h1 := pk_lt HT10.out.pk j hm
        simp only [Value.ownBlock, Option.some.injEq] at hj
        omega) (fun j hj _ hm => by
        have h1 := pk_lt HT10.out.pk j hm
        simp only [Value.ownBlock, Option.some.injEq] at hj
        omega); rw [encA, aw_full] at hap; have HAP := Lib.hid hap; have HQ3 := Lib.hid hq3; clear hap hq1 hq2 hq3 hf10)
    | (go_at_call 11; refine HAP.out.mono ?_; rintro e w11 ⟨E11, rfl, hp11, hf11, hE11⟩))
  go_ret
  exact ⟨rfl, ((HT10.out.same prog_m HQ3.out).step prog_m hp11 hf11 hE11).fr⟩
end Go.Proofs.Ytmchnaojlnjmjaa
