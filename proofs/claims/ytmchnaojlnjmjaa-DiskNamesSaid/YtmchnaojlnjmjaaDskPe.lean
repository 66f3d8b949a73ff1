/- The program's disk (layer 11): New, Sync, Drop, Read, Names. -/
import Derived.Test.YtmchnaojlnjmjaaDskPd
import Derived.Test.YtmchnaojlnjmjaaDskAct
namespace Go.Proofs.Ytmchnaojlnjmjaa
open Go.RowKit Go.Maps

set_option maxRecDepth 100000 in
set_option maxHeartbeats 1000000 in
theorem pnew_any (room : Int) (w : World) (h0 : 0 ≤ room) (h1 : room ≤ 9223372036854775807) : Calls Try.prog 9 #[.int .i64 room] w fun e w' => ∃ px pm B, e = .returned (.pointer (some ⟨px, 0, none⟩)) ∧ PK w' px pm ⟨[], [], [], [], room, 0, false, []⟩ B ∧ Fr [] w w' ∧ ∀ k ∈ B, w.heap.size ≤ k := by
  have hmm := @run_makeMap Try.prog
  have hd : decide (room < 0) = false := decide_eq_false (by omega)
  go_enter Try.func9, Try.ntmps9
  go_upto_region 3 with fail
  go_wp2_with (first
    | (go_at_call 22; refine (mnew_any _).mono ?_; rintro e w1 ⟨pm, Bm, rfl, hm, hf1, hB1⟩)
    | (go_at_call 23; refine (dnew_any _).mono ?_; rintro e w2 ⟨pd, Bd, rfl, hdr, hf2, hB2⟩))
  go_ret
  have hfa := Fr.alloc w2 (.map #[] 0)
  have hfb := Fr.alloc (w2.alloc (.map #[] 0)) (.cells #[.pointer (some ⟨pm, 0, none⟩), .pointer (some ⟨pd, 0, none⟩), .map (some w2.heap.size), .int .i64 0, .int .i64 room] 47)
  have hfab := hfa.trans hfb (by simp) (n := []) (by simp)
  have hs1 := hf1.size
  have hs2 := hf2.size
  have hobj := heap_alloc_new (w2.alloc (.map #[] 0)) (.cells #[.pointer (some ⟨pm, 0, none⟩), .pointer (some ⟨pd, 0, none⟩), .map (some w2.heap.size), .int .i64 0, .int .i64 room] 47)
  rw [World.size_alloc] at hobj
  have hml := hm.lt
  have hdl := hdr.lt
  have hmp := pmapIs.made Try.prog 3 w2
  refine ⟨w2.heap.size + 1, pm, (Lay.mk pd w2.heap.size 0 0 Bm Bd [] (fun k => if k < w1.heap.size then 0 else if k < w2.heap.size then 1 else if k = w2.heap.size then 3 else 2)).blocks (w2.heap.size + 1), rfl,
    ⟨_, ⟨hobj, (hm.below hf2).below hfab, hdr.below hfab, ?_, rfl, fun n p g e => by simp [atFs] at e, ?_, ?_, ?_, ?_, fun n p g e => by simp [atFs] at e⟩, ⟨?_, Int.le_refl _, Int.le_refl _, Int.le_refl _, Int.le_refl _, h0, h1⟩, rfl⟩, ?_, ?_⟩
  · have : (fun _ : Int => (none : Option Nat)) = fsF [] := by funext k; unfold fsF; simp [atFs]
    rw [this] at hmp
    exact hmp.below hfb
  · show (if w2.heap.size + 1 < w1.heap.size then 0 else if w2.heap.size + 1 < w2.heap.size then 1 else if w2.heap.size + 1 = w2.heap.size then 3 else 2) = 2
    rw [if_neg (by omega), if_neg (by omega), if_neg (by omega)]
  · show (if w2.heap.size < w1.heap.size then 0 else if w2.heap.size < w2.heap.size then 1 else if w2.heap.size = w2.heap.size then 3 else 2) = 3
    rw [if_neg (by omega), if_neg (by omega), if_pos rfl]
  · intro k hk
    exact if_pos (hml k hk)
  · intro k hk
    have h7 := hB2 k hk
    have h2 := hdl k hk
    show (if k < w1.heap.size then 0 else if k < w2.heap.size then 1 else if k = w2.heap.size then 3 else 2) = 1
    rw [if_neg (by omega), if_pos h2]
  · rintro n (⟨e, he, _⟩ | ⟨e, he, _⟩ | ⟨e, he, _⟩) <;> cases he
  · exact (hf1.trans hf2 (by simp) (n := []) (by simp)).trans hfab (by simp) (by simp)
  · intro j hj
    rcases Lay.blocks_iff.1 hj with q | q | q | q | ⟨n, p, g, e, _⟩
    · omega
    · have : j = w2.heap.size := q
      omega
    · exact hB1 j q
    · have := hB2 j q; omega
    · simp [atFs] at e
set_option maxRecDepth 100000 in
set_option maxHeartbeats 1000000 in
theorem psync_any {w : World} {px pm : Nat} {d : DskD} {B : List Nat} {k : Nat} (m : List UInt8) (hp : PK w px pm d B) (hk : AllOk d k) (hk4 : k ≤ 400) (hm : m.length ≤ maxLen) :
    Calls Try.prog 12 #[.pointer (some ⟨px, 0, none⟩), encStr m] w (DidK PK px pm (syncK d m).1 (.int .i64 (syncK d m).2) B w) := by
  obtain ⟨L, h, hL, rfl⟩ := hp
  have hst := pstep_any h hL hk hk4
  have HK := Lib.hid hk
  unfold Stepd at hst
  by_cases hc : codeK d = 0
  · rw [hc] at hst
    have HST := Lib.hid hst
    cases hlk : lookL d.dn m with
    | none =>
      have hmm : syncK d m = (stepK d, 7) := by unfold syncK; rw [if_neg (by simp [hc]), hlk]
      rw [hmm]
      have HLK := Lib.hid hlk
      clear h hL hk hc hst hmm hlk
      go_enter Try.func12, Try.ntmps12
      go_wp2_with (first
        | (go_at_call 24; refine HST.out.mono ?_; rintro e w1 ⟨L1, rfl, hw1, hL1, e1, e2, e3⟩)
        | (go_at_call 25; refine (pfile_none hw1.pk m hm HLK.out).mono ?_; rintro e w2 ⟨rfl, rfl⟩))
      go_ret
      exact did_mk hw1 hL1
    | some v =>
      obtain ⟨n, p, g, ev, hat, hnl, hfk⟩ := hL.found h hk hlk
      have hmm : syncK d m = ({ stepK d with files := d.files.set n ⟨(fileN d n).now, (fileN d n).now⟩ }, 0) := by
        unfold syncK putK
        rw [if_neg (by simp [hc]), hlk]
        simp only
        rw [hfk, ev]; rfl
      rw [hmm]
      rw [ev] at hlk
      have HLK := Lib.hid hlk
      have HAT := Lib.hid hat
      have hfl := hk.ok.fl
      have hn6 : n ≤ 1000000 := by omega
      have HNL := Lib.hid hnl
      clear h hL hk hc hst hmm hlk hat ev hfk hnl hfl
      go_enter Try.func12, Try.ntmps12
      go_wp2_with (first
        | (go_at_call 24; refine HST.out.mono ?_; rintro e w1 ⟨L1, rfl, hw1, hL1, e1, e2, e3⟩; have HAT1 := Lib.hid (show atFs L1.fs n = some (p, g) by rw [e1]; exact HAT.out))
        | (go_at_call 25; refine (pfile_some hw1.pk m hm n HLK.out HAT1.out hn6).mono ?_; rintro e w2 ⟨rfl, rfl⟩)
        | (go_at_call 32; refine (isync_any p g _ _ w1 (hw1.pk.fi n p g HAT1.out)).mono ?_; rintro e w3 ⟨rfl, hF, hf3⟩))
      go_ret
      obtain ⟨L2, k1, k2, k3, hw2⟩ := hw1.pk.file HAT1.out ⟨(fileN d n).now, (fileN d n).now⟩ hF (hf3.mono (by simp)) (.inl rfl)
      exact did_mk (hw1.trans hw2) (hL1.put _ (atFs_lt HAT1.out) k1 k2 k3)
  · have hmm : syncK d m = (stepK d, codeK d) := by unfold syncK; rw [if_pos hc]
    rw [hmm]
    obtain ⟨c, hcc⟩ : ∃ c, c = codeK d := ⟨_, rfl⟩
    rw [← hcc] at hst hc ⊢
    have hc0 : (c == 0) = false := by rw [beq_eq_false_iff_ne]; exact hc
    have HST := Lib.hid hst
    clear h hL hk hc hmm hst hcc
    go_enter Try.func12, Try.ntmps12
    go_wp2_with (go_at_call 24; refine HST.out.mono ?_; rintro e w1 ⟨L1, rfl, hw1, hL1, e1, e2, e3⟩)
    go_ret
    exact did_mk hw1 hL1
set_option maxRecDepth 100000 in
set_option maxHeartbeats 1000000 in
theorem pread_any {w : World} {px pm : Nat} {d : DskD} {B : List Nat} {k : Nat} (m : List UInt8) (hp : PK w px pm d B) (hk : AllOk d k) (hk4 : k ≤ 400) (hm : m.length ≤ maxLen) :
    Calls Try.prog 16 #[.pointer (some ⟨px, 0, none⟩), encStr m] w fun e w' => ∃ v, e = .returned (.tuple #[v, .int .i64 (readK d m).2]) ∧ bytesAt w' v (readK d m).1 ∧ Fr [] w w' ∧ ∀ j, v.ownBlock = some j → w.heap.size ≤ j := by
  obtain ⟨L, h, hL, rfl⟩ := hp
  obtain ⟨c0, c1, c2, c3, c4, f2, f3⟩ := h.cells
  have hdo := mdown_any pm L.Bm _ _ _ w h.mt
  cases hdn : d.down with
  | true =>
    rw [hdn] at hdo
    have hr : readK d m = ([], 11) := by unfold readK; rw [hdn]; rfl
    rw [hr]
    have HDO := Lib.hid hdo
    clear h hL hk hdo hdn hr
    go_enter Try.func16, Try.ntmps16
    go_wp2_with (go_at_call 17; refine HDO.out.mono ?_; rintro e w1 ⟨rfl, rfl⟩)
    go_ret2
    exact ⟨_, rfl, bytesAt.nil _, Fr.refl _ _, fun j hj => by cases hj⟩
  | false =>
    rw [hdn] at hdo
    have HDO := Lib.hid hdo
    cases hlk : lookL d.dn m with
    | none =>
      have hr : readK d m = ([], 7) := by unfold readK; rw [hdn, hlk]; rfl
      rw [hr]
      have HFI := Lib.hid (pfile_none h m hm hlk)
      clear h hL hk hdo hdn hr hlk
      go_enter Try.func16, Try.ntmps16
      go_wp2_with (first
        | (go_at_call 17; refine HDO.out.mono ?_; rintro e w1 ⟨rfl, rfl⟩)
        | (go_at_call 25; refine HFI.out.mono ?_; rintro e w2 ⟨rfl, rfl⟩))
      go_ret2
      exact ⟨_, rfl, bytesAt.nil _, Fr.refl _ _, fun j hj => by cases hj⟩
    | some v =>
      obtain ⟨n, p, g, ev, hat, hnl, hfk⟩ := hL.found h hk hlk
      have hr : readK d m = ((fileN d n).now, 0) := by
        unfold readK
        rw [hdn, hlk]
        simp only
        rw [hfk]; rfl
      rw [hr]
      rw [ev] at hlk
      have hfl := hk.ok.fl
      have HFI := Lib.hid (pfile_some h m hm n hlk hat (by omega))
      have hfm : fileN d n ∈ d.files := by unfold fileN; simp only [List.getD, List.getElem?_eq_getElem hnl, Option.getD_some]; exact List.getElem_mem hnl
      have hln := hk.ok.len _ hfm
      have HBY := Lib.hid (ibytes_any p g _ _ w (h.fi n p g hat) (by omega))
      clear h hL hk hdo hdn hr hlk hat hfk ev hnl hfm hln hfl
      go_enter Try.func16, Try.ntmps16
      go_wp2_with (first
        | (go_at_call 17; refine HDO.out.mono ?_; rintro e w1 ⟨rfl, rfl⟩)
        | (go_at_call 25; refine HFI.out.mono ?_; rintro e w2 ⟨rfl, rfl⟩)
        | (go_at_call 43; refine HBY.out.mono ?_; rintro e w3 ⟨v3, rfl, hb3, hn3, hf3⟩))
      go_ret2
      exact ⟨_, rfl, hb3, hf3, hn3⟩
end Go.Proofs.Ytmchnaojlnjmjaa
