/- Package dir: Put, Drop, Move, Sync, Crash. -/
import Derived.Test.YtmchnaojlnjmjaaGreatDirE
import Derived.Test.YtmchnaojlnjmjaaGreatBs
import Derived.Maps.RangeWalk
namespace Go.Proofs.YtmchnaojlnjmjaaGreat
open Go.RowKit Go.Maps

theorem wf0 : (Lit.int .i64 0).wf = true := by decide
theorem dput_no (p m : Nat) (B : List Nat) (now safe : List Ent) (ops : List OpD) (a : List UInt8) (n : Int) (w : World) (h : isD w p B now safe ops m) (ha : a.length ≤ maxLen) (hl : (lookL now a).isSome = true) :
    Calls Tryz.prog 47 #[.pointer (some ⟨p, 0, none⟩), encStr a, .int .i64 n] w fun e w' => e = .returned (.bool false) ∧ w = w' := by
  have HH := Lib.hid (dhas_any p m B now safe ops a w h ha)
  rw [hl] at HH
  clear h hl
  go_enter Tryz.func47, Tryz.ntmps47
  go_wp2_with (go_at_call 76; refine HH.out.mono ?_; rintro e w1 ⟨rfl, rfl⟩)
  go_ret
  exact ⟨rfl, rfl⟩
def Done (p : Nat) (B : List Nat) (now safe : List Ent) (ops : List OpD) (m : Nat) (w : World) (e : Ending) (w' : World) : Prop := e = .returned (.bool true) ∧ Turned p B now safe ops m w w'
theorem dput_yes (p m : Nat) (B : List Nat) (now safe : List Ent) (ops : List OpD) (a : List UInt8) (n : Int) (w : World) (h : isD w p B now safe ops m) (ha : a.length ≤ maxLen) (hn : (Lit.int .i64 n).wf = true) (hl : (lookL now a).isSome = false) (hm : m + 1 ≤ 1000000) :
    Calls Tryz.prog 47 #[.pointer (some ⟨p, 0, none⟩), encStr a, .int .i64 n] w (Done p B (applyL now ⟨0, a, [], n⟩) safe (ops ++ [⟨0, a, [], n⟩]) (m + 1) w) := by
  have HH := Lib.hid (dhas_any p m B now safe ops a w h ha)
  have HP := Lib.hid (dperform_any p m B now safe ops ⟨0, a, [], n⟩ w h ⟨⟨ha, by simp, hn⟩, .inl rfl⟩ hm)
  rw [hl] at HH
  unfold OpD.pval at HP
  simp only at HP
  clear h hl
  go_enter Tryz.func47, Tryz.ntmps47
  go_wp2_with (first
    | (go_at_call 76; refine HH.out.mono ?_; rintro e w1 ⟨rfl, rfl⟩)
    | (go_at_call 77; refine HP.out.mono ?_; rintro e w1 ⟨rfl, hT⟩))
  go_ret
  exact ⟨rfl, hT⟩
theorem ddrop_no (p m : Nat) (B : List Nat) (now safe : List Ent) (ops : List OpD) (a : List UInt8) (w : World) (h : isD w p B now safe ops m) (ha : a.length ≤ maxLen) (hl : (lookL now a).isSome = false) :
    Calls Tryz.prog 68 #[.pointer (some ⟨p, 0, none⟩), encStr a] w fun e w' => e = .returned (.bool false) ∧ w = w' := by
  have HH := Lib.hid (dhas_any p m B now safe ops a w h ha)
  rw [hl] at HH
  clear h hl
  go_enter Tryz.func68, Tryz.ntmps68
  go_wp2_with (go_at_call 76; refine HH.out.mono ?_; rintro e w1 ⟨rfl, rfl⟩)
  go_ret
  exact ⟨rfl, rfl⟩
theorem ddrop_yes (p m : Nat) (B : List Nat) (now safe : List Ent) (ops : List OpD) (a : List UInt8) (w : World) (h : isD w p B now safe ops m) (ha : a.length ≤ maxLen) (hl : (lookL now a).isSome = true) (hm : m + 1 ≤ 1000000) :
    Calls Tryz.prog 68 #[.pointer (some ⟨p, 0, none⟩), encStr a] w (Done p B (applyL now ⟨1, a, [], 0⟩) safe (ops ++ [⟨1, a, [], 0⟩]) (m + 1) w) := by
  have HH := Lib.hid (dhas_any p m B now safe ops a w h ha)
  have HP := Lib.hid (dperform_any p m B now safe ops ⟨1, a, [], 0⟩ w h ⟨⟨ha, by simp, wf0⟩, .inr (.inl rfl)⟩ hm)
  rw [hl] at HH
  unfold OpD.pval at HP
  simp only at HP
  clear h hl
  go_enter Tryz.func68, Tryz.ntmps68
  go_wp2_with (first
    | (go_at_call 76; refine HH.out.mono ?_; rintro e w1 ⟨rfl, rfl⟩)
    | (go_at_call 77; refine HP.out.mono ?_; rintro e w1 ⟨rfl, hT⟩))
  go_ret
  exact ⟨rfl, hT⟩
theorem dmove_no (p m : Nat) (B : List Nat) (now safe : List Ent) (ops : List OpD) (a b : List UInt8) (w : World) (h : isD w p B now safe ops m) (ha : a.length ≤ maxLen) (hl : (lookL now a).isSome = false) :
    Calls Tryz.prog 67 #[.pointer (some ⟨p, 0, none⟩), encStr a, encStr b] w fun e w' => e = .returned (.bool false) ∧ w = w' := by
  have HH := Lib.hid (dhas_any p m B now safe ops a w h ha)
  rw [hl] at HH
  clear h hl
  go_enter Tryz.func67, Tryz.ntmps67
  go_wp2_with (go_at_call 76; refine HH.out.mono ?_; rintro e w1 ⟨rfl, rfl⟩)
  go_ret
  exact ⟨rfl, rfl⟩
theorem dmove_same (p m : Nat) (B : List Nat) (now safe : List Ent) (ops : List OpD) (a : List UInt8) (w : World) (h : isD w p B now safe ops m) (ha : a.length ≤ maxLen) (hl : (lookL now a).isSome = true) :
    Calls Tryz.prog 67 #[.pointer (some ⟨p, 0, none⟩), encStr a, encStr a] w fun e w' => e = .returned (.bool true) ∧ w = w' := by
  have HH := Lib.hid (dhas_any p m B now safe ops a w h ha)
  rw [hl] at HH
  clear h hl
  go_enter Tryz.func67, Tryz.ntmps67
  go_wp2_with (go_at_call 76; refine HH.out.mono ?_; rintro e w1 ⟨rfl, rfl⟩)
  go_ret
  exact ⟨rfl, rfl⟩
theorem dmove_yes (p m : Nat) (B : List Nat) (now safe : List Ent) (ops : List OpD) (a b : List UInt8) (w : World) (h : isD w p B now safe ops m) (ha : a.length ≤ maxLen) (hb : b.length ≤ maxLen) (hab : a ≠ b) (hl : (lookL now a).isSome = true) (hm : m + 1 ≤ 1000000) :
    Calls Tryz.prog 67 #[.pointer (some ⟨p, 0, none⟩), encStr a, encStr b] w (Done p B (applyL now ⟨2, a, b, 0⟩) safe (ops ++ [⟨2, a, b, 0⟩]) (m + 1) w) := by
  have HH := Lib.hid (dhas_any p m B now safe ops a w h ha)
  have HP := Lib.hid (dperform_any p m B now safe ops ⟨2, a, b, 0⟩ w h ⟨⟨ha, hb, wf0⟩, .inr (.inr ⟨rfl, hab, Option.isSome_iff_exists.1 hl⟩)⟩ hm)
  rw [hl] at HH
  unfold OpD.pval at HP
  simp only at HP
  have hd : (a == b) = false := by rw [beq_eq_false_iff_ne]; exact hab
  clear h hl hab
  go_enter Tryz.func67, Tryz.ntmps67
  go_wp2_with (first
    | (go_at_call 76; refine HH.out.mono ?_; rintro e w1 ⟨rfl, rfl⟩)
    | (go_at_call 77; refine HP.out.mono ?_; rintro e w1 ⟨rfl, hT⟩))
  go_ret
  exact ⟨rfl, hT⟩

theorem walkZ_tv {P : Program} {ops : Array Oper} {Q : Exit → Act → World → Prop} {L : List Nat} {o : Oper} {r : List (Bool × Oper)} {a : Act} {w : World} (v : Value) (h1 : ∀ w', Fr L w w' → wpList P ops (GQ fun a' w'' => w'' = w' ∧ a' = a.put o.dst v) [o] a w') (h2 : walkZ P ops Q L r (a.put o.dst v) w) : walkZ P ops Q L ((false, o) :: r) a w := ⟨_, h1, h2⟩
theorem crash_take : ∀ (l : List Ent) (r : List OpD) (k : List Bool), crashL l r k = (r.take (keptL k)).foldl applyL l
  | l, [], k => by cases k <;> simp [crashL]
  | l, o :: r, [] => by simp [crashL, keptL]
  | l, o :: r, false :: k => by simp [crashL, keptL]
  | l, o :: r, true :: k => by rw [crashL, keptL, List.take_succ_cons, List.foldl_cons, crash_take (applyL l o) r k]
set_option maxRecDepth 100000 in
theorem dsync_any (p m : Nat) (B : List Nat) (now safe : List Ent) (ops : List OpD) (w : World) (h : isD w p B now safe ops m) (hm : m ≤ 1000000) :
    Calls Tryz.prog 66 #[.pointer (some ⟨p, 0, none⟩)] w fun e w' => e = .returned (.tuple #[]) ∧ Turned p B now now [] m w w' := by
  have HP := Lib.hid (dpending_any p m B now safe ops w h)
  obtain ⟨bN, bS, pv, m2, rfl, hp, hN, hS, hm2, hrow, hne, hseq, hnow⟩ := h
  have HS := Lib.hid (dsettle_any p bN bS m2 ops.length pv safe ops w hp hS hrow hseq (Nat.le_refl _) (by omega))
  unfold Settled at HS
  rw [List.take_length, ← hnow] at HS
  have hpN : bN ≠ p := by
    rintro rfl
    obtain ⟨es, c, hh⟩ := hN.heap
    rw [hp] at hh; cases hh
  have HN := Lib.hid hN
  obtain ⟨n, hn⟩ : ∃ n, n = ops.length := ⟨_, rfl⟩
  rw [← hn] at HP HS hm2
  have HNE := Lib.hid hne
  have HPN := Lib.hid hpN
  clear hp hN hS hrow hseq hnow hn hne hpN
  go_enter Tryz.func66, Tryz.ntmps66
  go_wp2_with (first
    | (go_at_call 71; refine HP.out.mono ?_; rintro e w1 ⟨rfl, rfl⟩)
    | (go_at_call 79; refine HS.out.mono ?_; rintro e w1 ⟨rfl, hh, hM, hf⟩))
  go_end0
  refine ⟨rfl, [p, bN, bS], ⟨bN, bS, .slice none 0 0, m2 + n, by simp [Value.ownBlock], hh, HN.out.kept hf (by simp; exact ⟨HPN.out, HNE.out⟩), hM, by simpa using hm2, World.ownsRow_nil _ _ _ _, HNE.out, trivial, rfl⟩, hf.mono (by simp), ?_⟩
  intro k hk
  left
  simp at hk ⊢
  omega
set_option maxRecDepth 100000 in
theorem dcrash_any (p m : Nat) (B : List Nat) (now safe : List Ent) (ops : List OpD) (ks : List Bool) (kv : Value) (w : World) (h : isD w p B now safe ops m) (hk : cellsAt w kv (ks.map Value.bool)) (hl : ks.length ≤ 1000000000) (hm : m ≤ 1000000) :
    Calls Tryz.prog 52 #[.pointer (some ⟨p, 0, none⟩), kv] w fun e w' => e = .returned (.tuple #[]) ∧ Turned p B (crashL safe ops ks) (crashL safe ops ks) [] m w w' := by
  have HK := Lib.hid (fun wx (hx : cellsAt wx kv (ks.map Value.bool)) => dkept_any ks kv wx hx hl)
  have HKV := Lib.hid hk
  obtain ⟨ka, kc, rfl, -, -⟩ := hk.form
  rw [List.length_map] at *
  obtain ⟨bN, bS, pv, m2, rfl, hp, hN, hS, hm2, hrow, hne, hseq, hnow⟩ := h
  have hmin : min (keptL ks) ops.length ≤ ops.length := Nat.min_le_right _ _
  have htk : (ops.take (min (keptL ks) ops.length)).foldl applyL safe = crashL safe ops ks := by
    rw [crash_take]
    rcases Nat.le_total (keptL ks) ops.length with q | q
    · rw [Nat.min_eq_left q]
    · rw [Nat.min_eq_right q, List.take_length, List.take_of_length_le q]
  obtain ⟨S, hS'⟩ : ∃ S, S = crashL safe ops ks := ⟨_, rfl⟩
  rw [← hS'] at htk ⊢
  have hst := fun wx (hx : Fr [] w wx) => dsettle_any p bN bS m2 (min (keptL ks) ops.length) pv safe ops wx (hx.heap hp (by simp)) (hS.below hx) (owns_kept hrow hx (by simp)) hseq hmin (by omega)
  unfold Settled at hst
  rw [htk] at hst
  have hpN : bN ≠ p := by
    rintro rfl
    obtain ⟨es, c, hh⟩ := hN.heap
    rw [hp] at hh; cases hh
  have hpS : bS ≠ p := by
    rintro rfl
    obtain ⟨es, c, hh⟩ := hS.heap
    rw [hp] at hh; cases hh
  obtain ⟨a0, cap, rfl, hcap, hcm⟩ := owns_slice hrow
  obtain ⟨n, hn⟩ : ∃ n, n = ops.length := ⟨_, rfl⟩
  obtain ⟨q, hq⟩ : ∃ q, q = keptL ks := ⟨_, rfl⟩
  rw [← hn] at hm2 hp hst hmin
  rw [← hq] at HK hst hmin
  obtain ⟨c, hc⟩ : ∃ c, c = min q n := ⟨_, rfl⟩
  rw [← hc] at hst hmin
  have HST := Lib.hid hst
  have HP := Lib.hid hp
  have hmi : ((if (n : Int) < (q : Int) then (n : Int) else (q : Int)) : Int) = (c : Int) := by rw [hc]; split <;> omega
  have HMIN := Lib.hid hmi
  have HC := Lib.hid hc
  have hbS := hS.lt
  have hpl := (Array.getElem?_eq_some_iff.1 hp).1
  have HPS := Lib.hid hpS
  clear hst hp hN hS hrow hseq hnow hn hq hc hS' htk hne hpN hpS hk hcm hmi
  go_enter Tryz.func52, Tryz.ntmps52
  go_wp2_with fail
  refine wp_region_Y [] 9 [(0, false), (1, false), (3, false), (4, false), (5, false), (6, false), (7, false), (2, true), (8, false), (9, true)] 24 rfl (by kernel_rfl) (by kernel_rfl) (by kernel_rfl) (fun c a d v w h => by cases d <;> exact h) (fun w2 hf2 => ?_)
  simp only [List.map_cons, List.map_nil, List.getElem?_toArray, List.getElem?_cons_succ, List.getElem?_cons_zero, Option.getD_some]
  have HF2 := Lib.hid hf2
  have LP : Hid (Later [] w2 (fun w' => w'.heap[p]? = some (.cells #[.map (some bN), .map (some bS), .slice a0 n cap] 101 (0, 0)))) := Lib.hid (fun w' hf' => hf'.heap (hf2.heap HP.out (by simp)) (by simp))
  clear hf2
  repeat (apply walkZ_t; · (intro w' hf'; obtain ⟨c0, c1, c2, f0, f1, f2⟩ := three_of_heap (LP.out w' hf'); go_wp2_with fail; exact ⟨rfl, rfl⟩))
  refine walkZ_x ?_
  go_wp2_with (go_at_call 80; refine (HK.out _ (HKV.out.below HF2.out)).mono ?_; rintro e w3 ⟨rfl, rfl⟩)
  refine ⟨.inr (Fr.refl _ _), rfl, ?_⟩
  refine walkZ_tv (.int .i64 (c : Int)) ?_ ?_
  · intro w' hf'
    have HMI := HMIN
    clear LP
    by_cases hlt : (n : Int) < (q : Int)
    · rw [if_pos hlt] at HMI
      rw [← HMI.out]
      go_wp2_with fail
      all_goals first | exact ⟨rfl, rfl⟩ | omega
    · rw [if_neg hlt] at HMI
      rw [← HMI.out]
      go_wp2_with fail
      all_goals first | exact ⟨rfl, rfl⟩ | omega
  go_frame
  refine walkZ_x ?_
  go_wp2_with (go_at_call 79; refine (HST.out _ HF2.out).mono ?_; rintro e w3 ⟨rfl, hh3, hM3, hf3⟩)
  refine ⟨.inl trivial, rfl, walkZ_end ?_⟩
  obtain ⟨g0, g1, g2, k0, k1, k2⟩ := three_of_heap hh3
  have HM3 := Lib.hid hM3
  have HF3 := Lib.hid hf3
  have HH3 := Lib.hid hh3
  have hcl := dclone_any bS (m2 + c) S w3 hM3
  have HCL := Lib.hid hcl
  clear hh3 hM3 hf3 hcl
  go_wp2_with (go_at_call 81; refine HCL.out.mono ?_; rintro e w4 ⟨rfl, hM4, hf4, hs4⟩; have hh4 := hf4.heap HH3.out (by simp); obtain ⟨g0', g1', g2', k0', k1', k2'⟩ := three_of_heap hh4; have HH4 := Lib.hid hh4; have HM4 := Lib.hid hM4; have HF4 := Lib.hid hf4; clear hM4 hf4 hh4)
  go_end0
  have hsz2 := HF2.out.size
  have hsz3 := HF3.out.size
  have hpq : p ≠ w3.heap.size := by omega
  have hSq : bS ≠ w3.heap.size := by omega
  have hfs := Fr.set0 w4 p 0 (.map (some w3.heap.size))
  have hh := heap_setCell_same (i := 0) HH4.out (.map (some w3.heap.size))
  refine ⟨rfl, [p, w3.heap.size, bS], ⟨w3.heap.size, bS, .slice none 0 0, m2 + c, by simp [Value.ownBlock], by simpa using hh, (HM4.out.kept hfs (by simpa using Ne.symm hpq)).mono (by omega), ((HM3.out.below HF4.out).kept hfs (by simpa using HPS.out)), by simp; omega, World.ownsRow_nil _ _ _ _, Ne.symm hSq, trivial, rfl⟩, ?_, ?_⟩
  · exact (((HF2.out.trans HF3.out (n := [p, bS]) (by simp) (fun _ hk _ => hk)).trans HF4.out (n := [p, bS]) (fun _ hk _ => hk) (by simp)).trans hfs (n := p :: bN :: bS :: (Value.slice a0 ops.length cap).ownBlock.toList) (by intro k hk _; simp at hk ⊢; rcases hk with rfl | rfl <;> simp) (by simp))
  · intro k hk
    simp at hk
    rcases hk with rfl | rfl | rfl
    · left; simp
    · right; omega
    · left; simp
end Go.Proofs.YtmchnaojlnjmjaaGreat
