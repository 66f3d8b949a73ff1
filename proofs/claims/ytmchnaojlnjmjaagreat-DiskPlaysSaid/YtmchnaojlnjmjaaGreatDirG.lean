/- Package dir: Names: the names, sorted. -/
import Derived.Test.YtmchnaojlnjmjaaGreatDirB
import Derived.Test.YtmchnaojlnjmjaaGreatShelf
import Derived.Sort.KeysCollected
import Derived.Sort.OwnSorted
import Derived.Maps.RangeWalk
import Derived.Maps.Ext
namespace Go.Proofs.YtmchnaojlnjmjaaGreat
open Go.RowKit Go.Maps Go.Sort

theorem lessB_of_le : ∀ a b : List UInt8, a ≤ b → a ≠ b → lessB a b = true
  | [], [], _, h => (h rfl).elim
  | [], _ :: _, _, _ => rfl
  | _ :: _, [], h, _ => by simp at h
  | a :: x, b :: y, h, hne => by
    rw [lessB]
    by_cases e : a = b
    · subst e
      rw [if_pos rfl]
      exact lessB_of_le x y ((List.cons_le_cons_iff.1 h).resolve_left (fun q => absurd q (by simp [UInt8.lt_irrefl]))).2 (fun q => hne (by rw [q]))
    · rw [if_neg e]
      have h1 := List.cons_le_cons_iff.1 h
      rcases h1 with h1 | ⟨h1, _⟩
      · exact decide_eq_true (by simpa [UInt8.lt_iff_toNat_lt] using h1)
      · exact (e h1).elim
/-- The keys that were met, sorted, are the names of the list. -/
theorem collected_names {D : DataW Unit} {l : List Ent} {left : Lit → Bool} {ss : List (List UInt8)} (hat : ∀ x zd, D.atKey (.string x) zd = atL (lookL l x) zd) (hs : sortedL l) (hC : Collected D left ss) (hl : ∀ kl, left kl = false) :
    (ss.mergeSort fun x y => decide (x ≤ y)) = l.map (·.1) := by
  have tr : ∀ a b c : List UInt8, decide (a ≤ b) = true → decide (b ≤ c) = true → decide (a ≤ c) = true := fun a b c h1 h2 => by simp only [decide_eq_true_eq] at *; exact List.le_trans h1 h2
  have to : ∀ a b : List UInt8, (decide (a ≤ b) || decide (b ≤ a)) = true := fun a b => by simp only [Bool.or_eq_true, decide_eq_true_eq]; exact List.le_total a b
  have hp := List.pairwise_mergeSort tr to ss
  have hpm := List.mergeSort_perm ss (fun x y => decide (x ≤ y))
  have hnd : (ss.mergeSort fun x y => decide (x ≤ y)).Nodup := hpm.nodup_iff.2 hC.1
  refine names_unique _ l ?_ hs (fun m => ?_)
  · exact (hp.and hnd).imp (fun {a b} h => lessB_of_le a b (by simpa using h.1) h.2)
  · rw [hpm.mem_iff, hC.2 m, hl, has_is hat m]
    cases lookL l m <;> simp
theorem mapKeptO {P : Program} {k : TypeId} {R : Value → Option (DataW Unit × List MemPlace)} {w w' : World} {b n : Nat} {D : DataW Unit} (h : w.ownsMap P k R b n D) (hf : Fr [] w w') : w'.ownsMap P k R b n D := by
  obtain ⟨es, c, hh, r⟩ := h
  exact ⟨es, c, hf.heap hh (by simp), r⟩
theorem Fr.grown {w w' : World} {row : Option Nat} (h : Fr row.toList w w') : w.grownBy w' row := ⟨h.os, h.tape, h.output, h.size, fun k hk hne => h.block k hk (fun hm => hne (Option.mem_toList.1 hm).symm)⟩
theorem infoS : (Tryz.prog.info? 9).map (fun i => (i.zero, i.size, i.bytes)) = some (some (.string ⟨#[]⟩), 1, 16) := by kernel_rfl
/-- A new slice of names. -/
def Namesd (l : List Ent) (w : World) (e : Ending) (w' : World) : Prop := ∃ v, e = .returned v ∧ w'.ownsRow w.heap.size 9 1 v l.length ((l.map (·.1)).map encStr) ∧ Fr [] w w'
def NamesRel (w : World) (bN m r n : Nat) (D : DataW Unit) (v : Value) (wr : World) : Prop :=
  ∃ (left : Lit → Bool) (cnt : Nat) (ss : List (List UInt8)), wr.ranges Tryz.prog 9 (plainElem Tryz.prog 3) bN r m D left cnt ∧ ss.length + cnt ≤ n ∧
      wr.ownsRow w.heap.size 9 1 v ss.length (ss.map encStr) ∧ v ≠ .slice none 0 0 ∧ Collected D left ss ∧ Fr [] w wr
set_option maxRecDepth 100000 in
set_option maxHeartbeats 1000000 in
theorem dnames_any (p m : Nat) (B : List Nat) (now safe : List Ent) (ops : List OpD) (w : World) (h : isD w p B now safe ops m) (hs : sortedL now) (hm : m ≤ 1000000) :
    Calls Tryz.prog 75 #[.pointer (some ⟨p, 0, none⟩)] w (Namesd now w) := by
  obtain ⟨i0, hi, hz0, hz1, hz2⟩ := info_parts infoS
  obtain ⟨bN, bS, pv, m2, hB, hp, ⟨D, hown, hat⟩, -⟩ := h
  obtain ⟨c0, c1, c2, f0, f1, f2⟩ := three_of_heap hp
  have hbl := hown.lt
  have hmax : Maps.size D ≤ 1000000 := Nat.le_trans hown.size_le hm
  have HP := Lib.hid hp
  have HAT := Lib.hid hat
  have HS := Lib.hid hs
  clear hp hat hs hB
  go_enter Tryz.func75, Tryz.ntmps75
  go_wp2_with (first
    | (at_len; go_loud (refine wpList_len_own _ rfl _ 98 rfl 9 3 Tryz.underlying98 _ bN m D rfl hown ?_))
    | (at_make; refine wpL_makeCap rfl _ _ 56 rfl 9 i0 (.string ⟨#[]⟩) 16 Tryz.underlying56 hi hz0 hz1 hz2 rfl 0 (Maps.size D) rfl rfl (Nat.zero_le _) (by omega) (by simp [maxLen]; omega) ?_; intro w1 hrow1 hf1 hs1; have hown1 : w1.ownsMap _ _ _ bN m D := (mapKeptO hown hf1); have HP1 := Lib.hid (hf1.heap HP.out (by simp)); obtain ⟨c0', c1', c2', f0', f1', f2'⟩ := three_of_heap HP1.out)
    | (at_range; refine wpList_range_own _ rfl _ 98 rfl 9 3 lawS Tryz.underlying98 _ bN m D rfl hown1 ?_; intro w0 hrg0 hg0 hs0))
  go_frame
  have hstart : NamesRel w bN m w1.heap.size (Maps.size D) D (.slice (some ⟨w.heap.size, 0, none⟩) 0 (Maps.size D)) w0 := ⟨_, _, [], hrg0, by simp, hrow1.kept hg0 (Or.inr (by simp [Value.ownBlock])), by simp, Collected.start D, hf1.trans (Fr.of_grown hg0) (by simp) (by simp)⟩
  have hs1w : w.heap.size ≤ w1.heap.size := hf1.size
  obtain ⟨it, hit⟩ : ∃ it, it = w1.heap.size := ⟨_, rfl⟩
  rw [← hit] at hstart hs1w ⊢
  have hown0 := hrg0.owns
  clear hit c0 c1 c2 f0 f1 f2 c0' c1' c2' f0' f1' f2' hrow1 hrg0 hg0 hs0 hown1 hown0 hs1 hf1 HP1
  go_loopw [3] (NamesRel w bN m it (Maps.size D) D) (fun _ wr => wr.rangeLeft bN it)
  case atStart => exact hstart
  case round =>
    clear hstart
    obtain ⟨left, cnt, ss, hrg, hcs, hrow, hnn, hC, hf⟩ := hrel
    go_wp2_with (at_next; refine wpList_next_ranges _ rfl _ rfl 9 lawS (plainElem Tryz.prog 3) encStr (Value.int .i64) (fun key kl hk => by obtain ⟨x, hx, _⟩ := Maps.keyOf_str Tryz.underlying9 hk; exact ⟨x, hx⟩) (fun v y hv => by obtain ⟨c, rfl, _⟩ := plainElem_int_inv Tryz.underlying3 hv; exact ⟨c, rfl⟩) bN it m _ _ _ rfl hrg ?_ ?_)
    · intro hc0 hl0
      have hss := collected_names HAT.out HS.out hC hl0
      rcases hrow.2 with ⟨hnil, _⟩ | ⟨g, cap, cur, rfl, hbase, hb, h1, h2, h3, h4⟩
      · exact absurd hnil hnn
      have hH : Holds encStr wr g 0 ss.toArray := holds_of_block hb (by simpa using h4)
      have hgl : g < wr.heap.size := (Array.getElem?_eq_some_iff.1 hb).1
      have HSO := Lib.hid (Tryz.slices_Sort_string g 0 cap ss wr hH hgl (by omega))
      have HSS := Lib.hid hss
      have HROW : Hid (∀ n os, (grow (putRow encStr (Sort.ahead wr n) g 0 (ss.mergeSort fun x y => decide (x ≤ y)).toArray) os).ownsRow w.heap.size 9 1 (.slice (some ⟨g, 0, none⟩) ss.length cap) ss.length ((ss.mergeSort fun x y => decide (x ≤ y)).map encStr)) := Lib.hid (fun n os => ownsRow_sorted (by simp) hbase hb h1 h2 h3)
      have HFR : Hid (∀ n os, Fr [] w (grow (putRow encStr (Sort.ahead wr n) g 0 (ss.mergeSort fun x y => decide (x ≤ y)).toArray) os)) := Lib.hid (fun n os => hf.trans (Fr.of_grown (grownBy_sorted _)) (by simp) (by simp; omega))
      clear hH hb h4 hrg hrow hss hC
      go_wp2_with (go_at_call 90; refine HSO.out.mono ?_; rintro e w' ⟨rfl, nn, os, rfl⟩)
      go_ret
      have hlen : ss.length = now.length := by
        have := congrArg List.length HSS.out
        simpa using this
      refine ⟨_, rfl, ?_, HFR.out nn os⟩
      have hr := HROW.out nn os
      rw [HSS.out] at hr
      rw [HSS.out, ← hlen]
      exact hr
    · intro x c kl yd yp w2 cnt2 hkey hlk hv hatx hrg2 hlt hg2 hs2 hen
      obtain ⟨x', ex, rfl, hxl⟩ := Maps.keyOf_str Tryz.underlying9 hkey
      obtain rfl : x = x' := encStr_inj ex
      have hrow2 := hrow.kept hg2 (Or.inr (row_ne_iter hrow hrg).symm)
      clear hs2
      have hws := hf.size
      have hw2 := hg2.size
      go_wp2_with (at_builtin; refine wpL_append1 rfl _ _ 56 rfl w.heap.size 9 i0 (.string ⟨#[]⟩) 16 Tryz.underlying56 hi hz0 hz1 hz2 rfl _ ss.length (ss.map encStr) rfl hrow2 (encStr x) rfl rfl (by omega) (by simp [maxLen]; omega) (by omega) ?_; intro v' w3 hown' hf3 hloc3; go_frame)
      have hrg3 := hrg2.kept hf3.grown (row_ne_low hrow2 hbl) (row_ne_iter hrow2 hrg2)
      refine ⟨⟨_, cnt2, ss ++ [x], hrg3, by simp; omega, by simpa using hown', ?_, hC.step hlk hatx, ?_⟩, by rw [hrg3.left_eq, hrg.left_eq]; exact hlt⟩
      · rintro rfl
        rcases hown'.2 with ⟨_, h0⟩ | ⟨g, cap, cur, e, _⟩
        · omega
        · cases e
      · exact (hf.trans (Fr.of_grown hg2) (n := []) (by simp) (by simp; omega)).trans hf3 (by simp) (fun k hk hlt => by have := (hrow2.lt k (Option.mem_toList.1 hk)).1; omega)
end Go.Proofs.YtmchnaojlnjmjaaGreat
