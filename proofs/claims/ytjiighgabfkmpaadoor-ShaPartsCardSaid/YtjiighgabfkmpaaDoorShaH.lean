/- Contract of package sha's Write. -/
import Derived.Test.YtjiighgabfkmpaaDoorShaG
import Derived.Test.YtjiighgabfkmpaaDoorRegionZ
import Derived.StillTailTactics
namespace Go.Proofs.YtjiighgabfkmpaaDoor
open Go.RowKit

def lenV : Value → Nat
  | .slice _ n _ => n
  | _ => 0
def WriteRel (p : Nat) (m bs : List UInt8) (w : World) (vs : Value) (wr : World) : Prop :=
  ∃ (a : Option Addr) (q : List UInt8) (k cap : Nat), vs = .slice a q.length cap ∧ q = bs.drop k ∧ k ≤ bs.length ∧ bytesAt wr vs q ∧ (∀ j, vs.ownBlock = some j → q ≠ [] → j ≠ p) ∧ isH wr p (m ++ bs.take k) ∧ Fr [p] w wr
theorem sizeHash : (Tryd.prog.info? 56).map (·.size) = some 73 := by kernel_rfl
/-- A load whose value is known, in the head of a region that draws its order. -/
theorem wpStill_load {P : Program} {ops : Array Oper} {w : World} {Q : Act → Prop} {a : Act} {o : Oper} {rest : List Oper} (hg : o.guard = none) (ty : TypeId) (x : Operand) (ho : o.op = .load ty x) (v : Value) (hv : (Instr.loadAt ty (a.eval x)).run P w = .ok v w)
    (h : wpStill P ops w Q rest (a.put o.dst v)) : wpStill P ops w Q (o :: rest) a :=
  wpStill_step fun K hK => by
    have hw : Region.wanted o (yielded ops a.tmps) = true := by simp [Region.wanted, hg]
    rw [if_pos hw]
    unfold Oper.still execOp
    simp only [ho, Sem.run_bind, hv, Result.andThen_ok, Sem.run_pure]
    exact ⟨rfl, hK _ h⟩
theorem rest_own (a A1 : Option Addr) (cap n l l' c' : Nat) (h : (if cap = n then a else a.map fun x => x.add n) = A1) : (Value.slice A1 l' c').ownBlock = (Value.slice a l cap).ownBlock := by
  rw [← h]
  split
  · cases a <;> rfl
  · exact ownBlock_map
theorem rest_bytes {w : World} {a A1 : Option Addr} {cap n : Nat} {q : List UInt8} (h : (if cap = n then a else a.map fun x => x.add n) = A1) (hn : n ≤ q.length) (hb : bytesAt w (.slice a q.length cap) q) : bytesAt w (.slice A1 (q.length - n) (cap - n)) (q.drop n) := by
  have := hb.cut (lo := n) (hi := q.length) hn (Nat.le_refl _)
  rw [List.take_length] at this
  simp only [Nat.mul_one] at this
  rwa [h] at this
set_option maxRecDepth 100000 in
theorem write_any (p : Nat) (m bs : List UInt8) (sv : Value) (w : World) (h : isH w p m) (hb : bytesAt w sv bs) (hp : ∀ j, sv.ownBlock = some j → bs ≠ [] → j ≠ p) (hr : rootsAt w) (hpr : p ≠ 0) (hlen : m.length + bs.length < 1000000000000) :
    Calls Tryd.prog 18 #[.pointer (some ⟨p, 0, none⟩), sv] w fun e w' => e = .returned (.tuple #[]) ∧ isH w' p (m ++ bs) ∧ Fr [p] w w' := by
  obtain ⟨a0, c0, rfl, hle, hmx⟩ := hb.form
  go_enter Tryd.func18, Tryd.ntmps18
  go_wp2_with fail
  go_loopw [1] (WriteRel p m bs w) (fun s _ => lenV s)
  case atStart => exact ⟨a0, bs, 0, c0, rfl, rfl, Nat.zero_le _, hb, hp, by simpa using h, Fr.refl _ _⟩
  case round =>
    clear h hb hp
    obtain ⟨a, q, k, cap, rfl, hq, hk, hbq, hpq, hH, hf⟩ := hrel
    have HQ := Lib.hid hq
    have HBQ := Lib.hid hbq
    have HPQ := Lib.hid hpq
    have HH := Lib.hid hH
    clear hq hbq hpq hH
    by_cases hq0 : 0 < q.length
    · have hd : decide (0 < q.length) = true := decide_eq_true hq0
      have hqne : q ≠ [] := List.length_pos_iff.1 hq0
      obtain ⟨mm, hmm⟩ : ∃ mm, mm = m ++ bs.take k := ⟨_, rfl⟩
      obtain ⟨op, hop, hheap⟩ := HH.out
      rw [← hmm] at hop hheap
      have hsz : wr.cell? ⟨p, 72, none⟩ = some (.int .i64 (mm.length : Int)) := by
        rw [cell_of_heap hheap, ← hashC_size (absorb (mm.length / 64) mm) op mm.length hop.1]
        simp
      have HMM := Lib.hid hmm
      have HOP := Lib.hid hop
      have HHP := Lib.hid hheap
      clear hmm hop hheap HH
      obtain ⟨r, hrr⟩ : ∃ r, r = mm.length % 64 := ⟨_, rfl⟩
      have hr64 : r < 64 := by omega
      have htm : (mm.length : Int).tmod 64 = (r : Int) := by rw [Int.tmod_eq_emod_of_nonneg (by omega), hrr]; omega
      have hr64n : ¬ 64 = r := by omega
      have hr64i : (r : Int) ≤ 64 := by omega
      have HRR := Lib.hid hrr
      clear hrr
      go_wp2_with fail
      go_still_tail 10, (by kernel_rfl)
      change wpList _ _ _ _ _ wr.drew
      have hfd : Fr [p] w wr.drew := hf.andDrew
      have HBD : Hid (bytesAt wr.drew (.slice a q.length cap) q) := Lib.hid (HBQ.out.below (Fr.drew wr))
      have HHD : Hid (wr.drew.heap[p]? = some (.cells (hashC (absorb (mm.length / 64) mm) op mm.length).toArray 56 (0, 0))) := Lib.hid HHP.out
      obtain ⟨wd, hwd⟩ : ∃ wd, wd = wr.drew := ⟨_, rfl⟩
      rw [← hwd] at hfd HBD HHD ⊢
      clear hwd hsz
      obtain ⟨n, hn⟩ : ∃ n, n = Nat.min q.length (64 - r) := ⟨_, rfl⟩
      have hnq : n ≤ q.length := by rw [hn]; exact Nat.min_le_left _ _
      have hnr : n ≤ 64 - r := by rw [hn]; exact Nat.min_le_right _ _
      have hn0 : 0 < n := by rw [hn]; exact Nat.lt_min.2 ⟨hq0, by omega⟩
      have hfit : 8 + r + n ≤ (hashC (absorb (mm.length / 64) mm) op mm.length).length := by rw [hashC_length _ _ _ HOP.out.1]; omega
      have HN := Lib.hid hn
      obtain ⟨st, hst⟩ : ∃ st, st = absorb (mm.length / 64) mm := ⟨_, rfl⟩
      rw [← hst] at HHD hfit
      obtain ⟨A1, hA1⟩ : ∃ A1, (if cap = n then a else a.map fun x => x.add n) = A1 := ⟨_, rfl⟩
      obtain ⟨op1, hop1⟩ : ∃ op1, op1 = splice op r (q.take n) := ⟨_, rfl⟩
      have hop1l : op1.length = 64 := by
        rw [hop1, splice_length _ _ _ (by rw [List.length_take, HOP.out.1]; omega)]
        exact HOP.out.1
      have hput := hashC_put st op mm.length r (q.take n) HOP.out.1 (by rw [List.length_take]; omega)
      rw [← hop1] at hput
      have hsz1 := hashC_size st op1 mm.length hop1l
      have hset1 := hashC_len st op1 mm.length (mm.length + n) hop1l
      have HPUT := Lib.hid hput
      have HST := Lib.hid hst
      have HOP1 := Lib.hid hop1
      have HS1 := Lib.hid hsz1
      have HL1 := Lib.hid hset1
      have HA1 := Lib.hid hA1
      clear hn hput hst hop1 hsz1 hset1
      have hmlen : mm.length + n ≤ m.length + bs.length := by
        rw [HMM.out, List.length_append, List.length_take]
        have := congrArg List.length HQ.out
        rw [List.length_drop] at this
        omega
      have hmb : (mm.length : Int) + n < 1000000000000 := by omega
      have hr2 := HRR.out
      by_cases hfull : r + n = 64
      · have hd2 : (((mm.length : Int) + n) % 64 == 0) = true := by rw [beq_iff_eq]; omega
        clear hr2 hmlen
        go_wp2_with (refine wpL_copyMin rfl (.tmp 18) (.tmp 19) 22 22 rfl 5 Tryd.underlying22 size8 p (8 + r) (64 - r) (64 - r) _ q rfl rfl HBD.out hqne n HN.out _ 56 HHD.out hfit ?_; intro w1 hh1 hf1 hs1; have hH1 : w1.heap[p]? = some (.cells (hashC st op1 mm.length).toArray 56 (0, 0)) := (by rw [← HPUT.out]; exact hh1.out); have hc1 : w1.cell? ⟨p, 72, none⟩ = some (.int .i64 (mm.length : Int)) := (by rw [cell_of_heap hH1, ← HS1.out]; simp); have hfree1 := free_of_heap hH1 72; have HH1 := Lib.hid hH1; clear hH1 hh1)
        obtain ⟨w2, hw2⟩ : ∃ w2, w2 = w1.setCell ⟨p, 72, none⟩ (.int .i64 ((mm.length : Int) + n)) := ⟨_, rfl⟩
        have hH2 : w2.heap[p]? = some (.cells (hashC st op1 (mm.length + n)).toArray 56 (0, 0)) := by
          rw [hw2, heap_setCell_same HH1.out, ← HL1.out]
          simp
        have hf2 : Fr [p] w w2 := by
          rw [hw2]
          exact (hfd.trans hf1 (fun i hi _ => hi) (n := [p]) (fun i hi _ => hi)).trans (Fr.set0 w1 p 72 _) (fun i hi _ => hi) (fun i hi _ => hi)
        have hl8 : (Tryd.prog.info? 29).map (·.size) = some (stC st).toList.length := sizeN8 st
        have hl64 : (Tryd.prog.info? 50).map (·.size) = some (cellsB op1).length := by rw [cellsB_length, hop1l]; exact sizeB64
        rw [← hw2]
        have HW2 := Lib.hid hw2
        have HH2 := Lib.hid hH2
        have HL8 := Lib.hid hl8
        have HL64 := Lib.hid hl64
        have hok : st.ok := by rw [HST.out]; exact absorb_ok _ _
        have HC := Lib.hid (fun wx hx => process_any st op1 wx hok hop1l hx)
        have HRT := Lib.hid (hr.kept hf2 (by simp; omega))
        clear hw2 hH2 hc1 hfree1 hl8 hl64
        refine wp_region_Z [] 12 [(0, false), (1, false), (2, false), (3, false), (4, false), (5, false), (6, false), (7, false), (8, false), (9, true), (10, true), (11, true), (12, true)] 50 rfl (by kernel_rfl) (by kernel_rfl) (by kernel_rfl) (fun c a d v w h => by cases d <;> exact h) (fun w3 hf3 => ?_)
        simp only [List.map_cons, List.map_nil, List.getElem?_toArray, List.getElem?_cons_succ, List.getElem?_cons_zero, Option.getD_some]
        have LH : Hid (Later [] w3 (fun w' => w'.heap[p]? = some (.cells (hashC st op1 (mm.length + n)).toArray 56 (0, 0)))) := Lib.hid (fun w' hf' => hf'.heap (hf3.heap HH2.out (by simp)) (by simp))
        repeat (apply walkZ_t; · (intro w' hf'; first
          | (refine wpList_load_mid rfl 29 _ rfl p 0 rfl (stC st).toList _ (range_of_heap (LH.out w' hf') 0 _ (hashC_state st op1 _)) Tryd.underlying29 rfl HL8.out ?_; exact ⟨rfl, rfl⟩)
          | (refine wpList_load_mid rfl 50 _ rfl p 8 rfl (cellsB op1) _ (range_of_heap (LH.out w' hf') 8 _ (by rw [cellsB_length, hop1l]; exact hashC_open st op1 _ hop1l)) Tryd.underlying50 rfl HL64.out ?_; exact ⟨rfl, rfl⟩)
          | (go_wp2_with fail; exact ⟨rfl, rfl⟩)))
        refine walkZ_x ?_
        go_wp2_with (go_at_call 24; refine (HC.out _ (HRT.out.below hf3)).mono ?_; rintro e w4 ⟨rfl, hf4⟩)
        refine ⟨.inr hf4, rfl, ?_⟩
        refine walkZ_x ?_
        go_wp2_with fail
        refine ⟨Fr.refl _ _, rfl, ?_⟩
        refine walkZ_x ?_
        go_wp2_with fail
        refine ⟨Fr.refl _ _, rfl, ?_⟩
        refine walkZ_x ?_
        have HT4 := Lib.hid (there_of_heap (hf4.heap (LH.out w3 (Fr.refl _ _)) (by simp)) 0 8 (by rw [hashC_length _ _ _ hop1l]; omega))
        go_wp2_with (refine wpList_store_mid rfl 29 _ _ rfl p 0 (stC (blockSt st op1)) rfl rfl HT4.out (sizeN8 _) (stC_one _) ?_)
        refine ⟨rfl, walkZ_end ?_⟩
        go_wp2_with fail
        have e := open_full mm q op n HOP.out hnq (by rw [← HRR.out]; omega)
        rw [← HRR.out, ← HOP1.out] at e
        have hcat : mm ++ q.take n = m ++ bs.take (k + n) := by rw [HMM.out, HQ.out, List.append_assoc, List.take_add]
        have hlen2 : (mm ++ q.take n).length = mm.length + n := by rw [List.length_append, List.length_take]; omega
        have hkn : k + n ≤ bs.length := by
          have := congrArg List.length HQ.out
          rw [List.length_drop] at this
          omega
        have hf5 : Fr [p] w (w4.setCells p 0 (stC (blockSt st op1)).toList) := ((hf2.trans hf3 (fun i hi _ => hi) (n := [p]) (by simp)).trans hf4 (fun i hi _ => hi) (n := [p]) (by simp)).trans (Fr.setCells p _ 0 w4) (fun i hi _ => hi) (fun i hi _ => hi)
        have hown := rest_own a A1 cap n q.length (q.length - n) (cap - n) HA1.out
        have hbr := rest_bytes HA1.out hnq HBD.out
        have hf6 : Fr [p] wd (w4.setCells p 0 (stC (blockSt st op1)).toList) := by
          have g2 : Fr [p] wd w2 := by
            rw [HW2.out]
            exact hf1.trans (Fr.set0 w1 p 72 _) (fun i hi _ => hi) (fun i hi _ => hi)
          exact ((g2.trans hf3 (fun i hi _ => hi) (n := [p]) (by simp)).trans hf4 (fun i hi _ => hi) (n := [p]) (by simp)).trans (Fr.setCells p _ 0 w4) (fun i hi _ => hi) (fun i hi _ => hi)
        go_roundw
        case rel =>
          refine ⟨A1, q.drop n, k + n, cap - n, by rw [List.length_drop], by rw [HQ.out, List.drop_drop], hkn, ?_, ?_, ?_, hf5⟩
          · refine hbr.kept hf6 (fun j hj hne _ => ?_)
            rw [hown] at hj
            have := HPQ.out j hj hqne
            simpa using this
          · intro j hj _
            rw [hown] at hj
            exact HPQ.out j hj hqne
          · rw [← hcat]
            refine ⟨op1, e.1, ?_⟩
            rw [heap_setCells p _ 0 w4 _ (by rw [hashC_length _ _ _ hop1l]; exact (by decide : (0 + 8 ≤ 73))) (hf4.heap (LH.out w3 (Fr.refl _ _)) (by simp)), hashC_turn, e.2, hlen2, ← HST.out]
        case measure => simp only [lenV]; omega
      · have hd2 : (((mm.length : Int) + n) % 64 == 0) = false := by rw [beq_eq_false_iff_ne]; omega
        clear hr2 hmlen
        go_wp2_with (refine wpL_copyMin rfl (.tmp 18) (.tmp 19) 22 22 rfl 5 Tryd.underlying22 size8 p (8 + r) (64 - r) (64 - r) _ q rfl rfl HBD.out hqne n HN.out _ 56 HHD.out hfit ?_; intro w1 hh1 hf1 hs1; have hH1 : w1.heap[p]? = some (.cells (hashC st op1 mm.length).toArray 56 (0, 0)) := (by rw [← HPUT.out]; exact hh1.out); have hc1 : w1.cell? ⟨p, 72, none⟩ = some (.int .i64 (mm.length : Int)) := (by rw [cell_of_heap hH1, ← HS1.out]; simp); have hfree1 := free_of_heap hH1 72; have HH1 := Lib.hid hH1; clear hH1 hh1)
        have e := open_some mm q op n HOP.out hnq (by rw [← HRR.out]; omega)
        rw [← HRR.out, ← HOP1.out] at e
        have hcat : mm ++ q.take n = m ++ bs.take (k + n) := by rw [HMM.out, HQ.out, List.append_assoc, List.take_add]
        have hlen2 : (mm ++ q.take n).length = mm.length + n := by rw [List.length_append, List.length_take]; omega
        have hkn : k + n ≤ bs.length := by
          have := congrArg List.length HQ.out
          rw [List.length_drop] at this
          omega
        have hf2 : Fr [p] w (w1.setCell ⟨p, 72, none⟩ (.int .i64 ((mm.length : Int) + n))) := (hfd.trans hf1 (fun i hi _ => hi) (n := [p]) (fun i hi _ => hi)).trans (Fr.set0 w1 p 72 _) (fun i hi _ => hi) (fun i hi _ => hi)
        have hown := rest_own a A1 cap n q.length (q.length - n) (cap - n) HA1.out
        have hbr := rest_bytes HA1.out hnq HBD.out
        refine ⟨⟨A1, q.drop n, k + n, cap - n, by rw [List.length_drop], by rw [HQ.out, List.drop_drop], hkn, ?_, ?_, ?_, hf2⟩, by simp only [lenV]; omega⟩
        · refine (hbr.kept hf1 (fun j hj hne _ => ?_)).kept (Fr.set0 w1 p 72 _) (fun j hj hne _ => ?_)
          · rw [hown] at hj
            have := HPQ.out j hj hqne
            simpa using this
          · rw [hown] at hj
            have := HPQ.out j hj hqne
            simpa using this
        · intro j hj _
          rw [hown] at hj
          exact HPQ.out j hj hqne
        · rw [← hcat]
          refine ⟨op1, e.1, ?_⟩
          rw [heap_setCell_same HH1.out, e.2, hlen2, ← HST.out, ← HL1.out]
          simp
    · have hd : decide (0 < q.length) = false := decide_eq_false hq0
      go_wp2_with fail
      go_end0
      have hk' : k = bs.length := by have := congrArg List.length HQ.out; simp at this; omega
      have hH := HH.out
      rw [hk', List.take_length] at hH
      exact ⟨rfl, hH, hf⟩
end Go.Proofs.YtjiighgabfkmpaaDoor
