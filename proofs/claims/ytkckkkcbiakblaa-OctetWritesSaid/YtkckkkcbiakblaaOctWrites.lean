/- OctetWrites: what is put down. -/
import Derived.Test.YtkckkkcbiakblaaOctLaw
import Derived.Test.YtkckkkcbiakblaaRegion
import Derived.Deep.DeepCutAuto
namespace Go.Proofs.Ytkckkkcbiakblaa
open Go.RowKit

/-- Something that is put down: N, V, the slice B, and the bytes that B reads as. -/
structure PutR where
  n : Int
  v : Nat
  bv : Value
  b : List UInt8
def putCells (l : List PutR) : List (List Value) := l.map fun p => [.int .i64 p.n, .int .u64 p.v, p.bv]
def putsOk (w : World) (l : List PutR) : Prop := ∀ p ∈ l, bytesAt w p.bv p.b ∧ p.v ≤ 18446744073709551615
theorem putCells_length (l : List PutR) : (putCells l).length = l.length := by simp [putCells]
/-- The cells of the k-th. -/
theorem put_cells {w : World} {v : Value} {l : List PutR} (h : elemsAt w v 3 (putCells l)) (k : Nat) (hk : k < l.length) : ∃ b off cap, v = .slice (some ⟨b, off, none⟩) l.length cap ∧
    w.cell? ⟨b, off + k * 3, none⟩ = some (.int .i64 (l[k]'hk).n) ∧ w.cell? ⟨b, off + k * 3 + 1, none⟩ = some (.int .u64 (l[k]'hk).v) ∧ w.cell? ⟨b, off + k * 3 + 2, none⟩ = some (l[k]'hk).bv := by
  rcases h with ⟨_, _, _, _, e⟩ | ⟨b, off, cap, rfl, h1, h2, hb, h3⟩
  · exact absurd (congrArg List.length e) (by rw [putCells_length, List.length_nil]; omega)
  · have hkg : k < (putCells l).length := by rw [putCells_length]; exact hk
    obtain ⟨-, hc⟩ := h3 k hkg
    have e : (putCells l)[k]'hkg = [.int .i64 (l[k]'hk).n, .int .u64 (l[k]'hk).v, (l[k]'hk).bv] := by simp [putCells]
    rw [e] at hc
    exact ⟨b, off, cap, by rw [putCells_length], hc 0 _ rfl, hc 1 _ rfl, hc 2 _ rfl⟩

def fewB (l : List PutR) : Bool := decide (l.length ≤ 60 ∧ ∀ p ∈ l, p.b.length ≤ 100)
def FewRel (l : List PutR) (s3 : Value) : Prop := ∃ k : Nat, k ≤ l.length ∧ s3 = .int .i64 k ∧ ∀ p ∈ l.take k, p.b.length ≤ 100
theorem few_any (v : Value) (l : List PutR) (w : World) (h : elemsAt w v 3 (putCells l)) (hp : putsOk w l) :
    Calls Try.prog 6 #[v] w fun e w' => e = .returned (.bool (fewB l)) ∧ w = w' := by
  obtain ⟨a, c, rfl, h1, h2⟩ := h.form
  have hm : c ≤ 9223372036854775807 := by simpa [maxLen] using h2
  rw [putCells_length] at *
  by_cases h60 : 60 < l.length
  · have hb : fewB l = false := decide_eq_false (by omega)
    have hb1 : decide (60 < (l.length : Int)) = true := decide_eq_true (by omega)
    go_enter Try.func6, Try.ntmps6
    go_wp2
    go_ret
    exact ⟨by rw [hb]; rfl, rfl⟩
  · have hb1 : decide (60 < (l.length : Int)) = false := decide_eq_false (by omega)
    go_enter Try.func6, Try.ntmps6
    go_wp2_with fail
    go_loop [3] (FewRel l) (fun i => l.length - (intOf i).toNat)
    case atStart => exact ⟨0, Nat.zero_le _, rfl, by simp⟩
    case round =>
      obtain ⟨k, hk, rfl, hall⟩ := hrel
      by_cases hkl : k < l.length
      · obtain ⟨b, off, cap, e, -, -, hc⟩ := put_cells h k hkl
        simp only [Value.slice.injEq] at e
        obtain ⟨rfl, -, rfl⟩ := e
        obtain ⟨p, hpe⟩ : ∃ p, p = l[k]'hkl := ⟨_, rfl⟩
        have hpm : p ∈ l := by rw [hpe]; exact List.getElem_mem hkl
        rw [← hpe] at hc
        obtain ⟨a', c', hbv, -, -⟩ := (hp p hpm).1.form
        rw [hbv] at hc
        have HALL := Lib.hid hall
        have HPE := Lib.hid hpe
        clear hall hpe hbv
        have hkk : (k : Int) < (l.length : Int) := by omega
        by_cases h100 : 100 < p.b.length
        · have hb : fewB l = false := decide_eq_false (fun q => by have := q.2 p hpm; omega)
          have HB := Lib.hid hb
          clear hb
          go_wp2
          go_ret
          exact ⟨by rw [HB.out]; rfl, rfl⟩
        · go_wp2
          refine ⟨⟨k + 1, by omega, rfl, ?_⟩, by simp [intOf]; omega⟩
          intro q hq
          rw [List.take_succ_eq_append_getElem hkl] at hq
          rcases List.mem_append.1 hq with hq | hq
          · exact HALL.out q hq
          · rw [List.mem_singleton, ← HPE.out] at hq
            subst hq; omega
      · obtain rfl : k = l.length := by omega
        rw [List.take_length] at hall
        have hb : fewB l = true := decide_eq_true ⟨by omega, hall⟩
        have HB := Lib.hid hb
        clear hb hall
        go_wp2
        go_ret
        exact ⟨by rw [HB.out]; rfl, rfl⟩

theorem writes_big (v : Value) (l : List PutR) (w : World) (h : elemsAt w v 3 (putCells l)) (hp : putsOk w l) (hf : fewB l = false) :
    Calls Try.prog 3 #[v] w fun e w' => e = .returned (.bool true) ∧ Fr [] w w' := by
  have HF := few_any v l w h hp
  rw [hf] at HF
  have HF := Lib.hid HF
  obtain ⟨a, c, rfl, -, -⟩ := h.form
  clear h hp hf
  go_enter Try.func3, Try.ntmps3
  go_wp2_with (first
    | (go_at_call 6; refine HF.out.mono ?_; rintro e w' ⟨rfl, rfl⟩)
    | (go_at_call 7; refine (awake_any _).mono ?_; rintro e w' ⟨rfl, hf⟩))
  go_ret
  exact ⟨rfl, hf⟩

/-- Between the rounds: the writer and the row 'all' hold the same bytes, in blocks of the call's own, apart from one another. -/
def WrRel (W : World) (p : Nat) (l : List PutR) (s4 s5 : Value) (wr : World) : Prop :=
  ∃ (k : Nat) (g : Option Nat) (bs : List UInt8), k ≤ l.length ∧ s5 = .int .i64 (k : Int) ∧ isW wr p g bs ∧ wr.ownsRow W.heap.size 5 1 s4 bs.length (cellsB bs) ∧
    (∀ j, g = some j → W.heap.size ≤ j ∧ s4.ownBlock ≠ some j) ∧ s4.ownBlock ≠ some p ∧ Fr [] W wr ∧ bs.length ≤ k * 100
/-- A round's end: the writer has grown, and so has the row. -/
theorem wr_step {W wr w3 w4 : World} {p : Nat} {g g3 : Option Nat} {bs bs3 : List UInt8} {s4 s4' : Value} (hp : W.heap.size ≤ p) (hw : isW wr p g bs) (hall : wr.ownsRow W.heap.size 5 1 s4 bs.length (cellsB bs))
    (hg : ∀ j, g = some j → W.heap.size ≤ j ∧ s4.ownBlock ≠ some j) (hs : s4.ownBlock ≠ some p) (hsz : W.heap.size ≤ wr.heap.size) (hsz3 : wr.heap.size ≤ w3.heap.size)
    (hw3 : isW w3 p g3 bs3) (hg3 : g3 = g ∨ ∃ k, g3 = some k ∧ wr.heap.size ≤ k) (hf4 : Fr s4.ownBlock.toList w3 w4) (ho : s4'.ownBlock = s4.ownBlock ∨ s4'.ownBlock = some w3.heap.size) :
    isW w4 p g3 bs3 ∧ (∀ j, g3 = some j → W.heap.size ≤ j ∧ s4'.ownBlock ≠ some j) ∧ s4'.ownBlock ≠ some p := by
  have hlt := hall.lt
  have hw3l := hw3.lt
  have h1 : ∀ j, g3 = some j → W.heap.size ≤ j ∧ s4.ownBlock ≠ some j := by
    intro j hj
    rcases hg3 with rfl | ⟨k, rfl, hk⟩
    · exact hg j hj
    · cases hj
      exact ⟨by omega, fun e => by have := (hlt j e).2; omega⟩
  refine ⟨hw3.kept hf4 ?_ ?_, ?_, ?_⟩
  · intro q
    simp only [Option.mem_toList] at q
    exact hs q
  · intro j hj q
    simp only [Option.mem_toList] at q
    exact (h1 j hj).2 q
  · intro j hj
    refine ⟨(h1 j hj).1, fun e => ?_⟩
    rcases ho with q | q
    · exact (h1 j hj).2 (q ▸ e)
    · have := hw3l.2 j hj
      rw [q] at e
      cases e
      omega
  · intro e
    rcases ho with q | q
    · exact hs (q ▸ e)
    · have := hw3l.1
      rw [q] at e
      cases e
      omega

theorem notin {S p j : Nat} {g : Option Nat} (hj : j < S) (hp : S ≤ p) (hg : ∀ j, g = some j → S ≤ j) : j ∉ p :: g.toList := by
  intro q
  rcases List.mem_cons.1 q with rfl | q
  · omega
  · have := hg j (by simpa using q); omega
theorem fr_own {W a b : World} {p : Nat} {g : Option Nat} (h : Fr [] W a) (hf : Fr (p :: g.toList) a b) (hp : W.heap.size ≤ p) (hg : ∀ j, g = some j → W.heap.size ≤ j) : Fr [] W b :=
  h.trans hf (by simp) fun i hi hlt => absurd hi (notin hlt hp hg)
theorem fr_row {W a b : World} {g : Option Nat} (h : Fr [] W a) (hf : Fr g.toList a b) (hg : ∀ j, g = some j → W.heap.size ≤ j) : Fr [] W b :=
  h.trans hf (by simp) fun i hi hlt => by have := hg i (by simpa using hi); omega

set_option maxRecDepth 100000 in
set_option maxHeartbeats 2000000 in
theorem writes_small (v : Value) (l : List PutR) (w : World) (h : elemsAt w v 3 (putCells l)) (hp : putsOk w l) (hfew : fewB l = true) :
    Calls Try.prog 3 #[v] w fun e w' => e = .returned (.bool true) ∧ Fr [] w w' := by
  have HF := few_any v l w h hp
  rw [hfew] at HF
  have HF := Lib.hid HF
  have hfw := of_decide_eq_true hfew
  clear hfew
  have hltw := h.lt
  obtain ⟨a, c, rfl, -, -⟩ := h.form
  rw [putCells_length] at *
  obtain ⟨i, hi, hz0, hz1, hz2⟩ := info_parts infoB
  go_enter Try.func3, Try.ntmps3
  go_wp2_with (first
    | (go_at_call 6; refine HF.out.mono ?_; rintro e w' ⟨rfl, rfl⟩)
    | (go_at_call 8; refine (write_any _).mono ?_; rintro e w1 ⟨p, rfl, hw1, hf1, hp1⟩))
  go_loopw [4, 5] (WrRel w p l) (fun _ i _ => l.length - (intOf i).toNat)
  case atStart => exact ⟨0, none, [], Nat.zero_le _, rfl, hw1, World.ownsRow_nil _ _ _ _, by simp, by simp [Value.ownBlock], hf1, by simp⟩
  case round =>
    obtain ⟨k, g, bs, hk, rfl, hw, hall, hg, hs, hfr, hbl⟩ := hrel
    clear hw1 hf1
    have hgs : ∀ j, g = some j → w.heap.size ≤ j := fun j hj => (hg j hj).1
    by_cases hkl : k < l.length
    · obtain ⟨b0, off, cap, e, hc0, hc1, hc2⟩ := put_cells (h.below hfr) k hkl
      simp only [Value.slice.injEq] at e
      obtain ⟨rfl, -, rfl⟩ := e
      have hb0 : b0 < w.heap.size := hltw (fun q => by have := congrArg List.length q; rw [putCells_length, List.length_nil] at this; omega) b0 rfl
      obtain ⟨pr, hpe⟩ : ∃ pr, pr = l[k]'hkl := ⟨_, rfl⟩
      have hpm : pr ∈ l := by rw [hpe]; exact List.getElem_mem hkl
      rw [← hpe] at hc0 hc1 hc2
      clear hpe
      have hpb := (hp pr hpm).1
      have hpv := (hp pr hpm).2
      have hb100 := hfw.2 pr hpm
      have hplt := hpb.lt
      obtain ⟨n, v, bv, b⟩ := pr
      simp only at hc0 hc1 hc2 hpb hpv hb100 hplt
      have hkk : (k : Int) < (l.length : Int) := by omega
      have hfrs := hfr.size
      obtain ⟨ab, cb, rfl, -, -⟩ := hpb.form
      have hlw := hw.lt
      have hallt := hall.lt
      by_cases hn : n < 0
      · have hd : decide (n < 0) = true := decide_eq_true hn
        go_wp2_with fail
        have hrow : rowsAt (p :: g.toList) (wr.alloc (.cells #[.slice ab b.length cb] 27)) (.slice (some ⟨wr.heap.size, 0, none⟩) 1 1) [b] := by
          refine rowsAt_new _ wr [.slice ab b.length cb] [b] _ 1 rfl rfl (by simp [maxLen]) (fun q => ?_) ?_
          · rcases List.mem_cons.1 q with q | q
            · omega
            · have := hlw.2 wr.heap.size (by simpa using q); omega
          · intro i hi hi'
            match i, hi with
            | 0, _ => exact ⟨hpb.below hfr, fun j hj hne => notin (hplt hne j hj) hp1 hgs⟩
        have hwA := hw.kept (Fr.alloc wr (.cells #[.slice ab b.length cb] 27)) (by simp) (by simp)
        refine (raw_any p g bs [b] _ _ hwA hrow (by simp; omega)).mono ?_
        rintro e w3 ⟨rfl, g3, hw3, hf3, hg3⟩
        have hf3' : Fr (p :: g.toList) wr w3 := (Fr.alloc wr _).trans hf3 (by simp) (fun i hi _ => hi)
        rw [show bs ++ [b].flatten = bs ++ b from by simp] at hw3
        have hc0' := hf3'.cell hc0 (notin hb0 hp1 hgs)
        have hc2' := hf3'.cell hc2 (notin hb0 hp1 hgs)
        have hfW3 := fr_own hfr hf3' hp1 hgs
        have hall3 := owns_kept hall hf3' (fun j hj q => by
          rcases List.mem_cons.1 q with rfl | q
          · exact hs hj
          · exact (hg j (by simpa using q)).2 hj)
        have hg3' : g3 = g ∨ ∃ k, g3 = some k ∧ wr.heap.size ≤ k := by
          rcases hg3 with q | ⟨j, q, hj⟩
          · exact .inl q
          · exact .inr ⟨j, q, by simp at hj; omega⟩
        have hpb3 := hpb.below hfW3
        have hsz3 := hf3'.size
        clear hrow hwA hc0 hc1 hc2 hg3
        go_wp2_with (at_builtin; refine wpL_append rfl (.tmp 33) (.tmp 38) 27 rfl w.heap.size 5 i (.int .u8 0) Try.underlying27 hi hz0 hz1 hz2 rfl u4 bs rfl hall3 _ b rfl hpb3 (by omega) (by omega) ?_; intro v4 w4 hall4 hf4 ho4)
        obtain ⟨q1, q2, q3⟩ := wr_step hp1 hw hall hg hs hfrs hsz3 hw3 hg3' hf4 ho4
        refine ⟨⟨k + 1, g3, bs ++ b, by omega, rfl, q1, hall4, q2, q3, fr_row hfW3 hf4 (fun j hj => (hallt j hj).1), by simp; omega⟩, by simp [intOf]; omega⟩
      · have hd : decide (n < 0) = false := decide_eq_false hn
        clear hpb hplt hb100
        by_cases hC : 1 ≤ n ∧ n ≤ 8 ∧ v < 256 ^ n.toNat
        · have hdC := decide_eq_true hC
          go_wp2_with fail
          refine wp_region_G [] [(0, false), (1, false), (2, false), (3, false), (4, false), (5, false), (6, false), (7, false), (8, false), (9, false), (10, true), (11, false), (12, false), (13, false), (14, false), (15, false)] 88 rfl (by kernel_rfl) (by kernel_rfl) (by kernel_rfl) (fun c a d v w h => by cases d <;> exact h) (fun w6 hf6 => ?_)
          simp only [List.map_cons, List.map_nil, List.getElem?_toArray, List.getElem?_cons_succ, List.getElem?_cons_zero, Option.getD_some]
          have hc06 := hf6.cell hc0 (by simp)
          have hc16 := hf6.cell hc1 (by simp)
          clear hc0 hc1 hc2
          have HD := Lib.hid hdC
          clear hdC
          repeat (apply wpG_t; · (intro w' hf; have cA := hf.cell hc06 (by simp); have cB := hf.cell hc16 (by simp); go_wp2; exact ⟨rfl, rfl⟩))
          refine wpG_x ?_
          go_wp2_with fail
          refine (lawbytes_any n v _ hpv).mono ?_
          rintro e w7 ⟨_, rfl, rv, rfl, hrv, hf7⟩
          rw [HD.out]
          rw [if_pos ⟨hC.1, hC.2.1⟩] at hrv
          go_wp2
          refine ⟨hf7, rfl, ?_⟩
          repeat (apply wpG_t; · (intro w' hf; go_wp2; exact ⟨rfl, rfl⟩))
          refine wpG_end ?_
          have hc07 := hf7.cell hc06 (by simp)
          have hc17 := hf7.cell hc16 (by simp)
          have hfr7 : Fr [] wr w7 := hf6.trans hf7 (by simp) (by simp)
          have hw7 := hw.kept hfr7 (by simp) (by simp)
          have hall7 := owns_kept hall hfr7 (by simp)
          clear hc06 hc16
          go_wp2_with fail
          refine wp_region_G (p :: g.toList) [(0, false), (1, false), (2, false), (3, false), (4, false), (5, false), (6, false), (7, false), (8, false), (9, false), (10, false), (12, false), (11, true), (13, false)] 88 rfl (by kernel_rfl) (by kernel_rfl) (by kernel_rfl) (fun c a d v w h => by cases d <;> exact h) (fun w8 hf8 => ?_)
          simp only [List.map_cons, List.map_nil, List.getElem?_toArray, List.getElem?_cons_succ, List.getElem?_cons_zero, Option.getD_some]
          have hc08 := hf8.cell hc07 (by simp)
          have hc18 := hf8.cell hc17 (by simp)
          have hni := notin hb0 hp1 hgs
          clear hc07 hc17
          repeat (apply wpG_t; · (intro w' hf; have cA := hf.cell hc08 hni; have cB := hf.cell hc18 hni; go_wp2; exact ⟨rfl, rfl⟩))
          refine wpG_x ?_
          go_wp2_with fail
          refine (num_any p g bs n v _ (hw7.kept hf8 (by simp) (by simp)) hpv (by omega)).mono ?_
          rintro e w9 ⟨rfl, g9, hw9, hf9, hg9⟩
          rw [HD.out]
          rw [if_pos hC] at hw9
          go_wp2
          refine ⟨hf9, rfl, ?_⟩
          repeat (apply wpG_t; · (intro w' hf; go_wp2; exact ⟨rfl, rfl⟩))
          refine wpG_end ?_
          have hfr9 : Fr (p :: g.toList) wr w9 := (hfr7.trans hf8 (by simp) (n := []) (by simp)).trans hf9 (by simp) (fun i hi _ => hi)
          have hall9 := owns_kept hall hfr9 (fun j hj q => by
            rcases List.mem_cons.1 q with rfl | q
            · exact hs hj
            · exact (hg j (by simpa using q)).2 hj)
          have hg9' : g9 = g ∨ ∃ k, g9 = some k ∧ wr.heap.size ≤ k := by
            have h8 := hfr7.size
            have h9 := hf8.size
            rcases hg9 with q | ⟨j, q, hj⟩
            · exact .inl q
            · exact .inr ⟨j, q, by omega⟩
          have hrb9 : bytesAt w9 rv (be n.toNat v) := (bytesAt_of_owns hrv).kept (hf8.trans hf9 (by simp) (n := p :: g.toList) (fun i hi _ => hi)) (fun j hj _ _ q => by
            have h1 := (hrv.lt j hj).1
            have h6 := hf6.size
            rcases List.mem_cons.1 q with rfl | q
            · omega
            · have := hlw.2 j (by simpa using q); omega)
          have hfW9 := fr_own hfr hfr9 hp1 hgs
          have hsz9 := hfr9.size
          have hbel := be_length n.toNat v
          have HBE := Lib.hid hbel
          clear hbel hc08 hc18 hrv HD
          go_wp2_with (at_builtin; refine wpL_append rfl (.tmp 69) (.tmp 70) 27 rfl w.heap.size 5 i (.int .u8 0) Try.underlying27 hi hz0 hz1 hz2 rfl u4 bs rfl hall9 _ (be n.toNat v) rfl hrb9 (by rw [HBE.out]; omega) (by omega) ?_; intro v4 w4 hall4 hf4 ho4)
          obtain ⟨q1, q2, q3⟩ := wr_step hp1 hw hall hg hs hfrs hsz9 hw9 hg9' hf4 ho4
          refine ⟨⟨k + 1, g9, bs ++ be n.toNat v, by omega, rfl, q1, hall4, q2, q3, fr_row hfW9 hf4 (fun j hj => (hallt j hj).1), by rw [List.length_append, HBE.out]; omega⟩, by simp [intOf]; omega⟩
        · have hdC := decide_eq_false hC
          go_wp2_with fail
          refine wp_region_G [] [(0, false), (1, false), (2, false), (3, false), (4, false), (5, false), (6, false), (7, false), (8, false), (9, false), (10, true), (11, false), (12, false), (13, false), (14, false), (15, false)] 88 rfl (by kernel_rfl) (by kernel_rfl) (by kernel_rfl) (fun c a d v w h => by cases d <;> exact h) (fun w6 hf6 => ?_)
          simp only [List.map_cons, List.map_nil, List.getElem?_toArray, List.getElem?_cons_succ, List.getElem?_cons_zero, Option.getD_some]
          have hc06 := hf6.cell hc0 (by simp)
          have hc16 := hf6.cell hc1 (by simp)
          clear hc0 hc1 hc2
          have HD := Lib.hid hdC
          clear hdC
          repeat (apply wpG_t; · (intro w' hf; have cA := hf.cell hc06 (by simp); have cB := hf.cell hc16 (by simp); go_wp2; exact ⟨rfl, rfl⟩))
          refine wpG_x ?_
          go_wp2_with fail
          refine (lawbytes_any n v _ hpv).mono ?_
          rintro e w7 ⟨_, rfl, rv, rfl, hrv, hf7⟩
          rw [HD.out]
          have hrf : ∃ ra rl rc, rv = .slice ra rl rc := by
            split at hrv
            · obtain ⟨ra, rc, e, -, -⟩ := (bytesAt_of_owns hrv).form
              exact ⟨_, _, _, e⟩
            · exact ⟨_, _, _, hrv⟩
          obtain ⟨ra, rl, rc, rfl⟩ := hrf
          clear hrv
          go_wp2
          refine ⟨hf7, rfl, ?_⟩
          repeat (apply wpG_t; · (intro w' hf; go_wp2; exact ⟨rfl, rfl⟩))
          refine wpG_end ?_
          have hc07 := hf7.cell hc06 (by simp)
          have hc17 := hf7.cell hc16 (by simp)
          have hfr7 : Fr [] wr w7 := hf6.trans hf7 (by simp) (by simp)
          have hw7 := hw.kept hfr7 (by simp) (by simp)
          have hall7 := owns_kept hall hfr7 (by simp)
          clear hc06 hc16
          go_wp2_with fail
          refine wp_region_G (p :: g.toList) [(0, false), (1, false), (2, false), (3, false), (4, false), (5, false), (6, false), (7, false), (8, false), (9, false), (10, false), (12, false), (11, true), (13, false)] 88 rfl (by kernel_rfl) (by kernel_rfl) (by kernel_rfl) (fun c a d v w h => by cases d <;> exact h) (fun w8 hf8 => ?_)
          simp only [List.map_cons, List.map_nil, List.getElem?_toArray, List.getElem?_cons_succ, List.getElem?_cons_zero, Option.getD_some]
          have hc08 := hf8.cell hc07 (by simp)
          have hc18 := hf8.cell hc17 (by simp)
          have hni := notin hb0 hp1 hgs
          clear hc07 hc17
          repeat (apply wpG_t; · (intro w' hf; have cA := hf.cell hc08 hni; have cB := hf.cell hc18 hni; go_wp2; exact ⟨rfl, rfl⟩))
          refine wpG_x ?_
          go_wp2_with fail
          refine (num_any p g bs n v _ (hw7.kept hf8 (by simp) (by simp)) hpv (by omega)).mono ?_
          rintro e w9 ⟨rfl, g9, hw9, hf9, hg9⟩
          rw [HD.out]
          rw [if_neg hC] at hw9
          go_wp2
          refine ⟨hf9, rfl, ?_⟩
          repeat (apply wpG_t; · (intro w' hf; go_wp2; exact ⟨rfl, rfl⟩))
          refine wpG_end ?_
          have hfr9 : Fr (p :: g.toList) wr w9 := (hfr7.trans hf8 (by simp) (n := []) (by simp)).trans hf9 (by simp) (fun i hi _ => hi)
          have hall9 := owns_kept hall hfr9 (fun j hj q => by
            rcases List.mem_cons.1 q with rfl | q
            · exact hs hj
            · exact (hg j (by simpa using q)).2 hj)
          have hg9' : g9 = g ∨ ∃ k, g9 = some k ∧ wr.heap.size ≤ k := by
            have h8 := hfr7.size
            have h9 := hf8.size
            rcases hg9 with q | ⟨j, q, hj⟩
            · exact .inl q
            · exact .inr ⟨j, q, by omega⟩
          have hfW9 := fr_own hfr hfr9 hp1 hgs
          have hsz9 := hfr9.size
          clear hc08 hc18 HD
          go_wp2
          obtain ⟨q1, q2, q3⟩ := wr_step hp1 hw hall hg hs hfrs hsz9 hw9 hg9' (Fr.refl _ _) (.inl rfl)
          refine ⟨⟨k + 1, g9, bs, by omega, rfl, q1, hall9, q2, q3, hfW9, by omega⟩, by simp [intOf]; omega⟩
    · obtain rfl : k = l.length := by omega
      have hb6 : bs.length ≤ 6000 := by omega
      have hab := bytesAt_of_owns hall
      have hfrm := hab.form
      obtain ⟨aa, ca, rfl, -, -⟩ := hfrm
      go_wp2_with fail
      refine wp_region_G [] [(0, false), (3, false), (4, false), (1, true), (2, false), (5, false), (6, false), (7, false), (9, false), (10, false), (8, true), (11, false), (12, false), (13, false), (14, true), (15, false), (16, false)] 88 rfl (by kernel_rfl) (by kernel_rfl) (by kernel_rfl) (fun c a d v w h => by cases d <;> exact h) (fun w6 hf6 => ?_)
      simp only [List.map_cons, List.map_nil, List.getElem?_toArray, List.getElem?_cons_succ, List.getElem?_cons_zero, Option.getD_some]
      have hA : Later [] w6 _ := Later.conv (P := Try.prog) (hab.below hf6) (by simp) 27 5 9 Try.underlying27 Try.underlying5 Try.underlying9
      have hw6 := hw.kept hf6 (by simp) (by simp)
      repeat (apply wpG_t; · (intro w' hf; have cA := hA w' hf; go_wp2; exact ⟨rfl, rfl⟩))
      refine wpG_x ?_
      go_wp2_with fail
      refine (bytes_any p g bs _ hw6 (by omega)).mono ?_
      rintro e w7 ⟨v7, rfl, hb7, hf7⟩
      have hw7 := hw6.kept hf7 (by simp) (by simp)
      have hB : Later [] w7 _ := Later.conv (P := Try.prog) (bytesAt_of_owns hb7) (by simp) 27 5 9 Try.underlying27 Try.underlying5 Try.underlying9
      clear hA
      go_wp2
      refine ⟨hf7, rfl, ?_⟩
      repeat (apply wpG_t; · (intro w' hf; have cB := hB w' hf; go_wp2; exact ⟨rfl, rfl⟩))
      refine wpG_x ?_
      have HLN := Lib.hid (len_any p g bs w7 hw7)
      clear hB
      go_wp2_with (go_at_call 13; refine HLN.out.mono ?_; rintro e w8 ⟨rfl, rfl⟩)
      refine ⟨Fr.refl _ _, rfl, ?_⟩
      repeat (apply wpG_t; · (intro w' hf; go_wp2; exact ⟨rfl, rfl⟩))
      refine wpG_x ?_
      go_wp2_with (go_at_call 7; refine (awake_any _).mono ?_; rintro e w9 ⟨rfl, hf9⟩)
      refine ⟨hf9, rfl, ?_⟩
      repeat (apply wpG_t; · (intro w' hf; go_wp2; exact ⟨rfl, rfl⟩))
      refine wpG_end ?_
      have hfin := ((hfr.trans hf6 (by simp) (n := []) (by simp)).trans hf7 (by simp) (n := []) (by simp)).trans hf9 (by simp) (n := []) (by simp)
      go_wp2
      go_ret
      exact ⟨rfl, hfin⟩

theorem writes_any (v : Value) (l : List PutR) (w : World) (h : elemsAt w v 3 (putCells l)) (hp : putsOk w l) :
    Calls Try.prog 3 #[v] w fun e w' => e = .returned (.bool true) ∧ Fr [] w w' := by
  cases hf : fewB l
  · exact writes_big v l w h hp hf
  · exact writes_small v l w h hp hf
end Go.Proofs.Ytkckkkcbiakblaa
