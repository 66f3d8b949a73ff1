/- Contract of package sha's process. -/
import Derived.Test.YtjiighgabfkmpaaDoorShaB
namespace Go.Proofs.YtjiighgabfkmpaaDoor
open Go.RowKit

theorem run_index_nums (w : World) (l : List Nat) (hl : l.length = 64) (k : Nat) (hk : k < 64) : (Instr.index 46 (.agg (numsC l)) (.int .i64 k)).run Tryd.prog w = .ok (.int .u32 ((l[k]'(by omega) : Nat) : Int)) w :=
  run_index_agg w 46 28 64 .u32 (numsC l) k _ Tryd.underlying46 Tryd.underlying28 size32 hk (numsC_get l k (by omega))
theorem Fr.andDrewN {l : List Nat} {a b : World} (h : Fr l a b) (n : Nat) : Fr l a (b.drewN n) := ⟨h.os, h.tape, h.output, h.size, h.block⟩
theorem flip_same {P : Program} {f : FuncId} {args : Array Value} {w : World} {v : Value} (h : Calls P f args w fun e w' => e = .returned v ∧ w = w') : Calls P f args w fun e w' => e = .returned v ∧ w' = w := h.mono fun _ _ ⟨he, hw⟩ => ⟨he, hw.symm⟩
theorem x_put (a b c k w : Nat) (h : Nat) : (((((h : Int) + (a : Nat)) % 4294967296 + (b : Nat)) % 4294967296 + (k : Nat)) % 4294967296 + (w : Nat)) % 4294967296 = (((((h + a) % 4294967296 + b) % 4294967296 + k) % 4294967296 + w) % 4294967296 : Nat) := by omega
/-- The table of round constants lies where the program's text lays it. -/
def rootsAt (w : World) : Prop := ∀ i (h : i < kk.length), w.cell? ⟨0, i, none⟩ = some (.int .u32 ((kk[i]'h : Nat) : Int))
theorem rootsAt.kept {w w' : World} {l : List Nat} (h : rootsAt w) (hf : Fr l w w') (hl : 0 ∉ l) : rootsAt w' := fun i hi => hf.cell (h i hi) hl
theorem rootsAt.below {w w' : World} (h : rootsAt w) (hf : Fr [] w w') : rootsAt w' := h.kept hf (by simp)
theorem rootsAt.pos {w : World} (h : rootsAt w) : 0 < w.heap.size := World.block_lt_of_cell? w _ (h 0 (by rw [kk_length]; decide))

/-- A state as cells. -/
def stC (s : St) : Array Value := #[.int .u32 (s.a : Int), .int .u32 (s.b : Int), .int .u32 (s.c : Int), .int .u32 (s.d : Int), .int .u32 (s.e : Int), .int .u32 (s.f : Int), .int .u32 (s.g : Int), .int .u32 (s.h : Int)]
theorem stC_size (s : St) : (stC s).size = 8 := rfl
theorem stC_one (s : St) : (stC s).all (·.oneCell') = true := by simp [stC, Value.oneCell']
def zeroSt : St := ⟨0, 0, 0, 0, 0, 0, 0, 0⟩
theorem infoN8 : (Tryd.prog.info? 29).map (fun i => i.zero) = some (some (.agg (stC zeroSt))) := by kernel_rfl
theorem sizeN8 (s : St) : (Tryd.prog.info? 29).map (·.size) = some (stC s).size := by rw [stC_size]; kernel_rfl

def RoundRel (w : World) (ws : List Nat) (s : St) (va vb vc vd ve vf vg vh vi : Value) (wr : World) : Prop :=
  ∃ n a b c d e f g h : Nat, n ≤ 64 ∧ rnds ws n s = ⟨a, b, c, d, e, f, g, h⟩ ∧ vi = .int .i64 (n : Int) ∧ va = .int .u32 (a : Int) ∧ vb = .int .u32 (b : Int) ∧ vc = .int .u32 (c : Int) ∧ vd = .int .u32 (d : Int) ∧ ve = .int .u32 (e : Int) ∧ vf = .int .u32 (f : Int) ∧ vg = .int .u32 (g : Int) ∧ vh = .int .u32 (h : Int) ∧ Fr [] w wr
set_option maxRecDepth 100000 in
theorem process_any (s : St) (bs : List UInt8) (w : World) (hs : s.ok) (hb : bs.length = 64) (hr : rootsAt w) :
    Calls Tryd.prog 24 #[.agg (stC s), .agg (cellsB bs).toArray] w fun e w' => e = .returned (.agg (stC (blockSt s bs))) ∧ Fr [] w w' := by
  have HC := Lib.hid (fun wx => schedule_any bs wx hb)
  have hszB : (Tryd.prog.info? 50).map (·.size) = some (cellsB bs).toArray.size := by rw [bytesC_size, hb]; exact sizeB64
  obtain ⟨B, hB⟩ : ∃ B, B = (cellsB bs).toArray := ⟨_, rfl⟩
  obtain ⟨S, hS⟩ : ∃ S, S = stC s := ⟨_, rfl⟩
  obtain ⟨Z, hZ⟩ : ∃ Z, Z = stC zeroSt := ⟨_, rfl⟩
  have hiz := infoN8
  rw [← hB, ← hS]
  rw [← hB] at HC hszB
  rw [← hZ] at hiz
  have HB := Lib.hid hB
  have HZ := Lib.hid hZ
  have HS := Lib.hid hS
  have HI := Lib.hid hiz
  have HSB := Lib.hid hszB
  clear hB hZ hiz hS hszB
  go_enter Tryd.func24, Tryd.ntmps24
  go_wp2_with (first
    | (refine wpL_boxArr rfl 29 _ rfl S rfl ?_; intro w1 hh1 hf1 hs1; refine wpL_boxArr rfl 50 _ rfl B rfl ?_; intro w2 hh2 hf2 hs2; refine wpL_newArr rfl 29 rfl Z HI.out ?_; intro w3 hh3 hf3 hs3))
  have hfr : Fr [] w w3 := (hf1.trans hf2 (by simp) (n := []) (by simp)).trans hf3 (by simp) (by simp)
  have hg0 := (hf2.trans hf3 (by simp) (n := []) (by simp)).heap hh1.out (by simp)
  have hg1 := hf3.heap hh2.out (by simp)
  have hg2 := hh3.out
  have hn2 : w.heap.size ≤ w2.heap.size := by have := hs2.out; have := hs1.out; omega
  have hs1' := hs1.out
  have hs2' := hs2.out
  clear hh1 hh2 hh3 hf1 hf2 hf3 hs1 hs2 hs3
  obtain ⟨g0, hg0e⟩ : ∃ g, g = w.heap.size := ⟨_, rfl⟩
  obtain ⟨g1, hg1e⟩ : ∃ g, g = w1.heap.size := ⟨_, rfl⟩
  obtain ⟨g2, hg2e⟩ : ∃ g, g = w2.heap.size := ⟨_, rfl⟩
  rw [← hg0e] at hg0 hs1' hn2 ⊢
  rw [← hg1e] at hg1 hs1' hs2' ⊢
  rw [← hg2e] at hg2 hs2' hn2 ⊢
  have hne : g0 ≠ g2 := by omega
  have hx0 := cell_of_heap hg0
  have HG0E := Lib.hid hg0e
  clear hg1e hg2e hs1' hs2' hg0e
  rw [HS.out] at hx0
  obtain ⟨sa, sb, sc, sd, se, sf, sg, sh⟩ := s
  have hc0 : w3.cell? ⟨g0, 0, none⟩ = some (.int .u32 (sa : Int)) := hx0 0
  have hc1 : w3.cell? ⟨g0, 1, none⟩ = some (.int .u32 (sb : Int)) := hx0 1
  have hc2 : w3.cell? ⟨g0, 2, none⟩ = some (.int .u32 (sc : Int)) := hx0 2
  have hc3 : w3.cell? ⟨g0, 3, none⟩ = some (.int .u32 (sd : Int)) := hx0 3
  have hc4 : w3.cell? ⟨g0, 4, none⟩ = some (.int .u32 (se : Int)) := hx0 4
  have hc5 : w3.cell? ⟨g0, 5, none⟩ = some (.int .u32 (sf : Int)) := hx0 5
  have hc6 : w3.cell? ⟨g0, 6, none⟩ = some (.int .u32 (sg : Int)) := hx0 6
  have hc7 : w3.cell? ⟨g0, 7, none⟩ = some (.int .u32 (sh : Int)) := hx0 7
  clear hx0
  go_quiet (fail)

  go_wp2_with (first
    | (refine wpList_load_row rfl 50 _ rfl g1 rfl 50 B (0, 0) _ hg1 Tryd.underlying50 rfl HSB.out ?_)
    | (go_at_call 34; refine (HC.out _).mono ?_; rintro e w4 ⟨rfl, hf4⟩))
  have hf34 : Fr [] w w4 := (hfr.andDrewN nq).trans hf4 (by simp) (by simp)
  have hg0' : w4.heap[g0]? = some (.cells S 29 (0, 0)) := (((Fr.refl [] w3).andDrewN nq).trans hf4 (by simp) (n := []) (by simp)).heap hg0 (by simp)
  have hg2' : w4.heap[g2]? = some (.cells Z 29 (0, 0)) := (((Fr.refl [] w3).andDrewN nq).trans hf4 (by simp) (n := []) (by simp)).heap hg2 (by simp)
  have hr4 := hr.below hf34
  have hsl := sched_length bs
  obtain ⟨ws, hws⟩ : ∃ ws, ws = sched bs := ⟨_, rfl⟩
  rw [← hws] at hsl
  have HWS := Lib.hid hws
  have hidx0 := fun wx => run_index_nums wx ws hsl
  obtain ⟨T, hT⟩ : ∃ T, T = numsC ws := ⟨_, rfl⟩
  rw [← hws, ← hT]
  rw [← hT] at hidx0
  have HIX := Lib.hid hidx0
  clear hidx0 hT hws hc0 hc1 hc2 hc3 hc4 hc5 hc6 hc7 hg0 hg1 hg2 hfr hf4 hr
  go_loopw [5, 6, 7, 8, 9, 10, 11, 12, 35] (RoundRel w4 ws ⟨sa, sb, sc, sd, se, sf, sg, sh⟩) (fun _ _ _ _ _ _ _ _ i _ => 64 - (intOf i).toNat)
  case atStart => exact ⟨0, sa, sb, sc, sd, se, sf, sg, sh, by omega, rfl, rfl, rfl, rfl, rfl, rfl, rfl, rfl, rfl, rfl, Fr.refl _ _⟩
  case round =>
    obtain ⟨n, a, b, c, d, e, f, g, h, hn, hrn, rfl, rfl, rfl, rfl, rfl, rfl, rfl, rfl, rfl, hf⟩ := hrel
    by_cases hn64 : n < 64
    · have hd : decide ((n : Int) < 64) = true := decide_eq_true (by omega)
      have hok : (⟨a, b, c, d, e, f, g, h⟩ : St).ok := by rw [← hrn]; exact rnds_ok ws hsl _ hs n (by omega)
      have hnext := rnds_succ ws hsl n hn64 ⟨sa, sb, sc, sd, se, sf, sg, sh⟩
      rw [hrn, turnSt_eq] at hnext
      have hidx := HIX.out wr n hn64
      have hk := hr4.below hf n (by rw [kk_length]; exact hn64)
      obtain ⟨k, hkk⟩ : ∃ k, k = kk[n]'(by rw [kk_length]; exact hn64) := ⟨_, rfl⟩
      obtain ⟨x, hx⟩ : ∃ x, x = ws[n]'(by omega) := ⟨_, rfl⟩
      rw [← hkk, ← hx] at hnext
      rw [← hkk] at hk
      rw [← hx] at hidx
      have hn64i : (n : Int) < 64 := by omega
      have Q1 : ∀ wx, Calls Tryd.prog 35 #[.int .u32 e, .int .i64 6, .int .i64 11, .int .i64 25] wx fun r w' => r = .returned (.int .u32 (bigE e : Nat)) ∧ w' = wx := fun wx => flip_same (rotations_any e 6 11 25 wx hok.e (by decide) (by decide) (by decide))
      have Q2 : ∀ wx, Calls Tryd.prog 36 #[.int .u32 e, .int .u32 f, .int .u32 g] wx fun r w' => r = .returned (.int .u32 (chN e f g : Nat)) ∧ w' = wx := fun wx => flip_same (choose_any e f g wx hok.e hok.f hok.g)
      have Q3 : ∀ wx, Calls Tryd.prog 35 #[.int .u32 a, .int .i64 2, .int .i64 13, .int .i64 22] wx fun r w' => r = .returned (.int .u32 (bigA a : Nat)) ∧ wx = w' := fun wx => rotations_any a 2 13 22 wx hok.a (by decide) (by decide) (by decide)
      have Q4 : ∀ wx, Calls Tryd.prog 37 #[.int .u32 a, .int .u32 b, .int .u32 c] wx fun r w' => r = .returned (.int .u32 (majN a b c : Nat)) ∧ wx = w' := fun wx => majority_any a b c wx hok.a hok.b hok.c
      have Q1 := Lib.hid Q1
      have Q2 := Lib.hid Q2
      have Q3 := Lib.hid Q3
      have Q4 := Lib.hid Q4
      have HN := Lib.hid hnext
      clear hnext hkk hx hrn hok
      go_wp2_with fail
      go_quiet (first | (go_at_call 35; with_reducible refine Calls.quiet_of_same (Q1.out _)) | (go_at_call 36; with_reducible refine Calls.quiet_of_same (Q2.out _)))
      go_wp2_with (first
        | (go_at_call 35; with_reducible refine (Q3.out _).mono ?_; rintro r w5 ⟨rfl, rfl⟩)
        | (go_at_call 37; with_reducible refine (Q4.out _).mono ?_; rintro r w5 ⟨rfl, rfl⟩))
      go_roundw
      case rel => exact ⟨n + 1, _, _, _, _, _, _, _, _, by omega, HN.out, by go_num, by unfold xN yN; go_num, rfl, rfl, rfl, by unfold xN; go_num, rfl, rfl, rfl, hf.andDrewN nq⟩
      case measure => simp [intOf]; omega
    · have hd : decide ((n : Int) < 64) = false := decide_eq_false (by omega)
      have hx0 := cell_of_heap (hf.heap hg0' (by simp))
      rw [HS.out] at hx0
      have hc0 : wr.cell? ⟨g0, 0, none⟩ = some (.int .u32 (sa : Int)) := hx0 0
      have hc1 : wr.cell? ⟨g0, 1, none⟩ = some (.int .u32 (sb : Int)) := hx0 1
      have hc2 : wr.cell? ⟨g0, 2, none⟩ = some (.int .u32 (sc : Int)) := hx0 2
      have hc3 : wr.cell? ⟨g0, 3, none⟩ = some (.int .u32 (sd : Int)) := hx0 3
      have hc4 : wr.cell? ⟨g0, 4, none⟩ = some (.int .u32 (se : Int)) := hx0 4
      have hc5 : wr.cell? ⟨g0, 5, none⟩ = some (.int .u32 (sf : Int)) := hx0 5
      have hc6 : wr.cell? ⟨g0, 6, none⟩ = some (.int .u32 (sg : Int)) := hx0 6
      have hc7 : wr.cell? ⟨g0, 7, none⟩ = some (.int .u32 (sh : Int)) := hx0 7
      have hend : blockSt ⟨sa, sb, sc, sd, se, sf, sg, sh⟩ bs = combSt ⟨sa, sb, sc, sd, se, sf, sg, sh⟩ ⟨a, b, c, d, e, f, g, h⟩ := by
        rw [blockSt, ← HWS.out, ← hrn, show n = 64 from by omega]
      have hold : Z.size = (stC (blockSt ⟨sa, sb, sc, sd, se, sf, sg, sh⟩ bs)).size := by rw [HZ.out, stC_size, stC_size]
      have HG2 := Lib.hid (hf.heap hg2' (by simp))
      have HEND := Lib.hid hend
      have HOLD := Lib.hid hold
      have HSZ := Lib.hid (sizeN8 (blockSt ⟨sa, sb, sc, sd, se, sf, sg, sh⟩ bs))
      have HON := Lib.hid (stC_one (blockSt ⟨sa, sb, sc, sd, se, sf, sg, sh⟩ bs))
      clear hx0 hend hold hg0' hg2' hrn
      go_wp2_with (refine wpL_storeArr rfl 29 (.tmp 4) (.tmp 106) rfl g2 (stC (blockSt ⟨sa, sb, sc, sd, se, sf, sg, sh⟩ bs)) Z rfl (by rw [HEND.out]; rfl) 29 HG2.out HSZ.out HOLD.out HON.out ?_; intro w5 hh5 hf5 hs5)
      refine bodyPost_ret (v := .agg (stC (blockSt ⟨sa, sb, sc, sd, se, sf, sg, sh⟩ bs))) ?_ rfl ⟨rfl, (hf34.trans hf (by simp) (n := []) (by simp)).trans hf5 (by simp) (by simp; have := HG0E.out; omega)⟩
      exact results_cell_row rfl _ _ g2 29 (stC (blockSt ⟨sa, sb, sc, sd, se, sf, sg, sh⟩ bs)) (0, 0) _ rfl hh5.out Tryd.underlying29 rfl HSZ.out
end Go.Proofs.YtjiighgabfkmpaaDoor
