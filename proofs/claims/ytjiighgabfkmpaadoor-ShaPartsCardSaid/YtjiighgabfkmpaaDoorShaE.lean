/- Contracts of package sha: Block, Fill. -/
import Derived.Test.YtjiighgabfkmpaaDoorShaD
import Derived.Deep.MidRow
namespace Go.Proofs.YtjiighgabfkmpaaDoor
open Go.RowKit

theorem results_row_tmp {P : Program} {fn : Func} {p u : Tmp} {ty : TypeId} (h : fn.results = #[.cell p ty, .tmp u]) (tmps : Array Value) (w : World) (g : Nat) (t : TypeId) (cs : Array Value) (fr : Nat × Nat) (d : TypeDesc)
    (hp : tmps.getD p undef = .pointer (some ⟨g, 0, none⟩)) (hg : w.heap[g]? = some (.cells cs t fr))
    (hu : P.underlying ty = some d) (hd : (match d with | .struct _ | .array _ _ => true | _ => false) = true) (hi : (P.info? ty).map (·.size) = some cs.size) (v : Value) (hv : tmps.getD u undef = v) :
    (results fn tmps).run P w = .ok (.tuple #[.agg cs, v]) w := by
  rw [results_cell_tmp h, hp]
  simp only [asAddr, Sem.run_pure, Result.andThen_ok, run_loadVar_row w g t ty cs fr d hg hu hd hi, hv]

theorem run_arrayAt_ok {P : Program} (w : World) (t e : TypeId) (n len cap : Nat) (a : Option Addr) (h : P.underlying t = some (.array n e)) (hl : n ≤ len) : (Instr.arrayAt t (.slice a len cap)).run P w = .ok (.pointer a) w := by
  have hn : ¬ len < n := by omega
  simp [Instr.arrayAt, run_underlying h, hn]
theorem rangeAt_bytes {w : World} {b off : Nat} {bs : List UInt8} {cap : Nat} (h : bytesAt w (.slice (some ⟨b, off, none⟩) bs.length cap) bs) : w.rangeAt b off (cellsB bs) := by
  intro j v hj
  have hjl : j < bs.length := by
    rcases Nat.lt_or_ge j bs.length with q | q
    · exact q
    · rw [List.getElem?_eq_none (by simpa [cellsB] using q)] at hj; cases hj
  rcases h with ⟨_, _, _, _, rfl⟩ | ⟨b', off', cap', e, _, _, hc⟩
  · simp at hjl
  · simp only [Value.slice.injEq, Option.some.injEq, Addr.mk.injEq] at e
    obtain ⟨⟨rfl, rfl, -⟩, -, -⟩ := e
    rw [hc j hjl, ← cellsB_get bs j hjl, hj]

set_option maxRecDepth 100000 in
theorem block_bad (s : St) (bs : List UInt8) (sv : Value) (w : World) (h : bytesAt w sv bs) (hb : bs.length ≠ 64) :
    Calls Tryd.prog 15 #[.agg (stC s), sv] w fun e w' => e = .returned (.tuple #[.agg (stC zeroSt), .bool false]) ∧ Fr [] w w' := by
  obtain ⟨a0, c0, rfl, hle, hmx⟩ := h.form
  have hd : ((bs.length : Int) != 64) = true := by rw [bne_iff_ne]; omega
  obtain ⟨S, hS⟩ : ∃ S, S = stC s := ⟨_, rfl⟩
  obtain ⟨Z, hZ⟩ : ∃ Z, Z = stC zeroSt := ⟨_, rfl⟩
  have hiz := infoN8
  have hsz := sizeN8 zeroSt
  have hon := stC_one zeroSt
  rw [← hS, ← hZ]
  rw [← hZ] at hiz hsz hon
  have HI := Lib.hid hiz
  have HSZ := Lib.hid hsz
  have HON := Lib.hid hon
  have HZ := Lib.hid hZ
  clear hiz hsz hon hZ hS
  go_enter Tryd.func15, Tryd.ntmps15
  go_wp2_with (first
    | (refine wpL_boxArr rfl 29 _ rfl S rfl ?_; intro w1 hh1 hf1 hs1; refine wpL_newArr rfl 29 rfl Z HI.out ?_; intro w2 hh2 hf2 hs2)
    | (refine wpL_storeArr rfl 29 (.tmp 4) (.tmp 9) rfl w1.heap.size Z Z rfl (by rw [HZ.out]; rfl) 29 hh2.out HSZ.out rfl HON.out ?_; intro w3 hh3 hf3 hs3))
  have hn1 : w.heap.size ≤ w1.heap.size := by have := hs1.out; omega
  refine bodyPost_ret (v := .tuple #[.agg Z, .bool false]) ?_ rfl ⟨rfl, (hf1.trans hf2 (by simp) (n := []) (by simp)).trans hf3 (by simp) (by simp; omega)⟩
  exact results_row_tmp rfl _ _ w1.heap.size 29 Z (0, 0) _ rfl hh3.out Tryd.underlying29 rfl HSZ.out _ rfl

set_option maxRecDepth 100000 in
theorem block_ok (s : St) (bs : List UInt8) (sv : Value) (w : World) (hs : s.ok) (h : bytesAt w sv bs) (hb : bs.length = 64) (hr : rootsAt w) :
    Calls Tryd.prog 15 #[.agg (stC s), sv] w fun e w' => e = .returned (.tuple #[.agg (stC (blockSt s bs)), .bool true]) ∧ Fr [] w w' := by
  rcases h with ⟨_, _, _, _, rfl⟩ | ⟨b, off, cap, rfl, hle, hmx, hc⟩
  · simp at hb
  have hrange : w.rangeAt b off (cellsB bs) := rangeAt_bytes (cap := cap) (.inr ⟨b, off, cap, rfl, hle, hmx, hc⟩)
  have hby : bytesAt w (.slice (some ⟨b, off, none⟩) bs.length cap) bs := .inr ⟨b, off, cap, rfl, hle, hmx, hc⟩
  have HC := Lib.hid (fun wx hx => process_any s bs wx hs hb hx)
  have hd : ((bs.length : Int) != 64) = false := by rw [bne_eq_false_iff_eq]; omega
  have hszB : (Tryd.prog.info? 50).map (·.size) = some (cellsB bs).length := by rw [cellsB_length, hb]; exact sizeB64
  have hszS := sizeN8 s
  obtain ⟨S, hS⟩ : ∃ S, S = stC s := ⟨_, rfl⟩
  obtain ⟨Z, hZ⟩ : ∃ Z, Z = stC zeroSt := ⟨_, rfl⟩
  obtain ⟨R, hR⟩ : ∃ R, R = stC (blockSt s bs) := ⟨_, rfl⟩
  have hszR := sizeN8 (blockSt s bs)
  have honR := stC_one (blockSt s bs)
  have hiz := infoN8
  have hold : Z.size = R.size := by rw [hZ, hR, stC_size, stC_size]
  rw [← hS] at hszS HC
  rw [← hZ] at hiz
  rw [← hR] at hszR honR HC
  rw [← hS, ← hR]
  have HI := Lib.hid hiz
  have HSZB := Lib.hid hszB
  have HSZS := Lib.hid hszS
  have HSZR := Lib.hid hszR
  have HONR := Lib.hid honR
  have HOLD := Lib.hid hold
  have HR := Lib.hid hr
  have HRG := Lib.hid hrange
  clear hiz hszB hszS hszR honR hold hZ hS hR hc hr hrange
  go_enter Tryd.func15, Tryd.ntmps15
  go_wp2_with (first
    | (refine wpL_boxArr rfl 29 _ rfl S rfl ?_; intro w1 hh1 hf1 hs1; refine wpL_newArr rfl 29 rfl Z HI.out ?_; intro w2 hh2 hf2 hs2))
  have hn1 : w.heap.size ≤ w1.heap.size := by have := hs1.out; omega
  have hne : w.heap.size ≠ w1.heap.size := by have := hs1.out; omega
  have hfr : Fr [] w w2 := hf1.trans hf2 (by simp) (by simp)
  have hg0 := hf2.heap hh1.out (by simp)
  have hg1 := hh2.out
  have HRG2 : Hid (w2.rangeAt b off (cellsB bs)) := Lib.hid (fun j v hj => hfr.cell (HRG.out j v hj) (by simp))
  have hb2 : b < w.heap.size := by
    have h0 : (cellsB bs)[0]? = some (.int .u8 ((bs[0]'(by omega)).toNat : Int)) := cellsB_get bs 0 (by omega)
    exact World.block_lt_of_cell? w _ (HRG.out 0 _ h0)
  have hbn : b ≠ w1.heap.size := by omega
  have hg0p := HR.out.pos
  have hrt : rootsAt w2 := HR.out.below hfr
  have hrn : 0 ≠ w1.heap.size := by omega
  clear hh1 hh2 hf1 hf2 hs1 hs2
  obtain ⟨g0, hg0e⟩ : ∃ g, g = w.heap.size := ⟨_, rfl⟩
  obtain ⟨g1, hg1e⟩ : ∃ g, g = w1.heap.size := ⟨_, rfl⟩
  rw [← hg0e] at hg0 hn1 hne ⊢
  rw [← hg1e] at hg1 hn1 hne hbn hrn ⊢
  have HG0E := Lib.hid hg0e
  have HG0 := Lib.hid hg0
  have HG1 := Lib.hid hg1
  clear hg1e hg0e hg0 hg1
  refine wp_region_G [g1] [(0, false), (1, false), (2, true), (3, false), (4, true), (5, true), (6, false)] 15 rfl (by kernel_rfl) (by kernel_rfl) (by kernel_rfl) (fun c a d v w h => by cases d <;> exact h) (fun wd hfd => ?_)
  simp only [List.map_cons, List.map_nil, List.getElem?_toArray, List.getElem?_cons_succ, List.getElem?_cons_zero, Option.getD_some]
  have L0 : Hid (Later [g1] wd (fun w' => w'.heap[g0]? = some (.cells S 29 (0, 0)))) := Lib.hid (fun w' hf' => hf'.heap (hfd.heap HG0.out (by simp)) (by simpa using hne))
  have LB : Hid (Later [g1] wd (fun w' => w'.rangeAt b off (cellsB bs))) := Lib.hid (fun w' hf' j v hj => hf'.cell (hfd.cell (HRG2.out j v hj) (by simp)) (by simpa using hbn))
  apply wpG_t
  · intro w' hf'
    go_wp2_with (refine wpList_load_row rfl 29 _ rfl g0 rfl 29 S (0, 0) _ (L0.out w' hf') Tryd.underlying29 rfl HSZS.out ?_)
    exact ⟨rfl, rfl⟩
  apply wpG_t
  · intro w' hf'
    go_wp2
    exact ⟨rfl, rfl⟩
  have harr := fun wx => run_arrayAt_ok (P := Tryd.prog) wx 50 5 64 64 cap (some ⟨b, off, none⟩) Tryd.underlying50 (Nat.le_refl _)
  refine wpG_x ?_
  go_wp2_with fail
  refine ⟨Fr.refl _ _, rfl, ?_⟩
  apply wpG_t
  · intro w' hf'
    go_wp2_with (refine wpList_load_mid rfl 50 _ rfl b off rfl (cellsB bs) _ (LB.out w' hf') Tryd.underlying50 rfl HSZB.out ?_)
    exact ⟨rfl, rfl⟩
  refine wpG_x ?_
  have HRW := Lib.hid (HC.out wd (hrt.below hfd))
  go_wp2_with (go_at_call 24; refine HRW.out.mono ?_; rintro e w3 ⟨rfl, hf3⟩)
  have HG3 := Lib.hid (hf3.heap (hfd.heap HG1.out (by simp)) (by simp))
  refine ⟨hf3.mono (by simp), rfl, ?_⟩
  refine wpG_x ?_
  go_wp2_with (refine wpL_storeArr rfl 29 (.tmp 4) (.tmp 14) rfl g1 R Z rfl rfl 29 HG3.out HSZR.out HOLD.out HONR.out ?_; intro w4 hh4 hf4 hs4)
  refine ⟨hf4, rfl, ?_⟩
  apply wpG_t
  · intro w' hf'
    go_wp2
    exact ⟨rfl, rfl⟩
  refine wpG_end ?_
  trace_state
  go_wp2
  refine bodyPost_ret (v := .tuple #[.agg R, .bool true]) ?_ rfl ⟨rfl, ((hfr.trans hfd (by simp) (n := []) (by simp)).trans hf3 (by simp) (n := []) (by simp)).trans hf4 (by simp) (by simp; have := HG0E.out; omega)⟩
  exact results_row_tmp rfl _ _ g1 29 R (0, 0) _ rfl hh4.out Tryd.underlying29 rfl HSZR.out _ rfl
end Go.Proofs.YtjiighgabfkmpaaDoor
