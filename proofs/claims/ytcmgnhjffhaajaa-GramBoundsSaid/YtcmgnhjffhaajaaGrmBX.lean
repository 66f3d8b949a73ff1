/- GramBounds (layer 14), over any program that does what it must. Written by wip/tools/gen_gbx.py. -/
import Derived.Test.YtcmgnhjffhaajaaGrmE
import Derived.Test.YtcmgnhjffhaajaaGrmBW
import Derived.Test.YtcmgnhjffhaajaaBs
import Derived.LoopTactic
import Derived.BigQuiet
import Derived.WalkMore
import Derived.Deep.DeepCutAuto
import Derived.Laws.Concat
namespace Go.Proofs.Ytcmgnhjffhaajaa
open Go.RowKit

theorem cat_run2 {P : Program} {A B C : Array UInt8} {x y : List UInt8} (hA : A = x.toArray) (hB : B = y.toArray) (hC : C = (x ++ y).toArray) (hl : (x ++ y).length ≤ 9223372036854775807) (w : World) : (Op.stringOp .add { data := A } { data := B }).run P w = .ok (.string { data := C }) w := by
  subst hA hB hC
  rw [List.length_append] at hl
  rw [run_string_add_sum w _ _ (by simp [ByteArray.size]; omega), ByteArray.mk_append_mk]
theorem infoStrB : (Try.prog.info? 9).map (fun i => (i.zero, i.size, i.bytes)) = some (some (.string ⟨#[]⟩), 1, 16) := by kernel_rfl
theorem infoIntB : (Try.prog.info? 3).map (fun i => (i.zero, i.size, i.bytes)) = some (some (.int .i64 0), 1, 8) := by kernel_rfl
theorem infoRuleB : (Try.prog.info? 31).map (fun i => (i.zero, i.size, i.bytes)) = some (some (.agg #[.int .i64 0, .slice none 0 0]), 2, 32) := by kernel_rfl
def nsB (k : Nat) : List (List UInt8) := (List.range k).map nmB
def rsB (k : Nat) : List RuleG := (List.range k).map fun i : Nat => ⟨(i : Int), []⟩
theorem nsB_next (k : Nat) : nsB (k + 1) = nsB k ++ [nmB k] := by unfold nsB; rw [List.range_succ, List.map_append]; rfl
theorem rsB_next (k : Nat) : rsB (k + 1) = rsB k ++ [⟨(k : Int), []⟩] := by unfold rsB; rw [List.range_succ, List.map_append]; rfl
theorem nsB_len (k : Nat) : (nsB k).length = k := by simp [nsB]
theorem rsB_len (k : Nat) : (rsB k).length = k := by simp [rsB]
def qsB (R0 : List RuleG) (right k : Nat) : List RuleG := R0 ++ (List.range k).map (ruleOf right)
theorem qsB_next (R0 : List RuleG) (right k : Nat) : qsB R0 right (k + 1) = qsB R0 right k ++ [ruleOf right k] := by unfold qsB; rw [List.range_succ, List.map_append, List.append_assoc]; rfl
theorem qsB_len (R0 : List RuleG) (right k : Nat) : (qsB R0 right k).length = R0.length + k := by simp [qsB]
def BdL1 (w2 : World) (q p N : Nat) (iv : Value) (wx : World) : Prop := ∃ (k : Nat) (nv rv : Value) (vs : List Value), k ≤ N ∧ iv = .int .i64 (k : Int) ∧ GBv w2 q p (nsB k) (rsB k) nv rv vs wx
def BdL2 (w2 : World) (q p N R T : Nat) (iv : Value) (wx : World) : Prop := ∃ (k : Nat) (nv rv : Value) (vs : List Value), k ≤ R ∧ iv = .int .i64 (k : Int) ∧ GBv w2 q p (nsB N) (qsB (rsB N) T k) nv rv vs wx
def BdL3 (wr w3 : World) (b T i : Nat) (iv : Value) (wx : World) : Prop := ∃ (k : Nat) (kv : Value), k ≤ min (i + 1) T ∧ iv = .int .i64 (k : Int) ∧ Fr [] wr wx ∧ wx.heap[b]? = some (.cells #[.int .i64 0, kv] 31 (0, 0)) ∧ wx.ownsRow w3.heap.size 3 1 kv k ((List.replicate k (-1 : Int)).map intV)
theorem two_of_newB (w : World) (a b : Value) (t : TypeId) : (w.alloc (.cells #[a, b] t)).heap[w.heap.size]? = some (.cells #[a, b] t (0, 0)) := heap_alloc_new w _
theorem two_cellsB {w : World} {p : Nat} {a b : Value} {t : TypeId} (h : w.heap[p]? = some (.cells #[a, b] t (0, 0))) : w.cell? ⟨p, 0, none⟩ = some a ∧ w.cell? ⟨p, 1, none⟩ = some b ∧ w.frozen? ⟨p, 0, none⟩ = false ∧ w.frozen? ⟨p, 1, none⟩ = false :=
  ⟨by rw [cell_of_heap h]; rfl, by rw [cell_of_heap h]; rfl, free_of_heap h 0, free_of_heap h 1⟩
theorem wantB_int (N R T : Nat) : wantB N R T = if (0 < R ∧ T = 0) ∨ T < R ∨ (64 < R ∧ 64 < T) then false else decide (N + 1 ≤ 256) := rfl
theorem bound_int (N R T : Nat) : IntG (boundG N R T) := by
  intro r hr s hs
  rcases List.mem_append.1 (show r ∈ (List.range N).map (fun i : Nat => (⟨(i : Int), []⟩ : RuleG)) ++ (List.range R).map (ruleOf T) from hr) with hr | hr
  · obtain ⟨i, hi, rfl⟩ := List.mem_map.1 hr; simp at hs
  · obtain ⟨i, hi, rfl⟩ := List.mem_map.1 hr
    have : s = -1 := (List.mem_replicate.1 hs).2
    omega
set_option maxRecDepth 100000 in
theorem bounds_bad0 (hA : ProgPar) (hR : ProgResolve) (hV : ProgValid) (hI : ProgIsT) (n r t : Int) (w : World) (h0 : decide (n < 1) = true) : Calls Try.prog 4 #[.int .i64 n, .int .i64 r, .int .i64 t] w fun e w' => e = .returned (.bool true) ∧ Fr [] w w' := by
  have HAW := Lib.hid (fun wx => grmawake_any hA hR hV hI wx)
  clear hA hR hV hI
  go_enter Try.func4, Try.ntmps4
  go_wp2_with (go_at_call 8; refine (HAW.out _).mono ?_; rintro e w4 ⟨rfl, hf4⟩)
  go_ret
  exact ⟨rfl, hf4⟩
set_option maxRecDepth 100000 in
theorem bounds_bad1 (hA : ProgPar) (hR : ProgResolve) (hV : ProgValid) (hI : ProgIsT) (n r t : Int) (w : World) (h0 : decide (n < 1) = false) (h1 : decide (260 < n) = true) : Calls Try.prog 4 #[.int .i64 n, .int .i64 r, .int .i64 t] w fun e w' => e = .returned (.bool true) ∧ Fr [] w w' := by
  have HAW := Lib.hid (fun wx => grmawake_any hA hR hV hI wx)
  clear hA hR hV hI
  go_enter Try.func4, Try.ntmps4
  go_wp2_with (go_at_call 8; refine (HAW.out _).mono ?_; rintro e w4 ⟨rfl, hf4⟩)
  go_ret
  exact ⟨rfl, hf4⟩
set_option maxRecDepth 100000 in
theorem bounds_bad2 (hA : ProgPar) (hR : ProgResolve) (hV : ProgValid) (hI : ProgIsT) (n r t : Int) (w : World) (h0 : decide (n < 1) = false) (h1 : decide (260 < n) = false) (h2 : decide (r < 0) = true) : Calls Try.prog 4 #[.int .i64 n, .int .i64 r, .int .i64 t] w fun e w' => e = .returned (.bool true) ∧ Fr [] w w' := by
  have HAW := Lib.hid (fun wx => grmawake_any hA hR hV hI wx)
  clear hA hR hV hI
  go_enter Try.func4, Try.ntmps4
  go_wp2_with (go_at_call 8; refine (HAW.out _).mono ?_; rintro e w4 ⟨rfl, hf4⟩)
  go_ret
  exact ⟨rfl, hf4⟩
set_option maxRecDepth 100000 in
theorem bounds_bad3 (hA : ProgPar) (hR : ProgResolve) (hV : ProgValid) (hI : ProgIsT) (n r t : Int) (w : World) (h0 : decide (n < 1) = false) (h1 : decide (260 < n) = false) (h2 : decide (r < 0) = false) (h3 : decide (70 < r) = true) : Calls Try.prog 4 #[.int .i64 n, .int .i64 r, .int .i64 t] w fun e w' => e = .returned (.bool true) ∧ Fr [] w w' := by
  have HAW := Lib.hid (fun wx => grmawake_any hA hR hV hI wx)
  clear hA hR hV hI
  go_enter Try.func4, Try.ntmps4
  go_wp2_with (go_at_call 8; refine (HAW.out _).mono ?_; rintro e w4 ⟨rfl, hf4⟩)
  go_ret
  exact ⟨rfl, hf4⟩
set_option maxRecDepth 100000 in
theorem bounds_bad4 (hA : ProgPar) (hR : ProgResolve) (hV : ProgValid) (hI : ProgIsT) (n r t : Int) (w : World) (h0 : decide (n < 1) = false) (h1 : decide (260 < n) = false) (h2 : decide (r < 0) = false) (h3 : decide (70 < r) = false) (h4 : decide (t < 0) = true) : Calls Try.prog 4 #[.int .i64 n, .int .i64 r, .int .i64 t] w fun e w' => e = .returned (.bool true) ∧ Fr [] w w' := by
  have HAW := Lib.hid (fun wx => grmawake_any hA hR hV hI wx)
  clear hA hR hV hI
  go_enter Try.func4, Try.ntmps4
  go_wp2_with (go_at_call 8; refine (HAW.out _).mono ?_; rintro e w4 ⟨rfl, hf4⟩)
  go_ret
  exact ⟨rfl, hf4⟩
set_option maxRecDepth 100000 in
theorem bounds_bad5 (hA : ProgPar) (hR : ProgResolve) (hV : ProgValid) (hI : ProgIsT) (n r t : Int) (w : World) (h0 : decide (n < 1) = false) (h1 : decide (260 < n) = false) (h2 : decide (r < 0) = false) (h3 : decide (70 < r) = false) (h4 : decide (t < 0) = false) (h5 : decide (70 < t) = true) : Calls Try.prog 4 #[.int .i64 n, .int .i64 r, .int .i64 t] w fun e w' => e = .returned (.bool true) ∧ Fr [] w w' := by
  have HAW := Lib.hid (fun wx => grmawake_any hA hR hV hI wx)
  clear hA hR hV hI
  go_enter Try.func4, Try.ntmps4
  go_wp2_with (go_at_call 8; refine (HAW.out _).mono ?_; rintro e w4 ⟨rfl, hf4⟩)
  go_ret
  exact ⟨rfl, hf4⟩
set_option maxRecDepth 100000 in
set_option maxHeartbeats 8000000 in
theorem bounds_good (hA : ProgPar) (hR : ProgResolve) (hV : ProgValid) (hI : ProgIsT) (N R T : Nat) (w : World) (hN1 : 1 ≤ N) (hN2 : N ≤ 260) (hR2 : R ≤ 70) (hT2 : T ≤ 70) : Calls Try.prog 4 #[.int .i64 (N : Int), .int .i64 (R : Int), .int .i64 (T : Int)] w fun e w' => e = .returned (.bool true) ∧ Fr [] w w' := by
  obtain ⟨iB, hiB, hB0, hB1, hB2⟩ := info_parts infoB
  obtain ⟨iS, hiS, hS0, hS1, hS2⟩ := info_parts infoStrB
  obtain ⟨iI, hiI, hI0, hI1, hI2⟩ := info_parts infoIntB
  obtain ⟨iR, hiR, hR0', hR1', hR2'⟩ := info_parts infoRuleB
  have HAW := Lib.hid (fun wx => grmawake_any hA hR hV hI wx)
  have HV := Lib.hid (fun gv wx (hg : gramAt wx gv (boundG N R T)) => hV (boundG N R T) gv wx hg (bound_size hN2 hR2 hT2) (bound_int N R T))
  clear hA hR hV hI
  have d1 : decide ((N : Int) < 1) = false := decide_eq_false (by omega)
  have d2 : decide (260 < (N : Int)) = false := decide_eq_false (by omega)
  have d3 : decide ((R : Int) < 0) = false := decide_eq_false (by omega)
  have d4 : decide (70 < (R : Int)) = false := decide_eq_false (by omega)
  have d5 : decide ((T : Int) < 0) = false := decide_eq_false (by omega)
  have d6 : decide (70 < (T : Int)) = false := decide_eq_false (by omega)
  go_enter Try.func4, Try.ntmps4
  go_upto_region 4 with fail
  obtain ⟨w1, hw1⟩ : ∃ w1, w1 = w.alloc (.cells #[.string { data := #[97] }] 9) := ⟨_, rfl⟩
  obtain ⟨p, hp⟩ : ∃ p, p = w.heap.size := ⟨_, rfl⟩
  have hf1 := Fr.alloc w (.cells #[.string { data := #[97] }] 9)
  have hb1 := heap_alloc_new w (.cells #[.string { data := #[97] }] 9)
  rw [← hw1] at hf1 hb1
  rw [← hp] at hb1
  have hs1 : w1.heap.size = p + 1 := by rw [hw1, World.size_alloc, ← hp]
  rw [← hw1]
  rw [← hp]
  have hf2 := Fr.alloc w1 (.cells #[.slice none 0 0, .slice (some ⟨p, 0, none⟩) 1 1, .slice none 0 0] 25)
  have hb2 := heap_alloc_new w1 (.cells #[.slice none 0 0, .slice (some ⟨p, 0, none⟩) 1 1, .slice none 0 0] 25)
  obtain ⟨w2, hw2⟩ : ∃ w2, w2 = w1.alloc (.cells #[.slice none 0 0, .slice (some ⟨p, 0, none⟩) 1 1, .slice none 0 0] 25) := ⟨_, rfl⟩
  obtain ⟨q, hq⟩ : ∃ q, q = p + 1 := ⟨_, rfl⟩
  rw [← hw2] at hf2 hb2
  rw [hs1, ← hq] at hb2
  rw [← hw2, ← hq]
  have HQ := Lib.hid (show q < w2.heap.size by rw [hw2, World.size_alloc, hs1, hq]; omega)
  have HPQ := Lib.hid (show p ≠ q by omega)
  have HQW := Lib.hid (show w.heap.size ≤ q by omega)
  have HB1 := Lib.hid (hf2.heap hb1 (by simp))
  have HF2 := Lib.hid (hf1.trans hf2 (by simp) (n := []) (by simp))
  have HG0 := Lib.hid (show GBv w2 q p (nsB 0) (rsB 0) (.slice none 0 0) (.slice none 0 0) [] w2 from
    ⟨hb2, World.ownsRow_nil _ _ _ _, rfl, World.ownsRow_nil _ _ _ _, fun i h => by simp at h, Fr.refl _ _⟩)
  clear hw1 hp hf1 hb1 hs1 hf2 hb2 hw2 hq d1 d2 d3 d4 d5 d6
  go_wp2_with fail
  go_loopw [8] (BdL1 w2 q p N) (fun iv _ => N - (intOf iv).toNat)
  case atStart => exact ⟨0, _, _, _, Nat.zero_le _, rfl, HG0.out⟩
  case round =>
    obtain ⟨k, nv, rv, vs, hk, rfl, hst⟩ := hrel
    have HST := Lib.hid hst
    by_cases hkn : k < N
    · have hd1 : decide (k < N) = true := decide_eq_true hkn
      obtain ⟨a1, c1, rfl, hc1, hm1⟩ := owns_slice hst.names
      obtain ⟨a2, c2, rfl, hc2, hm2⟩ := owns_slice hst.rules
      obtain ⟨x0, x1, x2, s0, s1, s2⟩ := three_of_heap hst.box
      have hcl : (#[.int .u8 (97 + (k : Int) / 26), .int .u8 (97 + (k : Int) % 26)] : Array Value) = (cellsB [UInt8.ofNat (97 + k / 26), UInt8.ofNat (97 + k % 26)]).toArray := by
        have e1 : ((UInt8.ofNat (97 + k / 26)).toNat : Int) = 97 + (k : Int) / 26 := by rw [UInt8.toNat_ofNat_of_lt' (by show 97 + k / 26 < 256; omega)]; omega
        have e2 : ((UInt8.ofNat (97 + k % 26)).toNat : Int) = 97 + (k : Int) % 26 := by rw [UInt8.toNat_ofNat_of_lt' (by show 97 + k % 26 < 256; omega)]; omega
        show _ = (#[Value.int .u8 ((UInt8.ofNat (97 + k / 26)).toNat : Int), Value.int .u8 ((UInt8.ofNat (97 + k % 26)).toNat : Int)] : Array Value)
        rw [e1, e2]
      have hby := bytesAt_new wr [UInt8.ofNat (97 + k / 26), UInt8.ofNat (97 + k % 26)] 5 2 rfl (by simp [maxLen]) _ hcl
      have hcv := run_conv_bytes (P := Try.prog) hby 35 5 9 Try.underlying35 Try.underlying5 Try.underlying9
      obtain ⟨B, hB⟩ : ∃ B, B = [UInt8.ofNat (97 + k / 26), UInt8.ofNat (97 + k % 26)].toArray := ⟨_, rfl⟩
      obtain ⟨C, hC⟩ : ∃ C, C = (nmB k).toArray := ⟨_, rfl⟩
      rw [← hB] at hcv
      have hcat := fun wx => cat_run2 (P := Try.prog) (A := #[110]) (B := B) (C := C) (x := [110]) rfl hB hC (by simp) wx
      have HC := Lib.hid (show Value.string { data := C } = encStr (nmB k) by rw [hC])
      have hfA := Fr.alloc wr (.cells #[.int .u8 (97 + (k : Int) / 26), .int .u8 (97 + (k : Int) % 26)] 5)
      have HFA := Lib.hid hfA
      have hownA := owns_kept hst.names hfA (by simp)
      have hge := (hst.fr.trans hfA (fun _ z _ => z) (n := [q]) (by simp)).size
      have hboxA := hfA.heap hst.box (by simp)
      have hqn : q ∉ (Value.slice a1 (nsB k).length c1).ownBlock.toList := fun hm => notT_row hownA (t := 25) (by decide) q hm _ _ _ hboxA rfl
      have HBA := Lib.hid hboxA
      have HQN := Lib.hid hqn
      clear hcl hby hB hC hst hfA hboxA hqn
      go_upto_region 8 with (at_builtin; refine wpL_append1 rfl _ _ 22 rfl w2.heap.size 9 iS (.string ⟨#[]⟩) 16 Try.underlying22 hiS hS0 hS1 hS2 rfl (.slice a1 (nsB k).length c1) (nsB k).length ((nsB k).map encStr) rfl hownA (.string { data := C }) rfl (by rw [World.size_alloc]; rfl) (by have := nsB_len k; omega) (by have := nsB_len k; simp [maxLen]; omega) hge ?_; intro v5 w5 hown5 hf5 hb5; obtain ⟨a3, c3, rfl, hc3, hm3⟩ := owns_slice hown5; obtain ⟨x0, x1, x2, s0, s1, s2⟩ := three_of_heap (hf5.heap HBA.out HQN.out))
      rw [HC.out] at hown5
      have hg1 := HST.out.name HQ.out HFA.out hown5 hf5
      rw [← nsB_next] at hg1
      obtain ⟨w6, hw6⟩ : ∃ w6, w6 = w5.setCell ⟨q, 0, none⟩ (.slice a3 ((nsB k).length + 1) c3) := ⟨_, rfl⟩
      rw [← hw6] at hg1
      rw [← hw6]
      have HG1 := Lib.hid hg1
      have hfe := Fr.alloc w6 (.cells #[.int .i64 (k : Int), .slice none 0 0] 31)
      have HFE := Lib.hid hfe
      have hrow6 := hg1.rules
      have hge6 := hg1.fr.size
      have hqn6 : q ∉ (Value.slice a2 (rsB k).length c2).ownBlock.toList := fun hm => notT_row hg1.rules (t := 25) (by decide) q hm _ _ _ hg1.box rfl
      have HQN6 := Lib.hid hqn6
      clear x0 x1 x2 s0 s1 s2 hown5 hf5 hb5 hw6 hownA hge hcv hcat hfe hqn6
      obtain ⟨x0, x1, x2, s0, s1, s2⟩ := three_of_heap hg1.box
      clear hg1
      go_wp2_with (at_builtin; refine wpL_appendS rfl _ _ 23 rfl w2.heap.size 31 iR _ 2 32 Try.underlying23 hiR hR0' hR1' hR2' (by rfl) (by decide) (.slice a2 (rsB k).length c2) (rsB k).length _ rfl hrow6 [.int .i64 (k : Int), .slice none 0 0] rfl (by intro u hu; simp at hu; rcases hu with rfl | rfl <;> rfl) rfl (by have := rsB_len k; omega) (by have := rsB_len k; simp [maxLen]; omega) hge6 ?_; intro v7 w7 hown7 hf7 hb7; obtain ⟨a4, c4, rfl, hc4, hm4⟩ := owns_slice hown7; obtain ⟨x0, x1, x2, s0, s1, s2⟩ := three_of_heap ((HFE.out.trans hf7 (by simp) (n := (Value.slice a2 (rsB k).length c2).ownBlock.toList) (fun _ z _ => z)).heap HG1.out.box HQN6.out))
      have hg2 := HG1.out.rule HQ.out HFE.out (l := (k : Int)) (r := []) (kv := .slice none 0 0) hown7 (World.ownsRow_nil _ _ _ _) hf7
      rw [← rsB_next] at hg2
      exact ⟨⟨k + 1, _, _, _, by omega, by go_num, hg2⟩, by simp [intOf]; omega⟩
    · have hd1 : decide (k < N) = false := decide_eq_false hkn
      have hkl : k = N := by omega
      have HG1 := Lib.hid (show GBv w2 q p (nsB N) (qsB (rsB N) T 0) nv rv vs wr by rw [show qsB (rsB N) T 0 = rsB N by simp [qsB]]; rw [hkl] at hst; exact hst)
      clear hst hkl HST
      go_wp2_with fail
      go_loopw [9] (BdL2 w2 q p N R T) (fun iv _ => R - (intOf iv).toNat)
      case atStart => exact ⟨0, _, _, _, Nat.zero_le _, rfl, HG1.out⟩
      case round =>
        clear HG1
        obtain ⟨j, nv, rv, vs, hj, rfl, hst⟩ := hrel
        have HST := Lib.hid hst
        by_cases hjn : j < R
        · have hd2 : decide (j < R) = true := decide_eq_true hjn
          obtain ⟨a2, c2, rfl, hc2, hm2⟩ := owns_slice hst.rules
          have hf3 := Fr.alloc wr (.cells #[.int .i64 0, .slice none 0 0] 31)
          have hb3 := two_of_newB wr (.int .i64 0) (.slice none 0 0) 31
          obtain ⟨w3, hw3⟩ : ∃ w3, w3 = wr.alloc (.cells #[.int .i64 0, .slice none 0 0] 31) := ⟨_, rfl⟩
          obtain ⟨b, hb⟩ : ∃ b, b = wr.heap.size := ⟨_, rfl⟩
          rw [← hw3] at hf3 hb3
          rw [← hb] at hb3
          have HF3 := Lib.hid hf3
          have HB3 := Lib.hid hb3
          have HW3 := Lib.hid hw3
          have HB := Lib.hid hb
          have HS3 := Lib.hid (show wr.heap.size ≤ w3.heap.size from hf3.size)
          have HSW := Lib.hid (show w2.heap.size ≤ wr.heap.size from hst.fr.size)
          clear hst hf3 hb3 hw3 hb
          go_upto_region 13 with fail
          rw [← HW3.out, ← HB.out]
          obtain ⟨wo, hwo⟩ : ∃ wo, wo = wr := ⟨_, rfl⟩
          rw [← hwo] at HST HF3 HB HS3 HSW HW3
          have HS4 := Lib.hid (show w3.heap.size = b + 1 by rw [HW3.out, World.size_alloc, HB.out])
          clear hwo HW3
          go_wp2_with fail
          go_loopw [11] (BdL3 wo w3 b T j) (fun iv _ => min (j + 1) T - (intOf iv).toNat)
          case atStart => exact ⟨0, _, Nat.zero_le _, rfl, HF3.out, HB3.out, World.ownsRow_nil _ _ _ _⟩
          case round =>
            obtain ⟨k, kv, hk, rfl, hfx, hbx, hkx⟩ := hrel
            have HFX := Lib.hid hfx
            have HBX := Lib.hid hbx
            have HKX := Lib.hid hkx
            by_cases hkm : k < min (j + 1) T
            · have e1 : decide (k ≤ j) = true := decide_eq_true (by omega)
              have e2 : decide (k < T) = true := decide_eq_true (by omega)
              obtain ⟨a3, c3, rfl, hc3, hm3⟩ := owns_slice hkx
              obtain ⟨y0, y1, z0, z1⟩ := two_cellsB hbx
              have hge : w3.heap.size ≤ wr.heap.size := by
                have hl := (Array.getElem?_eq_some_iff.1 HBX.out).1
                have := HS4.out
                omega
              have hbn : b ∉ (Value.slice a3 k c3).ownBlock.toList := fun hm => by
                have h1 := (hkx.lt b (by simpa [Option.mem_toList] using hm)).1
                have := HS4.out
                omega
              have HBN := Lib.hid hbn
              have hx : ((List.replicate (k + 1) (-1 : Int)).map intV) = ((List.replicate k (-1 : Int)).map intV) ++ [.int .i64 (-1)] := by
                rw [List.replicate_succ', List.map_append]; rfl
              have HX := Lib.hid hx
              clear hfx hbx hx hbn
              go_wp2_with (at_builtin; refine wpL_append1 rfl _ _ 28 rfl w3.heap.size 3 iI (.int .i64 0) 8 Try.underlying28 hiI hI0 hI1 hI2 rfl (.slice a3 k c3) k _ rfl hkx (.int .i64 (-1)) rfl rfl (by omega) (by simp [maxLen]; omega) hge ?_; intro v5 w5 hown5 hf5 hb5; obtain ⟨a4, c4, rfl, hc4, hm4⟩ := owns_slice hown5; obtain ⟨y0, y1, z0, z1⟩ := two_cellsB (hf5.heap HBX.out HBN.out))
              refine ⟨⟨k + 1, _, by omega, by go_num, ?_, heap_setCell_same (hf5.heap HBX.out HBN.out) (i := 1) _, ?_⟩, by simp [intOf]; omega⟩
              · refine (HFX.out.trans hf5 (by simp) (n := []) (fun i hi hlt => ?_)).trans (Fr.set0 _ _ _ _) (by simp) (fun i hi hlt => ?_)
                · have h1 := (HKX.out.lt i (by simpa [Option.mem_toList] using hi)).1
                  have := HS3.out
                  omega
                · have := HB.out
                  simp at hi; omega
              · rw [HX.out]
                refine owns_kept hown5 (Fr.set0 _ _ _ _) (fun i hi hm => ?_)
                have h1 := (hown5.lt i hi).1
                have := HS4.out
                simp at hm; omega
            · have hkl : k = min (j + 1) T := by omega
              have hst := HST.out.below HFX.out
              have HS := Lib.hid hst
              obtain ⟨y0, y1, z0, z1⟩ := two_cellsB hbx
              obtain ⟨x0, x1, x2, s0, s1, s2⟩ := three_of_heap hst.box
              obtain ⟨a3, c3, rfl, hc3, hm3⟩ := owns_slice hkx
              have hrow := hst.rules
              have hge := hst.fr.size
              have hqn : q ∉ (Value.slice a2 (qsB (rsB N) T j).length c2).ownBlock.toList := fun hm => notT_row hst.rules (t := 25) (by decide) q hm _ _ _ hst.box rfl
              have HQN := Lib.hid hqn
              have hfe := Fr.alloc wr (.cells #[.int .i64 0, .slice a3 k c3] 31)
              have HFE := Lib.hid hfe
              have HR' := Lib.hid (show ruleOf T j = ⟨0, List.replicate k (-1)⟩ by unfold ruleOf; rw [hkl])
              have HKW := Lib.hid (owns_base hkx (base' := w2.heap.size) (fun m hm => by
                have h1 := (hkx.lt m hm).1
                have := HS3.out
                have := HSW.out
                omega))
              have HXE := Lib.hid (qsB_next (rsB N) T j)
              have hbl : (qsB (rsB N) T j).length = N + j := by rw [qsB_len, rsB_len]
              have HBL := Lib.hid hbl
              clear hst hkx hbx hfx hqn hfe hbl
              by_cases hkj : k ≤ j
              · have e1 : decide (k ≤ j) = true := decide_eq_true hkj
                have e2 : decide (k < T) = false := decide_eq_false (by omega)
                clear hkl hkm hkj
                go_wp2_with (at_builtin; refine wpL_appendS rfl _ _ 23 rfl w2.heap.size 31 iR _ 2 32 Try.underlying23 hiR hR0' hR1' hR2' (by rfl) (by decide) (.slice a2 (qsB (rsB N) T j).length c2) (qsB (rsB N) T j).length _ rfl hrow [.int .i64 0, .slice a3 k c3] rfl (by intro u hu; simp at hu; rcases hu with rfl | rfl <;> rfl) rfl (by have := HBL.out; omega) (by have := HBL.out; simp [maxLen]; omega) hge ?_; intro v7 w7 hown7 hf7 hb7; obtain ⟨a4, c4, rfl, hc4, hm4⟩ := owns_slice hown7; obtain ⟨x0, x1, x2, s0, s1, s2⟩ := three_of_heap ((HFE.out.trans hf7 (by simp) (n := (Value.slice a2 (qsB (rsB N) T j).length c2).ownBlock.toList) (fun _ z _ => z)).heap HS.out.box HQN.out))
                have hg2 := HS.out.rule HQ.out HFE.out (l := 0) (r := List.replicate k (-1)) (kv := .slice a3 k c3) hown7 (by rw [List.length_replicate]; exact owns_kept HKW.out HFE.out (by simp)) hf7
                rw [← HR'.out, ← HXE.out] at hg2
                exact ⟨⟨j + 1, _, _, _, by omega, by go_num, hg2⟩, by simp [intOf]; omega⟩
              · have e1 : decide (k ≤ j) = false := decide_eq_false hkj
                clear hkl hkm hkj
                go_wp2_with (at_builtin; refine wpL_appendS rfl _ _ 23 rfl w2.heap.size 31 iR _ 2 32 Try.underlying23 hiR hR0' hR1' hR2' (by rfl) (by decide) (.slice a2 (qsB (rsB N) T j).length c2) (qsB (rsB N) T j).length _ rfl hrow [.int .i64 0, .slice a3 k c3] rfl (by intro u hu; simp at hu; rcases hu with rfl | rfl <;> rfl) rfl (by have := HBL.out; omega) (by have := HBL.out; simp [maxLen]; omega) hge ?_; intro v7 w7 hown7 hf7 hb7; obtain ⟨a4, c4, rfl, hc4, hm4⟩ := owns_slice hown7; obtain ⟨x0, x1, x2, s0, s1, s2⟩ := three_of_heap ((HFE.out.trans hf7 (by simp) (n := (Value.slice a2 (qsB (rsB N) T j).length c2).ownBlock.toList) (fun _ z _ => z)).heap HS.out.box HQN.out))
                have hg2 := HS.out.rule HQ.out HFE.out (l := 0) (r := List.replicate k (-1)) (kv := .slice a3 k c3) hown7 (by rw [List.length_replicate]; exact owns_kept HKW.out HFE.out (by simp)) hf7
                rw [← HR'.out, ← HXE.out] at hg2
                exact ⟨⟨j + 1, _, _, _, by omega, by go_num, hg2⟩, by simp [intOf]; omega⟩
        · have hd2 : decide (j < R) = false := decide_eq_false hjn
          have HG := Lib.hid hst
          obtain ⟨x0, x1, x2, s0, s1, s2⟩ := three_of_heap hst.box
          have hjl : j = R := by omega
          rw [hjl] at hst
          have HGR := Lib.hid (show gramAt wr (.agg #[nv, .slice (some ⟨p, 0, none⟩) 1 1, rv]) (boundG N R T) from hst.gram HPQ.out HB1.out)
          have HFW := Lib.hid (HF2.out.trans hst.fr (by simp) (n := []) (fun i hi hlt => by have := HQW.out; simp at hi; omega))
          obtain ⟨a1, c1, rfl, hc1, hm1⟩ := owns_slice hst.names
          obtain ⟨a2, c2, rfl, hc2, hm2⟩ := owns_slice hst.rules
          obtain ⟨n3, hn3⟩ : ∃ n3, n3 = (nsB N).length := ⟨_, rfl⟩
          obtain ⟨n4, hn4⟩ : ∃ n4, n4 = (qsB (rsB N) T R).length := ⟨_, rfl⟩
          rw [← hn3, ← hn4] at HGR
          rw [← hn4] at x2
          rw [← hn3] at x0
          obtain ⟨W, hW⟩ : ∃ W, W = decide (N + 1 ≤ 256) := ⟨_, rfl⟩
          have hW1 : decide ((N : Int) + 1 ≤ 256) = W := by rw [hW]; exact decide_eq_decide.2 (by omega)
          have hW2 : decide (N + 1 ≤ 256) = W := hW.symm
          have hWW : (W == W) = true := by simp
          have HWE := Lib.hid hW
          clear hst hjl HG HST hn3 hn4 hW
          by_cases c1 : 0 < R ∧ T = 0
          · have e1i : decide ((0 : Int) < (R : Int)) = true := decide_eq_true (by omega)
            have e1n : decide (0 < R) = true := decide_eq_true (by omega)
            have e2i : ((T : Int) == 0) = true := by simp; omega
            have e2n : (T == 0) = true := by simp; omega
            have hw : wantB N R T = false := by rw [wantB_int, if_pos (by omega)]
            have hval := fun wx (hfx : Fr [] wr wx) => HV.out _ wx (HGR.out.below hfx)
            rw [bound_valid hN1 hN2 hR2 hT2, hw] at hval
            have HVL := Lib.hid hval
            clear hval hw
            go_wp2_with (first
              | (go_at_call 10; refine (HVL.out _ (Fr.refl _ _)).mono ?_; rintro e w4 ⟨rfl, hf4⟩)
              | (go_at_call 8; refine (HAW.out _).mono ?_; rintro e w5 ⟨rfl, hf5⟩))
            go_ret
            exact ⟨rfl, (HFW.out.trans hf4 (by simp) (n := []) (by simp)).trans hf5 (by simp) (by simp)⟩
          by_cases c2 : T < R
          · have e1i : decide ((0 : Int) < (R : Int)) = true := decide_eq_true (by omega)
            have e1n : decide (0 < R) = true := decide_eq_true (by omega)
            have e2i : ((T : Int) == 0) = false := by rw [beq_eq_false_iff_ne]; omega
            have e2n : (T == 0) = false := by rw [beq_eq_false_iff_ne]; omega
            have e3i : decide ((T : Int) < (R : Int)) = true := decide_eq_true (by omega)
            have e3n : decide (T < R) = true := decide_eq_true (by omega)
            have hw : wantB N R T = false := by rw [wantB_int, if_pos (by omega)]
            have hval := fun wx (hfx : Fr [] wr wx) => HV.out _ wx (HGR.out.below hfx)
            rw [bound_valid hN1 hN2 hR2 hT2, hw] at hval
            have HVL := Lib.hid hval
            clear hval hw
            go_wp2_with (first
              | (go_at_call 10; refine (HVL.out _ (Fr.refl _ _)).mono ?_; rintro e w4 ⟨rfl, hf4⟩)
              | (go_at_call 8; refine (HAW.out _).mono ?_; rintro e w5 ⟨rfl, hf5⟩))
            go_ret
            exact ⟨rfl, (HFW.out.trans hf4 (by simp) (n := []) (by simp)).trans hf5 (by simp) (by simp)⟩
          by_cases c3 : 64 < R
          · by_cases c4 : 64 < T
            · have e1i : decide ((0 : Int) < (R : Int)) = true := decide_eq_true (by omega)
              have e1n : decide (0 < R) = true := decide_eq_true (by omega)
              have e2i : ((T : Int) == 0) = false := by rw [beq_eq_false_iff_ne]; omega
              have e2n : (T == 0) = false := by rw [beq_eq_false_iff_ne]; omega
              have e3i : decide ((T : Int) < (R : Int)) = false := decide_eq_false (by omega)
              have e3n : decide (T < R) = false := decide_eq_false (by omega)
              have e4i : decide ((64 : Int) < (R : Int)) = true := decide_eq_true (by omega)
              have e4n : decide (64 < R) = true := decide_eq_true (by omega)
              have e5i : decide ((64 : Int) < (T : Int)) = true := decide_eq_true (by omega)
              have e5n : decide (64 < T) = true := decide_eq_true (by omega)
              have hw : wantB N R T = false := by rw [wantB_int, if_pos (by omega)]
              have hval := fun wx (hfx : Fr [] wr wx) => HV.out _ wx (HGR.out.below hfx)
              rw [bound_valid hN1 hN2 hR2 hT2, hw] at hval
              have HVL := Lib.hid hval
              clear hval hw
              go_wp2_with (first
                | (go_at_call 10; refine (HVL.out _ (Fr.refl _ _)).mono ?_; rintro e w4 ⟨rfl, hf4⟩)
                | (go_at_call 8; refine (HAW.out _).mono ?_; rintro e w5 ⟨rfl, hf5⟩))
              go_ret
              exact ⟨rfl, (HFW.out.trans hf4 (by simp) (n := []) (by simp)).trans hf5 (by simp) (by simp)⟩
            · have e1i : decide ((0 : Int) < (R : Int)) = true := decide_eq_true (by omega)
              have e1n : decide (0 < R) = true := decide_eq_true (by omega)
              have e2i : ((T : Int) == 0) = false := by rw [beq_eq_false_iff_ne]; omega
              have e2n : (T == 0) = false := by rw [beq_eq_false_iff_ne]; omega
              have e3i : decide ((T : Int) < (R : Int)) = false := decide_eq_false (by omega)
              have e3n : decide (T < R) = false := decide_eq_false (by omega)
              have e4i : decide ((64 : Int) < (R : Int)) = true := decide_eq_true (by omega)
              have e4n : decide (64 < R) = true := decide_eq_true (by omega)
              have e5i : decide ((64 : Int) < (T : Int)) = false := decide_eq_false (by omega)
              have e5n : decide (64 < T) = false := decide_eq_false (by omega)
              have hw : wantB N R T = W := by rw [wantB_int, if_neg (by omega)]; exact HWE.out.symm
              have hval := fun wx (hfx : Fr [] wr wx) => HV.out _ wx (HGR.out.below hfx)
              rw [bound_valid hN1 hN2 hR2 hT2, hw] at hval
              have HVL := Lib.hid hval
              clear hval hw
              go_wp2_with (first
                | (go_at_call 10; refine (HVL.out _ (Fr.refl _ _)).mono ?_; rintro e w4 ⟨rfl, hf4⟩)
                | (go_at_call 8; refine (HAW.out _).mono ?_; rintro e w5 ⟨rfl, hf5⟩))
              go_ret
              exact ⟨rfl, (HFW.out.trans hf4 (by simp) (n := []) (by simp)).trans hf5 (by simp) (by simp)⟩
          by_cases c5 : 0 < R
          · have e1i : decide ((0 : Int) < (R : Int)) = true := decide_eq_true (by omega)
            have e1n : decide (0 < R) = true := decide_eq_true (by omega)
            have e2i : ((T : Int) == 0) = false := by rw [beq_eq_false_iff_ne]; omega
            have e2n : (T == 0) = false := by rw [beq_eq_false_iff_ne]; omega
            have e3i : decide ((T : Int) < (R : Int)) = false := decide_eq_false (by omega)
            have e3n : decide (T < R) = false := decide_eq_false (by omega)
            have e4i : decide ((64 : Int) < (R : Int)) = false := decide_eq_false (by omega)
            have e4n : decide (64 < R) = false := decide_eq_false (by omega)
            have hw : wantB N R T = W := by rw [wantB_int, if_neg (by omega)]; exact HWE.out.symm
            have hval := fun wx (hfx : Fr [] wr wx) => HV.out _ wx (HGR.out.below hfx)
            rw [bound_valid hN1 hN2 hR2 hT2, hw] at hval
            have HVL := Lib.hid hval
            clear hval hw
            go_wp2_with (first
              | (go_at_call 10; refine (HVL.out _ (Fr.refl _ _)).mono ?_; rintro e w4 ⟨rfl, hf4⟩)
              | (go_at_call 8; refine (HAW.out _).mono ?_; rintro e w5 ⟨rfl, hf5⟩))
            go_ret
            exact ⟨rfl, (HFW.out.trans hf4 (by simp) (n := []) (by simp)).trans hf5 (by simp) (by simp)⟩
          have e1i : decide ((0 : Int) < (R : Int)) = false := decide_eq_false (by omega)
          have e1n : decide (0 < R) = false := decide_eq_false (by omega)
          have e3i : decide ((T : Int) < (R : Int)) = false := decide_eq_false (by omega)
          have e3n : decide (T < R) = false := decide_eq_false (by omega)
          have e4i : decide ((64 : Int) < (R : Int)) = false := decide_eq_false (by omega)
          have e4n : decide (64 < R) = false := decide_eq_false (by omega)
          have hw : wantB N R T = W := by rw [wantB_int, if_neg (by omega)]; exact HWE.out.symm
          have hval := fun wx (hfx : Fr [] wr wx) => HV.out _ wx (HGR.out.below hfx)
          rw [bound_valid hN1 hN2 hR2 hT2, hw] at hval
          have HVL := Lib.hid hval
          clear hval hw
          go_wp2_with (first
            | (go_at_call 10; refine (HVL.out _ (Fr.refl _ _)).mono ?_; rintro e w4 ⟨rfl, hf4⟩)
            | (go_at_call 8; refine (HAW.out _).mono ?_; rintro e w5 ⟨rfl, hf5⟩))
          go_ret
          exact ⟨rfl, (HFW.out.trans hf4 (by simp) (n := []) (by simp)).trans hf5 (by simp) (by simp)⟩
theorem grmbounds_any (hA : ProgPar) (hR : ProgResolve) (hV : ProgValid) (hI : ProgIsT) (n r t : Int) (w : World) : Calls Try.prog 4 #[.int .i64 n, .int .i64 r, .int .i64 t] w fun e w' => e = .returned (.bool true) ∧ Fr [] w w' := by
  by_cases h0 : n < 1
  · exact bounds_bad0 hA hR hV hI n r t w (decide_eq_true h0)
  by_cases h1 : 260 < n
  · exact bounds_bad1 hA hR hV hI n r t w (decide_eq_false h0) (decide_eq_true h1)
  by_cases h2 : r < 0
  · exact bounds_bad2 hA hR hV hI n r t w (decide_eq_false h0) (decide_eq_false h1) (decide_eq_true h2)
  by_cases h3 : 70 < r
  · exact bounds_bad3 hA hR hV hI n r t w (decide_eq_false h0) (decide_eq_false h1) (decide_eq_false h2) (decide_eq_true h3)
  by_cases h4 : t < 0
  · exact bounds_bad4 hA hR hV hI n r t w (decide_eq_false h0) (decide_eq_false h1) (decide_eq_false h2) (decide_eq_false h3) (decide_eq_true h4)
  by_cases h5 : 70 < t
  · exact bounds_bad5 hA hR hV hI n r t w (decide_eq_false h0) (decide_eq_false h1) (decide_eq_false h2) (decide_eq_false h3) (decide_eq_false h4) (decide_eq_true h5)
  obtain ⟨N, rfl⟩ := Int.eq_ofNat_of_zero_le (show 0 ≤ n by omega)
  obtain ⟨R, rfl⟩ := Int.eq_ofNat_of_zero_le (show 0 ≤ r by omega)
  obtain ⟨T, rfl⟩ := Int.eq_ofNat_of_zero_le (show 0 ≤ t by omega)
  exact bounds_good hA hR hV hI N R T w (by omega) (by omega) (by omega) (by omega)
end Go.Proofs.Ytcmgnhjffhaajaa
