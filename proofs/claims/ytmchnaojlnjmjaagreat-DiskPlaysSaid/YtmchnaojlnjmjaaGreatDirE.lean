/- Package dir: settle. -/
import Derived.Test.YtmchnaojlnjmjaaGreatDirD
namespace Go.Proofs.YtmchnaojlnjmjaaGreat
open Go.RowKit Go.Maps

/-- The cells of one element of a list, a struct of four cells. -/
theorem quad_cells {w : World} {a0 : Option Addr} {n cap : Nat} {α : Type} {f : α → List Value} {l : List α} (h : elemsAt w (.slice a0 n cap) 4 (l.map f)) (k : Nat) (hk : k < l.length) {c0 c1 c2 c3 : Value} (hf : f (l[k]'hk) = [c0, c1, c2, c3]) : ∃ b off, a0 = some ⟨b, off, none⟩ ∧ b < w.heap.size ∧
    w.cell? ⟨b, off + k * 4, none⟩ = some c0 ∧ w.cell? ⟨b, off + k * 4 + 1, none⟩ = some c1 ∧ w.cell? ⟨b, off + k * 4 + 2, none⟩ = some c2 ∧ w.cell? ⟨b, off + k * 4 + 3, none⟩ = some c3 := by
  rcases h with ⟨_, _, _, _, e⟩ | ⟨b, off, cap', e, _, _, hb, hcell⟩
  · rw [List.map_eq_nil_iff] at e; subst e; simp at hk
  · simp only [Value.slice.injEq, List.length_map] at e
    obtain ⟨rfl, hn, rfl⟩ := e
    obtain ⟨-, h1⟩ := hcell k (by simpa using hk)
    rw [List.getElem_map, hf] at h1
    exact ⟨b, off, rfl, hb, by simpa using h1 0 _ rfl, h1 1 _ rfl, h1 2 _ rfl, h1 3 _ rfl⟩

def SetRel (w : World) (bS m2 c : Nat) (safe : List Ent) (ops : List OpD) (iv : Value) (wx : World) : Prop :=
  ∃ k : Nat, k ≤ c ∧ iv = .int .i64 (k : Int) ∧ mapIs wx bS (m2 + k) ((ops.take k).foldl applyL safe) ∧ Fr [bS] w wx
def Settled (p bN bS m2 c : Nat) (safe : List Ent) (ops : List OpD) (w : World) (e : Ending) (w' : World) : Prop :=
  e = .returned (.tuple #[]) ∧ w'.heap[p]? = some (.cells #[.map (some bN), .map (some bS), .slice none 0 0] 101 (0, 0)) ∧ mapIs w' bS (m2 + c) ((ops.take c).foldl applyL safe) ∧ Fr [p, bS] w w'
set_option maxRecDepth 100000 in
theorem dsettle_any (p bN bS m2 c : Nat) (pv : Value) (safe : List Ent) (ops : List OpD) (w : World) (hp : w.heap[p]? = some (.cells #[.map (some bN), .map (some bS), pv] 101 (0, 0))) (hS : mapIs w bS m2 safe)
    (hr : w.ownsRow 0 122 4 pv ops.length (ops.map OpD.pcells).flatten) (hseq : seqOk safe ops) (hc : c ≤ ops.length) (hm : m2 + ops.length ≤ 1000000) :
    Calls Tryz.prog 79 #[.pointer (some ⟨p, 0, none⟩), .int .i64 (c : Int)] w (Settled p bN bS m2 c safe ops w) := by
  obtain ⟨a0, cap, rfl, hcap, hcm⟩ := owns_slice hr
  have hel : elemsAt w (.slice a0 ops.length cap) 4 (ops.map OpD.pcells) := elems_of_owns (by rw [List.length_map]; exact hr) (by intro x hx; obtain ⟨o, _, rfl⟩ := List.mem_map.1 hx; rfl)
  have HE := Lib.hid hel
  have HP := Lib.hid hp
  have hpS : p ≠ bS := by
    rintro rfl
    obtain ⟨es, cl, hh⟩ := hS.heap
    rw [hp] at hh; cases hh
  have hqS : ∀ k, (Value.slice a0 ops.length cap).ownBlock = some k → k ≠ bS := by
    intro k hk
    rcases hr.2 with ⟨e, _⟩ | ⟨g, cap', cur, e, _, hg, _⟩
    · rw [e] at hk; cases hk
    · rw [e] at hk
      obtain rfl : g = k := by simpa [Value.ownBlock] using hk
      rintro rfl; obtain ⟨es, cl, hh⟩ := hS.heap; rw [hh] at hg; cases hg
  have HQS := Lib.hid hqS
  have HSEQ := Lib.hid hseq
  have hstart : SetRel w bS m2 c safe ops (.int .i64 0) w := ⟨0, Nat.zero_le _, rfl, hS, Fr.refl _ _⟩
  have hbS := hS.lt
  have hpl := (Array.getElem?_eq_some_iff.1 hp).1
  obtain ⟨c0, c1, c2, f0, f1, f2⟩ := three_of_heap hp
  have hcm' : cap ≤ 9223372036854775807 := by simpa [maxLen] using hcm
  obtain ⟨n, hn⟩ : ∃ n, n = ops.length := ⟨_, rfl⟩
  rw [← hn] at HE HP HQS hc hm hcap c2
  have HN := Lib.hid hn
  clear hel hp hS hr hseq hqS hn hcm
  go_enter Tryz.func79, Tryz.ntmps79
  go_wp2_with fail
  go_loopw [15] (SetRel w bS m2 c safe ops) (fun i _ => c - (intOf i).toNat)
  case atStart => exact hstart
  case round =>
    clear hstart c0 c1 c2 f0 f1 f2
    obtain ⟨k, hk, rfl, hM, hf⟩ := hrel
    by_cases hkc : k < c
    · have hd : decide (k < c) = true := decide_eq_true hkc
      have hkl : k < ops.length := by have := HN.out; omega
      obtain ⟨b1, off, rfl, hb1, k0, k1, k2, k3⟩ := quad_cells HE.out k hkl (rfl : OpD.pcells (ops[k]'hkl) = [_, _, _, _])
      have hb1S : b1 ≠ bS := HQS.out b1 rfl
      have hok := seqOk_at safe ops k hkl HSEQ.out
      have htk : (ops.take (k + 1)).foldl applyL safe = applyL ((ops.take k).foldl applyL safe) (ops[k]'hkl) := by
        rw [List.take_succ_eq_append_getElem hkl, List.foldl_append]; rfl
      obtain ⟨o, ho⟩ : ∃ o, o = ops[k]'hkl := ⟨_, rfl⟩
      rw [← ho] at k0 k1 k2 k3 hok htk
      obtain ⟨S, hS⟩ : ∃ S, S = (ops.take k).foldl applyL safe := ⟨_, rfl⟩
      rw [← hS] at hM hok htk
      have HAP := Lib.hid (fun wx (hx : mapIs wx bS (m2 + k) S) => opapply_any o bS (m2 + k) S wx hx hok (by simp [maxLen]; omega))
      have HTK := Lib.hid htk
      have g0 := hf.cell k0 (by simpa using hb1S)
      have g1 := hf.cell k1 (by simpa using hb1S)
      have g2 := hf.cell k2 (by simpa using hb1S)
      have g3 := hf.cell k3 (by simpa using hb1S)
      have HM := Lib.hid hM
      have HF := Lib.hid hf
      have hpr := hf.heap HP.out (by simpa using hpS)
      have HPR := Lib.hid hpr
      unfold OpD.pval at HAP
      clear ho hS hM hok htk k0 k1 k2 k3 hf hpr
      go_wp2_with fail
      have hb := heap_alloc_new wr (.cells #[.int .i64 o.kind, encStr o.a, encStr o.b, .int .i64 o.n] 122)
      have hfa := Fr.alloc wr (.cells #[.int .i64 o.kind, encStr o.a, encStr o.b, .int .i64 o.n] 122)
      obtain ⟨w1, hw1⟩ : ∃ w1, w1 = wr.alloc (.cells #[.int .i64 o.kind, encStr o.a, encStr o.b, .int .i64 o.n] 122) := ⟨_, rfl⟩
      obtain ⟨q, hq⟩ : ∃ q, q = wr.heap.size := ⟨_, rfl⟩
      rw [← hq] at hb ⊢
      rw [← hw1] at hb hfa ⊢
      have hws := HF.out.size
      have hqb : bS ≠ q := by omega
      have HB := Lib.hid hb
      have HFA := Lib.hid hfa
      clear hb hfa hw1 hq hws
      refine wp_region_G [bS] [(0, false), (1, false), (2, false), (3, false), (4, false), (5, true)] 29 rfl (by kernel_rfl) (by kernel_rfl) (by kernel_rfl) (fun c a d v w h => by cases d <;> exact h) (fun w2 hf2 => ?_)
      simp only [List.map_cons, List.map_nil, List.getElem?_toArray, List.getElem?_cons_succ, List.getElem?_cons_zero, Option.getD_some]
      have HF2 := Lib.hid hf2
      have LB : Hid (Later [bS] w2 (fun w' => w'.heap[q]? = some (.cells #[.int .i64 o.kind, encStr o.a, encStr o.b, .int .i64 o.n] 122 (0, 0)))) := Lib.hid (fun w' hf' => hf'.heap (hf2.heap HB.out (by simp)) (by simp; omega))
      have LP : Hid (Later [bS] w2 (fun w' => w'.heap[p]? = some (.cells #[.map (some bN), .map (some bS), .slice (some ⟨b1, off, none⟩) n cap] 101 (0, 0)))) := Lib.hid (fun w' hf' => hf'.heap (hf2.heap (HFA.out.heap HPR.out (by simp)) (by simp)) (by simpa using hpS))
      clear hf2 g0 g1 g2 g3
      repeat (apply wpG_t; · (intro w' hf'; obtain ⟨c0, c1, c2, f0, f1, f2⟩ := three_of_heap (LP.out w' hf'); obtain ⟨d0, d1, d2, d3⟩ := four_of_heap (LB.out w' hf'); go_wp2_with fail; exact ⟨rfl, rfl⟩))
      refine wpG_x ?_
      have hap := HAP.out w2 (HM.out.below (HFA.out.trans HF2.out (by simp) (by simp)))
      have HAP2 := Lib.hid hap
      clear hap
      go_wp2_with (go_at_call 91; refine HAP2.out.mono ?_; rintro e w3 ⟨rfl, hM3, hf3⟩)
      refine ⟨hf3, rfl, ?_⟩
      refine wpG_end ?_
      have HM3 := Lib.hid hM3
      have HF3 := Lib.hid hf3
      clear hM3 hf3
      go_wp2_with fail
      go_roundw
      case rel => exact ⟨k + 1, by omega, by simp, by rw [HTK.out]; exact HM3.out, ((HF.out.trans HFA.out (n := [bS]) (fun _ hk _ => hk) (by simp)).trans HF2.out (n := [bS]) (fun _ hk _ => hk) (by simp)).trans HF3.out (fun _ hk _ => hk) (fun _ hk _ => hk)⟩
      case measure => simp [intOf]; omega
    · have hd : decide (k < c) = false := decide_eq_false hkc
      obtain rfl : k = c := by omega
      have hpr := hf.heap HP.out (by simpa using hpS)
      obtain ⟨c0, c1, c2, f0, f1, f2⟩ := three_of_heap hpr
      have HPR := Lib.hid hpr
      have HM := Lib.hid hM
      have HF := Lib.hid hf
      clear hpr hM hf
      go_wp2_with fail
      go_end0
      have hfs := Fr.set0 wr p 2 (.slice none 0 0)
      refine ⟨rfl, ?_, HM.out.kept hfs (by simpa using Ne.symm hpS), HF.out.trans hfs (by simp) (by simp)⟩
      have := heap_setCell_same (i := 2) HPR.out (.slice none 0 0)
      simpa using this
end Go.Proofs.YtmchnaojlnjmjaaGreat
