/- The program's parser (layer 13): begin, an empty alternative behind the others of the last line. -/
import Derived.Test.YtcmgnhjffhaajaaPrsA
import Derived.Test.YtcmgnhjffhaajaaBs
import Derived.BigQuiet
import Derived.Maps.AppendAt
namespace Go.Proofs.Ytcmgnhjffhaajaa
open Go.RowKit

theorem infoPA : (Try.prog.info? pA).map (fun i => (i.zero, i.size, i.bytes)) = some (some (.slice none 0 0), 1, 24) := by kernel_rfl
theorem infoPL : (Try.prog.info? pL).map (fun i => (i.zero, i.size, i.bytes)) = some (some (.agg #[.string ⟨#[]⟩, .slice none 0 0]), 2, 40) := by kernel_rfl
theorem infoPI : (Try.prog.info? pI).map (fun i => (i.zero, i.size, i.bytes)) = some (some (.agg #[.bool false, .string ⟨#[]⟩]), 2, 24) := by kernel_rfl
/-- The row's block, and the cells of the last element. -/
theorem last_two {w : World} {base k : Nat} {e : TypeId} {lv nv av : Value} {C : List Value} (h : w.ownsRow base e 2 lv (k + 1) (C ++ [nv, av])) (hC : C.length = k * 2) :
    ∃ g cap, lv = .slice (some ⟨g, 0, none⟩) (k + 1) cap ∧ k + 1 ≤ cap ∧ cap ≤ maxLen ∧ base ≤ g ∧ g < w.heap.size ∧ (∃ cs, w.heap[g]? = some (.cells cs e (0, 0))) ∧ w.cell? ⟨g, k * 2, none⟩ = some nv ∧ w.cell? ⟨g, k * 2 + 1, none⟩ = some av ∧ w.frozen? ⟨g, k * 2 + 1, none⟩ = false := by
  have hc := fun g hg => h.cells (g := g) hg
  have hlt := h.lt
  rcases h.2 with ⟨_, h0⟩ | ⟨g, cap, cur, rfl, hb, hg, hn, hm, hs, ht⟩
  · omega
  · have hadd : ∀ j, (⟨g, 0, none⟩ : Addr).add j = ⟨g, j, none⟩ := fun j => by unfold Addr.add; split <;> simp_all
    refine ⟨g, cap, rfl, hn, hm, hb, (hlt g rfl).2, ⟨cur, hg⟩, ?_, ?_, free_of_heap hg _⟩
    · have := hc g rfl (k * 2) nv (by rw [List.getElem?_append_right (by omega), hC]; simp)
      rwa [hadd] at this
    · have := hc g rfl (k * 2 + 1) av (by rw [List.getElem?_append_right (by omega), hC]; simp)
      rwa [hadd] at this
set_option maxRecDepth 100000 in
set_option maxHeartbeats 4000000 in
theorem pbegin_raw (p : Nat) (lv ev nv av : Value) (wh : Bool) (base B1 k m : Nat) (C us : List Value) (w : World) (hp : w.heap[p]? = some (.cells #[lv, ev, .bool wh] pP (0, 0))) (hrow : w.ownsRow base pL 2 lv (k + 1) (C ++ [nv, av])) (hC : C.length = k * 2)
    (harow : w.ownsRow B1 pA 1 av m us) (hbase : base ≤ w.heap.size) (hB1 : B1 ≤ w.heap.size) (hm : m ≤ 1000000) (hk : k ≤ 1000000) :
    Calls Try.prog 76 #[.pointer (some ⟨p, 0, none⟩)] w fun e w' => e = .returned (.tuple #[]) ∧ ∃ av', w'.heap[p]? = some (.cells #[lv, ev, .bool wh] pP (0, 0)) ∧ w'.ownsRow base pL 2 lv (k + 1) (C ++ [nv, av']) ∧
      w'.ownsRow B1 pA 1 av' (m + 1) (us ++ [.slice none 0 0]) ∧ Fr (av.ownBlock.toList ++ lv.ownBlock.toList) w w' := by
  obtain ⟨i0, hi0, hz0, hz1, hz2⟩ := info_parts infoPA
  obtain ⟨g, cap, rfl, hkc, hcm, hbg, hgl, ⟨cs, hcs⟩, x0, x1, x2⟩ := last_two hrow hC
  have hcm' : cap ≤ 9223372036854775807 := by simpa [maxLen] using hcm
  obtain ⟨y0, y1, y2, z0, z1, z2⟩ := three_of_heap hp
  have HP := Lib.hid hp
  have HROW := Lib.hid hrow
  have HAR := Lib.hid harow
  have HX := Lib.hid x1
  clear hp hrow harow x0 hcm hcs
  go_enter Try.func76, Try.ntmps76
  go_wp2_with fail
  go_quiet (fail)
  have hfd : Fr [] w (w.drewN nq) := (Fr.refl [] w).andDrewN _
  generalize w.drewN nq = wd at hfd ⊢
  have hpd := hfd.heap HP.out (by simp)
  have hrd := owns_kept HROW.out hfd (by simp)
  have had := owns_kept HAR.out hfd (by simp)
  have hsd := hfd.size
  obtain ⟨g', cap', e', _, _, _, _, ⟨cs, hcs⟩, x0, x1, x2⟩ := last_two hrd hC
  cases e'
  obtain ⟨a0, c0, rfl, hac, hcm⟩ := owns_slice had
  have nA := notT_row had (t := pL) (by decide)
  have nP := notT_row had (t := pP) (by decide)
  have nLP := notT_row hrd (t := pP) (by decide)
  have HPD := Lib.hid hpd
  have HRD := Lib.hid hrd
  have HAD := Lib.hid had
  have HFD := Lib.hid hfd
  have HCS := Lib.hid hcs
  have HNA := Lib.hid nA
  clear y0 y1 y2 z0 z1 z2 hpd hrd had hfd hcs x0 nA
  have hB1d : B1 ≤ wd.heap.size := by omega
  go_wp2_with (at_builtin; refine wpL_append1 rfl _ _ 39 rfl B1 pA i0 _ 24 Try.underlying39 hi0 hz0 hz1 hz2 (by rfl) (.slice a0 m c0) m us rfl HAD.out (.slice none 0 0) rfl rfl (by omega) (by simp [maxLen]; omega) hB1d ?_; intro v5 w5 hown5 hf5 hb5; obtain ⟨a5, c5, hv5, -, -⟩ := owns_slice hown5; subst hv5; have x1' := hf5.cell x1 (fun hm => HNA.out g hm _ _ _ HCS.out rfl); have x2' : w5.frozen? ⟨g, k * 2 + 1, none⟩ = false := free_of_heap (hf5.heap HCS.out (fun hm => HNA.out g hm _ _ _ HCS.out rfl)) _)

  go_end0
  have hp5 := hf5.heap HPD.out (fun hm => nP p hm _ _ _ HPD.out rfl)
  have hr5 := owns_keptT HRD.out HNA.out hf5
  have hg5 := hf5.heap HCS.out (fun hm => HNA.out g hm _ _ _ HCS.out rfl)
  have hs := Fr.set0 w5 g (k * 2 + 1) (.slice a5 (m + 1) c5)
  have hpg : p ∉ [g] := fun hm => nLP p (by simp [Value.ownBlock]; simpa using hm) _ _ _ HPD.out rfl
  have hgA : notT w5 [g] pA := notT_box hg5 (by decide)
  refine ⟨rfl, _, hs.heap hp5 hpg, ?_, owns_keptT hown5 hgA hs, ?_⟩
  · have h := owns_set hr5 (k * 2 + 1) (.slice a5 (m + 1) c5)
    rw [List.set_append_right _ _ (by omega), hC, show k * 2 + 1 - k * 2 = 1 by omega] at h
    exact h
  · refine (HFD.out.trans hf5 (by simp) (fun i hi _ => hi)).trans hs (fun i hi _ => List.mem_append_left _ hi) (fun i hi _ => List.mem_append_right _ (by simpa [Value.ownBlock] using hi))
end Go.Proofs.Ytcmgnhjffhaajaa
