/- Package fault: Step where a fault strikes. -/
import Derived.Test.YtheanpmgdkajnaaFltF
import Derived.Test.YtheanpmgdkajnaaRegion
namespace Go.Proofs.Ytheanpmgdkajnaa
open Go.RowKit

/-- Behind DeleteFunc: the row is what is kept. -/
theorem deld_owns {w' : World} {g cap : Nat} {l cur : List FltD} {tail : List Value} {n : Int} (hc : l.length * 2 + tail.length = cap * 2) (hm : cap ≤ maxLen) (hr : rowB w' g cur tail) (hl : cur.length = l.length) (ht : cur.take (keepF l n).length = keepF l n) :
    w'.ownsRow 0 31 2 (.slice (some ⟨g, 0, none⟩) (keepF l n).length cap) (keepF l n).length (fcells (keepF l n)) :=
  owns_of_rowB hr (by rw [hl]; exact hc) hm ht
set_option maxRecDepth 100000 in
theorem step_hit (p : Nat) (B : List Nat) (n : Int) (l : List FltD) (w : World) (h : isM w p B n false l) (hn : 0 ≤ n ∧ n < 1000000) (k : Nat) (hk : k < l.length) (ha : (l[k]'hk).at_ = n + 1) (hb : ∀ j, j < k → ∀ h : j < l.length, (l[j]'h).at_ ≠ n + 1)
    (hki : 1 ≤ (l[k]'hk).kind ∧ (l[k]'hk).kind ≤ 3) :
    Calls Try.prog 6 #[.pointer (some ⟨p, 0, none⟩)] w fun e w' => e = .returned (.int .i64 (if (l[k]'hk).kind = 1 then 11 else (l[k]'hk).kind + 7)) ∧ TurnedM p B (n + 1) ((l[k]'hk).kind == 1) (keepF l (n + 1)) w w' := by
  have hmf : ∀ (fn : Fn) (first cap : Array Value) (w : World), (Instr.makeFunc fn first cap).run Try.prog w = .ok (.func fn first cap) w := fun _ _ _ _ => rfl
  obtain ⟨hn0, hn1⟩ := hn
  obtain ⟨q, w1, hw1, hq, hM, hbq, hf1, hlt⟩ := step_box h
  obtain ⟨f, hfe⟩ : ∃ f, f = l[k]'hk := ⟨_, rfl⟩
  rw [← hfe] at hki ⊢
  have hfa0 := fun wx => failure_any f.kind hki wx
  obtain ⟨c, hc⟩ : ∃ c : Int, c = if f.kind = 1 then 11 else f.kind + 7 := ⟨_, rfl⟩
  rw [← hc] at hfa0 ⊢
  have HFA := Lib.hid hfa0
  clear h hfa0 hc hki
  go_enter Try.func6, Try.ntmps6
  go_wp2_with fail
  rw [← hw1, ← hq]
  have hdn := mdown_any p B n false l w1 hM
  obtain ⟨v, rfl, hp, ho⟩ := hM
  have hpq : p < q := hlt p (by simp)
  obtain ⟨hp2, ho2, hs2, hf2⟩ := step_head hp ho hbq (by omega)
  obtain ⟨d0, -⟩ := one_of_heap hbq
  obtain ⟨c0, c1, c2, f0, f1, f2⟩ := three_of_heap hp
  obtain ⟨b0, b1, b2, g0, g1, g2⟩ := three_of_heap hp2
  obtain ⟨k0, -⟩ := one_of_heap hs2.1
  have HIX := Lib.hid (idx_some l v q p (n + 1) _ (faults_of_owns ho2) hs2 k hk ha hb)
  have hnp := row_not_meter hp ho
  have hov := owns_slice ho
  obtain ⟨a0, cap, rfl, hlc, hcm⟩ := hov
  have hne : l ≠ [] := fun e => by subst e; simp at hk
  obtain ⟨g, tail, rfl, -, hr2, hcc⟩ := rowB_of_owns ho2 hne
  have hgq : g < q := hlt g (by simp [Value.ownBlock])
  have hgp : g ≠ p := hnp g rfl
  have HF2 := Lib.hid (hf1.trans hf2 (n := [p]) (by simp) (fun _ h _ => h))
  have HP2 := Lib.hid hp2
  have HR2 := Lib.hid hr2
  have HS2 := Lib.hid hs2
  have HDL := Lib.hid (fun wx (hx : rowB wx g l tail) (hy : Sees wx q p (n + 1)) => del_any l tail g cap q p (n + 1) wx hx hcc hcm hy (by omega) hgp k hk ha hb)
  have HCC := Lib.hid hcc
  have HCM := Lib.hid hcm
  have hm' : cap ≤ 9223372036854775807 := by simpa [maxLen] using hcm
  have HGP := Lib.hid hgp
  have HRG := Lib.hid (fun wx (hx : rowB wx g l tail) => hx.get k hk)
  rw [← hfe] at HRG
  clear hp ho hp2 ho2 hs2 hf2 hlt hf1 hbq hw1 hq ha hb hfe hr2 hcc hcm hnp hne hgp
  unfold dueV at HIX HDL
  refine hdn.mono ?_
  rintro e w1' ⟨rfl, rfl⟩
  go_wp2_with (go_at_call 15; refine HIX.out.mono ?_; rintro e w3 ⟨rfl, hf3⟩; obtain ⟨e0, e1, -, -⟩ := HRG.out w3 (hf3.heap HR2.out (by simp)); obtain ⟨m0, m1, m2, -, -, -⟩ := three_of_heap (hf3.heap HP2.out (by simp)); obtain ⟨x0, -⟩ := one_of_heap (HS2.out.below hf3).1)
  have HF3 := Lib.hid hf3
  have HP3 := Lib.hid (hf3.heap HP2.out (by simp))
  have HR3 : Hid (rowB w3 g l tail) := Lib.hid (hf3.heap HR2.out (by simp))
  have HS3 := Lib.hid (HS2.out.below hf3)
  clear hf3 e0 e1 m0 m1 m2 x0 HIX HRG
  refine wp_region_G [g, p] [(0, false), (5, false), (1, false), (2, false), (3, false), (4, true), (6, true), (7, false), (8, false), (9, true)] 48 rfl (by kernel_rfl) (by kernel_rfl) (by kernel_rfl) (fun c a d v w h => by cases d <;> exact h) (fun wd hfd => ?_)
  simp only [List.map_cons, List.map_nil, List.getElem?_toArray, List.getElem?_cons_succ, List.getElem?_cons_zero, Option.getD_some]
  have HPD := Lib.hid (hfd.heap HP3.out (by simp))
  have HRD : Hid (rowB wd g l tail) := Lib.hid (hfd.heap HR3.out (by simp))
  have HSD := Lib.hid (HS3.out.below hfd)
  have HFD := Lib.hid hfd
  clear hfd
  have LB : Hid (Later [g, p] wd (fun w' => w'.cell? ⟨q, 0, none⟩ = some (.pointer (some ⟨p, 0, none⟩)))) := Lib.hid (fun w' hf' => hf'.cell (one_of_heap HSD.out.1).1 (by simp; omega))
  repeat (apply wpG_t; · (intro w' hf'; have y0 := LB.out w' hf'; go_wp2_with fail; exact ⟨rfl, rfl⟩))
  obtain ⟨m0, m1, m2, -, -, -⟩ := three_of_heap HPD.out
  refine wpG_x ?_
  go_wp2_with fail
  refine ⟨Fr.refl _ _, rfl, ?_⟩
  clear m0 m1 m2
  refine wpG_x ?_
  have HDE := Lib.hid (HDL.out wd HRD.out HSD.out)
  go_wp2_with (go_at_call 16; refine HDE.out.mono ?_; rintro e w4 ⟨cur, rfl, hr4, hl4, ht4, hf4⟩)
  refine ⟨hf4.mono (by simp), rfl, ?_⟩
  repeat (apply wpG_t; · (intro w' hf'; go_wp2_with fail; exact ⟨rfl, rfl⟩))
  refine wpG_x ?_
  have hp4 := hf4.heap HPD.out (by simpa using Ne.symm HGP.out)
  have hb4 := hf4.heap HSD.out.1 (by simp; omega)
  have HF4 := Lib.hid hf4
  have HR4 := Lib.hid hr4
  obtain ⟨m0, m1, m2, m3, m4, m5⟩ := three_of_heap hp4
  clear hf4 hr4
  go_wp2_with fail
  have hfs := Fr.set0 w4 p 2 (.slice (some ⟨g, 0, none⟩) (keepF l (n + 1)).length cap)
  refine ⟨hfs.mono (by simp), rfl, ?_⟩
  have hp5 := heap_setCell_same (i := 2) hp4 (.slice (some ⟨g, 0, none⟩) (keepF l (n + 1)).length cap)
  have hp5' : (w4.setCell ⟨p, 2, none⟩ (.slice (some ⟨g, 0, none⟩) (keepF l (n + 1)).length cap)).heap[p]? = some (.cells #[.int .i64 (n + 1), .bool false, .slice (some ⟨g, 0, none⟩) (keepF l (n + 1)).length cap] 39 (0, 0)) := by simpa using hp5
  have hb5 := hfs.heap hb4 (by simp; omega)
  have hr5 := hfs.heap HR4.out (by simpa using HGP.out)
  obtain ⟨w5, hw5⟩ : ∃ w5, w5 = w4.setCell ⟨p, 2, none⟩ (.slice (some ⟨g, 0, none⟩) (keepF l (n + 1)).length cap) := ⟨_, rfl⟩
  rw [← hw5] at hfs hp5' hb5 hr5 ⊢
  clear hp5 hw5 hp4 hb4 m0 m1 m2 m3 m4 m5
  have HP5 := Lib.hid hp5'
  have HR5 : Hid (rowB w5 g cur tail) := Lib.hid hr5
  have HF5 := Lib.hid hfs
  obtain ⟨m0, m1, m2, m3, m4, m5⟩ := three_of_heap hp5'
  obtain ⟨x0, -⟩ := one_of_heap hb5
  clear hfs hp5' hb5 hr5
  have HL4 := Lib.hid hl4
  have HT4 := Lib.hid ht4
  clear hl4 ht4
  refine wpG_end ?_
  go_wp2_with (go_at_call 17; refine (HFA.out _).mono ?_; rintro e w6 ⟨rfl, rfl⟩)
  go_ret
  have hp6 := heap_setCell_same (i := 1) HP5.out (.bool (f.kind == 1))
  have hfs := Fr.set0 w5 p 1 (.bool (f.kind == 1))
  have hf35 : Fr [p, g] w w5 := ((((HF2.out.trans HF3.out (n := [p]) (fun _ h _ => h) (by simp)).trans HFD.out (n := [p]) (fun _ h _ => h) (by simp)).trans HF4.out (n := [p, g]) (by simp) (by simp)).trans HF5.out (n := [p, g]) (fun _ h _ => h) (by simp))
  refine ⟨rfl, [p, g], ⟨_, rfl, by simpa using hp6, deld_owns HCC.out HCM.out (hfs.heap HR5.out (by simpa using HGP.out)) HL4.out HT4.out⟩, ?_, ?_⟩
  · exact (hf35.trans hfs (n := [p, g]) (fun _ h _ => h) (by simp)).mono (by simp [Value.ownBlock])
  · intro k hk
    left
    simpa [Value.ownBlock] using hk
end Go.Proofs.Ytheanpmgdkajnaa
