/- InodePlays (layer 8): after any acts the contents, the number of durable bytes and the number of the other sectors are as specified: for every input the law returns true and its arguments read as before. No condition. -/
import Derived.Test.YtgdpecpbcoohkaaIntLift
import Derived.Test.YtgdpecpbcoohkaaInoP
namespace Go.Proofs.Ytgdpecpbcoohkaa.inodePlays
open Go.ChangeShapes Go.WideShapes Go.ChangeAt Go.RowKit

theorem cellsAct : Try.prog.cellsOf 34 = 4 := by kernel_rfl
theorem cellsInt : Try.prog.cellsOf 3 = 1 := by kernel_rfl
theorem cellsInts : Try.prog.cellsOf 32 = 1 := by kernel_rfl
theorem cellsBytes : Try.prog.cellsOf 22 = 1 := by kernel_rfl

theorem act_of_trod {H : Type} {enc : TypeId × Value → H} {w : World} {n : Nat} {cs : List Value} {y : DataW H × List MemPlace} (h : DataW.trod enc Try.prog w 0 (fun _ => true) true n 34 cs = some y) :
    ∃ r : ADat, cs = r.cells ∧ r.ok w := by
  obtain ⟨y0, y1, y2, y3, m, hl, h0, h1, h2, h3⟩ := read_struct4 Try.underlying34 h
  rw [cellsAct] at hl
  match cs, hl with
  | [c0, c1, c2, c3], _ =>
    rw [cellsInt] at h0 h2
    rw [cellsBytes] at h1
    rw [cellsInts] at h3
    obtain ⟨k, hk, _⟩ := DataW.trod_int Try.underlying3 h0
    obtain ⟨u, hu, _, wu⟩ := DataW.trod_int Try.underlying3 h2
    simp at hk hu
    have h1' : DataW.trod enc Try.prog w 0 (fun _ => true) true m 22 [c1] = some y1 := h1
    have h3' : DataW.trod enc Try.prog w 0 (fun _ => true) true m 32 [c3] = some y3 := h3
    have hc1 : ∃ a len cap, c1 = .slice a len cap := by
      rcases DataW.trod_slice Try.underlying22 h1' with ⟨e, _⟩ | ⟨a, len, cap, _, _, _, _, e, _⟩
      · exact ⟨_, _, _, by simpa using e⟩
      · exact ⟨_, _, _, by simpa using e⟩
    have hc3 : ∃ a len cap, c3 = .slice a len cap := by
      rcases DataW.trod_slice Try.underlying32 h3' with ⟨e, _⟩ | ⟨a, len, cap, _, _, _, _, e, _⟩
      · exact ⟨_, _, _, by simpa using e⟩
      · exact ⟨_, _, _, by simpa using e⟩
    obtain ⟨a, len, cap, rfl⟩ := hc1
    obtain ⟨a', len', cap', rfl⟩ := hc3
    obtain ⟨bs, hbs, -⟩ := bytes_of_trod (d := y1.1) (ps := y1.2) Try.underlying22 Try.underlying5 (by kernel_rfl) ⟨m, h1'⟩
    obtain ⟨is, his, -, -⟩ := ints_of_trod (d := y3.1) (ps := y3.2) Try.underlying32 Try.underlying3 (by kernel_rfl) ⟨m, h3'⟩
    exact ⟨⟨k, _, bs, u, _, is⟩, by simp [hk, hu, ADat.cells], hbs, his, bounds_i64 wu⟩

set_option maxRecDepth 100000 in
theorem lifted (os : Os) (started : os.Started) (H : Type) (enc : TypeId × Value → H) :
    ReturnsInHanded {} Try.checked os 3 .any (Rows.inodePlaysSpec.pre6 enc Try.prog Try.f3 Rows.inodePlaysRow.domain false) (Rows.inodePlaysSpec.post enc Try.prog Try.f3 false true false false) := by
  refine returnsInHanded_of_change (C := Try.checked) own started (by kernel_rfl) Try.func3
    (ChangeSpec.witness6 (enc := enc) (C := Try.checked) false ⟨#[], #[.slice none 0 0, .slice none 0 0], []⟩ 8 (by kernel_rfl) (by kernel_rfl) (by kernel_rfl) (by kernel_rfl)) ?_
  intro W base args ds gs before hval0 hW hcnd _
  have hval : ∀ (j : Nat) t v, Try.f3.params[j]? = some t → args[j]? = some v → Value.okWide Try.prog W .any base t v := hval0
  have hW' := hW
  obtain ⟨p, q, hA0, hV, rfl, hfz, hnd⟩ := hW
  have hA : DataW.TrodAll enc Try.prog W 0 (fun _ => true) true Try.f3.params.toList args.toList ds p := hA0
  have hA1 := hA
  rw [Try.params3] at hA hval
  obtain ⟨v0, vs0, d0, ds0, p0, q0, hargs, rfl, rfl, h0, r0⟩ := trodAll_cons hA
  obtain ⟨v1, vs1, d1, ds1, p1, q1, rfl, rfl, rfl, h1, r1⟩ := trodAll_cons r0
  obtain ⟨rfl, rfl, rfl⟩ := trodAll_nil r1
  obtain rfl : args = #[v0, v1] := by cases args; simp_all
  obtain ⟨rfl, rfl⟩ := trodVars_none hV
  obtain ⟨a0, l0, c0, rfl⟩ := okWide_slice Try.underlying22 (hval 0 22 v0 rfl rfl)
  obtain ⟨bs0, hb0, -⟩ := bytes_of_trod Try.underlying22 Try.underlying5 (by kernel_rfl) h0
  obtain ⟨a1, l1, c1, rfl⟩ := okWide_slice Try.underlying23 (hval 1 23 v1 rfl rfl)
  obtain ⟨xs, hx, -, hxs⟩ := slice_of_trod Try.underlying23 cellsAct (by decide) h1
  obtain ⟨l, rfl, hp⟩ := exists_map ADat.cells (ADat.ok W) xs (fun x hx => by
    obtain ⟨n, y, hy⟩ := hxs x hx
    exact act_of_trod hy)
  clear hA0 hval0
  refine (plays_any bs0 l _ _ W hb0 hx hp).mono fun e W' ⟨he, hfr⟩ => ?_
  subst he
  have bel : Below W.heap.size W W' := hfr.below (Nat.le_refl _) (by simp)
  exact ⟨_, rfl, _, _, _, [], _, [], hW', trodAll_mk1 (shut_bool Try.underlying4 _), args_stay laidOut bel (by kernel_rfl) hA1, rfl, bel.frame _, fun h => by cases h⟩

theorem proved : Rows.InodePlaysSaid :=
  OpenClaim.holds_of_wide 3 Try.f3 rfl rfl rfl rfl rfl rfl rfl ⟨rfl, rfl, rfl, rfl, rfl⟩ rfl rfl rfl rfl rfl (by kernel_rfl) Try.func3 (by kernel_rfl)
    (of_decide_eq_true (by kernel_rfl)) (by unfold Func.isWrapper; first | (rw [if_pos (by decide +kernel)]; kernel_rfl) | (rw [if_neg (by decide +kernel)]; exact ⟨rfl, rfl⟩))
    (fun os started H enc _ => lifted os started H enc)
end Go.Proofs.Ytgdpecpbcoohkaa.inodePlays
