/- OctetWrites (layer 1): Num, Raw, Bytes and Len write the specified bytes and reject the specified arguments: for every input the law returns true and its arguments read as before. No condition. -/
import Derived.Test.YtkckkkcbiakblaaLift
import Derived.Test.YtkckkkcbiakblaaOctWrites
namespace Go.Proofs.Ytkckkkcbiakblaa.octetWrites
open Go.ChangeShapes Go.WideShapes Go.ChangeAt Go.RowKit

theorem cellsPut : Try.prog.cellsOf 30 = 3 := by kernel_rfl
theorem cellsInt : Try.prog.cellsOf 3 = 1 := by kernel_rfl
theorem cellsU64 : Try.prog.cellsOf 28 = 1 := by kernel_rfl
theorem cellsBytes : Try.prog.cellsOf 27 = 1 := by kernel_rfl

theorem put_of_trod {H : Type} {enc : TypeId × Value → H} {w : World} {n : Nat} {cs : List Value} {y : DataW H × List MemPlace} (h : DataW.trod enc Try.prog w 0 (fun _ => true) true n 30 cs = some y) :
    ∃ r : PutR, cs = [.int .i64 r.n, .int .u64 r.v, r.bv] ∧ (bytesAt w r.bv r.b ∧ r.v ≤ 18446744073709551615) := by
  obtain ⟨y0, y1, y2, m, hl, h0, h1, h2⟩ := read_struct3 Try.underlying30 h
  rw [cellsPut] at hl
  match cs, hl with
  | [c0, c1, c2], _ =>
    rw [cellsInt] at h0
    rw [cellsU64] at h1
    rw [cellsBytes] at h2
    obtain ⟨k, hk, _⟩ := DataW.trod_int Try.underlying3 h0
    obtain ⟨u, hu, _, wu⟩ := DataW.trod_int Try.underlying28 h1
    simp at hk hu
    have hb := bounds_u64 wu
    obtain ⟨v, rfl⟩ := Int.eq_ofNat_of_zero_le hb.1
    have h2' : DataW.trod enc Try.prog w 0 (fun _ => true) true m 27 [c2] = some y2 := h2
    have hc2 : ∃ a len cap, c2 = .slice a len cap := by
      rcases DataW.trod_slice Try.underlying27 h2' with ⟨e, _⟩ | ⟨a, len, cap, _, _, _, _, e, _⟩
      · exact ⟨_, _, _, by simpa using e⟩
      · exact ⟨_, _, _, by simpa using e⟩
    obtain ⟨a, len, cap, rfl⟩ := hc2
    obtain ⟨bs, hbs, -⟩ := bytes_of_trod (d := y2.1) (ps := y2.2) Try.underlying27 Try.underlying5 (by kernel_rfl) ⟨m, h2'⟩
    exact ⟨⟨k, v, _, bs⟩, by simp [hk, hu], hbs, by simp only; omega⟩

set_option maxRecDepth 100000 in
theorem lifted (os : Os) (started : os.Started) (H : Type) (enc : TypeId × Value → H) :
    ReturnsInHanded {} Try.checked os 3 .any (Rows.octetWritesSpec.pre6 enc Try.prog Try.f3 Rows.octetWritesRow.domain false) (Rows.octetWritesSpec.post enc Try.prog Try.f3 false true false false) := by
  refine returnsInHanded_of_change (C := Try.checked) own started (by kernel_rfl) Try.func3
    (ChangeSpec.witness6 (enc := enc) (C := Try.checked) false ⟨#[], #[.slice none 0 0], []⟩ 8 (by kernel_rfl) (by kernel_rfl) (by kernel_rfl) (by kernel_rfl)) ?_
  intro W base args ds gs before hval0 hW hcnd _
  have hval : ∀ (j : Nat) t v, Try.f3.params[j]? = some t → args[j]? = some v → Value.okWide Try.prog W .any base t v := hval0
  have hW' := hW
  obtain ⟨p, q, hA0, hV, rfl, hfz, hnd⟩ := hW
  have hA : DataW.TrodAll enc Try.prog W 0 (fun _ => true) true Try.f3.params.toList args.toList ds p := hA0
  have hA1 := hA
  rw [Try.params3] at hA hval
  obtain ⟨v0, vs0, d0, ds0, p0, q0, hargs, rfl, rfl, h0, r0⟩ := trodAll_cons hA
  obtain ⟨rfl, rfl, rfl⟩ := trodAll_nil r0
  obtain rfl : args = #[v0] := by cases args; simp_all
  obtain ⟨rfl, rfl⟩ := trodVars_none hV
  obtain ⟨a1, l1, c1, rfl⟩ := okWide_slice Try.underlying22 (hval 0 22 v0 rfl rfl)
  obtain ⟨xs, hx, -, hxs⟩ := slice_of_trod Try.underlying22 cellsPut (by decide) h0
  obtain ⟨l, rfl, hp⟩ := exists_map (fun p : PutR => [Value.int .i64 p.n, .int .u64 p.v, p.bv]) (fun p => bytesAt W p.bv p.b ∧ p.v ≤ 18446744073709551615) xs (fun x hx => by
    obtain ⟨n, y, hy⟩ := hxs x hx
    exact put_of_trod hy)
  clear hA0 hval0
  refine (writes_any _ l W hx hp).mono fun e W' ⟨he, hfr⟩ => ?_
  subst he
  have bel : Below W.heap.size W W' := hfr.below (Nat.le_refl _) (by simp)
  exact ⟨_, rfl, _, _, _, [], _, [], hW', trodAll_mk1 (shut_bool Try.underlying4 _), args_stay laidOut bel (by kernel_rfl) hA1, rfl, bel.frame _, fun h => by cases h⟩

theorem proved : Rows.OctetWritesSaid :=
  OpenClaim.holds_of_wide 3 Try.f3 rfl rfl rfl rfl rfl rfl rfl ⟨rfl, rfl, rfl, rfl, rfl⟩ rfl rfl rfl rfl rfl (by kernel_rfl) Try.func3 (by kernel_rfl)
    (of_decide_eq_true (by kernel_rfl)) (by unfold Func.isWrapper; first | (rw [if_pos (by decide +kernel)]; kernel_rfl) | (rw [if_neg (by decide +kernel)]; exact ⟨rfl, rfl⟩))
    (fun os started H enc _ => lifted os started H enc)
end Go.Proofs.Ytkckkkcbiakblaa.octetWrites
