/- DiskSafe (layer 11): for every input the law returns true and its arguments read as before. No condition. -/
import Derived.Test.YtmchnaojlnjmjaaDskLift
import Derived.Test.YtmchnaojlnjmjaaDskS
import Derived.Test.YtmchnaojlnjmjaaDskPs
namespace Go.Proofs.Ytmchnaojlnjmjaa.diskSafe
open Go.ChangeShapes Go.WideShapes Go.ChangeAt Go.RowKit

theorem cellsLoss : Try.prog.cellsOf 29 = 3 := by kernel_rfl
set_option maxRecDepth 100000 in
theorem loss_of_trod {H : Type} {enc : TypeId × Value → H} {W : World} {base : Nat} {v : Value} {d : DataW H} {ps : List MemPlace} (hv : Value.okWide Try.prog W .any base 29 v)
    (h : DataW.Trod enc Try.prog W 0 (fun _ => true) true 29 v d ps) : ∃ (ks : List Bool) (sizes cuts : List Int) (kv zv cv : Value), v = .agg #[kv, zv, cv] ∧ cellsAt W kv (ks.map Value.bool) ∧ cellsAt W zv (sizes.map (Value.int .i64)) ∧ cellsAt W cv (cuts.map (Value.int .i64)) := by
  obtain ⟨cs, rfl, hsz⟩ := okWide_struct Try.underlying29 hv
  rw [cellsLoss] at hsz
  obtain ⟨fuel, hf⟩ := h
  obtain ⟨y0, y1, y2, m, hl, h0, h1, h2⟩ := read_struct3 Try.underlying29 hf
  obtain ⟨l⟩ := cs
  match l, hsz with
  | [c0, c1, c2], _ =>
    rw [cellsBools] at h0
    rw [cellsInts] at h1 h2
    obtain ⟨ks, hks⟩ := bools_in (show DataW.trod enc Try.prog W 0 (fun _ => true) true m 26 [c0] = some y0 from h0)
    obtain ⟨zs, hzs⟩ := ints_in (show DataW.trod enc Try.prog W 0 (fun _ => true) true m 27 [c1] = some y1 from h1)
    obtain ⟨us, hus⟩ := ints_in (show DataW.trod enc Try.prog W 0 (fun _ => true) true m 27 [c2] = some y2 from h2)
    exact ⟨ks, zs, us, c0, c1, c2, rfl, hks, hzs, hus⟩
set_option maxRecDepth 100000 in
theorem lifted {PK : World → Nat → Nat → DskD → List Nat → Prop} (hP : ProgS PK) (os : Os) (started : os.Started) (H : Type) (enc : TypeId × Value → H) :
    ReturnsInHanded {} Try.checked os 4 .any (Rows.diskSafeSpec.pre6 enc Try.prog Try.f4 Rows.diskSafeRow.domain false) (Rows.diskSafeSpec.post enc Try.prog Try.f4 false true false false) := by
  refine returnsInHanded_of_change (C := Try.checked) own started (by kernel_rfl) Try.func4
    (ChangeSpec.witness6 (enc := enc) (C := Try.checked) false ⟨#[], #[.slice none 0 0, .slice none 0 0, .agg #[.slice none 0 0, .slice none 0 0, .slice none 0 0]], []⟩ 8 (by kernel_rfl) (by kernel_rfl) (by kernel_rfl) (by kernel_rfl)) ?_
  intro W base args ds gs before hval0 hW hcnd _
  have hval : ∀ (j : Nat) t v, Try.f4.params[j]? = some t → args[j]? = some v → Value.okWide Try.prog W .any base t v := hval0
  have hW' := hW
  obtain ⟨p, q, hA0, hV, rfl, hfz, hnd⟩ := hW
  have hA : DataW.TrodAll enc Try.prog W 0 (fun _ => true) true Try.f4.params.toList args.toList ds p := hA0
  have hA1 := hA
  rw [Try.params4] at hA hval
  obtain ⟨v0, vs0, d0, ds0, p0, q0, hargs, rfl, rfl, h0, r0⟩ := trodAll_cons hA
  obtain ⟨v1, vs1, d1, ds1, p1, q1, rfl, rfl, rfl, h1, r1⟩ := trodAll_cons r0
  obtain ⟨v2, vs2, d2, ds2, p2, q2, rfl, rfl, rfl, h2, r2⟩ := trodAll_cons r1
  obtain ⟨rfl, rfl, rfl⟩ := trodAll_nil r2
  obtain rfl : args = #[v0, v1, v2] := by cases args; simp_all
  obtain ⟨rfl, rfl⟩ := trodVars_none hV
  obtain ⟨a0, l0, c0, rfl⟩ := okWide_slice Try.underlying24 (hval 0 24 v0 rfl rfl)
  obtain ⟨bs0, hb0, -⟩ := bytes_of_trod Try.underlying24 Try.underlying5 (by kernel_rfl) h0
  obtain ⟨a1, l1, c1, rfl⟩ := okWide_slice Try.underlying25 (hval 1 25 v1 rfl rfl)
  obtain ⟨xs, hx, -, hxs⟩ := slice_of_trod Try.underlying25 cellsAct (by decide) h1
  obtain ⟨l, rfl, hp⟩ := exists_map ActK.cells (ActK.ok · W) xs (fun x hx => by
    obtain ⟨n, y, hy⟩ := hxs x hx
    exact actk_of_trod hy)
  obtain ⟨ks, sizes, cuts, kv, zv, cv, rfl, hks, hzs, hcs⟩ := loss_of_trod (hval 2 29 v2 rfl rfl) h2
  clear hA0 hval0
  refine (disksafe_any hP bs0 _ l _ ks sizes cuts kv zv cv W hb0 hx hp hks hzs hcs).mono fun e W' ⟨he, hfr⟩ => ?_
  subst he
  have bel : Below W.heap.size W W' := hfr.below (Nat.le_refl _) (by simp)
  exact ⟨_, rfl, _, _, _, [], _, [], hW', trodAll_mk1 (shut_bool Try.underlying4 _), args_stay laidOut bel (by kernel_rfl) hA1, rfl, bel.frame _, fun h => by cases h⟩

theorem proved_of {PK : World → Nat → Nat → DskD → List Nat → Prop} (hP : ProgS PK) : Rows.DiskSafeSaid :=
  OpenClaim.holds_of_wide 4 Try.f4 rfl rfl rfl rfl rfl rfl rfl ⟨rfl, rfl, rfl, rfl, rfl⟩ rfl rfl rfl rfl rfl (by kernel_rfl) Try.func4 (by kernel_rfl)
    (of_decide_eq_true (by kernel_rfl)) (by unfold Func.isWrapper; first | (rw [if_pos (by decide +kernel)]; kernel_rfl) | (rw [if_neg (by decide +kernel)]; exact ⟨rfl, rfl⟩))
    (fun os started H enc _ => lifted hP os started H enc)
theorem proved : Rows.DiskSafeSaid := proved_of prog_s
end Go.Proofs.Ytmchnaojlnjmjaa.diskSafe
