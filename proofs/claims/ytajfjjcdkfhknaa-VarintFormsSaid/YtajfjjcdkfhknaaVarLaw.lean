/- What the statements of layer 2 call beside varint: awake. -/
import Derived.Test.YtajfjjcdkfhknaaVarD
namespace Go.Proofs.Ytajfjjcdkfhknaa
open Go.RowKit

theorem forms_ex : forms [1, 300] = [1, 172, 2] := by
  rw [forms_cons, forms_one, form_small (by omega), form_big (by omega), form_small (by omega)]; rfl
theorem forms_300 : forms [300] = [172, 2] := by
  rw [forms_one, form_big (by omega), form_small (by omega)]; rfl
theorem parse_ex : parse 2 [1, 172, 2] = some [1, 300] := by
  have := parse_forms [1, 300] (by simp)
  rwa [forms_ex] at this
theorem taken_ex : taken [128, 0] 9 = none := rfl

set_option maxRecDepth 100000 in
theorem awake_any (w : World) :
    Calls Try.prog 8 #[] w fun e w' => e = .returned (.bool true) ∧ Fr [] w w' := by
  go_enter Try.func8, Try.ntmps8
  go_wp2_with fail
  refine (parse_yes 2 [1, 172, 2] [1, 300] _ _ (bytesAt_new w [1, 172, 2] 5 3 rfl (by simp [maxLen]) _ rfl) (by simp) (by simp) parse_ex).mono ?_
  rintro e w1 ⟨rv, rfl, hown1, hf1⟩
  have hn1 := numsAt_of_owns hown1
  have hfrm := hn1.form
  obtain ⟨a1, c1, rfl, hle1, -⟩ := hfrm
  have hf01 : Fr [] w w1 := (Fr.alloc w _).trans hf1 (by simp) (by simp)
  go_wp2_with fail
  refine (read_any2 _ [128, 0] _ (bytesAt_new w1 [128, 0] 5 2 rfl (by simp [maxLen]) _ rfl) (by simp)).mono ?_
  rintro e w2 ⟨p, g, rfl, hr2, hf2, hp2, hg2⟩
  have hf12 : Fr [] w1 w2 := (Fr.alloc w1 _).trans hf2 (by simp) (by simp)
  have hn2 := hn1.below hf12
  have hlt1 := hn1.lt (by simp)
  simp only [World.size_alloc] at hp2
  go_wp2_with fail
  refine (vtake_none p g [128, 0] false 9 _ hr2 taken_ex).mono ?_
  rintro e w3 ⟨rfl, hr3, hf3⟩
  have hn3 := hn2.kept hf3 (fun k hk _ _ => by have := hlt1 k hk; simp; omega)
  have hsz3 := hf12.size
  have hf03 := ((hf01.trans hf12 (by simp) (n := []) (by simp)).trans hf3 (by simp) (n := []) (by have := hf01.size; simp; omega))
  go_wp2_with fail
  refine (list_any [300] _ _ (numsAt_new w3 [300] 28 1 rfl (by simp [maxLen]) _ rfl) (by simp) (by simp)).mono ?_
  rintro e w4 ⟨v4, rfl, hown4, hf4⟩
  rw [forms_300] at hown4
  have hf34 : Fr [] w3 w4 := (Fr.alloc w3 _).trans hf4 (by simp) (by simp)
  have hn4 := hn3.below hf34
  have hr4 := hr3.kept hf34 (by simp) (by simp)
  obtain ⟨b, off, rfl, hcell⟩ := hn4.cell (i := 1) (by simp)
  have hc := hcell 1 (by simp)
  have hcv : (convert 24 9 v4).run Try.prog w4 = .ok (.string ⟨[172, 2].toArray⟩) w4 := run_conv_bytes (bytesAt_of_owns hown4) _ 5 _ Try.underlying24 Try.underlying5 Try.underlying9
  have HS := Lib.hid (spent_any p g _ _ w4 hr4)
  have hfin : Fr [] w w4 := hf03.trans hf34 (by simp) (by simp)
  clear hcell hn4 hr4 hn3 hn2 hn1 hr3 hr2 hown4 hf4 hf3 hf2 hown1 hf1 hlt1 hf34 hf12 hf03 hf01
  go_wp2_with (go_at_call 18; refine HS.out.mono ?_; rintro e w7 ⟨rfl, rfl⟩)
  go_ret
  exact ⟨rfl, hfin⟩
end Go.Proofs.Ytajfjjcdkfhknaa
