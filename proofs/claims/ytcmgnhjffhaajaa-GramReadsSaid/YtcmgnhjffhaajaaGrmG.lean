/- GramReads (layer 14), over any program that does what it must. -/
import Derived.Test.YtcmgnhjffhaajaaGrmE
import Derived.Test.YtcmgnhjffhaajaaMm
namespace Go.Proofs.Ytcmgnhjffhaajaa
open Go.RowKit

set_option maxRecDepth 100000 in
set_option maxHeartbeats 4000000 in
theorem grmreads_any (hA : ProgPar) (hR : ProgResolve) (hV : ProgValid) (hI : ProgIsT) (m : List UInt8) (hm : m.length ≤ maxLen) (w : World) : Calls Try.prog 6 #[encStr m] w fun e w' => e = .returned (.bool true) ∧ Fr [] w w' := by
  have hm' : m.length ≤ 9223372036854775807 := by simpa [maxLen] using hm
  have HAW := Lib.hid (fun wx => grmawake_any hA hR hV hI wx)
  by_cases hbig : 2000 < m.length
  · have hd : decide (2000 < (m.length : Int)) = true := decide_eq_true (by omega)
    clear hA hR hV hI hm hbig
    go_enter Try.func6, Try.ntmps6
    go_wp2_with (go_at_call 8; refine (HAW.out _).mono ?_; rintro e w4 ⟨rfl, hf4⟩)
    go_ret
    exact ⟨rfl, hf4⟩
  have hd : decide (2000 < (m.length : Int)) = false := decide_eq_false (by omega)
  have hp := fun wx => hA m wx (by omega)
  have hpl := @par_lines m (by omega)
  obtain ⟨P, hP⟩ : ∃ P, P = parD m := ⟨_, rfl⟩
  rw [← hP] at hp hpl
  have HP := Lib.hid hp
  have HR := Lib.hid hR
  have HV := Lib.hid hV
  clear hP hp hA hR hV hI hm hbig
  by_cases he : P.err = 0
  · obtain ⟨hok, hne, hlen⟩ := hpl he
    have hsz := size_lines hlen
    have hrs := fun lv wx (hl : linesAt wx lv P.lines) => HR.out P.lines lv wx hl hsz
    have hcases := res_valid hok hne
    obtain ⟨ls, at_, er⟩ := P
    simp only at he
    subst he
    simp only at hrs hcases
    obtain ⟨Q, hQ⟩ : ∃ Q, Q = resolveG ls := ⟨_, rfl⟩
    rw [← hQ] at hrs hcases
    obtain ⟨g, er⟩ := Q
    simp only at hcases
    have hsg : SizeG g := by
      rcases hcases with ⟨-, h⟩ | ⟨-, h⟩
      · exact valid_size h
      · rw [h]; exact empty_size
    have hig : IntG g := by
      rcases hcases with ⟨-, h⟩ | ⟨-, h⟩
      · exact valid_int h
      · rw [h]; exact empty_int
    have hval : (er == 0) = validB g := by
      rcases hcases with ⟨h1, h⟩ | ⟨h1, h⟩
      · rw [h1]; exact (boolOf_true h).symm
      · rw [h]; unfold validB; rw [boolOf_false empty_not, beq_eq_false_iff_ne]; exact h1
    have hv := fun gv wx (hl : gramAt wx gv g) => HV.out g gv wx hl hsg hig
    rw [← hval] at hv
    obtain ⟨b, hb⟩ : ∃ b, b = (er == 0) := ⟨_, rfl⟩
    rw [← hb] at hv
    have hbb : (er == 0) = b := hb.symm
    have x1 : (b == b) = true := by simp
    have HRS := Lib.hid hrs
    have HVV := Lib.hid hv
    clear hQ hrs hv hcases hval hb hsz hlen hok hne hpl hsg hig
    go_enter Try.func6, Try.ntmps6
    go_upto_region 4 with (go_at_call 17; refine (HP.out _).mono ?_; rintro e w1 ⟨v1, rfl, ht1, hf1⟩; have HT1 := Lib.hid (show linesAt _ _ ls from ht1); clear ht1)
    go_upto_region 7 with (go_at_call 16; refine (HRS.out _ _ HT1.out).mono ?_; rintro e w2 ⟨v2, rfl, hg2, hf2⟩; obtain ⟨sa, sb, sc, rfl, k1, k2, k3⟩ := hg2; obtain ⟨a1, c1, rfl, hc1, hm1⟩ := k1.form; obtain ⟨a2, c2, rfl, hc2, hm2⟩ := k2.form; obtain ⟨a3, c3, rfl, hc3, hm3⟩ := k3.form)
    have hb := heap_alloc_new w2 (.cells #[.slice a1 g.names.length c1, .slice a2 g.terms.length c2, .slice a3 g.rules.length c3] 25)
    have hf := Fr.alloc w2 (.cells #[.slice a1 g.names.length c1, .slice a2 g.terms.length c2, .slice a3 g.rules.length c3] 25)
    obtain ⟨w3, hw3⟩ : ∃ w3, w3 = w2.alloc (.cells #[.slice a1 g.names.length c1, .slice a2 g.terms.length c2, .slice a3 g.rules.length c3] 25) := ⟨_, rfl⟩
    obtain ⟨q, hq⟩ : ∃ q, q = w2.heap.size := ⟨_, rfl⟩
    rw [← hw3] at hb hf ⊢
    rw [← hq] at hb ⊢
    have HG := Lib.hid (show gramAt w3 (.agg #[.slice a1 g.names.length c1, .slice a2 g.terms.length c2, .slice a3 g.rules.length c3]) g from ⟨_, _, _, rfl, k1.below hf, k2.below hf, k3.below hf⟩)
    obtain ⟨y0, y1, y2, z0, z1, z2⟩ := three_of_heap hb
    have HFF := Lib.hid ((hf1.trans hf2 (by simp) (n := []) (by simp)).trans hf (by simp) (n := []) (by simp))
    clear hw3 hq hb hf k1 k2 k3 hf1 hf2
    go_wp2_with (first | (go_at_call 10; refine (HVV.out _ _ HG.out).mono ?_; rintro e w4 ⟨rfl, hf4⟩) | (go_at_call 8; refine (HAW.out _).mono ?_; rintro e w5 ⟨rfl, hf5⟩))
    go_ret
    exact ⟨rfl, (HFF.out.trans hf4 (by simp) (n := []) (by simp)).trans hf5 (by simp) (by simp)⟩
  · obtain ⟨ls, at_, er⟩ := P
    simp only at he
    have e1 : (er != 0) = true := by rw [bne_iff_ne]; exact he
    have e2 : (er == 0) = false := by rw [beq_eq_false_iff_ne]; exact he
    clear hpl he
    go_enter Try.func6, Try.ntmps6
    go_upto_region 4 with (go_at_call 17; refine (HP.out _).mono ?_; rintro e w1 ⟨v1, rfl, ht1, hf1⟩)
    go_wp2_with (go_at_call 8; refine (HAW.out _).mono ?_; rintro e w4 ⟨rfl, hf4⟩)
    go_ret
    exact ⟨rfl, hf1.trans hf4 (by simp) (by simp)⟩
end Go.Proofs.Ytcmgnhjffhaajaa
