/- The program's sets of words (layer 19): a list, shorter words first. -/
import Derived.Test.YtapkohdbnfaacaaWlH
import Derived.Test.YtapkohdbnfaacaaShelfS
import Derived.Shelf.SlSortCmp.NoneTotal
set_option linter.unusedVariables false
set_option linter.unusedSimpArgs false
namespace Go.Proofs.Ytapkohdbnfaacaa
open Go.RowKit Go.Lib Go.Sort

def FV_len : Value := .func (.func 29) #[] #[]
theorem pcmpN (x y : Int) (w : World) : Calls Try.prog 30 #[.int .i64 x, .int .i64 y] w fun e w' => e = .returned (.int .i64 (Lib.compareInt x y)) ∧ w' = w := AnyG.cmp_Compare_int Try.cmpI x y w
set_option maxRecDepth 100000 in
theorem plens (x y : List UInt8) (w : World) : Calls Try.prog 29 #[encStr x, encStr y] w fun e w' => e = .returned (.int .i64 (Lib.compareInt (x.length : Int) (y.length : Int))) ∧ w' = w := by
  have HC := Lib.hid (pcmpN (x.length : Int) (y.length : Int) w)
  obtain ⟨R, hR⟩ : ∃ R, R = Lib.compareInt (x.length : Int) (y.length : Int) := ⟨_, rfl⟩
  rw [← hR] at HC ⊢
  clear hR
  go_enter Try.func29, Try.ntmps29
  go_wp2_with (go_at_call 30; refine HC.out.mono ?_; rintro e w' ⟨rfl, rfl⟩)
  go_ret
  exact ⟨rfl, rfl⟩
/-- Places compared by the lengths of the words there. -/
def cfL (l : Words) (a b : Nat) : Int := Lib.compareInt ((l.getD a []).length : Int) ((l.getD b []).length : Int)
theorem ordL (l : Words) (n : Nat) : OrdN n (cfL l) where
  irrefl x _ := by unfold cfL; rw [cmpI_lt]; omega
  trans x y z _ _ _ := by unfold cfL; rw [cmpI_lt, cmpI_lt, cmpI_lt]; omega
  ntrans x y z _ _ _ := by unfold cfL; rw [cmpI_lt, cmpI_lt, cmpI_lt]; omega
/-- The same words, shorter ones first. -/
def ByLen (l m : Words) : Prop := List.Perm m l ∧ m.Pairwise fun x y => x.length ≤ y.length
theorem byLen_of {l : Words} {p : List Nat} (h : SortedN l.length (cfL l) p) : ByLen l (pickN l p) := by
  refine ⟨pick_perm h, List.pairwise_map.2 (h.order.imp fun {a b} q => ?_)⟩
  unfold cfL at q
  rw [cmpI_lt] at q
  omega
set_option maxRecDepth 100000 in
theorem psortS (l : Words) (b cap : Nat) (w : World) (hc : strsAt w (.slice (some ⟨b, 0, none⟩) l.length cap) l) (hf : ∀ i, w.frozen? ⟨b, i, none⟩ = false) (hbw : b < w.heap.size) (h1 : l.length ≤ cap) (h2 : cap ≤ maxLen) (hm : l.length ≤ 1000000) :
    Calls Try.prog 28 #[.slice (some ⟨b, 0, none⟩) l.length cap, FV_len] w fun e w' => e = .returned (.tuple #[]) ∧ ∃ m, ByLen l m ∧ strsAt w' (.slice (some ⟨b, 0, none⟩) l.length cap) m ∧ Fr [b] w w' := by
  by_cases h0 : l.length = 0
  · have hcon := AnyF.slices_SortFunc_none (P := Try.prog) (ρ := Try.sortS_ren) { Try.sortS with } (some ⟨b, 0, none⟩) cap FV_len w
    rw [h0]
    refine Calls.mono hcon ?_
    rintro e w' ⟨rfl, rfl⟩
    have hl := List.length_eq_zero_iff.1 h0
    subst hl
    exact ⟨rfl, [], ⟨List.Perm.refl _, List.Pairwise.nil⟩, hc, Fr.refl _ _⟩
  · obtain ⟨m, hlm⟩ : ∃ m, l.length = m + 1 := ⟨l.length - 1, by omega⟩
    have eg : ∀ args w, (callFunc 29 args).run Try.prog w = .ok (.enter 29 args) w := enters_of Try.func29 (by kernel_rfl) rfl
    have hg : ∀ x : Fin (m + 1), l.getD x.val [] = l[x.val]'(by rw [hlm]; exact x.isLt) := fun x => by
      rw [List.getD_eq_getElem?_getD, List.getElem?_eq_getElem (by rw [hlm]; exact x.isLt)]
      rfl
    have hH : Holds (fun x : Fin (m + 1) => encStr (l.getD x.val [])) w b 0 (finA m) := fun j hj => by
      have hj' : j < m + 1 := by simpa [finA_size] using hj
      obtain ⟨b', off', e, hcell⟩ := str_cell hc j (by omega)
      cases e
      refine ⟨?_, hf _⟩
      rw [finA_at m hj', hcell]
      exact congrArg (fun z => some (encStr z)) (hg ⟨j, hj'⟩).symm
    have hcon := Any.slices_SortFunc Try.sortS (fun x : Fin (m + 1) => encStr (l.getD x.val [])) (fun _ => rfl) (fun x y : Fin (m + 1) => cfL l x.val y.val) (swo_of (ordL l (m + 1))) 29 #[] b 0 cap (finA m) w eg
      (fun n os dk _ x y => by
        refine (plens (l.getD x.val []) (l.getD y.val []) _).mono ?_
        rintro e w' ⟨rfl, rfl⟩
        exact ⟨rfl, Gw.refl _⟩) hH hbw (by rw [finA_size]; omega)
    rw [finA_size] at hcon
    unfold FV_len
    rw [hlm]
    refine Calls.mono hcon ?_
    rintro e w' ⟨rfl, d', n, os, hp, hs, rfl⟩
    have hsz : d'.size = m + 1 := by rw [hp.1, finA_size]
    have hso := sorted_of hp hs
    have hso2 : SortedN l.length (cfL l) (d'.toList.map Fin.val) := by
      generalize d'.toList.map Fin.val = z at hso
      rw [hlm]
      exact hso
    have hh := SW.holds ⟨n, os, rfl⟩ hbw hH (hp.1)
    have hcs := cells_of_holds hh (by rw [hsz]; omega) h2
    rw [hsz] at hcs
    refine ⟨rfl, _, byLen_of hso2, ?_, fr_sortWorld _ w b 0 n d' os⟩
    unfold strsAt pickN
    rw [List.map_map, List.map_map]
    exact hcs
end Go.Proofs.Ytapkohdbnfaacaa
