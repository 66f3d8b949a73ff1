/- Contracts of package hex's Parse and Is. -/
import Derived.Test.YtjlkcdmeiakkbaaGreatDoorHexB
import Derived.Test.YtjlkcdmeiakkbaaGreatDoorDt
set_option linter.unusedVariables false
set_option linter.unusedSimpArgs false
namespace Go.Proofs.YtjlkcdmeiakkbaaGreatDoor
open Go.RowKit

def Parsed (w : World) (s : List UInt8) (e : Ending) (w' : World) : Prop :=
  ((goodD s = true ∧ ∃ v, e = .returned (.tuple #[v, .bool true]) ∧ bytesAt w' v (unhex s)) ∨ (goodD s = false ∧ e = .returned (.tuple #[.slice none 0 0, .bool false]))) ∧ Fr [] w w'
def ParseRel (w : World) (s : List UInt8) (g : Nat) (i : Value) (wr : World) : Prop :=
  ∃ k : Nat, k ≤ s.length / 2 ∧ i = .int .i64 (k : Int) ∧ wr.heap[g]? = some (.cells (cellsB (padH s k)).toArray 5 (0, 0)) ∧ Fr [] w wr ∧
    ∀ j, j < k → ∀ h : 2 * j + 1 < s.length, isD (s[2 * j]'(by omega)) = true ∧ isD (s[2 * j + 1]'h) = true
set_option maxRecDepth 100000 in
theorem parse_any (s : List UInt8) (w : World) (hr : digsAt w) (hl : s.length ≤ 1000000) :
    Calls Tryz.prog 82 #[.string ⟨s.toArray⟩] w (Parsed w s) := by
  obtain ⟨i, hi, hz0, hz1, hz2⟩ := info_parts infoB
  by_cases h2 : s.length % 2 = 0
  · have hn : ((s.length : Int) % 2 != 0) = false := by rw [bne_eq_false_iff_eq]; omega
    obtain ⟨n, hn2⟩ : ∃ n, n = s.length / 2 := ⟨_, rfl⟩
    have hnd : (s.length : Int) / 2 = (n : Int) := by omega
    have HR := Lib.hid hr
    have HN2 := Lib.hid hn2
    clear hr hn2
    go_enter Tryz.func82, Tryz.ntmps82
    go_wp2_with (refine wpL_make rfl _ _ 45 rfl 5 i (.int .u8 0) 1 Tryz.underlying45 hi hz0 hz1 hz2 rfl n rfl rfl (by have := HN2.out; omega) (by have := HN2.out; simp [maxLen]; omega) ?_; intro w1 hh1 hf1 hs1)
    have hg1 : w1.heap[w.heap.size]? = some (.cells (cellsB (padH s 0)).toArray 5 (0, 0)) := by
      rw [padH_zero, hh1.out, ← HN2.out]
      simp [cellsB]
    obtain ⟨g, hg⟩ : ∃ g, g = w.heap.size := ⟨_, rfl⟩
    rw [← hg] at hg1 ⊢
    have HGE := Lib.hid hg
    clear hg hh1 hs1
    go_loopw [20] (ParseRel w s g) (fun i _ => n - (intOf i).toNat)
    case atStart => exact ⟨0, by omega, rfl, hg1, hf1, fun j hj => by omega⟩
    case round =>
      clear hg1 hf1
      obtain ⟨k, hk, rfl, hrow, hf, hgood⟩ := hrel
      have hkn : k ≤ n := by rw [HN2.out]; exact hk
      by_cases hkl : k < n
      · have hd : decide ((k : Int) < (n : Int)) = true := decide_eq_true (by omega)
        have hb1 : 2 * k + 1 < s.length := by have := HN2.out; omega
        obtain ⟨a, ha⟩ : ∃ a, a = s[2 * k]'(by omega) := ⟨_, rfl⟩
        obtain ⟨b, hb⟩ : ∃ b, b = s[2 * k + 1]'hb1 := ⟨_, rfl⟩
        have hia := fun wx => run_index_str (P := Tryz.prog) wx 9 s (2 * (k : Int)) (2 * k) a Tryz.underlying9 (by omega) (by rw [ha, List.getElem?_eq_getElem])
        have hib := fun wx => run_index_str (P := Tryz.prog) wx 9 s (2 * (k : Int) + 1) (2 * k + 1) b Tryz.underlying9 (by omega) (by rw [hb, List.getElem?_eq_getElem])
        have hrr := HR.out.below hf
        by_cases hab : isD a = true ∧ isD b = true
        · obtain ⟨h1, h2'⟩ := hab
          have hna := number_yes a wr hrr h1
          have hnb := number_yes b wr hrr h2'
          have hset := padH_set s k hb1
          rw [← ha, ← hb] at hset
          have hbt := byteD_toNat a b h1 h2'
          obtain ⟨x, hx⟩ : ∃ x, x = valD a := ⟨_, rfl⟩
          obtain ⟨y, hy⟩ : ∃ y, y = valD b := ⟨_, rfl⟩
          have hxl := (isD_spec a h1).1
          have hyl := (isD_spec b h2').1
          rw [← hx] at hna hbt hxl
          rw [← hy] at hnb hbt hyl
          have hcell : wr.cell? ⟨g, k, none⟩ = some (.int .u8 (((padH s k)[k]'(by rw [padH_length _ _ hk]; have := HN2.out; omega)).toNat : Int)) := by rw [cell_of_heap hrow, bytesC_get]
          have hfree := free_of_heap hrow k
          have hnew : ∀ z : Int, z = (x : Int) * 16 + (y : Int) → (wr.setCell ⟨g, k, none⟩ (.int .u8 z)).heap[g]? = some (.cells (cellsB (padH s (k + 1))).toArray 5 (0, 0)) := by
            rintro z rfl
            rw [heap_setCell_same hrow, show (x : Int) * 16 + (y : Int) = ((byteD a b).toNat : Int) from by rw [hbt]; omega, bytesC_set, hset]
          have hfr : ∀ v, Fr [] w (wr.setCell ⟨g, k, none⟩ v) := fun v => hf.trans (Fr.set0 wr g k v) (by simp) (by have := HGE.out; simp; omega)
          have hgood2 : ∀ j, j < k + 1 → ∀ h : 2 * j + 1 < s.length, isD (s[2 * j]'(by omega)) = true ∧ isD (s[2 * j + 1]'h) = true := by
            intro j hj h
            by_cases e : j = k
            · subst e; rw [← ha, ← hb]; exact ⟨h1, h2'⟩
            · exact hgood j (by omega) h
          have HA := Lib.hid hna
          have HB := Lib.hid hnb
          have HW := Lib.hid hnew
          have HF := Lib.hid hfr
          have HGD := Lib.hid hgood2
          clear hna hnb hnew hfr hgood hgood2 hset hbt hx hy ha hb hrow
          go_wp2_with (first
            | (go_at_call 112; with_reducible refine HA.out.mono ?_; rintro e w2 ⟨rfl, rfl⟩)
            | (go_at_call 112; with_reducible refine HB.out.mono ?_; rintro e w2 ⟨rfl, rfl⟩))
          exact ⟨⟨k + 1, by have := HN2.out; omega, by go_num, HW.out _ rfl, HF.out _, HGD.out⟩, by simp [intOf]; omega⟩
        · have hbad : goodD s = false := by
            cases hq : goodD s with
            | false => rfl
            | true => exact (hab ⟨by rw [ha]; exact goodD_pair hq _ _, by rw [hb]; exact goodD_pair hq _ _⟩).elim
          have HBAD := Lib.hid hbad
          clear hbad ha hb hrow hgood
          cases h1 : isD a with
          | true =>
            have h2' : isD b = false := by cases hq : isD b with | false => rfl | true => exact (hab ⟨h1, hq⟩).elim
            have hna := number_yes a wr hrr h1
            have hnb := number_no b wr hrr h2'
            clear hab
            have HA := Lib.hid hna
            have HB := Lib.hid hnb
            clear hna hnb
            go_wp2_with (first
              | (go_at_call 112; with_reducible refine (HA.out).mono ?_; rintro e w2 ⟨rfl, rfl⟩)
              | (go_at_call 112; with_reducible refine (HB.out).mono ?_; rintro e w2 ⟨rfl, rfl⟩))
            go_ret2
            exact ⟨.inr ⟨HBAD.out, rfl⟩, hf⟩
          | false =>
            have hna := number_no a wr hrr h1
            have HA := Lib.hid hna
            clear hna hab
            cases h2' : isD b with
            | true =>
              have hnb := number_yes b wr hrr h2'
              have HB := Lib.hid hnb
              clear hnb
              go_wp2_with (first
                | (go_at_call 112; with_reducible refine (HA.out).mono ?_; rintro e w2 ⟨rfl, rfl⟩)
                | (go_at_call 112; with_reducible refine (HB.out).mono ?_; rintro e w2 ⟨rfl, rfl⟩))
              go_ret2
              exact ⟨.inr ⟨HBAD.out, rfl⟩, hf⟩
            | false =>
              have hnb := number_no b wr hrr h2'
              have HB := Lib.hid hnb
              clear hnb
              go_wp2_with (first
                | (go_at_call 112; with_reducible refine (HA.out).mono ?_; rintro e w2 ⟨rfl, rfl⟩)
                | (go_at_call 112; with_reducible refine (HB.out).mono ?_; rintro e w2 ⟨rfl, rfl⟩))
              go_ret2
              exact ⟨.inr ⟨HBAD.out, rfl⟩, hf⟩
      · have hd : decide ((k : Int) < (n : Int)) = false := decide_eq_false (by omega)
        have hkn' : k = s.length / 2 := by have := HN2.out; omega
        have hgd : goodD s = true := goodD_of h2 (fun j hj h => hgood j (by omega) h)
        rw [hkn', padH_end] at hrow
        have hby : bytesAt wr (.slice (some ⟨g, 0, none⟩) n n) (unhex s) := bytesAt_of_heap hrow (by rw [unhex_length]; simp [maxLen]; omega) n (by rw [unhex_length]; exact HN2.out)
        have HBY := Lib.hid hby
        have HGD := Lib.hid hgd
        clear hkn' hgd hby hrow hgood
        go_wp2_with fail
        go_ret2
        exact ⟨.inl ⟨HGD.out, _, rfl, HBY.out⟩, hf⟩
  · have hn : ((s.length : Int) % 2 != 0) = true := by rw [bne_iff_ne]; omega
    go_enter Tryz.func82, Tryz.ntmps82
    go_wp2_with fail
    go_ret2
    exact ⟨.inr ⟨by simp [goodD, h2], rfl⟩, Fr.refl _ _⟩

def Bytes2 (w : World) (bs : List UInt8) (e : Ending) (w' : World) : Prop := (∃ v, e = .returned (.tuple #[v, .bool true]) ∧ bytesAt w' v bs) ∧ Fr [] w w'
theorem parse_yes (s : List UInt8) (w : World) (hr : digsAt w) (hl : s.length ≤ 1000000) (hg : goodD s = true) :
    Calls Tryz.prog 82 #[.string ⟨s.toArray⟩] w (Bytes2 w (unhex s)) :=
  (parse_any s w hr hl).mono fun e w' ⟨h, hf⟩ => by
    rcases h with ⟨_, h⟩ | ⟨h, _⟩
    · exact ⟨h, hf⟩
    · rw [hg] at h; cases h
theorem parse_no (s : List UInt8) (w : World) (hr : digsAt w) (hl : s.length ≤ 1000000) (hg : goodD s = false) :
    Calls Tryz.prog 82 #[.string ⟨s.toArray⟩] w fun e w' => e = .returned (.tuple #[.slice none 0 0, .bool false]) ∧ Fr [] w w' :=
  (parse_any s w hr hl).mono fun e w' ⟨h, hf⟩ => by
    rcases h with ⟨h, _⟩ | ⟨_, h⟩
    · rw [hg] at h; cases h
    · exact ⟨h, hf⟩
end Go.Proofs.YtjlkcdmeiakkbaaGreatDoor
