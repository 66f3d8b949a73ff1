/- The document's answer times: the walk. -/
import Derived.Test.YtjiighgabfkmpaaDoorShaS
namespace Go.Proofs.YtjiighgabfkmpaaDoor
open Go.RowKit

theorem info64 : (Tryd.prog.info? 47).map (fun i => (i.zero, i.size, i.bytes)) = some (some (.int .u64 0), 1, 8) := by kernel_rfl
/-- The row g holds these digits. -/
def TimesRel (w : World) (g n j V : Nat) (out : List Nat) (wr : World) : Prop := DigitsAt out n j V ∧ wr.heap[g]? = some (.cells (nums64 out) 47 (0, 0)) ∧ Fr [] w wr
set_option maxRecDepth 100000 in
theorem ref_times_any (a b : List Nat) (va vb : Value) (w : World) (ha : numsAt64 w va a) (hb : numsAt64 w vb b) (da : ∀ x ∈ a, x < 65536) (db : ∀ x ∈ b, x < 65536) (la : a.length ≤ 100) (lb : b.length ≤ 100) :
    Calls Tryd.prog 31 #[va, vb] w fun e w' => ∃ u out, e = .returned u ∧ numsAt64 w' u out ∧ DigitsAt out (a.length + b.length) (a.length + b.length) (valD a * valD b) ∧ Fr [] w w' := by
  obtain ⟨i, hi, hz0, hz1, hz2⟩ := info_parts info64
  obtain ⟨ga, rfl, hga⟩ := ha
  obtain ⟨gb, rfl, hgb⟩ := hb
  have HGA := Lib.hid hga
  have HGB := Lib.hid hgb
  have hgal := (Array.getElem?_eq_some_iff.1 hga).1
  have hgbl := (Array.getElem?_eq_some_iff.1 hgb).1
  clear hga hgb
  go_enter Tryd.func31, Tryd.ntmps31
  go_wp2_with (refine wpL_make rfl (.tmp 13) (.tmp 13) 59 rfl 47 i (.int .u64 0) 8 Tryd.underlying59 hi hz0 hz1 hz2 rfl (a.length + b.length) rfl rfl (by omega) (by simp [maxLen]; omega) ?_; intro w1 hh1 hf1 hs1)
  have hD0 : DigitsAt (List.replicate (a.length + b.length) 0) (a.length + b.length) (a.length + b.length) (valD (a.take 0) * valD b) :=
    ⟨by simp, fun i h _ => by simp, fun i h => by simp, by rw [valD_zeros]; simp [valD]⟩
  have hg1 : w1.heap[w.heap.size]? = some (.cells (nums64 (List.replicate (a.length + b.length) 0)) 47 (0, 0)) := by
    rw [hh1.out, nums64, List.map_replicate]
    rfl
  obtain ⟨g, hg⟩ : ∃ g, g = w.heap.size := ⟨_, rfl⟩
  rw [← hg] at hg1 ⊢
  have hgw : w.heap.size ≤ g := by omega
  clear hg hh1 hs1
  go_loopw [6] (fun vi wr => ∃ (i : Nat) (out : List Nat), i ≤ a.length ∧ vi = .int .i64 (i : Int) ∧ TimesRel w g (a.length + b.length) (a.length + b.length) (valD (a.take i) * valD b) out wr) (fun vi _ => a.length - (intOf vi).toNat)
  case atStart => exact ⟨0, _, by omega, rfl, hD0, hg1, hf1⟩
  case round =>
    clear hD0 hg1 hf1
    obtain ⟨i, out, hi, rfl, hR⟩ := hrel
    have HRO := Lib.hid hR
    clear hR
    by_cases hia : i < a.length
    · have hd : decide (i < a.length) = true := decide_eq_true hia
      obtain ⟨x, hx⟩ : ∃ x, x = a[i]'hia := ⟨_, rfl⟩
      have hx16 : x < 65536 := by rw [hx]; exact da _ (List.getElem_mem _)
      have hend := prodP_end a b i hia
      have hplt := prodP_lt a b i
      rw [← hx] at hend
      have HPLT : Hid (∀ k, prodP a b i k x < 65536 ^ (a.length + b.length)) := Lib.hid (fun k => by rw [hx]; exact hplt k hia da db)
      have HEND := Lib.hid hend
      have HX := Lib.hid hx
      clear hend hplt hx
      go_wp2_with fail
      go_loopw [7] (fun vk wr => ∃ (k : Nat) (out : List Nat), k ≤ b.length ∧ vk = .int .i64 (k : Int) ∧ TimesRel w g (a.length + b.length) (a.length + b.length) (prodP a b i k x) out wr) (fun vk _ => b.length - (intOf vk).toNat)
      case atStart => exact ⟨0, out, by omega, rfl, by rw [prodP_zero]; exact HRO.out⟩
      case round =>
        clear HRO
        obtain ⟨k, out, hk, rfl, hR⟩ := hrel
        by_cases hkb : k < b.length
        · have hd2 : decide (k < b.length) = true := decide_eq_true hkb
          obtain ⟨hD, hh, hf⟩ := hR
          obtain ⟨y, hy⟩ : ∃ y, y = b[k]'hkb := ⟨_, rfl⟩
          have hy16 : y < 65536 := by rw [hy]; exact db _ (List.getElem_mem _)
          have hxy : x * y ≤ 4294836225 := Nat.le_trans (Nat.mul_le_mul (show x ≤ 65535 by omega) (show y ≤ 65535 by omega)) (by decide)
          have hol := hD.len
          have hik : i + k < out.length := by omega
          obtain ⟨o, ho⟩ : ∃ o, o = out[i + k]'hik := ⟨_, rfl⟩
          have hcx : wr.cell? ⟨ga, i, none⟩ = some (.int .u64 (x : Int)) := by rw [hf.cell (cell_of_heap HGA.out i ▸ nums64_get a i hia) (by simp), HX.out]
          have hcy : wr.cell? ⟨gb, k, none⟩ = some (.int .u64 (y : Int)) := by rw [hf.cell (cell_of_heap HGB.out k ▸ nums64_get b k hkb) (by simp), hy]
          have hco : wr.cell? ⟨g, i + k, none⟩ = some (.int .u64 (o : Int)) := by rw [cell_of_heap hh, nums64_get _ _ hik, ho]
          have hfree := free_of_heap hh (i + k)
          have hD2 := hD.add (x := x * y) (j := i + k) (by omega) hxy
          rw [← ho] at hD2
          have hnx := prodP_next a b i k x hkb
          rw [← hy] at hnx
          rw [← hnx] at hD2
          have hos : o < 65536 := by rw [ho]; exact hD.small (i + k) hik (by omega)
          have h2 : ∀ z : Int, z = ((o + x * y : Nat) : Int) → (wr.setCell ⟨g, i + k, none⟩ (.int .u64 z)).heap[g]? = some (.cells (nums64 (out.set (i + k) (o + x * y))) 47 (0, 0)) := by
            rintro z rfl
            rw [heap_setCell_same hh, nums64_set]
          have h3 : ∀ v, Fr [] w (wr.setCell ⟨g, i + k, none⟩ v) := fun v => hf.trans (Fr.set0 wr g (i + k) v) (by simp) (by simp; omega)
          have H2 := Lib.hid h2
          have H3 := Lib.hid h3
          have HD2 := Lib.hid hD2
          clear h2 h3 hD2 hnx ho hy hD hh hol
          go_wp2_with fail
          go_region
          go_wp2_with fail
          clear hcx hcy hco hfree
          go_loopw [8] (fun vj wr => ∃ (j : Nat) (out : List Nat), i + k ≤ j ∧ j < a.length + b.length ∧ vj = .int .i64 (j : Int) ∧ TimesRel w g (a.length + b.length) j (prodP a b i (k + 1) x) out wr) (fun vj _ => a.length + b.length - (intOf vj).toNat)
          case atStart => exact ⟨i + k, out.set (i + k) (o + x * y), Nat.le_refl _, by omega, by go_num, HD2.out, H2.out _ (by rw [Int.natCast_add, Int.natCast_mul]), (H3.out _).andDrew⟩
          case round =>
            clear H2 H3 HD2 hf hik
            obtain ⟨j, out, hj0, hj, rfl, hD, hh, hf⟩ := hrel
            have hol := hD.len
            have hjl : j < out.length := by omega
            obtain ⟨o, ho⟩ : ∃ o, o = out[j]'hjl := ⟨_, rfl⟩
            have hob : o < 8589934592 := by rw [ho]; exact hD.most j hjl
            have hco : wr.cell? ⟨g, j, none⟩ = some (.int .u64 (o : Int)) := by rw [cell_of_heap hh, nums64_get _ _ hjl, ho]
            by_cases hbig : 65536 ≤ o
            · have hdb : decide ((65536 : Int) ≤ (o : Int)) = true := decide_eq_true (by omega)
              by_cases hjn : j + 1 < a.length + b.length
              · have hdj : decide ((j : Int) + 1 < (a.length : Int) + (b.length : Int)) = true := decide_eq_true (by omega)
                have hj1l : j + 1 < out.length := by omega
                obtain ⟨o1, ho1⟩ : ∃ o1, o1 = out[j + 1]'hj1l := ⟨_, rfl⟩
                have ho16 : o1 < 65536 := by rw [ho1]; exact hD.small (j + 1) hj1l (by omega)
                have hc1 : wr.cell? ⟨g, j + 1, none⟩ = some (.int .u64 (o1 : Int)) := by rw [cell_of_heap hh, nums64_get _ _ hj1l, ho1]
                have hfree1 := free_of_heap hh (j + 1)
                have hfree0 := free_of_heap hh j
                have hD2 := hD.carry hjn
                rw [← ho, ← ho1] at hD2
                have h2 : ∀ z1 z0 : Int, z1 = ((o1 + o / 65536 : Nat) : Int) → z0 = ((o % 65536 : Nat) : Int) → ((wr.setCell ⟨g, j + 1, none⟩ (.int .u64 z1)).setCell ⟨g, j, none⟩ (.int .u64 z0)).heap[g]? = some (.cells (nums64 ((out.set (j + 1) (o1 + o / 65536)).set j (o % 65536))) 47 (0, 0)) := by
                  rintro z1 z0 rfl rfl
                  rw [heap_setCell_same (heap_setCell_same hh _), nums64_set, nums64_set]
                have h3 : ∀ v u, Fr [] w ((wr.setCell ⟨g, j + 1, none⟩ v).setCell ⟨g, j, none⟩ u) := fun v u => (hf.trans (Fr.set0 wr g (j + 1) v) (by simp) (n := []) (by simp; omega)).trans (Fr.set0 _ g j u) (by simp) (by simp [World.setCell]; have := hf.size; omega)
                have H2 := Lib.hid h2
                have H3 := Lib.hid h3
                have HD2 := Lib.hid hD2
                clear h2 h3 hD2 ho ho1 hD hh hol
                go_wp2_with fail
                go_region
                go_wp2_with fail
                go_roundw
                case rel => trace_state; exact ⟨j + 1, _, by omega, hjn, by go_num, HD2.out, H2.out _ _ (by go_num) (by go_num), (H3.out _ _).andDrew⟩
                case measure => simp [intOf]; omega
              · have hdj : decide ((j : Int) + 1 < (a.length : Int) + (b.length : Int)) = false := decide_eq_false (by omega)
                have hD3 := hD.done hj (HPLT.out (k + 1)) (by omega)
                have HR3 : Hid (TimesRel w g (a.length + b.length) (a.length + b.length) (prodP a b i (k + 1) x) out wr) := Lib.hid ⟨hD3, hh, hf⟩
                clear hD3 hD hh hol ho
                go_wp2_with fail
                exact ⟨⟨k + 1, out, by omega, by go_num, HR3.out⟩, by simp [intOf]; omega⟩
            · have hdb : decide ((65536 : Int) ≤ (o : Int)) = false := decide_eq_false (by omega)
              have hD3 := hD.done hj (HPLT.out (k + 1)) (by omega)
              have HR3 : Hid (TimesRel w g (a.length + b.length) (a.length + b.length) (prodP a b i (k + 1) x) out wr) := Lib.hid ⟨hD3, hh, hf⟩
              clear hD3 hD hh hol ho
              go_wp2_with fail
              exact ⟨⟨k + 1, out, by omega, by go_num, HR3.out⟩, by simp [intOf]; omega⟩
        · have hd2 : decide (k < b.length) = false := decide_eq_false hkb
          rw [show k = b.length from by omega, HEND.out] at hR
          have HR := Lib.hid hR
          clear hR
          go_wp2_with fail
          exact ⟨⟨i + 1, out, by omega, by go_num, HR.out⟩, by simp [intOf]; omega⟩
    · have hd : decide (i < a.length) = false := decide_eq_false hia
      have hR := HRO.out
      rw [show i = a.length from by omega, List.take_length] at hR
      go_wp2_with fail
      go_ret
      exact ⟨_, out, rfl, ⟨g, by rw [hR.1.len]; rfl, hR.2.1⟩, hR.1, hR.2.2⟩
end Go.Proofs.YtjiighgabfkmpaaDoor
