/- The document's lists of names (layer 9): Less, Find, without. -/
import Derived.Test.YtmchnaojlnjmjaaGreatDirOk
import Derived.Test.YtmchnaojlnjmjaaGreatStr
import Derived.Test.YtmchnaojlnjmjaaGreatDirE
import Derived.BigRegion
namespace Go.Proofs.YtmchnaojlnjmjaaGreat
open Go.RowKit Go.Maps

def LessRel (w : World) (a b : List UInt8) (i : Value) (wx : World) : Prop := ∃ k : Nat, k ≤ min a.length b.length ∧ i = .int .i64 (k : Int) ∧ Fr [] w wx ∧ a.take k = b.take k
set_option maxRecDepth 100000 in
theorem rless_any (a b : List UInt8) (w : World) (ha : a.length ≤ maxLen) (hb : b.length ≤ maxLen) :
    Calls Tryz.prog 99 #[encStr a, encStr b] w fun e w' => e = .returned (.bool (lessB a b)) ∧ Fr [] w w' := by
  have ha' : a.length ≤ 9223372036854775807 := by simpa [maxLen] using ha
  have hb' : b.length ≤ 9223372036854775807 := by simpa [maxLen] using hb
  obtain ⟨R, hR⟩ : ∃ R, R = lessB a b := ⟨_, rfl⟩
  have HR := Lib.hid hR
  rw [← hR]
  clear hR ha hb
  go_enter Tryz.func99, Tryz.ntmps99
  go_wp2_with fail
  go_loopw [5] (LessRel w a b) (fun i _ => a.length - (intOf i).toNat)
  case atStart => exact ⟨0, Nat.zero_le _, rfl, Fr.refl _ _, rfl⟩
  case round =>
    obtain ⟨k, hk, rfl, hf, htk⟩ := hrel
    by_cases hka : k < a.length
    · have hd : decide (k < a.length) = true := decide_eq_true hka
      by_cases hkb : k < b.length
      · have hd2 : decide (k < b.length) = true := decide_eq_true hkb
        obtain ⟨x, hx⟩ : ∃ x, x = a[k]'hka := ⟨_, rfl⟩
        obtain ⟨y, hy⟩ : ∃ y, y = b[k]'hkb := ⟨_, rfl⟩
        have hia := fun wx => run_index_str (P := Tryz.prog) wx 9 a (k : Int) k x Tryz.underlying9 rfl (by rw [hx, List.getElem?_eq_getElem])
        have hib := fun wx => run_index_str (P := Tryz.prog) wx 9 b (k : Int) k y Tryz.underlying9 rfl (by rw [hy, List.getElem?_eq_getElem])
        have HX := Lib.hid hx
        have HY := Lib.hid hy
        have HTK := Lib.hid htk
        have HF := Lib.hid hf
        clear hx hy htk hf
        by_cases hxy : x = y
        · have hne : ((x.toNat : Int) != (y.toNat : Int)) = false := by rw [hxy]; simp
          have HXY := Lib.hid hxy
          clear hxy
          go_wp2_with fail
          go_region
          generalize hwq : wr.drew = wq
          have hfq : Fr [] w wq := hwq ▸ HF.out.andDrew
          clear hwq
          go_wp2_with fail
          go_roundw
          case rel => exact ⟨k + 1, by omega, by simp, hfq, by rw [List.take_succ_eq_append_getElem hka, List.take_succ_eq_append_getElem hkb, HTK.out, ← HX.out, ← HY.out, HXY.out]⟩
          case measure => simp [intOf]; omega
        · have hne : ((x.toNat : Int) != (y.toNat : Int)) = true := by rw [bne_iff_ne]; intro q; exact hxy (UInt8.toNat_inj.1 (by omega))
          have HL := Lib.hid (show R = decide (x.toNat < y.toNat) by
            rw [HR.out, lessB_at k a b HTK.out hka hkb (by rw [← HX.out, ← HY.out]; exact hxy), ← HX.out, ← HY.out])
          clear hxy
          go_wp2_with fail
          go_region
          generalize hwq : wr.drew = wq
          have hfq : Fr [] w wq := hwq ▸ HF.out.andDrew
          clear hwq
          go_wp2_with fail
          go_region
          generalize hwq2 : wq.drew = wq2
          have hfq2 : Fr [] w wq2 := hwq2 ▸ hfq.andDrew
          clear hwq2
          go_wp2_with fail
          go_ret
          exact ⟨by rw [HL.out]; rfl, hfq2⟩
      · have hd2 : decide (k < b.length) = false := decide_eq_false hkb
        have HL := Lib.hid (show R = decide ((a.length : Int) < (b.length : Int)) by
          rw [HR.out, lessB_end a b k (by omega) htk]
          exact decide_eq_decide.2 (by omega))
        have HF := Lib.hid hf
        have hd3 : decide (a.length < b.length) = false := decide_eq_false (by omega)
        have HL2 := Lib.hid (show R = false by rw [HL.out]; exact decide_eq_false (by omega))
        clear htk hf
        go_wp2_with fail
        go_ret
        exact ⟨by rw [HL2.out]; rfl, HF.out⟩
    · have hd : decide (k < a.length) = false := decide_eq_false hka
      have HL := Lib.hid (show R = decide (a.length < b.length) by
        rw [HR.out, lessB_end a b k (by omega) htk])
      have HF := Lib.hid hf
      clear htk hf
      by_cases hlt : a.length < b.length
      · have hd3 : decide (a.length < b.length) = true := decide_eq_true hlt
        rw [hd3] at HL
        go_wp2_with fail
        go_ret
        exact ⟨by rw [HL.out]; rfl, HF.out⟩
      · have hd3 : decide (a.length < b.length) = false := decide_eq_false hlt
        rw [hd3] at HL
        go_wp2_with fail
        go_ret
        exact ⟨by rw [HL.out]; rfl, HF.out⟩

/-- A name and its number, as cells. -/
def entC (e : Ent) : List Value := [encStr e.1, .int .i64 e.2]
theorem duo_cells {w : World} {a0 : Option Addr} {n cap : Nat} {l : List Ent} (h : elemsAt w (.slice a0 n cap) 2 (l.map entC)) (k : Nat) (hk : k < l.length) : ∃ b off, a0 = some ⟨b, off, none⟩ ∧ n = l.length ∧ b < w.heap.size ∧
    w.cell? ⟨b, off + k * 2, none⟩ = some (encStr (l[k]'hk).1) ∧ w.cell? ⟨b, off + k * 2 + 1, none⟩ = some (.int .i64 (l[k]'hk).2) := by
  rcases h with ⟨_, _, _, _, e⟩ | ⟨b, off, cap', e, _, _, hb, hcell⟩
  · rw [List.map_eq_nil_iff] at e; subst e; simp at hk
  · simp only [Value.slice.injEq, List.length_map] at e
    obtain ⟨rfl, hn, rfl⟩ := e
    obtain ⟨-, h1⟩ := hcell k (by simpa using hk)
    rw [List.getElem_map] at h1
    exact ⟨b, off, rfl, hn, hb, by simpa using h1 0 _ rfl, h1 1 _ rfl⟩
/-- A list of names that the call has made. -/
def namesR (w : World) (base : Nat) (v : Value) (l : List Ent) : Prop := w.ownsRow base 83 2 v l.length (l.map entC).flatten
theorem namesR.elems {w : World} {base : Nat} {v : Value} {l : List Ent} (h : namesR w base v l) : elemsAt w v 2 (l.map entC) := elems_of_owns (by rw [List.length_map]; exact h) (by intro x hx; obtain ⟨o, _, rfl⟩ := List.mem_map.1 hx; rfl)
theorem namesR.to0 {w : World} {base : Nat} {v : Value} {l : List Ent} (h : namesR w base v l) : namesR w 0 v l := owns_base h (fun _ _ => Nat.zero_le _)
theorem namesR.below {w w' : World} {base : Nat} {v : Value} {l : List Ent} (h : namesR w base v l) (hf : Fr [] w w') : namesR w' base v l := owns_kept h hf (by simp)
def findI (l : List Ent) (m : List UInt8) : Int := match findL l m with | some i => (i : Int) | none => -1
theorem findL_first : ∀ (l : List Ent) (m : List UInt8) (k : Nat) (hk : k < l.length), (l[k]'hk).1 = m → (∀ j (h : j < k), (l[j]'(by omega)).1 ≠ m) → findL l m = some k
  | [], _, _, hk, _, _ => by simp at hk
  | e :: r, m, 0, _, h, _ => by rw [findL, if_pos (by simpa using h)]
  | e :: r, m, k + 1, hk, h, hn => by
    rw [findL, if_neg (by simpa using hn 0 (by omega)), findL_first r m k (by simpa using hk) (by simpa using h) (fun j hj => by simpa using hn (j + 1) (by omega))]
    rfl
theorem findL_no : ∀ (l : List Ent) (m : List UInt8), (∀ j (h : j < l.length), (l[j]'h).1 ≠ m) → findL l m = none
  | [], _, _ => rfl
  | e :: r, m, h => by
    rw [findL, if_neg (fun q => h 0 (by simp) q), findL_no r m (fun j hj q => h (j + 1) (by simpa using hj) q)]
    rfl
def FindRel (w : World) (l : List Ent) (m : List UInt8) (i : Value) (wx : World) : Prop := ∃ k : Nat, k ≤ l.length ∧ i = .int .i64 (k : Int) ∧ w = wx ∧ ∀ j (_ : j < k) (h : j < l.length), (l[j]'h).1 ≠ m
set_option maxRecDepth 100000 in
theorem rfind_any (l : List Ent) (m : List UInt8) (v : Value) (w : World) (h : elemsAt w v 2 (l.map entC)) :
    Calls Tryz.prog 12 #[v, encStr m] w fun e w' => e = .returned (.int .i64 (findI l m)) ∧ w = w' := by
  obtain ⟨a0, c0, rfl, hle, hmx⟩ := h.form
  rw [List.length_map] at h hle ⊢
  have hm' : c0 ≤ 9223372036854775807 := by simpa [maxLen] using hmx
  have HE := Lib.hid h
  obtain ⟨R, hR⟩ : ∃ R, R = findI l m := ⟨_, rfl⟩
  have HR := Lib.hid hR
  rw [← hR]
  clear h hR
  go_enter Tryz.func12, Tryz.ntmps12
  go_wp2_with fail
  go_loopw [5] (FindRel w l m) (fun i _ => l.length - (intOf i).toNat)
  case atStart => exact ⟨0, Nat.zero_le _, rfl, rfl, fun j hj => by omega⟩
  case round =>
    obtain ⟨k, hk, rfl, rfl, hall⟩ := hrel
    have HA := Lib.hid hall
    clear hall
    by_cases hkn : k < l.length
    · have hd2 : decide (k < l.length) = true := decide_eq_true hkn
      obtain ⟨b, off, rfl, -, -, hc0, hc1⟩ := duo_cells HE.out k hkn
      obtain ⟨x, hx⟩ : ∃ x, x = (l[k]'hkn).1 := ⟨_, rfl⟩
      rw [← hx] at hc0
      have HX := Lib.hid hx
      clear hx hc1
      by_cases hxm : x = m
      · have he : (x == m) = true := by rw [hxm]; simp
        have HK := Lib.hid (show R = (k : Int) by
          rw [HR.out]; unfold findI; rw [findL_first l m k hkn (by rw [← HX.out]; exact hxm) (fun j hj => HA.out j hj (by omega))])
        clear hxm
        go_wp2_with fail
        go_ret
        exact ⟨by rw [HK.out]; rfl, rfl⟩
      · have he : (x == m) = false := by rw [beq_eq_false_iff_ne]; exact hxm
        have HXM := Lib.hid hxm
        clear hxm
        go_wp2_with fail
        go_roundw
        case rel =>
          refine ⟨k + 1, by omega, by simp, rfl, fun j hj hjl => ?_⟩
          by_cases e : j = k
          · subst e; rw [← HX.out]; exact HXM.out
          · exact HA.out j (by omega) hjl
        case measure => simp [intOf]; omega
    · have hd2 : decide (k < l.length) = false := decide_eq_false hkn
      have HK := Lib.hid (show R = -1 by rw [HR.out]; unfold findI; rw [findL_no l m (fun j hj => HA.out j (by omega) hj)])
      go_wp2_with fail
      go_ret
      exact ⟨by rw [HK.out]; rfl, rfl⟩

theorem infoN : (Tryz.prog.info? 83).map (fun i => (i.zero, i.size, i.bytes)) = some (some (.agg #[.string ⟨#[]⟩, .int .i64 0]), 2, 24) := by kernel_rfl
theorem without_snoc (l : List Ent) (m : List UInt8) (e : Ent) : withoutL (l ++ [e]) m = if e.1 = m then withoutL l m else withoutL l m ++ [e] := by
  unfold withoutL
  by_cases h : e.1 = m <;> simp [List.filter_append, h]
/-- A new list of names. -/
def Listed (l : List Ent) (w : World) (e : Ending) (w' : World) : Prop := ∃ v, e = .returned v ∧ namesR w' w.heap.size v l ∧ Fr [] w w'
def WithoutRel (w : World) (l : List Ent) (m : List UInt8) (v i : Value) (wx : World) : Prop := ∃ k : Nat, k ≤ l.length ∧ i = .int .i64 (k : Int) ∧ namesR wx w.heap.size v (withoutL (l.take k) m) ∧ Fr [] w wx
set_option maxRecDepth 100000 in
theorem rwithout_any (l : List Ent) (m : List UInt8) (v : Value) (w : World) (h : elemsAt w v 2 (l.map entC)) (hl : l.length ≤ 1000000) :
    Calls Tryz.prog 96 #[v, encStr m] w (Listed (withoutL l m) w) := by
  obtain ⟨i0, hi, hz0, hz1, hz2⟩ := info_parts infoN
  obtain ⟨a0, c0, rfl, hle, hmx⟩ := h.form
  rw [List.length_map] at h hle ⊢
  have hm' : c0 ≤ 9223372036854775807 := by simpa [maxLen] using hmx
  have HE := Lib.hid h
  clear h
  go_enter Tryz.func96, Tryz.ntmps96
  go_wp2_with fail
  go_loopw [5, 6] (WithoutRel w l m) (fun _ i _ => l.length - (intOf i).toNat)
  case atStart => exact ⟨0, Nat.zero_le _, rfl, World.ownsRow_nil _ _ _ _, Fr.refl _ _⟩
  case round =>
    obtain ⟨k, hk, rfl, hrow, hf⟩ := hrel
    by_cases hkn : k < l.length
    · have hd2 : decide (k < l.length) = true := decide_eq_true hkn
      obtain ⟨b, off, rfl, -, hb, hc0, hc1⟩ := duo_cells (HE.out.below hf) k hkn
      have hwl := withoutL_le (l.take k) m
      have htk : withoutL (l.take (k + 1)) m = if (l[k]'hkn).1 = m then withoutL (l.take k) m else withoutL (l.take k) m ++ [l[k]'hkn] := by
        rw [List.take_succ_eq_append_getElem hkn, without_snoc]
      obtain ⟨x, hx⟩ : ∃ x, x = l[k]'hkn := ⟨_, rfl⟩
      rw [← hx] at hc0 hc1 htk
      obtain ⟨x1, x2⟩ := x
      simp only at hc0 hc1 htk
      have HTK := Lib.hid htk
      have HROW := Lib.hid hrow
      have HO : Hid (wr.ownsRow w.heap.size 83 2 _ (withoutL (l.take k) m).length ((withoutL (l.take k) m).map entC).flatten) := Lib.hid hrow
      have HF := Lib.hid hf
      have hws := hf.size
      have hlk : (withoutL (l.take k) m).length ≤ 1000000 := by rw [List.length_take] at hwl; omega
      clear htk hrow hf hx hwl
      by_cases hxm : x1 = m
      · have he : (x1 == m) = true := by rw [hxm]; simp
        rw [if_pos hxm] at HTK
        clear hxm
        go_wp2_with fail
        go_roundw
        case rel => exact ⟨k + 1, by omega, by simp, by rw [HTK.out]; exact HROW.out, HF.out⟩
        case measure => simp [intOf]; omega
      · have he : (x1 == m) = false := by rw [beq_eq_false_iff_ne]; exact hxm
        rw [if_neg hxm] at HTK
        clear hxm
        go_wp2_with (at_builtin; refine wpL_appendS rfl _ _ 27 rfl w.heap.size 83 i0 _ 2 24 Tryz.underlying27 hi hz0 hz1 hz2 (by rfl) (by decide) _ _ _ rfl HO.out (entC (x1, x2)) rfl (by intro u hu; simp [entC] at hu; rcases hu with rfl | rfl <;> rfl) rfl (by omega) (by simp [maxLen]; omega) hws ?_; intro v5 w5 hown5 hf5 hb5)
        have hf3 := (Fr.alloc wr (.cells (entC (x1, x2)).toArray 83)).trans hf5 (by simp) (fun _ hk _ => hk)
        have hf6 : Fr [] w w5 := HF.out.own HO.out hf3
        have hr6 : namesR w5 w.heap.size v5 (withoutL (l.take (k + 1)) m) := by
          rw [HTK.out]
          unfold namesR
          simpa using hown5
        go_wp2_with fail
        go_roundw
        case rel => exact ⟨k + 1, by omega, by simp, hr6, hf6⟩
        case measure => simp [intOf]; omega
    · have hd2 : decide (k < l.length) = false := decide_eq_false hkn
      obtain rfl : k = l.length := by omega
      rw [List.take_length] at hrow
      go_wp2_with fail
      go_ret
      exact ⟨_, rfl, hrow, hf⟩
end Go.Proofs.YtmchnaojlnjmjaaGreat
