/- Contract of frame.loadLen. -/
import Derived.Test.YtijdffpekonklaaFraB
import Derived.Test.YtijdffpekonklaaVarD
namespace Go.Proofs.Ytijdffpekonklaa
open Go.RowKit

/-- 'append(v, bs...)' onto a full row of bytes, whosever it is: a new row. -/
theorem run_append_full {P : Program} {w : World} (t ty e : TypeId) (i : TypeInfo) (z : Value) (ht : P.underlying t = some (.slice e)) (hi : P.info? e = some i) (hz : i.zero = some z) (h4 : i.size = 1) (h5 : i.bytes = 1) (hzc : z.cells = #[z])
    (sa : Option Addr) (n : Nat) (xs : List UInt8) (hn : n = xs.length) (hb : bytesAt w (.slice sa n n) xs) (vu : Value) (us : List UInt8) (hu : bytesAt w vu us) (hne : us ≠ []) (hsum : xs.length + us.length ≤ 140737488355328) :
    ∃ v' w', (Builtin.append_ #[t, t] ty #[.slice sa n n, vu]).run P w = .ok v' w' ∧ bytesAt w' v' (xs ++ us) ∧ Fr [] w w' := by
  subst hn
  obtain ⟨a, cap, rfl, hcells⟩ := hu.cells hne
  have hup : 0 < us.length := List.length_pos_iff.2 hne
  have hfin : ∀ (N cap : Nat), (xs ++ us).length ≤ cap → cap ≤ maxLen → N = (xs ++ us).length → ∀ zs : Array Value, bytesAt (w.drew.alloc (.cells ((cellsB xs).toArray ++ (cellsB us).toArray ++ zs) e)) (.slice (some ⟨w.heap.size, 0, none⟩) N cap) (xs ++ us) := by
    intro N cap h1 h2 hN zs
    subst hN
    refine .inr ⟨w.heap.size, 0, cap, rfl, h1, h2, fun j hj => ?_⟩
    rw [Nat.zero_add, show w.heap.size = w.drew.heap.size from rfl, cell_of_heap (heap_alloc_new w.drew _)]
    have : ((cellsB xs).toArray ++ (cellsB us).toArray ++ zs) = (cellsB (xs ++ us) ++ zs.toList).toArray := by rw [cellsB_append]; simp
    rw [this, List.getElem?_toArray, List.getElem?_append_left (by rw [cellsB_length]; exact hj), cellsB_get _ _ hj]
  have hm63 : xs.length + us.length ≤ maxLen := by simp [maxLen]; omega
  have hlen : (xs ++ us).length = xs.length + us.length := by simp
  have hgrow : ∀ b : Addr, (∀ j v, (cellsB xs)[j]? = some v → w.cell? (b.add j) = some v) → ∃ v' w', (Builtin.append_ #[t, t] ty #[.slice (some b) xs.length xs.length, .slice (some a) us.length cap]).run P w = .ok v' w' ∧ bytesAt w' v' (xs ++ us) ∧ Fr [] w w' := by
    intro b hold
    refine ⟨_, _, run_append_grow (P := P) w t ty e i z ht hi hz b xs.length xs.length (cellsB xs) (by rw [h4, cellsB_length, Nat.mul_one]) hold a us.length cap (cellsB us) (by rw [h4, cellsB_length, Nat.mul_one]) hcells (by omega) (by omega) (growslice_fits (by omega) (by rw [h5]; omega)), ?_, (Fr.drew w).trans (Fr.alloc _ _) (by simp) (by simp)⟩
    refine hfin _ _ ?_ (grownCap_le_maxLen _ _ _ _ hm63) hlen.symm _
    rw [hlen]; exact grownCap_ge _ _ _ _
  by_cases hx : xs = []
  · subst hx
    cases sa with
    | none =>
      refine ⟨_, _, run_append_nil (P := P) w t ty e i z ht hi hz a us.length cap (cellsB us) (by rw [h4, cellsB_length, Nat.mul_one]) hcells hup (by omega) (by rw [h5]; omega), ?_, (Fr.drew w).trans (Fr.alloc _ _) (by simp) (by simp)⟩
      have := hfin us.length (grownCap w us.length 0 e) (by simpa using grownCap_ge _ _ _ _) (grownCap_le_maxLen _ _ _ _ (by omega)) (by simp) (Builtin.zeroCells z.cells (grownCap w us.length 0 e - us.length))
      simpa [cellsB] using this
    | some b => exact hgrow b (by simp [cellsB])
  · obtain ⟨b, cap', e', hold⟩ := hb.cells hx
    cases e'
    exact hgrow b hold
theorem wpL_appendFull {P : Program} {w : World} {ops : Array Oper} {rest : List Oper} {o : Oper} {a : Act} {Q : Exit → Act → World → Prop} (hgd : o.guard = none) (s x : Operand) (t : TypeId)
    (ho : o.op = .call { callee := .builtin .append, args := #[s, x], argTypes := #[t, t] }) (e : TypeId) (i : TypeInfo) (z : Value) (ht : P.underlying t = some (.slice e)) (hi : P.info? e = some i) (hz : i.zero = some z) (h4 : i.size = 1) (h5 : i.bytes = 1) (hzc : z.cells = #[z])
    (sa : Option Addr) (n : Nat) (xs : List UInt8) (hs : a.eval s = .slice sa n n) (hn : n = xs.length) (hb : bytesAt w (.slice sa n n) xs) (vu : Value) (us : List UInt8) (hx : a.eval x = vu) (hu : bytesAt w vu us) (hne : us ≠ []) (hsum : xs.length + us.length ≤ 140737488355328)
    (h : ∀ v' w', bytesAt w' v' (xs ++ us) → Fr [] w w' → wpList P ops Q rest (a.put o.dst v') w') : wpList P ops Q (o :: rest) a w := by
  obtain ⟨v', w', hr, h1, h2⟩ := run_append_full (P := P) t o.type e i z ht hi hz h4 h5 hzc sa n xs hn hb vu us hu hne hsum
  exact Lib.wpList_append_run w hgd s x t t ho _ _ hs hx _ _ hr (h v' w' h1 h2)

theorem form_max : (form 18446744073709551615).length = 10 := by
  have h1 := form_len_le 9 18446744073709551615 (by decide)
  have h2 := form_len_ge 9 18446744073709551615 (by decide)
  omega
set_option maxRecDepth 100000 in
theorem loadLen_nil (sv : Value) (w : World) (h : bytesAt w sv []) :
    Calls Try.prog 38 #[sv] w fun e w' => e = .returned (.tuple #[.int .i64 0, .int .i64 2]) ∧ w = w' := by
  obtain ⟨a0, c0, rfl, hle, hmx⟩ := h.form
  clear h
  simp only [List.length_nil]
  go_enter Try.func38, Try.ntmps38
  go_wp2_with fail
  go_ret2
  exact ⟨rfl, rfl⟩
set_option maxRecDepth 100000 in
theorem loadLen_yes (bs : List UInt8) (n d : Nat) (sv : Value) (w : World) (h : bytesAt w sv bs) (hl : bs.length ≤ 1000000) (h1 : 0 < bs.length) (hf : front ((bs.drop 1).take 10) = some (n, d)) (hn : n ≤ 1048576) :
    Calls Try.prog 38 #[sv] w fun e w' => e = .returned (.tuple #[.int .i64 n, .int .i64 0]) ∧ Fr [] w w' := by
  have hL : 1 ≤ bs.length := by omega
  obtain ⟨a0, c0, rfl, hle, hmx⟩ := h.form
  have HLN := Lib.hid (len_form_any 18446744073709551615 w (by decide))
  rw [form_max] at HLN
  have hm : (bs.length ≤ 11 ∧ min bs.length 11 = bs.length) ∨ (¬ bs.length ≤ 11 ∧ min bs.length 11 = 11) := by omega
  have hpart := fpart_any bs a0 c0 1 (min bs.length 11) w h (by omega) (by omega)
  have hDe : (bs.take (min bs.length 11)).drop 1 = (bs.drop 1).take 10 := by
    rw [List.drop_take]
    by_cases h11 : bs.length ≤ 11
    · rw [Nat.min_eq_left h11, List.take_of_length_le (by simp), List.take_of_length_le (by simp; omega)]
    · rw [Nat.min_eq_right (by omega)]
  rw [hDe] at hpart
  obtain ⟨D, hD⟩ : ∃ D, D = (bs.drop 1).take 10 := ⟨_, rfl⟩
  have hDl : min bs.length 11 - 1 = D.length := by rw [hD]; simp; omega
  rw [← hD, hDl] at hpart
  rw [← hD] at hf
  have hD10 : D.length ≤ 10 := by rw [hD]; simp; omega
  obtain ⟨q, hq⟩ : ∃ q, q = D.length := ⟨_, rfl⟩
  rw [← hq] at hpart
  obtain ⟨L, hLe⟩ : ∃ L, L = bs.length := ⟨_, rfl⟩
  rw [← hLe] at hpart hm hL hle ⊢
  have HPT := Lib.hid hpart
  have HQ := Lib.hid hq
  have HTF := Lib.hid hf
  clear h hDe hD hDl hpart hq hLe hf
  simp only [maxLen] at hmx
  rcases hm with ⟨h11, hm⟩ | ⟨h11, hm⟩ <;> rw [hm] at HPT <;> clear hm
  case' inr => rw [show ((11 : Nat) : Int) = (11 : Int) from rfl] at HPT
  case' inl => rw [show ((1 : Nat) : Int) = (1 : Int) from rfl] at HPT
  case' inr => rw [show ((1 : Nat) : Int) = (1 : Int) from rfl] at HPT
  all_goals
    go_enter Try.func38, Try.ntmps38
    go_wp2_with (first
      | (go_at_call 25; refine HLN.out.mono ?_; rintro e w1 ⟨rfl, rfl⟩)
      | (go_at_call 40; refine HPT.out.mono ?_; rintro e w1 ⟨b, rfl, hbD, -, rfl⟩; have HBD := Lib.hid hbD; clear hbD)
      | (go_at_call 45; refine (read_any _ D _ HBD.out (by omega)).mono ?_; rintro e w2 ⟨p, g, rfl, hr2, hf2, hp2, hg2⟩)
      | (go_at_call 46; refine (vtake_some p g D false 1048576 n d _ hr2 HTF.out hn).mono ?_; rintro e w3 ⟨rfl, hr3, hf3⟩)
      | (go_at_call 47; refine (spent_any p g _ _ _ hr3).mono ?_; rintro e w4 ⟨rfl, rfl⟩))
    go_ret2
    exact ⟨rfl, hf2.trans hf3 (by simp) (by simp; omega)⟩
theorem loadLen_no (bs : List UInt8) (sv : Value) (w : World) (h : bytesAt w sv bs) (hl : bs.length ≤ 1000000) (h1 : 0 < bs.length) (hf : taken ((bs.drop 1).take 10) 1048576 = none ∧ (parse 1 ((bs.drop 1).take 10 ++ [1])).isSome = false) :
    Calls Try.prog 38 #[sv] w fun e w' => e = .returned (.tuple #[.int .i64 0, .int .i64 3]) ∧ Fr [] w w' := by
  obtain ⟨i, hi, hz0, hz1, hz2⟩ := info_parts infoB
  have hL : 1 ≤ bs.length := by omega
  obtain ⟨a0, c0, rfl, hle, hmx⟩ := h.form
  have HLN := Lib.hid (len_form_any 18446744073709551615 w (by decide))
  rw [form_max] at HLN
  have hm : (bs.length ≤ 11 ∧ min bs.length 11 = bs.length) ∨ (¬ bs.length ≤ 11 ∧ min bs.length 11 = 11) := by omega
  have hpart := fpart_any bs a0 c0 1 (min bs.length 11) w h (by omega) (by omega)
  have hDe : (bs.take (min bs.length 11)).drop 1 = (bs.drop 1).take 10 := by
    rw [List.drop_take]
    by_cases h11 : bs.length ≤ 11
    · rw [Nat.min_eq_left h11, List.take_of_length_le (by simp), List.take_of_length_le (by simp; omega)]
    · rw [Nat.min_eq_right (by omega)]
  rw [hDe] at hpart
  obtain ⟨D, hD⟩ : ∃ D, D = (bs.drop 1).take 10 := ⟨_, rfl⟩
  have hDl : min bs.length 11 - 1 = D.length := by rw [hD]; simp; omega
  rw [← hD, hDl] at hpart
  rw [← hD] at hf
  have hD10 : D.length ≤ 10 := by rw [hD]; simp; omega
  obtain ⟨q, hq⟩ : ∃ q, q = D.length := ⟨_, rfl⟩
  rw [← hq] at hpart
  obtain ⟨L, hLe⟩ : ∃ L, L = bs.length := ⟨_, rfl⟩
  rw [← hLe] at hpart hm hL hle ⊢
  have HPT := Lib.hid hpart
  have HQ := Lib.hid hq
  have HTF := Lib.hid hf
  clear h hDe hD hDl hpart hq hLe hf
  simp only [maxLen] at hmx
  have HPN := Lib.hid (fun sv wx (hx : bytesAt wx sv (D ++ [1])) => parse_no 1 (D ++ [1]) sv wx hx (by simp; omega) (by omega) (fun _ => by simpa using HTF.out.2))
  rcases hm with ⟨h11, hm⟩ | ⟨h11, hm⟩ <;> rw [hm] at HPT <;> clear hm
  case' inr => rw [show ((11 : Nat) : Int) = (11 : Int) from rfl] at HPT
  case' inl => rw [show ((1 : Nat) : Int) = (1 : Int) from rfl] at HPT
  case' inr => rw [show ((1 : Nat) : Int) = (1 : Int) from rfl] at HPT
  all_goals
    go_enter Try.func38, Try.ntmps38
    go_wp2_with (first
      | (go_at_call 25; refine HLN.out.mono ?_; rintro e w1 ⟨rfl, rfl⟩)
      | (go_at_call 40; refine HPT.out.mono ?_; rintro e w1 ⟨b, rfl, hbD, -, rfl⟩; have HBD := Lib.hid hbD; clear hbD)
      | (go_at_call 45; refine (read_any _ D _ HBD.out (by omega)).mono ?_; rintro e w2 ⟨p, g, rfl, hr2, hf2, hp2, hg2⟩)
      | (go_at_call 46; refine (vtake_none p g D false 1048576 _ hr2 HTF.out.1).mono ?_; rintro e w3 ⟨rfl, hr3, hf3⟩; have hf13 := hf2.trans hf3 (by simp) (n := []) (by simp; omega))
      | (go_at_call 47; refine (spent_any p g _ _ _ hr3).mono ?_; rintro e w4 ⟨rfl, rfl⟩)
      | (at_builtin; refine wpL_appendFull rfl (.tmp 29) (.tmp 30) 22 rfl 5 i (.int .u8 0) Try.underlying22 hi hz0 hz1 hz2 rfl b q D rfl HQ.out (HBD.out.below (hf13.trans (Fr.alloc _ _) (by simp) (by simp))) _ [1] rfl (bytesAt_new w3 [1] 5 1 rfl (by simp [maxLen]) _ rfl) (by simp) (by simp; omega) ?_; intro v5 w5 hb5 hf5)
      | (go_at_call 48; refine (HPN.out v5 _ hb5).mono ?_; rintro e w6 ⟨rfl, hf6⟩))
    go_ret2
    exact ⟨rfl, ((hf13.trans (Fr.alloc _ _) (by simp) (n := []) (by simp)).trans hf5 (by simp) (n := []) (by simp)).trans hf6 (by simp) (by simp)⟩
theorem loadLen_cut (bs : List UInt8) (sv : Value) (w : World) (h : bytesAt w sv bs) (hl : bs.length ≤ 1000000) (h1 : 0 < bs.length) (hf : taken ((bs.drop 1).take 10) 1048576 = none ∧ (parse 1 ((bs.drop 1).take 10 ++ [1])).isSome = true) :
    Calls Try.prog 38 #[sv] w fun e w' => e = .returned (.tuple #[.int .i64 0, .int .i64 2]) ∧ Fr [] w w' := by
  obtain ⟨i, hi, hz0, hz1, hz2⟩ := info_parts infoB
  have hL : 1 ≤ bs.length := by omega
  obtain ⟨a0, c0, rfl, hle, hmx⟩ := h.form
  have HLN := Lib.hid (len_form_any 18446744073709551615 w (by decide))
  rw [form_max] at HLN
  have hm : (bs.length ≤ 11 ∧ min bs.length 11 = bs.length) ∨ (¬ bs.length ≤ 11 ∧ min bs.length 11 = 11) := by omega
  have hpart := fpart_any bs a0 c0 1 (min bs.length 11) w h (by omega) (by omega)
  have hDe : (bs.take (min bs.length 11)).drop 1 = (bs.drop 1).take 10 := by
    rw [List.drop_take]
    by_cases h11 : bs.length ≤ 11
    · rw [Nat.min_eq_left h11, List.take_of_length_le (by simp), List.take_of_length_le (by simp; omega)]
    · rw [Nat.min_eq_right (by omega)]
  rw [hDe] at hpart
  obtain ⟨D, hD⟩ : ∃ D, D = (bs.drop 1).take 10 := ⟨_, rfl⟩
  have hDl : min bs.length 11 - 1 = D.length := by rw [hD]; simp; omega
  rw [← hD, hDl] at hpart
  rw [← hD] at hf
  have hD10 : D.length ≤ 10 := by rw [hD]; simp; omega
  obtain ⟨q, hq⟩ : ∃ q, q = D.length := ⟨_, rfl⟩
  rw [← hq] at hpart
  obtain ⟨L, hLe⟩ : ∃ L, L = bs.length := ⟨_, rfl⟩
  rw [← hLe] at hpart hm hL hle ⊢
  have HPT := Lib.hid hpart
  have HQ := Lib.hid hq
  have HTF := Lib.hid hf
  clear h hDe hD hDl hpart hq hLe hf
  simp only [maxLen] at hmx
  obtain ⟨ns, hns⟩ := Option.isSome_iff_exists.1 HTF.out.2
  have HPN := Lib.hid (fun sv wx (hx : bytesAt wx sv (D ++ [1])) => parse_yes 1 (D ++ [1]) ns sv wx hx (by simp; omega) (by omega) hns)
  rcases hm with ⟨h11, hm⟩ | ⟨h11, hm⟩ <;> rw [hm] at HPT <;> clear hm
  case' inr => rw [show ((11 : Nat) : Int) = (11 : Int) from rfl] at HPT
  case' inl => rw [show ((1 : Nat) : Int) = (1 : Int) from rfl] at HPT
  case' inr => rw [show ((1 : Nat) : Int) = (1 : Int) from rfl] at HPT
  all_goals
    go_enter Try.func38, Try.ntmps38
    go_wp2_with (first
      | (go_at_call 25; refine HLN.out.mono ?_; rintro e w1 ⟨rfl, rfl⟩)
      | (go_at_call 40; refine HPT.out.mono ?_; rintro e w1 ⟨b, rfl, hbD, -, rfl⟩; have HBD := Lib.hid hbD; clear hbD)
      | (go_at_call 45; refine (read_any _ D _ HBD.out (by omega)).mono ?_; rintro e w2 ⟨p, g, rfl, hr2, hf2, hp2, hg2⟩)
      | (go_at_call 46; refine (vtake_none p g D false 1048576 _ hr2 HTF.out.1).mono ?_; rintro e w3 ⟨rfl, hr3, hf3⟩; have hf13 := hf2.trans hf3 (by simp) (n := []) (by simp; omega))
      | (go_at_call 47; refine (spent_any p g _ _ _ hr3).mono ?_; rintro e w4 ⟨rfl, rfl⟩)
      | (at_builtin; refine wpL_appendFull rfl (.tmp 29) (.tmp 30) 22 rfl 5 i (.int .u8 0) Try.underlying22 hi hz0 hz1 hz2 rfl b q D rfl HQ.out (HBD.out.below (hf13.trans (Fr.alloc _ _) (by simp) (by simp))) _ [1] rfl (bytesAt_new w3 [1] 5 1 rfl (by simp [maxLen]) _ rfl) (by simp) (by simp; omega) ?_; intro v5 w5 hb5 hf5)
      | (go_at_call 48; refine (HPN.out v5 _ hb5).mono ?_; rintro e w6 ⟨rv, rfl, -, hf6⟩))
    go_ret2
    exact ⟨rfl, ((hf13.trans (Fr.alloc _ _) (by simp) (n := []) (by simp)).trans hf5 (by simp) (n := []) (by simp)).trans hf6 (by simp) (by simp)⟩

/-- loadLen: what the head says, or what is wrong with it. -/
theorem loadLen_any (bs : List UInt8) (sv : Value) (w : World) (h : bytesAt w sv bs) (hl : bs.length ≤ 1000000) :
    Calls Try.prog 38 #[sv] w fun e w' => e = .returned (.tuple #[.int .i64 ((lenOf bs).2.1 : Nat), .int .i64 ((lenOf bs).1 : Nat)]) ∧ Fr [] w w' := by
  match bs, h, hl with
  | [], h, hl =>
    refine (loadLen_nil sv w h).mono ?_
    rintro e w' ⟨rfl, rfl⟩
    exact ⟨rfl, Fr.refl _ _⟩
  | c :: r, h, hl =>
    have hd : (c :: r).drop 1 = r := rfl
    cases hf : front r with
    | none =>
      have hp := cut_none hf
      have ht : taken (r.take 10) 1048576 = none := by rw [taken, front_take, hf]; rfl
      cases hc : cutB r
      · rw [hc] at hp
        refine (loadLen_no (c :: r) sv w h hl (by simp) (by rw [hd]; exact ⟨ht, hp⟩)).mono ?_
        rintro e w' ⟨rfl, hfr⟩
        exact ⟨by simp only [lenOf, hf, hc]; rfl, hfr⟩
      · rw [hc] at hp
        refine (loadLen_cut (c :: r) sv w h hl (by simp) (by rw [hd]; exact ⟨ht, hp⟩)).mono ?_
        rintro e w' ⟨rfl, hfr⟩
        exact ⟨by simp only [lenOf, hf, hc]; rfl, hfr⟩
    | some x =>
      obtain ⟨n, d⟩ := x
      by_cases hn : n ≤ 1048576
      · refine (loadLen_yes (c :: r) n d sv w h hl (by simp) (by rw [hd, front_take]; exact hf) hn).mono ?_
        rintro e w' ⟨rfl, hfr⟩
        exact ⟨by simp only [lenOf, hf, if_pos hn]; rfl, hfr⟩
      · have ht : taken (r.take 10) 1048576 = none := by rw [taken, front_take, hf]; simp; omega
        refine (loadLen_no (c :: r) sv w h hl (by simp) (by rw [hd]; exact ⟨ht, cut_some hf⟩)).mono ?_
        rintro e w' ⟨rfl, hfr⟩
        exact ⟨by simp only [lenOf, hf, if_neg hn]; rfl, hfr⟩
end Go.Proofs.Ytijdffpekonklaa
