/- Contract of package seven's collector: put. -/
import Derived.Test.YtjddagkjgkdbkaaSevA
import Derived.Test.YtjddagkjgkdbkaaRegionZ
import Derived.BigRegion
import Derived.Laws.BitsAllLaws
namespace Go.Proofs.Ytjddagkjgkdbkaa
open Go.RowKit

/-- 'append(s, x)': one element onto a row of the call's own, the frame from behind the element's own row. -/
theorem wpL_append1A {P : Program} {w : World} {ops : Array Oper} {rest : List Oper} {o : Oper} {a : Act} {Q : Exit → Act → World → Prop} (hgd : o.guard = none) (s x : Operand) (t : TypeId)
    (ho : o.op = .call { callee := .builtin .append, args := #[s, x], argTypes := #[t, t] }) (base : Nat) (e : TypeId) (i : TypeInfo) (z : Value) (bytes : Nat) (ht : P.underlying t = some (.slice e)) (hi : P.info? e = some i) (hz : i.zero = some z) (h4 : i.size = 1) (h5 : i.bytes = bytes) (hzc : z.cells.size = 1)
    (v : Value) (n : Nat) (xs : List Value) (hs : a.eval s = v) (hown : w.ownsRow base e 1 v n xs) (u : Value) (hu : u.oneCell' = true) (hx : a.eval x = .slice (some ⟨w.heap.size, 0, none⟩) 1 1) (hsum : (n + 1) * bytes ≤ 140737488355328) (hm : n + 1 ≤ maxLen) (hbase : base ≤ w.heap.size)
    (h : ∀ v' w', w'.ownsRow base e 1 v' (n + 1) (xs ++ [u]) → Fr v.ownBlock.toList (w.alloc (.cells #[u] e)) w' → (v'.ownBlock = v.ownBlock ∨ ∃ k, v'.ownBlock = some k ∧ w.heap.size ≤ k) → wpList P ops Q rest (a.put o.dst v') w') : wpList P ops Q (o :: rest) a (w.alloc (.cells #[u] e)) := by
  refine wpList_append_own_at _ hgd s x t ho base e i z 1 bytes ht hi hz h4 h5 hzc (by decide) v n xs hs (owns_kept hown (Fr.alloc _ _) (by simp)) ⟨w.heap.size, 0, none⟩ 1 1 [u] hx rfl ?_ (by simpa using hu) hm hsum (by simp; omega) ?_
  · intro j y hj
    match j, hj with
    | 0, hj =>
      cases hj
      have hadd : (⟨w.heap.size, 0, none⟩ : Addr).add 0 = ⟨w.heap.size, 0, none⟩ := by unfold Addr.add; split <;> simp_all
      rw [hadd, cell_of_heap (heap_alloc_new w _)]
      rfl
  · intro v' w' h1 h2 _ h3
    refine h v' w' h1 (Fr.of_grown h2) ?_
    rcases h3 with h3 | h3
    · exact .inl h3
    · exact .inr ⟨_, h3, by simp⟩
theorem owns_slice {w : World} {base : Nat} {e : TypeId} {size : Nat} {v : Value} {n : Nat} {xs : List Value} (h : w.ownsRow base e size v n xs) : ∃ a cap, v = .slice a n cap := by
  rcases h.2 with ⟨rfl, h0⟩ | ⟨g, cap, cur, rfl, _⟩
  · exact ⟨_, _, by rw [h0]⟩
  · exact ⟨_, _, rfl⟩
/-- The cells of a collector. -/
def colC (k : Nat) (v : Value) (l u : Nat) : Array Value := #[.int .i64 (k : Int), v, .int .u8 (l : Int), .int .i64 (u : Int)]
/-- The collector at p of groups of k bits has t bits of N. -/
def isC (w : World) (p k N t base : Nat) : Prop :=
  ∃ v, w.heap[p]? = some (.cells (colC k v (colL k N t) (t % k)) 35 (0, 0)) ∧ w.ownsRow base 5 1 v (t / k) (cellsB (colW k N t)) ∧ ∀ j, v.ownBlock = some j → j ≠ p
theorem isC.kept {w w' : World} {p k N t base B : Nat} (h : isC w p k N t base) (hf : Below B w w') (hp : p < B) (hb : ∀ v, w.ownsRow base 5 1 v (t / k) (cellsB (colW k N t)) → ∀ j, v.ownBlock = some j → j < B) : isC w' p k N t base := by
  obtain ⟨v, h1, h2, h3⟩ := h
  refine ⟨v, (hf.block p hp).trans h1, ?_, h3⟩
  refine ⟨h2.1, ?_⟩
  rcases h2.2 with h4 | ⟨g, cap, cur, e, hb', hg, rest⟩
  · exact .inl h4
  · exact .inr ⟨g, cap, cur, e, hb', (hf.block g (hb v h2 g (by rw [e]; rfl))).trans hg, rest⟩
theorem bit_value (c j : Nat) (hc : c < 256) : bits .and .u8 ((c : Int) / 2 ^ j) 1 = ((c / 2 ^ j % 2 : Nat) : Int) := by
  have e : ((c : Int) / 2 ^ j) = ((c / 2 ^ j : Nat) : Int) := by simp
  have h := u8_and_nat (c / 2 ^ j) 1 (Nat.lt_of_le_of_lt (Nat.div_le_self _ _) hc) (by decide)
  rw [e, ← nat_mask1, ← h]
  rfl
theorem shl_value (B U : Nat) (hB : B < 2) (hU : U < 8) : (B : Int) * 2 ^ U % 256 = ((B * 2 ^ U : Nat) : Int) := by
  have h : (2 : Nat) ^ U ≤ 2 ^ 7 := pow_le2 (by omega)
  have h2 : B * 2 ^ U ≤ 1 * 2 ^ U := Nat.mul_le_mul_right _ (by omega)
  have e : (B : Int) * 2 ^ U = ((B * 2 ^ U : Nat) : Int) := by simp
  rw [e]
  omega
theorem or_value (L B U : Nat) (hL : L < 2 ^ U) (hB : B < 2) (hU : U < 8) : bits .or .u8 (L : Int) ((B : Int) * 2 ^ U % 256) = ((L + B * 2 ^ U : Nat) : Int) := by
  have h : (2 : Nat) ^ U ≤ 2 ^ 7 := pow_le2 (by omega)
  have h2 : B * 2 ^ U ≤ 1 * 2 ^ U := Nat.mul_le_mul_right _ (by omega)
  rw [shl_value B U hB hU, u8_or_nat _ _ (by omega) (by omega), Nat.or_comm, nat_join U _ _ (Nat.mul_mod_left _ _) hL, Nat.add_comm]
theorem or_lt (L B U : Nat) (hL : L < 2 ^ U) (hB : B < 2) (hU : U < 8) : L + B * 2 ^ U < 256 := by
  have h : (2 : Nat) ^ U ≤ 2 ^ 7 := pow_le2 (by omega)
  have h2 : B * 2 ^ U ≤ 1 * 2 ^ U := Nat.mul_le_mul_right _ (by omega)
  omega
def PutRel (w : World) (p k N t base : Nat) (c : UInt8) (n : Nat) (s : Value) (wr : World) : Prop :=
  ∃ i : Nat, i ≤ n ∧ s = .int .i64 (i : Int) ∧ isC wr p k (N + c.toNat % 2 ^ i * 2 ^ t) (t + i) base ∧ Below base w wr

set_option maxRecDepth 100000 in
theorem put_any (p k N t base n : Nat) (c : UInt8) (w : World) (h : isC w p k N t base) (hbp : base ≤ p) (hN : N < 2 ^ t) (hk0 : 0 < k) (hk8 : k ≤ 8) (hn : n ≤ 8) (ht : t ≤ 1000000000) :
    Calls Try.prog 15 #[.pointer (some ⟨p, 0, none⟩), .int .u8 (c.toNat : Int), .int .i64 n] w fun e w' => e = .returned (.tuple #[]) ∧ isC w' p k (N + c.toNat % 2 ^ n * 2 ^ t) (t + n) base ∧ Below base w w' := by
  obtain ⟨i, hi, hz0, hz1, hz2⟩ := info_parts infoB
  have hcl := c.toNat_lt
  go_enter Try.func15, Try.ntmps15
  go_wp2_with fail
  go_loopw [8] (PutRel w p k N t base c n) (fun s _ => n - (intOf s).toNat)
  case atStart => exact ⟨0, Nat.zero_le _, rfl, by simpa [Nat.mod_one] using h, Below.refl _ _⟩
  case round =>
    clear h
    obtain ⟨j, hj, rfl, hC, hf⟩ := hrel
    by_cases hjn : j < n
    · have hd : decide (j < n) = true := decide_eq_true hjn
      have hnext := put_next N t c.toNat j
      have hN1 := putN_lt N t c.toNat j hN
      obtain ⟨M, hM⟩ : ∃ M, M = N + c.toNat % 2 ^ j * 2 ^ t := ⟨_, rfl⟩
      obtain ⟨s, hs⟩ : ∃ s, s = t + j := ⟨_, rfl⟩
      rw [← hM, ← hs] at hC hN1 hnext
      have hU := Nat.mod_lt s hk0
      have hL := colL_lt k M s hk0 hN1
      obtain ⟨v, hh, hown, hvp⟩ := hC
      obtain ⟨L, hLL⟩ : ∃ L, L = colL k M s := ⟨_, rfl⟩
      obtain ⟨U, hUU⟩ : ∃ U, U = s % k := ⟨_, rfl⟩
      rw [← hLL, ← hUU] at hh
      rw [← hLL, ← hUU] at hL
      rw [← hUU] at hU
      obtain ⟨B, hBB⟩ : ∃ B, B = c.toNat / 2 ^ j % 2 := ⟨_, rfl⟩
      have hB : B < 2 := by omega
      have hand := bit_value c.toNat j hcl
      rw [← hBB] at hand hnext
      have hor := or_value L B U hL hB (by omega)
      obtain ⟨X, hXX⟩ : ∃ X, X = L + B * 2 ^ U := ⟨_, rfl⟩
      rw [← hXX] at hor
      have HLL := Lib.hid hLL
      have HUU := Lib.hid hUU
      have HXX := Lib.hid hXX
      have HM := Lib.hid hM
      have HS := Lib.hid hs
      have HBB := Lib.hid hBB
      have HN := Lib.hid hnext
      have HL := Lib.hid hL
      clear hLL hUU hXX hM hs hBB hnext hL
      have hc0 : wr.cell? ⟨p, 0, none⟩ = some (.int .i64 (k : Int)) := by rw [cell_of_heap hh]; rfl
      have hc1 : wr.cell? ⟨p, 1, none⟩ = some v := by rw [cell_of_heap hh]; rfl
      have hc2 : wr.cell? ⟨p, 2, none⟩ = some (.int .u8 (L : Int)) := by rw [cell_of_heap hh]; rfl
      have hc3 : wr.cell? ⟨p, 3, none⟩ = some (.int .i64 (U : Int)) := by rw [cell_of_heap hh]; rfl
      have hf0 := free_of_heap hh 0
      have hf1 := free_of_heap hh 1
      have hf2 := free_of_heap hh 2
      have hf3 := free_of_heap hh 3
      go_wp2_with fail
      go_region
      go_wp2_with fail
      have hh2 : ((wr.setCell ⟨p, 2, none⟩ (.int .u8 (X : Int))).setCell ⟨p, 3, none⟩ (.int .i64 ((U : Int) + 1))).drew.heap[p]? = some (.cells (colC k v X (U + 1)) 35 (0, 0)) := by
        have h1 := heap_setCell_same (heap_setCell_same hh (i := 2) (.int .u8 (X : Int))) (i := 3) (.int .i64 ((U : Int) + 1))
        exact h1
      have hfr2 : Fr [p] wr (((wr.setCell ⟨p, 2, none⟩ (.int .u8 (X : Int))).setCell ⟨p, 3, none⟩ (.int .i64 ((U : Int) + 1))).drew) :=
        ((Fr.set0 wr p 2 _).trans (Fr.set0 _ p 3 _) (fun i hi _ => hi) (fun i hi _ => hi)).andDrew
      generalize ((wr.setCell ⟨p, 2, none⟩ (.int .u8 (X : Int))).setCell ⟨p, 3, none⟩ (.int .i64 ((U : Int) + 1))).drew = w2 at hh2 hfr2 ⊢
      have hown2 := owns_kept hown hfr2 (fun j' hj' => by have := hvp j' hj'; simpa using this)
      have hbel2 : Below base w w2 := hf.trans (hfr2.below (Nat.le_trans hbp (Nat.le_of_lt (Array.getElem?_eq_some_iff.1 hh).1)) (by simpa using hbp))
      clear hc0 hc1 hc2 hc3 hf0 hf1 hf2 hf3 hown hfr2 hf hand hor hh
      have hc0 : w2.cell? ⟨p, 0, none⟩ = some (.int .i64 (k : Int)) := by rw [cell_of_heap hh2]; rfl
      have hc3 : w2.cell? ⟨p, 3, none⟩ = some (.int .i64 ((U : Int) + 1)) := by rw [cell_of_heap hh2]; rfl
      have hps : p < w2.heap.size := (Array.getElem?_eq_some_iff.1 hh2).1
      by_cases hfull : U + 1 = k
      · have he : ((U : Int) + 1 == (k : Int)) = true := by rw [beq_iff_eq]; omega
        have HF := Lib.hid (put_full k M s B hk0 hB hN1 (by rw [← HUU.out]; exact hfull))
        have HK := Lib.hid hfull
        have HH2 := Lib.hid hh2
        clear hfull hh2
        go_region
        go_wp2_with fail
        have hwd : w2.drew.heap[p]? = some (.cells (colC k v X (U + 1)) 35 (0, 0)) := HH2.out
        have hownd := owns_kept hown2 (Fr.drew w2) (by simp)
        have hbeld : Below base w w2.drew := hbel2.drew
        have hpsd : p < w2.drew.heap.size := hps
        generalize w2.drew = w3 at hwd hownd hbeld hpsd ⊢
        clear hc0 hc3 he HH2 hown2 hbel2 hps
        have hsk : s / k ≤ s := Nat.div_le_self _ _
        have hs9 : s ≤ 1000000008 := by rw [HS.out]; omega
        have HW := Lib.hid hwd
        have HO := Lib.hid hownd
        have HVP := Lib.hid hvp
        clear hwd hownd hvp
        refine wp_region_Z v.ownBlock.toList 13 [(0, false), (1, false), (2, false), (3, false), (4, false), (5, false), (6, false), (7, false), (8, false), (9, true), (10, true), (11, true), (12, true), (13, true)] 63 rfl (by kernel_rfl) (by kernel_rfl) (by kernel_rfl) (fun c a d v w h => by cases d <;> exact h) (fun w4 hf4 => ?_)
        simp only [List.map_cons, List.map_nil, List.getElem?_toArray, List.getElem?_cons_succ, List.getElem?_cons_zero, Option.getD_some]
        have hpn : p ∉ v.ownBlock.toList := fun hm => HVP.out p (by simpa [Option.mem_toList] using hm) rfl
        have LH : Hid (Later v.ownBlock.toList w4 (fun w' => w'.heap[p]? = some (.cells (colC k v X (U + 1)) 35 (0, 0)))) := Lib.hid (fun w' hf' => hf'.heap (hf4.heap HW.out (by simp)) hpn)
        repeat (apply walkZ_t; · (intro w' hf'; have c1 : w'.cell? ⟨p, 1, none⟩ = some v := (by rw [cell_of_heap (LH.out w' hf')]; rfl); have c2 : w'.cell? ⟨p, 2, none⟩ = some (.int .u8 (X : Int)) := (by rw [cell_of_heap (LH.out w' hf')]; rfl); go_wp2_with fail; exact ⟨rfl, rfl⟩))
        refine walkZ_x ?_
        go_wp2_with fail
        refine ⟨(Fr.alloc w4 _).mono (by simp), rfl, ?_⟩
        have ho4 := owns_kept HO.out hf4 (by simp)
        have hbs4 : base ≤ w4.heap.size := by have := hf4.size; omega
        refine walkZ_x ?_
        go_wp2_with (at_builtin; refine wpL_append1A rfl (.tmp 47) (.tmp 52) 22 rfl base 5 i (.int .u8 0) 1 Try.underlying22 hi hz0 hz1 hz2 rfl v (s / k) (cellsB (colW k M s)) rfl ho4 (.int .u8 (X : Int)) rfl rfl (by omega) (by simp [maxLen]; omega) hbs4 ?_; intro v' w5 hown5 hf5 hb5)
        obtain ⟨a5, c5, rfl⟩ := owns_slice hown5
        refine ⟨hf5, rfl, ?_⟩
        have hf45 : Fr v.ownBlock.toList w4 w5 := (Fr.alloc w4 _).trans hf5 (by simp) (fun i hi _ => hi)
        have hh5 := LH.out w5 hf45
        have c1 : w5.cell? ⟨p, 1, none⟩ = some v := by rw [cell_of_heap hh5]; rfl
        have f1 := free_of_heap hh5 1
        have f2 := free_of_heap hh5 2
        have f3 := free_of_heap hh5 3
        have c2 : w5.cell? ⟨p, 2, none⟩ = some (.int .u8 (X : Int)) := by rw [cell_of_heap hh5]; rfl
        have c3 : w5.cell? ⟨p, 3, none⟩ = some (.int .i64 ((U : Int) + 1)) := by rw [cell_of_heap hh5]; rfl
        refine walkZ_x ?_
        go_wp2_with fail
        refine ⟨Fr.refl _ _, rfl, ?_⟩
        refine walkZ_x ?_
        go_wp2_with fail
        refine ⟨Fr.refl _ _, rfl, ?_⟩
        refine walkZ_x ?_
        go_wp2_with fail
        refine ⟨rfl, walkZ_end ?_⟩
        go_wp2_with fail
        obtain ⟨e1, e2, e3, e4⟩ := HF.out
        have hX : X < 256 := by rw [HXX.out]; exact or_lt L B U HL.out hB (by omega)
        have hvn : ∀ j', (Value.slice a5 (s / k + 1) c5).ownBlock = some j' → base ≤ j' ∧ j' ≠ p := by
          intro j' hj'
          refine ⟨(hown5.lt j' hj').1, ?_⟩
          rcases hb5 with hb5 | ⟨g, hb5, hge⟩
          · exact HVP.out j' (by rw [← hb5]; exact hj')
          · rw [hb5] at hj'
            obtain rfl := Option.some.inj hj'
            have := hf4.size
            omega
        refine ⟨⟨j + 1, by omega, by go_num, ⟨.slice a5 (s / k + 1) c5, ?_, ?_, fun j' hj' => (hvn j' hj').2⟩, ?_⟩, by simp [intOf]; omega⟩
        · rw [HN.out, show t + (j + 1) = s + 1 from by rw [HS.out]; omega, e2, e4, heap_setCell_same (heap_setCell_same (heap_setCell_same hh5 _) _)]
          rfl
        · rw [HN.out, show t + (j + 1) = s + 1 from by rw [HS.out]; omega, e1, e3, cellsB_append]
          have hfin : Fr [p] w5 (((w5.setCell ⟨p, 1, none⟩ (.slice a5 (s / k + 1) c5)).setCell ⟨p, 2, none⟩ (.int .u8 0)).setCell ⟨p, 3, none⟩ (.int .i64 0)) :=
            ((Fr.set0 w5 p 1 _).trans (Fr.set0 _ p 2 _) (fun i hi _ => hi) (fun i hi _ => hi)).trans (Fr.set0 _ p 3 _) (fun i hi _ => hi) (fun i hi _ => hi)
          have := owns_kept hown5 hfin (fun j' hj' => by simpa using (hvn j' hj').2)
          rw [← HLL.out, ← HUU.out, ← HXX.out]
          have hcell : cellsB [UInt8.ofNat X] = [.int .u8 (X : Int)] := by
            simp only [cellsB, List.map_cons, List.map_nil, UInt8.toNat_ofNat', Nat.mod_eq_of_lt hX]
          rw [hcell]
          exact this
        · have hb45 : Below base w4 w5 := hf45.below hbs4 (fun g hg => (HO.out.lt g (by simpa [Option.mem_toList] using hg)).1)
          have hb34 : Below base w3 w4 := hf4.below (by omega) (by simp)
          exact (((hbeld.trans hb34).trans hb45).setCell hbp _).setCell hbp _ |>.setCell hbp _
      · have he : ((U : Int) + 1 == (k : Int)) = false := by rw [beq_eq_false_iff_ne]; omega
        have HF := Lib.hid (put_on k M s B hk0 (by rw [← HUU.out]; exact hfull))
        have HK := Lib.hid hfull
        clear hfull
        go_region
        go_wp2_with fail
        obtain ⟨e1, e2, e3, e4⟩ := HF.out
        refine ⟨⟨j + 1, by omega, by go_num, ⟨v, ?_, ?_, hvp⟩, hbel2.drew⟩, by simp [intOf]; omega⟩
        · rw [HN.out, show t + (j + 1) = s + 1 from by rw [HS.out]; omega, e2, e4, ← HLL.out, ← HUU.out, ← HXX.out]
          exact hh2
        · rw [HN.out, show t + (j + 1) = s + 1 from by rw [HS.out]; omega, e1, e3]
          exact owns_kept hown2 (Fr.drew w2) (by simp)
    · have hd : decide (j < n) = false := decide_eq_false hjn
      obtain rfl : n = j := by omega
      have HC := Lib.hid hC
      clear hC
      go_wp2_with fail
      go_end0
      exact ⟨rfl, HC.out, hf⟩
end Go.Proofs.Ytjddagkjgkdbkaa
