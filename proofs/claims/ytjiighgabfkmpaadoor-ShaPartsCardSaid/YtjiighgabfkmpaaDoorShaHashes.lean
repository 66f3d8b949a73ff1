/- ShaHashes: the hash of any bytes, in any division into two parts. -/
import Derived.Test.YtjiighgabfkmpaaDoorShaLaw
import Derived.ChangeKeysEq
namespace Go.Proofs.YtjiighgabfkmpaaDoor
open Go.RowKit

/-- A whole row read by an operation whose guard says yes. -/
theorem wpL_load_want {P : Program} {ops : Array Oper} {rest : List Oper} {o : Oper} {a : Act} {w : World} {Q : Exit → Act → World → Prop} (hw : Region.wanted o (yielded ops a.tmps) = true) (ty : TypeId) (x : Operand) (ho : o.op = .load ty x)
    (g : Nat) (hx : a.eval x = .pointer (some ⟨g, 0, none⟩)) (t : TypeId) (cs : Array Value) (fr : Nat × Nat) (d : TypeDesc) (hg : w.heap[g]? = some (.cells cs t fr))
    (hu : P.underlying ty = some d) (hd : (match d with | .struct _ | .array _ _ => true | _ => false) = true) (hi : (P.info? ty).map (·.size) = some cs.size)
    (h : wpList P ops Q rest (a.put o.dst (.agg cs)) w) : wpList P ops Q (o :: rest) a w :=
  BigFrame.wpList_want hw fun _ hK => wp_load_row ty x ho g hx t cs fr d hg hu hd hi (hK _ _ h)
/-- An array of numbers is equal to itself. -/
theorem eqItems_same {P : Program} (d : Nat) (e : TypeId) (kd : IntKind) (xs : Array Value) (he : P.underlying e = some (.int kd)) : ∀ (is : List Nat), (∀ i ∈ is, ∃ a, xs[i]? = some (.int kd a)) → ∀ w, (Op.eqItems (d + 1) e 1 xs xs is).run P w = .ok true w
  | [], _, w => by simp [Op.eqItems]
  | i :: is, h, w => by
    obtain ⟨a, ha⟩ := h i (by simp)
    have ih := eqItems_same d e kd xs he is (fun j hj => h j (by simp [hj])) w
    have hp : (part e xs (i * 1)).run P w = .ok (.int kd a) w := by simp [part, isAgg, run_underlying he, ha]
    simp only [Op.eqItems, Sem.run_bind, hp, Result.andThen_ok, run_equalIn_int w d e kd kd a a he]
    simpa using ih
theorem equal_same {P : Program} (w : World) (t e : TypeId) (n : Nat) (kd : IntKind) (xs : Array Value) (ht : P.underlying t = some (.array n e)) (he : P.underlying e = some (.int kd)) (hi : (P.info? e).map (·.size) = some 1) (hc : P.cellsOf e = 1) (hx : ∀ i, i < n → ∃ a, xs[i]? = some (.int kd a)) :
    (Op.equalIn 10000 t (.agg xs) (.agg xs)).run P w = .ok true w := by
  cases hq : P.info? e with
  | none => simp [hq] at hi
  | some i =>
    rw [show (10000 : Nat) = 9999 + 1 from rfl, run_equalIn_array w 9999 xs xs ht hq, hc]
    exact eqItems_same 9998 e kd xs he (List.range n) (fun j hj => hx j (List.mem_range.1 hj)) w
theorem equal_bytes32 (w : World) (l : List UInt8) (hl : l.length = 32) : (Op.equalIn 10000 24 (.agg (cellsB l).toArray) (.agg (cellsB l).toArray)).run Tryd.prog w = .ok true w :=
  equal_same w 24 5 32 .u8 _ Tryd.underlying24 Tryd.underlying5 size8 (by kernel_rfl) (fun i hi => ⟨_, bytesC_get l i (by omega)⟩)
theorem equal_st (w : World) (s : St) : (Op.equalIn 10000 29 (.agg (stC s)) (.agg (stC s))).run Tryd.prog w = .ok true w :=
  equal_same w 29 28 8 .u32 _ Tryd.underlying29 Tryd.underlying28 size32 (by kernel_rfl) (fun i hi => ⟨_, stC_list s i hi⟩)

set_option maxRecDepth 100000 in
theorem hashes_long (bs : List UInt8) (n : Int) (v0 : Value) (w : World) (h0 : bytesAt w v0 bs) (hr : rootsAt w) (hl : 400 < bs.length) :
    Calls Tryd.prog 3 #[v0, .int .i64 n] w fun e w' => e = .returned (.bool true) ∧ Fr [] w w' := by
  obtain ⟨a0, c0, rfl, hle, hmx⟩ := h0.form
  have hd : decide (400 < (bs.length : Int)) = true := decide_eq_true (by omega)
  go_enter Tryd.func3, Tryd.ntmps3
  go_wp2_with (go_at_call 6; refine (awake_any _ hr).mono ?_; rintro e w' ⟨rfl, hf⟩)
  go_ret
  exact ⟨rfl, hf⟩

/-- What is known ahead of the comparisons. -/
structure HashesAt (E : Array Value) (bs : List UInt8) (w : World) (v0 : Value) : Prop where
  ref : ∀ W, Fr [] w W → Calls Tryd.prog 7 #[v0] W fun e w' => e = .returned (.agg E) ∧ Fr [] W w'
  of : ∀ W parts sv, Fr [] w W → partsAt W sv parts → parts.flatten = bs → Calls Tryd.prog 8 #[sv] W fun e w' => e = .returned (.agg E) ∧ Fr [] W w'
  awake : ∀ W, Fr [] w W → Calls Tryd.prog 6 #[] W fun e w' => e = .returned (.bool true) ∧ Fr [] W w'
  by0 : ∀ W, Fr [] w W → bytesAt W v0 bs
  size : (Tryd.prog.info? 24).map (·.size) = some E.size
  one : E.all (·.oneCell') = true
theorem hashes_at (bs : List UInt8) (v0 : Value) (w : World) (h0 : bytesAt w v0 bs) (hr : rootsAt w) (hl : bs.length ≤ 400) : HashesAt (cellsB (hashN bs)).toArray bs w v0 where
  ref := fun W hW => ref_hash_any bs v0 W (h0.below hW) (by omega)
  of := fun W parts sv hW hp he => by
    have h := of_any parts sv W hp (hr.below hW) (by rw [he]; omega)
    rwa [he] at h
  awake := fun W hW => awake_any W (hr.below hW)
  by0 := fun W hW => h0.below hW
  size := by rw [bytesC_size, hashN_length]; exact sizeB32
  one := bytesC_one _

set_option maxRecDepth 100000 in
theorem hashes_cut (bs : List UInt8) (c : Nat) (v0 : Value) (w : World) (h0 : bytesAt w v0 bs) (hr : rootsAt w) (hl : bs.length ≤ 400) (hc : c ≤ bs.length) :
    Calls Tryd.prog 3 #[v0, .int .i64 c] w fun e w' => e = .returned (.bool true) ∧ Fr [] w w' := by
  have hH := hashes_at bs v0 w h0 hr hl
  have heq := fun wx => equal_bytes32 wx (hashN bs) (hashN_length bs)
  obtain ⟨Z, hZ⟩ : ∃ Z, Z = (cellsB (List.replicate 32 0)).toArray := ⟨_, rfl⟩
  have hiz := infoB32
  have hzs : Z.size = (cellsB (hashN bs)).toArray.size := by rw [hZ]; simp [cellsB, hashN_length]
  rw [← hZ] at hiz
  obtain ⟨E, hE⟩ : ∃ E, E = (cellsB (hashN bs)).toArray := ⟨_, rfl⟩
  rw [← hE] at hH heq hzs
  obtain ⟨a0, c0, rfl, hle, hmx⟩ := h0.form
  have HH := Lib.hid hH
  have HI := Lib.hid hiz
  have HZS := Lib.hid hzs
  clear hZ hiz hzs hE hH h0 hr
  have hd : decide (400 < (bs.length : Int)) = false := decide_eq_false (by omega)
  have hd1 : decide ((c : Int) < 0) = false := decide_eq_false (by omega)
  have hd2 : decide (bs.length < c) = false := decide_eq_false (by omega)
  go_enter Tryd.func3, Tryd.ntmps3
  go_wp2_with (first
    | (go_at_call 7; refine (HH.out.ref w (Fr.refl _ _)).mono ?_; rintro e w1 ⟨rfl, hf1⟩)
    | (refine wpL_newArr rfl 24 rfl Z HI.out ?_; intro w2 hh2 hf2 hs2; refine wpL_storeArr rfl 24 (.tmp 5) (.tmp 11) rfl w1.heap.size E Z rfl rfl 24 hh2.out HH.out.size HZS.out HH.out.one ?_; intro w3 hh3 hf3 hs3))
  have hf03 : Fr [] w w3 := (hf1.trans hf2 (by simp) (n := []) (by simp)).trans hf3 (by simp) (by simp; have := hf1.size; omega)
  obtain ⟨g, hg⟩ : ∃ g, g = w1.heap.size := ⟨_, rfl⟩
  have hhg := hh3.out
  rw [← hg] at hhg ⊢
  have HG := Lib.hid hhg
  clear hg hhg hh2 hh3 hf1 hf2 hf3 hs2 hs3
  refine wp_region_G [] [(0, false), (3, false), (1, true), (2, true), (4, false)] 46 rfl (by kernel_rfl) (by kernel_rfl) (by kernel_rfl) (fun c a d v w h => by cases d <;> exact h) (fun w4 hf4 => ?_)
  simp only [List.map_cons, List.map_nil, List.getElem?_toArray, List.getElem?_cons_succ, List.getElem?_cons_zero, Option.getD_some]
  have LG : Hid (Later [] w4 (fun w' => w'.heap[g]? = some (.cells E 24 (0, 0)))) := Lib.hid (fun w' hf' => hf'.heap (hf4.heap HG.out (by simp)) (by simp))
  repeat (apply wpG_t; · (intro w' hf'; first
    | (refine wpList_load_row rfl 24 _ rfl g rfl 24 E (0, 0) _ (LG.out w' hf') Tryd.underlying24 rfl HH.out.size ?_; exact ⟨rfl, rfl⟩)
    | (go_wp2_with fail; exact ⟨rfl, rfl⟩)))
  refine wpG_x ?_
  go_wp2_with fail
  refine ⟨Fr.alloc _ _, rfl, ?_⟩
  refine wpG_x ?_
  have hp := partsAt_new1 w4 _ bs 22 (HH.out.by0 w4 (hf03.trans hf4 (by simp) (by simp)))
  have HO := Lib.hid (HH.out.of _ [bs] _ ((hf03.trans hf4 (by simp) (n := []) (by simp)).trans (Fr.alloc _ _) (by simp) (by simp)) hp (by simp))
  go_wp2_with (go_at_call 8; refine HO.out.mono ?_; rintro e w5 ⟨rfl, hf5⟩)
  refine ⟨hf5, rfl, ?_⟩
  repeat (apply wpG_t; · (intro w' hf'; go_wp2_with fail; exact ⟨rfl, rfl⟩))
  refine wpG_end ?_
  have hf05 : Fr [] w w5 := ((hf03.trans hf4 (by simp) (n := []) (by simp)).trans (Fr.alloc _ _) (by simp) (n := []) (by simp)).trans hf5 (by simp) (by simp)
  have HG5 := Lib.hid (hf5.heap ((Fr.alloc w4 _).heap (LG.out w4 (Fr.refl _ _)) (by simp)) (by simp))
  clear hf03 hf4 LG HG HO hp
  obtain ⟨A1, hA1⟩ : ∃ A1, (if c0 = c then a0 else a0.map fun x => x.add c) = A1 := ⟨_, rfl⟩
  have HA1 := Lib.hid hA1
  go_wp2_with fail
  refine wp_region_G [] [(0, false), (1, false), (2, false), (3, false), (4, false), (5, false), (8, false), (6, true), (7, true), (9, false), (10, false), (11, false), (14, false), (12, true), (13, true), (15, false), (16, false), (17, false), (18, true), (19, false), (20, false)] 46 rfl (by kernel_rfl) (by kernel_rfl) (by kernel_rfl) (fun c a d v w h => by cases d <;> exact h) (fun w6 hf6 => ?_)
  simp only [List.map_cons, List.map_nil, List.getElem?_toArray, List.getElem?_cons_succ, List.getElem?_cons_zero, Option.getD_some]
  have LG6 : Hid (Later [] w6 (fun w' => w'.heap[g]? = some (.cells E 24 (0, 0)))) := Lib.hid (fun w' hf' => hf'.heap (hf6.heap HG5.out (by simp)) (by simp))
  have hf06 : Fr [] w w6 := hf05.trans hf6 (by simp) (by simp)
  repeat (apply wpG_t; · (intro w' hf'; first
    | (refine wpList_load_row rfl 24 _ rfl g rfl 24 E (0, 0) _ (LG6.out w' hf') Tryd.underlying24 rfl HH.out.size ?_; exact ⟨rfl, rfl⟩)
    | (go_wp2_with fail; exact ⟨rfl, rfl⟩)))
  refine wpG_x ?_
  go_wp2_with fail
  refine ⟨Fr.alloc _ _, rfl, ?_⟩
  refine wpG_x ?_
  have hb6 := HH.out.by0 w6 hf06
  have hp2 := partsAt_new2 w6 _ _ (bs.take c) (bs.drop c) 22 (hb6.take hc) (rest_bytes HA1.out hc hb6)
  have HO2 := Lib.hid (HH.out.of _ _ _ (hf06.trans (Fr.alloc _ _) (by simp) (by simp)) hp2 (by simp))
  go_wp2_with (go_at_call 8; refine HO2.out.mono ?_; rintro e w7 ⟨rfl, hf7⟩)
  have hf67 : Fr [] w6 w7 := (Fr.alloc _ _).trans hf7 (by simp) (by simp)
  have LG7 := Lib.hid (LG6.out.next hf67)
  refine ⟨hf7, rfl, ?_⟩
  repeat (apply wpG_t; · (intro w' hf'; first
    | (refine wpList_load_row rfl 24 _ rfl g rfl 24 E (0, 0) _ (LG7.out w' hf') Tryd.underlying24 rfl HH.out.size ?_; exact ⟨rfl, rfl⟩)
    | (refine wpL_load_want rfl 24 _ rfl g rfl 24 E (0, 0) _ (LG7.out w' hf') Tryd.underlying24 rfl HH.out.size ?_; exact ⟨rfl, rfl⟩)
    | (go_wp2_with fail; exact ⟨rfl, rfl⟩)))
  refine wpG_x ?_
  go_wp2_with fail
  refine ⟨Fr.alloc _ _, rfl, ?_⟩
  refine wpG_x ?_
  have hf07 : Fr [] w w7 := hf06.trans hf67 (by simp) (by simp)
  have hp3 := partsAt_new2 w7 _ _ [] bs 22 (bytesAt.nil w7) (HH.out.by0 w7 hf07)
  have HO3 := Lib.hid (HH.out.of _ _ _ (hf07.trans (Fr.alloc _ _) (by simp) (by simp)) hp3 (by simp))
  go_wp2_with (go_at_call 8; refine HO3.out.mono ?_; rintro e w8 ⟨rfl, hf8⟩)
  have hf78 : Fr [] w7 w8 := (Fr.alloc _ _).trans hf8 (by simp) (by simp)
  refine ⟨hf8, rfl, ?_⟩
  repeat (apply wpG_t; · (intro w' hf'; go_wp2_with fail; exact ⟨rfl, rfl⟩))
  refine wpG_x ?_
  have hf08 : Fr [] w w8 := hf07.trans hf78 (by simp) (by simp)
  have HW := Lib.hid (HH.out.awake w8 hf08)
  go_wp2_with (go_at_call 6; refine HW.out.mono ?_; rintro e w9 ⟨rfl, hf9⟩)
  refine ⟨hf9, rfl, ?_⟩
  repeat (apply wpG_t; · (intro w' hf'; go_wp2_with fail; exact ⟨rfl, rfl⟩))
  refine wpG_end ?_
  go_wp2_with fail
  go_ret
  exact ⟨rfl, hf08.trans hf9 (by simp) (by simp)⟩

set_option maxRecDepth 100000 in
theorem hashes_less (bs : List UInt8) (c : Int) (v0 : Value) (w : World) (h0 : bytesAt w v0 bs) (hr : rootsAt w) (hl : bs.length ≤ 400) (hc : c < 0) :
    Calls Tryd.prog 3 #[v0, .int .i64 c] w fun e w' => e = .returned (.bool true) ∧ Fr [] w w' := by
  have hH := hashes_at bs v0 w h0 hr hl
  have heq := fun wx => equal_bytes32 wx (hashN bs) (hashN_length bs)
  obtain ⟨Z, hZ⟩ : ∃ Z, Z = (cellsB (List.replicate 32 0)).toArray := ⟨_, rfl⟩
  have hiz := infoB32
  have hzs : Z.size = (cellsB (hashN bs)).toArray.size := by rw [hZ]; simp [cellsB, hashN_length]
  rw [← hZ] at hiz
  obtain ⟨E, hE⟩ : ∃ E, E = (cellsB (hashN bs)).toArray := ⟨_, rfl⟩
  rw [← hE] at hH heq hzs
  obtain ⟨a0, c0, rfl, hle, hmx⟩ := h0.form
  have HH := Lib.hid hH
  have HI := Lib.hid hiz
  have HZS := Lib.hid hzs
  clear hZ hiz hzs hE hH h0 hr
  have hd : decide (400 < (bs.length : Int)) = false := decide_eq_false (by omega)
  have hd1 : decide (c < 0) = true := decide_eq_true hc
  go_enter Tryd.func3, Tryd.ntmps3
  go_wp2_with (first
    | (go_at_call 7; refine (HH.out.ref w (Fr.refl _ _)).mono ?_; rintro e w1 ⟨rfl, hf1⟩)
    | (refine wpL_newArr rfl 24 rfl Z HI.out ?_; intro w2 hh2 hf2 hs2; refine wpL_storeArr rfl 24 (.tmp 5) (.tmp 11) rfl w1.heap.size E Z rfl rfl 24 hh2.out HH.out.size HZS.out HH.out.one ?_; intro w3 hh3 hf3 hs3))
  have hf03 : Fr [] w w3 := (hf1.trans hf2 (by simp) (n := []) (by simp)).trans hf3 (by simp) (by simp; have := hf1.size; omega)
  obtain ⟨g, hg⟩ : ∃ g, g = w1.heap.size := ⟨_, rfl⟩
  have hhg := hh3.out
  rw [← hg] at hhg ⊢
  have HG := Lib.hid hhg
  clear hg hhg hh2 hh3 hf1 hf2 hf3 hs2 hs3
  refine wp_region_G [] [(0, false), (3, false), (1, true), (2, true), (4, false)] 46 rfl (by kernel_rfl) (by kernel_rfl) (by kernel_rfl) (fun c a d v w h => by cases d <;> exact h) (fun w4 hf4 => ?_)
  simp only [List.map_cons, List.map_nil, List.getElem?_toArray, List.getElem?_cons_succ, List.getElem?_cons_zero, Option.getD_some]
  have LG : Hid (Later [] w4 (fun w' => w'.heap[g]? = some (.cells E 24 (0, 0)))) := Lib.hid (fun w' hf' => hf'.heap (hf4.heap HG.out (by simp)) (by simp))
  repeat (apply wpG_t; · (intro w' hf'; first
    | (refine wpList_load_row rfl 24 _ rfl g rfl 24 E (0, 0) _ (LG.out w' hf') Tryd.underlying24 rfl HH.out.size ?_; exact ⟨rfl, rfl⟩)
    | (go_wp2_with fail; exact ⟨rfl, rfl⟩)))
  refine wpG_x ?_
  go_wp2_with fail
  refine ⟨Fr.alloc _ _, rfl, ?_⟩
  refine wpG_x ?_
  have hp := partsAt_new1 w4 _ bs 22 (HH.out.by0 w4 (hf03.trans hf4 (by simp) (by simp)))
  have HO := Lib.hid (HH.out.of _ [bs] _ ((hf03.trans hf4 (by simp) (n := []) (by simp)).trans (Fr.alloc _ _) (by simp) (by simp)) hp (by simp))
  go_wp2_with (go_at_call 8; refine HO.out.mono ?_; rintro e w5 ⟨rfl, hf5⟩)
  refine ⟨hf5, rfl, ?_⟩
  repeat (apply wpG_t; · (intro w' hf'; go_wp2_with fail; exact ⟨rfl, rfl⟩))
  refine wpG_end ?_
  have hf05 : Fr [] w w5 := ((hf03.trans hf4 (by simp) (n := []) (by simp)).trans (Fr.alloc _ _) (by simp) (n := []) (by simp)).trans hf5 (by simp) (by simp)
  have HG5 := Lib.hid (hf5.heap ((Fr.alloc w4 _).heap (LG.out w4 (Fr.refl _ _)) (by simp)) (by simp))
  clear hf03 hf4 LG HG HO hp
  have HW := Lib.hid (HH.out.awake w5 hf05)
  go_wp2_with (go_at_call 6; refine HW.out.mono ?_; rintro e w6 ⟨rfl, hf6⟩)
  go_ret
  exact ⟨rfl, hf05.trans hf6 (by simp) (by simp)⟩

set_option maxRecDepth 100000 in
theorem hashes_more (bs : List UInt8) (c : Int) (v0 : Value) (w : World) (h0 : bytesAt w v0 bs) (hr : rootsAt w) (hl : bs.length ≤ 400) (hc : (bs.length : Int) < c) :
    Calls Tryd.prog 3 #[v0, .int .i64 c] w fun e w' => e = .returned (.bool true) ∧ Fr [] w w' := by
  have hH := hashes_at bs v0 w h0 hr hl
  have heq := fun wx => equal_bytes32 wx (hashN bs) (hashN_length bs)
  obtain ⟨Z, hZ⟩ : ∃ Z, Z = (cellsB (List.replicate 32 0)).toArray := ⟨_, rfl⟩
  have hiz := infoB32
  have hzs : Z.size = (cellsB (hashN bs)).toArray.size := by rw [hZ]; simp [cellsB, hashN_length]
  rw [← hZ] at hiz
  obtain ⟨E, hE⟩ : ∃ E, E = (cellsB (hashN bs)).toArray := ⟨_, rfl⟩
  rw [← hE] at hH heq hzs
  obtain ⟨a0, c0, rfl, hle, hmx⟩ := h0.form
  have HH := Lib.hid hH
  have HI := Lib.hid hiz
  have HZS := Lib.hid hzs
  clear hZ hiz hzs hE hH h0 hr
  have hd : decide (400 < (bs.length : Int)) = false := decide_eq_false (by omega)
  have hd1 : decide (c < 0) = false := decide_eq_false (by omega)
  have hd2 : decide ((bs.length : Int) < c) = true := decide_eq_true hc
  go_enter Tryd.func3, Tryd.ntmps3
  go_wp2_with (first
    | (go_at_call 7; refine (HH.out.ref w (Fr.refl _ _)).mono ?_; rintro e w1 ⟨rfl, hf1⟩)
    | (refine wpL_newArr rfl 24 rfl Z HI.out ?_; intro w2 hh2 hf2 hs2; refine wpL_storeArr rfl 24 (.tmp 5) (.tmp 11) rfl w1.heap.size E Z rfl rfl 24 hh2.out HH.out.size HZS.out HH.out.one ?_; intro w3 hh3 hf3 hs3))
  have hf03 : Fr [] w w3 := (hf1.trans hf2 (by simp) (n := []) (by simp)).trans hf3 (by simp) (by simp; have := hf1.size; omega)
  obtain ⟨g, hg⟩ : ∃ g, g = w1.heap.size := ⟨_, rfl⟩
  have hhg := hh3.out
  rw [← hg] at hhg ⊢
  have HG := Lib.hid hhg
  clear hg hhg hh2 hh3 hf1 hf2 hf3 hs2 hs3
  refine wp_region_G [] [(0, false), (3, false), (1, true), (2, true), (4, false)] 46 rfl (by kernel_rfl) (by kernel_rfl) (by kernel_rfl) (fun c a d v w h => by cases d <;> exact h) (fun w4 hf4 => ?_)
  simp only [List.map_cons, List.map_nil, List.getElem?_toArray, List.getElem?_cons_succ, List.getElem?_cons_zero, Option.getD_some]
  have LG : Hid (Later [] w4 (fun w' => w'.heap[g]? = some (.cells E 24 (0, 0)))) := Lib.hid (fun w' hf' => hf'.heap (hf4.heap HG.out (by simp)) (by simp))
  repeat (apply wpG_t; · (intro w' hf'; first
    | (refine wpList_load_row rfl 24 _ rfl g rfl 24 E (0, 0) _ (LG.out w' hf') Tryd.underlying24 rfl HH.out.size ?_; exact ⟨rfl, rfl⟩)
    | (go_wp2_with fail; exact ⟨rfl, rfl⟩)))
  refine wpG_x ?_
  go_wp2_with fail
  refine ⟨Fr.alloc _ _, rfl, ?_⟩
  refine wpG_x ?_
  have hp := partsAt_new1 w4 _ bs 22 (HH.out.by0 w4 (hf03.trans hf4 (by simp) (by simp)))
  have HO := Lib.hid (HH.out.of _ [bs] _ ((hf03.trans hf4 (by simp) (n := []) (by simp)).trans (Fr.alloc _ _) (by simp) (by simp)) hp (by simp))
  go_wp2_with (go_at_call 8; refine HO.out.mono ?_; rintro e w5 ⟨rfl, hf5⟩)
  refine ⟨hf5, rfl, ?_⟩
  repeat (apply wpG_t; · (intro w' hf'; go_wp2_with fail; exact ⟨rfl, rfl⟩))
  refine wpG_end ?_
  have hf05 : Fr [] w w5 := ((hf03.trans hf4 (by simp) (n := []) (by simp)).trans (Fr.alloc _ _) (by simp) (n := []) (by simp)).trans hf5 (by simp) (by simp)
  have HG5 := Lib.hid (hf5.heap ((Fr.alloc w4 _).heap (LG.out w4 (Fr.refl _ _)) (by simp)) (by simp))
  clear hf03 hf4 LG HG HO hp
  have HW := Lib.hid (HH.out.awake w5 hf05)
  go_wp2_with (go_at_call 6; refine HW.out.mono ?_; rintro e w6 ⟨rfl, hf6⟩)
  go_ret
  exact ⟨rfl, hf05.trans hf6 (by simp) (by simp)⟩

theorem hashes_any (bs : List UInt8) (n : Int) (v0 : Value) (w : World) (h0 : bytesAt w v0 bs) (hr : rootsAt w) :
    Calls Tryd.prog 3 #[v0, .int .i64 n] w fun e w' => e = .returned (.bool true) ∧ Fr [] w w' := by
  by_cases hl : 400 < bs.length
  · exact hashes_long bs n v0 w h0 hr hl
  · by_cases h1 : n < 0
    · exact hashes_less bs n v0 w h0 hr (by omega) h1
    · by_cases h2 : (bs.length : Int) < n
      · exact hashes_more bs n v0 w h0 hr (by omega) h2
      · obtain ⟨c, rfl⟩ := Int.eq_ofNat_of_zero_le (show 0 ≤ n by omega)
        exact hashes_cut bs c v0 w h0 hr (by omega) (by omega)
end Go.Proofs.YtjiighgabfkmpaaDoor
