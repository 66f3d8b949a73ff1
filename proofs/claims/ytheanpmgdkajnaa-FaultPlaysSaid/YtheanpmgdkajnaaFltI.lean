/- Package fault: Arm. -/
import Derived.Test.YtheanpmgdkajnaaFltH
import Derived.Test.YtheanpmgdkajnaaRegionN
namespace Go.Proofs.Ytheanpmgdkajnaa
open Go.RowKit

/-- 'append(s, x)', x a struct: one element of several cells onto a row that may be written, the frame from behind the element's own row. -/
theorem wpL_appendS {P : Program} {w : World} {ops : Array Oper} {rest : List Oper} {o : Oper} {a : Act} {Q : Exit → Act → World → Prop} (hgd : o.guard = none) (s x : Operand) (t : TypeId)
    (ho : o.op = .call { callee := .builtin .append, args := #[s, x], argTypes := #[t, t] }) (base : Nat) (e : TypeId) (i : TypeInfo) (z : Value) (sz bytes : Nat) (ht : P.underlying t = some (.slice e)) (hi : P.info? e = some i) (hz : i.zero = some z) (h4 : i.size = sz) (h5 : i.bytes = bytes) (hzc : z.cells.size = sz) (hsz : 0 < sz)
    (v : Value) (n : Nat) (xs : List Value) (hs : a.eval s = v) (hown : w.ownsRow base e sz v n xs) (us : List Value) (hl : us.length = sz) (hu : ∀ u ∈ us, u.oneCell' = true) (hx : a.eval x = .slice (some ⟨w.heap.size, 0, none⟩) 1 1) (hsum : (n + 1) * bytes ≤ 140737488355328) (hm : n + 1 ≤ maxLen) (hbase : base ≤ w.heap.size)
    (h : ∀ v' w', w'.ownsRow base e sz v' (n + 1) (xs ++ us) → Fr v.ownBlock.toList (w.alloc (.cells us.toArray e)) w' → (v'.ownBlock = v.ownBlock ∨ ∃ k, v'.ownBlock = some k ∧ w.heap.size ≤ k) → wpList P ops Q rest (a.put o.dst v') w') : wpList P ops Q (o :: rest) a (w.alloc (.cells us.toArray e)) := by
  refine wpList_append_own_at _ hgd s x t ho base e i z sz bytes ht hi hz h4 h5 hzc hsz v n xs hs (owns_kept hown (Fr.alloc _ _) (by simp)) ⟨w.heap.size, 0, none⟩ 1 1 us hx (by omega) ?_ hu hm hsum (by simp; omega) ?_
  · intro j y hj
    have hadd : (⟨w.heap.size, 0, none⟩ : Addr).add j = ⟨w.heap.size, j, none⟩ := by unfold Addr.add; split <;> simp_all
    rw [hadd, cell_of_heap (heap_alloc_new w _)]
    simpa using hj
  · intro v' w' h1 h2 _ h3
    refine h v' w' h1 (Fr.of_grown h2) ?_
    rcases h3 with h3 | h3
    · exact .inl h3
    · exact .inr ⟨_, h3, by simp⟩
def ArmRel (w : World) (p : Nat) (B : List Nat) (n : Int) (dn : Bool) (l fl : List FltD) (iv : Value) (wx : World) : Prop :=
  ∃ (k : Nat) (B' : List Nat), k ≤ fl.length ∧ iv = .int .i64 (k : Int) ∧ isM wx p B' n dn (l ++ armF (fl.take k) n) ∧ Fr B w wx ∧ ∀ j ∈ B', j ∈ B ∨ w.heap.size ≤ j
set_option maxRecDepth 100000 in
set_option maxHeartbeats 1000000 in
theorem arm_any (p : Nat) (B : List Nat) (n : Int) (dn : Bool) (l fl : List FltD) (lv : Value) (w : World) (h : isM w p B n dn l) (hfl : faultsAt w lv fl) (hn : 0 ≤ n ∧ n < 1000000) (hlen : l.length + fl.length ≤ 1000000)
    (hap : ∀ k, lv.ownBlock = some k → fl ≠ [] → k ∉ B) :
    Calls Try.prog 8 #[.pointer (some ⟨p, 0, none⟩), lv] w fun e w' => e = .returned (.int .i64 ((armF fl n).length : Nat)) ∧ TurnedM p B n dn (l ++ armF fl n) w w' := by
  obtain ⟨ti, hti, hz0, hz1, hz2⟩ := info_parts infoF
  obtain ⟨hn0, hn1⟩ := hn
  obtain ⟨a1, c1, rfl, hle, hmx⟩ := hfl.form
  have hm' : c1 ≤ 9223372036854775807 := by simpa [maxLen] using hmx
  have HFL := Lib.hid hfl
  have HAP := Lib.hid hap
  have HM := Lib.hid h
  obtain ⟨v, hB, hp, ho⟩ := h
  obtain ⟨a0, c0, rfl, -, -⟩ := owns_slice ho
  obtain ⟨x0, x1, x2, -, -, -⟩ := three_of_heap hp
  obtain ⟨L0, hL0⟩ : ∃ L0, L0 = l.length := ⟨_, rfl⟩
  rw [← hL0] at x2
  have HL0 := Lib.hid hL0
  rw [← hL0] at hlen
  have HB := Lib.hid hB
  clear hfl hap hp ho hL0 hmx hB
  go_enter Try.func8, Try.ntmps8
  go_wp2_with fail
  clear x0 x1 x2
  go_loopw [17] (ArmRel w p B n dn l fl) (fun iv _ => fl.length - (intOf iv).toNat)
  case atStart => exact ⟨0, B, Nat.zero_le _, rfl, by simpa [armF] using HM.out, Fr.refl _ _, fun j hj => .inl hj⟩
  case round =>
    obtain ⟨k, B', hk, rfl, hM, hf, hB'⟩ := hrel
    by_cases hkn : k < fl.length
    · have hd2 : decide (k < fl.length) = true := decide_eq_true hkn
      have hflr := HFL.out.kept hf (fun j hj hne _ => HAP.out j hj hne)
      obtain ⟨b, off, rfl, -, -, hc0, hc1⟩ := hflr.get k hkn
      have htk := armF_take fl n k hkn
      have hpo := fun wx => possible_any (fl[k]'hkn) wx
      obtain ⟨f, hfe⟩ : ∃ f, f = fl[k]'hkn := ⟨_, rfl⟩
      rw [← hfe] at hc0 hc1 htk hpo
      unfold FltD.val at hpo
      have hfa := Fr.alloc wr (.cells #[.int .i64 f.at_, .int .i64 f.kind] 31)
      have hba := heap_alloc_new wr (.cells #[.int .i64 f.at_, .int .i64 f.kind] 31)
      have HFA := Lib.hid hfa
      have HBA := Lib.hid hba
      have HM1 := Lib.hid hM
      have HF := Lib.hid hf
      have HB1 := Lib.hid hB'
      have HTK := Lib.hid htk
      clear hfa hba hM hf hB' htk hflr hfe
      by_cases hmy : mayF f = true
      · rw [hmy] at hpo
        have HPO := Lib.hid hpo
        have HMY := Lib.hid hmy
        clear hpo hmy
        go_wp2_with (go_at_call 18; refine (HPO.out _).mono ?_; rintro e w1 ⟨rfl, hf1⟩)
        have hM1 := (HM1.out.below HFA.out).below hf1
        have hb1 := hf1.heap HBA.out (by simp)
        have hlt := HM1.out.lt
        have hw1 := hf1.size
        have hwr := HFA.out.size
        obtain ⟨r, hr⟩ : ∃ r, r = wr.heap.size := ⟨_, rfl⟩
        rw [← hr] at hb1 hlt hwr ⊢
        obtain ⟨v2, hBv, hp1, ho1⟩ := hM1
        obtain ⟨a2, c2, rfl, hlc2, hcm2⟩ := owns_slice ho1
        have hmb : (l ++ armF (fl.take k) n).length ≤ 1000000 := by
          have h1 := armF_le (fl.take k) n
          have h2 := HL0.out
          rw [List.length_take] at h1
          rw [List.length_append, ← h2]
          omega
        obtain ⟨X, hX⟩ : ∃ X, X = l ++ armF (fl.take k) n := ⟨_, rfl⟩
        rw [← hX] at hp1 ho1 hlc2 hmb hBv
        obtain ⟨m, hm⟩ : ∃ m, m = X.length := ⟨_, rfl⟩
        rw [← hm] at hp1 ho1 hlc2 hmb hBv
        have HX := Lib.hid hX
        have HLN := Lib.hid hm
        have hpr : p < r := hlt p (by rw [hBv]; simp)
        have hnp := row_not_meter hp1 ho1
        have hor : ∀ j, (Value.slice a2 m c2).ownBlock = some j → j < r := fun j hj => hlt j (by rw [hBv]; simp [hj])
        have HBV := Lib.hid hBv
        have HOR := Lib.hid hor
        have HNP := Lib.hid hnp
        have HR := Lib.hid hr
        have HF1 := Lib.hid hf1
        have hrw : r < w1.heap.size := (Array.getElem?_eq_some_iff.1 hb1).1
        have hat := (mayF_iff f).1 HMY.out
        obtain ⟨-, -, hat1, hat2⟩ := hat
        clear hX hm hBv hr hlt hor hnp hf1
        refine wp_region_Z (Value.slice a2 m c2).ownBlock.toList 19 [(0, false), (1, false), (2, false), (3, false), (4, false), (5, false), (6, false), (7, false), (8, false), (9, false), (10, false), (11, false), (12, false), (13, false), (14, false), (15, true), (16, true), (17, true), (18, true), (19, true)] 50 rfl (by kernel_rfl) (by kernel_rfl) (by kernel_rfl) (fun c a d v w h => by cases d <;> exact h) (fun w4 hf4 => ?_)
        simp only [List.map_cons, List.map_nil, List.getElem?_toArray, List.getElem?_cons_succ, List.getElem?_cons_zero, Option.getD_some]
        have hp4 := hf4.heap hp1 (by simp)
        have hb4 := hf4.heap hb1 (by simp)
        have LB4 : Hid (Later (Value.slice a2 m c2).ownBlock.toList w4 (fun w' => w'.heap[r]? = some (.cells #[.int .i64 f.at_, .int .i64 f.kind] 31 (0, 0)))) := Lib.hid (fun w' hf' => hf'.heap hb4 (fun hm => by have h1 := HOR.out r (Option.mem_toList.1 hm); omega))
        have LP4 : Hid (Later (Value.slice a2 m c2).ownBlock.toList w4 (fun w' => w'.heap[p]? = some (.cells #[.int .i64 n, .bool dn, .slice a2 m c2] 39 (0, 0)))) := Lib.hid (fun w' hf' => hf'.heap hp4 (fun hm => HNP.out p (Option.mem_toList.1 hm) rfl))
        have hrow4 := owns_kept ho1 hf4 (by simp)
        have HR4 := Lib.hid hrow4
        have HF4 := Lib.hid hf4
        have hrw4 : r < w4.heap.size := by have := hf4.size; omega
        clear hp1 hb1 ho1 hp4 hb4 hrow4 hf4
        repeat (apply walkZ_t; · (intro w' hf'; obtain ⟨y0, y1, y2, -, -, -⟩ := three_of_heap (LP4.out w' hf'); obtain ⟨d0, d1⟩ := two_of_heap (LB4.out w' hf'); go_wp2_with fail; exact ⟨rfl, rfl⟩))
        refine walkZ_x ?_
        go_wp2_with fail
        have hfe := Fr.alloc w4 (.cells #[.int .i64 (n + f.at_), .int .i64 f.kind] 31)
        refine ⟨hfe.mono (by simp), rfl, ?_⟩
        refine walkZ_x ?_
        go_wp2_with (at_builtin; refine wpL_appendS rfl (.tmp 27) (.tmp 38) 26 rfl 0 31 ti _ 2 16 Try.underlying26 hti hz0 hz1 hz2 (by rfl) (by decide) (.slice a2 m c2) m _ rfl HR4.out [.int .i64 (n + f.at_), .int .i64 f.kind] rfl (by intro u hu; simp at hu; rcases hu with rfl | rfl <;> rfl) rfl (by omega) (by simp [maxLen]; omega) (Nat.zero_le _) ?_; intro v5 w5 hown5 hf5 hb5)
        obtain ⟨a5, c5, rfl, hc5, hm5⟩ := owns_slice hown5
        refine ⟨hf5, rfl, ?_⟩
        have hf45 : Fr (Value.slice a2 m c2).ownBlock.toList w4 w5 := hfe.trans hf5 (by simp) (fun _ hk _ => hk)
        have HF45 := Lib.hid hf45
        have HO5 := Lib.hid hown5
        have HB5 := Lib.hid hb5
        obtain ⟨e0, e1, e2, g0, g1, g2⟩ := three_of_heap (LP4.out w5 hf45)
        clear hf45 hown5 hb5 hf5 hfe
        refine walkZ_x ?_
        go_wp2_with fail
        refine ⟨Fr.refl _ _, rfl, ?_⟩
        refine walkZ_x ?_
        go_wp2_with fail
        refine ⟨Fr.refl _ _, rfl, ?_⟩
        refine walkZ_x ?_
        go_wp2_with fail
        refine ⟨rfl, walkZ_end ?_⟩
        go_wp2_with fail
        have hfs := Fr.set0 w5 p 2 (.slice a5 (m + 1) c5)
        have hpB : p ∈ B' := by rw [HBV.out]; simp
        have hoB : ∀ j, (Value.slice a2 m c2).ownBlock = some j → j ∈ B' := fun j hj => by rw [HBV.out]; simp [hj]
        have hB1 := HB1.out
        have hw4 : w.heap.size ≤ w4.heap.size := by have := HF.out.size; have := HFA.out.size; have := HF1.out.size; have := HF4.out.size; omega
        have hk5 : ∀ j, (Value.slice a5 (m + 1) c5).ownBlock = some j → j ≠ p ∧ (j ∈ B ∨ w.heap.size ≤ j) := by
          intro j hj
          rcases HB5.out with h5 | ⟨j', h5, h6⟩
          · rw [h5] at hj
            exact ⟨HNP.out j hj, hB1 j (hoB j hj)⟩
          · rw [hj] at h5
            have h7 : j = j' := Option.some.inj h5
            subst h7
            exact ⟨by omega, .inr (by omega)⟩
        have hin : ∀ j, j ∈ B' → j < w.heap.size → j ∈ B := fun j hj hlt => (hB1 j hj).elim id (fun h => by omega)
        have hXe : l ++ armF (fl.take (k + 1)) n = X ++ [⟨n + f.at_, f.kind⟩] := by
          rw [HTK.out, if_pos HMY.out, HX.out, List.append_assoc]
        refine ⟨⟨k + 1, p :: (Value.slice a5 (m + 1) c5).ownBlock.toList, by omega, by go_num, ⟨_, rfl, ?_, ?_⟩, ?_, ?_⟩, by simp [intOf]; omega⟩
        · have := heap_setCell_same (i := 2) (LP4.out w5 HF45.out) (.slice a5 (m + 1) c5)
          simpa using this
        · rw [hXe, List.length_append, ← HLN.out, fcells_append]
          exact owns_kept HO5.out hfs (fun j hj => by simpa using (hk5 j hj).1)
        · have h1 : Fr B w w4 := ((HF.out.trans HFA.out (n := B) (fun _ h _ => h) (by simp)).trans HF1.out (n := B) (fun _ h _ => h) (by simp)).trans HF4.out (fun _ h _ => h) (by simp)
          have h2 : Fr B w w5 := h1.trans HF45.out (fun _ h _ => h) (fun j hj hlt => hin j (hoB j (Option.mem_toList.1 hj)) hlt)
          exact h2.trans hfs (fun _ h _ => h) (fun j hj hlt => by obtain rfl : j = p := by simpa using hj
                                                                  exact hin j hpB hlt)
        · intro j hj
          simp only [List.mem_cons, Option.mem_toList] at hj
          rcases hj with rfl | hj
          · exact hB1 _ hpB
          · exact (hk5 j hj).2
      · have hmy' : mayF f = false := by simpa using hmy
        rw [hmy'] at hpo
        have HPO := Lib.hid hpo
        have HMY := Lib.hid hmy'
        clear hpo hmy hmy'
        go_wp2_with (go_at_call 18; refine (HPO.out _).mono ?_; rintro e w1 ⟨rfl, hf1⟩)
        refine ⟨⟨k + 1, B', by omega, by go_num, ?_, (HF.out.trans HFA.out (n := B) (fun _ h _ => h) (by simp)).trans hf1 (fun _ h _ => h) (by simp), HB1.out⟩, by simp [intOf]; omega⟩
        rw [HTK.out, HMY.out]
        exact (HM1.out.below HFA.out).below hf1
    · have hd2 : decide (k < fl.length) = false := decide_eq_false hkn
      obtain rfl : k = fl.length := by omega
      rw [List.take_length] at hM
      have HMM := Lib.hid hM
      obtain ⟨v, hB2, hp, ho⟩ := hM
      obtain ⟨a2, c2, rfl, -, -⟩ := owns_slice ho
      obtain ⟨x0, x1, x2, -, -, -⟩ := three_of_heap hp
      have hll := HL0.out
      rw [List.length_append, ← hll] at x2
      obtain ⟨L1, hL1⟩ : ∃ L1, L1 = (armF fl n).length := ⟨_, rfl⟩
      have hle1 := armF_le fl n
      rw [← hL1] at x2 hle1
      have HL1 := Lib.hid hL1
      have HF := Lib.hid hf
      have HB1 := Lib.hid hB'
      clear hp ho hll hL1 hf hB' hB2
      go_wp2_with fail
      go_ret
      refine ⟨?_, B', HMM.out, HF.out, HB1.out⟩
      have e : (L0 : Int) + (L1 : Int) - (L0 : Int) = (L1 : Int) := by omega
      show Ending.returned (.int .i64 ((L0 : Int) + (L1 : Int) - (L0 : Int))) = _
      rw [e, HL1.out]
end Go.Proofs.Ytheanpmgdkajnaa
