/- OctetReads: what is taken of any bytes. -/
import Derived.Test.YtkckkkcbiakblaaOctLaw
import Derived.Test.YtkckkkcbiakblaaRegion
import Derived.Deep.DeepCutAuto
namespace Go.Proofs.Ytkckkkcbiakblaa
open Go.RowKit

/-- What is taken up: a number or bytes, and how many. -/
def getCells (l : List (Bool × Int)) : List (List Value) := l.map fun p => [.bool p.1, .int .i64 p.2]

theorem reads_big (v0 v1 : Value) (bs : List UInt8) (l : List (Bool × Int)) (w : World) (h0 : bytesAt w v0 bs) (h1 : elemsAt w v1 2 (getCells l)) (hbig : 400 < bs.length ∨ 60 < l.length) :
    Calls Try.prog 4 #[v0, v1] w fun e w' => e = .returned (.bool true) ∧ Fr [] w w' := by
  obtain ⟨a0, c0, rfl, -, -⟩ := h0.form
  obtain ⟨a1, c1, rfl, -, -⟩ := h1.form
  rw [show (getCells l).length = l.length from by simp [getCells]]
  by_cases hb : 400 < bs.length
  · have hb1 : decide (400 < (bs.length : Int)) = true := decide_eq_true (by omega)
    go_enter Try.func4, Try.ntmps4
    go_wp2_with (go_at_call 7; refine (awake_any _).mono ?_; rintro e w' ⟨rfl, hf⟩)
    go_ret
    exact ⟨rfl, hf⟩
  · have hb1 : decide (400 < (bs.length : Int)) = false := decide_eq_false (by omega)
    have hb2 : decide (60 < (l.length : Int)) = true := decide_eq_true (by omega)
    clear hbig
    go_enter Try.func4, Try.ntmps4
    go_wp2_with (go_at_call 7; refine (awake_any _).mono ?_; rintro e w' ⟨rfl, hf⟩)
    go_ret
    exact ⟨rfl, hf⟩

def RdRel (q : Nat) (gq : Option Nat) (bs : List UInt8) (l : List (Bool × Int)) (w1 : World) (s6 s7 s8 : Value) (wr : World) : Prop :=
  ∃ (k pos : Nat) (sp : Bool), k ≤ l.length ∧ pos ≤ bs.length ∧ s6 = .int .i64 (pos : Int) ∧ s7 = .bool sp ∧ s8 = .int .i64 (k : Int) ∧ isR wr q gq (if sp then [] else bs.drop pos) sp ∧ Fr [q] w1 wr

def badB (num : Bool) (n : Int) (left : Nat) : Bool := decide ((num = true ∧ (n < 1 ∨ 8 < n)) ∨ n < 0 ∨ (left : Int) < n)

theorem or_false_both {a b : Bool} (h : false = (a || b)) : a = false ∧ b = false := by cases a <;> cases b <;> simp_all
theorem bad_yes (num : Bool) (n : Int) (left : Nat) : badB num n left = true → (num = true → n < 1 ∨ 8 < n ∨ (left : Int) < n) ∧ (num = false → n < 0 ∨ (left : Int) < n) := by
  intro h
  have h := of_decide_eq_true h
  constructor
  · intro _
    rcases h with ⟨_, h⟩ | h | h <;> omega
  · intro e
    rcases h with ⟨h1, _⟩ | h
    · rw [e] at h1; cases h1
    · exact h
theorem bad_no (num : Bool) (n : Int) (left : Nat) : badB num n left = false → 0 ≤ n ∧ n ≤ left ∧ (num = true → 1 ≤ n ∧ n ≤ 8) := by
  intro h
  have h := of_decide_eq_false h
  exact ⟨Int.not_lt.1 fun q => h (.inr (.inl q)), Int.not_lt.1 fun q => h (.inr (.inr q)), fun e => ⟨Int.not_lt.1 fun q => h (.inl ⟨e, .inl q⟩), Int.not_lt.1 fun q => h (.inl ⟨e, .inr q⟩)⟩⟩

set_option maxRecDepth 100000 in
set_option maxHeartbeats 2000000 in
theorem reads_small (v0 v1 : Value) (bs : List UInt8) (l : List (Bool × Int)) (w : World) (h0 : bytesAt w v0 bs) (h1 : elemsAt w v1 2 (getCells l)) (hs0 : bs.length ≤ 400) (hs1 : l.length ≤ 60) :
    Calls Try.prog 4 #[v0, v1] w fun e w' => e = .returned (.bool true) ∧ Fr [] w w' := by
  have hlt0 := h0.lt
  have hlt1 := h1.lt
  obtain ⟨a0, c0, rfl, -, -⟩ := h0.form
  obtain ⟨a1, c1, rfl, -, -⟩ := h1.form
  have hgl : (getCells l).length = l.length := by simp [getCells]
  rw [hgl] at h1 hlt1 ⊢
  have hb1 : decide (400 < (bs.length : Int)) = false := decide_eq_false (by omega)
  have hb2 : decide (60 < (l.length : Int)) = false := decide_eq_false (by omega)
  go_enter Try.func4, Try.ntmps4
  go_wp2_with (go_at_call 14; refine (read_any _ bs _ h0 (by omega)).mono ?_; rintro e w1 ⟨q, gq, rfl, hr1, hf1, hq1, hgq1⟩)
  go_loopw [6, 7, 8] (RdRel q gq bs l w1) (fun _ _ i _ => l.length - (intOf i).toNat)
  case atStart => exact ⟨0, 0, false, Nat.zero_le _, Nat.zero_le _, rfl, rfl, rfl, hr1, Fr.refl _ _⟩
  case round =>
    obtain ⟨k, pos, sp, hk, hpos, rfl, rfl, rfl, hr, hf⟩ := hrel
    clear hb1 hb2 hr1
    by_cases hkl : k < l.length
    · obtain ⟨num, n, hln⟩ : ∃ num n, l[k]'hkl = (num, n) := ⟨_, _, rfl⟩
      have h1w := (h1.below hf1).kept hf (l := [q]) (fun j hj hne _ => by have := hlt1 hne j hj; simp; omega)
      rcases h1w with ⟨_, _, _, _, e⟩ | ⟨b1, off1, c1', e, hc1, hc2, hb1, hel⟩
      · exact absurd (congrArg List.length e) (by rw [hgl, List.length_nil]; omega)
      · simp only [Value.slice.injEq] at e
        obtain ⟨rfl, -, rfl⟩ := e
        have hkg : k < (getCells l).length := by rw [hgl]; exact hkl
        obtain ⟨-, hcell⟩ := hel k hkg
        have hck : (getCells l)[k]'hkg = [.bool num, .int .i64 n] := by simp [getCells, hln]
        rw [hck] at hcell
        have hcn : wr.cell? ⟨b1, off1 + k * 2, none⟩ = some (.bool num) := hcell 0 _ rfl
        have hci : wr.cell? ⟨b1, off1 + k * 2 + 1, none⟩ = some (.int .i64 n) := hcell 1 _ rfl
        clear hcell hel hck hc1 hc2 hb1
        have hkk : (k : Int) < (l.length : Int) := by omega
        go_upto_region 10 with fail
        obtain ⟨left, hleft⟩ : ∃ left, left = bs.length - pos := ⟨_, rfl⟩
        have HL : Hid ((bs.length : Int) - (pos : Int) = (left : Int)) := Lib.hid (by omega)
        go_cut [60] (fun s60 wx => s60 = .bool (badB num n left) ∧ wr = wx)
        case first =>
          cases num
          · by_cases c3 : n < 0
            · have e : badB false n left = true := decide_eq_true (.inr (.inl c3))
              have d3 : decide (n < 0) = true := decide_eq_true c3
              clear HL hleft
              go_wp2
              go_meet
              exact ⟨by rw [e], rfl⟩
            · have d3 : decide (n < 0) = false := decide_eq_false c3
              have e : badB false n left = decide ((left : Int) < n) := by unfold badB; simp [c3]
              have E := Lib.hid e
              clear hleft e
              go_wp2
              all_goals (go_meet; exact ⟨by rw [E.out, ← HL.out], rfl⟩)
          · by_cases c1 : n < 1
            · have e : badB true n left = true := decide_eq_true (.inl ⟨rfl, .inl c1⟩)
              have d1 : decide (n < 1) = true := decide_eq_true c1
              clear HL hleft
              go_wp2
              go_meet
              exact ⟨by rw [e], rfl⟩
            · by_cases c2 : 8 < n
              · have e : badB true n left = true := decide_eq_true (.inl ⟨rfl, .inr c2⟩)
                have d1 : decide (n < 1) = false := decide_eq_false c1
                have d2 : decide (8 < n) = true := decide_eq_true c2
                clear HL hleft
                go_wp2
                go_meet
                exact ⟨by rw [e], rfl⟩
              · have d1 : decide (n < 1) = false := decide_eq_false c1
                have d2 : decide (8 < n) = false := decide_eq_false c2
                have d3 : decide (n < 0) = false := decide_eq_false (by omega)
                have e : badB true n left = decide ((left : Int) < n) := by unfold badB; simp [c1, c2]; omega
                have E := Lib.hid e
                clear hleft e
                go_wp2
                all_goals (go_meet; exact ⟨by rw [E.out, ← HL.out], rfl⟩)
        case rest =>
          obtain ⟨rfl, rfl⟩ := hcut
          clear HL
          have HBAD := Lib.hid (bad_yes num n left)
          have HGOOD := Lib.hid (bad_no num n left)
          obtain ⟨bad, hbd⟩ : ∃ bad, bad = badB num n left := ⟨_, rfl⟩
          rw [← hbd] at HBAD HGOOD ⊢
          clear hbd
          obtain ⟨sp2, hsp2⟩ : ∃ sp2, sp2 = (sp || bad) := ⟨_, rfl⟩
          have HSP := Lib.hid hsp2
          clear hsp2
          go_upto_if 60 with fail
          go_cut [7] (fun s7 wx => s7 = .bool sp2 ∧ wr = wx)
          case first =>
            cases bad
            · go_wp2
              go_meet
              exact ⟨by rw [HSP.out, Bool.or_false], rfl⟩
            · go_wp2
              go_meet
              exact ⟨by rw [HSP.out, Bool.or_true], rfl⟩
          case rest =>
            obtain ⟨rfl, rfl⟩ := hcut
            cases sp2
            · have hsp : sp = false ∧ bad = false := or_false_both HSP.out
              obtain ⟨rfl, rfl⟩ := hsp
              obtain ⟨hn0, hnl, hn8⟩ := HGOOD.out rfl
              clear HBAD HGOOD HSP
              obtain ⟨m, rfl⟩ := Int.eq_ofNat_of_zero_le hn0
              have hpm : pos + m ≤ bs.length := by omega
              have hcap : bs.length ≤ c0 ∧ c0 ≤ 9223372036854775807 := by
                obtain ⟨_, _, e, h1, h2⟩ := h0.form
                cases e
                exact ⟨h1, by simpa [maxLen] using h2⟩
              have hcap1 := hcap.1
              have hcap2 := hcap.2
              simp only [Bool.false_eq_true, if_false] at hr
              have hbw := (h0.below hf1).kept hf (fun j hj hne _ => by have := hlt0 hne j hj; simp; omega)
              obtain ⟨part, hpart⟩ : ∃ part, part = (bs.drop pos).take m := ⟨_, rfl⟩
              have hpl : part.length = m := by rw [hpart, List.length_take, List.length_drop]; omega
              have hcut := hbw.cut (lo := pos) (hi := pos + m) (by omega) hpm
              have hpe : (bs.take (pos + m)).drop pos = part := by rw [hpart, List.drop_take]; congr 1; omega
              rw [hpe, Nat.mul_one, show pos + m - pos = m from by omega] at hcut
              clear hpe
              have hob : ∀ j, (Value.slice a0 bs.length c0).ownBlock = some j → part ≠ [] → j < w.heap.size := fun j hj hne => hlt0 (fun e => hne (by rw [hpart, e]; simp)) j hj
              have HOB := Lib.hid hob
              have HPT := Lib.hid hpart
              clear hob hpart
              subst hpl
              have hpm2 : (pos : Int) ≤ (pos : Int) + (part.length : Int) := by omega
              have hpm3 : (pos : Int) + (part.length : Int) ≤ (c0 : Int) := by omega
              go_upto_region 15 with fail
              go_cut [10] (fun s10 wx => (bytesAt wr s10 part ∧ ∀ j, s10.ownBlock = some j → part ≠ [] → j < w.heap.size) ∧ wr = wx)
              case first =>
                have HCUT := Lib.hid hcut
                clear hcut hbw
                by_cases hcp : c0 = pos
                · subst hcp
                  obtain rfl : part = [] := List.eq_nil_of_length_eq_zero (by omega)
                  go_wp2
                  go_meet
                  exact ⟨⟨by simpa using HCUT.out, fun j hj => HOB.out j (by cases a0 <;> exact hj)⟩, rfl⟩
                · go_wp2
                  go_meet
                  exact ⟨⟨by simpa [hcp] using HCUT.out, fun j hj => HOB.out j (by rw [ownBlock_map (l' := bs.length) (c' := c0)] at hj; exact hj)⟩, rfl⟩
              case rest =>
              obtain ⟨⟨hpb, hpo⟩, rfl⟩ := hcut
              rename_i v10 _
              have hfrm := hpb.form
              obtain ⟨a10, c10, rfl, -, -⟩ := hfrm
              have hdl : part.length ≤ (bs.drop pos).length := by simp; omega
              have hdd : (bs.drop pos).drop part.length = bs.drop (pos + part.length) := by rw [List.drop_drop]
              have hrl : ((bs.drop (pos + part.length)).length : Int) = (bs.length : Int) - ((pos : Int) + (part.length : Int)) := by rw [List.length_drop]; omega
              obtain ⟨rest2, hrest2⟩ : ∃ rest2, rest2 = bs.drop (pos + part.length) := ⟨_, rfl⟩
              rw [← hrest2] at hdd hrl
              have hz1 : ((rest2.length : Int) != (bs.length : Int) - ((pos : Int) + (part.length : Int))) = false := by rw [hrl]; simp
              have hz2 : (((bs.length : Int) - ((pos : Int) + (part.length : Int))) == 0) = decide (rest2.length = 0) := by rw [← hrl, Bool.eq_iff_iff, beq_iff_eq, decide_eq_true_eq]; omega
              have HR2 := Lib.hid hrest2
              clear hrest2 hrl hcap hpm2 hpm3 hcut hbw
              cases num
              · have hX := fun w6 (hf6 : Fr [] wr w6) => take_some q gq (bs.drop pos) part.length w6 (hr.kept hf6 (by simp) (by simp)) hdl (by simp; omega)
                have HX := Lib.hid hX
                clear hX
                go_wp2_with fail
                refine wp_region_G [q] [(0, false), (1, false), (4, false), (5, false), (2, true), (3, false), (6, false)] 130 rfl (by kernel_rfl) (by kernel_rfl) (by kernel_rfl) (fun c a d v w h => by cases d <;> exact h) (fun w6 hf6 => ?_)
                simp only [List.map_cons, List.map_nil, List.getElem?_toArray, List.getElem?_cons_succ, List.getElem?_cons_zero, Option.getD_some]
                have hX := HX.out w6 hf6
                rw [← HPT.out, hdd] at hX
                have hN : Later [q] w6 _ := Later.conv (P := Try.prog) (hpb.below hf6) (fun j hj hne _ => by have := hpo j hj hne; simp; omega) 27 5 9 Try.underlying27 Try.underlying5 Try.underlying9
                repeat (apply wpG_t; · (intro w' hf; have cN := hN w' hf; go_wp2; exact ⟨rfl, rfl⟩))
                refine wpG_x ?_
                go_wp2_with fail
                refine hX.mono ?_
                rintro e w2 ⟨v2, rfl, hb2, hr2, hf2⟩
                have hq6 := hf6.size
                have hqlt := hr.lt
                have hV : Later [q] w2 _ := Later.conv (P := Try.prog) (bytesAt_of_owns hb2) (fun j hj _ _ => by have := (hb2.lt j hj).1; simp; omega) 27 5 9 Try.underlying27 Try.underlying5 Try.underlying9
                go_wp2
                refine ⟨hf2, rfl, ?_⟩
                have hN := hN.next hf2
                repeat (apply wpG_t; · (intro w' hf; have cN := hN w' hf; have cV := hV w' hf; go_wp2; exact ⟨rfl, rfl⟩))
                refine wpG_end ?_
                have HLE := Lib.hid (left_any q gq rest2 false _ hr2)
                have HSE := Lib.hid (spent_any q gq rest2 false _ hr2)
                have HAE := Lib.hid (rall_any q gq rest2 false _ hr2)
                clear hX hN hV
                go_wp2_with (first
                  | (go_at_call 17; refine HLE.out.mono ?_; rintro e w9 ⟨rfl, rfl⟩)
                  | (go_at_call 18; refine HSE.out.mono ?_; rintro e w9 ⟨rfl, rfl⟩)
                  | (go_at_call 19; refine HAE.out.mono ?_; rintro e w9 ⟨rfl, rfl⟩))
                refine ⟨⟨k + 1, pos + part.length, false, by omega, hpm, by go_num, rfl, rfl, by simpa [← HR2.out] using hr2, hf.trans (hf6.trans hf2 (by simp) (n := [q]) (by simp)) (by simp) (by simp)⟩, by simp [intOf]; omega⟩
              · have hm8 := hn8 rfl
                have hX := rnum_some q gq (bs.drop pos) part.length wr hr hdl (by omega) (by omega)
                rw [← HPT.out, hdd] at hX
                have HX := Lib.hid hX
                clear hX
                rcases hpb with ⟨_, _, e, _, rfl⟩ | ⟨bb, bo, cc, e, -, -, hcell⟩
                · simp at hm8
                · simp only [Value.slice.injEq] at e
                  obtain ⟨rfl, -, rfl⟩ := e
                  have HC := Lib.hid hcell
                  clear hcell hpo
                  go_wp2_with fail
                  go_loop [11, 12] (fun s11 s12 => ∃ j : Nat, j ≤ part.length ∧ s12 = .int .i64 j ∧ s11 = .int .u64 (val (part.take j))) (fun _ s12 => part.length - (intOf s12).toNat)
                  case atStart => exact ⟨0, Nat.zero_le _, rfl, rfl⟩
                  case round =>
                  obtain ⟨j, hj, rfl, rfl⟩ := hrel
                  by_cases hjl : j < part.length
                  · have hcj := HC.out j hjl
                    have hv1 := val_lt (part.take j)
                    rw [List.length_take, Nat.min_eq_left hj] at hv1
                    have hv2 : val (part.take j) < 256 ^ 7 := Nat.lt_of_lt_of_le hv1 (Nat.pow_le_pow_right (by decide) (by omega))
                    have hv3 : val (part.take (j + 1)) = val (part.take j) * 256 + (part[j]'hjl).toNat := by rw [List.take_succ_eq_append_getElem hjl, val_snoc]
                    obtain ⟨x, hx⟩ : ∃ x, x = val (part.take j) := ⟨_, rfl⟩
                    rw [← hx] at hv2 hv3 ⊢
                    obtain ⟨c, hcc⟩ : ∃ c, c = part[j]'hjl := ⟨_, rfl⟩
                    rw [← hcc] at hcj hv3
                    have hcl := c.toNat_lt
                    have H3 := Lib.hid hv3
                    clear hx hcc hv1 hv3
                    have hx2 : x < 72057594037927936 := hv2
                    clear hv2
                    go_wp2
                    refine ⟨⟨j + 1, by omega, rfl, by rw [H3.out]; exact congrArg (Value.int .u64) (by omega)⟩, by simp [intOf]; omega⟩
                  · obtain rfl : j = part.length := by omega
                    rw [List.take_length]
                    go_wp2_with (first
                      | (go_at_call 15; refine HX.out.mono ?_; rintro e w2 ⟨rfl, hr2, hf2⟩; have HLE := Lib.hid (left_any q gq rest2 false _ hr2); have HSE := Lib.hid (spent_any q gq rest2 false _ hr2); have HAE := Lib.hid (rall_any q gq rest2 false _ hr2))
                      | (go_at_call 17; refine HLE.out.mono ?_; rintro e w9 ⟨rfl, rfl⟩)
                      | (go_at_call 18; refine HSE.out.mono ?_; rintro e w9 ⟨rfl, rfl⟩)
                      | (go_at_call 19; refine HAE.out.mono ?_; rintro e w9 ⟨rfl, rfl⟩))
                    refine ⟨⟨k + 1, pos + part.length, false, by omega, hpm, by go_num, rfl, rfl, by simpa [← HR2.out] using hr2, hf.trans hf2 (by simp) (by simp)⟩, by simp [intOf]; omega⟩
            · have hnn : num = true → (sp = true ∨ n < 1 ∨ 8 < n ∨ ((if sp = true then [] else bs.drop pos).length : Int) < n) := by
                intro e
                cases sp
                · have := (HBAD.out (by have := HSP.out; simpa using this.symm)).1 e
                  simp only [Bool.false_eq_true, if_false, List.length_drop, ← hleft]
                  exact .inr this
                · exact .inl rfl
              have hnt : num = false → (sp = true ∨ n < 0 ∨ ((if sp = true then [] else bs.drop pos).length : Int) < n) := by
                intro e
                cases sp
                · have := (HBAD.out (by have := HSP.out; simpa using this.symm)).2 e
                  simp only [Bool.false_eq_true, if_false, List.length_drop, ← hleft]
                  exact .inr this
                · exact .inl rfl
              have HNN := Lib.hid hnn
              have HNT := Lib.hid hnt
              clear hnn hnt HBAD HGOOD HSP
              cases num
              · have HNT2 := Lib.hid (HNT.out rfl)
                clear HNN HNT
                go_wp2_with fail
                refine wp_region_G [q] [(0, false), (1, false), (4, false), (5, false), (2, true), (3, false), (6, false)] 130 rfl (by kernel_rfl) (by kernel_rfl) (by kernel_rfl) (fun c a d v w h => by cases d <;> exact h) (fun w6 hf6 => ?_)
                simp only [List.map_cons, List.map_nil, List.getElem?_toArray, List.getElem?_cons_succ, List.getElem?_cons_zero, Option.getD_some]
                have hX := take_none q gq _ sp n _ (hr.kept hf6 (by simp) (by simp)) HNT2.out
                have hN : Later [q] w6 _ := Later.conv (P := Try.prog) (bytesAt.nil w6) (by simp [Value.ownBlock]) 27 5 9 Try.underlying27 Try.underlying5 Try.underlying9
                repeat (apply wpG_t; · (intro w' hf; have cN := hN w' hf; go_wp2; exact ⟨rfl, rfl⟩))
                refine wpG_x ?_
                go_wp2_with fail
                refine hX.mono ?_
                rintro e w2 ⟨rfl, hr2, hf2⟩
                go_wp2
                refine ⟨hf2, rfl, ?_⟩
                have hN := hN.next hf2
                repeat (apply wpG_t; · (intro w' hf; have cN := hN w' hf; go_wp2; exact ⟨rfl, rfl⟩))
                refine wpG_end ?_
                have HLE := Lib.hid (left_any q gq [] true _ hr2)
                have HSE := Lib.hid (spent_any q gq [] true _ hr2)
                have HAE := Lib.hid (rall_any q gq [] true _ hr2)
                clear hX
                go_wp2_with (first
                  | (go_at_call 17; refine HLE.out.mono ?_; rintro e w9 ⟨rfl, rfl⟩)
                  | (go_at_call 18; refine HSE.out.mono ?_; rintro e w9 ⟨rfl, rfl⟩)
                  | (go_at_call 19; refine HAE.out.mono ?_; rintro e w9 ⟨rfl, rfl⟩))
                refine ⟨⟨k + 1, pos, true, by omega, hpos, rfl, rfl, rfl, hr2, hf.trans (hf6.trans hf2 (by simp) (n := [q]) (by simp)) (by simp) (by simp)⟩, by simp [intOf]; omega⟩
              · have HX := Lib.hid (rnum_none q gq _ sp n _ hr (HNN.out rfl))
                clear HNN HNT
                go_wp2_with fail
                go_loop [11, 12] (fun s11 s12 => s11 = .int .u64 0 ∧ s12 = .int .i64 0) (fun _ _ => 0)
                case atStart => exact ⟨rfl, rfl⟩
                case round =>
                obtain ⟨rfl, rfl⟩ := hrel
                go_wp2_with (first
                  | (go_at_call 15; refine HX.out.mono ?_; rintro e w2 ⟨rfl, hr2, hf2⟩; have HLE := Lib.hid (left_any q gq [] true _ hr2); have HSE := Lib.hid (spent_any q gq [] true _ hr2); have HAE := Lib.hid (rall_any q gq [] true _ hr2))
                  | (go_at_call 17; refine HLE.out.mono ?_; rintro e w9 ⟨rfl, rfl⟩)
                  | (go_at_call 18; refine HSE.out.mono ?_; rintro e w9 ⟨rfl, rfl⟩)
                  | (go_at_call 19; refine HAE.out.mono ?_; rintro e w9 ⟨rfl, rfl⟩))
                refine ⟨⟨k + 1, pos, true, by omega, hpos, rfl, rfl, rfl, hr2, hf.trans hf2 (by simp) (by simp)⟩, by simp [intOf]; omega⟩
    · obtain rfl : k = l.length := by omega
      go_wp2_with (go_at_call 7; refine (awake_any _).mono ?_; rintro e w9 ⟨rfl, hf9⟩)
      go_ret
      exact ⟨rfl, (hf1.trans hf (by simp) (n := []) (by simp; omega)).trans hf9 (by simp) (by simp)⟩

theorem reads_any (v0 v1 : Value) (bs : List UInt8) (l : List (Bool × Int)) (w : World) (h0 : bytesAt w v0 bs) (h1 : elemsAt w v1 2 (getCells l)) :
    Calls Try.prog 4 #[v0, v1] w fun e w' => e = .returned (.bool true) ∧ Fr [] w w' := by
  by_cases h : 400 < bs.length ∨ 60 < l.length
  · exact reads_big v0 v1 bs l w h0 h1 h
  · exact reads_small v0 v1 bs l w h0 h1 (by omega) (by omega)
end Go.Proofs.Ytkckkkcbiakblaa
