/- Several texts in one: Bld, PrsT. -/
import Derived.Laws.Externs
import Derived.Test.YtjlkcdmeiakkbaaGreatDoorShelf
import Derived.Test.YtjlkcdmeiakkbaaGreatDoorBs
import Derived.Test.YtjlkcdmeiakkbaaGreatDoorDt
set_option linter.unusedVariables false
set_option linter.unusedSimpArgs false
/-! strings.Builder at this program: copyCheck and WriteString, over the kit's wording of a builder. -/
namespace Go.Proofs.YtjlkcdmeiakkbaaGreatDoor
open Go.RowKit

theorem sizeBld : (Tryz.prog.info? 95).map (·.size) = some 2 := by kernel_rfl
theorem liesBld : liesAt Tryz.prog Tryz.prog.depth 95 (2 / Tryz.prog.cellsOf 95) 0 95 1 = true := by kernel_rfl
theorem infoU8 : (Tryz.prog.info? 5).map (fun i => (i.zero, i.size, i.bytes)) = some (some (.int .u8 0), 1, 1) := by kernel_rfl
abbrev tB : TypeId := 95
abbrev tU : TypeId := 5
set_option maxHeartbeats 1000000 in
set_option maxRecDepth 100000 in
theorem pcopy_used (b : Nat) (w : World) (h0 : w.cell? ⟨b, 0, none⟩ = some (.pointer (some ⟨b, 0, none⟩))) :
    Calls Tryz.prog 100 #[.pointer (some ⟨b, 0, none⟩)] w fun e w' => e = .returned (.tuple #[]) ∧ w' = w := by
  obtain ⟨j, hj, _⟩ := Option.map_eq_some_iff.1 sizeBld
  go_enter Tryz.func100, Tryz.ntmps100
  go_wp2
  rw [Lib.run_neq_ptr_same w _ Tryz.underlying93 hj]
  go_wp2
  go_end0
  exact ⟨rfl, rfl⟩
set_option maxHeartbeats 1000000 in
set_option maxRecDepth 100000 in
theorem pcopy_fresh (b : Nat) (w : World) (h0 : w.cell? ⟨b, 0, none⟩ = some (.pointer none)) (hsh : w.shape? b = some (tB, 2)) (hfz : w.frozen? ⟨b, 0, none⟩ = false) :
    Calls Tryz.prog 100 #[.pointer (some ⟨b, 0, none⟩)] w fun e w' => e = .returned (.tuple #[]) ∧ w' = w.setCell ⟨b, 0, none⟩ (.pointer (some ⟨b, 0, none⟩)) := by
  obtain ⟨j, hj, hjs⟩ := Option.map_eq_some_iff.1 sizeBld
  go_enter Tryz.func100, Tryz.ntmps100
  go_wp2
  rw [Lib.run_to_unsafe w ⟨b, 0, none⟩ Tryz.underlying93 Tryz.underlying149 hj (by rw [hjs]; decide) hsh (Nat.zero_lt_succ 1)]
  simp only [Result.andThen]
  rw [Oper.upon_value]
  go_wp2
  rw [run_callFunc_extern (f := 124) Tryz.func124 (by kernel_rfl) (by kernel_rfl) (by kernel_rfl) (e := Extern.AbiNoEscape.same) (by kernel_rfl)]
  rw [Lib.run_noEscape]
  simp only [Result.andThen]
  rw [Oper.upon_value]
  go_wp2
  rw [Lib.run_from_unsafe w ⟨b, 0, none⟩ Tryz.underlying149 Tryz.underlying93 hj hsh liesBld]
  simp only [Result.andThen]
  rw [Oper.upon_value]
  go_wp2
  go_end0
  exact ⟨rfl, rfl⟩
theorem pcopy_any (B b : Nat) (bs : List Value) (w : World) (h : Lib.IsBuilderF tB tU B b bs w) :
    Calls Tryz.prog 100 #[.pointer (some ⟨b, 0, none⟩)] w fun e w' => e = .returned (.tuple #[]) ∧ (Lib.BuilderAtF tB tU B b (.pointer (some ⟨b, 0, none⟩)) bs w' ∧ Below B w w' ∧ Lib.OthersKept tU (some b) w w') := by
  rcases h with h | h
  · refine (pcopy_fresh b w h.cell0 h.shape h.frozen0).mono ?_
    rintro e w' ⟨rfl, rfl⟩
    exact ⟨rfl, h.used _, (Below.refl B w).setCell (p := ⟨b, 0, none⟩) h.1 _, (Lib.OthersKept.refl _ _ w).setCell ⟨b, 0, none⟩ rfl _⟩
  · refine (pcopy_used b w h.cell0).mono ?_
    rintro e w' ⟨rfl, rfl⟩
    exact ⟨rfl, h, Below.refl B _, Lib.OthersKept.refl _ _ _⟩
set_option maxHeartbeats 1000000 in
set_option maxRecDepth 100000 in
theorem pwrite_raw (B b : Nat) (bs : List Value) (s : ByteArray) (w : World) (h : Lib.IsBuilderF tB tU B b bs w) (hlen : bs.length + s.size ≤ 140737488355328) (hBw : B ≤ w.heap.size) :
    Calls Tryz.prog 61 #[.pointer (some ⟨b, 0, none⟩), .string s] w fun e w' => e = .returned (.tuple #[.int .i64 s.size, .nilIface]) ∧ (Lib.BuilderAtF tB tU B b (.pointer (some ⟨b, 0, none⟩)) (bs ++ Lib.strCells s) w' ∧ Below B w w' ∧ Lib.OthersKept tU (some b) w w') := by
  obtain ⟨i0, hi, hz0, hz1, hz2⟩ := info_parts infoU8
  have HC := Lib.hid (pcopy_any B b bs w h)
  clear h
  go_enter Tryz.func61, Tryz.ntmps61
  go_wp2_with (go_at_call 100; refine HC.out.mono ?_)
  rintro e w1 ⟨rfl, h1, hb1, hk1⟩
  obtain ⟨hB, v, hbk, hown, hne⟩ := h1
  have c0 : w1.cell? ⟨b, 0, none⟩ = some (.pointer (some ⟨b, 0, none⟩)) := by rw [Lib.cell_of_heap hbk]; rfl
  have c1 : w1.cell? ⟨b, 1, none⟩ = some v := by rw [Lib.cell_of_heap hbk]; rfl
  go_wp2_with (at_builtin; refine Lib.wpList_append_own_stringF _ rfl _ _ 45 9 rfl B tU i0 Tryz.underlying45 Tryz.underlying9 hi hz0 hz1 hz2 _ _ _ rfl hown s rfl ?c3 ?c4 ?c5 ?_)
  case c3 => unfold maxLen; omega
  case c4 => omega
  case c5 => have := hb1.size; omega
  intro v' w2 hown' hgrow _
  have hlt : b < w1.heap.size := by
    rcases Nat.lt_or_ge b w1.heap.size with h' | h'
    · exact h'
    · simp [Array.getElem?_eq_none h'] at hbk
  have hb2 : w2.heap[b]? = some (.cells #[.pointer (some ⟨b, 0, none⟩), v] tB (0, 0)) := by
    rw [hgrow.block b hlt (fun e => hne e.symm)]
    exact hbk
  have d0 : w2.cell? ⟨b, 0, none⟩ = some (.pointer (some ⟨b, 0, none⟩)) := by rw [Lib.cell_of_heap hb2]; rfl
  have d1 : w2.cell? ⟨b, 1, none⟩ = some v := by rw [Lib.cell_of_heap hb2]; rfl
  have f1 : w2.frozen? ⟨b, 1, none⟩ = false := Lib.frozen_of_heap hb2 1
  obtain ⟨ao, n', cap, rfl⟩ : ∃ ao n' cap, v' = .slice ao n' cap := by
    rcases hown'.2 with ⟨hv, _⟩ | ⟨g, cap, cur, fz, hv, _⟩
    · exact ⟨_, _, _, hv⟩
    · exact ⟨_, _, _, hv⟩
  go_wp2
  go_ret2
  refine ⟨rfl, ?_, ?_, (hk1.grown hgrow (Lib.ownsRowF_kind hown)).setCell ⟨b, 1, none⟩ rfl _⟩
  · exact Lib.BuilderAtF.put (T := tB) (e := tU) hB hb2 (bs' := bs ++ Lib.strCells s) (by simpa [Lib.strCells_length] using hown') (by decide)
  · exact (hb1.grown hgrow (by have := hb1.size; omega) (fun k hk => (hown.lt k hk).1)).setCell (p := ⟨b, 1, none⟩) hB _
end Go.Proofs.YtjlkcdmeiakkbaaGreatDoor

/-! The program's Text (layer 13): lines as text, by a builder. Written by wip/tools/gen_prt.py. -/
namespace Go.Proofs.YtjlkcdmeiakkbaaGreatDoor
open Go.RowKit

/-- The builder that the call has laid first, and what it holds. -/
def BldAt (w0 : World) (l : List UInt8) (w : World) : Prop := Lib.IsBuilderF tB tU w0.heap.size w0.heap.size (Lib.byteCells l) w ∧ Below w0.heap.size w0 w
theorem bldF_fr {B b : Nat} {p : Value} {bs : List Value} {w w' : World} (h : Lib.BuilderAtF tB tU B b p bs w) (hf : Fr [] w w') : Lib.BuilderAtF tB tU B b p bs w' := by
  obtain ⟨hB, v, hb, hown, hne⟩ := h
  refine ⟨hB, v, hf.heap hb (by simp), ⟨hown.1, ?_⟩, hne⟩
  rcases hown.2 with h2 | ⟨g, cap, cur, fz, hv, h1, hg, rest⟩
  · exact .inl h2
  · exact .inr ⟨g, cap, cur, fz, hv, h1, hf.heap hg (by simp), rest⟩
theorem BldAt.fr {w0 w w' : World} {l : List UInt8} (h : BldAt w0 l w) (hf : Fr [] w w') : BldAt w0 l w' := by
  refine ⟨?_, h.2.trans (hf.below h.2.size (by simp))⟩
  rcases h.1 with h1 | h1
  · exact .inl (bldF_fr h1 hf)
  · exact .inr (bldF_fr h1 hf)
theorem BldAt.new (w0 : World) : BldAt w0 [] (w0.alloc (.cells #[.pointer none, .slice none 0 0] tB)) :=
  ⟨.inl ⟨Nat.le_refl _, _, heap_alloc_new w0 _, ⟨rfl, .inl ⟨rfl, rfl⟩⟩, by simp [Value.ownBlock]⟩, (Fr.alloc w0 _).below (Nat.le_refl _) (by simp)⟩
theorem BldAt.base {w0 w : World} {l : List UInt8} (h : BldAt w0 l w) : Fr [] w0 w := Fr.of_below h.2
theorem bwrite {w0 w : World} {l s : List UInt8} {A : Array UInt8} (h : BldAt w0 l w) (hA : A = s.toArray) (hlen : l.length + s.length ≤ 140737488355328) (n : Int) (hn : n = (s.length : Int)) :
    Calls Tryz.prog 61 #[.pointer (some ⟨w0.heap.size, 0, none⟩), .string { data := A }] w fun e w' => e = .returned (.tuple #[.int .i64 n, .nilIface]) ∧ BldAt w0 (l ++ s) w' ∧ Lib.OthersKept tU (some w0.heap.size) w w' := by
  subst hA hn
  have hb : (Lib.byteCells l).length = l.length := by simp [Lib.byteCells]
  have hs : (ByteArray.mk s.toArray).size = s.length := by simp [ByteArray.size]
  refine (pwrite_raw w0.heap.size w0.heap.size (Lib.byteCells l) ⟨s.toArray⟩ w h.1 (by rw [hb, hs]; exact hlen) h.2.size).mono ?_
  rintro e w' ⟨he, h1, h2, h3⟩
  refine ⟨by rw [he, hs], ⟨.inr ?_, h.2.trans h2⟩, h3⟩
  have e1 : Lib.byteCells (l ++ s) = Lib.byteCells l ++ Lib.strCells ⟨s.toArray⟩ := by rw [show Lib.strCells ⟨s.toArray⟩ = Lib.byteCells s from rfl]; simp [Lib.byteCells]
  rw [e1]
  exact h1
theorem bstring {w0 w : World} {l : List UInt8} (h : BldAt w0 l w) :
    Calls Tryz.prog 63 #[.pointer (some ⟨w0.heap.size, 0, none⟩)] w fun e w' => e = .returned (.string { data := l.toArray }) ∧ Below w0.heap.size w0 w' := by
  refine (Tryz.Builder_String_any_k w0.heap.size w0.heap.size l w h.1 h.2.size).mono ?_
  rintro e w' ⟨he, -, h2, -⟩
  exact ⟨he, h.2.trans h2⟩
def spellD (i : ItemD) : List UInt8 := if i.term then [39] ++ i.text ++ [39] else i.text
theorem itemT_spell (i : ItemD) : itemT i = 32 :: spellD i := by
  unfold itemT spellD
  split <;> simp
set_option maxRecDepth 100000 in
set_option maxHeartbeats 1000000 in
theorem pspell_any (it : ItemD) (hl : it.text.length ≤ 100000000000) (w : World) : Calls Tryz.prog 62 #[.agg #[.bool it.term, encStr it.text]] w fun e w' => e = .returned (.string { data := (spellD it).toArray }) ∧ Fr [] w w' := by
  obtain ⟨tb, tx⟩ := it
  simp only at hl
  have hb1 := heap_alloc_new w (.cells #[.bool tb, encStr tx] 101)
  obtain ⟨x0, x1, -, -⟩ := two_of_box2 hb1
  cases tb with
  | true =>
    obtain ⟨Y1, hY1⟩ : ∃ Y, Y = ([39] ++ tx).toArray := ⟨_, rfl⟩
    obtain ⟨Y2, hY2⟩ : ∃ Y, Y = ([39] ++ tx ++ [39]).toArray := ⟨_, rfl⟩
    have ca := fun wx => cat_run (P := Tryz.prog) (A := #[39]) (B := tx.toArray) (C := Y1) (x := [39]) rfl rfl hY1 (by simp; omega) wx
    have cb := fun wx => cat_run (P := Tryz.prog) (A := Y1) (B := #[39]) (C := Y2) (y := [39]) hY1 rfl hY2 (by simp; omega) wx
    have HY := Lib.hid hY2
    clear hY1 hY2 hb1 hl
    go_enter Tryz.func62, Tryz.ntmps62
    go_wp2_with fail
    go_ret
    exact ⟨by rw [HY.out]; rfl, Fr.alloc _ _⟩
  | false =>
    clear hb1 hl
    go_enter Tryz.func62, Tryz.ntmps62
    go_wp2_with fail
    go_ret
    exact ⟨rfl, Fr.alloc _ _⟩
/-- In a loop: so many of m are written. -/
def BRel (w0 : World) (pre : Nat → List UInt8) (m : Nat) (iv : Value) (wx : World) : Prop := ∃ i : Nat, i ≤ m ∧ iv = .int .i64 (i : Int) ∧ BldAt w0 (pre i) wx
set_option maxRecDepth 100000 in
set_option maxHeartbeats 4000000 in
theorem pparsetext_any (l : List LineD) (v : Value) (w : World) (h : linesAt w v l) (hs : (textD l).length ≤ 10000000000) : Calls Tryz.prog 29 #[v] w fun e w' => e = .returned (encStr (textD l)) ∧ Fr [] w w' := by
  obtain ⟨a1, c1, rfl, hc1, hm1⟩ := h.form
  have HL := Lib.hid h
  have HS := Lib.hid hs
  clear h hs
  go_enter Tryz.func29, Tryz.ntmps29
  go_upto_region 2 with fail
  have hnew := BldAt.new w
  obtain ⟨b, hb⟩ : ∃ b, b = w.heap.size := ⟨_, rfl⟩
  rw [← hb]
  generalize w.alloc (.cells #[.pointer none, .slice none 0 0] tB) = w1 at hnew ⊢
  have HB := Lib.hid hb
  have HNEW := Lib.hid hnew
  clear hb hnew
  go_wp2_with fail
  go_loopw [12] (BRel w (fun i => textD (l.take i)) l.length) (fun iv _ => l.length - (intOf iv).toNat)
  case atStart => exact ⟨0, Nat.zero_le _, rfl, by simpa [textD] using HNEW.out⟩
  case round =>
    clear HNEW
    obtain ⟨i, hi, rfl, hbd⟩ := hrel
    have HBD := Lib.hid hbd
    by_cases hin : i < l.length
    · have hd1 : decide (i < l.length) = true := decide_eq_true hin
      obtain ⟨b1, off1, va, rfl, k0, k1, hal⟩ := line_cells HL.out i hin
      obtain ⟨L, hLe⟩ : ∃ L, L = l[i]'hin := ⟨_, rfl⟩
      rw [← hLe] at k0 hal
      obtain ⟨nm, al⟩ := L
      simp only at k0 hal
      obtain ⟨a2, c2, rfl, hc2, hm2⟩ := hal.form
      have htn := text_next hin
      rw [← hLe] at htn
      have htl := text_len (l := l) (i := i + 1)
      rw [htn] at htl
      have hlt : (textD (l.take i) ++ lineT ⟨nm, al⟩).length ≤ 10000000000 := Nat.le_trans htl HS.out
      have HTN := Lib.hid htn
      obtain ⟨T, hT⟩ : ∃ T, T = textD (l.take i) := ⟨_, rfl⟩
      have hbt : BldAt w T wr := by rw [hT]; exact HBD.out
      rw [← hT] at hlt HTN
      have hlen : T.length + nm.length + 5 + (altsT al).length ≤ 10000000000 := by
        have := hlt
        simp [lineT] at this
        omega
      have r0 := hbd.base.cell k0 (by simp)
      have r1 := hbd.base.cell k1 (by simp)
      have hfa := Fr.alloc wr (.cells #[encStr nm, .slice a2 al.length c2] 98)
      have hba := heap_alloc_new wr (.cells #[encStr nm, .slice a2 al.length c2] 98)
      obtain ⟨w2, hw2⟩ : ∃ w2, w2 = wr.alloc (.cells #[encStr nm, .slice a2 al.length c2] 98) := ⟨_, rfl⟩
      obtain ⟨q, hq⟩ : ∃ q, q = wr.heap.size := ⟨_, rfl⟩
      rw [← hw2] at hfa hba
      rw [← hq] at hba
      have HW2 := Lib.hid hw2
      have HQ2 := Lib.hid hq
      have HBA := Lib.hid hba
      have HBT := Lib.hid (hbt.fr hfa)
      have hqb : b ≠ q := by
        have hbw := HB.out
        rcases hbt.1 with ⟨_, _, h3, _⟩ | ⟨_, _, h3, _⟩
        · have := (Array.getElem?_eq_some_iff.1 h3).1; omega
        · have := (Array.getElem?_eq_some_iff.1 h3).1; omega
      obtain ⟨Y1, hY1⟩ : ∃ Y, Y = (nm ++ [32, 58]).toArray := ⟨_, rfl⟩
      have ca := fun wx => cat_run (P := Tryz.prog) (A := nm.toArray) (B := #[32, 58]) (C := Y1) (y := [32, 58]) rfl rfl hY1 (by simp; omega) wx
      obtain ⟨n1, hn1⟩ : ∃ n1 : Int, n1 = (((nm ++ [32, 58]).length : Nat) : Int) := ⟨_, rfl⟩
      have HWR := Lib.hid (bwrite (A := Y1) (s := nm ++ [32, 58]) HBT.out hY1 (by simp; omega) n1 hn1)
      rw [← HB.out] at HWR
      obtain ⟨Q, hQ⟩ : ∃ Q, Q = T ++ (nm ++ [32, 58]) := ⟨_, rfl⟩
      rw [← hQ] at HWR
      have hQl : Q.length = T.length + nm.length + 2 := by rw [hQ]; simp; omega
      have HAL := Lib.hid hal
      have HQ := Lib.hid hQ
      have HQB := Lib.hid hqb
      clear hT htn htl hlt hLe hbd hal hbt k0 k1 hw2 hq hba hfa hY1 hn1 hQ hqb HBD
      go_upto_region 5 with fail
      rw [← HW2.out, ← HQ2.out]
      obtain ⟨x0, x1, -, -⟩ := two_of_box2 HBA.out
      clear HW2 HQ2 r0 r1
      go_upto_region 6 with (go_at_call 61; refine HWR.out.mono ?_; rintro e w3 ⟨rfl, hb3, hk3⟩)
      have hba3 := hk3 q _ HBA.out (by simp; exact fun e => HQB.out e.symm) (by intro c fz e; injection e with _ e2 _; exact absurd e2 (by decide))
      obtain ⟨y0, y1, -, -⟩ := two_of_box2 hba3
      have HB3 := Lib.hid hb3
      clear hb3 hk3 hba3 x0 x1 ca
      go_upto_region 7 with fail
      clear y0 y1
      go_loopw [23] (BRel w (fun k => Q ++ altsT (al.take k)) al.length) (fun iv _ => al.length - (intOf iv).toNat)
      case atStart => exact ⟨0, Nat.zero_le _, rfl, by simpa [altsT] using HB3.out⟩
      case round =>
        clear HB3
        obtain ⟨k, hk, rfl, hbd4⟩ := hrel
        have HB4 := Lib.hid hbd4
        by_cases hkn : k < al.length
        · have hd2 : decide (k < al.length) = true := decide_eq_true hkn
          obtain ⟨b2, off2, vk, rfl, k2, hit⟩ := alt_cells HAL.out k hkn
          have han := alts_next hkn
          have hal2 := alts_len (l := al) (al.length - (k + 1)) (k + 1) (by omega)
          obtain ⟨at_, hat⟩ : ∃ a, a = al[k]'hkn := ⟨_, rfl⟩
          rw [← hat] at hit han
          obtain ⟨a3, c3, rfl, hc3, hm3⟩ := hit.form
          have r2 := hbd4.base.cell k2 (by simp)
          rw [han] at hal2
          have HAN := Lib.hid han
          have HIT := Lib.hid hit
          obtain ⟨S, hS⟩ : ∃ S, S = Q ++ altsT (al.take k) ++ (if k = 0 then [] else [32, 124]) := ⟨_, rfl⟩
          have hSl : S.length + (altT at_).length ≤ Q.length + (altsT al).length := by
            rw [hS]
            simp only [List.length_append] at hal2 ⊢
            omega
          have HS2 := Lib.hid hS
          clear han hit k2 hat hal2 hbd4
          by_cases hk0 : k = 0
          · have d0 : decide (0 < k) = false := decide_eq_false (by omega)
            have d0' : decide (0 < (k : Int)) = false := decide_eq_false (by omega)
            have HBS : Hid (BldAt w S wr) := Lib.hid (by rw [HS2.out, if_pos hk0, List.append_nil]; exact HB4.out)
            clear hk0 HB4
            go_upto_region 12 with fail
            go_loopw [33] (BRel w (fun n => S ++ altT (at_.take n)) at_.length) (fun iv _ => at_.length - (intOf iv).toNat)
            case atStart => exact ⟨0, Nat.zero_le _, rfl, by simpa [altT] using HBS.out⟩
            case round =>
              clear HBS
              obtain ⟨n, hn, rfl, hbd6⟩ := hrel
              by_cases hnn : n < at_.length
              · have hd3 : decide (n < at_.length) = true := decide_eq_true hnn
                obtain ⟨b3, off3, rfl, i0, i1⟩ := item_cells HIT.out n hnn
                have hin2 := alt_next hnn
                have hil := alt_len (a := at_) (n := n + 1)
                obtain ⟨it, hite⟩ : ∃ it, it = at_[n]'hnn := ⟨_, rfl⟩
                rw [← hite] at i0 i1 hin2
                rw [hin2, List.length_append] at hil
                have j0 := hbd6.base.cell i0 (by simp)
                have j1 := hbd6.base.cell i1 (by simp)
                have hfa := Fr.alloc wr (.cells #[.bool it.term, encStr it.text] 101)
                have hba := heap_alloc_new wr (.cells #[.bool it.term, encStr it.text] 101)
                obtain ⟨w7, hw7⟩ : ∃ w7, w7 = wr.alloc (.cells #[.bool it.term, encStr it.text] 101) := ⟨_, rfl⟩
                obtain ⟨q7, hq7⟩ : ∃ q, q = wr.heap.size := ⟨_, rfl⟩
                rw [← hw7] at hfa hba
                rw [← hq7] at hba
                have HW7 := Lib.hid hw7
                have HQ7 := Lib.hid hq7
                have HBA7 := Lib.hid hba
                have HB7 := Lib.hid (hbd6.fr hfa)
                obtain ⟨U, hU⟩ : ∃ U, U = S ++ altT (at_.take n) := ⟨_, rfl⟩
                have HB7' : Hid (BldAt w U w7) := Lib.hid (by rw [hU]; exact HB7.out)
                have hUl : U.length + (itemT it).length ≤ 10000000000 := by rw [hU, List.length_append]; omega
                have hsl : (spellD it).length + 1 = (itemT it).length := by rw [itemT_spell]; simp
                have htl6 : it.text.length ≤ 10000000000 := by have : it.text.length ≤ (itemT it).length := (by unfold itemT; split <;> simp <;> omega); omega
                have HSP := Lib.hid (fun wx => pspell_any it (by omega) wx)
                obtain ⟨Y1, hY1⟩ : ∃ Y, Y = ([32] ++ spellD it).toArray := ⟨_, rfl⟩
                have ca := fun wx => cat_run (P := Tryz.prog) (A := #[32]) (B := (spellD it).toArray) (C := Y1) (x := [32]) rfl rfl hY1 (by simp; omega) wx
                have HWR := Lib.hid (fun wx (hx : BldAt w U wx) => bwrite (A := Y1) (s := [32] ++ spellD it) hx hY1 (by simp; omega) _ rfl)
                rw [← HB.out] at HWR
                have HI2 := Lib.hid hin2
                have HU := Lib.hid hU
                clear hw7 hq7 hfa hba hin2 hil hite i0 i1 hU HB7 hUl hsl htl6 hY1 hbd6
                go_upto_region 14 with fail
                rw [← HW7.out, ← HQ7.out]
                obtain ⟨x0, x1, x2, x3⟩ := two_of_box2 HBA7.out
                clear HW7 HQ7 j0 j1
                go_wp2_with (first
                  | (go_at_call 62; refine (HSP.out _).mono ?_; rintro e w8 ⟨rfl, hf8⟩; have HB8 := Lib.hid (HB7'.out.fr hf8))
                  | (go_at_call 61; refine (HWR.out _ HB8.out).mono ?_; rintro e w9 ⟨rfl, hb9, -⟩))
                refine ⟨⟨n + 1, by omega, by go_num, ?_⟩, by simp [intOf]; omega⟩
                simp only [HI2.out, ← List.append_assoc, ← HU.out]
                rw [itemT_spell]
                simpa using hb9
              · have hd3 : decide (n < at_.length) = false := decide_eq_false hnn
                obtain rfl : n = at_.length := by omega
                have hbe : BldAt w (S ++ altT at_) wr := by simpa using hbd6
                clear hbd6
                go_wp2_with fail
                refine ⟨⟨k + 1, by omega, by go_num, ?_⟩, by simp [intOf]; omega⟩
                simp only [HAN.out, ← List.append_assoc]
                rw [← HS2.out]
                exact hbe
          · have d0 : decide (0 < k) = true := decide_eq_true (by omega)
            have d0' : decide (0 < (k : Int)) = true := decide_eq_true (by omega)
            have HS3 := Lib.hid (show S = Q ++ altsT (al.take k) ++ [32, 124] by rw [HS2.out, if_neg hk0])
            have HWR4 := Lib.hid (bwrite (A := #[32, 124]) (s := [32, 124]) HB4.out rfl (by have h1 := congrArg List.length HS3.out; simp at h1 ⊢; omega) 2 rfl)
            rw [← HB.out, ← HS3.out] at HWR4
            clear hk0 HB4
            go_upto_region 11 with (go_at_call 61; refine HWR4.out.mono ?_; rintro e w5 ⟨rfl, hb5, -⟩; have HBS := Lib.hid hb5; clear hb5)
            go_upto_region 12 with fail
            go_loopw [33] (BRel w (fun n => S ++ altT (at_.take n)) at_.length) (fun iv _ => at_.length - (intOf iv).toNat)
            case atStart => exact ⟨0, Nat.zero_le _, rfl, by simpa [altT] using HBS.out⟩
            case round =>
              clear HBS
              obtain ⟨n, hn, rfl, hbd6⟩ := hrel
              by_cases hnn : n < at_.length
              · have hd3 : decide (n < at_.length) = true := decide_eq_true hnn
                obtain ⟨b3, off3, rfl, i0, i1⟩ := item_cells HIT.out n hnn
                have hin2 := alt_next hnn
                have hil := alt_len (a := at_) (n := n + 1)
                obtain ⟨it, hite⟩ : ∃ it, it = at_[n]'hnn := ⟨_, rfl⟩
                rw [← hite] at i0 i1 hin2
                rw [hin2, List.length_append] at hil
                have j0 := hbd6.base.cell i0 (by simp)
                have j1 := hbd6.base.cell i1 (by simp)
                have hfa := Fr.alloc wr (.cells #[.bool it.term, encStr it.text] 101)
                have hba := heap_alloc_new wr (.cells #[.bool it.term, encStr it.text] 101)
                obtain ⟨w7, hw7⟩ : ∃ w7, w7 = wr.alloc (.cells #[.bool it.term, encStr it.text] 101) := ⟨_, rfl⟩
                obtain ⟨q7, hq7⟩ : ∃ q, q = wr.heap.size := ⟨_, rfl⟩
                rw [← hw7] at hfa hba
                rw [← hq7] at hba
                have HW7 := Lib.hid hw7
                have HQ7 := Lib.hid hq7
                have HBA7 := Lib.hid hba
                have HB7 := Lib.hid (hbd6.fr hfa)
                obtain ⟨U, hU⟩ : ∃ U, U = S ++ altT (at_.take n) := ⟨_, rfl⟩
                have HB7' : Hid (BldAt w U w7) := Lib.hid (by rw [hU]; exact HB7.out)
                have hUl : U.length + (itemT it).length ≤ 10000000000 := by rw [hU, List.length_append]; omega
                have hsl : (spellD it).length + 1 = (itemT it).length := by rw [itemT_spell]; simp
                have htl6 : it.text.length ≤ 10000000000 := by have : it.text.length ≤ (itemT it).length := (by unfold itemT; split <;> simp <;> omega); omega
                have HSP := Lib.hid (fun wx => pspell_any it (by omega) wx)
                obtain ⟨Y1, hY1⟩ : ∃ Y, Y = ([32] ++ spellD it).toArray := ⟨_, rfl⟩
                have ca := fun wx => cat_run (P := Tryz.prog) (A := #[32]) (B := (spellD it).toArray) (C := Y1) (x := [32]) rfl rfl hY1 (by simp; omega) wx
                have HWR := Lib.hid (fun wx (hx : BldAt w U wx) => bwrite (A := Y1) (s := [32] ++ spellD it) hx hY1 (by simp; omega) _ rfl)
                rw [← HB.out] at HWR
                have HI2 := Lib.hid hin2
                have HU := Lib.hid hU
                clear hw7 hq7 hfa hba hin2 hil hite i0 i1 hU HB7 hUl hsl htl6 hY1 hbd6
                go_upto_region 14 with fail
                rw [← HW7.out, ← HQ7.out]
                obtain ⟨x0, x1, x2, x3⟩ := two_of_box2 HBA7.out
                clear HW7 HQ7 j0 j1
                go_wp2_with (first
                  | (go_at_call 62; refine (HSP.out _).mono ?_; rintro e w8 ⟨rfl, hf8⟩; have HB8 := Lib.hid (HB7'.out.fr hf8))
                  | (go_at_call 61; refine (HWR.out _ HB8.out).mono ?_; rintro e w9 ⟨rfl, hb9, -⟩))
                refine ⟨⟨n + 1, by omega, by go_num, ?_⟩, by simp [intOf]; omega⟩
                simp only [HI2.out, ← List.append_assoc, ← HU.out]
                rw [itemT_spell]
                simpa using hb9
              · have hd3 : decide (n < at_.length) = false := decide_eq_false hnn
                obtain rfl : n = at_.length := by omega
                have hbe : BldAt w (S ++ altT at_) wr := by simpa using hbd6
                clear hbd6
                go_wp2_with fail
                refine ⟨⟨k + 1, by omega, by go_num, ?_⟩, by simp [intOf]; omega⟩
                simp only [HAN.out, ← List.append_assoc]
                rw [← HS2.out]
                exact hbe
        · have hd2 : decide (k < al.length) = false := decide_eq_false hkn
          obtain rfl : k = al.length := by omega
          have hbe : BldAt w (Q ++ altsT al) wr := by simpa using hbd4
          have HWE := Lib.hid (bwrite (A := #[32, 59, 10]) (s := [32, 59, 10]) hbe rfl (by simp; omega) 3 rfl)
          rw [← HB.out] at HWE
          clear hbd4 HB4 hbe
          go_wp2_with (go_at_call 61; refine HWE.out.mono ?_; rintro e w5 ⟨rfl, hb5, -⟩)
          refine ⟨⟨i + 1, by omega, by go_num, ?_⟩, by simp [intOf]; omega⟩
          simp only [HTN.out]
          rw [HQ.out] at hb5
          simpa [lineT] using hb5
    · have hd1 : decide (i < l.length) = false := decide_eq_false hin
      obtain rfl : i = l.length := by omega
      have hbe : BldAt w (textD l) wr := by simpa using hbd
      have HWE := Lib.hid (bstring hbe)
      rw [← HB.out] at HWE
      clear hbd HBD hbe
      go_wp2_with (go_at_call 63; refine HWE.out.mono ?_; rintro e w5 ⟨rfl, hb5⟩)
      go_ret
      refine ⟨rfl, Fr.of_below ?_⟩
      rw [← HB.out]
      exact hb5
theorem prog_txt : ProgTxt := fun l v w h hs => pparsetext_any l v w h hs
end Go.Proofs.YtjlkcdmeiakkbaaGreatDoor
