/- slices.DeleteFunc at Step's closure: its contract. -/
import Derived.Test.YtheanpmgdkajnaaFltD
namespace Go.Proofs.Ytheanpmgdkajnaa
open Go.RowKit

/-- Behind j rounds. -/
structure DelInv (l cur : List FltD) (n : Int) (i j : Nat) : Prop where
  len : cur.length = l.length
  i_eq : i = (keepF (l.take j) n).length
  head : cur.take i = keepF (l.take j) n
  tail : cur.drop j = l.drop j
  lt : i < j
theorem DelInv.at {l cur : List FltD} {n : Int} {i j : Nat} (h : DelInv l cur n i j) (hj : j < l.length) : cur[j]'(by rw [h.len]; exact hj) = l[j]'hj := by
  have h1 : (cur.drop j)[0]? = (l.drop j)[0]? := by rw [h.tail]
  rw [List.getElem?_drop, List.getElem?_drop, Nat.add_zero, List.getElem?_eq_getElem hj, List.getElem?_eq_getElem (by rw [h.len]; exact hj)] at h1
  exact Option.some.inj h1
theorem drop_next {l cur : List FltD} {j : Nat} (h : cur.drop j = l.drop j) : cur.drop (j + 1) = l.drop (j + 1) := by
  have := congrArg (List.drop 1) h
  simpa [Nat.add_comm] using this
theorem DelInv.skip {l cur : List FltD} {n : Int} {i j : Nat} (h : DelInv l cur n i j) (hj : j < l.length) (ha : (l[j]'hj).at_ = n) : DelInv l cur n i (j + 1) := by
  have hk := keepF_take l n j hj
  rw [if_pos ha] at hk
  exact ⟨h.len, by rw [hk]; exact h.i_eq, by rw [hk]; exact h.head, drop_next h.tail, by have := h.lt; omega⟩
theorem DelInv.keep {l cur : List FltD} {n : Int} {i j : Nat} (h : DelInv l cur n i j) (hj : j < l.length) (ha : (l[j]'hj).at_ ≠ n) : DelInv l (cur.set i (l[j]'hj)) n (i + 1) (j + 1) := by
  have hk := keepF_take l n j hj
  rw [if_neg ha] at hk
  have hlt := h.lt
  have hlen := h.len
  refine ⟨by rw [List.length_set]; exact hlen, by rw [hk, List.length_append, ← h.i_eq]; rfl, ?_, ?_, by omega⟩
  · rw [hk, List.take_succ_eq_append_getElem (by rw [List.length_set]; omega), List.getElem_set_self, List.take_set_of_le (Nat.le_refl _), h.head]
  · rw [List.drop_set_of_lt (by omega)]
    exact drop_next h.tail
def DelRel (w : World) (g : Nat) (l : List FltD) (tail : List Value) (n : Int) (iv jv : Value) (wx : World) : Prop :=
  ∃ (i j : Nat) (cur : List FltD), j ≤ l.length ∧ iv = .int .i64 (i : Int) ∧ jv = .int .i64 (j : Int) ∧ DelInv l cur n i j ∧ rowB wx g cur tail ∧ Fr [g] w wx
/-- What DeleteFunc leaves. -/
def Deld (g cap : Nat) (l : List FltD) (tail : List Value) (n : Int) (w : World) (e : Ending) (w' : World) : Prop :=
  ∃ cur, e = .returned (.slice (some ⟨g, 0, none⟩) (keepF l n).length cap) ∧ rowB w' g cur tail ∧ cur.length = l.length ∧ cur.take (keepF l n).length = keepF l n ∧ Fr [g] w w'
theorem infoF : (Try.prog.info? 31).map (fun i => (i.zero, i.size, i.bytes)) = some (some (.agg #[.int .i64 0, .int .i64 0]), 2, 16) := by kernel_rfl
theorem splice_rows (cur z : List FltD) (tail : List Value) (i n : Nat) (hi : i ≤ cur.length) (h : i + n = cur.length) (hz : z.length = n) : splice (fcells cur ++ tail) (0 + i * 2) (fcells z) = fcells (cur.take i ++ z) ++ tail := by
  have e1 : (fcells cur ++ tail).take (0 + i * 2) = fcells (cur.take i) := by
    rw [Nat.zero_add, show fcells cur = fcells (cur.take i) ++ fcells (cur.drop i) from by rw [← fcells_append, List.take_append_drop], List.append_assoc]
    rw [List.take_append_of_le_length (by rw [fcells_length, List.length_take]; omega), List.take_of_length_le (by rw [fcells_length, List.length_take]; omega)]
  have e2 : (fcells cur ++ tail).drop (0 + i * 2 + (fcells z).length) = tail := by
    rw [fcells_length, hz, show 0 + i * 2 + n * 2 = (fcells cur).length from by rw [fcells_length]; omega]
    exact List.drop_left
  rw [splice, e1, e2, fcells_append, List.append_assoc]
set_option maxRecDepth 100000 in
theorem del_any (l : List FltD) (tail : List Value) (g cap q p : Nat) (n : Int) (w : World) (hr : rowB w g l tail) (hc : l.length * 2 + tail.length = cap * 2) (hm : cap ≤ maxLen) (hs : Sees w q p n) (hgq : g ≠ q) (hgp : g ≠ p)
    (k : Nat) (hk : k < l.length) (ha : (l[k]'hk).at_ = n) (hb : ∀ j, j < k → ∀ h : j < l.length, (l[j]'h).at_ ≠ n) :
    Calls Try.prog 16 #[.slice (some ⟨g, 0, none⟩) l.length cap, dueV q] w (Deld g cap l tail n w) := by
  obtain ⟨ti, hti, hz0, -, -⟩ := info_parts infoF
  have hm' : cap ≤ 9223372036854775807 := by simpa [maxLen] using hm
  have hfl : faultsAt w (.slice (some ⟨g, 0, none⟩) l.length cap) l := faults_of_owns (owns_of_rowB hr hc hm (List.take_length))
  have HIX := Lib.hid (idx_some l _ q p n w hfl hs k hk ha hb)
  have hinv : DelInv l l n k (k + 1) := by
    have e1 : keepF (l.take (k + 1)) n = l.take k := by
      rw [keepF_take l n k hk, if_pos ha]
      refine keepF_all _ _ (fun f hf => ?_)
      obtain ⟨j, hj, rfl⟩ := List.getElem_of_mem hf
      rw [List.getElem_take]
      rw [List.length_take] at hj
      exact hb j (by omega) (by omega)
    have e2 : (l.take k).length = k := by simp; omega
    exact ⟨rfl, by rw [e1, e2], by rw [e1], rfl, by omega⟩
  have HI := Lib.hid hinv
  have HR := Lib.hid hr
  have HS := Lib.hid hs
  have hlc : l.length ≤ cap := by omega
  have HCC := Lib.hid hc
  have hne : ((k : Int) == -1) = false := beq_eq_false_iff_ne.2 (by omega)
  have HGQ := Lib.hid hgq
  have HGP := Lib.hid hgp
  unfold dueV at HIX ⊢
  clear hfl hs ha hb hinv hr hgq hgp hc
  go_enter Try.func16, Try.ntmps16
  go_wp2_with (go_at_call 15; refine HIX.out.mono ?_; rintro e w1 ⟨rfl, hf1⟩)
  go_loopw [5, 6] (DelRel w g l tail n) (fun _ jv _ => l.length - (intOf jv).toNat)
  case atStart => exact ⟨k, k + 1, l, hk, rfl, by go_num, HI.out, hf1.heap HR.out (by simp), hf1.mono (by simp)⟩
  case round =>
    clear hf1 w1 HIX
    obtain ⟨i, j, cur, hj, rfl, rfl, hI, hrow, hf⟩ := hrel
    by_cases hjn : j < l.length
    · have hd2 : decide (j < l.length) = true := decide_eq_true hjn
      have hij := hI.lt
      obtain ⟨cj0, cj1, -, -⟩ := hrow.get j (by rw [hI.len]; exact hjn)
      rw [hI.at hjn] at cj0 cj1
      have hdue := fun wx (hx : Sees wx q p n) => due_any (l[j]'hjn) q p n wx hx
      have hskip := hI.skip hjn
      have hkeep := hI.keep hjn
      have hset := fun wx (hx : rowB wx g cur tail) => hx.set i (by rw [hI.len]; omega) (l[j]'hjn)
      obtain ⟨f, hfe⟩ : ∃ f, f = l[j]'hjn := ⟨_, rfl⟩
      rw [← hfe] at cj0 cj1 hdue hskip hkeep hset
      have hil : i < cur.length := by rw [hI.len]; omega
      unfold FltD.val at hdue
      have HSE := Lib.hid hset
      have HSW : Hid (Sees wr q p n) := Lib.hid (HS.out.kept hf (by simpa using Ne.symm HGQ.out) (by simpa using Ne.symm HGP.out))
      have HRO := Lib.hid hrow
      have HF := Lib.hid hf
      have HLT := Lib.hid hI.len
      clear hset hrow hf hfe hI
      have hfa := Fr.alloc wr (.cells #[.int .i64 f.at_, .int .i64 f.kind] 31)
      have hba := heap_alloc_new wr (.cells #[.int .i64 f.at_, .int .i64 f.kind] 31)
      have HFA := Lib.hid hfa
      have HBA := Lib.hid hba
      clear hfa hba
      by_cases ha : f.at_ = n
      · have hsk := hskip ha
        rw [show (f.at_ == n) = true from by simp [ha]] at hdue
        have HD := Lib.hid hdue
        have HI2 := Lib.hid hsk
        clear hdue hskip hkeep hsk ha
        go_wp2_with (go_at_call 14; refine (HD.out _ (HSW.out.below HFA.out)).mono ?_; rintro e w1 ⟨rfl, hf1⟩)
        exact ⟨⟨i, j + 1, cur, hjn, rfl, by go_num, HI2.out, hf1.heap (HFA.out.heap HRO.out (by simp)) (by simp), (HF.out.trans HFA.out (n := [g]) (by simp) (by simp)).trans hf1 (by simp) (by simp)⟩, by simp [intOf]; omega⟩
      · have hke := hkeep ha
        rw [show (f.at_ == n) = false from by simp [ha]] at hdue
        have HD := Lib.hid hdue
        have HI2 := Lib.hid hke
        clear hdue hskip hkeep hke ha
        go_wp2_with (go_at_call 14; refine (HD.out _ (HSW.out.below HFA.out)).mono ?_; rintro e w1 ⟨rfl, hf1⟩; have hro1 : rowB w1 g cur tail := hf1.heap (HFA.out.heap HRO.out (by simp)) (by simp); have HRO1 := Lib.hid hro1; obtain ⟨ci0, ci1, cf0, cf1⟩ := hro1.get i hil; obtain ⟨ct0, ct1⟩ := two_of_heap (hf1.heap HBA.out (by simp)); clear hro1)
        refine ⟨⟨i + 1, j + 1, _, hjn, by go_num, by go_num, HI2.out, HSE.out w1 HRO1.out, ?_⟩, by simp [intOf]; omega⟩
        exact ((HF.out.trans HFA.out (n := [g]) (by simp) (by simp)).trans hf1 (n := [g]) (by simp) (by simp)).trans ((Fr.setCell w1 ⟨g, i * 2, none⟩ _).trans (Fr.setCell _ ⟨g, i * 2 + 1, none⟩ _) (n := [g]) (by simp) (by simp)) (by simp) (by simp)
    · have hd2 : decide (j < l.length) = false := decide_eq_false hjn
      have hij := hI.lt
      have hjl : j = l.length := by omega
      have hil : i < l.length := by omega
      have HJ := Lib.hid hjl
      have HLE := Lib.hid hI.len
      have hhd := hI.head
      rw [hjl, List.take_length] at hhd
      have hie := hI.i_eq
      rw [hjl, List.take_length] at hie
      have HHD := Lib.hid hhd
      have HIE := Lib.hid hie
      have HRO := Lib.hid hrow
      have HF := Lib.hid hf
      clear hjl hrow hf hhd hie hI
      go_wp2_with (refine wpL_clearF rfl (.tmp 38) 26 rfl 31 Try.underlying26 ti hti hz0 _ _ _ rfl g (0 + i * 2) (fcells cur ++ tail) 31 HRO.out ?_ ?_ ?_; rotate_left 2; intro w2 hh2 hf2)
      · go_ret
        have hh := hh2.out
        rw [splice_rows cur (List.replicate (l.length - i) fz) tail i (l.length - i) (by rw [HLE.out]; omega) (by rw [HLE.out]; omega) (by simp)] at hh
        refine ⟨cur.take i ++ List.replicate (l.length - i) fz, ?_, hh, ?_, ?_, HF.out.trans hf2 (fun _ h _ => h) (fun _ h _ => h)⟩
        · rw [← HIE.out]; rfl
        · have := HLE.out
          simp
          omega
        · have h1 : (cur.take i).length = i := by have := HLE.out; simp; omega
          rw [← HIE.out, List.take_append_of_le_length (by omega), List.take_take, Nat.min_self, HHD.out]
      · intro _
        rw [Nat.zero_add]
      · rw [List.length_append, fcells_length, HLE.out]
        omega
end Go.Proofs.Ytheanpmgdkajnaa
