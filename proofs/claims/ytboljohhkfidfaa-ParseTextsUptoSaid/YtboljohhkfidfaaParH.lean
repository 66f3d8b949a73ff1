/- ParseTexts (layer 13), whatever the program's Text is, so long as it gives lines as text. -/
import Derived.Test.YtboljohhkfidfaaParF
import Derived.BigQuiet
namespace Go.Proofs.Ytboljohhkfidfaa
open Go.RowKit

/-- Texts of lines are short enough. -/
def shortL (l : List LineD) : Prop := ∀ x ∈ l, x.name.length ≤ 1048576 ∧ ∀ a ∈ x.alts, ∀ i ∈ a, i.text.length ≤ 1048576
theorem altT_len {c : Nat} : ∀ (a : List ItemD), (∀ i ∈ a, i.text.length ≤ c) → (altT a).length ≤ a.length * (c + 3)
  | [], _ => by simp [altT]
  | i :: a, h => by
    have ih := altT_len (c := c) a (fun j hj => h j (by simp [hj]))
    have h1 := h i (by simp)
    have h2 := item_len i
    have e : altT (i :: a) = itemT i ++ altT a := by simp [altT]
    rw [e, List.length_append, List.length_cons, Nat.add_mul, Nat.one_mul]
    omega
theorem altsT_len {c n : Nat} : ∀ (l : List (List ItemD)), (∀ a ∈ l, (altT a).length ≤ c) → l.length ≤ n → (altsT l).length ≤ n * (c + 2)
  | [], _, _ => by simp [altsT]
  | a :: l, h, hn => by
    have hb := alts_bars (l := a :: l) (by simp)
    have key : ∀ (q : List (List ItemD)), (∀ b ∈ q, (altT b).length ≤ c) → (barsT q).length ≤ q.length * (c + 2) := by
      intro q
      induction q with
      | nil => intro _; simp [barsT]
      | cons b q ih =>
        intro hq
        have h1 := hq b (by simp)
        have h2 := ih (fun d hd => hq d (by simp [hd]))
        have e : barsT (b :: q) = [32, 124] ++ altT b ++ barsT q := by simp [barsT]
        have e2 : (b :: q).length * (c + 2) = q.length * (c + 2) + (c + 2) := by rw [List.length_cons, Nat.add_mul, Nat.one_mul]
        rw [e2, e, List.length_append, List.length_append]
        simp only [List.length_cons, List.length_nil]
        omega
    have hk := key (a :: l) h
    have : (a :: l).length * (c + 2) ≤ n * (c + 2) := Nat.mul_le_mul_right _ hn
    omega
theorem textD_len {c : Nat} : ∀ (l : List LineD), (∀ x ∈ l, (lineT x).length ≤ c) → (textD l).length ≤ l.length * c
  | [], _ => by simp [textD]
  | x :: l, h => by
    have ih := textD_len (c := c) l (fun y hy => h y (by simp [hy]))
    have h1 := h x (by simp)
    have e : textD (x :: l) = lineT x ++ textD l := by simp [textD]
    rw [e, List.length_append, List.length_cons, Nat.add_mul, Nat.one_mul]
    omega
/-- The first k lines are few enough. -/
def okT (l : List LineD) (k : Nat) : Prop := ∀ x ∈ l.take k, x.alts.length ≤ 10 ∧ x.name.length ≤ 40 ∧ ∀ a ∈ x.alts, a.length ≤ 20
theorem okT_next {l : List LineD} {k : Nat} (h : okT l k) (hk : k < l.length) (h1 : (l[k]'hk).alts.length ≤ 10) (h2 : (l[k]'hk).name.length ≤ 40) (h3 : ∀ a ∈ (l[k]'hk).alts, a.length ≤ 20) : okT l (k + 1) := by
  intro x hx
  rw [List.take_succ_eq_append_getElem hk] at hx
  rcases List.mem_append.1 hx with hx | hx
  · exact h x hx
  · obtain rfl : x = l[k]'hk := by simpa using hx
    exact ⟨h1, h2, h3⟩
theorem okT_sum {c : Nat} {l : List LineD} (hs : ∀ x ∈ l, ∀ a ∈ x.alts, ∀ i ∈ a, i.text.length ≤ c) (h : okT l l.length) : (textD l).length ≤ l.length * (10 * (20 * (c + 3) + 2) + 45) := by
  unfold okT at h
  rw [List.take_length] at h
  refine textD_len l (fun x hx => ?_)
  obtain ⟨h1, h2, h3⟩ := h x hx
  have ha := altsT_len (c := 20 * (c + 3)) (n := 10) x.alts (fun a ha => Nat.le_trans (altT_len a (hs x hx a ha)) (Nat.mul_le_mul_right _ (h3 a ha))) h1
  unfold lineT
  simp only [List.length_append, List.length_cons, List.length_nil]
  omega
theorem okT_len {l : List LineD} (hs : shortL l) (hn : l.length ≤ 20) (h : okT l l.length) : (textD l).length ≤ 10000000000 := by
  have key := okT_sum (fun x hx => (hs x hx).2) h
  exact Nat.le_trans key (Nat.le_trans (Nat.mul_le_mul_right _ hn) (by decide))
def TsRel (w : World) (l : List LineD) (iv : Value) (wx : World) : Prop := ∃ k : Nat, k ≤ l.length ∧ iv = .int .i64 (k : Int) ∧ okT l k ∧ Fr [] w wx
def TyRel (w : World) (al : List (List ItemD)) (iv : Value) (wx : World) : Prop := ∃ k : Nat, k ≤ al.length ∧ iv = .int .i64 (k : Int) ∧ (∀ a ∈ al.take k, a.length ≤ 20) ∧ Fr [] w wx
theorem shorts_next {al : List (List ItemD)} {k : Nat} (h : ∀ a ∈ al.take k, a.length ≤ 20) (hk : k < al.length) (h1 : (al[k]'hk).length ≤ 20) : ∀ a ∈ al.take (k + 1), a.length ≤ 20 := by
  intro x hx
  rw [List.take_succ_eq_append_getElem hk] at hx
  rcases List.mem_append.1 hx with hx | hx
  · exact h x hx
  · obtain rfl : x = al[k]'hk := by simpa using hx
    exact h1
set_option maxRecDepth 100000 in
set_option maxHeartbeats 4000000 in
theorem parsetexts_any (hA : ProgPar) (hT : ProgTxt) (l : List LineD) (v : Value) (w : World) (h : linesAt w v l) (hs : shortL l) : Calls Try.prog 4 #[v] w fun e w' => e = .returned (.bool true) ∧ Fr [] w w' := by
  have HAW := Lib.hid (fun wx => parawake_any hA wx)
  obtain ⟨a1, c1, rfl, hc1, hm1⟩ := h.form
  have HL := Lib.hid h
  have HS := Lib.hid hs
  have HTT := Lib.hid hT
  clear h hs hA hT
  by_cases hn : l.length ≤ 20
  · have hd0 : decide (20 < (l.length : Int)) = false := decide_eq_false (by omega)
    go_enter Try.func4, Try.ntmps4
    go_wp2_with fail
    go_loopw [3] (TsRel w l) (fun iv _ => l.length - (intOf iv).toNat)
    case atStart => exact ⟨0, Nat.zero_le _, rfl, fun x hx => by simp at hx, Fr.refl _ _⟩
    case round =>
      obtain ⟨i, hi, rfl, hok, hf⟩ := hrel
      have HF := Lib.hid hf
      have HOK := Lib.hid hok
      clear hok
      by_cases hin : i < l.length
      · have hd1 : decide (i < l.length) = true := decide_eq_true hin
        obtain ⟨b1, o1, ua, rfl, k0, k1, hal⟩ := line_cells HL.out i hin
        obtain ⟨L, hLe⟩ : ∃ L, L = l[i]'hin := ⟨_, rfl⟩
        rw [← hLe] at k0 hal
        have HLE := Lib.hid hLe
        clear hLe
        obtain ⟨nm, al⟩ := L
        simp only at k0 hal
        obtain ⟨a3, c3, rfl, hc3, hm3⟩ := hal.form
        have HK1 := Lib.hid k1
        have HA := Lib.hid hal
        have r0 := hf.cell k0 (by simp)
        have r1 := hf.cell k1 (by simp)
        clear k0 k1 hal hf
        by_cases hq1 : al.length ≤ 10
        · have hd2 : decide (10 < (al.length : Int)) = false := decide_eq_false (by omega)
          by_cases hq2 : nm.length ≤ 40
          · have hd3 : decide (40 < (nm.length : Int)) = false := decide_eq_false (by omega)
            go_wp2_with fail
            go_loopw [4] (TyRel w al) (fun iv _ => al.length - (intOf iv).toNat)
            case atStart => exact ⟨0, Nat.zero_le _, rfl, fun x hx => by simp at hx, HF.out⟩
            case round =>
              obtain ⟨k, hk, rfl, hsh, hf2⟩ := hrel
              have HF2 := Lib.hid hf2
              have HSH := Lib.hid hsh
              have s1 := hf2.cell HK1.out (by simp)
              clear hsh r0 r1
              by_cases hkn : k < al.length
              · have hd4 : decide (k < al.length) = true := decide_eq_true hkn
                obtain ⟨b3, o3, wa, rfl, p0, hia⟩ := alt_cells HA.out k hkn
                obtain ⟨its, hits⟩ : ∃ its, its = al[k]'hkn := ⟨_, rfl⟩
                rw [← hits] at hia
                have HITS := Lib.hid hits
                obtain ⟨a5, c5, rfl, hc5, hm5⟩ := hia.form
                have s2 := hf2.cell p0 (by simp)
                clear hits p0 hia hf2
                by_cases hq3 : its.length ≤ 20
                · have hd5 : decide (20 < (its.length : Int)) = false := decide_eq_false (by omega)
                  go_wp2_with fail
                  exact ⟨⟨k + 1, by omega, by go_num, shorts_next HSH.out hkn (by rw [← HITS.out]; exact hq3), HF2.out⟩, by simp [intOf]; omega⟩
                · have hd5 : decide (20 < (its.length : Int)) = true := decide_eq_true (by omega)
                  go_wp2_with (go_at_call 6; refine (HAW.out _).mono ?_; rintro e w4 ⟨rfl, hf4⟩)
                  go_ret
                  exact ⟨rfl, HF2.out.trans hf4 (by simp) (by simp)⟩
              · have hd4 : decide (k < al.length) = false := decide_eq_false hkn
                obtain rfl : k = al.length := by omega
                clear hf2
                go_wp2_with fail
                refine ⟨⟨i + 1, by omega, by go_num, okT_next HOK.out hin (by rw [← HLE.out]; exact hq1) (by rw [← HLE.out]; exact hq2) (by rw [← HLE.out]; have := HSH.out; rw [List.take_length] at this; exact this), HF2.out⟩, by simp [intOf]; omega⟩
          · have hd3 : decide (40 < (nm.length : Int)) = true := decide_eq_true (by omega)
            go_wp2_with (go_at_call 6; refine (HAW.out _).mono ?_; rintro e w4 ⟨rfl, hf4⟩)
            go_ret
            exact ⟨rfl, HF.out.trans hf4 (by simp) (by simp)⟩
        · have hd2 : decide (10 < (al.length : Int)) = true := decide_eq_true (by omega)
          go_wp2_with (go_at_call 6; refine (HAW.out _).mono ?_; rintro e w4 ⟨rfl, hf4⟩)
          go_ret
          exact ⟨rfl, HF.out.trans hf4 (by simp) (by simp)⟩
      · have hd1 : decide (i < l.length) = false := decide_eq_false hin
        obtain rfl : i = l.length := by omega
        have hlen := okT_len HS.out hn HOK.out
        have HX := Lib.hid (fun wx (h : linesAt wx (.slice a1 l.length c1) l) => HTT.out l _ wx h hlen)
        have HY := Lib.hid (fun wx (h : linesAt wx (.slice a1 l.length c1) l) => text_any l _ wx h (by omega))
        obtain ⟨T, hT1⟩ : ∃ T, T = (textD l).toArray := ⟨_, rfl⟩
        have hTe : encStr (textD l) = .string ⟨T⟩ := by rw [hT1]
        simp only [hTe] at HX HY
        clear hTe hT1 hlen hf
        go_wp2_with (first
          | (go_at_call 6; refine (HAW.out _).mono ?_; rintro e w7 ⟨rfl, hf7⟩)
          | (go_at_call 11; refine (HY.out _ ((HL.out.below HF.out).below hf5)).mono ?_; rintro e w6 ⟨rfl, hf6⟩)
          | (go_at_call 10; refine (HX.out _ (HL.out.below HF.out)).mono ?_; rintro e w5 ⟨rfl, hf5⟩))
        go_ret
        exact ⟨rfl, ((HF.out.trans hf5 (by simp) (n := []) (by simp)).trans hf6 (by simp) (n := []) (by simp)).trans hf7 (by simp) (by simp)⟩
  · have hd0 : decide (20 < (l.length : Int)) = true := decide_eq_true (by omega)
    go_enter Try.func4, Try.ntmps4
    go_wp2_with (go_at_call 6; refine (HAW.out _).mono ?_; rintro e w4 ⟨rfl, hf4⟩)
    go_ret
    exact ⟨rfl, hf4⟩
end Go.Proofs.Ytboljohhkfidfaa
