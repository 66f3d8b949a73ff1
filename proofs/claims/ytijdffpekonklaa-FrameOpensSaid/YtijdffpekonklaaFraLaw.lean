/- What the statements of layer 7 call: the document's Front as one, awake. -/
import Derived.Test.YtijdffpekonklaaFraK
import Derived.Test.YtijdffpekonklaaFraC
import Derived.Lib.SlBytesConst
namespace Go.Proofs.Ytijdffpekonklaa
open Go.RowKit

theorem rfr_no (bs : List UInt8) (y : Nat) (sv : Value) (w : World) (h : bytesAt w sv bs) (hl : bs.length ≤ 100000) (hy : whyF bs = y) (hy0 : 0 < y) :
    Calls Try.prog 13 #[sv] w fun e w' => e = .returned (bad4 y) ∧ Fr [] w w' := by
  match bs, h, hl, hy with
  | [], h, hl, hy =>
    have : y = 2 := by rw [← hy]; rfl
    subst this
    refine (rf_nil sv w h).mono ?_
    rintro e w' ⟨rfl, rfl⟩
    exact ⟨rfl, Fr.refl _ _⟩
  | c :: r, h, hl, hy =>
    have hd : (c :: r).drop 1 = r := rfl
    cases hf : front r with
    | none =>
      have hlo : lenOf (c :: r) = (if cutB r then 2 else 3, 0, 0) := by simp only [lenOf, hf]
      have hn0 : (lenOf (c :: r)).1 ≠ 0 := by rw [hlo]; split <;> simp
      have hyy : y = if cutB ((c :: r).drop 1) then 2 else 3 := by rw [← hy, whyF, if_neg hn0, hlo]; rfl
      rw [hyy]
      exact rf_none (c :: r) sv w h hl (by simp) hf
    | some x =>
      obtain ⟨n, d⟩ := x
      by_cases hn : n ≤ 1048576
      · have hlo : lenOf (c :: r) = (0, n, d) := by simp only [lenOf, hf, if_pos hn]
        have he : endF (c :: r) = 1 + d + n := by rw [endF, hlo]
        rw [whyF, if_pos (by rw [hlo])] at hy
        by_cases hs : (c :: r).length < endF (c :: r) + 4
        · rw [if_pos hs] at hy
          subst hy
          rw [he] at hs
          exact rf_short (c :: r) n d sv w h hl hf hn hs
        · rw [if_neg hs] at hy
          refine (rf_full (c :: r) sv w h hl (by rw [hlo]) (by omega)).mono ?_
          rintro e w' ⟨hfr, ⟨hk, _⟩ | ⟨hk, he⟩⟩
          · rw [hk, if_pos rfl] at hy; omega
          · rw [hk, if_neg (by simp)] at hy
            subst hy
            exact ⟨he, hfr⟩
      · have hlo : lenOf (c :: r) = (3, 0, 0) := by simp only [lenOf, hf, if_neg hn]
        rw [whyF, if_neg (by rw [hlo]; simp), hlo] at hy
        subst hy
        exact rf_big (c :: r) n d sv w h hl hf (by omega)
def Front7 (bs : List UInt8) (w : World) (e : Ending) (w' : World) : Prop :=
  ∃ lv, e = .returned (.tuple #[.int .u8 ((kindF bs).toNat : Int), lv, .int .i64 ((endF bs + 4 : Nat) : Int), .int .i64 0]) ∧ bytesAt w' lv (loadF bs) ∧ Fr [] w w'
theorem rfr_yes (bs : List UInt8) (sv : Value) (w : World) (h : bytesAt w sv bs) (hl : bs.length ≤ 100000) (hy : whyF bs = 0) :
    Calls Try.prog 13 #[sv] w (Front7 bs w) := by
  obtain ⟨h0, hs, hk⟩ := whyF_ok hy
  refine (rf_full bs sv w h hl h0 hs).mono ?_
  rintro e w' ⟨hfr, ⟨_, lv, he, hb⟩ | ⟨hk', _⟩⟩
  · exact ⟨lv, he, hb, hfr⟩
  · rw [hk] at hk'; cases hk'

theorem whyF_seal0 (k : UInt8) (load : List UInt8) (h : load.length ≤ 1048576) : whyF (sealF k load) = 0 := by
  have := whyF_seal k load [] h
  rwa [List.append_nil] at this
theorem restF_seal0 (k : UInt8) (load : List UInt8) (h : load.length ≤ 1048576) : restF (sealF k load) = [] := by
  have := restF_seal k load [] h
  rwa [List.append_nil] at this
theorem loadF_seal0 (k : UInt8) (load : List UInt8) (h : load.length ≤ 1048576) : loadF (sealF k load) = load := by
  have := loadF_seal k load [] h
  rwa [List.append_nil] at this
/-- A frame is opened as it was sealed. -/
theorem open_seal (k : UInt8) (load : List UInt8) (sv : Value) (w : World) (h : bytesAt w sv (sealF k load)) (hl : load.length ≤ 900000) :
    Calls Try.prog 11 #[sv] w (Opened k load w) := by
  have hfl := form_len10 load.length (by omega)
  have := open_yes (sealF k load) sv w h (by rw [sealF_length]; omega) (whyF_seal0 k load (by omega)) (restF_seal0 k load (by omega))
  rwa [loadF_seal0 k load (by omega)] at this
theorem seal_len (k : UInt8) (load : List UInt8) (h : load.length ≤ 1000) : 6 ≤ (sealF k load).length ∧ (sealF k load).length ≤ 1015 := by
  have h1 := form_len10 load.length (by omega)
  have h2 := form_pos load.length
  rw [sealF_length]; omega

theorem fra_ex : sealF 5 [97] = [5, 1, 97, 118, 123, 36, 218] := by decide +kernel
theorem byteAt {w : World} {a : Option Addr} {n cap : Nat} {bs : List UInt8} (h : bytesAt w (.slice a n cap) bs) : n = bs.length ∧ ∀ (k : Nat) (hk : k < bs.length), ∃ b off, a = some ⟨b, off, none⟩ ∧ w.cell? ⟨b, off + k, none⟩ = some (.int .u8 ((bs[k]'hk).toNat : Int)) := by
  rcases h with ⟨_, _, e, _, rfl⟩ | ⟨b, off, cap', e, _, _, hcell⟩
  · cases e; exact ⟨rfl, fun k hk => by simp at hk⟩
  · cases e
    exact ⟨rfl, fun k hk => ⟨b, off, rfl, hcell k hk⟩⟩
set_option maxRecDepth 100000 in
theorem awake_any (w : World) :
    Calls Try.prog 7 #[] w fun e w' => e = .returned (.bool true) ∧ Fr [] w w' := by
  have kc := fun (w : World) (C : Array Value) (n c : Nat) => Lib.run_convert_bytes_const (P := Try.prog) w 22 5 C n c Try.underlying22 Try.underlying5
  have HS := Lib.hid (fun sv wx (hx : bytesAt wx sv [97]) => seal_any 5 [97] sv wx hx (by simp))
  have HO := Lib.hid (fun sv wx (hx : bytesAt wx sv (sealF 5 [97])) => open_seal 5 [97] sv wx hx (by simp))
  rw [fra_ex] at HS HO
  rw [show (((5 : UInt8).toNat : Nat) : Int) = 5 from rfl] at HS
  go_enter Try.func7, Try.ntmps7
  go_wp2_with fail
  refine (HS.out _ _ (bytesAt_marked w [97] 5 _ 1 rfl (by simp [maxLen]) _ rfl)).mono ?_
  rintro e w1 ⟨v1, rfl, hb1, hf1⟩
  have hf01 : Fr [] w w1 := (Fr.alloc w _).trans hf1 (by simp) (by simp)
  obtain ⟨a1, n1, c1, rfl⟩ := hb1.slice
  have hn1 : n1 = 7 := (byteAt hb1).1
  obtain ⟨b, off, rfl, k0⟩ := (byteAt hb1).2 0 (by simp)
  obtain ⟨b', off', e1, k1⟩ := (byteAt hb1).2 1 (by simp)
  cases e1
  obtain ⟨b', off', e1, k2⟩ := (byteAt hb1).2 2 (by simp)
  cases e1
  subst hn1
  have HK0 : Hid (w1.cell? ⟨b, off, none⟩ = some (.int .u8 5)) := k0
  have HK1 : Hid (w1.cell? ⟨b, off + 1, none⟩ = some (.int .u8 1)) := k1
  have HK2 : Hid (w1.cell? ⟨b, off + 2, none⟩ = some (.int .u8 97)) := k2
  clear kc hf1 HS k0 k1 k2
  go_wp2_with (go_at_call 11; refine (HO.out _ _ hb1).mono ?_; rintro e w2 ⟨v2, rfl, hb2, hf2⟩; obtain ⟨a2, n2, c2, rfl⟩ := hb2.slice; have j0 := hf2.cell HK0.out (by simp); have j1 := hf2.cell HK1.out (by simp); have j2 := hf2.cell HK2.out (by simp); have c1' := run_conv_bytes (P := Try.prog) hb2 22 5 9 Try.underlying22 Try.underlying5 Try.underlying9)
  go_ret
  exact ⟨rfl, hf01.trans hf2 (by simp) (by simp)⟩
end Go.Proofs.Ytijdffpekonklaa
