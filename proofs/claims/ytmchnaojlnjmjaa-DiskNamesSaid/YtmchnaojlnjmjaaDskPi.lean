/- The program's disk (layer 11): Flip, Names; Arm and Fall of its meter. -/
import Derived.Test.YtmchnaojlnjmjaaDskPf
import Derived.Test.YtmchnaojlnjmjaaInoFl
import Derived.Test.YtmchnaojlnjmjaaFt
namespace Go.Proofs.Ytmchnaojlnjmjaa
open Go.RowKit Go.Maps

theorem LayOk.same {L L' : Lay} {d d' : DskD} (h : LayOk L d) (h1 : L'.fs = L.fs) (h2 : L'.mD = L.mD) (h3 : L'.mM = L.mM) (k1 : d'.dn = d.dn) (k2 : d'.ds = d.ds) (k3 : d'.ops = d.ops) (k4 : d'.steps = d.steps) (k5 : d'.room = d.room) : LayOk L' d' :=
  ⟨fun n hn => by unfold reachK at hn; rw [k1, k2, k3] at hn; rw [h1]; exact h.re n hn, by rw [h2, k4]; exact h.md, by rw [h3, k4]; exact h.mm, by rw [k1, k4]; exact h.nl, by rw [k2, k3, k4]; exact h.sl, by rw [k5]; exact h.rm⟩
set_option maxRecDepth 100000 in
theorem ilen_nil (w : World) : Calls Try.prog 29 #[.pointer none] w fun e w' => e = .returned (.int .i64 0) ∧ w = w' := by
  go_enter Try.func29, Try.ntmps29
  go_wp2_with fail
  go_ret
  exact ⟨rfl, rfl⟩
set_option maxRecDepth 100000 in
theorem iflip_nil (bit : Int) (w : World) (h64 : bit ≤ 9223372036854775807) :
    Calls Try.prog 56 #[.pointer none, .int .i64 bit] w fun e w' => e = .returned (.bool false) ∧ w = w' := by
  by_cases hn : bit < 0
  · have hd : decide (bit < 0) = true := decide_eq_true hn
    go_enter Try.func56, Try.ntmps56
    go_wp2_with fail
    go_ret
    exact ⟨rfl, rfl⟩
  · obtain ⟨q, rfl⟩ := Int.eq_ofNat_of_zero_le (show 0 ≤ bit by omega)
    have hd : decide ((q : Int) < 0) = false := decide_eq_false hn
    have hd2 : decide ((0 : Int) ≤ (q : Int) / 8) = true := decide_eq_true (by omega)
    clear hn
    go_enter Try.func56, Try.ntmps56
    go_wp2_with (go_at_call 29; refine (ilen_nil _).mono ?_; rintro e w2 ⟨rfl, rfl⟩)
    go_ret
    exact ⟨rfl, rfl⟩
set_option maxRecDepth 100000 in
theorem pflip_any {w : World} {px pm : Nat} {d : DskD} {B : List Nat} {k : Nat} (m : List UInt8) (bit : Int) (hp : PK w px pm d B) (hk : AllOk d k) (hk4 : k ≤ 400) (hm : m.length ≤ maxLen) (h64 : bit ≤ 9223372036854775807) :
    Calls Try.prog 39 #[.pointer (some ⟨px, 0, none⟩), encStr m, .int .i64 bit] w (DidK PK px pm (flipK d m bit).1 (.bool (flipK d m bit).2) B w) := by
  obtain ⟨L, h, hL, rfl⟩ := hp
  cases hlk : lookL d.dn m with
  | none =>
    have hmm : flipK d m bit = (d, false) := by unfold flipK; rw [hlk]
    rw [hmm]
    have HFI := Lib.hid (pfile_none h m hm hlk)
    have HH := Lib.hid h
    have HL := Lib.hid hL
    clear h hL hk hmm hlk
    go_enter Try.func39, Try.ntmps39
    go_wp2_with (first
      | (go_at_call 25; refine HFI.out.mono ?_; rintro e w2 ⟨rfl, rfl⟩)
      | (go_at_call 56; refine (iflip_nil bit _ h64).mono ?_; rintro e w3 ⟨rfl, rfl⟩))
    go_ret
    exact did_mk (HH.out.same (Fr.refl _ _)) HL.out
  | some v =>
    obtain ⟨n, p, g, ev, hat, hnl, hfk⟩ := hL.found h hk hlk
    have hfm : fileN d n ∈ d.files := by unfold fileN; simp only [List.getD, List.getElem?_eq_getElem hnl, Option.getD_some]; exact List.getElem_mem hnl
    have hln := hk.ok.len _ hfm
    have hpr := hk.ok.pre _ hfm
    have hfl := hk.ok.fl
    rw [ev] at hlk
    have HFI := Lib.hid (pfile_some h m hm n hlk hat (by omega))
    have hrw : flipK d m bit = if bit < 0 ∨ 8 * ((fileN d n).now.length : Int) ≤ bit then (d, false) else ({ d with files := d.files.set n ⟨flipC (fileN d n).now bit, (flipC (fileN d n).now bit).take (fileN d n).safe.length⟩ }, true) := by
      unfold flipK putK
      rw [hlk]
      simp only
      rw [ev] at hfk
      rw [hfk]; rfl
    by_cases hb : bit < 0 ∨ 8 * ((fileN d n).now.length : Int) ≤ bit
    · have hmm : flipK d m bit = (d, false) := by rw [hrw, if_pos hb]
      rw [hmm]
      have HFL := Lib.hid (iflip_no p g _ _ bit w (h.fi n p g hat) hb h64)
      have HH := Lib.hid h
      have HL := Lib.hid hL
      clear h hL hk hmm hlk hat ev hfk hnl hfm hln hpr hfl hrw hb
      go_enter Try.func39, Try.ntmps39
      go_wp2_with (first
        | (go_at_call 25; refine HFI.out.mono ?_; rintro e w2 ⟨rfl, rfl⟩)
        | (go_at_call 56; refine HFL.out.mono ?_; rintro e w3 ⟨rfl, rfl⟩))
      go_ret
      exact did_mk (HH.out.same (Fr.refl _ _)) HL.out
    · have hmm : flipK d m bit = ({ d with files := d.files.set n ⟨flipC (fileN d n).now bit, (flipC (fileN d n).now bit).take (fileN d n).safe.length⟩ }, true) := by rw [hrw, if_neg hb]
      rw [hmm]
      have hfl2 := iflip_any p g _ _ bit w (h.fi n p g hat) (by omega) h64
      have hin : inB (fileN d n).now.length bit = true := decide_eq_true (by omega)
      rw [hin] at hfl2
      have HFL := Lib.hid hfl2
      have hsl : ((flipC (fileN d n).now bit).take (fileN d n).safe.length).length = (fileN d n).safe.length := by
        rw [List.length_take, flipC_length]
        have := congrArg List.length hpr
        rw [List.length_take] at this
        omega
      have HSL := Lib.hid hsl
      have HH := Lib.hid h
      have HL := Lib.hid hL
      have HAT := Lib.hid hat
      clear h hL hk hmm hlk hat ev hfk hnl hfm hln hpr hfl hrw hb hsl hin hfl2
      go_enter Try.func39, Try.ntmps39
      go_wp2_with (first
        | (go_at_call 25; refine HFI.out.mono ?_; rintro e w2 ⟨rfl, rfl⟩)
        | (go_at_call 56; refine HFL.out.mono ?_; rintro e w3 ⟨rfl, hF, hf3⟩))
      go_ret
      rw [← HSL.out] at hF
      obtain ⟨L2, k1, k2, k3, hw2⟩ := HH.out.file HAT.out ⟨flipC (fileN d n).now bit, (flipC (fileN d n).now bit).take (fileN d n).safe.length⟩ hF (hf3.mono (by simp)) (.inl rfl)
      exact did_mk hw2 (HL.out.put _ (atFs_lt HAT.out) k1 k2 k3)
theorem parm_any {w : World} {px pm : Nat} {d : DskD} {B : List Nat} {k : Nat} (fv : Value) (a i : Int) (hp : PK w px pm d B) (hk : AllOk d k) (hk4 : k ≤ 400) (hfv : faultsAt w fv [⟨a, i⟩]) (hfb : ∀ j, fv.ownBlock = some j → j ∉ B) :
    Calls Try.prog 37 #[.pointer (some ⟨pm, 0, none⟩), fv] w fun e w' => ∃ c : Int, DidK PK px pm (armK d a i) (.int .i64 c) B w e w' := by
  obtain ⟨L, h, hL, rfl⟩ := hp
  have hst := hk.ok.st
  have hle := liveF_le d.armed d.steps
  have hal := hk.al
  refine (arm_any pm L.Bm d.steps d.down (liveF d.armed d.steps) [⟨a, i⟩] fv w h.mt hfv ⟨hk.ok.st0, by omega⟩ (by simp only [List.length_singleton]; omega) (fun j hj _ hm => hfb j hj (Lay.blocks_iff.2 (.inr (.inr (.inl hm)))))).mono ?_
  rintro e w' ⟨rfl, ht⟩
  obtain ⟨L2, k1, k2, k3, hw⟩ := h.meter ht (d.armed ++ armF [⟨a, i⟩] d.steps) (liveF_arm _ _ _).symm
  have hm : armK d a i = { d with armed := d.armed ++ armF [⟨a, i⟩] d.steps } := by
    unfold armK armF
    by_cases hc : 1 ≤ a ∧ a ≤ 1099511627776 ∧ 1 ≤ i ∧ i ≤ 3
    · rw [if_pos hc, List.filter_cons_of_pos ((mayF_iff _).2 ⟨hc.2.2.1, hc.2.2.2, hc.1, hc.2.1⟩)]; rfl
    · rw [if_neg hc, List.filter_cons_of_neg (fun q => hc (by obtain ⟨q1, q2, q3, q4⟩ := (mayF_iff _).1 q; exact ⟨q3, q4, q1, q2⟩))]
      simp
  rw [hm]
  exact ⟨_, did_mk hw (hL.same k1 k2 k3 rfl rfl rfl rfl rfl)⟩
theorem pfall_any {w : World} {px pm : Nat} {d : DskD} {B : List Nat} (hp : PK w px pm d B) :
    Calls Try.prog 38 #[.pointer (some ⟨pm, 0, none⟩)] w (DidK PK px pm { d with down := true } (.tuple #[]) B w) := by
  obtain ⟨L, h, hL, rfl⟩ := hp
  refine (mfall_any pm L.Bm d.steps d.down (liveF d.armed d.steps) w h.mt).mono ?_
  rintro e w' ⟨rfl, ht⟩
  obtain ⟨L2, k1, k2, k3, hw⟩ := h.meter ht d.armed rfl
  exact did_mk hw (hL.same k1 k2 k3 rfl rfl rfl rfl rfl)
set_option maxRecDepth 100000 in
theorem pnames_any {w : World} {px pm : Nat} {d : DskD} {B : List Nat} {k : Nat} (hp : PK w px pm d B) (hk : AllOk d k) (hk4 : k ≤ 400) :
    Calls Try.prog 20 #[.pointer (some ⟨px, 0, none⟩)] w fun e w' => ∃ a c, e = .returned (.slice a (if d.down then [] else d.dn.map (·.1)).length c) ∧ cellsAt w' (.slice a (if d.down then [] else d.dn.map (·.1)).length c) ((if d.down then [] else d.dn.map (·.1)).map encStr) ∧ Fr [] w w' := by
  obtain ⟨L, h, hL, rfl⟩ := hp
  obtain ⟨c0, c1, c2, c3, c4, f2, f3⟩ := h.cells
  have hdo := mdown_any pm L.Bm _ _ _ w h.mt
  have hmd := hL.md
  have hst := hk.ok.st
  cases hdn : d.down with
  | true =>
    rw [hdn] at hdo
    have HDO := Lib.hid hdo
    clear h hL hk hdo hdn hmd hst
    go_enter Try.func20, Try.ntmps20
    go_wp2_with (go_at_call 17; refine HDO.out.mono ?_; rintro e w1 ⟨rfl, rfl⟩)
    go_ret
    exact ⟨none, 0, rfl, cellsAt.nil _, Fr.refl _ _⟩
  | false =>
    rw [hdn] at hdo
    have HDO := Lib.hid hdo
    have HLI := Lib.hid (plisted_any h hk.ok.sn (by omega))
    clear h hL hk hdo hdn hmd hst
    go_enter Try.func20, Try.ntmps20
    go_wp2_with (first
      | (go_at_call 17; refine HDO.out.mono ?_; rintro e w1 ⟨rfl, rfl⟩)
      | (go_at_call 26; refine HLI.out.mono ?_; rintro e w2 ⟨v, rfl, hv, hf2⟩))
    go_ret
    obtain ⟨a0, cc0, rfl, hlc, hmc⟩ := names_slice hv
    refine ⟨a0, cc0, ?_, ?_, hf2⟩
    · simp
    · have := cellsAt_of_owns (cs := (d.dn.map (·.1)).map encStr) (by simpa using hv)
      simpa using this
end Go.Proofs.Ytmchnaojlnjmjaa
