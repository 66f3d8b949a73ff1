/- The program's disk (layer 11): Used, New, forget, SyncDir. -/
import Derived.Test.YtmchnaojlnjmjaaGreatDskPa
import Derived.Test.YtmchnaojlnjmjaaGreatUs
import Derived.LoopTactic
namespace Go.Proofs.YtmchnaojlnjmjaaGreat
open Go.RowKit Go.Maps

theorem LayOk.found {w : World} {px pm k : Nat} {L : Lay} {d : DskD} (hL : LayOk L d) (h : PkC w px pm L d) (hk : AllOk d k) {m : List UInt8} {v : Int} (hl : lookL d.dn m = some v) : ∃ n p g : Nat, v = (n : Int) ∧ atFs L.fs n = some (p, g) ∧ n < d.files.length ∧ fileK d v = fileN d n := by
  have hm := mem_look hl
  obtain ⟨h0, h1⟩ := hk.ok.nums _ hm
  have hr := hL.re v (.inl ⟨_, hm, rfl⟩)
  obtain ⟨⟨p, g⟩, hpg⟩ := Option.isSome_iff_exists.1 hr
  exact ⟨v.toNat, p, g, by simp only at h0; omega, hpg, h1, rfl⟩
/-- A name of the list. -/
theorem names_at {w1 wx : World} {base : Nat} {l : List Ent} {a : Option Addr} {c : Nat} (hv : w1.ownsRow base 9 1 (.slice a l.length c) l.length ((l.map (·.1)).map encStr)) (hf : Fr [] w1 wx) (k : Nat) (hk : k < l.length) : ∃ b off, a = some ⟨b, off, none⟩ ∧ wx.cell? ⟨b, off + k, none⟩ = some (encStr (l[k]'hk).1) := by
  have hc : cellsAt w1 (.slice a l.length c) ((l.map (·.1)).map encStr) := cellsAt_of_owns (by simpa using hv)
  obtain ⟨b, off, rfl, -, h⟩ := (hc.below hf).get (i := k) (by simpa using hk)
  refine ⟨b, off, rfl, ?_⟩
  rw [h k (by simpa using hk)]
  simp
theorem names_slice {w1 : World} {base : Nat} {l : List Ent} {v : Value} (hv : w1.ownsRow base 9 1 v l.length ((l.map (·.1)).map encStr)) : ∃ a c, v = .slice a l.length c ∧ l.length ≤ c ∧ c ≤ 9223372036854775807 := by
  obtain ⟨a, c, rfl, h1, h2⟩ := owns_slice hv
  exact ⟨a, c, rfl, h1, by simpa [maxLen] using h2⟩
def PUsedRel (w : World) (d : DskD) (nv iv : Value) (wx : World) : Prop := ∃ k : Nat, k ≤ d.dn.length ∧ nv = .int .i64 ((usedTo d k : Nat) : Int) ∧ iv = .int .i64 (k : Int) ∧ Fr [] w wx
set_option maxRecDepth 100000 in
set_option maxHeartbeats 1000000 in
theorem pused_any {w : World} {px pm k : Nat} {L : Lay} {d : DskD} (h : PkC w px pm L d) (hL : LayOk L d) (hk : AllOk d k) (hk4 : k ≤ 900) :
    Calls Tryz.prog 38 #[.pointer (some ⟨px, 0, none⟩)] w fun e w' => e = .returned (.int .i64 ((usedK d : Nat) : Int)) ∧ Fr [] w w' := by
  have hst := hk.ok.st
  have hnl := hk.ok.nl
  have hmd := hL.md
  have HLI := Lib.hid (plisted_any h hk.ok.sn (by omega))
  have HH := Lib.hid h
  have HL := Lib.hid hL
  have HK := Lib.hid hk
  have HUL := Lib.hid (usedTo_le d 1000000 (fun f hf => by have := hk.ok.len f hf; omega))
  have HLN := Lib.hid (fun (f : FileD) (hf : f ∈ d.files) => (show f.now.length ≤ 1000000 by have := hk.ok.len f hf; omega))
  have hs := hk.ok.sn
  have HS := Lib.hid hs
  obtain ⟨U, hU⟩ : ∃ U, U = usedK d := ⟨_, rfl⟩
  rw [← hU]
  have HU := Lib.hid hU
  clear h hL hk hs hU hst hmd
  go_enter Tryz.func38, Tryz.ntmps38
  go_wp2_with (go_at_call 46; refine HLI.out.mono ?_; rintro e w1 ⟨v, rfl, hv, hf1⟩; obtain ⟨a0, c0, rfl, hlc, hmc⟩ := names_slice hv)
  have HV := Lib.hid hv
  have HF1 := Lib.hid hf1
  clear hv hf1
  go_loopw [3, 9] (PUsedRel w1 d) (fun _ iv _ => d.dn.length - (intOf iv).toNat)
  case atStart => exact ⟨0, Nat.zero_le _, rfl, rfl, Fr.refl _ _⟩
  case round =>
    obtain ⟨i, hi, rfl, rfl, hf⟩ := hrel
    have HF := Lib.hid hf
    by_cases hin : i < d.dn.length
    · have hd2 : decide (i < d.dn.length) = true := decide_eq_true hin
      obtain ⟨b, off, rfl, hc⟩ := names_at HV.out hf i hin
      have hlk := look_mem HS.out _ (List.getElem_mem hin)
      obtain ⟨n, p, g, e1, e2, e3, e4⟩ := HL.out.found HH.out HK.out hlk
      have hun := usedTo_next d i hin
      have hul := HUL.out i (by omega)
      rw [e4] at hun
      have hfm : fileN d n ∈ d.files := by unfold fileN; simp only [List.getD, List.getElem?_eq_getElem e3, Option.getD_some]; exact List.getElem_mem e3
      have hfl := HLN.out _ hfm
      rw [e1] at hlk
      have hnm := HK.out.okn _ (List.getElem_mem hin)
      have hk3 := HK.out.ok.fl
      have hPw := HH.out.below (HF1.out.trans hf (by simp) (n := []) (by simp))
      have HFI := Lib.hid (pfile_some hPw _ hnm n hlk e2 (by omega))
      have HLE := Lib.hid (ilen_any p g _ _ wr (hPw.fi n p g e2))
      obtain ⟨N, hN⟩ : ∃ N, N = (fileN d n).now.length := ⟨_, rfl⟩
      rw [← hN] at HLE hun hfl
      obtain ⟨nm, hnme⟩ : ∃ nm, nm = (d.dn[i]'hin).1 := ⟨_, rfl⟩
      rw [← hnme] at hc HFI
      have HUN := Lib.hid hun
      obtain ⟨u, hu⟩ : ∃ u, u = usedTo d i := ⟨_, rfl⟩
      rw [← hu] at hul HUN ⊢
      clear hf hlk e1 e2 e3 e4 hun hfm hnm hk3 hPw hN hnme hu
      go_wp2_with (first
        | (go_at_call 42; refine HFI.out.mono ?_; rintro e w2 ⟨rfl, rfl⟩)
        | (go_at_call 49; refine HLE.out.mono ?_; rintro e w3 ⟨rfl, rfl⟩))
      exact ⟨⟨i + 1, by omega, by rw [HUN.out]; rfl, by go_num, HF.out⟩, by simp [intOf]; omega⟩
    · have hd2 : decide (i < d.dn.length) = false := decide_eq_false hin
      obtain rfl : i = d.dn.length := by omega
      clear hf
      rw [usedTo_all, ← HU.out]
      go_wp2_with fail
      go_ret
      exact ⟨rfl, HF1.out.trans HF.out (by simp) (by simp)⟩
end Go.Proofs.YtmchnaojlnjmjaaGreat
