/- The program's disk (layer 11) keeps what DiskSafe wants. -/
import Derived.Test.YtmchnaojlnjmjaaDskPw
import Derived.Test.YtmchnaojlnjmjaaDskS
import Derived.Test.YtmchnaojlnjmjaaFltJ
namespace Go.Proofs.Ytmchnaojlnjmjaa
open Go.RowKit Go.Maps

theorem pdown_any {w : World} {px pm : Nat} {d : DskD} {B : List Nat} (hp : PK w px pm d B) : Calls Try.prog 17 #[.pointer (some ⟨pm, 0, none⟩)] w fun e w' => e = .returned (.bool d.down) ∧ Fr [] w w' := by
  obtain ⟨L, h, hL, rfl⟩ := hp
  refine (mdown_any pm L.Bm _ _ _ w h.mt).mono ?_
  rintro e w' ⟨rfl, rfl⟩
  exact ⟨rfl, Fr.refl _ _⟩
theorem ppend_any {w : World} {px pm : Nat} {d : DskD} {B : List Nat} (hp : PK w px pm d B) : Calls Try.prog 19 #[.pointer (some ⟨px, 0, none⟩)] w fun e w' => e = .returned (.int .i64 ((d.ops.length : Nat) : Int)) ∧ Fr [] w w' := by
  obtain ⟨L, h, hL, rfl⟩ := hp
  refine (ppending_any h).mono ?_
  rintro e w' ⟨rfl, rfl⟩
  exact ⟨rfl, Fr.refl _ _⟩
theorem parmed0_any {w : World} {px pm : Nat} {d : DskD} {B : List Nat} {k : Nat} (hp : PK w px pm d B) (hk : AllOk d k) (hk4 : k ≤ 400) (ha : d.armed = []) : Calls Try.prog 18 #[.pointer (some ⟨pm, 0, none⟩)] w fun e w' => ∃ a c, e = .returned (.slice a 0 c) ∧ Fr [] w w' := by
  obtain ⟨L, h, hL, rfl⟩ := hp
  have hm := h.mt
  have hst := hk.ok.st
  rw [ha, show liveF [] d.steps = [] from rfl] at hm
  refine (armed_any pm L.Bm d.steps d.down [] w hm ⟨hk.ok.st0, by omega⟩ (by simp) (by simp)).mono ?_
  rintro e w' ⟨v, rfl, hv, hf⟩
  obtain ⟨a, c, rfl, -, -⟩ := hv.form
  exact ⟨a, c, rfl, hf⟩
theorem prog_s : ProgS PK where
  kept := fun h hf hB => pk_kept h hf hB
  lt := fun h => pk_lt h
  met := fun h => pk_met h
  new := fun room w h0 h1 => pnew_any room w h0 h1
  create := fun m hp hk hk4 _ hm => pcreate_any m hp hk hk4 hm
  append := fun m b pv bv hp hk hk4 _ hm hb hpv hbv h1 h2 => pappend_any m b pv bv hp hk hk4 hm hb hpv hbv h1 h2
  sync := fun m hp hk hk4 _ hm => psync_any m hp hk hk4 hm
  syncDir := fun hp hk hk4 _ => psyncDir_any hp hk hk4
  act := fun A hp hk hk4 hr hA hf hoff => prog_m.act A hp hk hk4 hr hA hf hoff
  up := fun ks sizes cuts kv zv cv hp hk hk4 _ h1 h2 h3 h4 h5 h6 h7 => pup_any ks sizes cuts kv zv cv hp hk hk4 h1 h2 h3 h4 h5 h6 h7
  read := fun m hp hk hk4 _ hm => (pread_any m hp hk hk4 hm).mono (fun _ _ ⟨v, h1, h2, h3, _⟩ => ⟨v, h1, h2, h3⟩)
  down := fun hp => pdown_any hp
  armed0 := fun hp hk hk4 ha => parmed0_any hp hk hk4 ha
  pending := fun hp => ppend_any hp
  awake := fun w => awake_any w
end Go.Proofs.Ytmchnaojlnjmjaa
