/- Maps from texts: keys, what a map keeps. (Split out of GpG.) -/
import Derived.Test.YtmcekpgmebanaaaBs
import Derived.Test.YtmcekpgmebanaaaProg
import Derived.Maps.OwnSet
import Derived.StringKeys
import Derived.Sort.EncStr
set_option linter.unusedVariables false
set_option linter.unusedSimpArgs false
namespace Go.Proofs.Ytmcekpgmebanaaa
open Go.RowKit Go.Maps

theorem nodup_inj {α β : Type} {f : α → β} (hf : ∀ a b, f a = f b → a = b) (l : List α) : (l.map f).Nodup ↔ l.Nodup := by
  unfold List.Nodup
  rw [List.pairwise_map]
  exact ⟨fun h => h.imp (fun hn e => hn (by rw [e])), fun h => h.imp (fun hn e => hn (hf _ _ e))⟩
theorem wf_nat {k : Nat} (h : k ≤ 9223372036854775807) : (Lit.int .i64 (k : Int)).wf = true := by
  have h1 : (-9223372036854775808 : Int) ≤ (k : Int) := by omega
  have h2 : (k : Int) ≤ 9223372036854775807 := by omega
  show (decide (IntKind.i64.min ≤ (k : Int)) && decide ((k : Int) ≤ IntKind.i64.max)) = true
  rw [show IntKind.i64.min = -9223372036854775808 from rfl, show IntKind.i64.max = 9223372036854775807 from rfl, decide_eq_true h1, decide_eq_true h2]
  rfl
theorem lawKS : Keyed Try.prog 9 := string_keyed Try.underlying9
theorem zeroKI (w : World) : (zeroValue 3).run Try.prog w = .ok (.int .i64 0) w := by kernel_rfl
theorem keyOfS (a : List UInt8) (h : a.length ≤ maxLen) : keyOf Try.prog 9 (encStr a) = some (.string a) := by
  have := WideMaps.keyOf_string_mk (P := Try.prog) (k := 9) (s := ⟨a.toArray⟩) Try.underlying9 (by simpa [ByteArray.size] using h)
  simpa using this
theorem ownsMap_kept {w w' : World} {P : Program} {k : TypeId} {R : Value → Option (DataW Unit × List MemPlace)} {b n : Nat} {D : DataW Unit} {L : List Nat} (h : w.ownsMap P k R b n D) (hf : Fr L w w') (hb : b ∉ L) : w'.ownsMap P k R b n D := by
  obtain ⟨es, c, hh, r⟩ := h
  exact ⟨es, c, hf.heap hh hb, r⟩
end Go.Proofs.Ytmcekpgmebanaaa
