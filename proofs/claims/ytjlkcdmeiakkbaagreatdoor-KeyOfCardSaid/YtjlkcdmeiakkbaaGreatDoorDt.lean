/- Several texts in one: Str, ParDat, GrmDat, GrmPv, ParFt, CanPt, ParCs, ParNl, GrmLn, PrsPI. -/
import Derived.Sort.EncStr
import Derived.LoopTactic
import Derived.Deep.DeepCutAuto
import Derived.Laws.Concat
import Derived.Test.YtjlkcdmeiakkbaaGreatDoorBs
import Derived.Test.YtjlkcdmeiakkbaaGreatDoorMm
set_option linter.unusedVariables false
set_option linter.unusedSimpArgs false
/-! A byte of a string. Nothing here names the program. -/
namespace Go.Proofs.YtjlkcdmeiakkbaaGreatDoor
open Go.RowKit

theorem run_index_str {P : Program} (w : World) (t : TypeId) (s : List UInt8) (i : Int) (k : Nat) (c : UInt8) (h : P.underlying t = some .string) (hi : i = (k : Int)) (hc : s[k]? = some c) :
    (Instr.index t (.string ⟨s.toArray⟩) (.int .i64 i)).run P w = .ok (.int .u8 (c.toNat : Int)) w := by
  subst hi
  have hk : k < s.length := by
    rcases Nat.lt_or_ge k s.length with q | q
    · exact q
    · rw [List.getElem?_eq_none q] at hc; cases hc
  rw [run_index_string w t _ .i64 k h, dif_pos ⟨by omega, by simpa [ByteArray.size] using hk⟩]
  rw [List.getElem?_eq_getElem hk] at hc
  have : ((⟨s.toArray⟩ : ByteArray)[(k : Int).toNat]'(by simpa [ByteArray.size] using hk)) = s[k]'hk := by
    simp [ByteArray.getElem_eq_getElem_data]
  rw [this, Option.some.inj hc]

end Go.Proofs.YtjlkcdmeiakkbaaGreatDoor

/-! Lines of a grammar as slices of slices (layer 13): what they read like. Nothing here names the program. -/
namespace Go.Proofs.YtjlkcdmeiakkbaaGreatDoor
open Go.RowKit

def ItemD.cells (i : ItemD) : List Value := [.bool i.term, encStr i.text]
/-- None of these blocks holds elements of type t. -/
def notT (w : World) (L : List Nat) (t : TypeId) : Prop := ∀ k ∈ L, ∀ cs t' fr, w.heap[k]? = some (.cells cs t' fr) → t' ≠ t
theorem notT.nil (w : World) (t : TypeId) : notT w [] t := fun k hk => by cases hk
theorem owns_keptT {w w' : World} {base sz n : Nat} {e : TypeId} {v : Value} {xs : List Value} {L : List Nat} (h : w.ownsRow base e sz v n xs) (hL : notT w L e) (hf : Fr L w w') : w'.ownsRow base e sz v n xs := by
  refine owns_kept h hf (fun k hk hm => ?_)
  rcases h.2 with ⟨rfl, _⟩ | ⟨g, cap, cur, rfl, _, hg, _⟩
  · cases hk
  · obtain rfl : g = k := by simpa [Value.ownBlock] using hk
    exact hL _ hm _ _ _ hg rfl
theorem notT_row {w : World} {base sz n : Nat} {e t : TypeId} {v : Value} {xs : List Value} (h : w.ownsRow base e sz v n xs) (ht : e ≠ t) : notT w v.ownBlock.toList t := by
  intro k hk cs t' fr hh
  rw [Option.mem_toList] at hk
  rcases h.2 with ⟨rfl, _⟩ | ⟨g, cap, cur, rfl, _, hg, _⟩
  · cases hk
  · obtain rfl : g = k := by simpa [Value.ownBlock] using hk
    rw [hg] at hh
    simp only [Option.some.injEq, Obj.cells.injEq] at hh
    rw [← hh.2.1]; exact ht
theorem notT_box {w : World} {q : Nat} {cs : Array Value} {e t : TypeId} {fr : Nat × Nat} (h : w.heap[q]? = some (.cells cs e fr)) (ht : e ≠ t) : notT w [q] t := by
  intro k hk cs' t' fr' hh
  obtain rfl : k = q := by simpa using hk
  rw [h] at hh
  simp only [Option.some.injEq, Obj.cells.injEq] at hh
  rw [← hh.2.1]; exact ht
/-- A row of items. -/
def itemsR (tI : TypeId) (w : World) (base : Nat) (v : Value) (l : List ItemD) : Prop := w.ownsRow base tI 2 v l.length (l.map ItemD.cells).flatten
/-- A row of rows of items. -/
def altsR (tI tA : TypeId) (w : World) (base : Nat) (v : Value) (al : List (List ItemD)) : Prop :=
  ∃ vs : List Value, vs.length = al.length ∧ w.ownsRow base tA 1 v al.length vs ∧ ∀ i (h : i < vs.length) (h' : i < al.length), itemsR tI w base (vs[i]'h) (al[i]'h')
theorem itemsR.kept {tI : TypeId} {w w' : World} {base : Nat} {v : Value} {l : List ItemD} {L : List Nat} (h : itemsR tI w base v l) (hL : notT w L tI) (hf : Fr L w w') : itemsR tI w' base v l := owns_keptT h hL hf
theorem altsR.kept {tI tA : TypeId} {w w' : World} {base : Nat} {v : Value} {al : List (List ItemD)} {L : List Nat} (h : altsR tI tA w base v al) (h1 : notT w L tI) (h2 : notT w L tA) (hf : Fr L w w') : altsR tI tA w' base v al := by
  obtain ⟨vs, e, hr, hi⟩ := h
  exact ⟨vs, e, owns_keptT hr h2 hf, fun i a b => (hi i a b).kept h1 hf⟩
theorem altsR.below {tI tA : TypeId} {w w' : World} {base : Nat} {v : Value} {al : List (List ItemD)} (h : altsR tI tA w base v al) (hf : Fr [] w w') : altsR tI tA w' base v al := h.kept (notT.nil _ _) (notT.nil _ _) hf
theorem altsR.nil (tI tA : TypeId) (w : World) (base : Nat) : altsR tI tA w base (.slice none 0 0) [] := ⟨[], rfl, World.ownsRow_nil _ _ _ _, fun i h => by simp at h⟩
theorem altsR.slice {tI tA : TypeId} {w : World} {base : Nat} {v : Value} {al : List (List ItemD)} (h : altsR tI tA w base v al) : ∃ a c, v = .slice a al.length c ∧ al.length ≤ c ∧ c ≤ maxLen := by
  obtain ⟨vs, _, hr, _⟩ := h
  exact owns_slice hr
/-- A row of lines. -/
def linesR (tI tA tL : TypeId) (w : World) (base : Nat) (v : Value) (ls : List LineD) : Prop :=
  ∃ vs : List Value, vs.length = ls.length ∧ w.ownsRow base tL 2 v ls.length ((ls.zip vs).map fun p => [encStr p.1.name, p.2]).flatten ∧ ∀ i (h : i < vs.length) (h' : i < ls.length), altsR tI tA w base (vs[i]'h) (ls[i]'h').alts
theorem linesR.kept {tI tA tL : TypeId} {w w' : World} {base : Nat} {v : Value} {ls : List LineD} {L : List Nat} (h : linesR tI tA tL w base v ls) (h1 : notT w L tI) (h2 : notT w L tA) (h3 : notT w L tL) (hf : Fr L w w') : linesR tI tA tL w' base v ls := by
  obtain ⟨vs, e, hr, hi⟩ := h
  exact ⟨vs, e, owns_keptT hr h3 hf, fun i a b => (hi i a b).kept h1 h2 hf⟩
theorem linesR.below {tI tA tL : TypeId} {w w' : World} {base : Nat} {v : Value} {ls : List LineD} (h : linesR tI tA tL w base v ls) (hf : Fr [] w w') : linesR tI tA tL w' base v ls := h.kept (notT.nil _ _) (notT.nil _ _) (notT.nil _ _) hf
theorem linesR.nil (tI tA tL : TypeId) (w : World) (base : Nat) : linesR tI tA tL w base (.slice none 0 0) [] := ⟨[], rfl, World.ownsRow_nil _ _ _ _, fun i h => by simp at h⟩
/-- What stands in memory, whoever owns it. -/
def itemsAt (w : World) (v : Value) (l : List ItemD) : Prop := elemsAt w v 2 (l.map ItemD.cells)
def altsAt (w : World) (v : Value) (al : List (List ItemD)) : Prop := ∃ vs : List Value, vs.length = al.length ∧ cellsAt w v vs ∧ ∀ i (h : i < vs.length) (h' : i < al.length), itemsAt w (vs[i]'h) (al[i]'h')
def linesAt (w : World) (v : Value) (ls : List LineD) : Prop := ∃ vs : List Value, vs.length = ls.length ∧ elemsAt w v 2 ((ls.zip vs).map fun p => [encStr p.1.name, p.2]) ∧ ∀ i (h : i < vs.length) (h' : i < ls.length), altsAt w (vs[i]'h) (ls[i]'h').alts
theorem itemsAt.below {w w' : World} {v : Value} {l : List ItemD} (h : itemsAt w v l) (hf : Fr [] w w') : itemsAt w' v l := elemsAt.below h hf
theorem altsAt.below {w w' : World} {v : Value} {al : List (List ItemD)} (h : altsAt w v al) (hf : Fr [] w w') : altsAt w' v al := by
  obtain ⟨vs, e, hc, hi⟩ := h
  exact ⟨vs, e, hc.below hf, fun i a b => (hi i a b).below hf⟩
theorem linesAt.below {w w' : World} {v : Value} {ls : List LineD} (h : linesAt w v ls) (hf : Fr [] w w') : linesAt w' v ls := by
  obtain ⟨vs, e, hc, hi⟩ := h
  exact ⟨vs, e, elemsAt.below hc hf, fun i a b => (hi i a b).below hf⟩
theorem itemsR.at_ {tI : TypeId} {w : World} {base : Nat} {v : Value} {l : List ItemD} (h : itemsR tI w base v l) : itemsAt w v l :=
  elems_of_owns (xs := l.map ItemD.cells) (by rw [List.length_map]; exact h) (fun x hx => by obtain ⟨f, _, rfl⟩ := List.mem_map.1 hx; rfl)
theorem altsR.at_ {tI tA : TypeId} {w : World} {base : Nat} {v : Value} {al : List (List ItemD)} (h : altsR tI tA w base v al) : altsAt w v al := by
  obtain ⟨vs, e, hr, hi⟩ := h
  exact ⟨vs, e, cellsAt_of_owns (by rw [e]; exact hr), fun i a b => (hi i a b).at_⟩
theorem linesR.at_ {tI tA tL : TypeId} {w : World} {base : Nat} {v : Value} {ls : List LineD} (h : linesR tI tA tL w base v ls) : linesAt w v ls := by
  obtain ⟨vs, e, hr, hi⟩ := h
  exact ⟨vs, e, elems_of_owns (by rw [List.length_map, List.length_zip, e, Nat.min_self]; exact hr) (fun x hx => by obtain ⟨f, _, rfl⟩ := List.mem_map.1 hx; rfl), fun i a b => (hi i a b).at_⟩
theorem linesAt.form {w : World} {v : Value} {ls : List LineD} (h : linesAt w v ls) : ∃ a cap, v = .slice a ls.length cap ∧ ls.length ≤ cap ∧ cap ≤ 9223372036854775807 := by
  obtain ⟨vs, e, hc, -⟩ := h
  obtain ⟨a, c, rfl, h1, h2⟩ := elemsAt.form hc
  rw [List.length_map, List.length_zip, e, Nat.min_self] at h1 ⊢
  exact ⟨a, c, rfl, h1, by simpa [maxLen] using h2⟩
theorem altsAt.form {w : World} {v : Value} {al : List (List ItemD)} (h : altsAt w v al) : ∃ a cap, v = .slice a al.length cap ∧ al.length ≤ cap ∧ cap ≤ 9223372036854775807 := by
  obtain ⟨vs, e, hc, -⟩ := h
  obtain ⟨a, c, rfl, h1, h2⟩ := hc.form
  rw [e] at h1 ⊢
  exact ⟨a, c, rfl, h1, by simpa [maxLen] using h2⟩
theorem itemsAt.form {w : World} {v : Value} {l : List ItemD} (h : itemsAt w v l) : ∃ a cap, v = .slice a l.length cap ∧ l.length ≤ cap ∧ cap ≤ 9223372036854775807 := by
  obtain ⟨a, c, rfl, h1, h2⟩ := elemsAt.form h
  rw [List.length_map] at h1 ⊢
  exact ⟨a, c, rfl, h1, by simpa [maxLen] using h2⟩
theorem item_cells {w : World} {a0 : Option Addr} {n cap : Nat} {l : List ItemD} (h : itemsAt w (.slice a0 n cap) l) (k : Nat) (hk : k < l.length) : ∃ b off, a0 = some ⟨b, off, none⟩ ∧ w.cell? ⟨b, off + k * 2, none⟩ = some (.bool (l[k]'hk).term) ∧ w.cell? ⟨b, off + k * 2 + 1, none⟩ = some (encStr (l[k]'hk).text) := by
  rcases h with ⟨_, _, _, _, e⟩ | ⟨b, off, cap', e, _, _, hb, hcell⟩
  · rw [List.map_eq_nil_iff] at e; subst e; simp at hk
  · simp only [Value.slice.injEq, List.length_map] at e
    obtain ⟨rfl, hn, rfl⟩ := e
    obtain ⟨-, h1⟩ := hcell k (by simpa using hk)
    rw [List.getElem_map] at h1
    exact ⟨b, off, rfl, by simpa using h1 0 _ rfl, h1 1 _ rfl⟩
theorem alt_cells {w : World} {a0 : Option Addr} {n cap : Nat} {al : List (List ItemD)} (h : altsAt w (.slice a0 n cap) al) (k : Nat) (hk : k < al.length) : ∃ b off v, a0 = some ⟨b, off, none⟩ ∧ w.cell? ⟨b, off + k, none⟩ = some v ∧ itemsAt w v (al[k]'hk) := by
  obtain ⟨vs, e, hc, hi⟩ := h
  obtain ⟨b, off, rfl, -, hx⟩ := hc.get (i := k) (by omega)
  exact ⟨b, off, _, rfl, hx k (by omega), hi k (by omega) hk⟩
theorem line_cells {w : World} {a0 : Option Addr} {n cap : Nat} {ls : List LineD} (h : linesAt w (.slice a0 n cap) ls) (k : Nat) (hk : k < ls.length) : ∃ b off v, a0 = some ⟨b, off, none⟩ ∧ w.cell? ⟨b, off + k * 2, none⟩ = some (encStr (ls[k]'hk).name) ∧ w.cell? ⟨b, off + k * 2 + 1, none⟩ = some v ∧ altsAt w v (ls[k]'hk).alts := by
  obtain ⟨vs, e, hc, hi⟩ := h
  have hlen : ((ls.zip vs).map fun p => [encStr p.1.name, p.2]).length = ls.length := by rw [List.length_map, List.length_zip, e, Nat.min_self]
  rcases hc with ⟨_, _, _, _, e2⟩ | ⟨b, off, cap', e2, _, _, hb, hcell⟩
  · rw [e2] at hlen; simp at hlen; omega
  · simp only [Value.slice.injEq] at e2
    obtain ⟨rfl, hn, rfl⟩ := e2
    obtain ⟨-, h1⟩ := hcell k (by rw [hlen]; exact hk)
    rw [List.getElem_map, List.getElem_zip] at h1
    exact ⟨b, off, _, rfl, by simpa using h1 0 _ rfl, h1 1 _ rfl, hi k (by omega) hk⟩
end Go.Proofs.YtjlkcdmeiakkbaaGreatDoor

/-! Grammars as Go data (layer 14): what they read like. Nothing here names the program. -/
namespace Go.Proofs.YtjlkcdmeiakkbaaGreatDoor
open Go.RowKit

def strsAt (w : World) (v : Value) (l : List (List UInt8)) : Prop := cellsAt w v (l.map encStr)
def intV (x : Int) : Value := .int .i64 x
def intsAt (w : World) (v : Value) (l : List Int) : Prop := cellsAt w v (l.map intV)
def rulesAt (w : World) (v : Value) (l : List RuleG) : Prop := ∃ vs : List Value, vs.length = l.length ∧ elemsAt w v 2 ((l.zip vs).map fun p => [intV p.1.left, p.2]) ∧ ∀ i (h : i < vs.length) (h' : i < l.length), intsAt w (vs[i]'h) (l[i]'h').right
def gramAt (w : World) (v : Value) (g : GramG) : Prop := ∃ a b c, v = .agg #[a, b, c] ∧ strsAt w a g.names ∧ strsAt w b g.terms ∧ rulesAt w c g.rules
theorem strsAt.below {w w' : World} {v : Value} {l : List (List UInt8)} (h : strsAt w v l) (hf : Fr [] w w') : strsAt w' v l := cellsAt.below h hf
theorem intsAt.below {w w' : World} {v : Value} {l : List Int} (h : intsAt w v l) (hf : Fr [] w w') : intsAt w' v l := cellsAt.below h hf
theorem rulesAt.below {w w' : World} {v : Value} {l : List RuleG} (h : rulesAt w v l) (hf : Fr [] w w') : rulesAt w' v l := by
  obtain ⟨vs, e, hc, hi⟩ := h
  exact ⟨vs, e, elemsAt.below hc hf, fun i a b => (hi i a b).below hf⟩
theorem gramAt.below {w w' : World} {v : Value} {g : GramG} (h : gramAt w v g) (hf : Fr [] w w') : gramAt w' v g := by
  obtain ⟨a, b, c, e, h1, h2, h3⟩ := h
  exact ⟨a, b, c, e, h1.below hf, h2.below hf, h3.below hf⟩
theorem strsAt.form {w : World} {v : Value} {l : List (List UInt8)} (h : strsAt w v l) : ∃ a cap, v = .slice a l.length cap ∧ l.length ≤ cap ∧ cap ≤ 9223372036854775807 := by
  obtain ⟨a, c, rfl, h1, h2⟩ := cellsAt.form h
  rw [List.length_map] at h1 ⊢
  exact ⟨a, c, rfl, h1, by simpa [maxLen] using h2⟩
theorem intsAt.form {w : World} {v : Value} {l : List Int} (h : intsAt w v l) : ∃ a cap, v = .slice a l.length cap ∧ l.length ≤ cap ∧ cap ≤ 9223372036854775807 := by
  obtain ⟨a, c, rfl, h1, h2⟩ := cellsAt.form h
  rw [List.length_map] at h1 ⊢
  exact ⟨a, c, rfl, h1, by simpa [maxLen] using h2⟩
theorem rulesAt.form {w : World} {v : Value} {l : List RuleG} (h : rulesAt w v l) : ∃ a cap, v = .slice a l.length cap ∧ l.length ≤ cap ∧ cap ≤ 9223372036854775807 := by
  obtain ⟨vs, e, hc, -⟩ := h
  obtain ⟨a, c, rfl, h1, h2⟩ := elemsAt.form hc
  rw [List.length_map, List.length_zip, e, Nat.min_self] at h1 ⊢
  exact ⟨a, c, rfl, h1, by simpa [maxLen] using h2⟩
theorem str_cell {w : World} {a0 : Option Addr} {n cap : Nat} {l : List (List UInt8)} (h : strsAt w (.slice a0 n cap) l) (k : Nat) (hk : k < l.length) : ∃ b off, a0 = some ⟨b, off, none⟩ ∧ w.cell? ⟨b, off + k, none⟩ = some (encStr (l[k]'hk)) := by
  obtain ⟨b, off, rfl, -, hx⟩ := cellsAt.get h (i := k) (by rw [List.length_map]; exact hk)
  exact ⟨b, off, rfl, by have := hx k (by rw [List.length_map]; exact hk); rwa [List.getElem_map] at this⟩
theorem int_cell {w : World} {a0 : Option Addr} {n cap : Nat} {l : List Int} (h : intsAt w (.slice a0 n cap) l) (k : Nat) (hk : k < l.length) : ∃ b off, a0 = some ⟨b, off, none⟩ ∧ w.cell? ⟨b, off + k, none⟩ = some (.int .i64 (l[k]'hk)) := by
  obtain ⟨b, off, rfl, -, hx⟩ := cellsAt.get h (i := k) (by rw [List.length_map]; exact hk)
  exact ⟨b, off, rfl, by have := hx k (by rw [List.length_map]; exact hk); rwa [List.getElem_map] at this⟩
theorem rule_cells {w : World} {a0 : Option Addr} {n cap : Nat} {l : List RuleG} (h : rulesAt w (.slice a0 n cap) l) (k : Nat) (hk : k < l.length) : ∃ b off v, a0 = some ⟨b, off, none⟩ ∧ w.cell? ⟨b, off + k * 2, none⟩ = some (.int .i64 (l[k]'hk).left) ∧ w.cell? ⟨b, off + k * 2 + 1, none⟩ = some v ∧ intsAt w v (l[k]'hk).right := by
  obtain ⟨vs, e, hc, hi⟩ := h
  have hlen : ((l.zip vs).map fun p => [intV p.1.left, p.2]).length = l.length := by rw [List.length_map, List.length_zip, e, Nat.min_self]
  rcases hc with ⟨_, _, _, _, e2⟩ | ⟨b, off, cap', e2, _, _, hb, hcell⟩
  · rw [e2] at hlen; simp at hlen; omega
  · simp only [Value.slice.injEq] at e2
    obtain ⟨rfl, hn, rfl⟩ := e2
    obtain ⟨-, h1⟩ := hcell k (by rw [hlen]; exact hk)
    rw [List.getElem_map, List.getElem_zip] at h1
    exact ⟨b, off, _, rfl, by have := h1 0 _ rfl; simp only [Nat.add_zero] at this; exact this, h1 1 _ rfl, hi k (by omega) hk⟩
theorem cells_lt {w : World} {a0 : Option Addr} {n cap : Nat} {l : List Int} (h : intsAt w (.slice a0 n cap) l) : l.length ≤ 9223372036854775807 := by
  obtain ⟨a, c, e, h1, h2⟩ := h.form
  omega
end Go.Proofs.YtjlkcdmeiakkbaaGreatDoor

/-! What the program's Valid and IsTerm (layer 14) must do (split out of GrmPr). -/
namespace Go.Proofs.YtjlkcdmeiakkbaaGreatDoor
open Go.RowKit


def ProgValid : Prop := ∀ (g : GramG) (gv : Value) (w : World), gramAt w gv g → SizeG g → IntG g → Calls Tryz.prog 10 #[gv] w fun e w' => e = .returned (.bool (validB g)) ∧ Fr [] w w'
def ProgIsT : Prop := ∀ (s : Int) (w : World), Calls Tryz.prog 91 #[.int .i64 s] w fun e w' => e = .returned (.bool (decide (s < 0))) ∧ Fr [] w w'
end Go.Proofs.YtjlkcdmeiakkbaaGreatDoor

/-! What the parser's Text (layer 13) must do (split out of ParF). -/
namespace Go.Proofs.YtjlkcdmeiakkbaaGreatDoor
open Go.RowKit


/-- The program's Text gives lines as text. -/
def ProgTxt : Prop := ∀ (l : List LineD) (v : Value) (w : World), linesAt w v l → (textD l).length ≤ 10000000000 → Calls Tryz.prog 29 #[v] w fun e w' => e = .returned (encStr (textD l)) ∧ Fr [] w w'
end Go.Proofs.YtjlkcdmeiakkbaaGreatDoor

/-! What the program's canonical grammars (layer 16) must do: Of and Text. -/
namespace Go.Proofs.YtjlkcdmeiakkbaaGreatDoor
open Go.RowKit


noncomputable def canonO (g : GramG) : GramG := if validB g = true then canonG g else emptyG
noncomputable def textO (g : GramG) : List UInt8 := if validB g = true then textD (linesG (canonG g)) else []
def RGram (g : GramG) (w : World) (e : Ending) (w' : World) : Prop := ∃ v, e = .returned v ∧ gramAt w' v g ∧ Fr [] w w'
def ProgCanOf : Prop := ∀ (g : GramG) (gv : Value) (w : World), gramAt w gv g → SizeG g → IntG g → Calls Tryz.prog 31 #[gv] w (RGram (canonO g) w)
def ProgCanText : Prop := ∀ (g : GramG) (gv : Value) (w : World), gramAt w gv g → SizeG g → IntG g → Calls Tryz.prog 13 #[gv] w fun e w' => e = .returned (encStr (textO g)) ∧ Fr [] w w'
end Go.Proofs.YtjlkcdmeiakkbaaGreatDoor

/-! Texts of lines, piece by piece (layer 13; split out of ParC). -/
namespace Go.Proofs.YtjlkcdmeiakkbaaGreatDoor
open Go.RowKit


/-- A concatenation, its result named. -/
theorem cat_run {P : Program} {A B C : Array UInt8} {x y : List UInt8} (hA : A = x.toArray) (hB : B = y.toArray) (hC : C = (x ++ y).toArray) (hl : (x ++ y).length ≤ 9223372036854775807) (w : World) : (Op.stringOp .add { data := A } { data := B }).run P w = .ok (.string { data := C }) w := by
  subst hA hB hC
  rw [List.length_append] at hl
  rw [run_string_add_sum w _ _ (by simp [ByteArray.size]; omega), ByteArray.mk_append_mk]
theorem text_next {l : List LineD} {i : Nat} (h : i < l.length) : textD (l.take (i + 1)) = textD (l.take i) ++ lineT (l[i]'h) := by
  rw [List.take_succ_eq_append_getElem h]; unfold textD; rw [List.flatMap_append, List.flatMap_cons, List.flatMap_nil, List.append_nil]
theorem text_len {l : List LineD} {i : Nat} : (textD (l.take i)).length ≤ (textD l).length := by
  have : textD l = textD (l.take i) ++ textD (l.drop i) := by simp only [textD, ← List.flatMap_append, List.take_append_drop]
  rw [this, List.length_append]; omega
theorem altsT_snoc : ∀ (l : List (List ItemD)) (a : List ItemD), altsT (l ++ [a]) = altsT l ++ (if l = [] then [] else [32, 124]) ++ altT a
  | [], a => by simp [altsT]
  | b :: r, a => by simp [altsT]
theorem alts_next {l : List (List ItemD)} {k : Nat} (h : k < l.length) : altsT (l.take (k + 1)) = altsT (l.take k) ++ (if k = 0 then [] else [32, 124]) ++ altT (l[k]'h) := by
  rw [List.take_succ_eq_append_getElem h, altsT_snoc]
  by_cases hk : k = 0
  · subst hk; simp
  · rw [if_neg hk, if_neg (by intro e; have := congrArg List.length e; rw [List.length_take, List.length_nil] at this; omega)]
theorem alts_len {l : List (List ItemD)} : ∀ (n k : Nat), k + n = l.length → (altsT (l.take k)).length ≤ (altsT l).length
  | 0, k, h => by rw [List.take_of_length_le (by omega)]; exact Nat.le_refl _
  | n + 1, k, h => by
    have h1 := alts_len (l := l) n (k + 1) (by omega)
    have h2 := alts_next (l := l) (k := k) (by omega)
    rw [h2, List.length_append, List.length_append] at h1
    omega
theorem alt_next {a : List ItemD} {n : Nat} (h : n < a.length) : altT (a.take (n + 1)) = altT (a.take n) ++ itemT (a[n]'h) := by
  rw [List.take_succ_eq_append_getElem h]; unfold altT; rw [List.flatMap_append, List.flatMap_cons, List.flatMap_nil, List.append_nil]
theorem alt_len {a : List ItemD} {n : Nat} : (altT (a.take n)).length ≤ (altT a).length := by
  have : altT a = altT (a.take n) ++ altT (a.drop n) := by simp only [altT, ← List.flatMap_append, List.take_append_drop]
  rw [this, List.length_append]; omega
theorem two_of_box2 {w : World} {p : Nat} {a b : Value} {t : TypeId} (h : w.heap[p]? = some (.cells #[a, b] t (0, 0))) : w.cell? ⟨p, 0, none⟩ = some a ∧ w.cell? ⟨p, 1, none⟩ = some b ∧ w.frozen? ⟨p, 0, none⟩ = false ∧ w.frozen? ⟨p, 1, none⟩ = false :=
  ⟨by rw [cell_of_heap h]; rfl, by rw [cell_of_heap h]; rfl, free_of_heap h 0, free_of_heap h 1⟩
end Go.Proofs.YtjlkcdmeiakkbaaGreatDoor

/-! No lines (layer 13). -/
namespace Go.Proofs.YtjlkcdmeiakkbaaGreatDoor
open Go.RowKit

theorem linesAt.nil (w : World) : linesAt w (.slice none 0 0) [] := ⟨[], rfl, .inl ⟨_, _, rfl, by simp, rfl⟩, fun i h => by simp at h⟩
end Go.Proofs.YtjlkcdmeiakkbaaGreatDoor

/-! What the program's Lines (layer 14) must do. -/
namespace Go.Proofs.YtjlkcdmeiakkbaaGreatDoor
open Go.RowKit

def RLines (ls : List LineD) (w : World) (e : Ending) (w' : World) : Prop := ∃ v, e = .returned v ∧ linesAt w' v ls ∧ Fr [] w w'
noncomputable def linesOf (g : GramG) : List LineD := if validB g = true then linesG g else []
def ProgLines : Prop := ∀ (g : GramG) (gv : Value) (w : World), gramAt w gv g → SizeG g → IntG g → Calls Tryz.prog 30 #[gv] w (RLines (linesOf g) w)
end Go.Proofs.YtjlkcdmeiakkbaaGreatDoor

/-! The types of items, alternatives and lines (layer 13). -/
namespace Go.Proofs.YtjlkcdmeiakkbaaGreatDoor
open Go.RowKit

abbrev pI : TypeId := 101
abbrev pA : TypeId := 99
abbrev pL : TypeId := 98
theorem infoPA : (Tryz.prog.info? pA).map (fun i => (i.zero, i.size, i.bytes)) = some (some (.slice none 0 0), 1, 24) := by kernel_rfl
theorem infoPL : (Tryz.prog.info? pL).map (fun i => (i.zero, i.size, i.bytes)) = some (some (.agg #[.string ⟨#[]⟩, .slice none 0 0]), 2, 40) := by kernel_rfl
theorem infoPI : (Tryz.prog.info? pI).map (fun i => (i.zero, i.size, i.bytes)) = some (some (.agg #[.bool false, .string ⟨#[]⟩]), 2, 24) := by kernel_rfl
end Go.Proofs.YtjlkcdmeiakkbaaGreatDoor
