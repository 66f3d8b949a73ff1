/- What the statements of layer 8 call beside inode: taken. -/
import Derived.Test.YtgdpecpbcoohkaaInoH
namespace Go.Proofs.Ytgdpecpbcoohkaa
open Go.RowKit

def ADat.val (a : ADat) : Value := .agg #[.int .i64 a.kind, a.bv, .int .i64 a.n, a.cv]
/-- The document's file: its bytes, and those that are durable. -/
def isD (w : World) (nv sv : Value) (now : List UInt8) (s : Nat) : Prop := bytesAt w nv now ∧ bytesAt w sv (now.take s) ∧ s ≤ now.length
theorem isD.below {w w' : World} {nv sv : Value} {now : List UInt8} {s : Nat} (h : isD w nv sv now s) (hf : Fr [] w w') : isD w' nv sv now s := ⟨h.1.below hf, h.2.1.below hf, h.2.2⟩
def takenN (now : List UInt8) (s : Nat) (a : ADat) : Nat := min (secsC (s + sizeC now.length s a.n) s) a.cuts.length
set_option maxRecDepth 100000 in
theorem taken_any (now : List UInt8) (s : Nat) (nv sv : Value) (a : ADat) (w : World) (h : isD w nv sv now s) (ha : a.ok w) (hl : now.length ≤ 1000000) (hc : a.cuts.length ≤ 1000000) :
    Calls Try.prog 20 #[.agg #[nv, sv], a.val] w fun e w' => e = .returned (.int .i64 ((takenN now s a : Nat) : Int)) ∧ Fr [] w w' := by
  obtain ⟨h1, h2, h3⟩ := h
  obtain ⟨ha1, ha2, ha3⟩ := ha
  have hsl : (now.take s).length = s := by simp; omega
  have hcr := fun wx (hx : Fr [] w wx) => ref_crash_any now (now.take s) nv sv a.n a.cuts a.cv wx (h1.below hx) (h2.below hx) (by rw [hsl]) hl (ha2.below hx) hc
  rw [hsl] at hcr
  have hcl := crashC_length now s a.n a.cuts h3
  have hzl := sizeC_le now.length s a.n
  have hse := fun v wx (hx : Fr [] w wx) (hv : bytesAt wx v (crashC now s a.n a.cuts)) => ref_sectors_any (crashC now s a.n a.cuts) (now.take s) v sv wx hv (h2.below hx) (by rw [hsl, hcl]; omega) (by rw [hcl]; omega)
  rw [hsl, hcl] at hse
  obtain ⟨a0, c0, rfl, -, -⟩ := h1.form
  obtain ⟨a1, c1, rfl, -, -⟩ := h2.form
  rw [hsl] at hcr hse ⊢
  unfold ADat.val takenN
  obtain ⟨kind, bv, b, n, cv, cuts⟩ := a
  simp only at hcr hse hc hcl ha1 ha2 hzl ⊢
  obtain ⟨a2, c2, rfl, -, -⟩ := ha1.form
  obtain ⟨a3, c3, rfl, -, -⟩ := ha2.form
  rw [List.length_map] at hcr ⊢
  have hns : secsC (s + sizeC now.length s n) s ≤ s + sizeC now.length s n + 1 := secsC_le _ _
  have hCN : ∃ C : List UInt8, C = crashC now s n cuts := ⟨_, rfl⟩
  obtain ⟨C, hC⟩ := hCN
  rw [← hC] at hcr hse
  have HCR := Lib.hid hcr
  have HSE := Lib.hid hse
  obtain ⟨N, hN⟩ : ∃ N, N = secsC (s + sizeC now.length s n) s := ⟨_, rfl⟩
  rw [← hN] at HSE hns ⊢
  have hNb : N ≤ 2000001 := by omega
  have hsn : s ≤ 1000000 := by omega
  clear h1 h2 ha1 ha2 hcr hse hcl hC hN hns hzl
  go_enter Try.func20, Try.ntmps20
  have hf2 : Fr [] w ((w.alloc (.cells #[.slice a0 now.length c0, .slice a1 s c1] 29)).alloc (.cells #[.int .i64 kind, .slice a2 b.length c2, .int .i64 n, .slice a3 cuts.length c3] 34)) := (Fr.alloc w _).trans (Fr.alloc _ _) (by simp) (by simp)
  have hB1 := (Fr.alloc (w.alloc (.cells #[.slice a0 now.length c0, .slice a1 s c1] 29)) (.cells #[.int .i64 kind, .slice a2 b.length c2, .int .i64 n, .slice a3 cuts.length c3] 34)).heap (heap_alloc_new w (.cells #[.slice a0 now.length c0, .slice a1 s c1] 29)) (by simp)
  have hB2 := heap_alloc_new (w.alloc (.cells #[.slice a0 now.length c0, .slice a1 s c1] 29)) (.cells #[.int .i64 kind, .slice a2 b.length c2, .int .i64 n, .slice a3 cuts.length c3] 34)
  rw [World.size_alloc] at hB2
  have HF2 := Lib.hid hf2
  have HB1 := Lib.hid hB1
  have HB2 := Lib.hid hB2
  clear hf2 hB1 hB2
  go_wp2_with (first
    | (go_at_call 19; refine (HCR.out _ HF2.out).mono ?_; rintro e w3 ⟨v3, rfl, hb3, hk3, hf3⟩; obtain ⟨x3, y3, z3, rfl⟩ := hb3.slice; have hc31 : w3.cell? ⟨w.heap.size, 1, none⟩ = some (.slice a1 s c1) := (by rw [cell_of_heap (hf3.heap HB1.out (by simp))]; rfl); have hc33 : w3.cell? ⟨w.heap.size + 1, 3, none⟩ = some (.slice a3 cuts.length c3) := (by rw [cell_of_heap (hf3.heap HB2.out (by simp))]; rfl); have hf03 := HF2.out.trans hf3 (by simp) (n := []) (by simp))
    | (go_at_call 14; refine (HSE.out _ _ hf03 hb3).mono ?_; rintro e w4 ⟨rfl, hf4⟩; have hc43 := hf4.cell hc33 (by simp)))
  all_goals
    go_ret
    refine ⟨congrArg (fun z => Ending.returned (Value.int .i64 z)) (by omega), hf03.trans hf4 (by simp) (by simp)⟩
end Go.Proofs.Ytgdpecpbcoohkaa
