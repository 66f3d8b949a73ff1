/- Contracts of varint.List and of varint.Len. -/
import Derived.Test.YtijdffpekonklaaVarA
namespace Go.Proofs.Ytijdffpekonklaa
open Go.RowKit

/-- Numbers as cells. -/
def numC (l : List Nat) : List Value := l.map fun (n : Nat) => Value.int .u64 (n : Int)
theorem numC_length (l : List Nat) : (numC l).length = l.length := by simp [numC]
theorem numC_append (a b : List Nat) : numC (a ++ b) = numC a ++ numC b := by simp [numC]
theorem numC_get (l : List Nat) (i : Nat) (h : i < l.length) (h' : i < (numC l).length) : (numC l)[i]'h' = .int .u64 ((l[i]'h : Nat) : Int) := by simp [numC]
/-- The slice v reads as these numbers. -/
def numsAt (w : World) (v : Value) (l : List Nat) : Prop := cellsAt w v (numC l)
theorem numsAt.form {w : World} {v : Value} {l : List Nat} (h : numsAt w v l) : ∃ a cap, v = .slice a l.length cap ∧ l.length ≤ cap ∧ cap ≤ maxLen := by
  obtain ⟨a, cap, h1, h2, h3⟩ := cellsAt.form h
  rw [numC_length] at h1 h2
  exact ⟨a, cap, h1, h2, h3⟩
theorem numsAt.kept {w w' : World} {v : Value} {x : List Nat} {l : List Nat} (h : numsAt w v x) (hf : Fr l w w') (hn : ∀ k, v.ownBlock = some k → x ≠ [] → k < w.heap.size → k ∉ l) : numsAt w' v x :=
  cellsAt.kept h hf fun k hk hne hlt => hn k hk (fun e => hne (by rw [e]; rfl)) hlt
theorem numsAt.below {w w' : World} {v : Value} {l : List Nat} (h : numsAt w v l) (hf : Fr [] w w') : numsAt w' v l := cellsAt.below h hf
theorem numsAt.lt {w : World} {v : Value} {l : List Nat} (h : numsAt w v l) (hpos : l ≠ []) : ∀ k, v.ownBlock = some k → k < w.heap.size :=
  cellsAt.lt h (fun e => hpos (List.map_eq_nil_iff.1 e))
theorem numsAt.cell {w : World} {a : Option Addr} {n cap : Nat} {l : List Nat} (h : numsAt w (.slice a n cap) l) {i : Nat} (hi : i < l.length) : ∃ b off, a = some ⟨b, off, none⟩ ∧ ∀ j (hj : j < l.length), w.cell? ⟨b, off + j, none⟩ = some (.int .u64 ((l[j]'hj : Nat) : Int)) := by
  obtain ⟨b, off, e, -, hc⟩ := cellsAt.get h (i := i) (by rw [numC_length]; exact hi)
  exact ⟨b, off, e, fun j hj => by rw [← numC_get l j hj (by rw [numC_length]; exact hj)]; exact hc j _⟩
theorem numsAt_new (w : World) (l : List Nat) (e : TypeId) (n : Nat) (hn : n = l.length) (h : l.length ≤ maxLen) (cs : Array Value) (hcs : cs = (numC l).toArray) : numsAt (w.alloc (.cells cs e)) (.slice (some ⟨w.heap.size, 0, none⟩) n n) l := by
  subst hcs
  exact cellsAt_new w (numC l) e n (by rw [numC_length]; exact hn) (by rw [numC_length]; exact h)
theorem numsAt_of_owns {w : World} {base : Nat} {e : TypeId} {v : Value} {l : List Nat} (h : w.ownsRow base e 1 v l.length (numC l)) : numsAt w v l :=
  cellsAt_of_owns (by rw [numC_length]; exact h)

def ListRel (p : Nat) (l : List Nat) (w1 : World) (i : Value) (wr : World) : Prop :=
  ∃ k : Nat, k ≤ l.length ∧ i = .int .i64 (k : Int) ∧ Grew w1 p none (forms (l.take k)) wr
theorem list_any (l : List Nat) (sv : Value) (w : World) (h : numsAt w sv l) (hb : ∀ v ∈ l, v ≤ 18446744073709551615) (hl : l.length ≤ 10000) :
    Calls Try.prog 18 #[sv] w (Ret (Fresh w (forms l))) := by
  have hlt := h.lt
  obtain ⟨a, cap, rfl, -, -⟩ := h.form
  have HB := Lib.hid hb
  clear hb
  go_enter Try.func18, Try.ntmps18
  go_wp2_with (go_at_call 19; refine (write_any _).mono ?_; rintro e w1 ⟨p, rfl, hw1, hf1, hp1⟩)
  go_loopw [9] (ListRel p l w1) (fun i _ => l.length - (intOf i).toNat)
  case atStart => exact ⟨0, Nat.zero_le _, rfl, Grew.same hw1⟩
  case round =>
    obtain ⟨k, hk, rfl, hgr⟩ := hrel
    have hgr0 := hgr
    obtain ⟨g, hw, hf, hg⟩ := hgr
    by_cases hkl : k < l.length
    · have hns := (h.below hf1).kept hf (fun j hj hne _ => by have := hlt hne j hj; simp; omega)
      obtain ⟨b, off, rfl, hcell⟩ := hns.cell hkl
      have hc := hcell k hkl
      have hv := HB.out (l[k]'hkl) (List.getElem_mem hkl)
      have hfl := forms_len (l.take k) (fun v hv => HB.out v (List.mem_of_mem_take hv))
      have hlen : (forms (l.take k)).length ≤ 1000000 := by rw [List.length_take] at hfl; omega
      have hst : forms (l.take (k + 1)) = forms (l.take k) ++ form (l[k]'hkl) := by rw [List.take_succ_eq_append_getElem hkl, forms_append, forms_one]
      obtain ⟨x, hx⟩ : ∃ x, x = l[k]'hkl := ⟨_, rfl⟩
      rw [← hx] at hc hv hst
      have HS := Lib.hid hst
      have HP := Lib.hid (put_any p g (forms (l.take k)) x wr hw hv hlen)
      clear hx hst hcell hns hfl hlt h hgr0 hw
      go_wp2_with (go_at_call 29; refine HP.out.mono ?_; rintro e w2 ⟨rfl, hgr2⟩)
      refine ⟨⟨k + 1, by omega, by go_num, ?_⟩, by simp [intOf]; omega⟩
      rw [HS.out]
      exact Grew.step hf hg hgr2
    · obtain rfl : k = l.length := by omega
      rw [List.take_length] at hw hgr0
      have hfl := forms_len l HB.out
      go_wp2_with (go_at_call 23; refine (bytes_any p g _ _ hw (by omega)).mono ?_; rintro e w2 ⟨v2, rfl, hown, hf2⟩)
      go_ret
      have hsz := (hf1.size)
      have hsz2 := hf.size
      exact Ret.mk ⟨owns_base hown fun k hk => by have := (hown.lt k hk).1; omega, (hf1.trans hf (by simp) (n := []) (by simp; omega)).trans hf2 (by simp) (by simp)⟩
end Go.Proofs.Ytijdffpekonklaa
