/- What the statement of layer 10 walks over: the acts; what is told. -/
import Derived.Test.YtheanpmgdkajnaaFltK
namespace Go.Proofs.Ytheanpmgdkajnaa
open Go.RowKit

/-- An act. -/
structure ADat where
  kind : Int
  fv : Value
  fl : List FltD
def ADat.cells (d : ADat) : List Value := [.int .i64 d.kind, d.fv]
def ADat.ok (d : ADat) (w : World) : Prop := faultsAt w d.fv d.fl
/-- The cells of one act of a list. -/
theorem act_cells {w : World} {a0 : Option Addr} {n cap : Nat} {l : List ADat} (h : elemsAt w (.slice a0 n cap) 2 (l.map ADat.cells)) (k : Nat) (hk : k < l.length) : ∃ b off, a0 = some ⟨b, off, none⟩ ∧ n = l.length ∧ b < w.heap.size ∧
    w.cell? ⟨b, off + k * 2, none⟩ = some (.int .i64 (l[k]'hk).kind) ∧ w.cell? ⟨b, off + k * 2 + 1, none⟩ = some (l[k]'hk).fv := by
  rcases h with ⟨_, _, _, _, e⟩ | ⟨b, off, cap', e, _, _, hb, hcell⟩
  · rw [List.map_eq_nil_iff] at e; subst e; simp at hk
  · simp only [Value.slice.injEq, List.length_map] at e
    obtain ⟨rfl, hn, rfl⟩ := e
    obtain ⟨-, h1⟩ := hcell k (by simpa using hk)
    rw [List.getElem_map] at h1
    exact ⟨b, off, rfl, hn, hb, by simpa using h1 0 _ rfl, h1 1 _ rfl⟩

theorem futureF_back (l : List FltD) (n : Int) : backF (liveF l n) n = futureF l n := rfl
theorem futureF_at (l : List FltD) (n : Int) (j : Nat) (hj : j < l.length) (hlt : n < (l[j]'hj).at_) : ∃ hc : (futureF (l.take j) n).length < (futureF l n).length, (futureF l n)[(futureF (l.take j) n).length]'hc = ⟨(l[j]'hj).at_ - n, (l[j]'hj).kind⟩ := by
  have e : futureF l n = futureF (l.take j) n ++ futureF (l.drop j) n := by rw [← futureF_append, List.take_append_drop]
  have e2 : futureF (l.drop j) n = ⟨(l[j]'hj).at_ - n, (l[j]'hj).kind⟩ :: futureF (l.drop (j + 1)) n := by
    rw [List.drop_eq_getElem_cons hj]
    unfold futureF
    rw [List.filter_cons, if_pos (by simpa using hlt)]
    rfl
  rw [e2] at e
  have hc : (futureF (l.take j) n).length < (futureF l n).length := by rw [e]; simp
  refine ⟨hc, ?_⟩
  have : (futureF l n)[(futureF (l.take j) n).length]? = some ⟨(l[j]'hj).at_ - n, (l[j]'hj).kind⟩ := by
    rw [e]; simp
  rw [List.getElem?_eq_getElem hc] at this
  exact Option.some.inj this
theorem futureF_le (l : List FltD) (n : Int) : (futureF l n).length ≤ l.length := by
  unfold futureF; rw [List.length_map]; exact List.length_filter_le _ _

/-- The bounds behind k acts. -/
structure OkS (n : Int) (la : List FltD) (k : Nat) : Prop where
  lo : 0 ≤ n
  hi : n ≤ k
  len : la.length ≤ 20 * k
  kinds : kindsOk la
  ats : ∀ f ∈ la, 0 ≤ f.at_ ∧ f.at_ ≤ 2199023255552
/-- The program's meter; all that ever was armed, in a row of the call's own. -/
structure TwoM (w : World) (p : Nat) (B : List Nat) (n : Int) (dn : Bool) (la : List FltD) (av : Value) (wx : World) : Prop where
  met : isM wx p B n dn (liveF la n)
  row : wx.ownsRow w.heap.size 31 2 av la.length (fcells la)
  apart : ∀ j, av.ownBlock = some j → j ∉ B
  new : ∀ j ∈ B, w.heap.size ≤ j
  fr : Fr [] w wx
theorem TwoM.below {w : World} {p : Nat} {B : List Nat} {n : Int} {dn : Bool} {la : List FltD} {av : Value} {wx wy : World} (h : TwoM w p B n dn la av wx) (hf : Fr [] wx wy) : TwoM w p B n dn la av wy :=
  ⟨h.met.below hf, owns_kept h.row hf (by simp), h.apart, h.new, h.fr.trans hf (by simp) (by simp)⟩
/-- Behind a call that turned the meter. -/
theorem two_mk {w : World} {p : Nat} {B : List Nat} {n' : Int} {dn' : Bool} {la : List FltD} {av : Value} {wx wy : World} (hrow : wx.ownsRow w.heap.size 31 2 av la.length (fcells la)) (hap : ∀ j, av.ownBlock = some j → j ∉ B) (hnew : ∀ j ∈ B, w.heap.size ≤ j) (hfr : Fr [] w wx)
    (ht : TurnedM p B n' dn' (liveF la n') wx wy) : ∃ B', TwoM w p B' n' dn' la av wy := by
  obtain ⟨B', hM, hf, hB'⟩ := ht
  have hs := hfr.size
  refine ⟨B', hM, owns_kept hrow hf (fun j hj => hap j hj), fun j hj hm => ?_, fun j hj => (hB' j hj).elim (hnew j) (fun q => by omega), hfr.new hf hnew⟩
  rcases hB' j hm with q | q
  · exact hap j hj q
  · have := (hrow.lt j hj).2
    omega
/-- The meter has been turned, the row stands. -/
theorem TwoM.turn {w : World} {p : Nat} {B : List Nat} {n n' : Int} {dn dn' : Bool} {la : List FltD} {av : Value} {wx wy : World} (h : TwoM w p B n dn la av wx) (ht : TurnedM p B n' dn' (liveF la n') wx wy) : ∃ B', TwoM w p B' n' dn' la av wy :=
  two_mk h.row h.apart h.new h.fr ht
theorem OkS.step {n : Int} {la : List FltD} {k : Nat} (h : OkS n la k) : OkS (n + 1) la (k + 1) := ⟨by have := h.lo; omega, by have := h.hi; omega, by have := h.len; omega, h.kinds, h.ats⟩
theorem OkS.stay {n : Int} {la : List FltD} {k : Nat} (h : OkS n la k) : OkS n la (k + 1) := ⟨h.lo, by have := h.hi; omega, by have := h.len; omega, h.kinds, h.ats⟩
theorem OkS.none {n : Int} {la : List FltD} {k : Nat} (h : OkS n la k) : OkS n [] (k + 1) := ⟨h.lo, by have := h.hi; omega, by simp, by simp [kindsOk], by simp⟩
theorem OkS.arm {n : Int} {la fl : List FltD} {k : Nat} (h : OkS n la k) (hk : k ≤ 40) (hf : fl.length ≤ 20) : OkS n (la ++ armF fl n) (k + 1) := by
  refine ⟨h.lo, by have := h.hi; omega, by have := h.len; have := armF_le fl n; rw [List.length_append]; omega, ?_, ?_⟩
  · intro f hm
    rcases List.mem_append.1 hm with q | q
    · exact h.kinds f q
    · exact armF_kinds fl n f q
  · intro f hm
    rcases List.mem_append.1 hm with q | q
    · exact h.ats f q
    · obtain ⟨x, hx, rfl⟩ := List.mem_map.1 q
      have h1 := (mayF_iff x).1 (List.mem_filter.1 hx).2
      have := h.lo
      have := h.hi
      simp only
      omega
theorem codeF_val {l : List FltD} (h : kindsOk l) (t : Int) (k : Nat) (hk : k < l.length) : codeF 11 (hitF (l.drop k) t) = if (l[k]'hk).at_ = t then (if (l[k]'hk).kind = 1 then 11 else (l[k]'hk).kind + 7) else codeF 11 (hitF (l.drop (k + 1)) t) := by
  rw [hitF_drop l t k hk]
  by_cases q : (l[k]'hk).at_ = t
  · rw [if_pos q, if_pos q]; rfl
  · rw [if_neg q, if_neg q]
end Go.Proofs.Ytheanpmgdkajnaa
