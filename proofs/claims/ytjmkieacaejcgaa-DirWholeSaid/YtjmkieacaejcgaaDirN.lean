/- What the statements of layer 9 do with an act, on the program's directory and on the document's. The walks are written by wip/tools/gen_dirN.py. -/
import Derived.Test.YtjmkieacaejcgaaDirM
namespace Go.Proofs.Ytjmkieacaejcgaa
open Go.RowKit Go.Maps

/-- An operation as the program notes it. -/
def normO (o : OpD) : OpD := if o.kind = 0 then ⟨0, o.a, [], o.n⟩ else if o.kind = 1 then ⟨1, o.a, [], 0⟩ else ⟨2, o.a, o.b, 0⟩
theorem apply_norm (l : List Ent) (o : OpD) : applyL l (normO o) = applyL l o := by
  unfold normO
  by_cases h0 : o.kind = 0
  · rw [if_pos h0]; unfold applyL; simp [h0]
  · by_cases h1 : o.kind = 1
    · rw [if_neg h0, if_pos h1]; unfold applyL; simp [h1]
    · rw [if_neg h0, if_neg h1]; unfold applyL; simp [h0, h1]
theorem crash_norm : ∀ (l : List Ent) (r : List OpD) (k : List Bool), crashL l (r.map normO) k = crashL l r k
  | l, [], k => by cases k <;> simp [crashL]
  | l, o :: r, [] => by simp [crashL]
  | l, o :: r, false :: k => by simp [crashL]
  | l, o :: r, true :: k => by rw [List.map_cons, crashL, crashL, apply_norm, crash_norm]
/-- A directory: what stands in it, what is durable, what was done since. -/
structure StD where
  now : List Ent
  safe : List Ent
  ops : List OpD
def ADat.op (d : ADat) : OpD := ⟨if d.kind = 0 then 0 else if d.kind = 1 then 1 else 2, d.a, d.b, d.n⟩
/-- .. behind an act. -/
def stepD (s : StD) (d : ADat) : StD :=
  if d.kind = 3 then ⟨s.now, s.now, []⟩ else if d.kind = 4 then ⟨crashL s.safe s.ops d.keep, crashL s.safe s.ops d.keep, []⟩
  else if mayL s.now d.op = true then (if d.op.kind = 2 ∧ d.a = d.b then s else ⟨applyL s.now d.op, s.safe, s.ops ++ [d.op]⟩) else s
structure okS (s : StD) (m : Nat) : Prop where
  sn : sortedL s.now
  ss : sortedL s.safe
  kn : okNames s.now
  ks : okNames s.safe
  ko : okOps s.ops
  ln : s.now.length ≤ m
  ls : s.safe.length + s.ops.length ≤ m
theorem crash_le (l : List Ent) (r : List OpD) (k : List Bool) : (crashL l r k).length ≤ l.length + r.length := by
  rw [crash_take]
  have := fold_le (r.take (keptL k)) l
  rw [List.length_take] at this
  omega
theorem crash_okn {l : List Ent} {r : List OpD} {k : List Bool} (h : okNames l) (hr : okOps r) : okNames (crashL l r k) := by
  rw [crash_take]
  exact fold_ok _ _ h (fun o ho => hr o (List.mem_of_mem_take ho))
theorem okS.step {s : StD} {m : Nat} (h : okS s m) (d : ADat) (hf : fewA d) : okS (stepD s d) (m + 1) := by
  have ha : d.a.length ≤ maxLen := Nat.le_trans hf.1 (by simp [maxLen])
  have hb : d.b.length ≤ maxLen := Nat.le_trans hf.2.1 (by simp [maxLen])
  have h0 : okS s (m + 1) := ⟨h.sn, h.ss, h.kn, h.ks, h.ko, by have := h.ln; omega, by have := h.ls; omega⟩
  unfold stepD
  split
  · exact ⟨h.sn, h.sn, h.kn, h.kn, fun _ h => by simp at h, by have := h.ln; simp; omega, by have := h.ln; simp; omega⟩
  · split
    · have hl := crash_le s.safe s.ops d.keep
      have := h.ls
      exact ⟨sorted_crash _ _ _ h.ss, sorted_crash _ _ _ h.ss, crash_okn h.ks h.ko, crash_okn h.ks h.ko, fun _ h => by simp at h, by simp; omega, by simp; omega⟩
    · split
      · split
        · exact h0
        · have hl := applyL_le s.now d.op
          have := h.ln
          have := h.ls
          refine ⟨sorted_apply h.sn _, h.ss, applyL_ok h.kn ha hb, h.ks, ?_, by simp; omega, by simp; omega⟩
          intro o ho
          rcases List.mem_append.1 ho with ho | ho
          · exact h.ko o ho
          · obtain rfl : o = d.op := by simpa using ho
            exact ⟨ha, hb⟩
      · exact h0
theorem five_of_heap {w : World} {p : Nat} {a b c d e : Value} {t : TypeId} {fr : Nat × Nat} (h : w.heap[p]? = some (.cells #[a, b, c, d, e] t fr)) :
    w.cell? ⟨p, 0, none⟩ = some a ∧ w.cell? ⟨p, 1, none⟩ = some b ∧ w.cell? ⟨p, 2, none⟩ = some c ∧ w.cell? ⟨p, 3, none⟩ = some d ∧ w.cell? ⟨p, 4, none⟩ = some e :=
  ⟨by rw [cell_of_heap h]; rfl, by rw [cell_of_heap h]; rfl, by rw [cell_of_heap h]; rfl, by rw [cell_of_heap h]; rfl, by rw [cell_of_heap h]; rfl⟩
theorem boxes4 (w : World) (F A R O : Array Value) (tF tA tO : TypeId) : Fr [] w ((((w.alloc (.cells F tF)).alloc (.cells A tA)).alloc (.cells R tF)).alloc (.cells O tO)) ∧ ((((w.alloc (.cells F tF)).alloc (.cells A tA)).alloc (.cells R tF)).alloc (.cells O tO)).heap[w.heap.size]? = some (.cells F tF (0, 0)) ∧
    ((((w.alloc (.cells F tF)).alloc (.cells A tA)).alloc (.cells R tF)).alloc (.cells O tO)).heap[w.heap.size + 1]? = some (.cells A tA (0, 0)) ∧ ((((w.alloc (.cells F tF)).alloc (.cells A tA)).alloc (.cells R tF)).alloc (.cells O tO)).heap[w.heap.size + 1 + 1]? = some (.cells R tF (0, 0)) ∧
    ((((w.alloc (.cells F tF)).alloc (.cells A tA)).alloc (.cells R tF)).alloc (.cells O tO)).heap[w.heap.size + 1 + 1 + 1]? = some (.cells O tO (0, 0)) := by
  obtain ⟨h1, h2, h3, h4, h5⟩ := dirs_boxes w F A R tF tA
  have f := Fr.alloc (((w.alloc (.cells F tF)).alloc (.cells A tA)).alloc (.cells R tF)) (.cells O tO)
  have h6 := heap_alloc_new (((w.alloc (.cells F tF)).alloc (.cells A tA)).alloc (.cells R tF)) (.cells O tO)
  rw [h5] at h6
  exact ⟨h1.trans f (by simp) (by simp), f.heap h2 (by simp), f.heap h3 (by simp), f.heap h4 (by simp), h6⟩
theorem results_cell2 {P : Program} {fn : Func} {p u : Tmp} {ty : TypeId} (h : fn.results = #[.cell p ty, .tmp u]) (tmps : Array Value) (w : World) (g : Nat) (t : TypeId) (cs : Array Value) (d : TypeDesc)
    (hp : tmps.getD p undef = .pointer (some ⟨g, 0, none⟩)) (hg : w.heap[g]? = some (.cells cs t (0, 0)))
    (hu : P.underlying ty = some d) (hd : (match d with | .struct _ | .array _ _ => true | _ => false) = true) (hi : (P.info? ty).map (·.size) = some cs.size) (v : Value) (hv : tmps.getD u undef = v) :
    (results fn tmps).run P w = .ok (.tuple #[.agg cs, v]) w := by
  rw [results_cell_tmp h, hp]
  subst hv
  simp [asAddr, run_loadVar_row w g t ty cs (0, 0) d hg hu hd hi]
/-- Behind an act: the program's directory and the document's. -/
def ActD (p : Nat) (B : List Nat) (s : StD) (m : Nat) (w : World) (e : Ending) (w' : World) : Prop :=
  ∃ B' nv sv ov, e = .returned (.tuple #[.agg #[nv, sv, ov], .bool true]) ∧ isD w' p B' s.now s.safe (s.ops.map normO) m ∧ RD w' nv sv ov s.now s.safe s.ops ∧ Fr B w w' ∧ ∀ k ∈ B', k ∈ B ∨ w.heap.size ≤ k
theorem step_no (s : StD) (d : ADat) (h3 : d.kind ≠ 3) (h4 : d.kind ≠ 4) (hm : mayL s.now d.op = false) : stepD s d = s := by
  unfold stepD; rw [if_neg h3, if_neg h4, if_neg (by rw [hm]; simp)]
theorem step_same (s : StD) (d : ADat) (h3 : d.kind ≠ 3) (h4 : d.kind ≠ 4) (hm : mayL s.now d.op = true) (hk : d.op.kind = 2 ∧ d.a = d.b) : stepD s d = s := by
  unfold stepD; rw [if_neg h3, if_neg h4, if_pos hm, if_pos hk]
theorem step_yes (s : StD) (d : ADat) (h3 : d.kind ≠ 3) (h4 : d.kind ≠ 4) (hm : mayL s.now d.op = true) (hk : ¬ (d.op.kind = 2 ∧ d.a = d.b)) : stepD s d = ⟨applyL s.now d.op, s.safe, s.ops ++ [d.op]⟩ := by
  unfold stepD; rw [if_neg h3, if_neg h4, if_pos hm, if_neg hk]
theorem op0 {d : ADat} (h : d.kind = 0) : d.op = ⟨0, d.a, d.b, d.n⟩ := by unfold ADat.op; rw [if_pos h]
theorem op1 {d : ADat} (h : d.kind = 1) : d.op = ⟨1, d.a, d.b, d.n⟩ := by unfold ADat.op; rw [if_neg (by omega), if_pos h]
theorem op2 {d : ADat} (h0 : d.kind ≠ 0) (h1 : d.kind ≠ 1) : d.op = ⟨2, d.a, d.b, d.n⟩ := by unfold ADat.op; rw [if_neg h0, if_neg h1]
theorem mayL_kind (l : List Ent) (o : OpD) (h : o.kind = 0) : mayL l o = !(lookL l o.a).isSome := by
  unfold mayL; rw [h]; cases (lookL l o.a).isSome <;> rfl
theorem mayL_other (l : List Ent) (o : OpD) (h : o.kind ≠ 0) : mayL l o = (lookL l o.a).isSome := by
  unfold mayL; rw [decide_eq_true h]; cases (lookL l o.a).isSome <;> rfl
/-- The end: the result lies in its cell. -/
theorem act_end {w w1 wz : World} {p q m m2 : Nat} {B B' : List Nat} {s : StD} {nv sv ov : Value} (hfw : Fr [] w w1) (hz : Fr B w1 wz) (hD : isD wz p B' s.now s.safe (s.ops.map normO) m2) (hm : m2 ≤ m) (hR : RD wz nv sv ov s.now s.safe s.ops) (hB' : ∀ k ∈ B', k ∈ B ∨ w.heap.size ≤ k)
    (hq : w.heap.size ≤ q) (hres : wz.heap[q]? = some (.cells #[.slice none 0 0, .slice none 0 0, .slice none 0 0] 30 (0, 0))) (tm : Array Value) (ht : tm.getD 6 undef = .pointer (some ⟨q, 0, none⟩)) (ht2 : tm.getD 7 undef = .bool true) :
    bodyPost Try.prog Try.f8 (ActD p B s m w) Exit.ret { tmps := tm, defers := [] } (((wz.setCell ⟨q, 0, none⟩ nv).setCell ⟨q, 1, none⟩ sv).setCell ⟨q, 2, none⟩ ov) := by
  have hh := heap_set3 (x := nv) (y := sv) (z := ov) hres
  have hfs := Fr.set3 wz q nv sv ov
  refine bodyPost_ret (results_cell2 rfl _ _ q 30 #[nv, sv, ov] _ ht hh Try.underlying30 rfl sizeDir _ ht2) rfl ⟨B', nv, sv, ov, rfl, ?_, ?_, ?_, hB'⟩
  · exact (hD.kept hfs (fun k hk => by have := hD.apart hres (by decide) (by decide); simp; rintro rfl; exact this hk)).mono hm
  · exact ⟨owns_kept hR.1 hfs (fun k hk => by simpa using owns_ne hR.1 hres (by decide) k hk), owns_kept hR.2.1 hfs (fun k hk => by simpa using owns_ne hR.2.1 hres (by decide) k hk), owns_kept hR.2.2 hfs (fun k hk => by simpa using owns_ne hR.2.2 hres (by decide) k hk)⟩
  · exact (hfw.trans hz (n := B) (by simp) (fun _ hk _ => hk)).trans hfs (fun _ hk _ => hk) (by simp; omega)
set_option maxRecDepth 100000 in
set_option maxHeartbeats 1000000 in
theorem do_put_no (p m : Nat) (B : List Nat) (s : StD) (nv sv ov : Value) (A : ADat) (w : World) (hD : isD w p B s.now s.safe (s.ops.map normO) m) (hR : RD w nv sv ov s.now s.safe s.ops) (hok : okS s m) (hm : m ≤ 500) (hA : A.ok w) (hfe : fewA A) (hk : A.kind = 0) (hlk : (lookL s.now A.a).isSome = true) :
    Calls Try.prog 8 #[.pointer (some ⟨p, 0, none⟩), .agg #[nv, sv, ov], A.val] w (ActD p B (stepD s A) (m + 1) w) := by
  obtain ⟨now, safe, ops⟩ := s
  obtain ⟨kind, a, b, n, kv, keep⟩ := A
  simp only at *
  have hBl := hD.lt
  have ha : a.length ≤ maxLen := Nat.le_trans hfe.1 (by simp [maxLen])
  have hb : b.length ≤ maxLen := Nat.le_trans hfe.2.1 (by simp [maxLen])
  obtain ⟨hkv, hnw⟩ := hA
  simp only at hkv hnw
  obtain ⟨x3, c3, rfl, -, -⟩ := hkv.form
  rw [List.length_map] at hkv ⊢
  unfold ADat.val
  simp only
  obtain ⟨a0, c0, a1, c1, a2, c2, rfl, rfl, rfl⟩ := hR.slices
  obtain ⟨S, hS⟩ : ∃ S, S = stepD ⟨now, safe, ops⟩ ⟨kind, a, b, n, .slice x3 keep.length c3, keep⟩ := ⟨_, rfl⟩
  rw [← hS]
  have hmay : mayL now ⟨0, a, b, n⟩ = false := by rw [mayL_kind _ _ rfl]; simp only; rw [hlk]; rfl
  have hop : ADat.op ⟨kind, a, b, n, .slice x3 keep.length c3, keep⟩ = ⟨0, a, b, n⟩ := op0 hk
  have HST : Hid (stepD ⟨now, safe, ops⟩ ⟨kind, a, b, n, .slice x3 keep.length c3, keep⟩ = ⟨now, safe, ops⟩) := Lib.hid (step_no _ _ (by show kind ≠ 3; omega) (by show kind ≠ 4; omega) (by rw [hop]; exact hmay))
  clear hop
  obtain ⟨hfw, hB1, hB2, hB3, hB4⟩ := boxes4 w #[.slice a0 now.length c0, .slice a1 safe.length c1, .slice a2 ops.length c2] #[.int .i64 kind, encStr a, encStr b, .int .i64 n, .slice x3 keep.length c3] #[.slice none 0 0, .slice none 0 0, .slice none 0 0] #[.int .i64 0, encStr a, encStr b, .int .i64 n] 30 35 54
  obtain ⟨w4, hw4⟩ : ∃ w4, w4 = (((w.alloc (.cells #[.slice a0 now.length c0, .slice a1 safe.length c1, .slice a2 ops.length c2] 30)).alloc (.cells #[.int .i64 kind, encStr a, encStr b, .int .i64 n, .slice x3 keep.length c3] 35)).alloc (.cells #[.slice none 0 0, .slice none 0 0, .slice none 0 0] 30)).alloc (.cells #[.int .i64 0, encStr a, encStr b, .int .i64 n] 54) := ⟨_, rfl⟩
  rw [← hw4] at hfw hB1 hB2 hB3 hB4
  have hD4 := hD.below hfw
  have hR4 := hR.below hfw
  have HC := Lib.hid (dput_no p m B now safe _ a n w4 hD4 ha hlk)
  have HMAY : Hid (∀ wx, namesR wx 0 (.slice a0 now.length c0) now → Calls Try.prog 19 #[.slice a0 now.length c0, .agg #[.int .i64 0, encStr a, encStr b, .int .i64 n]] wx fun e w' => e = .returned (.bool false) ∧ Fr [] wx w') := Lib.hid (fun wx hx => by
    have h := rmay_any now ⟨0, a, b, n⟩ _ wx hx
    rw [hmay] at h
    exact h)
  have HB1 := Lib.hid hB1
  have HB2 := Lib.hid hB2
  have HB3 := Lib.hid hB3
  have HB4 := Lib.hid hB4
  have HFW := Lib.hid hfw
  have HW := Lib.hid hw4
  have HD4 := Lib.hid hD4
  have HR4 := Lib.hid hR4
  have HBL := Lib.hid hBl
  have hn0 : ∀ j, w.heap.size ≤ j → j ∉ B := fun j hj hm => by have := hBl j hm; omega
  have HN0 := Lib.hid hn0
  have HSS := Lib.hid hS
  subst hk
  clear hD hR hok hfe hkv hB1 hB2 hB3 hB4 hfw hw4 hD4 hR4 hBl hn0 hmay ha hb hnw hS
  go_enter Try.func8, Try.ntmps8
  go_upto_region 10 with fail
  rw [← HW.out]
  obtain ⟨e0, e1, e2, e3, e4⟩ := five_of_heap HB2.out
  obtain ⟨d0, d1, d2, d3⟩ := four_of_heap HB4.out
  obtain ⟨g0, g1, g2, -, -, -⟩ := three_of_heap HB1.out
  go_wp2_with (first
    | (go_at_call 14; refine HC.out.mono ?_; rintro e w5 ⟨rfl, rfl⟩)
    | (go_at_call 19; refine (HMAY.out _ HR4.out.1).mono ?_; rintro e w6 ⟨rfl, hf6⟩; have hR6 := HR4.out.below hf6; have HR6 := Lib.hid hR6; have HF6 := Lib.hid hf6; have hk1 := hf6.heap HB1.out (by simp); have hk3 := hf6.heap HB3.out (by simp); have hk4 := hf6.heap HB4.out (by simp); have HK3 := Lib.hid hk3; obtain ⟨g0, g1, g2, -, -, -⟩ := three_of_heap hk1; obtain ⟨r0, r1, r2, s0, s1, s2⟩ := three_of_heap hk3; obtain ⟨d0, d1, d2, d3⟩ := four_of_heap hk4; clear hR6 hf6 hk3 hk1 hk4))
  rw [HSS.out, HST.out]
  exact act_end (s := ⟨now, safe, ops⟩) (m2 := m) HFW.out (HF6.out.mono (by simp)) (HD4.out.below HF6.out) (by omega) HR6.out (fun k hk => .inl hk) (by omega) HK3.out _ rfl rfl
set_option maxRecDepth 100000 in
set_option maxHeartbeats 1000000 in
theorem do_put_yes (p m : Nat) (B : List Nat) (s : StD) (nv sv ov : Value) (A : ADat) (w : World) (hD : isD w p B s.now s.safe (s.ops.map normO) m) (hR : RD w nv sv ov s.now s.safe s.ops) (hok : okS s m) (hm : m ≤ 500) (hA : A.ok w) (hfe : fewA A) (hk : A.kind = 0) (hlk : (lookL s.now A.a).isSome = false) :
    Calls Try.prog 8 #[.pointer (some ⟨p, 0, none⟩), .agg #[nv, sv, ov], A.val] w (ActD p B (stepD s A) (m + 1) w) := by
  obtain ⟨now, safe, ops⟩ := s
  obtain ⟨kind, a, b, n, kv, keep⟩ := A
  simp only at *
  have hBl := hD.lt
  have ha : a.length ≤ maxLen := Nat.le_trans hfe.1 (by simp [maxLen])
  have hb : b.length ≤ maxLen := Nat.le_trans hfe.2.1 (by simp [maxLen])
  obtain ⟨hkv, hnw⟩ := hA
  simp only at hkv hnw
  obtain ⟨x3, c3, rfl, -, -⟩ := hkv.form
  rw [List.length_map] at hkv ⊢
  unfold ADat.val
  simp only
  obtain ⟨a0, c0, a1, c1, a2, c2, rfl, rfl, rfl⟩ := hR.slices
  obtain ⟨S, hS⟩ : ∃ S, S = stepD ⟨now, safe, ops⟩ ⟨kind, a, b, n, .slice x3 keep.length c3, keep⟩ := ⟨_, rfl⟩
  rw [← hS]
  have hmay : mayL now ⟨0, a, b, n⟩ = true := by rw [mayL_kind _ _ rfl]; simp only; rw [hlk]; rfl
  have hop : ADat.op ⟨kind, a, b, n, .slice x3 keep.length c3, keep⟩ = ⟨0, a, b, n⟩ := op0 hk
  have HST : Hid (stepD ⟨now, safe, ops⟩ ⟨kind, a, b, n, .slice x3 keep.length c3, keep⟩ = ⟨applyL now ⟨0, a, b, n⟩, safe, ops ++ [⟨0, a, b, n⟩]⟩) := Lib.hid (by rw [step_yes _ _ (by show kind ≠ 3; omega) (by show kind ≠ 4; omega) (by rw [hop]; exact hmay) (by rw [hop]; simp), hop])
  clear hop
  obtain ⟨hfw, hB1, hB2, hB3, hB4⟩ := boxes4 w #[.slice a0 now.length c0, .slice a1 safe.length c1, .slice a2 ops.length c2] #[.int .i64 kind, encStr a, encStr b, .int .i64 n, .slice x3 keep.length c3] #[.slice none 0 0, .slice none 0 0, .slice none 0 0] #[.int .i64 0, encStr a, encStr b, .int .i64 n] 30 35 54
  obtain ⟨w4, hw4⟩ : ∃ w4, w4 = (((w.alloc (.cells #[.slice a0 now.length c0, .slice a1 safe.length c1, .slice a2 ops.length c2] 30)).alloc (.cells #[.int .i64 kind, encStr a, encStr b, .int .i64 n, .slice x3 keep.length c3] 35)).alloc (.cells #[.slice none 0 0, .slice none 0 0, .slice none 0 0] 30)).alloc (.cells #[.int .i64 0, encStr a, encStr b, .int .i64 n] 54) := ⟨_, rfl⟩
  rw [← hw4] at hfw hB1 hB2 hB3 hB4
  have hD4 := hD.below hfw
  have hR4 := hR.below hfw
  have HC := Lib.hid (dput_yes p m B now safe _ a n w4 hD4 ha hnw hlk (by omega))
  have HNORM : Hid ((applyL now (⟨0, a, [], n⟩ : OpD)) = applyL now ⟨0, a, b, n⟩ ∧ ops.map normO ++ [(⟨0, a, [], n⟩ : OpD)] = (ops ++ [(⟨0, a, b, n⟩ : OpD)]).map normO) := Lib.hid ⟨apply_norm now ⟨0, a, b, n⟩, by simp [normO]⟩
  have HMAY : Hid (∀ wx, namesR wx 0 (.slice a0 now.length c0) now → Calls Try.prog 19 #[.slice a0 now.length c0, .agg #[.int .i64 0, encStr a, encStr b, .int .i64 n]] wx fun e w' => e = .returned (.bool true) ∧ Fr [] wx w') := Lib.hid (fun wx hx => by
    have h := rmay_any now ⟨0, a, b, n⟩ _ wx hx
    rw [hmay] at h
    exact h)
  have HL8 : Hid ((ops ++ [(⟨0, a, b, n⟩ : OpD)]).length = ops.length + 1) := Lib.hid (by simp)
  have HDO : Hid (∀ wx, RD wx (.slice a0 now.length c0) (.slice a1 safe.length c1) (.slice a2 ops.length c2) now safe ops → Calls Try.prog 20 #[.agg #[.slice a0 now.length c0, .slice a1 safe.length c1, .slice a2 ops.length c2], .agg #[.int .i64 0, encStr a, encStr b, .int .i64 n]] wx (Didd (applyL now ⟨0, a, b, n⟩) (.slice a1 safe.length c1) (ops ++ [⟨0, a, b, n⟩]) wx)) := Lib.hid (fun wx hx => rdo_any now safe ops ⟨0, a, b, n⟩ _ _ _ wx hx.1 hx.2.1 hx.2.2 (by have := hok.ln; simp only at this; omega) (by have := hok.ls; simp only at this; omega) hok.kn ha hb (by simp))
  have HB1 := Lib.hid hB1
  have HB2 := Lib.hid hB2
  have HB3 := Lib.hid hB3
  have HB4 := Lib.hid hB4
  have HFW := Lib.hid hfw
  have HW := Lib.hid hw4
  have HD4 := Lib.hid hD4
  have HR4 := Lib.hid hR4
  have HBL := Lib.hid hBl
  have hn0 : ∀ j, w.heap.size ≤ j → j ∉ B := fun j hj hm => by have := hBl j hm; omega
  have HN0 := Lib.hid hn0
  have HSS := Lib.hid hS
  subst hk
  clear hD hR hok hfe hkv hB1 hB2 hB3 hB4 hfw hw4 hD4 hR4 hBl hn0 hmay ha hb hnw hS
  go_enter Try.func8, Try.ntmps8
  go_upto_region 10 with fail
  rw [← HW.out]
  obtain ⟨e0, e1, e2, e3, e4⟩ := five_of_heap HB2.out
  obtain ⟨d0, d1, d2, d3⟩ := four_of_heap HB4.out
  obtain ⟨g0, g1, g2, -, -, -⟩ := three_of_heap HB1.out
  go_wp2_with (first
    | (go_at_call 14; refine HC.out.mono ?_; rintro e w5 ⟨rfl, B5, hD5, hf5, hB5⟩; have HR5 := Lib.hid (HR4.out.keptD HD4.out hf5); have HD5 := Lib.hid hD5; have HF5 := Lib.hid hf5; have HB5 := Lib.hid hB5; have j1 := hf5.heap HB1.out (HN0.out _ (by omega)); have j3 := hf5.heap HB3.out (HN0.out _ (by omega)); have j4 := hf5.heap HB4.out (HN0.out _ (by omega)); have J1 := Lib.hid j1; have J3 := Lib.hid j3; have J4 := Lib.hid j4; obtain ⟨g0, g1, g2, -, -, -⟩ := three_of_heap j1; obtain ⟨d0, d1, d2, d3⟩ := four_of_heap j4; clear hD5 hf5 hB5 j1 j3 j4)
    | (go_at_call 19; refine (HMAY.out _ HR5.out.1).mono ?_; rintro e w6 ⟨rfl, hf6⟩; have hR6 := HR5.out.below hf6; have HR6 := Lib.hid hR6; have HF6 := Lib.hid hf6; have hk1 := hf6.heap J1.out (by simp); have hk3 := hf6.heap J3.out (by simp); have hk4 := hf6.heap J4.out (by simp); have HK3 := Lib.hid hk3; obtain ⟨g0, g1, g2, -, -, -⟩ := three_of_heap hk1; obtain ⟨r0, r1, r2, s0, s1, s2⟩ := three_of_heap hk3; obtain ⟨d0, d1, d2, d3⟩ := four_of_heap hk4; clear hR6 hf6 hk3 hk1 hk4)
    | (go_at_call 20; refine (HDO.out _ HR6.out).mono ?_; rintro e w7 ⟨v7, o7, rfl, hn7, ho7, hf7⟩; have HF7 := Lib.hid hf7; have hk7 := hf7.heap HK3.out (by simp); have HK7 := Lib.hid hk7; obtain ⟨r0, r1, r2, s0, s1, s2⟩ := three_of_heap hk7; obtain ⟨x7, y7, rfl, -, -⟩ := owns_slice' hn7; have HN7 := Lib.hid hn7; obtain ⟨x8, y8, h8, -, -⟩ := owns_slice ho7; rw [HL8.out] at h8; subst h8; have HO7 := Lib.hid ho7; clear hf7 hk7 hn7 ho7))
  rw [HSS.out, HST.out]
  have hfz := (HF5.out.trans HF6.out (n := B) (fun _ hk _ => hk) (by simp)).trans HF7.out (n := B) (fun _ hk _ => hk) (by simp)
  have h7 := (HD5.out.below HF6.out).below HF7.out
  rw [HNORM.out.1, HNORM.out.2] at h7
  have hRR : RD w7 _ (.slice a1 safe.length c1) (.slice x8 (ops.length + 1) y8) (applyL now ⟨0, a, b, n⟩) safe (ops ++ [⟨0, a, b, n⟩]) := ⟨HN7.out, (HR6.out.below HF7.out).2.1, HO7.out⟩
  have key := fun tm h1 h2 => act_end (s := ⟨applyL now ⟨0, a, b, n⟩, safe, ops ++ [⟨0, a, b, n⟩]⟩) (m2 := m + 1) HFW.out hfz h7 (Nat.le_refl _) hRR (fun k hk => (HB5.out k hk).imp id (fun h => by have := HFW.out.size; omega)) (by omega) HK7.out tm h1 h2
  exact key _ rfl rfl
set_option maxRecDepth 100000 in
set_option maxHeartbeats 1000000 in
theorem do_drop_no (p m : Nat) (B : List Nat) (s : StD) (nv sv ov : Value) (A : ADat) (w : World) (hD : isD w p B s.now s.safe (s.ops.map normO) m) (hR : RD w nv sv ov s.now s.safe s.ops) (hok : okS s m) (hm : m ≤ 500) (hA : A.ok w) (hfe : fewA A) (hk : A.kind = 1) (hlk : (lookL s.now A.a).isSome = false) :
    Calls Try.prog 8 #[.pointer (some ⟨p, 0, none⟩), .agg #[nv, sv, ov], A.val] w (ActD p B (stepD s A) (m + 1) w) := by
  obtain ⟨now, safe, ops⟩ := s
  obtain ⟨kind, a, b, n, kv, keep⟩ := A
  simp only at *
  have hBl := hD.lt
  have ha : a.length ≤ maxLen := Nat.le_trans hfe.1 (by simp [maxLen])
  have hb : b.length ≤ maxLen := Nat.le_trans hfe.2.1 (by simp [maxLen])
  obtain ⟨hkv, hnw⟩ := hA
  simp only at hkv hnw
  obtain ⟨x3, c3, rfl, -, -⟩ := hkv.form
  rw [List.length_map] at hkv ⊢
  unfold ADat.val
  simp only
  obtain ⟨a0, c0, a1, c1, a2, c2, rfl, rfl, rfl⟩ := hR.slices
  obtain ⟨S, hS⟩ : ∃ S, S = stepD ⟨now, safe, ops⟩ ⟨kind, a, b, n, .slice x3 keep.length c3, keep⟩ := ⟨_, rfl⟩
  rw [← hS]
  have hmay : mayL now ⟨1, a, b, n⟩ = false := by rw [mayL_other _ _ (by simp)]; exact hlk
  have hop : ADat.op ⟨kind, a, b, n, .slice x3 keep.length c3, keep⟩ = ⟨1, a, b, n⟩ := op1 hk
  have HST : Hid (stepD ⟨now, safe, ops⟩ ⟨kind, a, b, n, .slice x3 keep.length c3, keep⟩ = ⟨now, safe, ops⟩) := Lib.hid (step_no _ _ (by show kind ≠ 3; omega) (by show kind ≠ 4; omega) (by rw [hop]; exact hmay))
  clear hop
  obtain ⟨hfw, hB1, hB2, hB3, hB4⟩ := boxes4 w #[.slice a0 now.length c0, .slice a1 safe.length c1, .slice a2 ops.length c2] #[.int .i64 kind, encStr a, encStr b, .int .i64 n, .slice x3 keep.length c3] #[.slice none 0 0, .slice none 0 0, .slice none 0 0] #[.int .i64 1, encStr a, encStr b, .int .i64 n] 30 35 54
  obtain ⟨w4, hw4⟩ : ∃ w4, w4 = (((w.alloc (.cells #[.slice a0 now.length c0, .slice a1 safe.length c1, .slice a2 ops.length c2] 30)).alloc (.cells #[.int .i64 kind, encStr a, encStr b, .int .i64 n, .slice x3 keep.length c3] 35)).alloc (.cells #[.slice none 0 0, .slice none 0 0, .slice none 0 0] 30)).alloc (.cells #[.int .i64 1, encStr a, encStr b, .int .i64 n] 54) := ⟨_, rfl⟩
  rw [← hw4] at hfw hB1 hB2 hB3 hB4
  have hD4 := hD.below hfw
  have hR4 := hR.below hfw
  have HC := Lib.hid (ddrop_no p m B now safe _ a w4 hD4 ha hlk)
  have HMAY : Hid (∀ wx, namesR wx 0 (.slice a0 now.length c0) now → Calls Try.prog 19 #[.slice a0 now.length c0, .agg #[.int .i64 1, encStr a, encStr b, .int .i64 n]] wx fun e w' => e = .returned (.bool false) ∧ Fr [] wx w') := Lib.hid (fun wx hx => by
    have h := rmay_any now ⟨1, a, b, n⟩ _ wx hx
    rw [hmay] at h
    exact h)
  have HB1 := Lib.hid hB1
  have HB2 := Lib.hid hB2
  have HB3 := Lib.hid hB3
  have HB4 := Lib.hid hB4
  have HFW := Lib.hid hfw
  have HW := Lib.hid hw4
  have HD4 := Lib.hid hD4
  have HR4 := Lib.hid hR4
  have HBL := Lib.hid hBl
  have hn0 : ∀ j, w.heap.size ≤ j → j ∉ B := fun j hj hm => by have := hBl j hm; omega
  have HN0 := Lib.hid hn0
  have HSS := Lib.hid hS
  subst hk
  clear hD hR hok hfe hkv hB1 hB2 hB3 hB4 hfw hw4 hD4 hR4 hBl hn0 hmay ha hb hnw hS
  go_enter Try.func8, Try.ntmps8
  go_upto_region 12 with fail
  rw [← HW.out]
  obtain ⟨e0, e1, e2, e3, e4⟩ := five_of_heap HB2.out
  obtain ⟨d0, d1, d2, d3⟩ := four_of_heap HB4.out
  obtain ⟨g0, g1, g2, -, -, -⟩ := three_of_heap HB1.out
  go_wp2_with (first
    | (go_at_call 18; refine HC.out.mono ?_; rintro e w5 ⟨rfl, rfl⟩)
    | (go_at_call 19; refine (HMAY.out _ HR4.out.1).mono ?_; rintro e w6 ⟨rfl, hf6⟩; have hR6 := HR4.out.below hf6; have HR6 := Lib.hid hR6; have HF6 := Lib.hid hf6; have hk1 := hf6.heap HB1.out (by simp); have hk3 := hf6.heap HB3.out (by simp); have hk4 := hf6.heap HB4.out (by simp); have HK3 := Lib.hid hk3; obtain ⟨g0, g1, g2, -, -, -⟩ := three_of_heap hk1; obtain ⟨r0, r1, r2, s0, s1, s2⟩ := three_of_heap hk3; obtain ⟨d0, d1, d2, d3⟩ := four_of_heap hk4; clear hR6 hf6 hk3 hk1 hk4))
  rw [HSS.out, HST.out]
  exact act_end (s := ⟨now, safe, ops⟩) (m2 := m) HFW.out (HF6.out.mono (by simp)) (HD4.out.below HF6.out) (by omega) HR6.out (fun k hk => .inl hk) (by omega) HK3.out _ rfl rfl
set_option maxRecDepth 100000 in
set_option maxHeartbeats 1000000 in
theorem do_drop_yes (p m : Nat) (B : List Nat) (s : StD) (nv sv ov : Value) (A : ADat) (w : World) (hD : isD w p B s.now s.safe (s.ops.map normO) m) (hR : RD w nv sv ov s.now s.safe s.ops) (hok : okS s m) (hm : m ≤ 500) (hA : A.ok w) (hfe : fewA A) (hk : A.kind = 1) (hlk : (lookL s.now A.a).isSome = true) :
    Calls Try.prog 8 #[.pointer (some ⟨p, 0, none⟩), .agg #[nv, sv, ov], A.val] w (ActD p B (stepD s A) (m + 1) w) := by
  obtain ⟨now, safe, ops⟩ := s
  obtain ⟨kind, a, b, n, kv, keep⟩ := A
  simp only at *
  have hBl := hD.lt
  have ha : a.length ≤ maxLen := Nat.le_trans hfe.1 (by simp [maxLen])
  have hb : b.length ≤ maxLen := Nat.le_trans hfe.2.1 (by simp [maxLen])
  obtain ⟨hkv, hnw⟩ := hA
  simp only at hkv hnw
  obtain ⟨x3, c3, rfl, -, -⟩ := hkv.form
  rw [List.length_map] at hkv ⊢
  unfold ADat.val
  simp only
  obtain ⟨a0, c0, a1, c1, a2, c2, rfl, rfl, rfl⟩ := hR.slices
  obtain ⟨S, hS⟩ : ∃ S, S = stepD ⟨now, safe, ops⟩ ⟨kind, a, b, n, .slice x3 keep.length c3, keep⟩ := ⟨_, rfl⟩
  rw [← hS]
  have hmay : mayL now ⟨1, a, b, n⟩ = true := by rw [mayL_other _ _ (by simp)]; exact hlk
  have hop : ADat.op ⟨kind, a, b, n, .slice x3 keep.length c3, keep⟩ = ⟨1, a, b, n⟩ := op1 hk
  have HST : Hid (stepD ⟨now, safe, ops⟩ ⟨kind, a, b, n, .slice x3 keep.length c3, keep⟩ = ⟨applyL now ⟨1, a, b, n⟩, safe, ops ++ [⟨1, a, b, n⟩]⟩) := Lib.hid (by rw [step_yes _ _ (by show kind ≠ 3; omega) (by show kind ≠ 4; omega) (by rw [hop]; exact hmay) (by rw [hop]; simp), hop])
  clear hop
  obtain ⟨hfw, hB1, hB2, hB3, hB4⟩ := boxes4 w #[.slice a0 now.length c0, .slice a1 safe.length c1, .slice a2 ops.length c2] #[.int .i64 kind, encStr a, encStr b, .int .i64 n, .slice x3 keep.length c3] #[.slice none 0 0, .slice none 0 0, .slice none 0 0] #[.int .i64 1, encStr a, encStr b, .int .i64 n] 30 35 54
  obtain ⟨w4, hw4⟩ : ∃ w4, w4 = (((w.alloc (.cells #[.slice a0 now.length c0, .slice a1 safe.length c1, .slice a2 ops.length c2] 30)).alloc (.cells #[.int .i64 kind, encStr a, encStr b, .int .i64 n, .slice x3 keep.length c3] 35)).alloc (.cells #[.slice none 0 0, .slice none 0 0, .slice none 0 0] 30)).alloc (.cells #[.int .i64 1, encStr a, encStr b, .int .i64 n] 54) := ⟨_, rfl⟩
  rw [← hw4] at hfw hB1 hB2 hB3 hB4
  have hD4 := hD.below hfw
  have hR4 := hR.below hfw
  have HC := Lib.hid (ddrop_yes p m B now safe _ a w4 hD4 ha hlk (by omega))
  have HNORM : Hid ((applyL now (⟨1, a, [], 0⟩ : OpD)) = applyL now ⟨1, a, b, n⟩ ∧ ops.map normO ++ [(⟨1, a, [], 0⟩ : OpD)] = (ops ++ [(⟨1, a, b, n⟩ : OpD)]).map normO) := Lib.hid ⟨apply_norm now ⟨1, a, b, n⟩, by simp [normO]⟩
  have HMAY : Hid (∀ wx, namesR wx 0 (.slice a0 now.length c0) now → Calls Try.prog 19 #[.slice a0 now.length c0, .agg #[.int .i64 1, encStr a, encStr b, .int .i64 n]] wx fun e w' => e = .returned (.bool true) ∧ Fr [] wx w') := Lib.hid (fun wx hx => by
    have h := rmay_any now ⟨1, a, b, n⟩ _ wx hx
    rw [hmay] at h
    exact h)
  have HL8 : Hid ((ops ++ [(⟨1, a, b, n⟩ : OpD)]).length = ops.length + 1) := Lib.hid (by simp)
  have HDO : Hid (∀ wx, RD wx (.slice a0 now.length c0) (.slice a1 safe.length c1) (.slice a2 ops.length c2) now safe ops → Calls Try.prog 20 #[.agg #[.slice a0 now.length c0, .slice a1 safe.length c1, .slice a2 ops.length c2], .agg #[.int .i64 1, encStr a, encStr b, .int .i64 n]] wx (Didd (applyL now ⟨1, a, b, n⟩) (.slice a1 safe.length c1) (ops ++ [⟨1, a, b, n⟩]) wx)) := Lib.hid (fun wx hx => rdo_any now safe ops ⟨1, a, b, n⟩ _ _ _ wx hx.1 hx.2.1 hx.2.2 (by have := hok.ln; simp only at this; omega) (by have := hok.ls; simp only at this; omega) hok.kn ha hb (by simp))
  have HB1 := Lib.hid hB1
  have HB2 := Lib.hid hB2
  have HB3 := Lib.hid hB3
  have HB4 := Lib.hid hB4
  have HFW := Lib.hid hfw
  have HW := Lib.hid hw4
  have HD4 := Lib.hid hD4
  have HR4 := Lib.hid hR4
  have HBL := Lib.hid hBl
  have hn0 : ∀ j, w.heap.size ≤ j → j ∉ B := fun j hj hm => by have := hBl j hm; omega
  have HN0 := Lib.hid hn0
  have HSS := Lib.hid hS
  subst hk
  clear hD hR hok hfe hkv hB1 hB2 hB3 hB4 hfw hw4 hD4 hR4 hBl hn0 hmay ha hb hnw hS
  go_enter Try.func8, Try.ntmps8
  go_upto_region 12 with fail
  rw [← HW.out]
  obtain ⟨e0, e1, e2, e3, e4⟩ := five_of_heap HB2.out
  obtain ⟨d0, d1, d2, d3⟩ := four_of_heap HB4.out
  obtain ⟨g0, g1, g2, -, -, -⟩ := three_of_heap HB1.out
  go_wp2_with (first
    | (go_at_call 18; refine HC.out.mono ?_; rintro e w5 ⟨rfl, B5, hD5, hf5, hB5⟩; have HR5 := Lib.hid (HR4.out.keptD HD4.out hf5); have HD5 := Lib.hid hD5; have HF5 := Lib.hid hf5; have HB5 := Lib.hid hB5; have j1 := hf5.heap HB1.out (HN0.out _ (by omega)); have j3 := hf5.heap HB3.out (HN0.out _ (by omega)); have j4 := hf5.heap HB4.out (HN0.out _ (by omega)); have J1 := Lib.hid j1; have J3 := Lib.hid j3; have J4 := Lib.hid j4; obtain ⟨g0, g1, g2, -, -, -⟩ := three_of_heap j1; obtain ⟨d0, d1, d2, d3⟩ := four_of_heap j4; clear hD5 hf5 hB5 j1 j3 j4)
    | (go_at_call 19; refine (HMAY.out _ HR5.out.1).mono ?_; rintro e w6 ⟨rfl, hf6⟩; have hR6 := HR5.out.below hf6; have HR6 := Lib.hid hR6; have HF6 := Lib.hid hf6; have hk1 := hf6.heap J1.out (by simp); have hk3 := hf6.heap J3.out (by simp); have hk4 := hf6.heap J4.out (by simp); have HK3 := Lib.hid hk3; obtain ⟨g0, g1, g2, -, -, -⟩ := three_of_heap hk1; obtain ⟨r0, r1, r2, s0, s1, s2⟩ := three_of_heap hk3; obtain ⟨d0, d1, d2, d3⟩ := four_of_heap hk4; clear hR6 hf6 hk3 hk1 hk4)
    | (go_at_call 20; refine (HDO.out _ HR6.out).mono ?_; rintro e w7 ⟨v7, o7, rfl, hn7, ho7, hf7⟩; have HF7 := Lib.hid hf7; have hk7 := hf7.heap HK3.out (by simp); have HK7 := Lib.hid hk7; obtain ⟨r0, r1, r2, s0, s1, s2⟩ := three_of_heap hk7; obtain ⟨x7, y7, rfl, -, -⟩ := owns_slice' hn7; have HN7 := Lib.hid hn7; obtain ⟨x8, y8, h8, -, -⟩ := owns_slice ho7; rw [HL8.out] at h8; subst h8; have HO7 := Lib.hid ho7; clear hf7 hk7 hn7 ho7))
  rw [HSS.out, HST.out]
  have hfz := (HF5.out.trans HF6.out (n := B) (fun _ hk _ => hk) (by simp)).trans HF7.out (n := B) (fun _ hk _ => hk) (by simp)
  have h7 := (HD5.out.below HF6.out).below HF7.out
  rw [HNORM.out.1, HNORM.out.2] at h7
  have hRR : RD w7 _ (.slice a1 safe.length c1) (.slice x8 (ops.length + 1) y8) (applyL now ⟨1, a, b, n⟩) safe (ops ++ [⟨1, a, b, n⟩]) := ⟨HN7.out, (HR6.out.below HF7.out).2.1, HO7.out⟩
  have key := fun tm h1 h2 => act_end (s := ⟨applyL now ⟨1, a, b, n⟩, safe, ops ++ [⟨1, a, b, n⟩]⟩) (m2 := m + 1) HFW.out hfz h7 (Nat.le_refl _) hRR (fun k hk => (HB5.out k hk).imp id (fun h => by have := HFW.out.size; omega)) (by omega) HK7.out tm h1 h2
  exact key _ rfl rfl
set_option maxRecDepth 100000 in
set_option maxHeartbeats 1000000 in
theorem do_move_no (p m : Nat) (B : List Nat) (s : StD) (nv sv ov : Value) (A : ADat) (w : World) (hD : isD w p B s.now s.safe (s.ops.map normO) m) (hR : RD w nv sv ov s.now s.safe s.ops) (hok : okS s m) (hm : m ≤ 500) (hA : A.ok w) (hfe : fewA A) (hk0 : A.kind ≠ 0) (hk1 : A.kind ≠ 1) (hk3 : A.kind ≠ 3) (hk4 : A.kind ≠ 4) (hlk : (lookL s.now A.a).isSome = false) :
    Calls Try.prog 8 #[.pointer (some ⟨p, 0, none⟩), .agg #[nv, sv, ov], A.val] w (ActD p B (stepD s A) (m + 1) w) := by
  obtain ⟨now, safe, ops⟩ := s
  obtain ⟨kind, a, b, n, kv, keep⟩ := A
  simp only at *
  have hBl := hD.lt
  have ha : a.length ≤ maxLen := Nat.le_trans hfe.1 (by simp [maxLen])
  have hb : b.length ≤ maxLen := Nat.le_trans hfe.2.1 (by simp [maxLen])
  obtain ⟨hkv, hnw⟩ := hA
  simp only at hkv hnw
  obtain ⟨x3, c3, rfl, -, -⟩ := hkv.form
  rw [List.length_map] at hkv ⊢
  unfold ADat.val
  simp only
  obtain ⟨a0, c0, a1, c1, a2, c2, rfl, rfl, rfl⟩ := hR.slices
  obtain ⟨S, hS⟩ : ∃ S, S = stepD ⟨now, safe, ops⟩ ⟨kind, a, b, n, .slice x3 keep.length c3, keep⟩ := ⟨_, rfl⟩
  rw [← hS]
  have hmay : mayL now ⟨2, a, b, n⟩ = false := by rw [mayL_other _ _ (by simp)]; exact hlk
  have hop : ADat.op ⟨kind, a, b, n, .slice x3 keep.length c3, keep⟩ = ⟨2, a, b, n⟩ := op2 hk0 hk1
  have HST : Hid (stepD ⟨now, safe, ops⟩ ⟨kind, a, b, n, .slice x3 keep.length c3, keep⟩ = ⟨now, safe, ops⟩) := Lib.hid (step_no _ _ hk3 hk4 (by rw [hop]; exact hmay))
  clear hop
  obtain ⟨hfw, hB1, hB2, hB3, hB4⟩ := boxes4 w #[.slice a0 now.length c0, .slice a1 safe.length c1, .slice a2 ops.length c2] #[.int .i64 kind, encStr a, encStr b, .int .i64 n, .slice x3 keep.length c3] #[.slice none 0 0, .slice none 0 0, .slice none 0 0] #[.int .i64 2, encStr a, encStr b, .int .i64 n] 30 35 54
  obtain ⟨w4, hw4⟩ : ∃ w4, w4 = (((w.alloc (.cells #[.slice a0 now.length c0, .slice a1 safe.length c1, .slice a2 ops.length c2] 30)).alloc (.cells #[.int .i64 kind, encStr a, encStr b, .int .i64 n, .slice x3 keep.length c3] 35)).alloc (.cells #[.slice none 0 0, .slice none 0 0, .slice none 0 0] 30)).alloc (.cells #[.int .i64 2, encStr a, encStr b, .int .i64 n] 54) := ⟨_, rfl⟩
  rw [← hw4] at hfw hB1 hB2 hB3 hB4
  have hD4 := hD.below hfw
  have hR4 := hR.below hfw
  have HC := Lib.hid (dmove_no p m B now safe _ a b w4 hD4 ha hlk)
  have HMAY : Hid (∀ wx, namesR wx 0 (.slice a0 now.length c0) now → Calls Try.prog 19 #[.slice a0 now.length c0, .agg #[.int .i64 2, encStr a, encStr b, .int .i64 n]] wx fun e w' => e = .returned (.bool false) ∧ Fr [] wx w') := Lib.hid (fun wx hx => by
    have h := rmay_any now ⟨2, a, b, n⟩ _ wx hx
    rw [hmay] at h
    exact h)
  have HB1 := Lib.hid hB1
  have HB2 := Lib.hid hB2
  have HB3 := Lib.hid hB3
  have HB4 := Lib.hid hB4
  have HFW := Lib.hid hfw
  have HW := Lib.hid hw4
  have HD4 := Lib.hid hD4
  have HR4 := Lib.hid hR4
  have HBL := Lib.hid hBl
  have hn0 : ∀ j, w.heap.size ≤ j → j ∉ B := fun j hj hm => by have := hBl j hm; omega
  have HN0 := Lib.hid hn0
  have HSS := Lib.hid hS
  have e30 : (kind == 3) = false := by rw [beq_eq_false_iff_ne]; exact hk3
  have e40 : (kind == 4) = false := by rw [beq_eq_false_iff_ne]; exact hk4
  have e00 : (kind == 0) = false := by rw [beq_eq_false_iff_ne]; exact hk0
  have e10 : (kind == 1) = false := by rw [beq_eq_false_iff_ne]; exact hk1
  clear hk0 hk1 hk3 hk4
  clear hD hR hok hfe hkv hB1 hB2 hB3 hB4 hfw hw4 hD4 hR4 hBl hn0 hmay ha hb hnw hS
  go_enter Try.func8, Try.ntmps8
  go_upto_region 14 with fail
  rw [← HW.out]
  obtain ⟨e0, e1, e2, e3, e4⟩ := five_of_heap HB2.out
  obtain ⟨d0, d1, d2, d3⟩ := four_of_heap HB4.out
  obtain ⟨g0, g1, g2, -, -, -⟩ := three_of_heap HB1.out
  go_wp2_with (first
    | (go_at_call 16; refine HC.out.mono ?_; rintro e w5 ⟨rfl, rfl⟩)
    | (go_at_call 19; refine (HMAY.out _ HR4.out.1).mono ?_; rintro e w6 ⟨rfl, hf6⟩; have hR6 := HR4.out.below hf6; have HR6 := Lib.hid hR6; have HF6 := Lib.hid hf6; have hk1 := hf6.heap HB1.out (by simp); have hk3 := hf6.heap HB3.out (by simp); have hk4 := hf6.heap HB4.out (by simp); have HK3 := Lib.hid hk3; obtain ⟨g0, g1, g2, -, -, -⟩ := three_of_heap hk1; obtain ⟨r0, r1, r2, s0, s1, s2⟩ := three_of_heap hk3; obtain ⟨d0, d1, d2, d3⟩ := four_of_heap hk4; clear hR6 hf6 hk3 hk1 hk4))
  rw [HSS.out, HST.out]
  exact act_end (s := ⟨now, safe, ops⟩) (m2 := m) HFW.out (HF6.out.mono (by simp)) (HD4.out.below HF6.out) (by omega) HR6.out (fun k hk => .inl hk) (by omega) HK3.out _ rfl rfl
set_option maxRecDepth 100000 in
set_option maxHeartbeats 1000000 in
theorem do_move_same (p m : Nat) (B : List Nat) (s : StD) (nv sv ov : Value) (A : ADat) (w : World) (hD : isD w p B s.now s.safe (s.ops.map normO) m) (hR : RD w nv sv ov s.now s.safe s.ops) (hok : okS s m) (hm : m ≤ 500) (hA : A.ok w) (hfe : fewA A) (hk0 : A.kind ≠ 0) (hk1 : A.kind ≠ 1) (hk3 : A.kind ≠ 3) (hk4 : A.kind ≠ 4) (hlk : (lookL s.now A.a).isSome = true) (hab : A.a = A.b) :
    Calls Try.prog 8 #[.pointer (some ⟨p, 0, none⟩), .agg #[nv, sv, ov], A.val] w (ActD p B (stepD s A) (m + 1) w) := by
  obtain ⟨now, safe, ops⟩ := s
  obtain ⟨kind, a, b, n, kv, keep⟩ := A
  simp only at *
  have hBl := hD.lt
  have ha : a.length ≤ maxLen := Nat.le_trans hfe.1 (by simp [maxLen])
  have hb : b.length ≤ maxLen := Nat.le_trans hfe.2.1 (by simp [maxLen])
  obtain ⟨hkv, hnw⟩ := hA
  simp only at hkv hnw
  obtain ⟨x3, c3, rfl, -, -⟩ := hkv.form
  rw [List.length_map] at hkv ⊢
  unfold ADat.val
  simp only
  obtain ⟨a0, c0, a1, c1, a2, c2, rfl, rfl, rfl⟩ := hR.slices
  obtain ⟨S, hS⟩ : ∃ S, S = stepD ⟨now, safe, ops⟩ ⟨kind, a, b, n, .slice x3 keep.length c3, keep⟩ := ⟨_, rfl⟩
  rw [← hS]
  subst hab
  have hmay : mayL now ⟨2, a, a, n⟩ = true := by rw [mayL_other _ _ (by simp)]; exact hlk
  have hop : ADat.op ⟨kind, a, a, n, .slice x3 keep.length c3, keep⟩ = ⟨2, a, a, n⟩ := op2 hk0 hk1
  have HST : Hid (stepD ⟨now, safe, ops⟩ ⟨kind, a, a, n, .slice x3 keep.length c3, keep⟩ = ⟨now, safe, ops⟩) := Lib.hid (step_same _ _ hk3 hk4 (by rw [hop]; exact hmay) (by rw [hop]; exact ⟨rfl, rfl⟩))
  clear hop
  obtain ⟨hfw, hB1, hB2, hB3, hB4⟩ := boxes4 w #[.slice a0 now.length c0, .slice a1 safe.length c1, .slice a2 ops.length c2] #[.int .i64 kind, encStr a, encStr a, .int .i64 n, .slice x3 keep.length c3] #[.slice none 0 0, .slice none 0 0, .slice none 0 0] #[.int .i64 2, encStr a, encStr a, .int .i64 n] 30 35 54
  obtain ⟨w4, hw4⟩ : ∃ w4, w4 = (((w.alloc (.cells #[.slice a0 now.length c0, .slice a1 safe.length c1, .slice a2 ops.length c2] 30)).alloc (.cells #[.int .i64 kind, encStr a, encStr a, .int .i64 n, .slice x3 keep.length c3] 35)).alloc (.cells #[.slice none 0 0, .slice none 0 0, .slice none 0 0] 30)).alloc (.cells #[.int .i64 2, encStr a, encStr a, .int .i64 n] 54) := ⟨_, rfl⟩
  rw [← hw4] at hfw hB1 hB2 hB3 hB4
  have hD4 := hD.below hfw
  have hR4 := hR.below hfw
  have HC := Lib.hid (dmove_same p m B now safe _ a w4 hD4 ha hlk)
  have HMAY : Hid (∀ wx, namesR wx 0 (.slice a0 now.length c0) now → Calls Try.prog 19 #[.slice a0 now.length c0, .agg #[.int .i64 2, encStr a, encStr a, .int .i64 n]] wx fun e w' => e = .returned (.bool true) ∧ Fr [] wx w') := Lib.hid (fun wx hx => by
    have h := rmay_any now ⟨2, a, a, n⟩ _ wx hx
    rw [hmay] at h
    exact h)
  have HB1 := Lib.hid hB1
  have HB2 := Lib.hid hB2
  have HB3 := Lib.hid hB3
  have HB4 := Lib.hid hB4
  have HFW := Lib.hid hfw
  have HW := Lib.hid hw4
  have HD4 := Lib.hid hD4
  have HR4 := Lib.hid hR4
  have HBL := Lib.hid hBl
  have hn0 : ∀ j, w.heap.size ≤ j → j ∉ B := fun j hj hm => by have := hBl j hm; omega
  have HN0 := Lib.hid hn0
  have HSS := Lib.hid hS
  have e30 : (kind == 3) = false := by rw [beq_eq_false_iff_ne]; exact hk3
  have e40 : (kind == 4) = false := by rw [beq_eq_false_iff_ne]; exact hk4
  have e00 : (kind == 0) = false := by rw [beq_eq_false_iff_ne]; exact hk0
  have e10 : (kind == 1) = false := by rw [beq_eq_false_iff_ne]; exact hk1
  clear hk0 hk1 hk3 hk4
  clear hD hR hok hfe hkv hB1 hB2 hB3 hB4 hfw hw4 hD4 hR4 hBl hn0 hmay ha hnw hS
  go_enter Try.func8, Try.ntmps8
  go_upto_region 14 with fail
  rw [← HW.out]
  obtain ⟨e0, e1, e2, e3, e4⟩ := five_of_heap HB2.out
  obtain ⟨d0, d1, d2, d3⟩ := four_of_heap HB4.out
  obtain ⟨g0, g1, g2, -, -, -⟩ := three_of_heap HB1.out
  go_wp2_with (first
    | (go_at_call 16; refine HC.out.mono ?_; rintro e w5 ⟨rfl, rfl⟩)
    | (go_at_call 19; refine (HMAY.out _ HR4.out.1).mono ?_; rintro e w6 ⟨rfl, hf6⟩; have hR6 := HR4.out.below hf6; have HR6 := Lib.hid hR6; have HF6 := Lib.hid hf6; have hk1 := hf6.heap HB1.out (by simp); have hk3 := hf6.heap HB3.out (by simp); have hk4 := hf6.heap HB4.out (by simp); have HK3 := Lib.hid hk3; obtain ⟨g0, g1, g2, -, -, -⟩ := three_of_heap hk1; obtain ⟨r0, r1, r2, s0, s1, s2⟩ := three_of_heap hk3; obtain ⟨d0, d1, d2, d3⟩ := four_of_heap hk4; clear hR6 hf6 hk3 hk1 hk4)
    | (go_at_call 20; refine (rdo_same _ _ _ _ _ _ _ _ _ _ _ _).mono ?_; rintro e w7 ⟨rfl, hf7⟩; have HF7 := Lib.hid hf7; have hk7 := hf7.heap HK3.out (by simp); have HK7 := Lib.hid hk7; obtain ⟨r0, r1, r2, s0, s1, s2⟩ := three_of_heap hk7; clear hf7 hk7))
  rw [HSS.out, HST.out]
  exact act_end (s := ⟨now, safe, ops⟩) (m2 := m) HFW.out ((HF6.out.trans HF7.out (n := []) (by simp) (by simp)).mono (by simp)) ((HD4.out.below HF6.out).below HF7.out) (by omega) (HR6.out.below HF7.out) (fun k hk => .inl hk) (by omega) HK7.out _ rfl rfl
set_option maxRecDepth 100000 in
set_option maxHeartbeats 1000000 in
theorem do_move_yes (p m : Nat) (B : List Nat) (s : StD) (nv sv ov : Value) (A : ADat) (w : World) (hD : isD w p B s.now s.safe (s.ops.map normO) m) (hR : RD w nv sv ov s.now s.safe s.ops) (hok : okS s m) (hm : m ≤ 500) (hA : A.ok w) (hfe : fewA A) (hk0 : A.kind ≠ 0) (hk1 : A.kind ≠ 1) (hk3 : A.kind ≠ 3) (hk4 : A.kind ≠ 4) (hlk : (lookL s.now A.a).isSome = true) (hab : A.a ≠ A.b) :
    Calls Try.prog 8 #[.pointer (some ⟨p, 0, none⟩), .agg #[nv, sv, ov], A.val] w (ActD p B (stepD s A) (m + 1) w) := by
  obtain ⟨now, safe, ops⟩ := s
  obtain ⟨kind, a, b, n, kv, keep⟩ := A
  simp only at *
  have hBl := hD.lt
  have ha : a.length ≤ maxLen := Nat.le_trans hfe.1 (by simp [maxLen])
  have hb : b.length ≤ maxLen := Nat.le_trans hfe.2.1 (by simp [maxLen])
  obtain ⟨hkv, hnw⟩ := hA
  simp only at hkv hnw
  obtain ⟨x3, c3, rfl, -, -⟩ := hkv.form
  rw [List.length_map] at hkv ⊢
  unfold ADat.val
  simp only
  obtain ⟨a0, c0, a1, c1, a2, c2, rfl, rfl, rfl⟩ := hR.slices
  obtain ⟨S, hS⟩ : ∃ S, S = stepD ⟨now, safe, ops⟩ ⟨kind, a, b, n, .slice x3 keep.length c3, keep⟩ := ⟨_, rfl⟩
  rw [← hS]
  have hmay : mayL now ⟨2, a, b, n⟩ = true := by rw [mayL_other _ _ (by simp)]; exact hlk
  have hop : ADat.op ⟨kind, a, b, n, .slice x3 keep.length c3, keep⟩ = ⟨2, a, b, n⟩ := op2 hk0 hk1
  have HST : Hid (stepD ⟨now, safe, ops⟩ ⟨kind, a, b, n, .slice x3 keep.length c3, keep⟩ = ⟨applyL now ⟨2, a, b, n⟩, safe, ops ++ [⟨2, a, b, n⟩]⟩) := Lib.hid (by rw [step_yes _ _ hk3 hk4 (by rw [hop]; exact hmay) (fun q => hab q.2), hop])
  clear hop
  obtain ⟨hfw, hB1, hB2, hB3, hB4⟩ := boxes4 w #[.slice a0 now.length c0, .slice a1 safe.length c1, .slice a2 ops.length c2] #[.int .i64 kind, encStr a, encStr b, .int .i64 n, .slice x3 keep.length c3] #[.slice none 0 0, .slice none 0 0, .slice none 0 0] #[.int .i64 2, encStr a, encStr b, .int .i64 n] 30 35 54
  obtain ⟨w4, hw4⟩ : ∃ w4, w4 = (((w.alloc (.cells #[.slice a0 now.length c0, .slice a1 safe.length c1, .slice a2 ops.length c2] 30)).alloc (.cells #[.int .i64 kind, encStr a, encStr b, .int .i64 n, .slice x3 keep.length c3] 35)).alloc (.cells #[.slice none 0 0, .slice none 0 0, .slice none 0 0] 30)).alloc (.cells #[.int .i64 2, encStr a, encStr b, .int .i64 n] 54) := ⟨_, rfl⟩
  rw [← hw4] at hfw hB1 hB2 hB3 hB4
  have hD4 := hD.below hfw
  have hR4 := hR.below hfw
  have HC := Lib.hid (dmove_yes p m B now safe _ a b w4 hD4 ha hb hab hlk (by omega))
  have HNORM : Hid ((applyL now (⟨2, a, b, 0⟩ : OpD)) = applyL now ⟨2, a, b, n⟩ ∧ ops.map normO ++ [(⟨2, a, b, 0⟩ : OpD)] = (ops ++ [(⟨2, a, b, n⟩ : OpD)]).map normO) := Lib.hid ⟨apply_norm now ⟨2, a, b, n⟩, by simp [normO]⟩
  have HMAY : Hid (∀ wx, namesR wx 0 (.slice a0 now.length c0) now → Calls Try.prog 19 #[.slice a0 now.length c0, .agg #[.int .i64 2, encStr a, encStr b, .int .i64 n]] wx fun e w' => e = .returned (.bool true) ∧ Fr [] wx w') := Lib.hid (fun wx hx => by
    have h := rmay_any now ⟨2, a, b, n⟩ _ wx hx
    rw [hmay] at h
    exact h)
  have HL8 : Hid ((ops ++ [(⟨2, a, b, n⟩ : OpD)]).length = ops.length + 1) := Lib.hid (by simp)
  have HDO : Hid (∀ wx, RD wx (.slice a0 now.length c0) (.slice a1 safe.length c1) (.slice a2 ops.length c2) now safe ops → Calls Try.prog 20 #[.agg #[.slice a0 now.length c0, .slice a1 safe.length c1, .slice a2 ops.length c2], .agg #[.int .i64 2, encStr a, encStr b, .int .i64 n]] wx (Didd (applyL now ⟨2, a, b, n⟩) (.slice a1 safe.length c1) (ops ++ [⟨2, a, b, n⟩]) wx)) := Lib.hid (fun wx hx => rdo_any now safe ops ⟨2, a, b, n⟩ _ _ _ wx hx.1 hx.2.1 hx.2.2 (by have := hok.ln; simp only at this; omega) (by have := hok.ls; simp only at this; omega) hok.kn ha hb (fun q => hab q.2))
  have HB1 := Lib.hid hB1
  have HB2 := Lib.hid hB2
  have HB3 := Lib.hid hB3
  have HB4 := Lib.hid hB4
  have HFW := Lib.hid hfw
  have HW := Lib.hid hw4
  have HD4 := Lib.hid hD4
  have HR4 := Lib.hid hR4
  have HBL := Lib.hid hBl
  have hn0 : ∀ j, w.heap.size ≤ j → j ∉ B := fun j hj hm => by have := hBl j hm; omega
  have HN0 := Lib.hid hn0
  have HSS := Lib.hid hS
  have e30 : (kind == 3) = false := by rw [beq_eq_false_iff_ne]; exact hk3
  have e40 : (kind == 4) = false := by rw [beq_eq_false_iff_ne]; exact hk4
  have e00 : (kind == 0) = false := by rw [beq_eq_false_iff_ne]; exact hk0
  have e10 : (kind == 1) = false := by rw [beq_eq_false_iff_ne]; exact hk1
  clear hab hk0 hk1 hk3 hk4
  clear hD hR hok hfe hkv hB1 hB2 hB3 hB4 hfw hw4 hD4 hR4 hBl hn0 hmay ha hb hnw hS
  go_enter Try.func8, Try.ntmps8
  go_upto_region 14 with fail
  rw [← HW.out]
  obtain ⟨e0, e1, e2, e3, e4⟩ := five_of_heap HB2.out
  obtain ⟨d0, d1, d2, d3⟩ := four_of_heap HB4.out
  obtain ⟨g0, g1, g2, -, -, -⟩ := three_of_heap HB1.out
  go_wp2_with (first
    | (go_at_call 16; refine HC.out.mono ?_; rintro e w5 ⟨rfl, B5, hD5, hf5, hB5⟩; have HR5 := Lib.hid (HR4.out.keptD HD4.out hf5); have HD5 := Lib.hid hD5; have HF5 := Lib.hid hf5; have HB5 := Lib.hid hB5; have j1 := hf5.heap HB1.out (HN0.out _ (by omega)); have j3 := hf5.heap HB3.out (HN0.out _ (by omega)); have j4 := hf5.heap HB4.out (HN0.out _ (by omega)); have J1 := Lib.hid j1; have J3 := Lib.hid j3; have J4 := Lib.hid j4; obtain ⟨g0, g1, g2, -, -, -⟩ := three_of_heap j1; obtain ⟨d0, d1, d2, d3⟩ := four_of_heap j4; clear hD5 hf5 hB5 j1 j3 j4)
    | (go_at_call 19; refine (HMAY.out _ HR5.out.1).mono ?_; rintro e w6 ⟨rfl, hf6⟩; have hR6 := HR5.out.below hf6; have HR6 := Lib.hid hR6; have HF6 := Lib.hid hf6; have hk1 := hf6.heap J1.out (by simp); have hk3 := hf6.heap J3.out (by simp); have hk4 := hf6.heap J4.out (by simp); have HK3 := Lib.hid hk3; obtain ⟨g0, g1, g2, -, -, -⟩ := three_of_heap hk1; obtain ⟨r0, r1, r2, s0, s1, s2⟩ := three_of_heap hk3; obtain ⟨d0, d1, d2, d3⟩ := four_of_heap hk4; clear hR6 hf6 hk3 hk1 hk4)
    | (go_at_call 20; refine (HDO.out _ HR6.out).mono ?_; rintro e w7 ⟨v7, o7, rfl, hn7, ho7, hf7⟩; have HF7 := Lib.hid hf7; have hk7 := hf7.heap HK3.out (by simp); have HK7 := Lib.hid hk7; obtain ⟨r0, r1, r2, s0, s1, s2⟩ := three_of_heap hk7; obtain ⟨x7, y7, rfl, -, -⟩ := owns_slice' hn7; have HN7 := Lib.hid hn7; obtain ⟨x8, y8, h8, -, -⟩ := owns_slice ho7; rw [HL8.out] at h8; subst h8; have HO7 := Lib.hid ho7; clear hf7 hk7 hn7 ho7))
  rw [HSS.out, HST.out]
  have hfz := (HF5.out.trans HF6.out (n := B) (fun _ hk _ => hk) (by simp)).trans HF7.out (n := B) (fun _ hk _ => hk) (by simp)
  have h7 := (HD5.out.below HF6.out).below HF7.out
  rw [HNORM.out.1, HNORM.out.2] at h7
  have hRR : RD w7 _ (.slice a1 safe.length c1) (.slice x8 (ops.length + 1) y8) (applyL now ⟨2, a, b, n⟩) safe (ops ++ [⟨2, a, b, n⟩]) := ⟨HN7.out, (HR6.out.below HF7.out).2.1, HO7.out⟩
  have key := fun tm h1 h2 => act_end (s := ⟨applyL now ⟨2, a, b, n⟩, safe, ops ++ [⟨2, a, b, n⟩]⟩) (m2 := m + 1) HFW.out hfz h7 (Nat.le_refl _) hRR (fun k hk => (HB5.out k hk).imp id (fun h => by have := HFW.out.size; omega)) (by omega) HK7.out tm h1 h2
  exact key _ rfl rfl
end Go.Proofs.Ytjmkieacaejcgaa
