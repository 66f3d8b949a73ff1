/- The program's lexer (layer 12): mark, name, term. -/
import Derived.Test.YtcmgnhjffhaajaaLexN
import Derived.Deep.DeepCutAuto
namespace Go.Proofs.Ytcmgnhjffhaajaa
open Go.RowKit

def tokV (N : NextD) : Value := .tuple #[.agg #[.int .i64 N.kind, encStr N.text, .int .i64 0], .int .i64 (N.n : Int), .int .i64 N.err]
def FirstOf (N : NextD) (w : World) (e : Ending) (w' : World) : Prop := e = .returned (tokV N) ∧ Fr [] w w'
theorem sizePTok : (Try.prog.info? 78).map (·.size) = some 3 := by kernel_rfl
set_option maxRecDepth 100000 in
set_option maxHeartbeats 2000000 in
theorem pmark_any (kind : Int) (m : List UInt8) (h1 : 1 ≤ m.length) (w : World) : Calls Try.prog 73 #[.int .i64 kind, encStr m] w (FirstOf ⟨kind, m.take 1, 1, 0⟩ w) := by
  have hb := heap_alloc_new w (.cells #[.int .i64 0, .string { data := #[] }, .int .i64 0] 78)
  have hf := Fr.alloc w (.cells #[.int .i64 0, .string { data := #[] }, .int .i64 0] 78)
  obtain ⟨w0, hw0⟩ : ∃ w0, w0 = w.alloc (.cells #[.int .i64 0, .string { data := #[] }, .int .i64 0] 78) := ⟨_, rfl⟩
  obtain ⟨q, hq⟩ : ∃ q, q = w.heap.size := ⟨_, rfl⟩
  rw [← hw0] at hb hf
  rw [← hq] at hb
  obtain ⟨y0, y1, y2, z0, z1, z2⟩ := three_of_heap hb
  have HB := Lib.hid hb
  have HF := Lib.hid hf
  have HW := Lib.hid hw0
  have HQ := Lib.hid hq
  have hqw : w.heap.size ≤ q := by omega
  clear hb hf hw0 hq
  go_enter Try.func73, Try.ntmps73
  go_upto_region 1 with fail
  rw [← HW.out, ← HQ.out]
  clear HW HQ
  go_wp2_with fail
  refine bodyPost_ret (results_cell3 rfl _ _ q 78 _ _ rfl (tok_set HB.out) Try.underlying78 rfl sizePTok (.int .i64 (1)) (.int .i64 0) rfl rfl) rfl ⟨?_, HF.out.new ((Fr.set0 _ q 0 _).trans ((Fr.set0 _ q 1 _).trans (Fr.set0 _ q 2 _) (fun _ z _ => z) (fun _ z _ => z)) (fun _ z _ => z) (fun _ z _ => z)) (fun i hi => by have : i = q := (by simpa using hi); omega)⟩
  unfold tokV
  rw [extract_mk, List.drop_zero]
  rfl
theorem take_takeWhile (p : UInt8 → Bool) (m : List UInt8) : m.take (m.takeWhile p).length = m.takeWhile p := by
  have h := List.takeWhile_append_dropWhile (p := p) (l := m)
  exact (congrArg (List.take (m.takeWhile p).length) h.symm).trans (by rw [List.take_left])
set_option maxRecDepth 100000 in
set_option maxHeartbeats 2000000 in
theorem pname_at (m : List UInt8) (hm : m.length ≤ 1000000) (w : World) : Calls Try.prog 75 #[encStr m] w (FirstOf (if 32 < (m.takeWhile moreB).length then noneD 19 else ⟨1, m.takeWhile moreB, (m.takeWhile moreB).length, 0⟩) w) := by
  have hr := prun_more m (by simp [maxLen]; omega)
  have htt := take_takeWhile moreB m
  have hle := takeWhile_le moreB m
  obtain ⟨n, hn⟩ : ∃ n, n = (m.takeWhile moreB).length := ⟨_, rfl⟩
  rw [← hn] at hr htt hle
  have HN := Lib.hid hn
  have HTT := Lib.hid htt
  unfold moreV at hr
  have HR := Lib.hid hr
  rw [← hn, ← htt]
  clear hr hn htt
  have hb := heap_alloc_new w (.cells #[.int .i64 0, .string { data := #[] }, .int .i64 0] 78)
  have hf := Fr.alloc w (.cells #[.int .i64 0, .string { data := #[] }, .int .i64 0] 78)
  obtain ⟨w0, hw0⟩ : ∃ w0, w0 = w.alloc (.cells #[.int .i64 0, .string { data := #[] }, .int .i64 0] 78) := ⟨_, rfl⟩
  obtain ⟨q, hq⟩ : ∃ q, q = w.heap.size := ⟨_, rfl⟩
  rw [← hw0] at hb hf
  rw [← hq] at hb
  obtain ⟨y0, y1, y2, z0, z1, z2⟩ := three_of_heap hb
  have HB := Lib.hid hb
  have HF := Lib.hid hf
  have HW := Lib.hid hw0
  have HQ := Lib.hid hq
  have hqw : w.heap.size ≤ q := by omega
  clear hb hf hw0 hq
  by_cases hlong : 32 < n
  · have hdl : decide (32 < n) = true := decide_eq_true hlong
    have hdl2 : decide (32 < (n : Int)) = true := decide_eq_true (by omega)
    rw [if_pos hlong]
    clear hlong
    go_enter Try.func75, Try.ntmps75
    go_upto_region 1 with fail
    rw [← HW.out, ← HQ.out]
    clear HW HQ
    go_wp2_with (go_at_call 63; refine (HR.out _).mono ?_; rintro e w1 ⟨rfl, rfl⟩)
    refine bodyPost_ret (results_cell3 rfl _ _ q 78 _ _ rfl (tok_set HB.out) Try.underlying78 rfl sizePTok (.int .i64 (0)) (.int .i64 19) rfl rfl) rfl ⟨?_, HF.out.new ((Fr.set0 _ q 0 _).trans ((Fr.set0 _ q 1 _).trans (Fr.set0 _ q 2 _) (fun _ z _ => z) (fun _ z _ => z)) (fun _ z _ => z) (fun _ z _ => z)) (fun i hi => by have : i = q := (by simpa using hi); omega)⟩
    rfl
  · have hdl : decide (32 < n) = false := decide_eq_false hlong
    have hdl2 : decide (32 < (n : Int)) = false := decide_eq_false (by omega)
    have hsl := fun wx => run_slice_to (P := Try.prog) wx 9 m .i64 n Try.underlying9 hle
    rw [if_neg hlong]
    clear hlong
    go_enter Try.func75, Try.ntmps75
    go_upto_region 1 with fail
    rw [← HW.out, ← HQ.out]
    clear HW HQ
    go_wp2_with (go_at_call 63; refine (HR.out _).mono ?_; rintro e w1 ⟨rfl, rfl⟩)
    refine bodyPost_ret (results_cell3 rfl _ _ q 78 _ _ rfl (tok_set HB.out) Try.underlying78 rfl sizePTok (.int .i64 ((n : Int))) (.int .i64 0) rfl rfl) rfl ⟨?_, HF.out.new ((Fr.set0 _ q 0 _).trans ((Fr.set0 _ q 1 _).trans (Fr.set0 _ q 2 _) (fun _ z _ => z) (fun _ z _ => z)) (fun _ z _ => z) (fun _ z _ => z)) (fun i hi => by have : i = q := (by simpa using hi); omega)⟩
    first | rfl | (unfold tokV; rw [extract_mk, List.drop_zero]; rfl)
theorem termD_bad {t : List UInt8} (h : (t.takeWhile termC).length = 0 ∨ (t.takeWhile termC).length = t.length ∨ ∃ c, t[(t.takeWhile termC).length]? = some c ∧ c ≠ 39) : termD t = noneD 13 := by
  unfold termD
  rw [if_neg]
  rintro ⟨h1, h2⟩
  rw [List.head?_drop] at h1
  rcases h with h | h | ⟨c, h, h3⟩
  · exact h2 (List.eq_nil_of_length_eq_zero h)
  · rw [h, List.getElem?_eq_none (Nat.le_refl _)] at h1; cases h1
  · rw [h] at h1; exact h3 (Option.some.inj h1)
theorem termD_ok {t : List UInt8} (h0 : (t.takeWhile termC).length ≠ 0) (h : t[(t.takeWhile termC).length]? = some 39) : termD t = if 32 < (t.takeWhile termC).length then noneD 19 else ⟨2, t.takeWhile termC, (t.takeWhile termC).length + 2, 0⟩ := by
  unfold termD
  rw [if_pos]
  exact ⟨by rw [List.head?_drop]; exact h, fun e => h0 (by rw [e]; rfl)⟩
set_option maxRecDepth 100000 in
set_option maxHeartbeats 4000000 in
theorem pterm_at (c0 : UInt8) (t : List UInt8) (hm : (c0 :: t).length ≤ 1000000) (w : World) : Calls Try.prog 74 #[encStr (c0 :: t)] w (FirstOf (termD t) w) := by
  rw [List.length_cons] at hm
  have hr := prun_term t (by simp [maxLen]; omega)
  have htt := take_takeWhile termC t
  have hle := takeWhile_le termC t
  have hbad := @termD_bad t
  have hok := @termD_ok t
  obtain ⟨n, hn⟩ : ∃ n, n = (t.takeWhile termC).length := ⟨_, rfl⟩
  rw [← hn] at hr htt hle hbad hok
  rw [← htt] at hok
  unfold termV at hr
  have HR := Lib.hid hr
  have HBAD := Lib.hid hbad
  have HOK := Lib.hid hok
  have hsf : ∀ wx, (Instr.slice 9 (.string ⟨(c0 :: t).toArray⟩) (some (.int .i64 1)) none none).run Try.prog wx = .ok (.string ⟨t.toArray⟩) wx := fun wx => run_slice_from (P := Try.prog) wx 9 (c0 :: t) .i64 1 Try.underlying9 (by simp)
  have hsl := fun wx => run_slice_to (P := Try.prog) wx 9 t .i64 n Try.underlying9 hle
  have hz : (ByteArray.mk (c0 :: t).toArray).size = t.length + 1 := by simp [ByteArray.size]
  have hex : (ByteArray.mk (c0 :: t).toArray).extract 1 (t.length + 1) = ⟨t.toArray⟩ := by
    rw [extract_mk, List.take_of_length_le (by simp)]; rfl
  obtain ⟨m, hmm⟩ : ∃ m, m = c0 :: t := ⟨_, rfl⟩
  have hml : m.length = t.length + 1 := by rw [hmm]; simp
  rw [← hmm] at hsf hz hex ⊢
  have HEX := Lib.hid hex
  have HML := Lib.hid hml
  clear hr hn htt hbad hok hex hz hml hmm
  have hb := heap_alloc_new w (.cells #[.int .i64 0, .string { data := #[] }, .int .i64 0] 78)
  have hf := Fr.alloc w (.cells #[.int .i64 0, .string { data := #[] }, .int .i64 0] 78)
  obtain ⟨w0, hw0⟩ : ∃ w0, w0 = w.alloc (.cells #[.int .i64 0, .string { data := #[] }, .int .i64 0] 78) := ⟨_, rfl⟩
  obtain ⟨q, hq⟩ : ∃ q, q = w.heap.size := ⟨_, rfl⟩
  rw [← hw0] at hb hf
  rw [← hq] at hb
  obtain ⟨y0, y1, y2, z0, z1, z2⟩ := three_of_heap hb
  have HB := Lib.hid hb
  have HF := Lib.hid hf
  have HW := Lib.hid hw0
  have HQ := Lib.hid hq
  have hqw : w.heap.size ≤ q := by omega
  clear hb hf hw0 hq
  by_cases h0 : n = 0
  · have e1 : ((n : Int) == 0) = true := by rw [h0]; rfl
    have e1' : (n == 0) = true := by rw [h0]; rfl
    rw [HBAD.out (.inl h0)]
    clear h0
    go_enter Try.func74, Try.ntmps74
    go_upto_region 1 with fail
    rw [← HW.out, ← HQ.out]
    clear HW HQ
    go_upto_region 2 with fail
    go_wp2_with (go_at_call 63; refine (HR.out _).mono ?_; rintro e w1 ⟨rfl, rfl⟩)
    refine bodyPost_ret (results_cell3 rfl _ _ q 78 _ _ rfl (tok_set HB.out) Try.underlying78 rfl sizePTok (.int .i64 (0)) (.int .i64 13) rfl rfl) rfl ⟨?_, HF.out.new ((Fr.set0 _ q 0 _).trans ((Fr.set0 _ q 1 _).trans (Fr.set0 _ q 2 _) (fun _ z _ => z) (fun _ z _ => z)) (fun _ z _ => z) (fun _ z _ => z)) (fun i hi => by have : i = q := (by simpa using hi); omega)⟩
    rfl
  · have e1 : ((n : Int) == 0) = false := by rw [beq_eq_false_iff_ne]; omega
    have e1' : (n == 0) = false := by rw [beq_eq_false_iff_ne]; exact h0
    by_cases h1 : n = t.length
    · have e2 : ((n : Int) == (t.length : Int)) = true := by rw [h1]; simp
      have e2' : (n == t.length) = true := by rw [h1]; simp
      rw [HBAD.out (.inr (.inl h1))]
      have HH := Lib.hid h1
      clear h0 h1
      go_enter Try.func74, Try.ntmps74
      go_upto_region 1 with fail
      rw [← HW.out, ← HQ.out]
      clear HW HQ
      go_upto_region 2 with fail
      go_wp2_with (go_at_call 63; refine (HR.out _).mono ?_; rintro e w1 ⟨rfl, rfl⟩)
      refine bodyPost_ret (results_cell3 rfl _ _ q 78 _ _ rfl (tok_set HB.out) Try.underlying78 rfl sizePTok (.int .i64 (0)) (.int .i64 13) rfl rfl) rfl ⟨?_, HF.out.new ((Fr.set0 _ q 0 _).trans ((Fr.set0 _ q 1 _).trans (Fr.set0 _ q 2 _) (fun _ z _ => z) (fun _ z _ => z)) (fun _ z _ => z) (fun _ z _ => z)) (fun i hi => by have : i = q := (by simpa using hi); omega)⟩
      rfl
    · have e2 : ((n : Int) == (t.length : Int)) = false := by rw [beq_eq_false_iff_ne]; omega
      have e2' : (n == t.length) = false := by rw [beq_eq_false_iff_ne]; exact h1
      have hlt : n < t.length := by omega
      obtain ⟨c, hc⟩ : ∃ c, t[n]? = some c := ⟨t[n]'hlt, List.getElem?_eq_getElem _⟩
      have hix := fun wx => run_index_str (P := Try.prog) wx 9 t (n : Int) n c Try.underlying9 rfl hc
      obtain ⟨x, hx⟩ : ∃ x, x = c.toNat := ⟨_, rfl⟩
      rw [← hx] at hix
      have HX := Lib.hid hx
      have HC := Lib.hid hc
      have H0 := Lib.hid h0
      clear hx hc h0 h1
      by_cases h39 : x = 39
      · have e3 : ((x : Int) != 39) = false := by rw [h39]; rfl
        have e3' : ((x : Int) == 39) = true := by rw [h39]; rfl
        have hc39 : c = 39 := toNat_eq (show c.toNat = 39 by rw [← HX.out]; exact h39)
        have hok := HOK.out H0.out (by rw [HC.out, hc39])
        clear h39 hc39
        rw [hok]
        clear hok
        by_cases hlong : 32 < n
        · have hdl : decide (32 < n) = true := decide_eq_true hlong
          have hdl2 : decide (32 < (n : Int)) = true := decide_eq_true (by omega)
          rw [if_pos hlong]
          clear hlong
          go_enter Try.func74, Try.ntmps74
          go_upto_region 1 with fail
          rw [← HW.out, ← HQ.out]
          clear HW HQ
          go_upto_region 2 with fail
          go_wp2_with (go_at_call 63; refine (HR.out _).mono ?_; rintro e w1 ⟨rfl, rfl⟩)
          refine bodyPost_ret (results_cell3 rfl _ _ q 78 _ _ rfl (tok_set HB.out) Try.underlying78 rfl sizePTok (.int .i64 (0)) (.int .i64 19) rfl rfl) rfl ⟨?_, HF.out.new ((Fr.set0 _ q 0 _).trans ((Fr.set0 _ q 1 _).trans (Fr.set0 _ q 2 _) (fun _ z _ => z) (fun _ z _ => z)) (fun _ z _ => z) (fun _ z _ => z)) (fun i hi => by have : i = q := (by simpa using hi); omega)⟩
          rfl
        · have hdl : decide (32 < n) = false := decide_eq_false hlong
          have hdl2 : decide (32 < (n : Int)) = false := decide_eq_false (by omega)
          rw [if_neg hlong]
          clear hlong
          go_enter Try.func74, Try.ntmps74
          go_upto_region 1 with fail
          rw [← HW.out, ← HQ.out]
          clear HW HQ
          go_upto_region 2 with fail
          go_wp2_with (go_at_call 63; refine (HR.out _).mono ?_; rintro e w1 ⟨rfl, rfl⟩)
          refine bodyPost_ret (results_cell3 rfl _ _ q 78 _ _ rfl (tok_set HB.out) Try.underlying78 rfl sizePTok (.int .i64 ((n : Int) + 2)) (.int .i64 0) rfl rfl) rfl ⟨?_, HF.out.new ((Fr.set0 _ q 0 _).trans ((Fr.set0 _ q 1 _).trans (Fr.set0 _ q 2 _) (fun _ z _ => z) (fun _ z _ => z)) (fun _ z _ => z) (fun _ z _ => z)) (fun i hi => by have : i = q := (by simpa using hi); omega)⟩
          first | rfl | (unfold tokV; rw [extract_mk, List.drop_zero]; rfl)
      · have e3 : ((x : Int) != 39) = true := by rw [bne_iff_ne]; omega
        have e3' : ((x : Int) == 39) = false := by rw [beq_eq_false_iff_ne]; omega
        have hc39 : c ≠ 39 := fun e => h39 (by rw [HX.out, e]; rfl)
        rw [HBAD.out (.inr (.inr ⟨c, HC.out, hc39⟩))]
        have HH := Lib.hid hc39
        clear h39 hc39
        go_enter Try.func74, Try.ntmps74
        go_upto_region 1 with fail
        rw [← HW.out, ← HQ.out]
        clear HW HQ
        go_upto_region 2 with fail
        go_wp2_with (go_at_call 63; refine (HR.out _).mono ?_; rintro e w1 ⟨rfl, rfl⟩)
        refine bodyPost_ret (results_cell3 rfl _ _ q 78 _ _ rfl (tok_set HB.out) Try.underlying78 rfl sizePTok (.int .i64 (0)) (.int .i64 13) rfl rfl) rfl ⟨?_, HF.out.new ((Fr.set0 _ q 0 _).trans ((Fr.set0 _ q 1 _).trans (Fr.set0 _ q 2 _) (fun _ z _ => z) (fun _ z _ => z)) (fun _ z _ => z) (fun _ z _ => z)) (fun i hi => by have : i = q := (by simpa using hi); omega)⟩
        rfl
end Go.Proofs.Ytcmgnhjffhaajaa
