/- Layer 18, the program's: All. -/
import Derived.Test.YtoijlmbnkmhamaaWoA
import Derived.Test.YtoijlmbnkmhamaaOwn
import Derived.Test.YtoijlmbnkmhamaaRegionQ
import Derived.Test.YtoijlmbnkmhamaaStrsD
import Derived.Laws.Concat
namespace Go.Proofs.Ytoijlmbnkmhamaa
open Go.RowKit

theorem infoStrW : (Try.prog.info? 9).map (fun i => (i.zero, i.size, i.bytes)) = some (some (.string ⟨#[]⟩), 1, 16) := by kernel_rfl
theorem cat_w {P : Program} {A B C : Array UInt8} {x y : List UInt8} (hA : A = x.toArray) (hB : B = y.toArray) (hC : C = (x ++ y).toArray) (hl : (x ++ y).length ≤ 9223372036854775807) (w : World) : (Op.stringOp .add { data := A } { data := B }).run P w = .ok (.string { data := C }) w := by
  subst hA hB hC
  rw [List.length_append] at hl
  rw [run_string_add_sum w _ _ (by simp [ByteArray.size]; omega), ByteArray.mk_append_mk]
/-- A row of strings of the call's own. -/
def RowS (w0 wx : World) (v : Value) (l : List (List UInt8)) : Prop := wx.ownsRow w0.heap.size 9 1 v l.length (l.map encStr) ∧ Fr [] w0 wx
theorem RowS.strs {w0 wx : World} {v : Value} {l : List (List UInt8)} (h : RowS w0 wx v l) : strsAt wx v l := cellsAt_of_owns (by rw [List.length_map]; exact h.1)
theorem RowS.push {w0 w4 w5 : World} {v v5 : Value} {l : List (List UInt8)} {x : List UInt8} (h : RowS w0 w4 v l) (h5 : w5.ownsRow w0.heap.size 9 1 v5 (l.length + 1) (l.map encStr ++ [encStr x])) (hf : Fr v.ownBlock.toList w4 w5) : RowS w0 w5 v5 (l ++ [x]) :=
  ⟨by rw [List.length_append, List.map_append]; exact h5, h.2.own h.1 hf⟩
theorem RowS.fr {w0 w w' : World} {v : Value} {l : List (List UInt8)} (h : RowS w0 w v l) (hf : Fr [] w w') : RowS w0 w' v l := ⟨owns_kept h.1 hf (by simp), h.2.trans hf (by simp) (by simp)⟩
theorem RowS.one (w : World) : RowS w (w.alloc (.cells #[.string ⟨#[]⟩] 9)) (.slice (some ⟨w.heap.size, 0, none⟩) 1 1) [[]] :=
  ⟨owns_of_heap (cur := [.string ⟨#[]⟩]) (heap_alloc_new w _) (Nat.le_refl _) rfl (Nat.le_refl _) (by simp [maxLen]) rfl, Fr.alloc _ _⟩
theorem RowS.form {w0 w : World} {v : Value} {l : List (List UInt8)} (h : RowS w0 w v l) : ∃ a c, v = .slice a l.length c ∧ l.length ≤ c ∧ c ≤ maxLen := owns_slice h.1
def AllAt (t k : Int) (w : World) (e : Ending) (w' : World) : Prop := ∃ l v, e = .returned v ∧ AllV t k l ∧ strsAt w' v l ∧ Fr [] w w'
theorem all_le {t k j : Nat} (h : ∀ i, i < j → goesW t k i ∧ (wordsW t i).length + t ≤ 4096) : j ≤ (wordsW t j).length ∧ (wordsW t j).length ≤ 4096 := by
  cases j with
  | zero => simp [wordsW]
  | succ i =>
    obtain ⟨⟨h1, -⟩, h2⟩ := h i (Nat.lt_succ_self i)
    have e : (wordsW t (i + 1)).length = (wordsW t i).length + t := by rw [wordsW_len, wordsW_len, Nat.succ_mul]; omega
    by_cases h0 : t = 0
    · subst h0
      rw [wordsW_len] at h1 ⊢
      omega
    · omega
theorem wall_bad (t k : Int) (h : k < 0 ∨ t < 0 ∨ 256 < t) (w : World) : Calls Try.prog 12 #[.int .i64 t, .int .i64 k] w (AllAt t k w) := by
  have key : AllAt t k w (.returned (.slice none 0 0)) w := ⟨[], _, rfl, .inl ⟨h, rfl⟩, cellsAt.nil w, Fr.refl _ _⟩
  have HK := Lib.hid key
  by_cases h1 : k < 0
  · have d1 : decide (k < 0) = true := decide_eq_true h1
    clear h h1 key
    go_enter Try.func12, Try.ntmps12
    go_wp2_with fail
    go_ret
    exact HK.out
  · have d1 : decide (k < 0) = false := decide_eq_false h1
    by_cases h2 : t < 0
    · have d2 : decide (t < 0) = true := decide_eq_true h2
      clear h h1 h2 key
      go_enter Try.func12, Try.ntmps12
      go_wp2_with fail
      go_ret
      exact HK.out
    · have d2 : decide (t < 0) = false := decide_eq_false h2
      have d3 : decide (256 < t) = true := decide_eq_true (by omega)
      clear h h1 h2 key
      go_enter Try.func12, Try.ntmps12
      go_wp2_with fail
      go_ret
      exact HK.out
def OutR (w0 : World) (t k : Nat) (v iv : Value) (wx : World) : Prop := ∃ j : Nat, iv = .int .i64 (j : Int) ∧ (∀ i, i < j → goesW t k i ∧ (wordsW t i).length + t ≤ 4096) ∧ RowS w0 wx v (wordsW t j)
def InR (w0 : World) (t : Nat) (W : List (List UInt8)) (x : List UInt8) (v iv : Value) (wx : World) : Prop := ∃ m : Nat, m ≤ t ∧ iv = .int .i64 (m : Int) ∧ RowS w0 wx v (W ++ (extW t x).take m)
set_option maxRecDepth 100000 in
set_option maxHeartbeats 4000000 in
theorem wall_good (T K : Nat) (hT : T ≤ 256) (w : World) : Calls Try.prog 12 #[.int .i64 (T : Int), .int .i64 (K : Int)] w (AllAt T K w) := by
  obtain ⟨iS, hiS, hS0, hS1, hS2⟩ := info_parts infoStrW
  have d1 : decide ((K : Int) < 0) = false := decide_eq_false (by omega)
  have d2 : decide ((T : Int) < 0) = false := decide_eq_false (by omega)
  have d3 : decide (256 < (T : Int)) = false := decide_eq_false (by omega)
  go_enter Try.func12, Try.ntmps12
  go_upto_region 4 with fail
  have hrow := RowS.one w
  generalize w.alloc (.cells #[.string ⟨#[]⟩] 9) = w1 at hrow ⊢
  have HROW := Lib.hid hrow
  clear hrow d1 d2 d3
  go_wp2_with fail
  go_loopw [5, 6] (OutR w T K) (fun _ iv _ => 4097 - (intOf iv).toNat)
  case atStart => exact ⟨0, rfl, fun i hi => by omega, HROW.out⟩
  case round =>
    clear HROW
    obtain ⟨j, rfl, hall, hrow⟩ := hrel
    obtain ⟨hjl, hl4⟩ := all_le hall
    obtain ⟨a, c, rfl, hc1, hc2⟩ := hrow.form
    have hend : ¬ goesW T K j → AllAt T K w (.returned (.slice a (wordsW T j).length c)) wr := fun hg =>
      ⟨_, _, rfl, .inr ⟨by omega, by omega, by omega, _, ⟨j, by simpa using hall, .inl ⟨by simpa using hg, rfl⟩⟩, by simp⟩, hrow.strs, hrow.2⟩
    have hover : goesW T K j → 4096 < (wordsW T j).length + T → AllAt T K w (.returned (.slice none 0 0)) wr := fun hg hlt =>
      ⟨_, _, rfl, .inr ⟨by omega, by omega, by omega, _, ⟨j, by simpa using hall, .inr ⟨by simpa using hg, by simpa using hlt, rfl⟩⟩, rfl⟩, cellsAt.nil _, hrow.2⟩
    have hsh := wordW_all T j j (fun x => x.length ≤ j) (by simp) (wordsW_short T j)
    have hnext : goesW T K j → (wordsW T j).length + T ≤ 4096 → ∀ i, i < j + 1 → goesW T K i ∧ (wordsW T i).length + T ≤ 4096 := fun hg hle i hi => by
      by_cases e : i = j
      · subst e; exact ⟨hg, hle⟩
      · exact hall i (by omega)
    have HNEXT := Lib.hid hnext
    have HEND := Lib.hid hend
    have HOVER := Lib.hid hover
    have hwj : ∀ h : j < (wordsW T j).length, (wordsW T j)[j]'h = wordW T j j := fun h => by
      unfold wordW
      rw [List.getD_eq_getElem?_getD, List.getElem?_eq_getElem h]; rfl
    have HG := Lib.hid (show goesW T K j ↔ j < (wordsW T j).length ∧ (wordW T j j).length < K from Iff.rfl)
    have HWS := Lib.hid (show wordsW T (j + 1) = wordsW T j ++ extW T (wordW T j j) from rfl)
    obtain ⟨W, hW⟩ : ∃ W, W = wordsW T j := ⟨_, rfl⟩
    obtain ⟨X, hX⟩ : ∃ X, X = wordW T j j := ⟨_, rfl⟩
    rw [← hX] at hsh HG
    rw [← hW] at hrow hjl hl4 hc1 hwj HEND HOVER HG ⊢
    rw [← hX] at hwj
    rw [← hW, ← hX] at HWS
    have HROW := Lib.hid hrow
    have HW := Lib.hid hW
    clear hall hnext hend hover hW hX
    by_cases hjn : j < W.length
    · have hd1 : decide (j < W.length) = true := decide_eq_true hjn
      obtain ⟨b, off, rfl, hcell⟩ := str_cell hrow.strs j hjn
      rw [hwj hjn] at hcell
      clear hrow
      by_cases hxk : X.length < K
      · have hd2 : decide (X.length < K) = true := decide_eq_true hxk
        have hd2' : decide ((X.length : Int) < (K : Int)) = true := decide_eq_true (by omega)
        by_cases hov : 4096 < W.length + T
        · have hd3 : decide (4096 < (W.length : Int) + (T : Int)) = true := decide_eq_true (by omega)
          have HR := Lib.hid (HOVER.out (HG.out.2 ⟨hjn, hxk⟩) hov)
          clear HOVER HEND HNEXT hov hwj
          go_wp2_with fail
          go_ret
          exact HR.out
        · have hd3 : decide (4096 < (W.length : Int) + (T : Int)) = false := decide_eq_false (by omega)
          have hWT : W.length + T ≤ 4096 := by omega
          have HN := Lib.hid (HNEXT.out (HG.out.2 ⟨hjn, hxk⟩) (by rw [← HW.out]; exact hWT))
          clear HOVER HEND HNEXT hov
          have HWJ := Lib.hid (hwj hjn)
          clear hwj
          have h8' : T ≤ 256 := hT
          go_upto_region 9 with fail
          go_wp2_with fail
          go_loopw [5, 40] (InR w T W X) (fun _ iv _ => T - (intOf iv).toNat)
          case atStart => exact ⟨0, Nat.zero_le _, rfl, by simpa using HROW.out⟩
          case round =>
            obtain ⟨m, hm, rfl, hrowL⟩ := hrel
            by_cases hmt : m < T
            · have hd4 : decide (m < T) = true := decide_eq_true hmt
              have hext := extW_next T m X hmt
              obtain ⟨L, hL⟩ : ∃ L, L = W ++ (extW T X).take m := ⟨_, rfl⟩
              have hLl : L.length = W.length + m := by rw [hL, List.length_append, List.length_take, extW_len]; omega
              have hLj : L[j]'(by omega) = X := by
                have := HWJ.out
                subst hL
                rw [List.getElem_append_left hjn]; exact this
              rw [← hL] at hrowL
              have HNX := Lib.hid (show W ++ (extW T X).take (m + 1) = L ++ [X ++ [UInt8.ofNat m]] by rw [hext, ← List.append_assoc, ← hL])
              obtain ⟨a1, c1, rfl, hc3, hc4⟩ := hrowL.form
              obtain ⟨b, off, rfl, hcell⟩ := str_cell hrowL.strs j (by omega)
              rw [hLj] at hcell
              have hL4 : L.length ≤ 4096 := by omega
              have hjL : j < L.length := by omega
              have hm8 : m < 256 := by omega
              have HLL := Lib.hid hLl
              have HRL := Lib.hid hrowL
              have hcl : (#[.int .u8 (m : Int)] : Array Value) = (cellsB [UInt8.ofNat m]).toArray := by
                have e1 : ((UInt8.ofNat m).toNat : Int) = (m : Int) := by rw [UInt8.toNat_ofNat_of_lt' (by show m < 256; omega)]
                show _ = (#[Value.int .u8 ((UInt8.ofNat m).toNat : Int)] : Array Value)
                rw [e1]
              have HCL := Lib.hid hcl
              obtain ⟨B, hB⟩ : ∃ B, B = [UInt8.ofNat m].toArray := ⟨_, rfl⟩
              obtain ⟨C, hC⟩ : ∃ C, C = (X ++ [UInt8.ofNat m]).toArray := ⟨_, rfl⟩
              have hcat := fun wx => cat_w (P := Try.prog) (A := X.toArray) (B := B) (C := C) (x := X) rfl hB hC (by simp; omega) wx
              have HC := Lib.hid (show Value.string { data := C } = encStr (X ++ [UInt8.ofNat m]) by rw [hC])
              have HB := Lib.hid hB
              clear hL hLl hext hLj hrowL hcl hB hC
              go_upto_region 12 with fail
              refine wp_region_Q [] [11, 12] [(0, 0), (1, 0), (2, 0), (3, 0), (4, 0), (5, 0), (6, 0), (7, 1), (8, 0), (9, 0), (10, 1), (11, 2), (12, 2)] 57 rfl (by kernel_rfl) (by kernel_rfl) (by kernel_rfl) (fun c a d v w h => by cases d <;> exact h) (fun wd hfd => ?_)
              simp only [List.map_cons, List.map_nil, List.getElem?_toArray, List.getElem?_cons_succ, List.getElem?_cons_zero, Option.getD_some]
              have LC : Hid (Later [] wd (fun w' => w'.cell? ⟨b, off + j, none⟩ = some (encStr X))) := Lib.hid (fun w' hf' => hf'.cell (hfd.cell hcell (by simp)) (by simp))
              have HRD := Lib.hid (HRL.out.fr hfd)
              clear hcell hfd
              repeat (apply walkQ_t; · (intro w' hf'; have c1 := LC.out w' hf'; go_wp2_with fail; exact ⟨rfl, rfl⟩))
              refine walkQ_x ?_
              go_wp2_with fail
              refine ⟨Fr.alloc _ _, rfl, ?_⟩
              have hby := bytesAt_new wd [UInt8.ofNat m] 5 1 rfl (by simp [maxLen]) _ HCL.out
              have LV := Lib.hid (Later.conv (P := Try.prog) (L := []) hby (by simp) 33 5 9 Try.underlying33 Try.underlying5 Try.underlying9)
              rw [← HB.out] at LV
              have HR5 := Lib.hid (HRD.out.fr (Fr.alloc wd (.cells #[.int .u8 (m : Int)] 5)))
              clear hby
              generalize wd.heap.size = q5 at LV ⊢
              generalize wd.alloc (.cells #[.int .u8 (m : Int)] 5) = w5 at LV HR5 ⊢
              repeat (apply walkQ_t; · (intro w' hf'; have c1 := LV.out w' hf'; go_wp2_with fail; exact ⟨rfl, rfl⟩))
              refine walkQ_x ?_
              go_wp2_with fail
              refine ⟨Fr.alloc _ _, rfl, ?_⟩
              refine walkQ_z ?_
              go_wp2_with (at_builtin; refine wpL_append1 rfl _ _ 27 rfl w.heap.size 9 iS (.string ⟨#[]⟩) 16 Try.underlying27 hiS hS0 hS1 hS2 rfl (.slice (some ⟨b, off, none⟩) L.length c1) L.length (L.map encStr) rfl HR5.out.1 (.string { data := C }) rfl rfl (by omega) (by simp [maxLen]; omega) HR5.out.2.size ?_; intro v7 w7 hown7 hf7 hb7)
              rw [HC.out] at hown7
              have HR7 := Lib.hid (HR5.out.push hown7 hf7)
              rw [← HNX.out] at HR7
              clear hown7 hf7 hb7
              refine ⟨rfl, ?_⟩
              refine walkQ_z ?_
              go_wp2_with fail
              refine ⟨rfl, walkQ_end ?_⟩
              go_wp2_with fail
              go_roundw
              case rel => exact ⟨m + 1, by omega, by go_num, HR7.out⟩
              case measure => simp [intOf]; omega
            · have hd4 : decide (m < T) = false := decide_eq_false hmt
              obtain rfl : m = T := by omega
              rw [extW_all, ← HWS.out] at hrowL
              go_wp2_with fail
              go_roundw
              case rel => exact ⟨j + 1, by go_num, HN.out, hrowL⟩
              case measure => simp [intOf]; omega
      · have hd2 : decide (X.length < K) = false := decide_eq_false hxk
        have hd2' : decide ((X.length : Int) < (K : Int)) = false := decide_eq_false (by omega)
        have HR := Lib.hid (HEND.out (fun hg => hxk (HG.out.1 hg).2))
        clear HOVER HEND HNEXT hwj
        go_wp2_with fail
        go_ret
        exact HR.out
    · have hd1 : decide (j < W.length) = false := decide_eq_false hjn
      have HR := Lib.hid (HEND.out (fun hg => hjn (HG.out.1 hg).1))
      clear HOVER HEND HNEXT hwj hrow
      go_wp2_with fail
      go_ret
      exact HR.out
end Go.Proofs.Ytoijlmbnkmhamaa
