/- Several texts in one: RowStr, AllD, CatW, WoD. -/
import Derived.Laws.Concat
import Derived.LoopTactic
import Derived.WalkMore
import Derived.Deep.DeepCutAuto
import Derived.Test.YtnaamjpiaekmeaaGreatBs
import Derived.Test.YtnaamjpiaekmeaaGreatDt
import Derived.Test.YtnaamjpiaekmeaaGreatProg
import Derived.Test.YtnaamjpiaekmeaaGreatMm
set_option linter.unusedVariables false
set_option linter.unusedSimpArgs false
namespace Go.Proofs.YtnaamjpiaekmeaaGreat
open Go.RowKit
theorem infoStrW : (Tryz.prog.info? 9).map (fun i => (i.zero, i.size, i.bytes)) = some (some (.string ⟨#[]⟩), 1, 16) := by kernel_rfl
def RowS (w0 wx : World) (v : Value) (l : List (List UInt8)) : Prop := wx.ownsRow w0.heap.size 9 1 v l.length (l.map encStr) ∧ Fr [] w0 wx
theorem RowS.strs {w0 wx : World} {v : Value} {l : List (List UInt8)} (h : RowS w0 wx v l) : strsAt wx v l := cellsAt_of_owns (by rw [List.length_map]; exact h.1)
theorem RowS.push {w0 w4 w5 : World} {v v5 : Value} {l : List (List UInt8)} {x : List UInt8} (h : RowS w0 w4 v l) (h5 : w5.ownsRow w0.heap.size 9 1 v5 (l.length + 1) (l.map encStr ++ [encStr x])) (hf : Fr v.ownBlock.toList w4 w5) : RowS w0 w5 v5 (l ++ [x]) :=
 ⟨by rw [List.length_append, List.map_append]; exact h5, h.2.own h.1 hf⟩
theorem RowS.fr {w0 w w' : World} {v : Value} {l : List (List UInt8)} (h : RowS w0 w v l) (hf : Fr [] w w') : RowS w0 w' v l := ⟨owns_kept h.1 hf (by simp), h.2.trans hf (by simp) (by simp)⟩
theorem RowS.one (w : World) : RowS w (w.alloc (.cells #[.string ⟨#[]⟩] 9)) (.slice (some ⟨w.heap.size, 0, none⟩) 1 1) [[]] :=
 ⟨owns_of_heap (cur := [.string ⟨#[]⟩]) (heap_alloc_new w _) (Nat.le_refl _) rfl (Nat.le_refl _) (by simp [maxLen]) rfl, Fr.alloc _ _⟩
theorem RowS.form {w0 w : World} {v : Value} {l : List (List UInt8)} (h : RowS w0 w v l) : ∃ a c, v = .slice a l.length c ∧ l.length ≤ c ∧ c ≤ maxLen := owns_slice h.1
end Go.Proofs.YtnaamjpiaekmeaaGreat
namespace Go.Proofs.YtnaamjpiaekmeaaGreat
open Go.RowKit
def AllAt (t k : Int) (w : World) (e : Ending) (w' : World) : Prop := ∃ l v, e = .returned v ∧ AllV t k l ∧ strsAt w' v l ∧ Fr [] w w'
theorem all_le {t k j : Nat} (h : ∀ i, i < j → goesW t k i ∧ (wordsW t i).length + t ≤ 4096) : j ≤ (wordsW t j).length ∧ (wordsW t j).length ≤ 4096 := by
 cases j with
 | zero => simp [wordsW]
 | succ i =>
   obtain ⟨⟨h1, -⟩, h2⟩ := h i (Nat.lt_succ_self i)
   have e : (wordsW t (i + 1)).length = (wordsW t i).length + t := by rw [wordsW_len, wordsW_len, Nat.succ_mul]; omega
   by_cases h0 : t = 0
   ·subst h0
    rw [wordsW_len] at h1 ⊢
    omega
   ·omega
end Go.Proofs.YtnaamjpiaekmeaaGreat
namespace Go.Proofs.YtnaamjpiaekmeaaGreat
open Go.RowKit
theorem cat_w {P : Program} {A B C : Array UInt8} {x y : List UInt8} (hA : A = x.toArray) (hB : B = y.toArray) (hC : C = (x ++ y).toArray) (hl : (x ++ y).length ≤ 9223372036854775807) (w : World) : (Op.stringOp .add { data := A } { data := B }).run P w = .ok (.string { data := C }) w := by
 subst hA hB hC
 rw [List.length_append] at hl
 rw [run_string_add_sum w _ _ (by simp [ByteArray.size]; omega), ByteArray.mk_append_mk]
end Go.Proofs.YtnaamjpiaekmeaaGreat
namespace Go.Proofs.YtnaamjpiaekmeaaGreat
open Go.RowKit
theorem rall_bad (t k : Int) (h : k < 0 ∨ t < 0 ∨ 256 < t) (w : World) : Calls Tryz.prog 13 #[.int .i64 t, .int .i64 k] w (AllAt t k w) := by
 have key : AllAt t k w (.returned (.slice none 0 0)) w := ⟨[], _, rfl, .inl ⟨h, rfl⟩, cellsAt.nil w, Fr.refl _ _⟩
 have HK := Lib.hid key
 by_cases h2 : t < 0
 ·have d2 : decide (t < 0) = true := decide_eq_true h2
  clear h h2 key
  go_enter Tryz.func13, Tryz.ntmps13
  go_wp2_with fail
  go_ret
  exact HK.out
 ·have d2 : decide (t < 0) = false := decide_eq_false h2
  by_cases h3 : 256 < t
  ·have d3 : decide (256 < t) = true := decide_eq_true h3
   clear h h2 h3 key
   go_enter Tryz.func13, Tryz.ntmps13
   go_wp2_with fail
   go_ret
   exact HK.out
  ·have d3 : decide (256 < t) = false := decide_eq_false h3
   have d1 : decide (k < 0) = true := decide_eq_true (by omega)
   clear h h2 h3 key
   go_enter Tryz.func13, Tryz.ntmps13
   go_wp2_with fail
   go_ret
   exact HK.out
def DOut (w0 : World) (t k : Nat) (v fv nv : Value) (wx : World) : Prop := ∃ f n : Nat, fv = .int .i64 (f : Int) ∧ nv = .int .i64 ((n + 1 : Nat) : Int) ∧ n ≤ k ∧ (∀ i, i < f → goesW t k i ∧ (wordsW t i).length + t ≤ 4096) ∧ RowS w0 wx v (wordsW t f) ∧ (∀ i, f ≤ i → i < (wordsW t f).length → (wordW t f i).length = n)
def DLev (w0 : World) (t k f E : Nat) (v iv : Value) (wx : World) : Prop := ∃ i : Nat, f ≤ i ∧ i ≤ E ∧ iv = .int .i64 (i : Int) ∧ (∀ q, q < i → goesW t k q ∧ (wordsW t q).length + t ≤ 4096) ∧ RowS w0 wx v (wordsW t i)
def DIn (w0 : World) (t : Nat) (W : List (List UInt8)) (x : List UInt8) (v iv : Value) (wx : World) : Prop := ∃ m : Nat, m ≤ t ∧ W.length + m ≤ 4096 ∧ iv = .int .i64 (m : Int) ∧ RowS w0 wx v (W ++ (extW t x).take m)
set_option maxRecDepth 100000 in
set_option maxHeartbeats 8000000 in
theorem rall_good (T K : Nat) (hT : T ≤ 256) (hK : K ≤ 1000000) (w : World) : Calls Tryz.prog 13 #[.int .i64 (T : Int), .int .i64 (K : Int)] w (AllAt T K w) := by
 obtain ⟨iS, hiS, hS0, hS1, hS2⟩ := info_parts infoStrW
 have d1 : decide ((K : Int) < 0) = false := decide_eq_false (by omega)
 have d2 : decide ((T : Int) < 0) = false := decide_eq_false (by omega)
 have d3 : decide (256 < (T : Int)) = false := decide_eq_false (by omega)
 go_enter Tryz.func13, Tryz.ntmps13
 go_upto_region 4 with fail
 have hrow := RowS.one w
 generalize w.alloc (.cells #[.string ⟨#[]⟩] 9) = w1 at hrow ⊢
 have HROW := Lib.hid hrow
 clear hrow d1 d2 d3
 go_wp2_with fail
 go_loopw [5, 6, 7] (DOut w T K) (fun _ _ nv _ => K + 1 - (intOf nv).toNat)
 case atStart => exact ⟨0, 0, rfl, rfl, Nat.zero_le _, fun i hi => by omega, HROW.out, fun i _ hi => by simp [wordsW] at hi; simp [wordW, wordsW, hi]⟩
 case round =>
  clear HROW
  obtain ⟨f, n, rfl, rfl, hn, hall, hrow, hlev⟩ := hrel
  obtain ⟨hfl, hl4⟩ := all_le hall
  obtain ⟨a, c, rfl, hc1, hc2⟩ := hrow.form
  obtain ⟨p, hp⟩ : ∃ p, p = n + 1 := ⟨_, rfl⟩
  rw [← hp]
  by_cases hnk : p ≤ K
  ·have hd1 : decide (p ≤ K) = true := decide_eq_true hnk
   have HLV := Lib.hid (wordsW_level T f n hlev)
   have HPRE := Lib.hid (fun i (h : f ≤ i) hq => @wordW_pre T f i i h hq)
   have HLEV := Lib.hid hlev
   have HALL := Lib.hid hall
   obtain ⟨E, hE⟩ : ∃ E, E = (wordsW T f).length := ⟨_, rfl⟩
   rw [← hE] at hfl hl4 hc1 HLV HPRE HLEV ⊢
   have HE := Lib.hid hE
   have HROW := Lib.hid hrow
   have HP := Lib.hid hp
   have HPK := Lib.hid (show n + 1 ≤ K by omega)
   clear hlev hall hE hrow hp
   go_wp2_with fail
   go_loopw [5, 9] (DLev w T K f E) (fun _ iv _ => E - (intOf iv).toNat)
   case atStart => exact ⟨f, Nat.le_refl _, hfl, rfl, HALL.out, by have h := HROW.out; rw [← HE.out] at h; exact h⟩
   case round =>
    clear HROW HALL
    obtain ⟨i, hfi, hiE, rfl, hall, hrow⟩ := hrel
    obtain ⟨hil, hl5⟩ := all_le hall
    obtain ⟨a, c, rfl, hc3, hc4⟩ := hrow.form
    by_cases hie : i < E
    ·have hd2 : decide (i < E) = true := decide_eq_true hie
     have hiw : i < (wordsW T i).length := by
      obtain ⟨s, hs⟩ := wordsW_pre T hfi
      rw [hs, List.length_append, ← HE.out]; omega
     have hxn : (wordW T i i).length = n := by rw [HPRE.out i hfi hie]; exact HLEV.out i hfi hie
     have hgoes : goesW T K i := ⟨hiw, by rw [hxn]; have := HP.out; omega⟩
     have hover : 4096 < (wordsW T i).length + T → ∀ wx, Fr [] w wx → AllAt T K w (.returned (.slice none 0 0)) wx := fun hlt wx hf =>
      ⟨_, _, rfl, .inr ⟨by omega, by omega, by omega, _, ⟨i, by simpa using hall, .inr ⟨by simpa using hgoes, by simpa using hlt, rfl⟩⟩, rfl⟩, cellsAt.nil _, hf⟩
     have hnext : (wordsW T i).length + T ≤ 4096 → ∀ q, q < i + 1 → goesW T K q ∧ (wordsW T q).length + T ≤ 4096 := fun hle q hq => by
      by_cases e : q = i
      ·subst e; exact ⟨hgoes, hle⟩
      ·exact hall q (by omega)
     have hwj : ∀ h : i < (wordsW T i).length, (wordsW T i)[i]'h = wordW T i i := fun h => by
      unfold wordW
      rw [List.getD_eq_getElem?_getD, List.getElem?_eq_getElem h]; rfl
     have HNEXT := Lib.hid hnext
     have HOVER := Lib.hid hover
     have HWS := Lib.hid (show wordsW T (i + 1) = wordsW T i ++ extW T (wordW T i i) from rfl)
     obtain ⟨W, hW⟩ : ∃ W, W = wordsW T i := ⟨_, rfl⟩
     obtain ⟨X, hX⟩ : ∃ X, X = wordW T i i := ⟨_, rfl⟩
     rw [← hX] at hxn
     rw [← hW] at hrow hil hl5 hc3 HNEXT HOVER hwj hiw ⊢
     rw [← hX] at hwj
     rw [← hW, ← hX] at HWS
     have HROW := Lib.hid hrow
     have HWJ := Lib.hid (hwj hiw)
     have hjn := hiw
     have HPN := Lib.hid (show X.length ≤ 1000000 by omega)
     clear hall hnext hover hW hX hgoes hwj hrow hxn
     go_upto_region 12 with fail
     go_wp2_with fail
     go_loopw [5, 10] (DIn w T W X) (fun _ iv _ => T - (intOf iv).toNat)
     case atStart => exact ⟨0, Nat.zero_le _, by omega, rfl, by simpa using HROW.out⟩
     case round =>
      obtain ⟨m, hm, hWm, rfl, hrowL⟩ := hrel
      by_cases hmt : m < T
      ·have hd4 : decide (m < T) = true := decide_eq_true hmt
       have hext := extW_next T m X hmt
       obtain ⟨L, hL⟩ : ∃ L, L = W ++ (extW T X).take m := ⟨_, rfl⟩
       have hLl : L.length = W.length + m := by rw [hL, List.length_append, List.length_take, extW_len]; omega
       have hLj : L[i]'(by omega) = X := by
        have := HWJ.out
        subst hL
        rw [List.getElem_append_left hjn]; exact this
       rw [← hL] at hrowL
       have HNX := Lib.hid (show W ++ (extW T X).take (m + 1) = L ++ [X ++ [UInt8.ofNat m]] by rw [hext, ← List.append_assoc, ← hL])
       obtain ⟨a1, c1, rfl, hc5, hc6⟩ := hrowL.form
       by_cases hov : 4096 ≤ L.length
       ·have hd5 : decide (4096 ≤ (L.length : Int)) = true := decide_eq_true (by omega)
        have hd5' : decide (4096 ≤ L.length) = true := decide_eq_true hov
        have HR := Lib.hid (HOVER.out (by omega) _ hrowL.2)
        clear hL hLl hext hLj hrowL hov
        go_wp2_with fail
        go_ret
        exact HR.out
       ·have hd5 : decide (4096 ≤ (L.length : Int)) = false := decide_eq_false (by omega)
        have hd5' : decide (4096 ≤ L.length) = false := decide_eq_false hov
        obtain ⟨b, off, rfl, hcell⟩ := str_cell hrowL.strs i (by omega)
        rw [hLj] at hcell
        have hXl := HPN.out
        have hL4 : L.length ≤ 4096 := by omega
        have hjL : i < L.length := by omega
        have hm8 : m < 256 := by omega
        have HLL := Lib.hid hLl
        have HRL := Lib.hid hrowL
        have hcl : (#[.int .u8 (m : Int)] : Array Value) = (cellsB [UInt8.ofNat m]).toArray := by
         have e1 : ((UInt8.ofNat m).toNat : Int) = (m : Int) := by rw [UInt8.toNat_ofNat_of_lt' (by show m < 256; omega)]
         show _ = (#[Value.int .u8 ((UInt8.ofNat m).toNat : Int)] : Array Value)
         rw [e1]
        have HCL := Lib.hid hcl
        obtain ⟨B, hB⟩ : ∃ B, B = [UInt8.ofNat m].toArray := ⟨_, rfl⟩
        obtain ⟨C, hC⟩ : ∃ C, C = (X ++ [UInt8.ofNat m]).toArray := ⟨_, rfl⟩
        have hcat := fun wx => cat_w (P := Tryz.prog) (A := X.toArray) (B := B) (C := C) (x := X) rfl hB hC (by simp; omega) wx
        have HC := Lib.hid (show Value.string { data := C } = encStr (X ++ [UInt8.ofNat m]) by rw [hC])
        have HB := Lib.hid hB
        clear hL hLl hext hLj hrowL hcl hB hC
        go_upto_region 17 with fail
        refine wp_region_Q [] [11, 12] [(0, 0), (1, 0), (2, 0), (3, 0), (4, 0), (5, 0), (6, 0), (7, 1), (8, 0), (9, 0), (10, 1), (11, 2), (12, 2)] 62 rfl (by kernel_rfl) (by kernel_rfl) (by kernel_rfl) (fun c a d v w h => by cases d <;> exact h) (fun wd hfd => ?_)
        simp only [List.map_cons, List.map_nil, List.getElem?_toArray, List.getElem?_cons_succ, List.getElem?_cons_zero, Option.getD_some]
        have LC : Hid (Later [] wd (fun w' => w'.cell? ⟨b, off + i, none⟩ = some (encStr X))) := Lib.hid (fun w' hf' => hf'.cell (hfd.cell hcell (by simp)) (by simp))
        have HRD := Lib.hid (HRL.out.fr hfd)
        clear hcell hfd
        repeat (apply walkQ_t; · (intro w' hf'; have c1 := LC.out w' hf'; go_wp2_with fail; exact ⟨rfl, rfl⟩))
        refine walkQ_x ?_
        go_wp2_with fail
        refine ⟨Fr.alloc _ _, rfl, ?_⟩
        have hby := bytesAt_new wd [UInt8.ofNat m] 5 1 rfl (by simp [maxLen]) _ HCL.out
        have LV := Lib.hid (Later.conv (P := Tryz.prog) (L := []) hby (by simp) 47 5 9 Tryz.underlying47 Tryz.underlying5 Tryz.underlying9)
        rw [← HB.out] at LV
        have HR5 := Lib.hid (HRD.out.fr (Fr.alloc wd (.cells #[.int .u8 (m : Int)] 5)))
        clear hby
        generalize wd.heap.size = q5 at LV ⊢
        generalize wd.alloc (.cells #[.int .u8 (m : Int)] 5) = w5 at LV HR5 ⊢
        repeat (apply walkQ_t; · (intro w' hf'; have c1 := LV.out w' hf'; go_wp2_with fail; exact ⟨rfl, rfl⟩))
        refine walkQ_x ?_
        go_wp2_with fail
        refine ⟨Fr.alloc _ _, rfl, ?_⟩
        refine walkQ_z ?_
        go_wp2_with (at_builtin; refine wpL_append1 rfl _ _ 22 rfl w.heap.size 9 iS (.string ⟨#[]⟩) 16 Tryz.underlying22 hiS hS0 hS1 hS2 rfl (.slice (some ⟨b, off, none⟩) L.length c1) L.length (L.map encStr) rfl HR5.out.1 (.string { data := C }) rfl rfl (by omega) (by simp [maxLen]; omega) HR5.out.2.size ?_; intro v7 w7 hown7 hf7 hb7)
        rw [HC.out] at hown7
        have HR7 := Lib.hid (HR5.out.push hown7 hf7)
        rw [← HNX.out] at HR7
        clear hown7 hf7 hb7
        refine ⟨rfl, ?_⟩
        refine walkQ_z ?_
        go_wp2_with fail
        refine ⟨rfl, walkQ_end ?_⟩
        go_wp2_with fail
        go_roundw
        case rel => exact ⟨m + 1, by omega, by have := HLL.out; omega, by go_num, HR7.out⟩
        case measure => simp [intOf]; omega
      ·have hd4 : decide (m < T) = false := decide_eq_false hmt
       obtain rfl : m = T := by omega
       rw [extW_all, ← HWS.out] at hrowL
       have HN := Lib.hid (HNEXT.out hWm)
       go_wp2_with fail
       go_roundw
       case rel => exact ⟨i + 1, by omega, by omega, by go_num, HN.out, hrowL⟩
       case measure => simp [intOf]; omega
    ·have hd2 : decide (i < E) = false := decide_eq_false hie
     obtain rfl : i = E := by omega
     have HLL := Lib.hid (HLV.out i hfi (Nat.le_refl _))
     have hend : ¬ goesW T K i → AllAt T K w (.returned (.slice a (wordsW T i).length c)) wr := fun hg =>
      ⟨_, _, rfl, .inr ⟨by omega, by omega, by omega, _, ⟨i, by simpa using hall, .inl ⟨by simpa using hg, rfl⟩⟩, by simp⟩, hrow.strs, hrow.2⟩
     by_cases hst : (wordsW T i).length = i
     ·have HR := Lib.hid (hend (fun hg => by have := hg.1; omega))
      obtain ⟨q, hq⟩ : ∃ q, q = (wordsW T i).length := ⟨_, rfl⟩
      rw [← hq] at HR hc3 hst hil hl5 ⊢
      have hd3 : (q == i) = true := by rw [hst]; simp
      have hd3' : ((q : Int) == (i : Int)) = true := by rw [hst]; simp
      clear hq hst hend hall hrow
      go_wp2_with fail
      go_ret
      exact HR.out
     ·have HALL := Lib.hid hall
      have HRW := Lib.hid hrow
      obtain ⟨q, hq⟩ : ∃ q, q = (wordsW T i).length := ⟨_, rfl⟩
      rw [← hq] at hc3 hst hil hl5 ⊢
      have hd3 : (q == i) = false := by rw [beq_eq_false_iff_ne]; exact hst
      have hd3' : ((q : Int) == (i : Int)) = false := by rw [beq_eq_false_iff_ne]; omega
      have HQ := Lib.hid hq
      clear hq hst hend hall hrow
      go_wp2_with fail
      go_roundw
      case rel => exact ⟨i, n + 1, rfl, by rw [← HP.out]; go_num, HPK.out, HALL.out, by rw [HQ.out]; exact HRW.out, HLL.out⟩
      case measure => simp [intOf]; omega
  ·have hd1 : decide (p ≤ K) = false := decide_eq_false hnk
   obtain rfl : n = K := by omega
   have HR : Hid (AllAt T n w (.returned (.slice a (wordsW T f).length c)) wr) := Lib.hid
    ⟨_, _, rfl, .inr ⟨by omega, by omega, by omega, _, ⟨f, by simpa using hall, .inl ⟨by simpa using level_end T n f hlev, rfl⟩⟩, by simp⟩, hrow.strs, hrow.2⟩
   clear hall hlev hrow hp
   go_wp2_with fail
   go_ret
   exact HR.out
end Go.Proofs.YtnaamjpiaekmeaaGreat
