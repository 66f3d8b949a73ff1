/- The document's answer Hash. -/
import Derived.Test.YtjiighgabfkmpaaDoorShaN
namespace Go.Proofs.YtjiighgabfkmpaaDoor
open Go.RowKit

/-- The bytes of a state: those of i numbers, and t of the next one, the last one first. -/
def encQ (s : St) (i t : Nat) : List UInt8 := (List.range 32).map fun p => if p < 4 * i ∨ (p < 4 * i + 4 ∧ 4 * i + 4 - t ≤ p) then (encSt s).getD p 0 else 0
theorem encQ_length (s : St) (i t : Nat) : (encQ s i t).length = 32 := by simp [encQ]
theorem encQ_zero (s : St) : encQ s 0 0 = List.replicate 32 (0 : UInt8) := by
  apply List.ext_getElem
  · simp [encQ]
  · intro p h1 h2
    rw [List.getElem_replicate]
    simp only [encQ, List.getElem_map, List.getElem_range]
    rw [if_neg (by omega)]
theorem encQ_next (s : St) (i : Nat) : encQ s i 4 = encQ s (i + 1) 0 := by
  rw [encQ, encQ]
  apply List.map_congr_left
  intro p _
  by_cases h : p < 4 * i + 4
  · rw [if_pos (by omega), if_pos (by omega)]
  · rw [if_neg (by omega), if_neg (by omega)]
theorem encQ_end (s : St) : encQ s 8 0 = encSt s := by
  apply List.ext_getElem
  · rw [encQ_length, encSt_length]
  · intro p h1 h2
    have hp : p < 32 := by simpa [encQ] using h1
    simp only [encQ, List.getElem_map, List.getElem_range]
    rw [if_pos (by omega), List.getD_eq_getElem?_getD, List.getElem?_eq_getElem h2, Option.getD_some]
theorem encQ_set (s : St) (i t : Nat) (hi : i < 8) (ht : t < 4) (x : Nat) (hx : x = s.list[i]'(by rw [St.list_length]; exact hi)) : (encQ s i t).set (4 * i + (3 - t)) (UInt8.ofNat (x / 256 ^ t % 256)) = encQ s i (t + 1) := by
  have hget : (encSt s).getD (4 * i + (3 - t)) 0 = UInt8.ofNat (x / 256 ^ t % 256) := by
    rw [List.getD_eq_getElem?_getD, List.getElem?_eq_getElem (by rw [encSt_length]; omega), Option.getD_some, encSt_get s _ (by omega), hx]
    congr 3
    · congr 1
      · congr 1; omega
    · congr 1; omega
  apply List.ext_getElem
  · simp [encQ]
  · intro p h1 h2
    have hp : p < 32 := by simpa [encQ] using h2
    rw [List.getElem_set]
    simp only [encQ, List.getElem_map, List.getElem_range]
    by_cases e : 4 * i + (3 - t) = p
    · rw [if_pos e, if_pos (by omega), ← e, hget]
    · rw [if_neg e]
      by_cases h : p < 4 * i ∨ (p < 4 * i + 4 ∧ 4 * i + 4 - t ≤ p)
      · rw [if_pos h, if_pos (by omega)]
      · rw [if_neg h, if_neg (by omega)]

def HashRel (all : List UInt8) (gs g0 : Nat) (Z : Array Value) (w7 : World) (vi : Value) (W : World) : Prop :=
  ∃ n : Nat, 64 * n ≤ all.length ∧ vi = .int .i64 ((64 * n : Nat) : Int) ∧ W.heap[gs]? = some (.cells (stC (absorb n all)) 29 (0, 0)) ∧ W.heap[g0]? = some (.cells Z 24 (0, 0)) ∧ Fr [gs] w7 W
set_option maxRecDepth 100000 in
theorem ref_hash_any (bs : List UInt8) (sv : Value) (w : World) (hb : bytesAt w sv bs) (hlen : bs.length < 500000) :
    Calls Tryd.prog 7 #[sv] w fun e w' => e = .returned (.agg (cellsB (hashN bs)).toArray) ∧ Fr [] w w' := by
  obtain ⟨a0, c0, rfl, hle, hmx⟩ := hb.form
  obtain ⟨i, hi, hz0, hz1, hz2⟩ := info_parts infoB
  obtain ⟨Z, hZ⟩ : ∃ Z, Z = (cellsB (List.replicate 32 0)).toArray := ⟨_, rfl⟩
  have hiz := infoB32
  have hZs : Z.size = (cellsB (hashN bs)).toArray.size := by rw [hZ]; simp [cellsB, hashN_length]
  rw [← hZ] at hiz
  have hl32 : (Tryd.prog.info? 24).map (·.size) = some (cellsB (hashN bs)).toArray.size := by rw [bytesC_size, hashN_length]; exact sizeB32
  have HON := Lib.hid (bytesC_one (hashN bs))
  obtain ⟨E, hE⟩ : ∃ E, E = (cellsB (hashN bs)).toArray := ⟨_, rfl⟩
  rw [← hE] at hZs hl32 HON ⊢
  obtain ⟨Z8, hZ8⟩ : ∃ Z, Z = stC zeroSt := ⟨_, rfl⟩
  have hiz8 := infoN8
  have hold8 : Z8.size = (stC beginSt).size := by rw [hZ8, stC_size, stC_size]
  rw [← hZ8] at hiz8
  have HI := Lib.hid hiz
  have HI8 := Lib.hid hiz8
  have HZS := Lib.hid hZs
  have HL32 := Lib.hid hl32
  have HE := Lib.hid hE
  have HO8 := Lib.hid hold8
  have HZ := Lib.hid hZ
  have hfl := fill_le bs.length
  have hpl := padded_length bs
  obtain ⟨all, hall⟩ : ∃ all, all = padded bs := ⟨_, rfl⟩
  rw [← hall] at hpl
  have HALL := Lib.hid hall
  have HB := Lib.hid hb
  clear hZ hiz hZs hl32 hE hiz8 hZ8 hold8 hall hb
  go_enter Tryd.func7, Tryd.ntmps7
  go_wp2_with (first
    | (refine wpL_newArr rfl 24 rfl Z HI.out ?_; intro w1 hh1 hf1 hs1; have HNIL : Hid ((w1.alloc (.cells (#[] : Array Value) 5)).ownsRow w1.heap.size 5 1 (.slice (some ⟨w1.heap.size, 0, none⟩) 0 0) ([] : List UInt8).length (cellsB [])) := Lib.hid (owns_of_heap (cur := []) (heap_alloc_new w1 _) (Nat.le_refl _) rfl (Nat.zero_le _) (by simp [maxLen]) rfl); have HBA := Lib.hid (HB.out.below (hf1.trans (Fr.alloc w1 (.cells (#[] : Array Value) 5)) (by simp) (n := []) (by simp))))
    | (at_builtin; refine wpL_append rfl (.tmp 10) (.tmp 11) 22 rfl w1.heap.size 5 i (.int .u8 0) Tryd.underlying22 hi hz0 hz1 hz2 rfl _ [] rfl HNIL.out _ bs rfl HBA.out (by simp; omega) (by simp) ?_; intro v1 w2 hown2 hf2 hb2; have HOWN2 : Hid (w2.ownsRow w1.heap.size 5 1 v1 bs.length (cellsB bs)) := Lib.hid hown2; clear hown2))
  have hf2' : Fr [w1.heap.size] (w1.alloc (.cells (#[] : Array Value) 5)) w2 := hf2
  have hfa : Fr [] w1 w2 := (Fr.alloc w1 (.cells (#[] : Array Value) 5)).trans hf2' (by simp) (by simp)
  clear hf2 hf2' hb2 HNIL HBA
  have HFC := Lib.hid (ref_fill_any bs.length w2 (by omega))
  go_wp2_with (first
    | (go_at_call 14; refine HFC.out.mono ?_; rintro e w3 ⟨vf, rfl, hbf, hf3⟩; have HOWN3 := Lib.hid (owns_kept HOWN2.out hf3 (by simp)); have HBF := Lib.hid hbf; have hsz3 : w1.heap.size ≤ w3.heap.size := Nat.le_trans hfa.size hf3.size; clear hbf)
    | (at_builtin; refine wpL_append rfl (.tmp 13) (.tmp 16) 22 rfl w1.heap.size 5 i (.int .u8 0) Tryd.underlying22 hi hz0 hz1 hz2 rfl _ bs rfl HOWN3.out _ (fillN bs.length) rfl HBF.out (by omega) hsz3 ?_; intro v2 w4 hown4 hf4 hb4; have HOWN4 : Hid (w4.ownsRow w1.heap.size 5 1 v2 all.length (cellsB all)) := (by rw [HALL.out]; exact Lib.hid hown4); clear hown4))
  have hf4' : Fr v1.ownBlock.toList w3 w4 := hf4
  have hfb : Fr [] w1 w4 := (hfa.trans hf3 (by simp) (n := []) (by simp)).trans hf4' (by simp) (fun k hk hlt => by
    have hk' : v1.ownBlock = some k := by simpa [Option.mem_toList] using hk
    have := (HOWN3.out.lt k hk').1
    omega)
  clear hfa hf3 hf4 hf4' hb4 HOWN2 HOWN3 HBF hsz3
  have hob := HOWN4.out.lt
  have HOB := Lib.hid hob
  clear hob
  go_wp2_with (first
    | (go_at_call 21; refine (ref_first_any w4).mono ?_; rintro e w5 ⟨rfl, hf5⟩)
    | (refine wpL_newArr rfl 29 rfl Z8 HI8.out ?_; intro w6 hh6 hf6 hs6; refine wpL_storeArr rfl 29 (.tmp 4) (.tmp 18) rfl w5.heap.size (stC beginSt) Z8 rfl rfl 29 hh6.out (sizeN8 beginSt) HO8.out (stC_one beginSt) ?_; intro w7 hh7 hf7 hs7))
  have z56 := hs6.out
  have z1 := hs1.out
  have z14 := hfb.size
  have z45 := hf5.size
  have hgs := hh7.out
  have f47 : Fr [] w4 w7 := (hf5.trans hf6 (by simp) (n := []) (by simp)).trans hf7 (by simp) (by simp; omega)
  have f47' : ∀ k, k < w4.heap.size → k ∉ ([] : List Nat) := by simp
  have hg0 : w7.heap[w.heap.size]? = some (.cells Z 24 (0, 0)) := f47.heap (hfb.heap hh1.out (by simp)) (by simp)
  have hfr : Fr [] w w7 := (hf1.trans hfb (by simp) (n := []) (by simp)).trans f47 (by simp) (by simp)
  have hown7 := owns_kept HOWN4.out f47 (by simp)
  have hby := bytesAt_of_owns hown7
  obtain ⟨av, cv, rfl, hcv, hmv⟩ := hby.form
  have hne0 : w.heap.size ≠ w5.heap.size := by omega
  have hws5 : w.heap.size ≤ w5.heap.size := by omega
  have hbo : ∀ k, (Value.slice av all.length cv).ownBlock = some k → k ≠ w5.heap.size := fun k hk => by have := (HOB.out k hk).2; omega
  have hbo1 : ∀ k, (Value.slice av all.length cv).ownBlock = some k → w.heap.size ≤ k := fun k hk => by have := (HOB.out k hk).1; omega
  have HBO := Lib.hid hbo
  have HBY := Lib.hid hby
  clear hh1 hf1 hs1 hfb hf5 hh6 hf6 hs6 hh7 hf7 hs7 f47 f47' HOWN4 HOB hown7 hby hbo hbo1 z56 z1 z14 z45
  obtain ⟨gs, egs⟩ : ∃ g, g = w5.heap.size := ⟨_, rfl⟩
  obtain ⟨g0, eg0⟩ : ∃ g, g = w.heap.size := ⟨_, rfl⟩
  rw [← egs] at hgs hne0 hws5 HBO ⊢
  rw [← eg0] at hg0 hne0 hws5 ⊢
  have EG0 := Lib.hid eg0
  clear egs eg0
  have HPL := Lib.hid hpl
  have hal : all.length ≤ 600000 := by omega
  clear hpl hfl
  go_loopw [5] (HashRel all gs g0 Z w7) (fun vi _ => all.length - (intOf vi).toNat)
  case atStart => exact ⟨0, by omega, rfl, hgs, hg0, Fr.refl _ _⟩
  case round =>
    have HBW : Hid (∀ W, Fr [gs] w7 W → bytesAt W (.slice av all.length cv) all) := Lib.hid (fun W hW => HBY.out.kept hW (fun k hk _ _ => by have := HBO.out k hk; simpa using this))
    clear hgs hg0
    obtain ⟨n, hn, rfl, hgs, hg0, hf⟩ := hrel
    obtain ⟨m, hm⟩ : ∃ m, m = 64 * n := ⟨_, rfl⟩
    rw [← hm] at hn ⊢
    have HM := Lib.hid hm
    have HGS := Lib.hid hgs
    have HG0 := Lib.hid hg0
    clear hm hgs hg0
    by_cases hmore : m + 64 ≤ all.length
    · have hd : decide ((m : Int) + 64 ≤ (all.length : Int)) = true := decide_eq_true (by omega)
      have hok := absorb_ok n all
      have hnext : absorb (n + 1) all = blockSt (absorb n all) ((all.drop m).take 64) := by rw [HM.out]; rfl
      obtain ⟨st, hst⟩ : ∃ st, st = absorb n all := ⟨_, rfl⟩
      obtain ⟨blk, hblk⟩ : ∃ blk, blk = (all.drop m).take 64 := ⟨_, rfl⟩
      have hbl : blk.length = 64 := by rw [hblk, List.length_take, List.length_drop]; omega
      have hcm : ¬ cv = m := by omega
      have hbc : ∀ W, Fr [gs] w7 W → bytesAt W (.slice (av.map fun x => x.add m) 64 (cv - m)) blk := fun W hW => by
        have h := (HBW.out W hW).cut (lo := m) (hi := m + 64) (by omega) hmore
        rw [if_neg hcm, Nat.mul_one, show m + 64 - m = 64 from by omega, List.drop_take, show m + 64 - m = 64 from by omega, ← hblk] at h
        exact h
      rw [← hst, ← hblk] at hnext
      rw [← hst] at hok HGS
      have HBL := Lib.hid (fun W hW => ref_block_any st blk _ W hok (hbc W hW) hbl)
      have HNX := Lib.hid hnext
      have HST := Lib.hid hst
      clear hbc hst hblk hnext
      go_wp2_with fail
      refine wp_region_Z [] 7 [(0, false), (1, false), (2, false), (3, false), (4, false), (5, false), (6, true), (7, true)] 55 rfl (by kernel_rfl) (by kernel_rfl) (by kernel_rfl) (fun c a d v w h => by cases d <;> exact h) (fun w8 hf8 => ?_)
      simp only [List.map_cons, List.map_nil, List.getElem?_toArray, List.getElem?_cons_succ, List.getElem?_cons_zero, Option.getD_some]
      have LH : Hid (Later [] w8 (fun w' => w'.heap[gs]? = some (.cells (stC st) 29 (0, 0)))) := Lib.hid (fun w' hf' => hf'.heap (hf8.heap HGS.out (by simp)) (by simp))
      repeat (apply walkZ_t; · (intro w' hf'; first
        | (refine wpList_load_row rfl 29 _ rfl gs rfl 29 (stC st) (0, 0) _ (LH.out w' hf') Tryd.underlying29 rfl (sizeN8 st) ?_; exact ⟨rfl, rfl⟩)
        | (go_wp2_with fail; exact ⟨rfl, rfl⟩)))
      refine walkZ_x ?_
      have HBL8 := Lib.hid (HBL.out w8 (hf.trans hf8 (fun i hi _ => hi) (by simp)))
      go_wp2_with (go_at_call 16; refine HBL8.out.mono ?_; rintro e w9 ⟨rfl, hf9⟩)
      refine ⟨.inr hf9, rfl, ?_⟩
      refine walkZ_x ?_
      have HG9 := Lib.hid (hf9.heap (LH.out w8 (Fr.refl _ _)) (by simp))
      have hszz : (stC st).size = (stC (blockSt st blk)).size := by rw [stC_size, stC_size]
      go_wp2_with (refine wpL_storeArr rfl 29 _ _ rfl gs (stC (blockSt st blk)) (stC st) rfl rfl 29 HG9.out (sizeN8 _) hszz (stC_one _) ?_; intro w10 hh10 hf10 hs10)
      refine ⟨rfl, walkZ_end ?_⟩
      have hf10' : Fr [gs] w7 w10 := ((hf.trans hf8 (fun i hi _ => hi) (n := [gs]) (by simp)).trans hf9 (fun i hi _ => hi) (n := [gs]) (by simp)).trans hf10 (fun i hi _ => hi) (fun i hi _ => hi)
      have hG0 := hf10.heap (hf9.heap (hf8.heap HG0.out (by simp)) (by simp)) (by simp; exact hne0)
      go_wp2_with fail
      go_roundw
      case rel => exact ⟨n + 1, by have := HM.out; omega, by have := HM.out; rw [show 64 * (n + 1) = m + 64 from by omega]; go_num, by rw [HNX.out]; exact hh10.out, hG0, hf10'⟩
      case measure => simp [intOf]; omega
    · have hd : decide ((m : Int) + 64 ≤ (all.length : Int)) = false := decide_eq_false (by omega)
      have hend : n = all.length / 64 := by have := HM.out; omega
      have hsum : hashN bs = encSt (absorb n all) := by rw [hend, HALL.out]; rfl
      obtain ⟨st, hst⟩ : ∃ st, st = absorb n all := ⟨_, rfl⟩
      have hok := absorb_ok n all
      rw [← hst] at hsum HGS hok
      have HSUM := Lib.hid hsum
      have hfw : Fr [] w wr := hfr.trans hf (by simp) (by simp; have := EG0.out; omega)
      clear hend hsum hst hfr hf
      have hgl := (Array.getElem?_eq_some_iff.1 HG0.out).1
      have hgsl := (Array.getElem?_eq_some_iff.1 HGS.out).1
      go_wp2_with (refine wpL_newArr rfl 24 rfl Z HI.out ?_; intro w8 hh8 hf8 hs8)
      have hgo : w8.heap[wr.heap.size]? = some (.cells (cellsB (encQ st 0 0)).toArray 24 (0, 0)) := by rw [encQ_zero, ← HZ.out]; exact hh8.out
      have hG0 := hf8.heap HG0.out (by simp)
      have hGS := hf8.heap HGS.out (by simp)
      have hF : Fr [] w w8 := hfw.trans hf8 (by simp) (by simp)
      obtain ⟨go, ego⟩ : ∃ g, g = wr.heap.size := ⟨_, rfl⟩
      have hgow : w.heap.size ≤ go := by have := hfw.size; omega
      rw [← ego] at hgo hgl hgsl ⊢
      clear ego hh8 hs8 hf8 hfw
      go_loopw [7] (fun vi W => ∃ i : Nat, i ≤ 8 ∧ vi = .int .i64 (i : Int) ∧ W.heap[go]? = some (.cells (cellsB (encQ st i 0)).toArray 24 (0, 0)) ∧ W.heap[gs]? = some (.cells (stC st) 29 (0, 0)) ∧ W.heap[g0]? = some (.cells Z 24 (0, 0)) ∧ Fr [] w W) (fun vi _ => 8 - (intOf vi).toNat)
      case atStart => exact ⟨0, by omega, rfl, hgo, hGS, hG0, hF⟩
      case round =>
        clear hgo hGS hG0 hF
        obtain ⟨i, hi, rfl, hgo, hGS, hG0, hF⟩ := hrel
        by_cases hi8 : i < 8
        · have hd2 : decide ((i : Int) < 8) = true := decide_eq_true (by omega)
          have hi8i : (i : Int) < 8 := by omega
          obtain ⟨x, hx⟩ : ∃ x, x = st.list[i]'(by rw [St.list_length]; exact hi8) := ⟨_, rfl⟩
          have cx : wr.cell? ⟨gs, i, none⟩ = some (.int .u32 (x : Int)) := by rw [cell_of_heap hGS, stC_list _ _ hi8, hx]
          have hxl : x < 4294967296 := by rw [hx]; exact St.list_lt hok i _
          have HX := Lib.hid hx
          have HGO := Lib.hid hgo
          have HGS2 := Lib.hid hGS
          have HG02 := Lib.hid hG0
          clear hx hgo hGS hG0
          go_wp2_with fail
          clear cx
          go_loopw [8, 9] (fun vv vk W => ∃ t y : Nat, t ≤ 4 ∧ y = x / 256 ^ t ∧ vv = .int .u32 (y : Int) ∧ vk = .int .i64 ((3 : Int) - (t : Int)) ∧ W.heap[go]? = some (.cells (cellsB (encQ st i t)).toArray 24 (0, 0)) ∧ W.heap[gs]? = some (.cells (stC st) 29 (0, 0)) ∧ W.heap[g0]? = some (.cells Z 24 (0, 0)) ∧ Fr [] w W) (fun _ vk _ => (intOf vk + 1).toNat)
          case atStart => exact ⟨0, x, by omega, by simp, rfl, rfl, HGO.out, HGS2.out, HG02.out, hF⟩
          case round =>
            clear hF HGO HGS2 HG02
            obtain ⟨t, y, ht, hy, rfl, hvk, hgo, hGS, hG0, hF⟩ := hrel
            by_cases ht4 : t < 4
            · obtain ⟨k, hk⟩ : ∃ k, k = 3 - t := ⟨_, rfl⟩
              obtain rfl := show _ = Value.int .i64 (k : Int) from hvk.trans (congrArg (Value.int .i64) (by omega))
              have hdk : decide ((0 : Int) ≤ (k : Int)) = true := decide_eq_true (by omega)
              have hk4 : k < 4 := by omega
              have hset := encQ_set st i t hi8 ht4 x HX.out
              rw [← hy, ← hk] at hset
              have hnext : y / 256 = x / 256 ^ (t + 1) := by rw [hy, Nat.pow_succ, Nat.div_div_eq_div_mul]
              have hlt32 : 4 * i + k < (encQ st i t).length := by rw [encQ_length]; omega
              have hcell : wr.cell? ⟨go, 4 * i + k, none⟩ = some (.int .u8 (((encQ st i t)[4 * i + k]'hlt32).toNat : Int)) := by rw [cell_of_heap hgo, bytesC_get]
              have hfree := free_of_heap hgo (4 * i + k)
              have h2 : ∀ v : Int, v = ((y % 256 : Nat) : Int) → (wr.setCell ⟨go, 4 * i + k, none⟩ (.int .u8 v)).heap[go]? = some (.cells (cellsB (encQ st i (t + 1))).toArray 24 (0, 0)) := by
                rintro v rfl
                have e : ((y % 256 : Nat) : Int) = ((UInt8.ofNat (y % 256)).toNat : Int) := by rw [UInt8.toNat_ofNat']; omega
                rw [heap_setCell_same hgo, e, bytesC_set, hset]
              have h3 : ∀ v, Fr [] w (wr.setCell ⟨go, 4 * i + k, none⟩ v) := fun v => hF.trans (Fr.set0 wr go (4 * i + k) v) (by simp) (by simp; omega)
              have h4 : ∀ v, (wr.setCell ⟨go, 4 * i + k, none⟩ v).heap[gs]? = some (.cells (stC st) 29 (0, 0)) := fun v => (Fr.set0 wr go (4 * i + k) v).heap hGS (by simp; omega)
              have h5 : ∀ v, (wr.setCell ⟨go, 4 * i + k, none⟩ v).heap[g0]? = some (.cells Z 24 (0, 0)) := fun v => (Fr.set0 wr go (4 * i + k) v).heap hG0 (by simp; omega)
              have hyb : y < 4294967296 := by rw [hy]; exact Nat.lt_of_le_of_lt (Nat.div_le_self _ _) hxl
              have H2 := Lib.hid h2
              have H3 := Lib.hid h3
              have H4 := Lib.hid h4
              have H5 := Lib.hid h5
              have HNX := Lib.hid hnext
              have HK := Lib.hid hk
              clear h2 h3 h4 h5 hset hnext hy hk hgo hGS hG0 hvk hF
              go_wp2_with fail
              exact ⟨⟨t + 1, y / 256, by omega, HNX.out, by go_num, congrArg (Value.int .i64) (by have := HK.out; omega), H2.out _ (by go_num), H4.out _, H5.out _, H3.out _⟩, by simp [intOf]⟩
            · have ht' : t = 4 := by omega
              subst ht'
              obtain rfl := show _ = Value.int .i64 (-1) from hvk
              rw [encQ_next] at hgo
              have HGO := Lib.hid hgo
              have HGS2 := Lib.hid hGS
              have HG02 := Lib.hid hG0
              clear hgo hGS hG0 hvk hy
              go_wp2_with fail
              exact ⟨⟨i + 1, by omega, by go_num, HGO.out, HGS2.out, HG02.out, hF⟩, by simp [intOf]; omega⟩
        · have hd2 : decide ((i : Int) < 8) = false := decide_eq_false (by omega)
          rw [show i = 8 from by omega, encQ_end, ← HSUM.out, ← HE.out] at hgo
          have HGO := Lib.hid hgo
          have HG02 := Lib.hid hG0
          clear hgo hG0 hGS
          go_wp2_with (refine wpList_load_row rfl 24 _ rfl go rfl 24 E (0, 0) _ HGO.out Tryd.underlying24 rfl HL32.out ?_; refine wpL_storeArr rfl 24 (.tmp 2) (.tmp 54) rfl g0 E Z rfl rfl 24 HG02.out HL32.out HZS.out HON.out ?_; intro w9 hh9 hf9 hs9)
          refine bodyPost_ret (v := .agg E) ?_ rfl ⟨rfl, hF.trans hf9 (by simp) (by simp; have := EG0.out; omega)⟩
          exact results_cell_row rfl _ _ g0 24 E (0, 0) _ rfl hh9.out Tryd.underlying24 rfl HL32.out
end Go.Proofs.YtjiighgabfkmpaaDoor
