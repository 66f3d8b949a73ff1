/- Contract of varint.Parse. -/
import Derived.Test.YtijdffpekonklaaVarC
namespace Go.Proofs.Ytijdffpekonklaa
open Go.RowKit

theorem taken_max (bs : List UInt8) : taken bs 18446744073709551615 = front bs := by
  unfold taken
  cases h : front bs with
  | none => rfl
  | some x =>
    obtain ⟨x, n⟩ := x
    obtain ⟨_, _, _, hx⟩ := front_some h
    simp [hx]
theorem parse_succ (m : Nat) (rest : List UInt8) (x k : Nat) (h : front rest = some (x, k)) : parse (m + 1) rest = (parse m (rest.drop k)).map (x :: ·) := by
  rw [parse, h]
theorem parse_fail (m : Nat) (rest : List UInt8) (h : front rest = none) : parse (m + 1) rest = none := by
  rw [parse, h]
theorem map_snoc (o : Option (List Nat)) (ds : List Nat) (x : Nat) : ((o.map (x :: ·)).map (ds ++ ·)) = o.map ((ds ++ [x]) ++ ·) := by
  cases o <;> simp

theorem infoU64 : (Try.prog.info? 32).map (fun i => (i.zero, i.size, i.bytes)) = some (some (.int .u64 0), 1, 8) := by kernel_rfl

/-- What Parse gives. -/
def Parsed (n : Nat) (bs : List UInt8) (w : World) (v : Value) (w' : World) : Prop :=
  (∃ l rv, parse n bs = some l ∧ v = .tuple #[rv, .bool true] ∧ w'.ownsRow w.heap.size 32 1 rv l.length (numC l) ∧ Fr [] w w') ∨
  (parse n bs = none ∧ v = .tuple #[.slice none 0 0, .bool false] ∧ Fr [] w w')
def sliceLen : Value → Nat
  | .slice _ n _ => n
  | _ => 0
def ParseRel (p : Nat) (g : Option Nat) (n : Nat) (bs : List UInt8) (w w1 : World) (s : Value) (wr : World) : Prop :=
  ∃ (ds : List Nat) (rest : List UInt8) (sp : Bool), ds.length ≤ n ∧ wr.ownsRow w1.heap.size 32 1 s ds.length (numC ds) ∧ isR wr p g rest sp ∧ Fr [] w wr ∧ w1.heap.size ≤ wr.heap.size ∧
    (sp = false → ds.length + rest.length ≤ bs.length ∧ parse n bs = (parse (n - ds.length) rest).map (ds ++ ·)) ∧ (sp = true → ds.length ≤ bs.length + 1 ∧ parse n bs = none)
theorem own_len {w : World} {base : Nat} {e : TypeId} {v : Value} {n : Nat} {xs : List Value} (h : w.ownsRow base e 1 v n xs) : sliceLen v = n := by
  rcases h.2 with ⟨rfl, h0⟩ | ⟨g, cap, cur, rfl, _⟩
  · exact h0.symm
  · rfl
/-- What an element more onto the list leaves of the rest. -/
theorem parse_keep {w w1 wr w2 w3 : World} {p : Nat} {g o : Option Nat} {rest : List UInt8} {sp : Bool} (hr : isR w2 p g rest sp) (h01 : w.heap.size ≤ w1.heap.size) (hp0 : w.heap.size ≤ p) (hp1 : p < w1.heap.size) (hg : ∀ k, g = some k → w.heap.size ≤ k ∧ k < w1.heap.size)
    (ho : ∀ k, o = some k → w1.heap.size ≤ k) (hf : Fr [] w wr) (hf2 : Fr [p] wr w2) (hf3 : Fr o.toList w2 w3) (hsz : w1.heap.size ≤ wr.heap.size) : isR w3 p g rest sp ∧ Fr [] w w3 ∧ w1.heap.size ≤ w3.heap.size := by
  have key : ∀ i, i ∈ o.toList → w1.heap.size ≤ i := fun i hi => ho i (by simpa [Option.mem_toList] using hi)
  refine ⟨hr.kept hf3 (fun h => by have := key p h; omega) (fun k hk _ h => by have := key k h; have := hg k hk; omega), ?_, Nat.le_trans hsz (Nat.le_trans hf2.size hf3.size)⟩
  exact (hf.trans hf2 (by simp) (n := []) (by simp; omega)).trans hf3 (by simp) (fun i hi hlt => by have := key i hi; omega)
theorem numC_snoc (ds : List Nat) (x : Nat) : numC (ds ++ [x]) = numC ds ++ [.int .u64 (x : Int)] := by simp [numC]

theorem parse_neg (n : Int) (sv : Value) (w : World) (hn : n < 0) : Calls Try.prog 48 #[sv, .int .i64 n] w fun e w' => e = .returned (.tuple #[.slice none 0 0, .bool false]) ∧ w = w' := by
  have hd : decide (n < 0) = true := decide_eq_true hn
  go_enter Try.func48, Try.ntmps48
  go_wp2_with fail
  go_ret2
  exact ⟨rfl, rfl⟩
set_option maxRecDepth 100000 in
theorem parse_any (n : Nat) (bs : List UInt8) (sv : Value) (w : World) (h : bytesAt w sv bs) (hl : bs.length ≤ 1000000) (hn : n ≤ 9223372036854775807) :
    Calls Try.prog 48 #[sv, .int .i64 n] w (Ret (Parsed n bs w)) := by
  obtain ⟨i, hi, hz0, hz1, hz2⟩ := info_parts infoU64
  have hd : decide ((n : Int) < 0) = false := decide_eq_false (by omega)
  go_enter Try.func48, Try.ntmps48
  go_wp2_with fail
  refine (read_any2 _ bs _ h (by omega)).mono ?_
  rintro e w1 ⟨p, g, rfl, hr1, hf1, hp1, hg1⟩
  go_wp2_with fail
  go_loopw [7] (ParseRel p g n bs w w1) (fun s _ => bs.length + 2 - sliceLen s)
  case atStart => exact ⟨[], bs, false, by simp, World.ownsRow_nil _ _ _ _, hr1, hf1, Nat.le_refl _, fun _ => ⟨by simp, by simp⟩, by simp⟩
  case round =>
    obtain ⟨ds, rest, sp, hdn, hown, hr, hf, hsz, hopen, hspent⟩ := hrel
    have hfrm := (numsAt_of_owns hown).form
    obtain ⟨a, cap, rfl, -, -⟩ := hfrm
    have hplt := hr1.lt
    have hpown : ∀ k, (Value.slice a ds.length cap).ownBlock = some k → w1.heap.size ≤ k := fun k hk => (hown.lt k hk).1
    have hw01 := hf1.size
    by_cases hlt : ds.length < n
    · have hd1 : decide (ds.length < n) = true := decide_eq_true hlt
      have hd2 : decide ((ds.length : Int) < (n : Int)) = true := decide_eq_true (by omega)
      cases sp
      · obtain ⟨hle, hpar⟩ := hopen rfl
        clear hopen hspent
        have HP := Lib.hid hpar
        have HO := Lib.hid hpown
        clear hpar hpown
        obtain ⟨m, hm⟩ : ∃ m, n - ds.length = m + 1 := ⟨n - ds.length - 1, by omega⟩
        cases ht : front rest with
        | none =>
          have HT := Lib.hid (vtake_none p g rest false 18446744073709551615 wr hr (by rw [taken_max]; exact ht))
          have HF := Lib.hid ht
          have HM := Lib.hid hm
          clear ht hm
          go_wp2_with (first
            | (go_at_call 47; refine (spent_any p g _ _ _ hr).mono ?_; rintro e w3 ⟨rfl, rfl⟩)
            | (go_at_call 46; refine HT.out.mono ?_; rintro e w2 ⟨rfl, hr2, hf2⟩; have hown2 := owns_kept hown hf2 (fun k hk => by have := HO.out k hk; simp; omega); have hsz2 := hf2.size)
            | (at_builtin; refine wpL_append1 rfl (.tmp 21) (.tmp 24) 62 rfl w1.heap.size 32 i (.int .u64 0) 8 Try.underlying62 hi hz0 hz1 hz2 rfl (.slice a ds.length cap) ds.length (numC ds) rfl hown2 _ rfl rfl (by omega) (by simp [maxLen]; omega) (by omega) ?_; intro v' w3 hown3 hf3 hb3))
          obtain ⟨k1, k2, k3⟩ := parse_keep hr2 hw01 hp1 hplt hg1 HO.out hf hf2 hf3 hsz
          refine ⟨⟨ds ++ [0], [], true, by simp; omega, by rw [numC_snoc, List.length_append]; exact hown3, k1, k2, k3, by simp, fun _ => ⟨by simp; omega, ?_⟩⟩, ?_⟩
          · rw [HP.out, HM.out, parse_fail m rest HF.out]; rfl
          · rw [own_len hown3]; simp only [sliceLen]; omega
        | some xk =>
          obtain ⟨x, k⟩ := xk
          have hfl := front_len ht
          obtain ⟨_, _, _, hx64⟩ := front_some ht
          have hps := parse_succ m rest x k ht
          have HT := Lib.hid (vtake_some p g rest false 18446744073709551615 x k wr hr ht hx64)
          have HS := Lib.hid hps
          have HM := Lib.hid hm
          clear ht hm hps
          go_wp2_with (first
            | (go_at_call 47; refine (spent_any p g _ _ _ hr).mono ?_; rintro e w3 ⟨rfl, rfl⟩)
            | (go_at_call 46; refine HT.out.mono ?_; rintro e w2 ⟨rfl, hr2, hf2⟩; have hown2 := owns_kept hown hf2 (fun k hk => by have := HO.out k hk; simp; omega); have hsz2 := hf2.size)
            | (at_builtin; refine wpL_append1 rfl (.tmp 21) (.tmp 24) 62 rfl w1.heap.size 32 i (.int .u64 0) 8 Try.underlying62 hi hz0 hz1 hz2 rfl (.slice a ds.length cap) ds.length (numC ds) rfl hown2 _ rfl rfl (by omega) (by simp [maxLen]; omega) (by omega) ?_; intro v' w3 hown3 hf3 hb3))
          obtain ⟨k1, k2, k3⟩ := parse_keep hr2 hw01 hp1 hplt hg1 HO.out hf hf2 hf3 hsz
          refine ⟨⟨ds ++ [x], rest.drop k, false, by simp; omega, by rw [numC_snoc, List.length_append]; exact hown3, k1, k2, k3, fun _ => ⟨by simp; omega, ?_⟩, by simp⟩, ?_⟩
          · rw [HP.out, HM.out, HS.out, map_snoc]
            simp only [List.length_append, List.length_singleton]
            have := HM.out
            rw [show n - (ds.length + 1) = m from by omega]
          · rw [own_len hown3]; simp only [sliceLen]; omega
      · obtain ⟨hle, hpar⟩ := hspent rfl
        clear hopen hspent hpown
        have HP := Lib.hid hpar
        clear hpar
        go_wp2_with (first
          | (go_at_call 47; refine (spent_any p g _ _ _ hr).mono ?_; rintro e w3 ⟨rfl, rfl⟩)
          | (go_at_call 52; refine (rall_any p g _ _ _ hr).mono ?_; rintro e w3 ⟨rfl, rfl⟩))
        go_ret2
        exact Ret.mk (.inr ⟨HP.out, rfl, hf⟩)
    · obtain rfl : n = ds.length := by omega
      clear hpown
      cases sp
      · obtain ⟨hle, hpar⟩ := hopen rfl
        clear hopen hspent
        rw [Nat.sub_self] at hpar
        by_cases hr0 : rest = []
        · subst hr0
          have HP := Lib.hid hpar
          clear hpar
          go_wp2_with (first
            | (go_at_call 47; refine (spent_any p g _ _ _ hr).mono ?_; rintro e w3 ⟨rfl, rfl⟩)
            | (go_at_call 52; refine (rall_any p g _ _ _ hr).mono ?_; rintro e w3 ⟨rfl, rfl⟩))
          go_ret2
          exact Ret.mk (.inl ⟨ds, _, by rw [HP.out]; simp [parse], rfl, owns_base hown (fun k hk => by have := (hown.lt k hk).1; omega), hf⟩)
        · have hlp : decide (rest.length = 0) = false := decide_eq_false (fun e => hr0 (List.eq_nil_of_length_eq_zero e))
          have hpn : parse 0 rest = none := by rw [parse, if_neg hr0]
          rw [hpn] at hpar
          have HP := Lib.hid hpar
          clear hpar hpn
          go_wp2_with (first
            | (go_at_call 47; refine (spent_any p g _ _ _ hr).mono ?_; rintro e w3 ⟨rfl, rfl⟩)
            | (go_at_call 52; refine (rall_any p g _ _ _ hr).mono ?_; rintro e w3 ⟨rfl, rfl⟩; rw [hlp]))
          go_ret2
          exact Ret.mk (.inr ⟨by rw [HP.out]; rfl, rfl, hf⟩)
      · obtain ⟨hle, hpar⟩ := hspent rfl
        clear hopen hspent
        have HP := Lib.hid hpar
        clear hpar
        go_wp2_with (first
          | (go_at_call 47; refine (spent_any p g _ _ _ hr).mono ?_; rintro e w3 ⟨rfl, rfl⟩)
          | (go_at_call 52; refine (rall_any p g _ _ _ hr).mono ?_; rintro e w3 ⟨rfl, rfl⟩))
        go_ret2
        exact Ret.mk (.inr ⟨HP.out, rfl, hf⟩)

theorem parse_yes (n : Nat) (bs : List UInt8) (l : List Nat) (sv : Value) (w : World) (h : bytesAt w sv bs) (hl : bs.length ≤ 1000000) (hn : n ≤ 9223372036854775807) (hp : parse n bs = some l) :
    Calls Try.prog 48 #[sv, .int .i64 n] w fun e w' => ∃ rv, e = .returned (.tuple #[rv, .bool true]) ∧ w'.ownsRow w.heap.size 32 1 rv l.length (numC l) ∧ Fr [] w w' := by
  refine (parse_any n bs sv w h hl hn).mono ?_
  rintro e w' ⟨v, rfl, ⟨l', rv, h1, rfl, h2, h3⟩ | ⟨h1, _⟩⟩
  · rw [hp] at h1
    cases h1
    exact ⟨rv, rfl, h2, h3⟩
  · rw [hp] at h1; cases h1
theorem parse_no (n : Int) (bs : List UInt8) (sv : Value) (w : World) (h : bytesAt w sv bs) (hl : bs.length ≤ 1000000) (hn : n ≤ 9223372036854775807) (hp : 0 ≤ n → parse n.toNat bs = none) :
    Calls Try.prog 48 #[sv, .int .i64 n] w fun e w' => e = .returned (.tuple #[.slice none 0 0, .bool false]) ∧ Fr [] w w' := by
  by_cases h0 : n < 0
  · refine (parse_neg n sv w h0).mono ?_
    rintro e w' ⟨rfl, rfl⟩
    exact ⟨rfl, Fr.refl _ _⟩
  · obtain ⟨m, rfl⟩ := Int.eq_ofNat_of_zero_le (show 0 ≤ n by omega)
    have hp := hp (by omega)
    rw [Int.toNat_natCast] at hp
    refine (parse_any m bs sv w h hl (by omega)).mono ?_
    rintro e w' ⟨v, rfl, ⟨l', rv, h1, _⟩ | ⟨h1, rfl, h3⟩⟩
    · rw [hp] at h1; cases h1
    · exact ⟨rfl, h3⟩
end Go.Proofs.Ytijdffpekonklaa
