/- The document's answers prime, nth, pow, digits. -/
import Derived.Test.YtjiighgabfkmpaaDoorShaO
import Derived.Test.YtjiighgabfkmpaaDoorShaQ
namespace Go.Proofs.YtjiighgabfkmpaaDoor
open Go.RowKit

set_option maxRecDepth 100000 in
theorem ref_prime_any (n : Nat) (w : World) (hn : n < 10000) :
    Calls Tryd.prog 33 #[.int .i64 n] w fun e w' => e = .returned (.bool (primeN n)) ∧ w = w' := by
  obtain ⟨r, hr⟩ : ∃ r, r = primeN n := ⟨_, rfl⟩
  rw [← hr]
  have HR := Lib.hid hr
  clear hr
  go_enter Tryd.func33, Tryd.ntmps33
  go_wp2_with fail
  go_loop [3] (fun s => ∃ f d : Nat, 2 ≤ d ∧ s = .int .i64 (d : Int) ∧ n < d + f ∧ d ≤ 10000 ∧ primeF f d n = r) (fun s => 20000 - (intOf s).toNat)
  case atStart => exact ⟨n, 2, Nat.le_refl _, rfl, by omega, by omega, HR.out.symm⟩
  case round =>
    obtain ⟨f, d, hd2, rfl, hf, hdb, hp⟩ := hrel
    have hdd : d ≤ d * d := Nat.le_mul_of_pos_left d (by omega)
    have hdm : d * d ≤ 10000 * 10000 := Nat.mul_le_mul hdb hdb
    have hmi : (n : Int) % (d : Int) = ((n % d : Nat) : Int) := by simp
    by_cases hle : d * d ≤ n
    · have hb : decide ((d : Int) * (d : Int) ≤ (n : Int)) = true := decide_eq_true (by rw [← Int.natCast_mul]; omega)
      cases f with
      | zero => omega
      | succ f =>
        rw [primeF, if_pos hle] at hp
        by_cases hm : n % d = 0
        · have ht : ((n : Int) % (d : Int) == 0) = true := by rw [hmi, hm]; rfl
          rw [if_pos hm] at hp
          have HP := Lib.hid hp
          clear hp hmi hm hle
          go_wp2_with fail
          go_ret
          exact ⟨by rw [← HP.out]; rfl, rfl⟩
        · have ht : ((n : Int) % (d : Int) == 0) = false := by rw [hmi, beq_eq_false_iff_ne]; omega
          rw [if_neg hm] at hp
          have HP := Lib.hid hp
          have hdn : d ≤ n := by omega
          clear hp hmi hm hle
          go_wp2_with fail
          go_round
          case rel => exact ⟨f, d + 1, by omega, by go_num, by omega, by omega, HP.out⟩
          case measure => simp [intOf]; omega
    · have hb : decide ((d : Int) * (d : Int) ≤ (n : Int)) = false := decide_eq_false (by rw [← Int.natCast_mul]; omega)
      have hp' : r = decide (1 < n) := by
        rw [← hp]
        cases f with
        | zero => rfl
        | succ f => rw [primeF, if_neg hle]
      have HP := Lib.hid hp'
      clear hp hp' hmi hle
      go_wp2_with fail
      go_ret
      refine ⟨?_, rfl⟩
      rw [HP.out]
      exact congrArg (fun b : Bool => Ending.returned (Value.bool b)) (decide_eq_decide.2 (by omega))

theorem nth_at (i : Nat) (h : i < primeL.length) : nthF 400 2 i = primeL[i]'h := by
  have hl : primeL.length = 64 := rfl
  have h1 : ((List.range 64).map fun i => nthF 400 2 i)[i]? = primeL[i]? := by rw [nth_list]
  rw [List.getElem?_map, List.getElem?_range (by omega), List.getElem?_eq_getElem h] at h1
  exact Option.some.inj h1
theorem primeL_pos : ∀ x ∈ primeL, 0 < x ∧ x < 65536 := by decide +kernel
set_option maxRecDepth 100000 in
theorem ref_nth_any (i : Nat) (w : World) (h : i < primeL.length) :
    Calls Tryd.prog 23 #[.int .i64 i] w fun e w' => e = .returned (.int .i64 ((primeL[i]'h : Nat) : Int)) ∧ w = w' := by
  have hr := nth_at i h
  have hpos := (primeL_pos _ (List.getElem_mem h)).1
  have hil : i < 64 := h
  obtain ⟨r, hrr⟩ : ∃ r, r = primeL[i]'h := ⟨_, rfl⟩
  rw [← hrr] at hr hpos ⊢
  have HR := Lib.hid hr
  clear hr hrr
  go_enter Tryd.func23, Tryd.ntmps23
  go_wp2_with fail
  go_loop [0, 3] (fun si sn => ∃ f n k : Nat, sn = .int .i64 (n : Int) ∧ si = .int .i64 (k : Int) ∧ n + f = 402 ∧ k ≤ 64 ∧ nthF f n k = r) (fun _ sn => 402 - (intOf sn).toNat)
  case atStart => exact ⟨400, 2, i, rfl, rfl, rfl, by omega, HR.out⟩
  case round =>
    obtain ⟨f, n, k, rfl, rfl, hf, hk, hp⟩ := hrel
    cases f with
    | zero => rw [nthF] at hp; omega
    | succ f =>
      rw [nthF] at hp
      have HP := Lib.hid (fun wx => ref_prime_any n wx (by omega))
      by_cases hpn : primeN n = true
      · rw [if_pos hpn] at hp
        rw [hpn] at HP
        by_cases hk0 : k = 0
        · rw [if_pos hk0] at hp
          have ht : ((k : Int) == 0) = true := by rw [hk0]; rfl
          have HQ := Lib.hid hp
          clear hp hk0 hpn
          go_wp2_with (go_at_call 33; refine (HP.out _).mono ?_; rintro e w1 ⟨rfl, rfl⟩)
          go_ret
          exact ⟨by rw [← HQ.out]; rfl, rfl⟩
        · rw [if_neg hk0] at hp
          have ht : ((k : Int) == 0) = false := by rw [beq_eq_false_iff_ne]; omega
          have HQ := Lib.hid hp
          have hk1 : 0 < k := by omega
          clear hp hk0 hpn
          go_wp2_with (go_at_call 33; refine (HP.out _).mono ?_; rintro e w1 ⟨rfl, rfl⟩)
          go_round
          case rel => exact ⟨f, n + 1, k - 1, by go_num, by go_num, by omega, by omega, HQ.out⟩
          case measure => simp [intOf]; omega
      · have hpf : primeN n = false := by simpa using hpn
        rw [if_neg hpn] at hp
        rw [hpf] at HP
        have HQ := Lib.hid hp
        clear hp hpn hpf
        go_wp2_with (go_at_call 33; refine (HP.out _).mono ?_; rintro e w1 ⟨rfl, rfl⟩)
        go_round
        case rel => exact ⟨f, n + 1, k, by go_num, rfl, by omega, by omega, HQ.out⟩
        case measure => simp [intOf]; omega

theorem ref_pow_any (n : Nat) (w : World) (h : n ≤ 40) :
    Calls Tryd.prog 29 #[.int .i64 n] w fun e w' => e = .returned (.int .u64 ((2 ^ n : Nat) : Int)) ∧ w = w' := by
  obtain ⟨r, hr⟩ : ∃ r, r = 2 ^ n := ⟨_, rfl⟩
  rw [← hr]
  have HR := Lib.hid hr
  clear hr
  go_enter Tryd.func29, Tryd.ntmps29
  go_wp2_with fail
  go_loop [3, 4] (fun so si => ∃ k x : Nat, k ≤ n ∧ si = .int .i64 (k : Int) ∧ so = .int .u64 (x : Int) ∧ x = 2 ^ k) (fun _ si => n - (intOf si).toNat)
  case atStart => exact ⟨0, 1, by omega, rfl, rfl, rfl⟩
  case round =>
    obtain ⟨k, x, hk, rfl, rfl, hx⟩ := hrel
    by_cases hkn : k < n
    · have hd : decide (k < n) = true := decide_eq_true hkn
      have hxl : x ≤ 2 ^ 40 := by rw [hx]; exact Nat.pow_le_pow_right (by decide) (by omega)
      have hnext : x * 2 = 2 ^ (k + 1) := by rw [hx, Nat.pow_succ]
      have HN := Lib.hid hnext
      clear hnext hx
      go_wp2_with fail
      go_round
      case rel => exact ⟨k + 1, x * 2, by omega, by go_num, by go_num, HN.out⟩
      case measure => simp [intOf]; omega
    · have hd : decide (k < n) = false := decide_eq_false hkn
      have HX := Lib.hid hx
      clear hx
      go_wp2_with fail
      go_ret
      exact ⟨by rw [HR.out, ← show k = n from by omega, ← HX.out]; rfl, rfl⟩

/-- Numbers of 64 bits as cells. -/
def nums64 (l : List Nat) : Array Value := (l.map fun (x : Nat) => Value.int .u64 (x : Int)).toArray
theorem nums64_get (l : List Nat) (i : Nat) (h : i < l.length) : (nums64 l)[i]? = some (.int .u64 ((l[i]'h : Nat) : Int)) := by simp [nums64, h]
theorem nums64_set (l : List Nat) (i x : Nat) : (nums64 l).setIfInBounds i (.int .u64 (x : Int)) = nums64 (l.set i x) := by simp [nums64, List.map_set]
/-- A fresh slice of numbers. -/
def numsAt64 (w : World) (v : Value) (l : List Nat) : Prop := ∃ g, v = .slice (some ⟨g, 0, none⟩) l.length l.length ∧ w.heap[g]? = some (.cells (nums64 l) 47 (0, 0))
theorem numsAt64.below {w w' : World} {v : Value} {l : List Nat} (h : numsAt64 w v l) (hf : Fr [] w w') : numsAt64 w' v l := by
  obtain ⟨g, h1, h2⟩ := h
  exact ⟨g, h1, hf.heap h2 (by simp)⟩
def digN (v : Nat) : List Nat := [v % 65536, v / 65536 % 65536, v / 4294967296 % 65536]
theorem digN_lt (v : Nat) : ∀ x ∈ digN v, x < 65536 := by
  intro x hx
  simp only [digN, List.mem_cons, List.not_mem_nil, or_false] at hx
  rcases hx with rfl | rfl | rfl <;> exact Nat.mod_lt _ (by decide)
theorem digN_val (v : Nat) (h : v < 281474976710656) : valD (digN v) = v := by
  simp only [digN, valD]
  omega
theorem ref_digits_any (v : Nat) (w : World) (hv : v < 281474976710656) :
    Calls Tryd.prog 30 #[.int .u64 v] w fun e w' => ∃ u, e = .returned u ∧ numsAt64 w' u (digN v) ∧ Fr [] w w' := by
  go_enter Tryd.func30, Tryd.ntmps30
  go_wp2_with fail
  go_ret
  refine ⟨_, rfl, ⟨w.heap.size, rfl, ?_⟩, Fr.alloc _ _⟩
  rw [heap_alloc_new]
  simp [nums64, digN]
end Go.Proofs.YtjiighgabfkmpaaDoor
