/- SHA-256, plain mathematics: rotations, the schedule, the rounds, blocks, the padding, the hash. Nothing here names the program. -/
namespace Go.Proofs.YtjlkcdmeiakkbaaGreatDoor

/-- A number forced before it is handed on (it helps the kernel alone). -/
def force {α : Type} (n : Nat) (k : Nat → α) : α := Nat.rec (k 0) (fun m _ => k (Nat.succ m)) n
theorem force_eq {α : Type} (n : Nat) (k : Nat → α) : force n k = k n := by cases n <;> rfl

/-- Rotation to the right. -/
def rotN (v n : Nat) : Nat := v / 2 ^ n + v % 2 ^ n * 2 ^ (32 - n)
theorem rotN_zero (v : Nat) : rotN v 0 = v := by simp [rotN, Nat.mod_one]
theorem rotN_lt (v n : Nat) (h : v < 4294967296) (hn : n ≤ 32) : rotN v n < 4294967296 := by
  have e : 2 ^ n * 2 ^ (32 - n) = 4294967296 := by rw [← Nat.pow_add, Nat.add_sub_cancel' hn]
  have hp : 0 < 2 ^ n := Nat.pow_pos (by decide)
  have h1 : v / 2 ^ n < 2 ^ (32 - n) := by rw [Nat.div_lt_iff_lt_mul hp, Nat.mul_comm, e]; exact h
  have h2 : v % 2 ^ n + 1 ≤ 2 ^ n := Nat.mod_lt _ hp
  have h3 := Nat.mul_le_mul_right (2 ^ (32 - n)) h2
  rw [e, Nat.add_mul, Nat.one_mul] at h3
  unfold rotN
  omega
theorem rotN_succ (v n : Nat) (hn : n < 32) : rotN v n / 2 + rotN v n % 2 * 2147483648 = rotN v (n + 1) := by
  have hX : 2 ^ (32 - n) = 2 * 2 ^ (31 - n) := by rw [show 32 - n = (31 - n) + 1 from by omega, Nat.pow_succ, Nat.mul_comm]
  have hN : 2 ^ n * 2 ^ (31 - n) = 2147483648 := by rw [← Nat.pow_add, show n + (31 - n) = 31 from by omega]
  have hq : v / 2 ^ n = 2 * (v / 2 ^ (n + 1)) + v / 2 ^ n % 2 := by
    rw [Nat.pow_succ, ← Nat.div_div_eq_div_mul]; omega
  have hr : v % 2 ^ (n + 1) = v % 2 ^ n + 2 ^ n * (v / 2 ^ n % 2) := by rw [Nat.pow_succ, Nat.mod_mul]
  unfold rotN
  rw [show 32 - (n + 1) = 31 - n from by omega, hr, hX, Nat.add_mul, hq]
  generalize v / 2 ^ (n + 1) = q
  have hb : v / 2 ^ n % 2 < 2 := Nat.mod_lt _ (by decide)
  generalize v / 2 ^ n % 2 = b at hb
  generalize v % 2 ^ n = r
  have e1 : r * (2 * 2 ^ (31 - n)) = 2 * (r * 2 ^ (31 - n)) := by rw [Nat.mul_left_comm]
  have e2 : 2 ^ n * b * 2 ^ (31 - n) = 2147483648 * b := by rw [Nat.mul_right_comm, hN]
  have e3 : (2 * q + b) % 2 = b := by omega
  rw [e1, e3, e2]
  generalize r * 2 ^ (31 - n) = y
  omega

def bigE (e : Nat) : Nat := rotN e 6 ^^^ rotN e 11 ^^^ rotN e 25
def bigA (a : Nat) : Nat := rotN a 2 ^^^ rotN a 13 ^^^ rotN a 22
def small0 (x : Nat) : Nat := rotN x 7 ^^^ rotN x 18 ^^^ x / 8
def small1 (x : Nat) : Nat := rotN x 17 ^^^ rotN x 19 ^^^ x / 1024
def chN (e f g : Nat) : Nat := (e &&& f) ||| ((4294967295 - e) &&& g)
def majN (a b c : Nat) : Nat := (a &&& b) ||| (a &&& c) ||| (b &&& c)

structure St where
  a : Nat
  b : Nat
  c : Nat
  d : Nat
  e : Nat
  f : Nat
  g : Nat
  h : Nat

def xN (e f g h k w : Nat) : Nat := ((((h + bigE e) % 4294967296 + chN e f g) % 4294967296 + k) % 4294967296 + w) % 4294967296
def yN (a b c : Nat) : Nat := (bigA a + majN a b c) % 4294967296
/-- One round. -/
def turnSt (s : St) (k w : Nat) : St :=
  match s with
  | ⟨a, b, c, d, e, f, g, h⟩ => force (xN e f g h k w) fun x => force ((x + yN a b c) % 4294967296) fun a' => force ((d + x) % 4294967296) fun e' => ⟨a', a, b, c, e', e, f, g⟩
theorem turnSt_eq (a b c d e f g h k w : Nat) : turnSt ⟨a, b, c, d, e, f, g, h⟩ k w = ⟨(xN e f g h k w + yN a b c) % 4294967296, a, b, c, (d + xN e f g h k w) % 4294967296, e, f, g⟩ := by
  simp only [turnSt, force_eq]

/-- The round constants. -/
def kk : List Nat := [1116352408, 1899447441, 3049323471, 3921009573, 961987163, 1508970993, 2453635748, 2870763221, 3624381080, 310598401, 607225278, 1426881987, 1925078388, 2162078206, 2614888103, 3248222580, 3835390401, 4022224774, 264347078, 604807628, 770255983, 1249150122, 1555081692, 1996064986, 2554220882, 2821834349, 2952996808, 3210313671, 3336571891, 3584528711, 113926993, 338241895, 666307205, 773529912, 1294757372, 1396182291, 1695183700, 1986661051, 2177026350, 2456956037, 2730485921, 2820302411, 3259730800, 3345764771, 3516065817, 3600352804, 4094571909, 275423344, 430227734, 506948616, 659060556, 883997877, 958139571, 1322822218, 1537002063, 1747873779, 1955562222, 2024104815, 2227730452, 2361852424, 2428436474, 2756734187, 3204031479, 3329325298]
theorem kk_length : kk.length = 64 := rfl
theorem kk_lt : ∀ x ∈ kk, x < 4294967296 := by decide +kernel

def rnds (ws : List Nat) (n : Nat) (s : St) : St := ((kk.zip ws).take n).foldl (fun s p => turnSt s p.1 p.2) s
theorem rnds_zero (ws : List Nat) (s : St) : rnds ws 0 s = s := rfl
theorem fold_zip (f : St → Nat → Nat → St) (ks ws : List Nat) (n : Nat) (h1 : n < ks.length) (h2 : n < ws.length) (s : St) :
    ((ks.zip ws).take (n + 1)).foldl (fun s p => f s p.1 p.2) s = f (((ks.zip ws).take n).foldl (fun s p => f s p.1 p.2) s) (ks[n]'h1) (ws[n]'h2) := by
  have hl : n < (ks.zip ws).length := by rw [List.length_zip]; omega
  rw [List.take_succ_eq_append_getElem hl, List.foldl_append, List.getElem_zip]
  simp only [List.foldl_cons, List.foldl_nil]
theorem rnds_succ (ws : List Nat) (hw : ws.length = 64) (n : Nat) (hn : n < 64) (s : St) : rnds ws (n + 1) s = turnSt (rnds ws n s) (kk[n]'(by rw [kk_length]; exact hn)) (ws[n]'(by omega)) :=
  fold_zip turnSt kk ws n (by rw [kk_length]; exact hn) (by omega) s

/-- The bytes of a word, some of them. -/
def wordN (bs : List UInt8) (j c : Nat) : Nat := ((bs.drop (4 * j)).take c).foldl (fun a b => a * 256 + b.toNat) 0
theorem wordN_zero (bs : List UInt8) (j : Nat) : wordN bs j 0 = 0 := by simp [wordN]
theorem wordN_succ (bs : List UInt8) (j c : Nat) (h : 4 * j + c < bs.length) : wordN bs j (c + 1) = wordN bs j c * 256 + (bs[4 * j + c]'h).toNat := by
  have hl : c < (bs.drop (4 * j)).length := by rw [List.length_drop]; omega
  rw [wordN, List.take_succ_eq_append_getElem hl, List.foldl_append, List.getElem_drop]
  rfl
theorem foldl_lt : ∀ (bs : List UInt8) (a : Nat), bs.foldl (fun a b => a * 256 + b.toNat) a < (a + 1) * 256 ^ bs.length
  | [], a => by simp
  | b :: bs, a => by
    have h := foldl_lt bs (a * 256 + b.toNat)
    have hb := b.toNat_lt
    rw [List.foldl_cons, List.length_cons, Nat.pow_succ, ← Nat.mul_assoc, Nat.mul_right_comm]
    exact Nat.lt_of_lt_of_le h (Nat.mul_le_mul_right _ (by omega))
theorem wordN_lt (bs : List UInt8) (j c : Nat) : wordN bs j c < 256 ^ c := by
  have h := foldl_lt ((bs.drop (4 * j)).take c) 0
  rw [Nat.zero_add, Nat.one_mul] at h
  exact Nat.lt_of_lt_of_le h (Nat.pow_le_pow_right (by decide) (by rw [List.length_take]; omega))

/-- The next word, of the words so far, the newest first. -/
def nextW (l : List Nat) : Nat := (((l.getD 15 0 + l.getD 6 0) % 4294967296 + small0 (l.getD 14 0)) % 4294967296 + small1 (l.getD 1 0)) % 4294967296
def extW : Nat → List Nat → List Nat
  | 0, l => l
  | m + 1, l => force (nextW l) fun x => extW m (x :: l)
theorem extW_succ : ∀ (m : Nat) (l : List Nat), extW (m + 1) l = nextW (extW m l) :: extW m l
  | 0, l => by simp [extW, force_eq]
  | m + 1, l => by
    rw [extW, force_eq, extW_succ m, extW, force_eq]
theorem extW_length (m : Nat) (l : List Nat) : (extW m l).length = l.length + m := by
  induction m with
  | zero => rfl
  | succ m ih => rw [extW_succ, List.length_cons, ih]; omega
def first16 (bs : List UInt8) : List Nat := (List.range 16).map fun j => wordN bs j 4
theorem first16_length (bs : List UInt8) : (first16 bs).length = 16 := by simp [first16]
/-- The words when there are 16 + m. -/
def schedM (bs : List UInt8) (m : Nat) : List Nat := (extW m (first16 bs).reverse).reverse
theorem schedM_length (bs : List UInt8) (m : Nat) : (schedM bs m).length = 16 + m := by rw [schedM, List.length_reverse, extW_length, List.length_reverse, first16_length]
theorem schedM_zero (bs : List UInt8) : schedM bs 0 = first16 bs := by simp [schedM, extW]
theorem getD_rev (l : List Nat) (i : Nat) (h : i < l.length) : l.getD i 0 = l.reverse[l.length - 1 - i]'(by rw [List.length_reverse]; omega) := by
  rw [List.getElem_reverse, List.getD_eq_getElem?_getD, List.getElem?_eq_getElem h, Option.getD_some]
  congr 1
  omega
theorem schedM_succ (bs : List UInt8) (m : Nat) : schedM bs (m + 1) = schedM bs m ++ [((((schedM bs m)[m]'(by rw [schedM_length]; omega) + (schedM bs m)[9 + m]'(by rw [schedM_length]; omega)) % 4294967296 + small0 ((schedM bs m)[1 + m]'(by rw [schedM_length]; omega))) % 4294967296 + small1 ((schedM bs m)[14 + m]'(by rw [schedM_length]; omega))) % 4294967296] := by
  have hl : (extW m (first16 bs).reverse).length = 16 + m := by rw [extW_length, List.length_reverse, first16_length]
  have e : ∀ (i k : Nat) (hi : i < 16) (hk : k + i = 15 + m), (extW m (first16 bs).reverse).getD i 0 = (schedM bs m)[k]'(by rw [schedM_length]; omega) := by
    intro i k hi hk
    rw [getD_rev _ i (by omega)]
    simp only [schedM]
    congr 1
    omega
  rw [schedM, extW_succ, List.reverse_cons, nextW, e 15 m (by omega) (by omega), e 6 (9 + m) (by omega) (by omega), e 14 (1 + m) (by omega) (by omega), e 1 (14 + m) (by omega) (by omega)]
  rfl
def sched (bs : List UInt8) : List Nat := schedM bs 48
theorem sched_length (bs : List UInt8) : (sched bs).length = 64 := schedM_length bs 48

theorem xor32 {a b : Nat} (ha : a < 4294967296) (hb : b < 4294967296) : a ^^^ b < 4294967296 := Nat.xor_lt_two_pow (n := 32) ha hb
theorem and32 {a b : Nat} (hb : b < 4294967296) : a &&& b < 4294967296 := Nat.and_lt_two_pow (n := 32) _ hb
theorem or32 {a b : Nat} (ha : a < 4294967296) (hb : b < 4294967296) : a ||| b < 4294967296 := Nat.or_lt_two_pow (n := 32) ha hb
theorem first16_lt (bs : List UInt8) : ∀ x ∈ first16 bs, x < 4294967296 := by
  intro x hx
  obtain ⟨j, _, rfl⟩ := List.mem_map.1 hx
  exact wordN_lt bs j 4
theorem schedM_lt (bs : List UInt8) (m : Nat) : ∀ x ∈ schedM bs m, x < 4294967296 := by
  induction m with
  | zero => rw [schedM_zero]; exact first16_lt bs
  | succ m ih =>
    intro x hx
    rw [schedM_succ, List.mem_append] at hx
    rcases hx with hx | hx
    · exact ih x hx
    · rw [List.mem_singleton] at hx
      rw [hx]
      exact Nat.mod_lt _ (by decide)

/-- Each number of a state has 32 bits. -/
structure St.ok (s : St) : Prop where
  a : s.a < 4294967296
  b : s.b < 4294967296
  c : s.c < 4294967296
  d : s.d < 4294967296
  e : s.e < 4294967296
  f : s.f < 4294967296
  g : s.g < 4294967296
  h : s.h < 4294967296
theorem turnSt_ok (s : St) (k w : Nat) (h : s.ok) : (turnSt s k w).ok := by
  obtain ⟨a, b, c, d, e, f, g, h8⟩ := s
  rw [turnSt_eq]
  exact ⟨Nat.mod_lt _ (by decide), h.a, h.b, h.c, Nat.mod_lt _ (by decide), h.e, h.f, h.g⟩
theorem rnds_ok (ws : List Nat) (hw : ws.length = 64) (s : St) (h : s.ok) : ∀ n, n ≤ 64 → (rnds ws n s).ok
  | 0, _ => h
  | n + 1, hn => by rw [rnds_succ ws hw n hn]; exact turnSt_ok _ _ _ (rnds_ok ws hw s h n (by omega))

def combSt (s t : St) : St := ⟨(s.a + t.a) % 4294967296, (s.b + t.b) % 4294967296, (s.c + t.c) % 4294967296, (s.d + t.d) % 4294967296, (s.e + t.e) % 4294967296, (s.f + t.f) % 4294967296, (s.g + t.g) % 4294967296, (s.h + t.h) % 4294967296⟩
def blockSt (s : St) (bs : List UInt8) : St := combSt s (rnds (sched bs) 64 s)
theorem combSt_ok (s t : St) : (combSt s t).ok := ⟨Nat.mod_lt _ (by decide), Nat.mod_lt _ (by decide), Nat.mod_lt _ (by decide), Nat.mod_lt _ (by decide), Nat.mod_lt _ (by decide), Nat.mod_lt _ (by decide), Nat.mod_lt _ (by decide), Nat.mod_lt _ (by decide)⟩
theorem blockSt_ok (s : St) (bs : List UInt8) : (blockSt s bs).ok := combSt_ok _ _
def beginSt : St := ⟨1779033703, 3144134277, 1013904242, 2773480762, 1359893119, 2600822924, 528734635, 1541459225⟩
theorem beginSt_ok : beginSt.ok := ⟨by decide, by decide, by decide, by decide, by decide, by decide, by decide, by decide⟩

/-- The state behind the first n blocks. -/
def absorb : Nat → List UInt8 → St
  | 0, _ => beginSt
  | n + 1, msg => blockSt (absorb n msg) ((msg.drop (64 * n)).take 64)
theorem absorb_ok (n : Nat) (msg : List UInt8) : (absorb n msg).ok := by
  cases n with
  | zero => exact beginSt_ok
  | succ n => exact blockSt_ok _ _
theorem absorb_append : ∀ (n : Nat) (msg more : List UInt8), 64 * n ≤ msg.length → absorb n (msg ++ more) = absorb n msg
  | 0, _, _, _ => rfl
  | n + 1, msg, more, h => by
    rw [absorb, absorb, absorb_append n msg more (by omega), List.drop_append_of_le_length (by omega), List.take_append_of_le_length (by rw [List.length_drop]; omega)]

/-- A number in 8 bytes, the greatest first. -/
def be8 (x : Nat) : List UInt8 := (List.range 8).map fun i => UInt8.ofNat (x / 256 ^ (7 - i) % 256)
theorem be8_length (x : Nat) : (be8 x).length = 8 := by simp [be8]
def zerosN (n : Nat) : Nat := (119 - n % 64) % 64
def fillN (n : Nat) : List UInt8 := 128 :: (List.replicate (zerosN n) 0 ++ be8 (n * 8 % 18446744073709551616))
theorem fillN_length (n : Nat) : (fillN n).length = zerosN n + 9 := by simp [fillN, be8_length]
theorem fill_whole (n : Nat) : (n + (fillN n).length) % 64 = 0 := by rw [fillN_length, zerosN]; omega
theorem fill_le (n : Nat) : (fillN n).length ≤ 72 := by rw [fillN_length, zerosN]; omega

/-- A number's four bytes. -/
def be4 (x : Nat) : List UInt8 := [UInt8.ofNat (x / 16777216 % 256), UInt8.ofNat (x / 65536 % 256), UInt8.ofNat (x / 256 % 256), UInt8.ofNat (x % 256)]
def St.list (s : St) : List Nat := [s.a, s.b, s.c, s.d, s.e, s.f, s.g, s.h]
theorem St.list_length (s : St) : s.list.length = 8 := rfl
theorem St.list_lt {s : St} (h : s.ok) (i : Nat) (hi : i < s.list.length) : s.list[i] < 4294967296 := by
  have hm : ∀ x ∈ s.list, x < 4294967296 := by
    intro x hx
    simp only [St.list, List.mem_cons, List.not_mem_nil, or_false] at hx
    rcases hx with rfl | rfl | rfl | rfl | rfl | rfl | rfl | rfl
    · exact h.a
    · exact h.b
    · exact h.c
    · exact h.d
    · exact h.e
    · exact h.f
    · exact h.g
    · exact h.h
  exact hm _ (List.getElem_mem hi)
def encSt (s : St) : List UInt8 := s.list.flatMap be4
theorem encSt_length (s : St) : (encSt s).length = 32 := rfl
theorem be4_get (x i : Nat) (h : i < 4) : (be4 x)[i]'h = UInt8.ofNat (x / 256 ^ (3 - i) % 256) := by
  match i, h with
  | 0, _ => rfl
  | 1, _ => rfl
  | 2, _ => rfl
  | 3, _ => simp [be4]
theorem encSt_get (s : St) (i : Nat) (h : i < 32) : (encSt s)[i]'(by rw [encSt_length]; exact h) = UInt8.ofNat ((s.list[i / 4]'(by rw [St.list_length]; omega)) / 256 ^ (3 - i % 4) % 256) := by
  rw [← be4_get _ (i % 4) (Nat.mod_lt _ (by decide))]
  have key : ∀ (l : List Nat) (i : Nat) (h : i < (l.flatMap be4).length) (h' : i / 4 < l.length), (l.flatMap be4)[i]'h = (be4 (l[i / 4]'h'))[i % 4]'(Nat.mod_lt _ (by decide)) := by
    intro l
    induction l with
    | nil => intro i h h'; simp at h'
    | cons x l ih =>
      intro i h h'
      by_cases hi : i < 4
      · have e0 : i / 4 = 0 := by omega
        have e1 : i % 4 = i := by omega
        simp only [List.flatMap_cons, e0, List.getElem_cons_zero, e1]
        rw [List.getElem_append_left (show i < (be4 x).length from hi)]
      · have e0 : i / 4 = (i - 4) / 4 + 1 := by omega
        have e1 : i % 4 = (i - 4) % 4 := by omega
        simp only [List.flatMap_cons, e0, List.getElem_cons_succ, e1]
        rw [List.getElem_append_right (show (be4 x).length ≤ i from (by show 4 ≤ i; omega))]
        exact ih (i - 4) _ _
  exact key s.list i (by rw [← encSt, encSt_length]; exact h) _

def padded (msg : List UInt8) : List UInt8 := msg ++ fillN msg.length
theorem padded_length (msg : List UInt8) : (padded msg).length = msg.length + (fillN msg.length).length := by simp [padded]
def hashN (msg : List UInt8) : List UInt8 := encSt (absorb ((padded msg).length / 64) (padded msg))
theorem hashN_length (msg : List UInt8) : (hashN msg).length = 32 := encSt_length _

theorem hash_none : hashN [] = [227, 176, 196, 66, 152, 252, 28, 20, 154, 251, 244, 200, 153, 111, 185, 36, 39, 174, 65, 228, 100, 155, 147, 76, 164, 149, 153, 27, 120, 82, 184, 85] := by decide +kernel
theorem hash_abc : hashN [97, 98, 99] = [186, 120, 22, 191, 143, 1, 207, 234, 65, 65, 64, 222, 93, 174, 34, 35, 176, 3, 97, 163, 150, 23, 122, 156, 180, 16, 255, 97, 242, 0, 21, 173] := by decide +kernel
end Go.Proofs.YtjlkcdmeiakkbaaGreatDoor
