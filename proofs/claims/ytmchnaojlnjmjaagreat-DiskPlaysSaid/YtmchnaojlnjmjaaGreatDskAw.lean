/- The statements' awake (layer 11), whatever the program's methods are, so long as they do what ProgM says. -/
import Derived.Test.YtmchnaojlnjmjaaGreatDskDo
namespace Go.Proofs.YtmchnaojlnjmjaaGreat
open Go.RowKit Go.Maps

/-- Two disks of the program's, apart. -/
structure TwoPK (PK : World → Nat → Nat → DskD → List Nat → Prop) (w : World) (px pm : Nat) (d : DskD) (B : List Nat) (qx qm : Nat) (e : DskD) (E : List Nat) (wx : World) : Prop where
  pk : PK wx px pm d B
  pe : PK wx qx qm e E
  dis : ∀ j ∈ B, j ∉ E
  bw : ∀ j ∈ B, w.heap.size ≤ j
  ew : ∀ j ∈ E, w.heap.size ≤ j
  fr : Fr [] w wx
theorem TwoPK.same {PK : World → Nat → Nat → DskD → List Nat → Prop} (hP : ProgM PK) {w wx w' : World} {px pm qx qm : Nat} {d e : DskD} {B E : List Nat} (h : TwoPK PK w px pm d B qx qm e E wx) (hf : Fr [] wx w') : TwoPK PK w px pm d B qx qm e E w' :=
  ⟨hP.kept h.pk hf (by simp), hP.kept h.pe hf (by simp), h.dis, h.bw, h.ew, h.fr.trans hf (by simp) (by simp)⟩
theorem TwoPK.swap {PK : World → Nat → Nat → DskD → List Nat → Prop} {w wx : World} {px pm qx qm : Nat} {d e : DskD} {B E : List Nat} (h : TwoPK PK w px pm d B qx qm e E wx) : TwoPK PK w qx qm e E px pm d B wx :=
  ⟨h.pe, h.pk, fun j hj hm => h.dis j hm hj, h.ew, h.bw, h.fr⟩
theorem TwoPK.step {PK : World → Nat → Nat → DskD → List Nat → Prop} (hP : ProgM PK) {w wx w' : World} {px pm qx qm : Nat} {d d' e : DskD} {B B' E : List Nat} (h : TwoPK PK w px pm d B qx qm e E wx) (hp : PK w' px pm d' B') (hf : Fr B wx w') (hB : ∀ j ∈ B', j ∈ B ∨ wx.heap.size ≤ j) : TwoPK PK w px pm d' B' qx qm e E w' :=
  ⟨hp, hP.kept h.pe hf (fun j hj hm => h.dis j hm hj), fun j hj hm => (hB j hj).elim (fun q => h.dis j q hm) (fun q => by have := hP.lt h.pe j hm; omega), fun j hj => (hB j hj).elim (h.bw j) (fun q => by have := h.fr.size; omega), h.ew, h.fr.new hf h.bw⟩
/-- Bytes that the code writes out. -/
theorem bytes_new (w : World) (bs : List UInt8) (hb : bs.length ≤ 100) : bytesAt (w.alloc (.cells (bs.map fun c => Value.int .u8 (c.toNat : Int)).toArray 5)) (.slice (some ⟨w.heap.size, 0, none⟩) bs.length bs.length) bs := by
  have hh := heap_alloc_new w (.cells (bs.map fun c => Value.int .u8 (c.toNat : Int)).toArray 5)
  refine .inr ⟨w.heap.size, 0, bs.length, rfl, Nat.le_refl _, by simp [maxLen]; omega, fun i hi => ?_⟩
  rw [cell_of_heap hh]
  simp [hi]
def aw0 (room : Int) : DskD := ⟨[], [], [], [], room, 0, false, []⟩
theorem aw_ok (room : Int) : AllOk (aw0 room) 0 :=
  ⟨⟨by simp [aw0, sortedL], by simp [aw0, sortedL], by simp [aw0], by simp [aw0], by simp [aw0], by simp [aw0], by simp [aw0], by simp [aw0], by simp [aw0], by simp [aw0], by simp [aw0], by simp [aw0], by simp [aw0]⟩, by simp [aw0, kindsOk], by simp [aw0, okNames], by simp [aw0, okNames], by simp [aw0, okOps], by simp [aw0]⟩
theorem aw_right (room : Int) : RightOk (aw0 room) := ⟨by simp [aw0], by simp [aw0], by simp [aw0], by simp [aw0]⟩
def aw1 : DskD := (createK (aw0 100) [97]).1
def aw2 : DskD := (appendK aw1 [97] [120, 121]).1
def aw3 : DskD := (syncK aw2 [97]).1
def aw4 : DskD := (createK aw3 [98]).1
def aw5 : DskD := upK aw4 [true, true] [] []
def ae1 : DskD := (createK (aw0 3) [97]).1
theorem aw_read : readK aw5 [97] = ([120, 121], 0) := by decide +kernel
theorem aw_down : aw5.down = false := by decide +kernel
theorem aw_names : aw5.dn.length = 2 := by decide +kernel
theorem aw_full : (appendK ae1 [97] [102, 111, 117, 114]).2 = 9 := by decide +kernel
theorem aw1_ok : AllOk aw1 1 := (aw_ok 100).create _ (by simp [maxLen])
theorem aw2_ok : AllOk aw2 2 := aw1_ok.append _ _ (by simp)
theorem aw3_ok : AllOk aw3 3 := aw2_ok.sync _
theorem aw4_ok : AllOk aw4 4 := aw3_ok.create _ (by simp [maxLen])
theorem aw5_ok : AllOk aw5 5 := aw4_ok.up _ _ _
theorem ae1_ok : AllOk ae1 1 := (aw_ok 3).create _ (by simp [maxLen])
theorem aw1_right : RightOk aw1 := (aw_right 100).create (aw_ok 100) _
theorem aw2_right : RightOk aw2 := aw1_right.append _ _
theorem aw3_right : RightOk aw3 := aw2_right.sync _
theorem aw4_right : RightOk aw4 := aw3_right.create aw3_ok _
theorem aw5_right : RightOk aw5 := aw4_right.up aw4_ok _ _ _
theorem ae1_right : RightOk ae1 := (aw_right 3).create (aw_ok 3) _
end Go.Proofs.YtmchnaojlnjmjaaGreat
