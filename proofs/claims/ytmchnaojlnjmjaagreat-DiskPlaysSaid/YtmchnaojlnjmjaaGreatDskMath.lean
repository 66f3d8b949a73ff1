/- Plain mathematics of disks (layer 11). Nothing here names the program. -/
import Derived.Test.YtmchnaojlnjmjaaGreatDirMath
import Derived.Test.YtmchnaojlnjmjaaGreatIn
import Derived.Test.YtmchnaojlnjmjaaGreatFt
namespace Go.Proofs.YtmchnaojlnjmjaaGreat

structure FileD where
  now : List UInt8
  safe : List UInt8
/-- A disk, told plainly. -/
structure DskD where
  dn : List Ent
  ds : List Ent
  ops : List OpD
  files : List FileD
  room : Int
  steps : Int
  down : Bool
  armed : List FltD
def f0D : FileD := ⟨[], []⟩
/-- What a step comes to: 0, or an error's number. -/
def codeK (d : DskD) : Int := if d.down then 11 else codeF 11 (hitF d.armed (d.steps + 1))
def stepK (d : DskD) : DskD := { d with steps := if d.down then d.steps else d.steps + 1, down := decide (codeK d = 11) }
def okByte (c : UInt8) : Bool := (decide (97 ≤ c.toNat) && decide (c.toNat ≤ 122)) || (decide (48 ≤ c.toNat) && decide (c.toNat ≤ 57)) || decide (c.toNat = 45) || decide (c.toNat = 46)
/-- May this be a file's name? -/
def rightB (m : List UInt8) : Bool := decide (1 ≤ m.length ∧ m.length ≤ 80) && m.all okByte
/-- The file of a number. -/
def fileK (d : DskD) (n : Int) : FileD := d.files.getD n.toNat f0D
def usedK (d : DskD) : Nat := (d.dn.map fun e => (fileK d e.2).now.length).sum
def putK (d : DskD) (n : Int) (f : FileD) : DskD := { d with files := d.files.set n.toNat f }
def createK (d : DskD) (m : List UInt8) : DskD × Int :=
  if codeK d ≠ 0 then (stepK d, codeK d) else if rightB m = false then (stepK d, 1) else if (lookL d.dn m).isSome then (stepK d, 8) else if 256 ≤ d.dn.length then (stepK d, 9)
  else ({ stepK d with dn := applyL d.dn ⟨0, m, [], d.files.length⟩, ops := d.ops ++ [⟨0, m, [], d.files.length⟩], files := d.files ++ [f0D] }, 0)
def appendK (d : DskD) (m b : List UInt8) : DskD × Int :=
  if codeK d ≠ 0 then (stepK d, codeK d) else match lookL d.dn m with
  | none => (stepK d, 7)
  | some n => if 1048576 < (fileK d n).now.length + b.length then (stepK d, 5) else if d.room < ((usedK d + b.length : Nat) : Int) then (stepK d, 9)
    else (putK (stepK d) n ⟨(fileK d n).now ++ b, (fileK d n).safe⟩, 0)
def syncK (d : DskD) (m : List UInt8) : DskD × Int :=
  if codeK d ≠ 0 then (stepK d, codeK d) else match lookL d.dn m with
  | none => (stepK d, 7)
  | some n => (putK (stepK d) n ⟨(fileK d n).now, (fileK d n).now⟩, 0)
def syncDirK (d : DskD) : DskD × Int := if codeK d ≠ 0 then (stepK d, codeK d) else ({ stepK d with ds := d.dn, ops := [] }, 0)
def moveK (d : DskD) (a b : List UInt8) : DskD × Int :=
  if codeK d ≠ 0 then (stepK d, codeK d) else if rightB b = false then (stepK d, 1) else if (lookL d.dn a).isSome = false then (stepK d, 7)
  else if a = b then (stepK d, 0) else ({ stepK d with dn := applyL d.dn ⟨2, a, b, 0⟩, ops := d.ops ++ [⟨2, a, b, 0⟩] }, 0)
def dropK (d : DskD) (m : List UInt8) : DskD × Int :=
  if codeK d ≠ 0 then (stepK d, codeK d) else if (lookL d.dn m).isSome = false then (stepK d, 7)
  else ({ stepK d with dn := applyL d.dn ⟨1, m, [], 0⟩, ops := d.ops ++ [⟨1, m, [], 0⟩] }, 0)
def armK (d : DskD) (a k : Int) : DskD := if 1 ≤ a ∧ a ≤ 1099511627776 ∧ 1 ≤ k ∧ k ≤ 3 then { d with armed := d.armed ++ [⟨d.steps + a, k⟩] } else d
/-- Up's loop: the files in the names' order, each with its size and its cuts. -/
def upL (sizes : List Int) : List Ent → Nat → List FileD → List Int → List FileD
  | [], _, fs, _ => fs
  | e :: r, i, fs, cuts =>
    let f := fs.getD e.2.toNat f0D
    let left := crashC f.now f.safe.length (sizes.getD i 0) cuts
    upL sizes r (i + 1) (fs.set e.2.toNat ⟨left, left⟩) (cuts.drop (min (secsC left.length f.safe.length) cuts.length))
def upK (d : DskD) (ks : List Bool) (sizes cuts : List Int) : DskD :=
  { d with dn := crashL d.ds d.ops ks, ds := crashL d.ds d.ops ks, ops := [], files := upL sizes (crashL d.ds d.ops ks) 0 d.files cuts, down := false, armed := [] }
def flipK (d : DskD) (m : List UInt8) (bit : Int) : DskD × Bool :=
  match lookL d.dn m with
  | none => (d, false)
  | some n => if bit < 0 ∨ 8 * ((fileK d n).now.length : Int) ≤ bit then (d, false)
    else (putK d n ⟨flipC (fileK d n).now bit, (flipC (fileK d n).now bit).take (fileK d n).safe.length⟩, true)

/-- What holds of every disk that is reached. -/
structure OkK (d : DskD) (k : Nat) : Prop where
  sn : sortedL d.dn
  ss : sortedL d.ds
  nums : ∀ e ∈ d.dn, 0 ≤ e.2 ∧ e.2.toNat < d.files.length
  snums : ∀ e ∈ d.ds, 0 ≤ e.2 ∧ e.2.toNat < d.files.length
  onums : ∀ o ∈ d.ops, o.kind = 0 → 0 ≤ o.n ∧ o.n.toNat < d.files.length
  pre : ∀ f ∈ d.files, f.safe = f.now.take f.safe.length
  fl : d.files.length ≤ k
  nl : d.dn.length ≤ k
  sl : d.ds.length + d.ops.length ≤ k
  ol : d.ops.length ≤ k
  st0 : 0 ≤ d.steps
  st : d.steps ≤ k
  len : ∀ f ∈ d.files, f.now.length ≤ 1000 * k
end Go.Proofs.YtmchnaojlnjmjaaGreat
