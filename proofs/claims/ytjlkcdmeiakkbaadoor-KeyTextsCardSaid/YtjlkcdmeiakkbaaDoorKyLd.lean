/- Stage 17: the variables, out of the row's condition; a start that meets the condition; a key that came in. -/
import Derived.Test.YtjlkcdmeiakkbaaDoorLift
import Derived.Test.YtjlkcdmeiakkbaaDoorKyA
import Derived.LaidMore
import Derived.LaidOnce
import Derived.Stop.Joined
import Derived.Stop.LaidErr
import Derived.Lib.LaidTab
import Derived.Shelf.Vars
import Derived.Handed
set_option linter.unusedVariables false
set_option linter.unusedSimpArgs false
namespace Go.Proofs.YtjlkcdmeiakkbaaDoor
open Go.ChangeShapes Go.WideShapes Go.ChangeAt Go.WideMaps Go.WideElems Go.RowKit

/-- A key that is handed in. -/
theorem key_of_ok {W : World} {base : Nat} {v : Value} (hv : Value.okWide Tryd.prog W .any base 24 v) : ∃ h k, v = .agg (keyC h k) ∧ h.length = 32 := by
  simp only [Value.okWide, Tryd.underlying24] at hv
  obtain ⟨cs, rfl, hsz, ts, hts, -, hc⟩ := hv
  have hs : cs.size = 33 := hsz.trans (by kernel_rfl)
  obtain rfl : ts = List.replicate 32 5 ++ [3] := Option.some.inj (hts.symm.trans (by kernel_rfl))
  have h8 : ∀ i (hi : i < 32), ∃ n : Nat, n < 256 ∧ cs[i]? = some (.int .u8 (n : Int)) := by
    intro i hi
    obtain ⟨u, hu, hk⟩ := hc i _ (Array.getElem?_eq_getElem (by omega))
    rw [show i % (List.replicate 32 (5 : TypeId) ++ [(3 : TypeId)]).length = i from Nat.mod_eq_of_lt (by simp; omega), List.getElem?_append_left (by simpa using hi), List.getElem?_replicate, if_pos hi] at hu
    obtain rfl := Option.some.inj hu
    rw [Array.getElem?_eq_getElem (by omega)]
    generalize cs[i]'(by omega) = c at hk
    unfold Cell.okWide Cell.ok at hk
    rw [Tryd.underlying5] at hk
    cases c <;> simp at hk
    case int k n =>
      obtain ⟨rfl, hn⟩ := hk
      simp [IntKind.has, IntKind.min, IntKind.max, IntKind.signed, IntKind.bits] at hn
      obtain ⟨m, rfl⟩ := Int.eq_ofNat_of_zero_le hn.1
      exact ⟨m, by omega, rfl⟩
  have h32 : ∃ k : Int, cs[32]? = some (.int .i64 k) := by
    obtain ⟨u, hu, hk⟩ := hc 32 _ (Array.getElem?_eq_getElem (by omega))
    obtain rfl : u = 3 := by simpa using hu.symm
    rw [Array.getElem?_eq_getElem (by omega)]
    generalize cs[32]'(by omega) = c at hk
    unfold Cell.okWide Cell.ok at hk
    rw [Tryd.underlying3] at hk
    cases c <;> simp at hk
    case int k n =>
      obtain ⟨rfl, hn⟩ := hk
      exact ⟨n, rfl⟩
  obtain ⟨k, hk⟩ := h32
  refine ⟨(List.range 32).map fun i => UInt8.ofNat (intOf (cs.getD i undef)).toNat, k, congrArg Value.agg ?_, by simp⟩
  apply Array.ext
  · simp [keyC, cellsB, hs]
  · intro i h1 h2
    apply Option.some.inj
    rw [← Array.getElem?_eq_getElem h1, ← Array.getElem?_eq_getElem h2]
    by_cases hi : i < 32
    · obtain ⟨n, hn, e⟩ := h8 i hi
      rw [e, keyC_H i (by simpa using hi)]
      have e2 : cs.getD i undef = .int .u8 (n : Int) := by
        rw [Array.getD_eq_getD_getElem?, e]; rfl
      simp only [List.getElem_map, List.getElem_range, e2, intOf]
      rw [show (((UInt8.ofNat ((n : Int).toNat)).toNat : Nat) : Int) = (n : Int) from by rw [UInt8.toNat_ofNat']; omega]
    · obtain rfl : i = 32 := by omega
      rw [hk, keyC_K (by simp)]

/-- What the rows of this seat say of the variables. -/
def laidL {H : Type} : List (String × DataW H) := [("math/bits.deBruijn32tab", Rows.laid_math_bits_deBruijn32tab), ("math/bits.deBruijn64tab", Rows.laid_math_bits_deBruijn64tab), ("internal/strconv.uint64pow10", Rows.laid_internal_strconv_uint64pow10), ("repertory/hex.digits", Rows.laid_repertory_hex_digits), ("strconv.ErrRange", Rows.laid_strconv_ErrRange), ("strconv.ErrSyntax", Rows.laid_strconv_ErrSyntax)]
theorem door_met (os : Os) (args : Array Value) : laidMetH Tryd.prog laidL ((World.doorLaid Tryd.prog 400 os).forCall (fun _ _ => 0) ⟨#[], args, []⟩).memory :=
  laidMetH_of_parts3 (fuel := 8) (laidMet_of_run' 8 (by kernel_rfl) (by kernel_rfl)) (by kernel_rfl) (by kernel_rfl)

theorem gDigs : Tryd.prog.globalNamed "repertory/hex.digits" = some 0 := by kernel_rfl
theorem gSyn : Tryd.prog.globalNamed "strconv.ErrSyntax" = some 3 := by kernel_rfl
theorem gRng : Tryd.prog.globalNamed "strconv.ErrRange" = some 4 := by kernel_rfl
theorem star : "*" ++ "errors.errorString" = "*errors.errorString" := by decide
theorem rowErr (u : TypeId) (h : Tryd.prog.typeName? 3 u = some "*errors.errorString") : u = 90 :=
  typeName_ptr_named (nm := "errors.errorString") (by rw [star]; kernel_rfl) (by kernel_rfl) (by decide) u (by rw [star]; exact h)

theorem vars_of_laid {W : World} (h : laidMetH Tryd.prog laidL W) (hs : W.ShapedOpen Tryd.prog) : VarsAt W := by
  rw [MakeChecks.laidMetH_plain _ _ _ (by kernel_rfl)] at h
  have t2 := h.tail.tail
  have hp : Lib.TabIs Tryd.prog W "internal/strconv.uint64pow10" .u64 Lib.pow10Tab :=
    Lib.tabIs_of_head (n := 20) gPow (by kernel_rfl) Tryd.underlying74 Tryd.underlying60 (by kernel_rfl) (by kernel_rfl) t2
  have hd : Lib.TabIs Tryd.prog W "repertory/hex.digits" .u8 (dk.map fun c => (c.toNat : Int)) :=
    Lib.tabIs_of_head (n := 16) gDigs (by kernel_rfl) Tryd.underlying48 Tryd.underlying5 (by kernel_rfl) (by kernel_rfl) t2.tail
  obtain ⟨a0, s0, hv0, -, -, -⟩ := laid_sentinel t2.tail.tail gRng (by kernel_rfl) Tryd.underlying54 rowErr Tryd.underlying90 Tryd.underlying92 rfl rfl Tryd.underlying9 (by kernel_rfl) (by kernel_rfl)
  obtain ⟨a1, s1, hv1, -, -, -⟩ := laid_sentinel t2.tail.tail.tail gSyn (by kernel_rfl) Tryd.underlying54 rowErr Tryd.underlying90 Tryd.underlying92 rfl rfl Tryd.underlying9 (by kernel_rfl) (by kernel_rfl)
  refine ⟨?_, hp, ?_, ⟨_, _, by have h0 := World.var?_cell gSyn hv1 0; simpa using h0⟩, ⟨_, _, by have h0 := World.var?_cell gRng hv0 0; simpa using h0⟩⟩
  · intro i hi
    have hc := Lib.TabIs.cell hd gDigs i (by simpa using hi)
    rw [hc]
    simp [List.getD, hi]
  · exact cell_of_shapedOpen_int (zero := #[.int .i64 0]) hs (of_decide_eq_true (by kernel_rfl)) (by kernel_rfl) (by kernel_rfl) (by kernel_rfl) (by kernel_rfl) Tryd.underlying3

/-- From the walk of a law to its claim, where the row lists variables and the walk wants the world's shape too. -/
theorem handed_k {H : Type} {enc : TypeId × Value → H} {C : Checked} {os : Os} {f : FuncId} {fn : Func} {s : ChangeSpec} {X : World → Array Value → Prop}
    (hX : ∀ (w w' : World) (args : Array Value), w.heap = w'.heap → X w args → X w' args)
    (hown : ownKnob C.prog.godebug = none) (started : os.Started) (noInit : C.prog.inits.idxOf? f = none) (hfn : C.prog.funcs[f]? = some fn)
    (witness : ∃ (w : World) (tape : Tape) (i : Input), w.os = os ∧ (w.forCall tape i).Shaped C.prog ∧ i.vars = [] ∧ Input.okWide C.prog (w.forCall tape i) .any w.heap.size f i ∧
      ((s.pre enc C.prog fn [] false (w.forCall tape i).memory i.args ∧ X (w.forCall tape i).memory i.args) ∧ sizedMet enc C.prog fn (OpenSpec.ofChange s) false (w.forCall tape i).memory i.args) ∧ ({} : Assume).holds C.prog (lone (Frame.enter C.prog f i.args .normal) [] (w.forCall tape i)))
    (walk : ∀ (W : World) (base : Nat) (args : Array Value) (ds gs : List (DataW H)) (before : List MemPlace),
      (∀ (j : Nat) t v, fn.params[j]? = some t → args[j]? = some v → Value.okWide C.prog W .any base t v) →
      DataW.Whole enc C.prog fn.params.toList s.vars false W args.toList ds gs before → X W args → W.ShapedOpen C.prog →
      Calls C.prog f args W fun e W' => ∃ v, e = .returned v ∧ s.post enc C.prog fn false true false false W args v W') :
    ReturnsInHanded {} C os f .any (fun w args => (s.pre enc C.prog fn [] false w args ∧ X w args) ∧ sizedMet enc C.prog fn (OpenSpec.ofChange s) false w args) (s.post enc C.prog fn false true false false) := by
  refine returnsInHanded_of_calls hown started noInit witness ?_
  intro w tape i _ hsh _ hok hpre _
  obtain ⟨_, _, _, fn', hfn', _, _, _, _, hval⟩ := hok
  obtain rfl : fn' = fn := Option.some.inj (hfn'.symm.trans hfn)
  obtain ⟨⟨⟨ds, gs, before, hw, -⟩, hx⟩, -⟩ := hpre
  refine (walk (w.forCall tape i) w.heap.size i.args ds gs before hval (DataW.Whole.of_heap (w' := w.forCall tape i) (by rfl) hw) (hX _ _ _ (by rfl) hx) hsh).mono fun e W' ⟨v, he, hp⟩ => ?_
  subst he
  exact ChangeSpec.post_blind hp
end Go.Proofs.YtjlkcdmeiakkbaaDoor
