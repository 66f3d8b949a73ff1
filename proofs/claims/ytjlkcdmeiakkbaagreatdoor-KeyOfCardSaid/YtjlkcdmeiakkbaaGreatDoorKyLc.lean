/- Stage 17: a key that came in; the names of the variables; from a walk to a claim. -/
import Derived.Test.YtjlkcdmeiakkbaaGreatDoorLi
import Derived.Test.YtjlkcdmeiakkbaaGreatDoorKyA
import Derived.LaidMore
import Derived.LaidOnce
import Derived.Stop.Joined
import Derived.Stop.LaidErr
import Derived.Lib.LaidTab
import Derived.Shelf.Vars
import Derived.Handed
set_option linter.unusedVariables false
set_option linter.unusedSimpArgs false
namespace Go.Proofs.YtjlkcdmeiakkbaaGreatDoor
open Go.ChangeShapes Go.WideShapes Go.ChangeAt Go.WideMaps Go.WideElems Go.RowKit


set_option maxRecDepth 100000 in
/-- A key that is handed in. -/
theorem key_of_ok {W : World} {base : Nat} {v : Value} (hv : Value.okWide Tryz.prog W .any base 30 v) : ∃ h k, v = .agg (keyC h k) ∧ h.length = 32 := by
  simp only [Value.okWide, Tryz.underlying30] at hv
  obtain ⟨cs, rfl, hsz, ts, hts, -, hc⟩ := hv
  have hs : cs.size = 33 := hsz.trans (by kernel_rfl)
  obtain rfl : ts = List.replicate 32 5 ++ [3] := Option.some.inj (hts.symm.trans (by kernel_rfl))
  have h8 : ∀ i (hi : i < 32), ∃ n : Nat, n < 256 ∧ cs[i]? = some (.int .u8 (n : Int)) := by
    intro i hi
    obtain ⟨u, hu, hk⟩ := hc i _ (Array.getElem?_eq_getElem (by omega))
    rw [show i % (List.replicate 32 (5 : TypeId) ++ [(3 : TypeId)]).length = i from Nat.mod_eq_of_lt (by simp; omega), List.getElem?_append_left (by simpa using hi), List.getElem?_replicate, if_pos hi] at hu
    obtain rfl := Option.some.inj hu
    rw [Array.getElem?_eq_getElem (by omega)]
    generalize cs[i]'(by omega) = c at hk
    unfold Cell.okWide Cell.ok at hk
    rw [Tryz.underlying5] at hk
    cases c <;> simp at hk
    case int k n =>
      obtain ⟨rfl, hn⟩ := hk
      simp [IntKind.has, IntKind.min, IntKind.max, IntKind.signed, IntKind.bits] at hn
      obtain ⟨m, rfl⟩ := Int.eq_ofNat_of_zero_le hn.1
      exact ⟨m, by omega, rfl⟩
  have h32 : ∃ k : Int, cs[32]? = some (.int .i64 k) := by
    obtain ⟨u, hu, hk⟩ := hc 32 _ (Array.getElem?_eq_getElem (by omega))
    obtain rfl : u = 3 := by simpa using hu.symm
    rw [Array.getElem?_eq_getElem (by omega)]
    generalize cs[32]'(by omega) = c at hk
    unfold Cell.okWide Cell.ok at hk
    rw [Tryz.underlying3] at hk
    cases c <;> simp at hk
    case int k n =>
      obtain ⟨rfl, hn⟩ := hk
      exact ⟨n, rfl⟩
  obtain ⟨k, hk⟩ := h32
  refine ⟨(List.range 32).map fun i => UInt8.ofNat (intOf (cs.getD i undef)).toNat, k, congrArg Value.agg ?_, by simp⟩
  apply Array.ext
  · simp [keyC, cellsB, hs]
  · intro i h1 h2
    apply Option.some.inj
    rw [← Array.getElem?_eq_getElem h1, ← Array.getElem?_eq_getElem h2]
    by_cases hi : i < 32
    · obtain ⟨n, hn, e⟩ := h8 i hi
      rw [e, keyC_H i (by simpa using hi)]
      have e2 : cs.getD i undef = .int .u8 (n : Int) := by
        rw [Array.getD_eq_getD_getElem?, e]; rfl
      simp only [List.getElem_map, List.getElem_range, e2, intOf]
      rw [show (((UInt8.ofNat ((n : Int).toNat)).toNat : Nat) : Int) = (n : Int) from by rw [UInt8.toNat_ofNat']; omega]
    · obtain rfl : i = 32 := by omega
      rw [hk, keyC_K (by simp)]

theorem gDigs : Tryz.prog.globalNamed "repertory/hex.digits" = some 0 := by kernel_rfl
theorem gSyn : Tryz.prog.globalNamed "strconv.ErrSyntax" = some 3 := by kernel_rfl
theorem gRng : Tryz.prog.globalNamed "strconv.ErrRange" = some 4 := by kernel_rfl
theorem star : "*" ++ "errors.errorString" = "*errors.errorString" := by decide
theorem rowErr (u : TypeId) (h : Tryz.prog.typeName? 3 u = some "*errors.errorString") : u = 184 :=
  typeName_ptr_named (nm := "errors.errorString") (by rw [star]; kernel_rfl) (by kernel_rfl) (by decide) u (by rw [star]; exact h)

/-- From the walk of a law to its claim, where the row lists variables and the walk wants the world's shape too. -/
theorem handed_k {H : Type} {enc : TypeId × Value → H} {C : Checked} {os : Os} {f : FuncId} {fn : Func} {s : ChangeSpec} {X : World → Array Value → Prop}
    (hX : ∀ (w w' : World) (args : Array Value), w.heap = w'.heap → X w args → X w' args)
    (hown : ownKnob C.prog.godebug = none) (started : os.Started) (noInit : C.prog.inits.idxOf? f = none) (hfn : C.prog.funcs[f]? = some fn)
    (witness : ∃ (w : World) (tape : Tape) (i : Input), w.os = os ∧ (w.forCall tape i).Shaped C.prog ∧ i.vars = [] ∧ Input.okWide C.prog (w.forCall tape i) .any w.heap.size f i ∧
      ((s.pre enc C.prog fn [] false (w.forCall tape i).memory i.args ∧ X (w.forCall tape i).memory i.args) ∧ sizedMet enc C.prog fn (OpenSpec.ofChange s) false (w.forCall tape i).memory i.args) ∧ ({} : Assume).holds C.prog (lone (Frame.enter C.prog f i.args .normal) [] (w.forCall tape i)))
    (walk : ∀ (W : World) (base : Nat) (args : Array Value) (ds gs : List (DataW H)) (before : List MemPlace),
      (∀ (j : Nat) t v, fn.params[j]? = some t → args[j]? = some v → Value.okWide C.prog W .any base t v) →
      DataW.Whole enc C.prog fn.params.toList s.vars false W args.toList ds gs before → X W args → W.ShapedOpen C.prog →
      Calls C.prog f args W fun e W' => ∃ v, e = .returned v ∧ s.post enc C.prog fn false true false false W args v W') :
    ReturnsInHanded {} C os f .any (fun w args => (s.pre enc C.prog fn [] false w args ∧ X w args) ∧ sizedMet enc C.prog fn (OpenSpec.ofChange s) false w args) (s.post enc C.prog fn false true false false) := by
  refine returnsInHanded_of_calls hown started noInit witness ?_
  intro w tape i _ hsh _ hok hpre _
  obtain ⟨_, _, _, fn', hfn', _, _, _, _, hval⟩ := hok
  obtain rfl : fn' = fn := Option.some.inj (hfn'.symm.trans hfn)
  obtain ⟨⟨⟨ds, gs, before, hw, -⟩, hx⟩, -⟩ := hpre
  refine (walk (w.forCall tape i) w.heap.size i.args ds gs before hval (DataW.Whole.of_heap (w' := w.forCall tape i) (by rfl) hw) (hX _ _ _ (by rfl) hx) hsh).mono fun e W' ⟨v, he, hp⟩ => ?_
  subst he
  exact ChangeSpec.post_blind hp
end Go.Proofs.YtjlkcdmeiakkbaaGreatDoor
