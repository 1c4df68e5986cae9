/- An argument that is a list of ranges, opened. · An argument that is an instruction, or a program, opened over this program. · The kit's law for rows that ask something of the world, the world's shape told, too; over the list of prog's rows. · What the rows' listed variables give the walks of verify: a start that meets the list. -/
import Derived.Test.YtchcjinaagncjaaDoorGp2
import Derived.Deep.SlicePairs
import Derived.ProofKit
import Derived.SizedLaws
import Derived.Lib.RowBridge
import Derived.Test.YtchcjinaagncjaaDoorGp4
import Derived.Test.YtchcjinaagncjaaDoorGp28
import Derived.HandedShaped
import Derived.Handed
import Derived.Test.YtchcjinaagncjaaDoorGp21
namespace Go.Proofs.YtchcjinaagncjaaDoor
open Go.ChangeShapes Go.WideShapes Go.ChangeAt Go.RowKit
set_option linter.unusedVariables false
theorem laidOut : laidOutB Tryd.prog = true := by kernel_rfl
end Go.Proofs.YtchcjinaagncjaaDoor
namespace Go.Proofs.YtchcjinaagncjaaDoor
open Go.ChangeShapes Go.WideShapes Go.ChangeAt Go.RowKit
set_option linter.unusedVariables false
namespace Pgm
theorem pgTypes : PgTypes Tryd.prog 46 44 60 3 :=
  ⟨⟨_, _, _, Tryd.underlying46, ⟨rfl, rfl, rfl⟩, rfl, rfl, rfl⟩, Tryd.underlying44, ⟨_, _, _, _, _, Tryd.underlying60, ⟨rfl, rfl, rfl, rfl, rfl⟩, rfl, rfl, rfl, rfl, rfl⟩, Tryd.underlying3,
    ⟨by kernel_rfl, by kernel_rfl, by kernel_rfl, by kernel_rfl⟩, by kernel_rfl⟩
set_option maxRecDepth 100000 in
theorem open_prog {H : Type} {enc : TypeId × Value → H} {W : World} {base : Nat} {v : Value} {d : DataW H} {p : List MemPlace} (hv : Value.okWide Tryd.prog W .any base 46 v)
    (h : DataW.Trod enc Tryd.prog W 0 (fun _ => true) true 46 v d p) (hs : ∀ n ∈ d.weights Tryd.prog 46, n ≤ reachBytes) : ∃ (vs : Value) (l : List In) (st sl : Int), v = .agg #[vs, .int .i64 st, .int .i64 sl] ∧ InRow W vs l ∧ I64 st ∧ I64 sl := by
  obtain ⟨fuel, hf⟩ := h
  obtain ⟨cs, rfl, hsz⟩ := okWide_struct Tryd.underlying46 hv
  obtain ⟨vs, l, st, sl, hi, hr, h1, h2⟩ := open_prog_g pgTypes hf hs
  refine ⟨vs, l, st, sl, ?_, hr, h1, h2⟩
  have h2 : cs.toList = [vs, .int .i64 st, .int .i64 sl] := hi
  have h3 : cs = [vs, .int .i64 st, .int .i64 sl].toArray := by rw [← h2]
  rw [h3]
end Pgm
end Go.Proofs.YtchcjinaagncjaaDoor
namespace Go.Proofs.YtchcjinaagncjaaDoor
open Go.RowKit
set_option linter.unusedVariables false
namespace Pgm
section
variable {H : Type} {enc : TypeId × Value → H}
/-- The kit's law for rows that ask something of the world, the world's shape told, too. -/
theorem returnsInHanded_of_change_and_shaped {a : Assume} {C : Checked} {os : Os} {f : FuncId} {fn : Func} {s : ChangeSpec} {conds : List PathCond} {apart fresh handsOn again : Bool} {X : World → Array Value → Prop}
    (hX : ∀ (w w' : World) (args : Array Value), w.heap = w'.heap → X w args → X w' args)
    (own : ownKnob C.prog.godebug = none) (started : os.Started) (noInit : C.prog.inits.idxOf? f = none) (hfn : C.prog.funcs[f]? = some fn)
    (witness : ∃ (w : World) (tape : Tape) (i : Input), w.os = os ∧ (w.forCall tape i).Shaped C.prog ∧ i.vars = [] ∧ Input.okWide C.prog (w.forCall tape i) .any w.heap.size f i ∧
      ((s.pre enc C.prog fn conds apart (w.forCall tape i).memory i.args ∧ X (w.forCall tape i).memory i.args) ∧ sizedMet enc C.prog fn (OpenSpec.ofChange s) apart (w.forCall tape i).memory i.args) ∧ a.holds C.prog (lone (Frame.enter C.prog f i.args .normal) [] (w.forCall tape i)))
    (contract : ∀ (W : World) (base : Nat) (args : Array Value) (ds gs : List (DataW H)) (before : List MemPlace),
      (∀ (j : Nat) t v, fn.params[j]? = some t → args[j]? = some v → Value.okWide C.prog W .any base t v) →
      DataW.Whole enc C.prog fn.params.toList s.vars apart W args.toList ds gs before →
      conds.all (PathCond.test C.prog ⟨fn.params.toList, ds, s.plain.varTypes C.prog, gs⟩) = true →
      (DataW.weightsEach C.prog (fn.params.toList ++ s.plain.varTypes C.prog) (ds ++ gs)).all (· ≤ reachBytes) = true → X W args →
      W.ShapedOpen C.prog →
      a.holds C.prog (lone (Frame.enter C.prog f args .normal) [] W) →
      Calls C.prog f args W fun e W' => ∃ v, e = .returned v ∧ s.post enc C.prog fn apart fresh handsOn again W args v W') :
    ReturnsInHanded a C os f .any (fun w args => (s.pre enc C.prog fn conds apart w args ∧ X w args) ∧ sizedMet enc C.prog fn (OpenSpec.ofChange s) apart w args) (s.post enc C.prog fn apart fresh handsOn again) := by
  refine returnsInHanded_of_calls own started noInit witness ?_
  intro w tape i _ hsh _ hok hpre hholds
  obtain ⟨_, _, _, fn', hfn', _, _, _, _, hval⟩ := hok
  have e : fn' = fn := Option.some.inj (hfn'.symm.trans hfn)
  subst e
  obtain ⟨⟨⟨ds, gs, before, hw, hc⟩, hx⟩, hz⟩ := hpre
  have hw' := DataW.Whole.of_heap (w' := w.forCall tape i) (by rfl) hw
  refine (contract (w.forCall tape i) w.heap.size i.args ds gs before hval hw' hc (hz.weights hw) (hX _ _ _ (by rfl) hx) hsh hholds).mono fun e W' ⟨v, he, hp⟩ => ?_
  subst he
  exact ChangeSpec.post_blind hp
end
end Pgm
end Go.Proofs.YtchcjinaagncjaaDoor
namespace Go.Proofs.YtchcjinaagncjaaDoor
open Go.RowKit
set_option linter.unusedVariables false
namespace Pgm
theorem own16 : ownKnob Tryd.prog.godebug = none := by kernel_rfl
def laid16 : List (String × DataW Unit) := Rows.verifyBytesRow.laid
theorem door16 (os : Os) (args : Array Value) : laidMetH Tryd.prog laid16 ((World.doorLaid Tryd.prog 52 os).forCall (fun _ _ => 0) ⟨#[], args, []⟩).memory := by
  rw [MakeChecks.laidMetH_plain _ _ _ (by kernel_rfl)]
  exact laidMet_of_run' 65 (by kernel_rfl) (by kernel_rfl)
theorem laid_db16 : (Rows.laid_math_bits_deBruijn64tab : DataW Unit) = Lib.tabData .u8 (Lib.deBruijn64tab.map (fun n : Nat => (n : Int))) := by kernel_rfl
theorem ev16_of {W : World} (h : laidMetH Tryd.prog laid16 W) (hs : W.ShapedOpen Tryd.prog) : EvV W := by
  rw [MakeChecks.laidMetH_plain _ _ _ (by kernel_rfl)] at h
  have h1 : laidMet Tryd.prog [("math/bits.deBruijn64tab", Rows.laid_math_bits_deBruijn64tab), ("burin/prog.operations", Rows.laid_burin_prog_operations)] W := h
  have h2 : laidMet Tryd.prog [("burin/prog.operations", Rows.laid_burin_prog_operations)] W := h1.tail
  rw [laid_db16] at h1
  have t1 := Lib.tabIs_of_head (g := 2) (by kernel_rfl) (by kernel_rfl) (t := 170) (n := 64) Tryd.underlying170 Tryd.underlying5 (by kernel_rfl) (by kernel_rfl) h1
  have hc : ∀ j, j < Lib.deBruijn64tab.length → W.cell? ⟨2, j, none⟩ = some (.int .u8 (Lib.deBruijn64tab.getD j 0)) := fun j hj => by
    have h3 := t1.cell (g := 2) (by kernel_rfl) j (by simpa using hj)
    rw [h3]
    simp [List.getD, List.getElem?_eq_getElem hj]
  have h0 := hc 0 (by decide)
  refine ⟨evO_of h2, ?_, hc⟩
  rcases Nat.lt_or_ge 2 W.heap.size with h9 | h9
  · exact h9
  · simp [World.cell?, Array.getElem?_eq_none h9] at h0
end Pgm
end Go.Proofs.YtchcjinaagncjaaDoor
