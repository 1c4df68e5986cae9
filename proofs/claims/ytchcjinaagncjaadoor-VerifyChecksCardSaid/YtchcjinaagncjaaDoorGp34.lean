/- An argument that is an instruction, or a program, opened over this program. · The kit's law for rows that ask something of the world, the world's shape told, too; over the list of prog's rows. · What the rows' listed variables give the walks of verify: a start that meets the list. · The closed facts of a row, part by part. -/
import Derived.Test.YtchcjinaagncjaaDoorGp3
import Derived.Test.YtchcjinaagncjaaDoorGp33
import Derived.HandedShaped
import Derived.Handed
import Derived.Test.YtchcjinaagncjaaDoorGp18
import Derived.JoinedOf
import Derived.KernelRfl
namespace Go.Proofs.YtchcjinaagncjaaDoor
open Go.ChangeShapes Go.WideShapes Go.ChangeAt Go.RowKit
set_option linter.unusedVariables false
namespace Pgm
theorem pgTypes : PgTypes Tryd.prog 46 44 60 3 :=
  ⟨⟨_, _, _, Tryd.underlying46, ⟨rfl, rfl, rfl⟩, rfl, rfl, rfl⟩, Tryd.underlying44, ⟨_, _, _, _, _, Tryd.underlying60, ⟨rfl, rfl, rfl, rfl, rfl⟩, rfl, rfl, rfl, rfl, rfl⟩, Tryd.underlying3,
    ⟨by kernel_rfl, by kernel_rfl, by kernel_rfl, by kernel_rfl⟩, by kernel_rfl⟩
set_option maxRecDepth 100000 in
theorem open_prog {H : Type} {enc : TypeId × Value → H} {W : World} {base : Nat} {v : Value} {d : DataW H} {p : List MemPlace} (hv : Value.okWide Tryd.prog W .any base 46 v)
    (h : DataW.Trod enc Tryd.prog W 0 (fun _ => true) true 46 v d p) (hs : ∀ n ∈ d.weights Tryd.prog 46, n ≤ reachBytes) : ∃ (vs : Value) (l : List In) (st sl : Int), v = .agg #[vs, .int .i64 st, .int .i64 sl] ∧ InRow W vs l ∧ I64 st ∧ I64 sl := by
  obtain ⟨fuel, hf⟩ := h
  obtain ⟨cs, rfl, hsz⟩ := okWide_struct Tryd.underlying46 hv
  obtain ⟨vs, l, st, sl, hi, hr, h1, h2⟩ := open_prog_g pgTypes hf hs
  refine ⟨vs, l, st, sl, ?_, hr, h1, h2⟩
  have h2 : cs.toList = [vs, .int .i64 st, .int .i64 sl] := hi
  have h3 : cs = [vs, .int .i64 st, .int .i64 sl].toArray := by rw [← h2]
  rw [h3]
end Pgm
end Go.Proofs.YtchcjinaagncjaaDoor
namespace Go.Proofs.YtchcjinaagncjaaDoor
open Go.RowKit
set_option linter.unusedVariables false
namespace Pgm
section
variable {H : Type} {enc : TypeId × Value → H}
/-- The kit's law for rows that ask something of the world, the world's shape told, too. -/
theorem returnsInHanded_of_change_and_shaped {a : Assume} {C : Checked} {os : Os} {f : FuncId} {fn : Func} {s : ChangeSpec} {conds : List PathCond} {apart fresh handsOn again : Bool} {X : World → Array Value → Prop}
    (hX : ∀ (w w' : World) (args : Array Value), w.heap = w'.heap → X w args → X w' args)
    (own : ownKnob C.prog.godebug = none) (started : os.Started) (noInit : C.prog.inits.idxOf? f = none) (hfn : C.prog.funcs[f]? = some fn)
    (witness : ∃ (w : World) (tape : Tape) (i : Input), w.os = os ∧ (w.forCall tape i).Shaped C.prog ∧ i.vars = [] ∧ Input.okWide C.prog (w.forCall tape i) .any w.heap.size f i ∧
      ((s.pre enc C.prog fn conds apart (w.forCall tape i).memory i.args ∧ X (w.forCall tape i).memory i.args) ∧ sizedMet enc C.prog fn (OpenSpec.ofChange s) apart (w.forCall tape i).memory i.args) ∧ a.holds C.prog (lone (Frame.enter C.prog f i.args .normal) [] (w.forCall tape i)))
    (contract : ∀ (W : World) (base : Nat) (args : Array Value) (ds gs : List (DataW H)) (before : List MemPlace),
      (∀ (j : Nat) t v, fn.params[j]? = some t → args[j]? = some v → Value.okWide C.prog W .any base t v) →
      DataW.Whole enc C.prog fn.params.toList s.vars apart W args.toList ds gs before →
      conds.all (PathCond.test C.prog ⟨fn.params.toList, ds, s.plain.varTypes C.prog, gs⟩) = true →
      (DataW.weightsEach C.prog (fn.params.toList ++ s.plain.varTypes C.prog) (ds ++ gs)).all (· ≤ reachBytes) = true → X W args →
      W.ShapedOpen C.prog →
      a.holds C.prog (lone (Frame.enter C.prog f args .normal) [] W) →
      Calls C.prog f args W fun e W' => ∃ v, e = .returned v ∧ s.post enc C.prog fn apart fresh handsOn again W args v W') :
    ReturnsInHanded a C os f .any (fun w args => (s.pre enc C.prog fn conds apart w args ∧ X w args) ∧ sizedMet enc C.prog fn (OpenSpec.ofChange s) apart w args) (s.post enc C.prog fn apart fresh handsOn again) := by
  refine returnsInHanded_of_calls own started noInit witness ?_
  intro w tape i _ hsh _ hok hpre hholds
  obtain ⟨_, _, _, fn', hfn', _, _, _, _, hval⟩ := hok
  have e : fn' = fn := Option.some.inj (hfn'.symm.trans hfn)
  subst e
  obtain ⟨⟨⟨ds, gs, before, hw, hc⟩, hx⟩, hz⟩ := hpre
  have hw' := DataW.Whole.of_heap (w' := w.forCall tape i) (by rfl) hw
  refine (contract (w.forCall tape i) w.heap.size i.args ds gs before hval hw' hc (hz.weights hw) (hX _ _ _ (by rfl) hx) hsh hholds).mono fun e W' ⟨v, he, hp⟩ => ?_
  subst he
  exact ChangeSpec.post_blind hp
end
end Pgm
end Go.Proofs.YtchcjinaagncjaaDoor
namespace Go.Proofs.YtchcjinaagncjaaDoor
open Go.RowKit
set_option linter.unusedVariables false
namespace Pgm
theorem own16 : ownKnob Tryd.prog.godebug = none := by kernel_rfl
def laid16 : List (String × DataW Unit) := Rows.verifyBytesRow.laid
theorem door16 (os : Os) (args : Array Value) : laidMetH Tryd.prog laid16 ((World.doorLaid Tryd.prog 52 os).forCall (fun _ _ => 0) ⟨#[], args, []⟩).memory := by
  rw [MakeChecks.laidMetH_plain _ _ _ (by kernel_rfl)]
  exact laidMet_of_run' 65 (by kernel_rfl) (by kernel_rfl)
theorem laid_db16 : (Rows.laid_math_bits_deBruijn64tab : DataW Unit) = Lib.tabData .u8 (Lib.deBruijn64tab.map (fun n : Nat => (n : Int))) := by kernel_rfl
theorem ev16_of {W : World} (h : laidMetH Tryd.prog laid16 W) (hs : W.ShapedOpen Tryd.prog) : EvV W := by
  rw [MakeChecks.laidMetH_plain _ _ _ (by kernel_rfl)] at h
  have h1 : laidMet Tryd.prog [("math/bits.deBruijn64tab", Rows.laid_math_bits_deBruijn64tab), ("burin/prog.operations", Rows.laid_burin_prog_operations)] W := h
  have h2 : laidMet Tryd.prog [("burin/prog.operations", Rows.laid_burin_prog_operations)] W := h1.tail
  rw [laid_db16] at h1
  have t1 := Lib.tabIs_of_head (g := 2) (by kernel_rfl) (by kernel_rfl) (t := 170) (n := 64) Tryd.underlying170 Tryd.underlying5 (by kernel_rfl) (by kernel_rfl) h1
  have hc : ∀ j, j < Lib.deBruijn64tab.length → W.cell? ⟨2, j, none⟩ = some (.int .u8 (Lib.deBruijn64tab.getD j 0)) := fun j hj => by
    have h3 := t1.cell (g := 2) (by kernel_rfl) j (by simpa using hj)
    rw [h3]
    simp [List.getD, List.getElem?_eq_getElem hj]
  have h0 := hc 0 (by decide)
  refine ⟨evO_of h2, ?_, hc⟩
  rcases Nat.lt_or_ge 2 W.heap.size with h9 | h9
  · exact h9
  · simp [World.cell?, Array.getElem?_eq_none h9] at h0
end Pgm
end Go.Proofs.YtchcjinaagncjaaDoor
namespace Go.Proofs.YtchcjinaagncjaaDoor
open Go.ChangeShapes Go.WideShapes
set_option linter.unusedVariables false
def j1B (P : Program) (f : FuncId) (fn : Func) (s : ChangeSpec) (c : OpenClaim) : Bool := c.inPlace == P.inPlace f
def j2B (P : Program) (f : FuncId) (fn : Func) (s : ChangeSpec) (c : OpenClaim) : Bool := c.unfollowed == P.unfollowed f
def j3B (P : Program) (f : FuncId) (fn : Func) (s : ChangeSpec) (c : OpenClaim) : Bool := c.recurses == P.recurses f
def j4B (P : Program) (f : FuncId) (fn : Func) (s : ChangeSpec) (c : OpenClaim) : Bool := c.named == P.varsNamed f
def j5B (P : Program) (f : FuncId) (fn : Func) (s : ChangeSpec) (c : OpenClaim) : Bool := c.wf (OpenSpec.ofChange s) && laidOutB P && mapsRowed P && fn.params.all (P.readableRec ·) && namedTie P c.named s.vars && (c.stops == []) && (P.stops == []) && (c.knobs == []) && (P.stopKnobs == [])
def j6B (P : Program) (f : FuncId) (fn : Func) (s : ChangeSpec) (c : OpenClaim) : Bool := (c.maps == (fn.params.toList ++ s.plain.varTypes P).any (P.mapsRec ·)) && (c.ifaces == (fn.params.toList ++ s.plain.varTypes P).any (P.ifacesRec ·)) && (c.mapsOut == P.mapsAmong fn.resultTypes.toList) && (c.loops == (fn.params.toList ++ s.plain.varTypes P).any (P.loopsFrom ·)) && (c.wideKeys == (fn.params.toList ++ s.plain.varTypes P ++ fn.resultTypes.toList).any (P.wideKeysFrom ·))
def j7B (P : Program) (f : FuncId) (fn : Func) (s : ChangeSpec) (c : OpenClaim) : Bool := s.vars.all (P.varReadable ·) && fn.resultTypes.all (fun t => P.readableRec t && decide (t < P.types.size)) && (c.ifacesOut == fn.resultTypes.toList.any (P.ifacesRec ·)) && (c.loopsOut == fn.resultTypes.toList.any (P.loopsFrom ·)) && (c.plainKeys == P.plainKeys) && c.shortTexts.isNone && P.stopsHeard
def j8B (P : Program) (f : FuncId) (fn : Func) (s : ChangeSpec) (c : OpenClaim) : Bool := P.mayEnter
def j9B (P : Program) (f : FuncId) (fn : Func) (s : ChangeSpec) (c : OpenClaim) : Bool := (c.lifted == P.liftsFinal) && (P.make == some c.make)
def j10B (P : Program) (f : FuncId) (fn : Func) (s : ChangeSpec) (c : OpenClaim) : Bool := (c.kinds == (if c.domain.isEmpty then [] else fn.params.toList.map fun t => match P.underlying t with | some (.int k) => some k | _ => none)) && (c.pinned == c.pinnedBy)
def j11B (P : Program) (f : FuncId) (fn : Func) (s : ChangeSpec) (c : OpenClaim) : Bool := (c.veiled == (fn.params.toList ++ s.plain.varTypes P ++ fn.resultTypes.toList).any (P.veiledRec ·)) && c.veiledFits P fn.params.toList (fn.params.toList ++ s.plain.varTypes P ++ fn.resultTypes.toList)
theorem joined_of (P : Program) (f : FuncId) (fn : Func) (s : ChangeSpec) (c : OpenClaim) (h1 : j1B P f fn s c = true) (h2 : j2B P f fn s c = true) (h3 : j3B P f fn s c = true) (h4 : j4B P f fn s c = true) (h5 : j5B P f fn s c = true) (h6 : j6B P f fn s c = true) (h7 : j7B P f fn s c = true) (h8 : j8B P f fn s c = true) (h9 : j9B P f fn s c = true) (h10 : j10B P f fn s c = true) (h11 : j11B P f fn s c = true) : joinedFacts P f fn s c = true := by
  unfold j1B j2B j3B j4B j5B j6B j7B j8B j9B j10B j11B at *
  unfold joinedFacts
  simp only [Bool.and_eq_true] at *
  obtain ⟨⟨⟨⟨⟨⟨⟨⟨h5x1, h5x2⟩, h5x3⟩, h5x4⟩, h5x5⟩, h5x6⟩, h5x7⟩, h5x8⟩, h5x9⟩ := h5
  obtain ⟨⟨⟨⟨h6x1, h6x2⟩, h6x3⟩, h6x4⟩, h6x5⟩ := h6
  obtain ⟨⟨⟨⟨⟨⟨h7x1, h7x2⟩, h7x3⟩, h7x4⟩, h7x5⟩, h7x6⟩, h7x7⟩ := h7
  obtain ⟨h9x1, h9x2⟩ := h9
  obtain ⟨h10x1, h10x2⟩ := h10
  obtain ⟨h11x1, h11x2⟩ := h11
  and_intros <;> assumption
end Go.Proofs.YtchcjinaagncjaaDoor
