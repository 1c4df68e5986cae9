/- What the rows' listed variables give the walks of show: a start that meets the list. · The closed facts of a row, part by part. -/
import Derived.Test.YtdcielcniboloaaDoorGp8
import Derived.LaidMore
import Derived.Stop.Joined
import Derived.Stop.LaidErr
import Derived.Lib.LaidTab
import Derived.Lib.TrailingZeros
import Derived.ProofKit
import Derived.JoinedOf
import Derived.KernelRfl
namespace Go.Proofs.YtdcielcniboloaaDoor
open Go.RowKit
set_option linter.unusedVariables false
theorem own10 : ownKnob Tryd.prog.godebug = none := by kernel_rfl
def laid10 : List (String × DataW Unit) := Rows.showLongRow.laid
theorem door10 (os : Os) (args : Array Value) : laidMetH Tryd.prog laid10 ((World.doorLaid Tryd.prog 24 os).forCall (fun _ _ => 0) ⟨#[], args, []⟩).memory := by
  rw [MakeChecks.laidMetH_plain _ _ _ (by kernel_rfl)]
  exact laidMet_of_run' 65 (by kernel_rfl) (by kernel_rfl)
theorem laid_db : (Rows.laid_math_bits_deBruijn64tab : DataW Unit) = Lib.tabData .u8 (Lib.deBruijn64tab.map (fun n : Nat => (n : Int))) := by kernel_rfl
theorem laid_p10 : (Rows.laid_internal_strconv_uint64pow10 : DataW Unit) = Lib.tabData .u64 Lib.pow10Tab := by kernel_rfl
theorem evs_of {W : World} (h : laidMetH Tryd.prog laid10 W) : EvS W := by
  rw [MakeChecks.laidMetH_plain _ _ _ (by kernel_rfl)] at h
  have h1 : laidMet Tryd.prog [("math/bits.deBruijn64tab", Rows.laid_math_bits_deBruijn64tab), ("internal/strconv.uint64pow10", Rows.laid_internal_strconv_uint64pow10)] W := h.tail
  have h2 : laidMet Tryd.prog [("internal/strconv.uint64pow10", Rows.laid_internal_strconv_uint64pow10)] W := h.tail.tail
  rw [laid_db] at h1
  rw [laid_p10] at h2
  have t1 := Lib.tabIs_of_head (g := 2) (by kernel_rfl) (by kernel_rfl) (t := 97) (n := 64) Tryd.underlying97 Tryd.underlying5 (by kernel_rfl) (by kernel_rfl) h1
  refine ⟨?_, Lib.tabIs_of_head (g := 0) (by kernel_rfl) (by kernel_rfl) (t := 90) (n := 20) Tryd.underlying90 Tryd.underlying83 (by kernel_rfl) (by kernel_rfl) h2⟩
  have h3 := t1.cell (g := 2) (by kernel_rfl) (16 * 285870213051353865 % 18446744073709551616 / 288230376151711744) (by decide +kernel)
  exact h3
end Go.Proofs.YtdcielcniboloaaDoor
namespace Go.Proofs.YtdcielcniboloaaDoor
open Go.ChangeShapes Go.WideShapes
set_option linter.unusedVariables false
def j1B (P : Program) (f : FuncId) (fn : Func) (s : ChangeSpec) (c : OpenClaim) : Bool := c.inPlace == P.inPlace f
def j2B (P : Program) (f : FuncId) (fn : Func) (s : ChangeSpec) (c : OpenClaim) : Bool := c.unfollowed == P.unfollowed f
def j3B (P : Program) (f : FuncId) (fn : Func) (s : ChangeSpec) (c : OpenClaim) : Bool := c.recurses == P.recurses f
def j4B (P : Program) (f : FuncId) (fn : Func) (s : ChangeSpec) (c : OpenClaim) : Bool := c.named == P.varsNamed f
def j5B (P : Program) (f : FuncId) (fn : Func) (s : ChangeSpec) (c : OpenClaim) : Bool := c.wf (OpenSpec.ofChange s) && laidOutB P && mapsRowed P && fn.params.all (P.readableRec ·) && namedTie P c.named s.vars && (c.stops == []) && (P.stops == []) && (c.knobs == []) && (P.stopKnobs == [])
def j6B (P : Program) (f : FuncId) (fn : Func) (s : ChangeSpec) (c : OpenClaim) : Bool := (c.maps == (fn.params.toList ++ s.plain.varTypes P).any (P.mapsRec ·)) && (c.ifaces == (fn.params.toList ++ s.plain.varTypes P).any (P.ifacesRec ·)) && (c.mapsOut == P.mapsAmong fn.resultTypes.toList) && (c.loops == (fn.params.toList ++ s.plain.varTypes P).any (P.loopsFrom ·)) && (c.wideKeys == (fn.params.toList ++ s.plain.varTypes P ++ fn.resultTypes.toList).any (P.wideKeysFrom ·))
def j7B (P : Program) (f : FuncId) (fn : Func) (s : ChangeSpec) (c : OpenClaim) : Bool := s.vars.all (P.varReadable ·) && fn.resultTypes.all (fun t => P.readableRec t && decide (t < P.types.size)) && (c.ifacesOut == fn.resultTypes.toList.any (P.ifacesRec ·)) && (c.loopsOut == fn.resultTypes.toList.any (P.loopsFrom ·)) && (c.plainKeys == P.plainKeys) && c.shortTexts.isNone && P.stopsHeard
def j8B (P : Program) (f : FuncId) (fn : Func) (s : ChangeSpec) (c : OpenClaim) : Bool := P.mayEnter
def j9B (P : Program) (f : FuncId) (fn : Func) (s : ChangeSpec) (c : OpenClaim) : Bool := (c.lifted == P.liftsFinal) && (P.make == some c.make)
def j10B (P : Program) (f : FuncId) (fn : Func) (s : ChangeSpec) (c : OpenClaim) : Bool := (c.kinds == (if c.domain.isEmpty then [] else fn.params.toList.map fun t => match P.underlying t with | some (.int k) => some k | _ => none)) && (c.pinned == c.pinnedBy)
def j11B (P : Program) (f : FuncId) (fn : Func) (s : ChangeSpec) (c : OpenClaim) : Bool := (c.veiled == (fn.params.toList ++ s.plain.varTypes P ++ fn.resultTypes.toList).any (P.veiledRec ·)) && c.veiledFits P fn.params.toList (fn.params.toList ++ s.plain.varTypes P ++ fn.resultTypes.toList)
theorem joined_of (P : Program) (f : FuncId) (fn : Func) (s : ChangeSpec) (c : OpenClaim) (h1 : j1B P f fn s c = true) (h2 : j2B P f fn s c = true) (h3 : j3B P f fn s c = true) (h4 : j4B P f fn s c = true) (h5 : j5B P f fn s c = true) (h6 : j6B P f fn s c = true) (h7 : j7B P f fn s c = true) (h8 : j8B P f fn s c = true) (h9 : j9B P f fn s c = true) (h10 : j10B P f fn s c = true) (h11 : j11B P f fn s c = true) : joinedFacts P f fn s c = true := by
  unfold j1B j2B j3B j4B j5B j6B j7B j8B j9B j10B j11B at *
  unfold joinedFacts
  simp only [Bool.and_eq_true] at *
  obtain ⟨⟨⟨⟨⟨⟨⟨⟨h5x1, h5x2⟩, h5x3⟩, h5x4⟩, h5x5⟩, h5x6⟩, h5x7⟩, h5x8⟩, h5x9⟩ := h5
  obtain ⟨⟨⟨⟨h6x1, h6x2⟩, h6x3⟩, h6x4⟩, h6x5⟩ := h6
  obtain ⟨⟨⟨⟨⟨⟨h7x1, h7x2⟩, h7x3⟩, h7x4⟩, h7x5⟩, h7x6⟩, h7x7⟩ := h7
  obtain ⟨h9x1, h9x2⟩ := h9
  obtain ⟨h10x1, h10x2⟩ := h10
  obtain ⟨h11x1, h11x2⟩ := h11
  and_intros <;> assumption
end Go.Proofs.YtdcielcniboloaaDoor
