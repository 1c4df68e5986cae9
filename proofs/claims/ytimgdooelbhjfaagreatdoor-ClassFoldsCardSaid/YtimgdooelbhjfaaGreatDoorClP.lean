/- What a class's function hands back. -/
import Derived.Test.YtimgdooelbhjfaaGreatDoorClM
import Derived.Test.YtimgdooelbhjfaaGreatDoorRgD
namespace Go.Proofs.YtimgdooelbhjfaaGreatDoor
open Go.RowKit
set_option linter.unusedVariables false
/-- A class, or why there is none. -/
def ClassPost (X : Option (Bool × List Int)) (W : World) (e : Ending) (w' : World) : Prop :=
  ∃ v out code, e = .returned (.tuple #[v, .int .i64 code]) ∧ Cl.ClassIs X out code ∧ RgOwn w' W.heap.size v out ∧ Below W.heap.size W w'
theorem class_row {X : Option (Bool × List Int)} {out : List (Int × Int)} {code : Int} (hc : Cl.ClassIs X out code) {W : World} {base : Nat} {v : Value} (h : RgOwn W base v out) : RRow W v out := by
  cases X with
  | none => obtain ⟨rfl, _⟩ := hc; exact h.row (by simp) (fun p hp => by cases hp)
  | some p => exact h.normRow hc.2.1
namespace Cl
open Go.Proofs.YtimgdooelbhjfaaGreatDoor.Rg
theorem class_has {T : List Int} {out : List (Int × Int)} (h : ClassIs (some (false, T)) out 0) (q : Int) : hasB out q = hasB (pairsOf T) q := by
  by_cases hq : 0 ≤ q ∧ q ≤ 1114111
  · rw [h.2.2 q hq.1 hq.2]; simp
  · rw [Bool.eq_iff_iff, hasB_iff, hasB_iff]
    exact ⟨fun x => absurd x.1 hq, fun x => absurd x.1 hq⟩
end Cl
end Go.Proofs.YtimgdooelbhjfaaGreatDoor
