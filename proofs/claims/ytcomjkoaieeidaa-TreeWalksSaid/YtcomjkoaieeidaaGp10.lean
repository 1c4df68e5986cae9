/- A region that draws its order, whose operations only read and whose callees make memory of their own: walked once, in the class of the worlds that have turned nothing old. -/
import Derived.Test.YtcomjkoaieeidaaGp4
import Derived.Deep.QuietTactic
namespace Go.Proofs.Ytcomjkoaieeidaa
open Go.RowKit
set_option linter.unusedVariables false
/-- A world that has turned nothing of w's. -/
structure GrownTo (w : World) where
  W' : World
  h : Below w.heap.size w W'
instance grownToSome (w : World) : Inhabited (GrownTo w) := ⟨⟨w, Below.refl _ _⟩⟩
theorem wp_region_quiet_below {P : Program} {id : Nat} {Q : Exit → Act → World → Prop} {a : Act} {w : World} {l : List Oper} (hm : P.follows .mixedOrders = true) (hB : Region.lexB .any l.toArray = true)
    (h : wpQuiet P l.toArray (fun w' => ∃ p : GrownTo w, w' = p.W') (fun a' => ∀ w', (∃ p : GrownTo w, w' = p.W') → Q .normal a' w') l a) : (Code.region id l.toArray true).wp P Q a w :=
  wp_region_quiet (C := fun w' => ∃ p : GrownTo w, w' = p.W') hm hB ⟨⟨w.drew, below_drewN (Below.refl _ _) 1⟩, rfl⟩ (by simpa using h)
theorem calls_grownTo {P : Program} {f : FuncId} {args : Array Value} {w : World} {p : GrownTo w} {v : Value}
    (h : Calls P f args p.W' fun e w' => e = .returned v ∧ Below p.W'.heap.size p.W' w') : Calls P f args p.W' fun e w'' => e = .returned v ∧ ∃ p' : GrownTo w, w'' = p'.W' :=
  h.mono fun _ w' ⟨he, hb⟩ => ⟨he, ⟨w', p.h.trans (hb.mono p.h.size)⟩, rfl⟩
theorem cell_grownTo {w : World} {a : Addr} {v : Value} (hb : a.block < w.heap.size) (h : w.cell? a = some v) (p : GrownTo w) : p.W'.cell? a = some v :=
  (p.h.cell hb).trans h
end Go.Proofs.Ytcomjkoaieeidaa
