/- The landed prog: strings.Cut, strconv.Atoi; number, opOf. · The landed prog: opOf, instruction. -/
import Derived.Test.YtfnimmbmcjgdpaaDoorGp13
import Derived.Lib.ConvBytes
namespace Go.Proofs.YtfnimmbmcjgdpaaDoor
open Go.RowKit Go.Shelf
set_option linter.unusedVariables false
namespace Pgm
/-- What is read of the library's variables, and the tables. -/
structure EvP (W : World) : Prop where
  ops : EvO W
  tab : EvT W
  ltM : 2 < W.heap.size
  max : ∃ m, W.cell? ⟨2, 0, none⟩ = some (.int .i64 m)
  ltS : 5 < W.heap.size
  syn : ∃ ev, W.cell? ⟨5, 0, none⟩ = some ev ∧ (ev = .nilIface ∨ ∃ te pe, ev = .iface te pe)
  ltR : 6 < W.heap.size
  rng : ∃ ev, W.cell? ⟨6, 0, none⟩ = some ev ∧ (ev = .nilIface ∨ ∃ te pe, ev = .iface te pe)
theorem EvP.below {W W' : World} (h : EvP W) (hb : Below W.heap.size W W') : EvP W' :=
  ⟨h.ops.below (Nat.le_refl _) hb, h.tab.below hb, Nat.lt_of_lt_of_le h.ltM hb.size, by
    obtain ⟨m, hm⟩ := h.max
    exact ⟨m, (hb.cell (p := ⟨2, 0, none⟩) h.ltM).trans hm⟩, Nat.lt_of_lt_of_le h.ltS hb.size, by
    obtain ⟨m, hm, q⟩ := h.syn
    exact ⟨m, (hb.cell (p := ⟨5, 0, none⟩) h.ltS).trans hm, q⟩, Nat.lt_of_lt_of_le h.ltR hb.size, by
    obtain ⟨m, hm, q⟩ := h.rng
    exact ⟨m, (hb.cell (p := ⟨6, 0, none⟩) h.ltR).trans hm, q⟩⟩
theorem opAll_at (o q : Nat) (ho : o < 7) (hq : q < 9) : opAll[o * 9 + q]? = (opC o)[q]? := by
  have : o = 0 ∨ o = 1 ∨ o = 2 ∨ o = 3 ∨ o = 4 ∨ o = 5 ∨ o = 6 := by omega
  have h2 : q = 0 ∨ q = 1 ∨ q = 2 ∨ q = 3 ∨ q = 4 ∨ q = 5 ∨ q = 6 ∨ q = 7 ∨ q = 8 := by omega
  rcases this with rfl | rfl | rfl | rfl | rfl | rfl | rfl <;> rcases h2 with rfl | rfl | rfl | rfl | rfl | rfl | rfl | rfl | rfl <;> rfl
end Pgm
end Go.Proofs.YtfnimmbmcjgdpaaDoor
namespace Go.Proofs.YtfnimmbmcjgdpaaDoor
open Go.RowKit Go.Shelf
set_option linter.unusedVariables false
namespace Pgm
theorem frzp {W : World} {B : Nat} {cs : Array Value} {t : TypeId} (h : W.heap[B]? = some (.cells cs t (0, 0))) (j : Nat) : W.frozen? ⟨B, j, none⟩ = false := by simp [World.frozen?, h]
end Pgm
end Go.Proofs.YtfnimmbmcjgdpaaDoor
