/- burinbook.SpoilInsts, SpoilInts: only the row's own block turns. · A region that draws its order, whose operations only read and whose callees make memory of their own: walked once, in the class of the worlds that have turned nothing old. -/
import Derived.Test.YtchcjinaagncjaaDoorGp17
import Derived.Test.YtchcjinaagncjaaDoorGp2
import Derived.Deep.QuietTactic
namespace Go.Proofs.YtchcjinaagncjaaDoor
open Go.RowKit
set_option linter.unusedVariables false
namespace Pgm
theorem cell_inv {w : World} {g i : Nat} {cs : Array Value} {t : TypeId} (hg : w.heap[g]? = some (.cells cs t (0, 0))) (hi : i < cs.size) : ∃ v, w.cell? ⟨g, i, none⟩ = some v := by
  simp [World.cell?, hg, hi]
set_option maxRecDepth 100000 in
set_option maxHeartbeats 1000000 in
theorem spoilx_walk (W : World) (g n cap B : Nat) (cs : Array Value) (hB : B ≤ g) (hg : W.heap[g]? = some (.cells cs 60 (0, 0))) (hcs : cs.size = cap * 5) (hnc : n ≤ cap) (hcap : cap ≤ 9223372036854775807) :
    Calls Tryd.prog 22 #[.slice (some ⟨g, 0, none⟩) n cap] W fun e w' => e = .returned (.tuple #[]) ∧ Below B W w' ∧ ∀ b, b ≠ g → w'.heap[b]? = W.heap[b]? := by
  have HG := Lib.hid hg
  have HCS := Lib.hid hcs
  clear hg hcs
  go_enter Tryd.func22, Tryd.ntmps22
  go_wp2
  go_loopw [2, 9] (fun V R wr => ∃ (k : Nat) (cs' : Array Value), k ≤ cap ∧ R = .int .i64 k ∧ Hid (wr.heap[g]? = some (.cells cs' 60 (0, 0))) ∧ Hid (cs'.size = cap * 5) ∧ Hid (Below B W wr) ∧ Hid (∀ b, b ≠ g → wr.heap[b]? = W.heap[b]?)) (fun V R _ => cap - (intOf R).toNat)
  case atStart => exact ⟨0, cs, Nat.zero_le _, rfl, HG, HCS, Lib.hid (Below.refl _ _), Lib.hid (fun _ _ => rfl)⟩
  case round =>
    obtain ⟨k, cs', hk, rfl, HG', HCS', HB, HK⟩ := hrel
    clear HG HCS
    by_cases hlt : k < cap
    · obtain ⟨v0, hv0⟩ := cell_inv (i := k * 5) HG'.out (by rw [HCS'.out]; omega)
      obtain ⟨v1, hv1⟩ := cell_inv (i := k * 5 + 1) HG'.out (by rw [HCS'.out]; omega)
      obtain ⟨v2, hv2⟩ := cell_inv (i := k * 5 + 2) HG'.out (by rw [HCS'.out]; omega)
      obtain ⟨v3, hv3⟩ := cell_inv (i := k * 5 + 3) HG'.out (by rw [HCS'.out]; omega)
      obtain ⟨v4, hv4⟩ := cell_inv (i := k * 5 + 4) HG'.out (by rw [HCS'.out]; omega)
      have hf0 := frozen_of_row _ g (k * 5) _ _ HG'.out
      have hf1 := frozen_of_row _ g (k * 5 + 1) _ _ HG'.out
      have hf2 := frozen_of_row _ g (k * 5 + 2) _ _ HG'.out
      have hf3 := frozen_of_row _ g (k * 5 + 3) _ _ HG'.out
      have hf4 := frozen_of_row _ g (k * 5 + 4) _ _ HG'.out
      have HKK : Hid (∀ (a b c d e : Value) (q : Nat), q ≠ g → (((((wr.setCell ⟨g, k * 5, none⟩ a).setCell ⟨g, k * 5 + 1, none⟩ b).setCell ⟨g, k * 5 + 2, none⟩ c).setCell ⟨g, k * 5 + 3, none⟩ d).setCell ⟨g, k * 5 + 4, none⟩ e).heap[q]? = W.heap[q]?) := Lib.hid (fun a b c d e q hq => by
        rw [heap_setCell_other _ ⟨g, k * 5 + 4, none⟩ q _ hq, heap_setCell_other _ ⟨g, k * 5 + 3, none⟩ q _ hq, heap_setCell_other _ ⟨g, k * 5 + 2, none⟩ q _ hq, heap_setCell_other _ ⟨g, k * 5 + 1, none⟩ q _ hq, heap_setCell_other _ ⟨g, k * 5, none⟩ q _ hq]
        exact HK.out q hq)
      go_wp2
      go_roundw
      case rel => first | exact ⟨k + 1, _, by omega, by go_num, Lib.hid (heap_setCell_same _ g _ _ _ _ (heap_setCell_same _ g _ _ _ _ (heap_setCell_same _ g _ _ _ _ (heap_setCell_same _ g _ _ _ _ (heap_setCell_same _ g _ _ _ _ HG'.out))))), Lib.hid (by simp [HCS'.out]), Lib.hid (((((HB.out.setCell (p := ⟨g, k * 5, none⟩) hB _).setCell (p := ⟨g, k * 5 + 1, none⟩) hB _).setCell (p := ⟨g, k * 5 + 2, none⟩) hB _).setCell (p := ⟨g, k * 5 + 3, none⟩) hB _).setCell (p := ⟨g, k * 5 + 4, none⟩) hB _), Lib.hid (HKK.out _ _ _ _ _)⟩ | ((repeat apply Exists.intro); exact ⟨⟨k + 1, _, by omega, by go_num, Lib.hid (heap_setCell_same _ g _ _ _ _ (heap_setCell_same _ g _ _ _ _ (heap_setCell_same _ g _ _ _ _ (heap_setCell_same _ g _ _ _ _ (heap_setCell_same _ g _ _ _ _ HG'.out))))), Lib.hid (by simp [HCS'.out]), Lib.hid (((((HB.out.setCell (p := ⟨g, k * 5, none⟩) hB _).setCell (p := ⟨g, k * 5 + 1, none⟩) hB _).setCell (p := ⟨g, k * 5 + 2, none⟩) hB _).setCell (p := ⟨g, k * 5 + 3, none⟩) hB _).setCell (p := ⟨g, k * 5 + 4, none⟩) hB _), Lib.hid (HKK.out _ _ _ _ _)⟩, rfl⟩)
      case measure => simp [intOf]; omega
    · obtain rfl : k = cap := by omega
      go_wp2
      exact ⟨rfl, .tuple #[], by simp [results, Tryd.func22, go_sem], And.intro rfl (And.intro HB.out HK.out)⟩
theorem spoilx_own (W : World) (base : Nat) (v : Value) (l : List In) (h : InOwn W base v l) (hb : base ≤ W.heap.size) :
    Calls Tryd.prog 22 #[v] W fun e w' => e = .returned (.tuple #[]) ∧ Below base W w' ∧ ∀ b, v.ownBlock ≠ some b → b < W.heap.size → w'.heap[b]? = W.heap[b]? := by
  rcases h.2 with ⟨rfl, _⟩ | ⟨g, cap, cur, rfl, hbg, hg, hnc, hcm, hcs, _⟩
  · exact (spoili_nil W).mono fun e w' h => ⟨h.1, h.2.mono hb, fun b _ hlt => h.2.block b hlt⟩
  · exact (spoilx_walk W g _ cap base cur hbg hg hcs hnc (by simpa [maxLen] using hcm)).mono fun e w' h => ⟨h.1, h.2.1, fun b hn _ => h.2.2 b fun e => hn (by rw [e]; rfl)⟩
set_option maxRecDepth 100000 in
set_option maxHeartbeats 1000000 in
theorem spoiln_nil (W : World) :
    Calls Tryd.prog 32 #[.slice none 0 0] W fun e w' => e = .returned (.tuple #[]) ∧ Below W.heap.size W w' := by
  go_enter Tryd.func32, Tryd.ntmps32
  go_wp2
  refine wp_loop_rounds 1 ?_
  rw [rounds_succ]
  go_wp2
  exact ⟨rfl, .tuple #[], by simp [results, Tryd.func32, go_sem], And.intro rfl (Below.refl _ _)⟩
set_option maxRecDepth 100000 in
set_option maxHeartbeats 1000000 in
theorem spoiln_walk (W : World) (g n cap B : Nat) (cs : Array Value) (hB : B ≤ g) (hg : W.heap[g]? = some (.cells cs 3 (0, 0))) (hcs : cs.size = cap) (hnc : n ≤ cap) (hcap : cap ≤ 9223372036854775807) :
    Calls Tryd.prog 32 #[.slice (some ⟨g, 0, none⟩) n cap] W fun e w' => e = .returned (.tuple #[]) ∧ Below B W w' ∧ ∀ b, b ≠ g → w'.heap[b]? = W.heap[b]? := by
  have HG := Lib.hid hg
  have HCS := Lib.hid hcs
  clear hg hcs
  go_enter Tryd.func32, Tryd.ntmps32
  go_wp2
  go_loopw [2, 9] (fun V R wr => ∃ (k : Nat) (cs' : Array Value), k ≤ cap ∧ R = .int .i64 k ∧ Hid (wr.heap[g]? = some (.cells cs' 3 (0, 0))) ∧ Hid (cs'.size = cap) ∧ Hid (Below B W wr) ∧ Hid (∀ b, b ≠ g → wr.heap[b]? = W.heap[b]?)) (fun V R _ => cap - (intOf R).toNat)
  case atStart => exact ⟨0, cs, Nat.zero_le _, rfl, HG, HCS, Lib.hid (Below.refl _ _), Lib.hid (fun _ _ => rfl)⟩
  case round =>
    obtain ⟨k, cs', hk, rfl, HG', HCS', HB, HK⟩ := hrel
    clear HG HCS
    by_cases hlt : k < cap
    · obtain ⟨v0, hv0⟩ := cell_inv (i := k) HG'.out (by rw [HCS'.out]; omega)
      have hf0 := frozen_of_row _ g k _ _ HG'.out
      have HKK : Hid (∀ (a : Value) (q : Nat), q ≠ g → (wr.setCell ⟨g, k, none⟩ a).heap[q]? = W.heap[q]?) := Lib.hid (fun a q hq => by
        rw [heap_setCell_other _ ⟨g, k, none⟩ q _ hq]
        exact HK.out q hq)
      go_wp2
      go_roundw
      case rel => first | exact ⟨k + 1, _, by omega, by go_num, Lib.hid (heap_setCell_same _ g _ _ _ _ HG'.out), Lib.hid (by simp [HCS'.out]), Lib.hid (HB.out.setCell (p := ⟨g, k, none⟩) hB _), Lib.hid (HKK.out _)⟩ | ((repeat apply Exists.intro); exact ⟨⟨k + 1, _, by omega, by go_num, Lib.hid (heap_setCell_same _ g _ _ _ _ HG'.out), Lib.hid (by simp [HCS'.out]), Lib.hid (HB.out.setCell (p := ⟨g, k, none⟩) hB _), Lib.hid (HKK.out _)⟩, rfl⟩)
      case measure => simp [intOf]; omega
    · obtain rfl : k = cap := by omega
      go_wp2
      exact ⟨rfl, .tuple #[], by simp [results, Tryd.func32, go_sem], And.intro rfl (And.intro HB.out HK.out)⟩
theorem spoiln_own (W : World) (base : Nat) (v : Value) (T : List Int) (h : IOwn W base v T) (hb : base ≤ W.heap.size) :
    Calls Tryd.prog 32 #[v] W fun e w' => e = .returned (.tuple #[]) ∧ Below base W w' ∧ ∀ b, v.ownBlock ≠ some b → b < W.heap.size → w'.heap[b]? = W.heap[b]? := by
  rcases h.2 with ⟨rfl, _⟩ | ⟨g, cap, cur, rfl, hbg, hg, hnc, hcm, hcs, _⟩
  · exact (spoiln_nil W).mono fun e w' h => ⟨h.1, h.2.mono hb, fun b _ hlt => h.2.block b hlt⟩
  · exact (spoiln_walk W g _ cap base cur hbg hg (by simpa using hcs) hnc (by simpa [maxLen] using hcm)).mono fun e w' h => ⟨h.1, h.2.1, fun b hn _ => h.2.2 b fun e => hn (by rw [e]; rfl)⟩
end Pgm
end Go.Proofs.YtchcjinaagncjaaDoor
namespace Go.Proofs.YtchcjinaagncjaaDoor
open Go.RowKit
set_option linter.unusedVariables false
/-- A world that has turned nothing of w's. -/
structure GrownTo (w : World) where
  W' : World
  h : Below w.heap.size w W'
instance grownToSome (w : World) : Inhabited (GrownTo w) := ⟨⟨w, Below.refl _ _⟩⟩
theorem wp_region_quiet_below {P : Program} {id : Nat} {Q : Exit → Act → World → Prop} {a : Act} {w : World} {l : List Oper} (hm : P.follows .mixedOrders = true) (hB : Region.lexB .any l.toArray = true)
    (h : wpQuiet P l.toArray (fun w' => ∃ p : GrownTo w, w' = p.W') (fun a' => ∀ w', (∃ p : GrownTo w, w' = p.W') → Q .normal a' w') l a) : (Code.region id l.toArray true).wp P Q a w :=
  wp_region_quiet (C := fun w' => ∃ p : GrownTo w, w' = p.W') hm hB ⟨⟨w.drew, below_drewNr (Below.refl _ _) 1⟩, rfl⟩ (by simpa using h)
theorem calls_grownTo {P : Program} {f : FuncId} {args : Array Value} {w : World} {p : GrownTo w} {v : Value}
    (h : Calls P f args p.W' fun e w' => e = .returned v ∧ Below p.W'.heap.size p.W' w') : Calls P f args p.W' fun e w'' => e = .returned v ∧ ∃ p' : GrownTo w, w'' = p'.W' :=
  h.mono fun _ w' ⟨he, hb⟩ => ⟨he, ⟨w', p.h.trans (hb.mono p.h.size)⟩, rfl⟩
theorem cell_grownTo {w : World} {a : Addr} {v : Value} (hb : a.block < w.heap.size) (h : w.cell? a = some v) (p : GrownTo w) : p.W'.cell? a = some v :=
  (p.h.cell hb).trans h
end Go.Proofs.YtchcjinaagncjaaDoor
