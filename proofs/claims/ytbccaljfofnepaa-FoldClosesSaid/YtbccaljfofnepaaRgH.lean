/- burinbook.SpoilRanges: only the list's own block turns. -/
import Derived.Test.YtbccaljfofnepaaRgG
namespace Go.Proofs.Ytbccaljfofnepaa
open Go.RowKit
set_option linter.unusedVariables false
theorem grown_set {a w : World} {g : Nat} (h : a.grownBy w (some g)) (i : Nat) (u : Value) : a.grownBy (w.setCell ⟨g, i, none⟩ u) (some g) :=
  ⟨h.os, h.tape, h.output, by simpa [World.setCell] using h.size, fun k hk hne => (Below.heap_setCell w ⟨g, i, none⟩ u k (fun e => hne (by rw [e]))).trans (h.block k hk hne)⟩
theorem grown_refl (w : World) (row : Option Nat) : w.grownBy w row := ⟨rfl, rfl, rfl, Nat.le_refl _, fun _ _ _ => rfl⟩
set_option maxRecDepth 100000 in
set_option maxHeartbeats 1000000 in
theorem spoil_walk2 (W : World) (g n cap : Nat) (cs : Array Value) (hg : W.heap[g]? = some (.cells cs 52 (0, 0))) (hcs : cs.size = cap * 2) (hnc : n ≤ cap) (hcap : cap ≤ 9223372036854775807) :
    Calls Try.prog 20 #[.slice (some ⟨g, 0, none⟩) n cap] W fun e w' => e = .returned (.tuple #[]) ∧ W.grownBy w' (some g) := by
  have HG := Lib.hid hg
  have HCS := Lib.hid hcs
  clear hg hcs
  go_enter Try.func20, Try.ntmps20
  go_wp2
  go_loopw [9] (fun R wr => ∃ (k : Nat) (cs' : Array Value), k ≤ cap ∧ R = .int .i64 k ∧ Hid (wr.heap[g]? = some (.cells cs' 52 (0, 0))) ∧ Hid (cs'.size = cap * 2) ∧ Hid (W.grownBy wr (some g))) (fun R _ => cap - (intOf R).toNat)
  case atStart => exact ⟨0, cs, Nat.zero_le _, rfl, HG, HCS, Lib.hid (grown_refl _ _)⟩
  case round =>
    obtain ⟨k, cs', hk, rfl, HG', HCS', HB⟩ := hrel
    clear HG HCS
    by_cases hlt : k < cap
    · obtain ⟨v1, hv1⟩ := cell_in_row (i := k * 2) HG'.out (by rw [HCS'.out]; omega)
      obtain ⟨v2, hv2⟩ := cell_in_row (i := k * 2 + 1) HG'.out (by rw [HCS'.out]; omega)
      have hf1 := frozen_of_row _ g (k * 2) _ _ HG'.out
      have hf2 := frozen_of_row _ g (k * 2 + 1) _ _ HG'.out
      go_wp2
      refine ⟨⟨k + 1, _, by omega, by go_num, Lib.hid (heap_setCell_same _ g _ _ _ _ (heap_setCell_same _ g _ _ _ _ HG'.out)), Lib.hid (by simp [HCS'.out]), Lib.hid (grown_set (grown_set HB.out _ _) _ _)⟩, by simp [intOf]; omega⟩
    · obtain rfl : k = cap := by omega
      go_wp2
      exact ⟨rfl, .tuple #[], by simp [results, Try.func20, go_sem], And.intro rfl (HB.out)⟩
/-- A list of a base is spoilt: what is owned from a greater base stays owned, and nothing older turns. -/
theorem spoil_only (W : World) (base : Nat) (v : Value) (l : List (Int × Int)) (h : RgOwn W base v l) (hb : base ≤ W.heap.size) :
    Calls Try.prog 20 #[v] W fun e w' => e = .returned (.tuple #[]) ∧ Below base W w' ∧ W.grownBy w' v.ownBlock := by
  rcases h.2 with ⟨rfl, _⟩ | ⟨g, cap, cur, rfl, hbg, hg, hnc, hcm, hcs, _⟩
  · exact (spoil_nil W).mono fun e w' h => ⟨h.1, h.2.mono hb, ⟨h.2.os, h.2.tape, h.2.output, h.2.size, fun k hk _ => h.2.block k hk⟩⟩
  · refine (spoil_walk2 W g _ cap cur hg hcs hnc (by simpa [maxLen] using hcm)).mono fun e w' h => ⟨h.1, ⟨h.2.os, h.2.tape, h.2.output, h.2.size, fun k hk => h.2.block k (by omega) (fun e => by injection e with e; omega)⟩, h.2⟩
theorem own_apart {W W0 W' : World} {base base2 : Nat} {v v2 : Value} {l l2 : List (Int × Int)} (h : RgOwn W0 base v l) (hs : W0.heap.size ≤ base2) (h2 : RgOwn W base2 v2 l2) (hg : W.grownBy W' v.ownBlock) : RgOwn W' base2 v2 l2 := by
  refine h2.kept hg ?_
  cases e : v2.ownBlock with
  | none => exact .inl rfl
  | some g2 =>
    refine .inr (fun e2 => ?_)
    have a1 := (World.ownsRow.lt h2 g2 e).1
    have a2 := (World.ownsRow.lt h g2 e2.symm).2
    omega
end Go.Proofs.Ytbccaljfofnepaa
