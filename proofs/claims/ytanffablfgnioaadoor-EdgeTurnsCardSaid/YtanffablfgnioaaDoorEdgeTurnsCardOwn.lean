/- burinlaw12.EdgeTurns. -/
import Derived.Test.YtanffablfgnioaaDoorGp3
import Derived.ProofKit
namespace Go.Proofs.YtanffablfgnioaaDoor
open Go.RowKit
set_option linter.unusedVariables false
namespace Eg
theorem turn_tab : ∀ i, i < 4 → ∀ j, j < 4 → bitB (tabN i j) 1 = bitB (tabN j i) 2 ∧ bitB (tabN i j) 3 = bitB (tabN j i) 4 ∧ bitB (tabN i j) 5 = bitB (tabN j i) 5 ∧ bitB (tabN i j) 6 = !bitB (tabN i j) 5 := by decide +kernel
theorem turn (a b : Int) : bitB (betN a b) 1 = bitB (betN b a) 2 ∧ bitB (betN a b) 3 = bitB (betN b a) 4 ∧ bitB (betN a b) 5 = bitB (betN b a) 5 ∧ bitB (betN a b) 6 = !bitB (betN a b) 5 := turn_tab _ (side_lt a) _ (side_lt b)
end Eg
set_option maxRecDepth 100000 in
set_option maxHeartbeats 2000000 in
theorem walkEdgeTurns (W : World) (a b : Int) (ha : (Lit.int .i64 a).wf = true) (hb : (Lit.int .i64 b).wf = true) (h : EvE W) :
    Calls Tryd.prog 4 #[.int .i64 a, .int .i64 b] W fun e w' => e = .returned (.bool true) ∧ Below W.heap.size W w' := by
  have HE := Lib.hid h
  have mx := Eg.betN_mem a b
  have my := Eg.betN_mem b a
  obtain ⟨t1, t2, t3, t4⟩ := Eg.turn a b
  have HX := Lib.hid (fun k h1 h6 => has_any (Eg.betN a b) mx k h1 h6)
  have HY := Lib.hid (fun k h1 h6 => has_any (Eg.betN b a) my k h1 h6)
  clear ha hb h mx my
  go_enter Tryd.func4, Tryd.ntmps4
  go_wp2_with fail
  refine (works12_any W HE.out).mono ?_
  rintro e w1 ⟨rfl, n1, rfl⟩
  go_wp2_with fail
  refine (between_edge a b _ (HE.out.drew n1)).mono ?_
  rintro e w2 ⟨rfl, n2, rfl⟩
  rw [World.drewN_drewN]
  go_wp2_with fail
  refine (between_edge b a _ (HE.out.drew _)).mono ?_
  rintro e w3 ⟨rfl, n3, rfl⟩
  rw [World.drewN_drewN]
  obtain ⟨X, hX⟩ : ∃ X, Eg.betN a b = X := ⟨_, rfl⟩
  obtain ⟨Y, hY⟩ : ∃ X, Eg.betN b a = X := ⟨_, rfl⟩
  rw [hX] at HX t1 t2 t3 t4 ⊢
  rw [hY] at HY t1 t2 t3 ⊢
  clear hX hY
  obtain ⟨x1, g1⟩ : ∃ x, Eg.bitB X 1 = x := ⟨_, rfl⟩
  obtain ⟨x3, g3⟩ : ∃ x, Eg.bitB X 3 = x := ⟨_, rfl⟩
  obtain ⟨x5, g5⟩ : ∃ x, Eg.bitB X 5 = x := ⟨_, rfl⟩
  rw [g5] at t4
  rw [g1] at t1
  rw [g3] at t2
  rw [g5] at t3
  have K1 := Lib.hid (fun w => HX.out 1 (by omega) (by omega) w)
  have K2 := Lib.hid (fun w => HY.out 2 (by omega) (by omega) w)
  have K3 := Lib.hid (fun w => HX.out 3 (by omega) (by omega) w)
  have K4 := Lib.hid (fun w => HY.out 4 (by omega) (by omega) w)
  have K5 := Lib.hid (fun w => HX.out 5 (by omega) (by omega) w)
  have K6 := Lib.hid (fun w => HY.out 5 (by omega) (by omega) w)
  have K7 := Lib.hid (fun w => HX.out 6 (by omega) (by omega) w)
  rw [g1] at K1
  rw [← t1] at K2
  rw [g3] at K3
  rw [← t2] at K4
  rw [g5] at K5
  rw [← t3] at K6
  rw [t4] at K7
  clear g1 g3 g5 t1 t2 t3 t4 HX HY
  go_wp2_with fail
  refine (K1.out _).mono ?_
  rintro e wa ⟨rfl, rfl⟩
  go_wp2_with fail
  refine (K2.out _).mono ?_
  rintro e wa ⟨rfl, rfl⟩
  go_wp2_with fail
  refine (K3.out _).mono ?_
  rintro e wa ⟨rfl, rfl⟩
  go_wp2_with fail
  refine (K4.out _).mono ?_
  rintro e wa ⟨rfl, rfl⟩
  go_wp2_with fail
  refine (K5.out _).mono ?_
  rintro e wa ⟨rfl, rfl⟩
  go_wp2_with fail
  refine (K6.out _).mono ?_
  rintro e wa ⟨rfl, rfl⟩
  go_wp2_with fail
  refine (K7.out _).mono ?_
  rintro e wa ⟨rfl, rfl⟩
  go_wp2_with fail
  refine (K5.out _).mono ?_
  rintro e wa ⟨rfl, rfl⟩
  have hne : ((!x5) != x5) = true := by cases x5 <;> rfl
  go_wp2
  go_ret
  exact ⟨rfl, below_drewE (Below.refl _ _) _⟩
end Go.Proofs.YtanffablfgnioaaDoor
