/- Rows of texts that come from without; the book's Few and Below. -/
import Derived.Test.YtdcielcniboloaaDoorGp2
import Derived.IntWalk
namespace Go.Proofs.YtdcielcniboloaaDoor
open Go.RowKit
set_option linter.unusedVariables false
/-- A value that reads as a list of texts, wherever it begins. -/
def SRow (W : World) (v : Value) (L : List ByteArray) : Prop :=
  ∃ a cap, v = .slice a L.length cap ∧ L.length ≤ 8796093022208 ∧ ∀ j (hj : j < L.length), ∃ b off, a = some ⟨b, off, none⟩ ∧ b < W.heap.size ∧ W.cell? ⟨b, off + j, none⟩ = some (.string L[j]) ∧ L[j].size ≤ 140737488351232
theorem SRow.below {W W' : World} {v : Value} {L : List ByteArray} (h : SRow W v L) {B : Nat} (hB : W.heap.size ≤ B) (hb : Below B W W') : SRow W' v L := by
  obtain ⟨a, cap, hv, h1, hc⟩ := h
  refine ⟨a, cap, hv, h1, fun j hj => ?_⟩
  obtain ⟨b, off, ha, hlt, hcell, hs⟩ := hc j hj
  exact ⟨b, off, ha, Nat.lt_of_lt_of_le hlt hb.size, (hb.cell (p := ⟨b, off + j, none⟩) (by show b < B; omega)).trans hcell, hs⟩
set_option maxRecDepth 100000 in
set_option maxHeartbeats 2000000 in
theorem below_any (W : World) (n most : Int) (h0 : 1 ≤ most) (h1 : most ≤ 1000000000) (hn : I64 n) :
    Calls Tryd.prog 9 #[.int .i64 n, .int .i64 most] W fun e w' => ∃ k : Nat, e = .returned (.int .i64 (k : Int)) ∧ (k : Int) < most ∧ W = w' := by
  obtain ⟨hn0, hn1⟩ := hn
  have hm0 : ¬ most < 1 := by omega
  have hmz : ¬ most = 0 := by omega
  obtain ⟨r, hr⟩ : ∃ r, n.tmod most = r := ⟨_, rfl⟩
  have hr1 : r < most ∧ -most < r := by
    rw [← hr]
    have a1 := Int.tmod_lt_of_pos n (show 0 < most by omega)
    have a2 : -most < n.tmod most := by
      have a3 := Int.tmod_lt_of_pos (-n) (show 0 < most by omega)
      rw [Int.neg_tmod] at a3
      omega
    omega
  by_cases hneg : r < 0
  · obtain ⟨k, hk⟩ : ∃ k : Nat, r + most = (k : Int) := ⟨(r + most).toNat, by omega⟩
    have HK := Lib.hid hk
    go_enter Tryd.func9, Tryd.ntmps9
    go_wp2
    go_ret
    exact ⟨k, rfl, by have := HK.out; omega, rfl⟩
  · obtain ⟨k, hk⟩ : ∃ k : Nat, r = (k : Int) := ⟨r.toNat, by omega⟩
    have HK := Lib.hid hk
    go_enter Tryd.func9, Tryd.ntmps9
    go_wp2
    go_ret
    exact ⟨k, by rw [← HK.out]; rfl, by have := HK.out; omega, rfl⟩
end Go.Proofs.YtdcielcniboloaaDoor
