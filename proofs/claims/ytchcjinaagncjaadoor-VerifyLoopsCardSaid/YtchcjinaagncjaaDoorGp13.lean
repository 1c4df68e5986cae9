/- The landed verify: a set's add; math/bits.TrailingZeros64. -/
import Derived.Test.YtchcjinaagncjaaDoorGp12
import Derived.Shelf.Spec.TrailingZeros
namespace Go.Proofs.YtchcjinaagncjaaDoor
open Go.RowKit
set_option linter.unusedVariables false
namespace Pgm
/-- A set in its array of words. -/
def Wds (w : World) (B : Nat) (F : List Nat) : Prop := w.heap[B]? = some (.cells (F.map (fun x : Nat => Value.int .u64 (x : Int))).toArray 136 (0, 0))
theorem Wds.cell {w : World} {B : Nat} {F : List Nat} (h : Wds w B F) {k : Nat} (hk : k < F.length) : w.cell? ⟨B, k, none⟩ = some (.int .u64 ((F.getD k 0 : Nat) : Int)) ∧ w.frozen? ⟨B, k, none⟩ = false := by
  unfold Wds at h
  refine ⟨?_, by simp [World.frozen?, h]⟩
  rw [blkp h k]
  simp [List.getD, List.getElem?_eq_getElem hk]
theorem Wds.set {w : World} {B : Nat} {F : List Nat} (h : Wds w B F) (k x : Nat) : Wds (w.setCell ⟨B, k, none⟩ (.int .u64 (x : Int))) B (F.set k x) := by
  unfold Wds at h ⊢
  rw [heap_setCell_same w B k _ _ _ h]
  congr 2
  apply Array.toList_inj.1
  rw [Array.toList_setIfInBounds, List.map_set]
theorem Wds.below {w w' : World} {B n : Nat} {F : List Nat} (h : Wds w B F) (hb : Below n w w') (hn : B < n) : Wds w' B F := (hb.block B hn).trans h
set_option maxRecDepth 100000 in
set_option maxHeartbeats 4000000 in
theorem vfadd_any (W : World) (B : Nat) (F : List Nat) (S : Nat → Bool) (hF : Wds W B F) (hS : Wd F S) (i : Nat) (hi : i < 4032) :
    Calls Tryd.prog 83 #[.pointer (some ⟨B, 0, none⟩), .int .i64 (i : Int)] W fun e w' => e = .returned (.tuple #[]) ∧ ∃ F', Wds w' B F' ∧ Wd F' (fun j => S j || decide (j = i)) ∧ Below B W w' ∧ ∀ b, b ≠ B → w'.heap[b]? = W.heap[b]? := by
  obtain ⟨k, hk⟩ : ∃ k, i / 64 = k := ⟨_, rfl⟩
  obtain ⟨r, hr⟩ : ∃ r, i % 64 = r := ⟨_, rfl⟩
  have hk63 : k < 63 := by omega
  have hr64 : r < 64 := by omega
  obtain ⟨c1, c2⟩ := hF.cell (k := k) (by rw [hS.1]; exact hk63)
  have hx64 : F.getD k 0 < 2 ^ 64 := (hS.2 k hk63).1
  have hp64 : 2 ^ r < 2 ^ 64 := Nat.pow_lt_pow_right (by omega) hr64
  have hor := bits_or_u64_nat (F.getD k 0) (2 ^ r) hx64 hp64
  have hsh : IntKind.u64.wrap (2 ^ r) = (2 : Int) ^ r := by
    rw [IntKind.wrap_u64]
    have : ((2 : Int) ^ r) = ((2 ^ r : Nat) : Int) := by simp
    rw [this]
    exact Int.emod_eq_of_lt (Int.natCast_nonneg _) (Int.ofNat_lt.2 (show 2 ^ r < 18446744073709551616 from hp64))
  have hs1 : (0 : Int) ≤ (r : Int) := by omega
  have hs2 : (r : Int) < 64 := by omega
  have HA := Lib.hid (hS.add (i := i) hi)
  rw [hk, hr] at HA
  generalize F.getD k 0 = x at *
  have HF2 := Lib.hid (hF.set k (x ||| 2 ^ r))
  have hor2 : bits .or .u64 (x : Int) ((2 : Int) ^ r) = ((x ||| 2 ^ r : Nat) : Int) := by
    rw [← hor]; simp
  have HOR := Lib.hid hor2
  clear hor hor2
  have e1 : (i : Int).tdiv 64 = (k : Int) := by rw [← hk]; exact (Int.ofNat_tdiv i 64).symm
  have e2 : (i : Int).tmod 64 = (r : Int) := by rw [← hr]; exact (Int.ofNat_tmod i 64).symm
  have e3 : ((i : Int) / 64) = (k : Int) := by omega
  have e4 : ((i : Int) % 64) = (r : Int) := by omega
  clear hF hS hk hr hx64 hp64
  go_enter Tryd.func83, Tryd.ntmps83
  go_region
  rw [HOR.out]
  go_end0
  refine ⟨rfl, _, HF2.out, HA.out, ((Below.refl B W).setCell (p := ⟨B, k, none⟩) (Nat.le_refl _) _).drew, fun b hb => heap_setCell_other W ⟨B, k, none⟩ b _ (fun e => hb e)⟩
/-- The table that TrailingZeros64 reads, as its initialiser lays it. -/
def EvB (w : World) : Prop := 2 < w.heap.size ∧ ∀ j, j < Lib.deBruijn64tab.length → w.cell? ⟨2, j, none⟩ = some (.int .u8 (Lib.deBruijn64tab.getD j 0))
theorem EvB.below {w w' : World} {n : Nat} (h : EvB w) (hb : Below n w w') (hn : w.heap.size ≤ n) : EvB w' :=
  ⟨Nat.lt_of_lt_of_le h.1 hb.size, fun j hj => (hb.cell (p := ⟨2, j, none⟩) (Nat.lt_of_lt_of_le h.1 hn)).trans (h.2 j hj)⟩
set_option maxHeartbeats 2000000 in
theorem tz_core (x k idx : Nat) (w : World) (hx0 : ((x : Int) == 0) = false)
    (key : IntKind.u64.wrap (bits BinOp.and IntKind.u64 (x : Int) (IntKind.u64.wrap (-(x : Int))) * 285870213051353865) / 288230376151711744 = (idx : Int))
    (hi : idx < 64) (hcell : w.cell? ⟨2, idx, none⟩ = some (.int .u8 k)) (hk : k < 64) :
    Calls Tryd.prog 84 #[.int .u64 x] w fun e w' => e = .returned (.int .i64 k) ∧ w' = w := by
  go_enter Tryd.func84, Tryd.ntmps84
  go_wp2_with (simp only [key])
  go_ret
  exact ⟨rfl, rfl⟩
theorem tz_any (x : Nat) (hx : x < 2 ^ 64) (h0 : x ≠ 0) (w : World) (hE : EvB w) : Calls Tryd.prog 84 #[.int .u64 x] w fun e w' => e = .returned (.int .i64 (Lib.ctz 64 x : Nat)) ∧ w' = w := by
  obtain ⟨hlow, hk⟩ := Lib.lowest_bit 64 x h0 hx
  obtain ⟨hi, htab⟩ := Lib.deBruijn64_at _ hk
  have hcell := hE.2 _ hi
  rw [htab] at hcell
  exact tz_core x _ _ w (by simp; omega) (tz64_key x _ hx h0 hlow) hi hcell hk
end Pgm
end Go.Proofs.YtchcjinaagncjaaDoor
