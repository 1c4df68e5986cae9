/- The landed verify: targets, emptyTargets. · The landed verify: a set's add; math/bits.TrailingZeros64. -/
import Derived.Test.YtchcjinaagncjaaDoorGp8
import Derived.Test.YtchcjinaagncjaaDoorGp10
import Derived.Shelf.Spec.TrailingZeros
namespace Go.Proofs.YtchcjinaagncjaaDoor
open Go.RowKit
set_option linter.unusedVariables false
namespace Pgm
theorem inst_block (W : World) (i : In) : (W.alloc (.cells #[.int .i64 i.op, .int .i64 i.lo, .int .i64 i.hi, .int .i64 i.x, .int .i64 i.y] 60)).heap[W.heap.size]? = some (.cells #[.int .i64 i.op, .int .i64 i.lo, .int .i64 i.hi, .int .i64 i.x, .int .i64 i.y] 60 (0, 0)) := heap_alloc_new W _
/-- One number more, built as a row of one. -/
theorem app_one (w : World) (base : Nat) (v : Value) (T : List Int) (hv : IOwn w base v T) (hb : base ≤ w.heap.size) (N : Nat) (hN : T.length = N) (hT : N ≤ 100000) (c : Int) :
    ∃ a4 d4 W4, (Builtin.append_ #[30, 30] 30 #[v, .slice (some ⟨w.heap.size, 0, none⟩) 1 1]).run Tryd.prog (w.alloc (.cells #[.int .i64 c] 3)) = .ok (.slice a4 (N + 1) d4) W4 ∧ IOwn W4 base (.slice a4 (N + 1) d4) (T ++ [c]) ∧ Below base w W4 ∧ ∀ (b : Nat) (cs : Array Value) (t : TypeId) (f : Nat × Nat), w.heap[b]? = some (.cells cs t f) → t ≠ 3 → W4.heap[b]? = some (.cells cs t f) := by
  have hb4 : Below base w (w.alloc (.cells #[.int .i64 c] 3)) := (Below.refl _ _).alloc hb _
  have hnew : (w.alloc (.cells #[.int .i64 c] 3)).heap[w.heap.size]? = some (.cells #[.int .i64 c] 3 (0, 0)) := heap_alloc_new w _
  obtain ⟨v4, W4, hrun, ho4, hb5, hk5⟩ := append_i (w.alloc (.cells #[.int .i64 c] 3)) base v T (hv.alloc _) (Nat.le_trans hb hb4.size) (by omega) c w.heap.size hnew 1
  obtain ⟨a4, d4, h4⟩ := IOwn.sl ho4
  rw [List.length_append, hN] at h4
  subst h4
  exact ⟨a4, d4, W4, hrun, ho4, hb4.trans hb5, fun b cs t f h ht => hk5 b cs t f ((Below.heap_alloc _ _ _ (Array.getElem?_eq_some_iff.1 h).1).trans h) ht⟩
set_option maxRecDepth 100000 in
set_option maxHeartbeats 4000000 in
theorem targets_any (i : In) (W : World) : Calls Tryd.prog 79 #[.agg #[.int .i64 i.op, .int .i64 i.lo, .int .i64 i.hi, .int .i64 i.x, .int .i64 i.y]] W fun e w' => ∃ v, e = .returned v ∧ IOwn w' W.heap.size v (tgL i) ∧ Below W.heap.size W w' := by
  obtain ⟨W1, hW1⟩ : ∃ W1, W.alloc (.cells #[.int .i64 i.op, .int .i64 i.lo, .int .i64 i.hi, .int .i64 i.x, .int .i64 i.y] 60) = W1 := ⟨_, rfl⟩
  have hx := inst_block W i
  have hb1 : Below W.heap.size W W1 := by rw [← hW1]; exact (Below.refl _ _).alloc (Nat.le_refl _) _
  rw [hW1] at hx
  have HW1 := Lib.hid hW1
  have HX := Lib.hid hx
  have HB1 := Lib.hid hb1
  have hs1 := hb1.size
  have hsz : W1.heap.size = W.heap.size + 1 := by rw [← hW1]; simp
  have b0 := blkp hx 0
  have b3 := blkp hx 3
  have b4 := blkp hx 4
  simp only [List.getElem?_toArray, List.getElem?_cons_zero, List.getElem?_cons_succ] at b0 b3 b4
  by_cases h2 : i.op = 2
  · obtain ⟨a3, d3, W3, hr3, ho3, hb3, hk3⟩ := app_one W1 W.heap.size (.slice none 0 0) [] IOwn.nil hs1 0 rfl (by omega) i.y
    have hx3 := hk3 _ _ _ _ hx (by decide)
    obtain ⟨a5, d5, W5, hr5, ho5, hb5, hk5⟩ := app_one W3 W.heap.size _ _ ho3 (Nat.le_trans hs1 hb3.size) 1 rfl (by omega) i.x
    rw [hsz] at hr3
    simp only [Nat.zero_add, Nat.reduceAdd] at hr3 ho3 hr5 ho5
    have HR3 := Lib.hid hr3
    have HR5 := Lib.hid hr5
    have HO : Hid (IOwn W5 W.heap.size (.slice a5 2 d5) (tgL i)) := Lib.hid (by unfold tgL; rw [if_pos h2]; exact ho5)
    have HB := Lib.hid (hb1.trans (hb3.trans hb5))
    have q3 := blkp hx3 3
    simp only [List.getElem?_toArray, List.getElem?_cons_zero, List.getElem?_cons_succ] at q3
    rw [h2] at b0 hW1 ⊢
    rw [h2] at HW1
    clear hr3 hr5 ho3 ho5 hb3 hb5 hk3 hk5 hx hx3 hb1 hs1 hW1 h2 hsz
    go_enter Tryd.func79, Tryd.ntmps79
    go_wp2_with (at_builtin; first | (rw [HW1.out]; refine wpList_append_run rfl _ _ 30 rfl _ _ _ W3 rfl rfl HR3.out ?_) | (refine wpList_append_run rfl _ _ 30 rfl _ _ _ W5 rfl rfl HR5.out ?_))
    go_ret
    exact ⟨_, rfl, HO.out, HB.out⟩
  by_cases h1 : i.op = 1 ∨ i.op = 3 ∨ i.op = 4
  · obtain ⟨a5, d5, W5, hr5, ho5, hb5, hk5⟩ := app_one W1 W.heap.size (.slice none 0 0) [] IOwn.nil hs1 0 rfl (by omega) i.x
    rw [hsz] at hr5
    simp only [Nat.zero_add, Nat.reduceAdd] at hr5 ho5
    have HR5 := Lib.hid hr5
    have HO : Hid (IOwn W5 W.heap.size (.slice a5 1 d5) (tgL i)) := Lib.hid (by unfold tgL; rw [if_neg h2, if_pos h1]; exact ho5)
    have HB := Lib.hid (hb1.trans hb5)
    clear hr5 ho5 hb5 hk5 hx hb1 hs1 hW1 hsz
    rcases h1 with h | h | h <;> rw [h] at b0 HW1 ⊢ <;> clear h h2 <;>
    (go_enter Tryd.func79, Tryd.ntmps79
     go_wp2_with (at_builtin; (rw [HW1.out]; refine wpList_append_run rfl _ _ 30 rfl _ _ _ W5 rfl rfl HR5.out ?_))
     go_ret
     exact ⟨_, rfl, HO.out, HB.out⟩)
  · have HO : Hid (IOwn W1 W.heap.size (.slice none 0 0) (tgL i)) := Lib.hid (by unfold tgL; rw [if_neg h2, if_neg h1]; exact IOwn.nil)
    have h3 : ¬ i.op = 1 := fun h => h1 (.inl h)
    have h4 : ¬ i.op = 3 := fun h => h1 (.inr (.inl h))
    have h5 : ¬ i.op = 4 := fun h => h1 (.inr (.inr h))
    clear hx hb1 hs1 hW1 h1 hsz
    go_enter Tryd.func79, Tryd.ntmps79
    go_wp2
    go_ret
    rw [HW1.out]
    exact ⟨_, rfl, HO.out, HB1.out⟩
set_option maxRecDepth 100000 in
set_option maxHeartbeats 4000000 in
theorem empty_any (i : In) (W : World) : Calls Tryd.prog 85 #[.agg #[.int .i64 i.op, .int .i64 i.lo, .int .i64 i.hi, .int .i64 i.x, .int .i64 i.y]] W fun e w' => ∃ v, e = .returned v ∧ IOwn w' W.heap.size v (etL i) ∧ Below W.heap.size W w' := by
  obtain ⟨W1, hW1⟩ : ∃ W1, W.alloc (.cells #[.int .i64 i.op, .int .i64 i.lo, .int .i64 i.hi, .int .i64 i.x, .int .i64 i.y] 60) = W1 := ⟨_, rfl⟩
  have hx := inst_block W i
  have hb1 : Below W.heap.size W W1 := by rw [← hW1]; exact (Below.refl _ _).alloc (Nat.le_refl _) _
  rw [hW1] at hx
  have HW1 := Lib.hid hW1
  have HB1 := Lib.hid hb1
  have b0 := blkp hx 0
  have b1 := blkp hx 1
  have b2 := blkp hx 2
  have b3 := blkp hx 3
  have b4 := blkp hx 4
  simp only [List.getElem?_toArray, List.getElem?_cons_zero, List.getElem?_cons_succ] at b0 b1 b2 b3 b4
  by_cases h1 : i.op = 1
  · have HO : Hid (IOwn W1 W.heap.size (.slice none 0 0) (etL i)) := Lib.hid (by unfold etL; rw [if_pos h1]; exact IOwn.nil)
    clear hx hb1 hW1
    rw [h1] at b0 HW1 ⊢
    clear h1
    go_enter Tryd.func85, Tryd.ntmps85
    go_wp2
    go_ret
    rw [HW1.out]
    exact ⟨_, rfl, HO.out, HB1.out⟩
  · have HT := Lib.hid (targets_any i W1)
    have HE : Hid (etL i = tgL i) := Lib.hid (by unfold etL; rw [if_neg h1])
    clear hx hb1 hW1
    go_enter Tryd.func85, Tryd.ntmps85
    go_wp2_with fail
    rw [HW1.out]
    refine HT.out.mono ?_
    rintro e w2 ⟨v, rfl, ho, hb⟩
    have HO := Lib.hid (ho.lower HB1.out.size)
    have HB := Lib.hid (HB1.out.trans (hb.mono HB1.out.size))
    clear ho hb b0 b1 b2 b3 b4
    go_wp2
    go_ret
    exact ⟨v, rfl, by rw [HE.out]; exact HO.out, HB.out⟩
end Pgm
end Go.Proofs.YtchcjinaagncjaaDoor
namespace Go.Proofs.YtchcjinaagncjaaDoor
open Go.RowKit
set_option linter.unusedVariables false
namespace Pgm
/-- A set in its array of words. -/
def Wds (w : World) (B : Nat) (F : List Nat) : Prop := w.heap[B]? = some (.cells (F.map (fun x : Nat => Value.int .u64 (x : Int))).toArray 136 (0, 0))
theorem Wds.cell {w : World} {B : Nat} {F : List Nat} (h : Wds w B F) {k : Nat} (hk : k < F.length) : w.cell? ⟨B, k, none⟩ = some (.int .u64 ((F.getD k 0 : Nat) : Int)) ∧ w.frozen? ⟨B, k, none⟩ = false := by
  unfold Wds at h
  refine ⟨?_, by simp [World.frozen?, h]⟩
  rw [blkp h k]
  simp [List.getD, List.getElem?_eq_getElem hk]
theorem Wds.set {w : World} {B : Nat} {F : List Nat} (h : Wds w B F) (k x : Nat) : Wds (w.setCell ⟨B, k, none⟩ (.int .u64 (x : Int))) B (F.set k x) := by
  unfold Wds at h ⊢
  rw [heap_setCell_same w B k _ _ _ h]
  congr 2
  apply Array.toList_inj.1
  rw [Array.toList_setIfInBounds, List.map_set]
theorem Wds.below {w w' : World} {B n : Nat} {F : List Nat} (h : Wds w B F) (hb : Below n w w') (hn : B < n) : Wds w' B F := (hb.block B hn).trans h
set_option maxRecDepth 100000 in
set_option maxHeartbeats 4000000 in
theorem vfadd_any (W : World) (B : Nat) (F : List Nat) (S : Nat → Bool) (hF : Wds W B F) (hS : Wd F S) (i : Nat) (hi : i < 4032) :
    Calls Tryd.prog 83 #[.pointer (some ⟨B, 0, none⟩), .int .i64 (i : Int)] W fun e w' => e = .returned (.tuple #[]) ∧ ∃ F', Wds w' B F' ∧ Wd F' (fun j => S j || decide (j = i)) ∧ Below B W w' ∧ ∀ b, b ≠ B → w'.heap[b]? = W.heap[b]? := by
  obtain ⟨k, hk⟩ : ∃ k, i / 64 = k := ⟨_, rfl⟩
  obtain ⟨r, hr⟩ : ∃ r, i % 64 = r := ⟨_, rfl⟩
  have hk63 : k < 63 := by omega
  have hr64 : r < 64 := by omega
  obtain ⟨c1, c2⟩ := hF.cell (k := k) (by rw [hS.1]; exact hk63)
  have hx64 : F.getD k 0 < 2 ^ 64 := (hS.2 k hk63).1
  have hp64 : 2 ^ r < 2 ^ 64 := Nat.pow_lt_pow_right (by omega) hr64
  have hor := bits_or_u64_nat (F.getD k 0) (2 ^ r) hx64 hp64
  have hsh : IntKind.u64.wrap (2 ^ r) = (2 : Int) ^ r := by
    rw [IntKind.wrap_u64]
    have : ((2 : Int) ^ r) = ((2 ^ r : Nat) : Int) := by simp
    rw [this]
    exact Int.emod_eq_of_lt (Int.natCast_nonneg _) (Int.ofNat_lt.2 (show 2 ^ r < 18446744073709551616 from hp64))
  have hs1 : (0 : Int) ≤ (r : Int) := by omega
  have hs2 : (r : Int) < 64 := by omega
  have HA := Lib.hid (hS.add (i := i) hi)
  rw [hk, hr] at HA
  generalize F.getD k 0 = x at *
  have HF2 := Lib.hid (hF.set k (x ||| 2 ^ r))
  have hor2 : bits .or .u64 (x : Int) ((2 : Int) ^ r) = ((x ||| 2 ^ r : Nat) : Int) := by
    rw [← hor]; simp
  have HOR := Lib.hid hor2
  clear hor hor2
  have e1 : (i : Int).tdiv 64 = (k : Int) := by rw [← hk]; exact (Int.ofNat_tdiv i 64).symm
  have e2 : (i : Int).tmod 64 = (r : Int) := by rw [← hr]; exact (Int.ofNat_tmod i 64).symm
  have e3 : ((i : Int) / 64) = (k : Int) := by omega
  have e4 : ((i : Int) % 64) = (r : Int) := by omega
  clear hF hS hk hr hx64 hp64
  go_enter Tryd.func83, Tryd.ntmps83
  go_region
  rw [HOR.out]
  go_end0
  refine ⟨rfl, _, HF2.out, HA.out, ((Below.refl B W).setCell (p := ⟨B, k, none⟩) (Nat.le_refl _) _).drew, fun b hb => heap_setCell_other W ⟨B, k, none⟩ b _ (fun e => hb e)⟩
/-- The table that TrailingZeros64 reads, as its initialiser lays it. -/
def EvB (w : World) : Prop := 2 < w.heap.size ∧ ∀ j, j < Lib.deBruijn64tab.length → w.cell? ⟨2, j, none⟩ = some (.int .u8 (Lib.deBruijn64tab.getD j 0))
theorem EvB.below {w w' : World} {n : Nat} (h : EvB w) (hb : Below n w w') (hn : w.heap.size ≤ n) : EvB w' :=
  ⟨Nat.lt_of_lt_of_le h.1 hb.size, fun j hj => (hb.cell (p := ⟨2, j, none⟩) (Nat.lt_of_lt_of_le h.1 hn)).trans (h.2 j hj)⟩
set_option maxHeartbeats 2000000 in
theorem tz_core (x k idx : Nat) (w : World) (hx0 : ((x : Int) == 0) = false)
    (key : IntKind.u64.wrap (bits BinOp.and IntKind.u64 (x : Int) (IntKind.u64.wrap (-(x : Int))) * 285870213051353865) / 288230376151711744 = (idx : Int))
    (hi : idx < 64) (hcell : w.cell? ⟨2, idx, none⟩ = some (.int .u8 k)) (hk : k < 64) :
    Calls Tryd.prog 84 #[.int .u64 x] w fun e w' => e = .returned (.int .i64 k) ∧ w' = w := by
  go_enter Tryd.func84, Tryd.ntmps84
  go_wp2_with (simp only [key])
  go_ret
  exact ⟨rfl, rfl⟩
theorem tz_any (x : Nat) (hx : x < 2 ^ 64) (h0 : x ≠ 0) (w : World) (hE : EvB w) : Calls Tryd.prog 84 #[.int .u64 x] w fun e w' => e = .returned (.int .i64 (Lib.ctz 64 x : Nat)) ∧ w' = w := by
  obtain ⟨hlow, hk⟩ := Lib.lowest_bit 64 x h0 hx
  obtain ⟨hi, htab⟩ := Lib.deBruijn64_at _ hk
  have hcell := hE.2 _ hi
  rw [htab] at hcell
  exact tz_core x _ _ w (by simp; omega) (tz64_key x _ hx h0 hlow) hi hcell hk
end Pgm
end Go.Proofs.YtchcjinaagncjaaDoor
