/- burinlaw16.works, next. -/
import Derived.Test.YtchcjinaagncjaaDoorGp21
import Derived.Test.YtchcjinaagncjaaDoorGp22
namespace Go.Proofs.YtchcjinaagncjaaDoor
open Go.RowKit
set_option linter.unusedVariables false
set_option linter.unusedSimpArgs false
namespace Pgm
def loopL : List In := [⟨2, 0, 0, 0, 1⟩, ⟨5, 0, 0, 0, 0⟩]
def fineL : List In := [⟨1, 0, 255, 0, 0⟩]
theorem loop_chk : chkV loopL 0 2 = 151 := by decide +kernel
theorem fine_chk : chkV fineL 0 2 = 0 := by decide +kernel
theorem fine_ord : ordF fineL = [0] := by decide +kernel
theorem fine_rch : rchL fineL 0 = [0] := by
  have h := rchL_is (l := fineL) (s := 0) (K := fun _ => true) (fun i hi => by
    have : i = 0 := by simp [fineL] at hi; omega
    subst this
    exact ⟨fun _ => .start, fun _ => rfl⟩)
  rw [← h]; rfl
theorem i64_small (z : Int) (h1 : -1000 ≤ z) (h2 : z ≤ 1000) : I64 z := ⟨by omega, by omega⟩
theorem lit_row (w : World) (c : Int) : IRow (w.alloc (.cells #[.int .i64 c] 3)) (.slice (some ⟨w.heap.size, 0, none⟩) 1 1) [c] :=
  ⟨_, _, rfl, Nat.le_refl _, by decide, fun j hj => by
    have hj0 : j = 0 := by simpa using hj
    subst hj0
    exact ⟨_, rfl, by simp, blkp (heap_alloc_new w _) 0⟩⟩
set_option maxRecDepth 100000 in
set_option maxHeartbeats 8000000 in
theorem works16_any (W : World) (hE : EvV W) : Calls Tryd.prog 17 #[] W fun e w' => e = .returned (.bool true) ∧ Below W.heap.size W w' := by
  obtain ⟨W1, hW1⟩ : ∃ W1, W.alloc (.cells #[.int .i64 2, .int .i64 0, .int .i64 0, .int .i64 0, .int .i64 1, .int .i64 5, .int .i64 0, .int .i64 0, .int .i64 0, .int .i64 0] 60) = W1 := ⟨_, rfl⟩
  have hx1 : W1.heap[W.heap.size]? = some (.cells #[.int .i64 2, .int .i64 0, .int .i64 0, .int .i64 0, .int .i64 1, .int .i64 5, .int .i64 0, .int .i64 0, .int .i64 0, .int .i64 0] 60 (0, 0)) := by rw [← hW1]; exact heap_alloc_new W _
  have hs1 : W1.heap.size = W.heap.size + 1 := by rw [← hW1]; simp
  have hb1 : Below W.heap.size W W1 := by rw [← hW1]; exact (Below.refl _ _).alloc (Nat.le_refl _) _
  obtain ⟨W2, hW2⟩ : ∃ W2, W1.alloc (.cells #[.slice (some ⟨W.heap.size, 0, none⟩) 2 2, .int .i64 0, .int .i64 2] 46) = W2 := ⟨_, rfl⟩
  have hx2 := (show W2.heap[W.heap.size]? = W1.heap[W.heap.size]? from by rw [← hW2]; exact Below.heap_alloc _ _ _ (by omega)).trans hx1
  have hy2 : W2.heap[W.heap.size + 1]? = some (.cells #[.slice (some ⟨W.heap.size, 0, none⟩) 2 2, .int .i64 0, .int .i64 2] 46 (0, 0)) := by rw [← hW2, ← hs1]; exact heap_alloc_new W1 _
  have hs2 : W2.heap.size = W.heap.size + 2 := by rw [← hW2]; simp [hs1]
  have hb2 : Below W.heap.size W W2 := by rw [← hW2]; exact hb1.alloc (by omega) _
  obtain ⟨W3, hW3⟩ : ∃ W3, W2.alloc (.cells #[.int .i64 1, .int .i64 0, .int .i64 255, .int .i64 0, .int .i64 0] 60) = W3 := ⟨_, rfl⟩
  have hb23 : Below W2.heap.size W2 W3 := by rw [← hW3]; exact (Below.refl _ _).alloc (Nat.le_refl _) _
  have hz3 : W3.heap[W.heap.size + 2]? = some (.cells #[.int .i64 1, .int .i64 0, .int .i64 255, .int .i64 0, .int .i64 0] 60 (0, 0)) := by rw [← hW3, ← hs2]; exact heap_alloc_new W2 _
  have hs3 : W3.heap.size = W.heap.size + 3 := by rw [← hW3]; simp [hs2]
  obtain ⟨W4, hW4⟩ : ∃ W4, W3.alloc (.cells #[.slice (some ⟨W.heap.size + 2, 0, none⟩) 1 1, .int .i64 0, .int .i64 2] 46) = W4 := ⟨_, rfl⟩
  have hb34 : Below W3.heap.size W3 W4 := by rw [← hW4]; exact (Below.refl _ _).alloc (Nat.le_refl _) _
  have hx4 := (hb34.block W.heap.size (by omega)).trans ((hb23.block W.heap.size (by omega)).trans hx2)
  have hy4 := (hb34.block (W.heap.size + 1) (by omega)).trans ((hb23.block (W.heap.size + 1) (by omega)).trans hy2)
  have hz4 := (hb34.block (W.heap.size + 2) (by omega)).trans hz3
  have hv4 : W4.heap[W.heap.size + 3]? = some (.cells #[.slice (some ⟨W.heap.size + 2, 0, none⟩) 1 1, .int .i64 0, .int .i64 2] 46 (0, 0)) := by rw [← hW4, ← hs3]; exact heap_alloc_new W3 _
  have hb4 : Below W.heap.size W W4 := hb2.trans ((hb23.mono (by omega)).trans (hb34.mono (by omega)))
  have hs4 : W4.heap.size = W.heap.size + 4 := by rw [← hW4]; simp [hs3]
  have hrl : InRow W4 (.slice (some ⟨W.heap.size, 0, none⟩) 2 2) loopL := by
    refine ⟨_, _, rfl, by decide, ?_, fun j hj => ⟨W.heap.size, 0, rfl, (Array.getElem?_eq_some_iff.1 hx4).1, fun q hq => ?_⟩⟩
    · intro i hi
      simp only [loopL, List.mem_cons, List.not_mem_nil, or_false] at hi
      rcases hi with rfl | rfl <;> exact ⟨i64_small _ (by decide) (by decide), i64_small _ (by decide) (by decide), i64_small _ (by decide) (by decide), i64_small _ (by decide) (by decide), i64_small _ (by decide) (by decide)⟩
    · rw [blkp hx4]
      have h2 : j = 0 ∨ j = 1 := by simp [loopL] at hj; omega
      have h5 : q = 0 ∨ q = 1 ∨ q = 2 ∨ q = 3 ∨ q = 4 := by omega
      rcases h2 with rfl | rfl <;> rcases h5 with rfl | rfl | rfl | rfl | rfl <;> rfl
  have hrf : InRow W4 (.slice (some ⟨W.heap.size + 2, 0, none⟩) 1 1) fineL := by
    refine ⟨_, _, rfl, by decide, ?_, fun j hj => ⟨W.heap.size + 2, 0, rfl, (Array.getElem?_eq_some_iff.1 hz4).1, fun q hq => ?_⟩⟩
    · intro i hi
      simp only [fineL, List.mem_cons, List.not_mem_nil, or_false] at hi
      rcases hi with rfl; exact ⟨i64_small _ (by decide) (by decide), i64_small _ (by decide) (by decide), i64_small _ (by decide) (by decide), i64_small _ (by decide) (by decide), i64_small _ (by decide) (by decide)⟩
    · rw [blkp hz4]
      have h2 : j = 0 := by simp [fineL] at hj; omega
      have h5 : q = 0 ∨ q = 1 ∨ q = 2 ∨ q = 3 ∨ q = 4 := by omega
      subst h2
      rcases h5 with rfl | rfl | rfl | rfl | rfl <;> rfl
  have hnw := new_yes fineL 0 2 _ W4 hrf (hE.below (Nat.le_refl _) hb4) fine_chk
  have HNW := Lib.hid hnw
  have HCK : Hid (∀ w, Below W4.heap.size W4 w → Calls Tryd.prog 20 #[.agg #[.slice (some ⟨W.heap.size, 0, none⟩) 2 2, .int .i64 0, .int .i64 2]] w fun e w' => e = .returned (.int .i64 151) ∧ Below w.heap.size w w') := Lib.hid (fun w h => by
    have := vcheck_any loopL 0 2 _ w (hrl.below (Nat.le_refl _) h) ((hE.below (Nat.le_refl _) hb4).below (Nat.le_refl _) h)
    rw [loop_chk] at this
    exact this)
  have HEV : Hid (∀ w, Below W4.heap.size W4 w → EvV w) := Lib.hid (fun w h => (hE.below (Nat.le_refl _) hb4).below (Nat.le_refl _) h)
  have HV4 := Lib.hid hv4
  have HY4 := Lib.hid hy4
  have HB4 := Lib.hid hb4
  have HS4 := Lib.hid hs4
  have HW1 := Lib.hid hW1
  have HW2 := Lib.hid hW2
  have HW3 := Lib.hid hW3
  have HW4 := Lib.hid hW4
  have c0 := blkp hv4 0
  have c1 := blkp hv4 1
  have c2 := blkp hv4 2
  simp only [List.getElem?_toArray, List.getElem?_cons_zero, List.getElem?_cons_succ] at c0 c1 c2
  clear hE hx1 hs1 hb1 hx2 hy2 hs2 hb2 hb23 hz3 hs3 hb34 hx4 hy4 hz4 hv4 hb4 hs4 hrl hrf hnw hW1 hW2 hW3 hW4
  go_enter Tryd.func17, Tryd.ntmps17
  go_wp2_with fail
  rw [HW1.out, HW2.out, HW3.out, HW4.out]
  refine HNW.out.mono ?_
  rintro e w5 ⟨G, v, rfl, hc, hb⟩
  have HC5 := Lib.hid hc
  have HB5 := Lib.hid hb
  have hy5 := (hb.block (W.heap.size + 1) (by rw [HS4.out]; omega)).trans HY4.out
  have d0 := blkp hy5 0
  have d1 := blkp hy5 1
  have d2 := blkp hy5 2
  simp only [List.getElem?_toArray, List.getElem?_cons_zero, List.getElem?_cons_succ] at d0 d1 d2
  clear hc hb hy5 c0 c1 c2
  go_wp2_with fail
  refine (HCK.out w5 HB5.out).mono ?_
  rintro e w6 ⟨rfl, hb6⟩
  have HC6 := Lib.hid (HC5.out.below hb6 (Nat.le_refl _))
  have HB6 := Lib.hid (HB5.out.trans (hb6.mono HB5.out.size))
  clear hb6 d0 d1 d2
  go_wp2_with fail
  refine (vlen_any HC6.out).mono ?_
  rintro e w ⟨rfl, hw⟩
  subst hw
  rw [show (fineL.length : Nat) = 1 from rfl]
  go_wp2_with fail
  refine (vslots_any HC6.out).mono ?_
  rintro e w ⟨rfl, hw⟩
  subst hw
  go_wp2_with fail
  refine (vorder_any HC6.out (HEV.out _ HB6.out)).mono ?_
  rintro e w7 ⟨u, rfl, ho, hb7⟩
  rw [fine_ord] at ho
  have HO7 := Lib.hid ho
  obtain ⟨a7, d7, e7⟩ := IOwn.sl ho
  simp only [List.length_map, List.length_cons, List.length_nil, Nat.zero_add] at e7
  subst e7
  have HC7 := Lib.hid (HC6.out.below hb7 (Nat.le_refl _))
  have HB7 := Lib.hid (HB6.out.trans (hb7.mono HB6.out.size))
  clear ho hb7
  have hb8 : Below w7.heap.size w7 (w7.alloc (.cells #[.int .i64 0] 3)) := (Below.refl _ _).alloc (Nat.le_refl _) _
  have HSI := Lib.hid (same_int (w7.alloc (.cells #[.int .i64 0] 3)) _ _ _ _ (IOwn.row (HO7.out.below hb8)) (lit_row w7 0) (by simp) (by simp))
  have HC8 := Lib.hid (HC7.out.below hb8 (Nat.le_refl _))
  have HB8 := Lib.hid (HB7.out.trans (hb8.mono HB7.out.size))
  obtain ⟨w8, hw8⟩ : ∃ w8, w7.alloc (.cells #[.int .i64 0] 3) = w8 := ⟨_, rfl⟩
  rw [hw8] at HSI HC8 HB8
  have HW8 := Lib.hid hw8
  simp only [List.map_cons, List.map_nil, List.length_cons, List.length_nil, Nat.zero_add] at HSI
  have e0 : decide ([Int.ofNat 0] = [(0 : Int)]) = true := by decide
  rw [e0] at HSI
  clear hb8 hw8 e0
  go_wp2_with fail
  rw [HW8.out]
  refine HSI.out.mono ?_
  rintro e w9 ⟨rfl, d9, rfl⟩
  have HC9 : Hid (CkOn (w8.drewN d9) G v fineL 0 2 W4.heap.size) := Lib.hid (HC8.out.below (below_drewN (Below.refl w8.heap.size w8) d9) (Nat.le_refl _))
  have HB9 := Lib.hid (below_drewN HB8.out d9)
  obtain ⟨w9, hw9⟩ : ∃ w9, w8.drewN d9 = w9 := ⟨_, rfl⟩
  rw [hw9] at HC9 HB9 ⊢
  clear hw9
  go_wp2_with fail
  refine (vreached_any HC9.out).mono ?_
  rintro e w10 ⟨u2, rfl, ho, hb10⟩
  have HO10 : Hid (IOwn w10 w9.heap.size u2 ([0].map Int.ofNat)) := Lib.hid (by rw [← fine_rch]; exact ho)
  obtain ⟨a10, d10, e10⟩ := IOwn.sl HO10.out
  simp only [List.length_map, List.length_cons, List.length_nil, Nat.zero_add] at e10
  subst e10
  have HB10 := Lib.hid (HB9.out.trans (hb10.mono HB9.out.size))
  clear ho hb10
  have hb11 : Below w10.heap.size w10 (w10.alloc (.cells #[.int .i64 0] 3)) := (Below.refl _ _).alloc (Nat.le_refl _) _
  have HSJ := Lib.hid (same_int (w10.alloc (.cells #[.int .i64 0] 3)) _ _ _ _ (IOwn.row (HO10.out.below hb11)) (lit_row w10 0) (by simp) (by simp))
  have HB11 := Lib.hid (HB10.out.trans (hb11.mono HB10.out.size))
  obtain ⟨w11, hw11⟩ : ∃ w11, w10.alloc (.cells #[.int .i64 0] 3) = w11 := ⟨_, rfl⟩
  rw [hw11] at HSJ HB11
  have HW11 := Lib.hid hw11
  simp only [List.map_cons, List.map_nil, List.length_cons, List.length_nil, Nat.zero_add] at HSJ
  have e0 : decide ([Int.ofNat 0] = [(0 : Int)]) = true := by decide
  rw [e0] at HSJ
  clear hb11 hw11 e0
  go_wp2_with fail
  rw [HW11.out]
  refine HSJ.out.mono ?_
  rintro e w12 ⟨rfl, d12, rfl⟩
  have HB12 := Lib.hid (below_drewN HB11.out d12)
  go_wp2
  go_ret
  exact ⟨rfl, HB4.out.trans (HB12.out.mono (by have := HB4.out.size; omega))⟩
end Pgm
end Go.Proofs.YtchcjinaagncjaaDoor
