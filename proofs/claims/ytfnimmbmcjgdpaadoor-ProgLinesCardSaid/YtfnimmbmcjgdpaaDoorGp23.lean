/- The landed prog: opOf, instruction. -/
import Derived.Test.YtfnimmbmcjgdpaaDoorGp22
namespace Go.Proofs.YtfnimmbmcjgdpaaDoor
open Go.RowKit Go.Shelf
set_option linter.unusedVariables false
namespace Pgm
theorem beq_wB (k : Nat) (s : ByteArray) : ((wB k).toList == s.toList) = decide (wBytes (k : Int) = s.data.toList) := by
  rw [ByteArray.toList_eq, ByteArray.toList_eq, wB_list, Bool.eq_iff_iff, beq_iff_eq, decide_eq_true_iff]
theorem opAll_size : (Tryd.prog.info? 89).map (·.size) = some opAll.toArray.size := by kernel_rfl
set_option maxRecDepth 100000 in
set_option maxHeartbeats 4000000 in
theorem opOf14 (W : World) (s : ByteArray) (hE : EvO W) : Calls Tryd.prog 108 #[.string s] W fun e w' => e = .returned (.int .i64 (opOf s.data.toList)) ∧ Below W.heap.size W w' := by
  obtain ⟨t, fr, hw⟩ := hE.whole
  obtain ⟨X, hX⟩ : ∃ X, opOf s.data.toList = X := ⟨_, rfl⟩
  have HF : Hid (∀ k : Nat, k < 7 → wBytes (k : Int) = s.data.toList → (∀ j : Nat, j < k → wBytes (j : Int) ≠ s.data.toList) → X = (k : Int)) := Lib.hid (fun k h1 h2 h3 => by rw [← hX]; exact opOf_first h1 h2 h3)
  have HN : Hid ((∀ j : Nat, j < 7 → wBytes (j : Int) ≠ s.data.toList) → X = 0) := Lib.hid (fun h => by rw [← hX]; exact opOf_none h)
  rw [hX]
  have HI := Lib.hid (fun k (hk : k < 7) w => index_op k hk w)
  have HSZ := Lib.hid opAll_size
  obtain ⟨OA, hOA⟩ : ∃ OA, opAll.toArray = OA := ⟨_, rfl⟩
  rw [hOA] at hw HI HSZ
  have HW := Lib.hid hw
  clear hX hE hOA hw
  go_enter Tryd.func108, Tryd.ntmps108
  go_wp2_with (refine wpList_load_row rfl 89 _ rfl 1 rfl t _ fr _ HW.out Tryd.underlying89 rfl HSZ.out ?_)
  go_loopw [6] (fun K wr => ∃ k : Nat, k ≤ 7 ∧ K = .int .i64 (k : Int) ∧ Hid (∀ j : Nat, j < k → wBytes (j : Int) ≠ s.data.toList) ∧ Hid (Below W.heap.size W wr)) (fun K _ => 7 - (intOf K).toNat)
  case atStart => exact ⟨0, by omega, rfl, Lib.hid (fun j hj => absurd hj (by omega)), Lib.hid (Below.refl _ _)⟩
  case round =>
    obtain ⟨k, hk, rfl, HA, HB⟩ := hrel
    by_cases hlt : k < 7
    · have hix := HI.out k hlt
      unfold opC at hix
      have hbq := beq_wB k s
      have HB2 : Hid (∀ o : Obj, Below W.heap.size W (wr.alloc o)) := Lib.hid (fun o => HB.out.alloc HB.out.size o)
      by_cases hin : wBytes (k : Int) = s.data.toList
      · have HX := Lib.hid (HF.out k hlt hin HA.out)
        rw [decide_eq_true hin] at hbq
        clear hin
        go_wp2
        go_ret
        exact ⟨ret_code HX.out, HB2.out _⟩
      · have HA2 : Hid (∀ j, j < k + 1 → wBytes (j : Int) ≠ s.data.toList) := Lib.hid (fun j hj => by
          by_cases e : j = k
          · rw [e]; exact hin
          · exact HA.out j (by omega))
        rw [decide_eq_false hin] at hbq
        clear hin
        go_wp2
        go_roundw
        case rel => exact ⟨k + 1, by omega, by go_num, HA2, HB2.out _⟩
        case measure => simp [intOf]; omega
    · obtain rfl : k = 7 := by omega
      have HX := Lib.hid (HN.out HA.out)
      go_wp2
      go_ret
      exact ⟨ret_code HX.out, HB.out⟩
/-- What is left of a line behind its first k fields; their numbers. -/
def restK (o : Nat) (r : List UInt8) : Nat → List UInt8
  | 0 => r
  | k + 1 => if hasF o k = true then cutB 32 (restK o r k) else restK o r k
def valK (o : Nat) (r : List UInt8) (k j : Nat) : Int := if j < k ∧ hasF o j = true then numV (restK o r j) else 0
theorem restK_le (o : Nat) (r : List UInt8) : ∀ k, (restK o r k).length ≤ r.length
  | 0 => Nat.le_refl _
  | k + 1 => by
    have h1 := restK_le o r k
    have h2 := cutB_le 32 (restK o r k)
    rw [restK]
    split <;> omega
theorem instOf_val (o : Nat) (h : o < 7) (r : List UInt8) : instOf (o : Int) r = ⟨(o : Int), valK o r 4 0, valK o r 4 1, valK o r 4 2, valK o r 4 3⟩ := by
  have : o = 0 ∨ o = 1 ∨ o = 2 ∨ o = 3 ∨ o = 4 ∨ o = 5 ∨ o = 6 := by omega
  rcases this with rfl | rfl | rfl | rfl | rfl | rfl | rfl <;> simp [instOf, valK, restK, hasF, spA, spB]
theorem opOf_lt (w : List UInt8) : ∃ o : Nat, o < 7 ∧ opOf w = (o : Int) := by
  unfold opOf
  split
  · exact ⟨1, by omega, rfl⟩
  split
  · exact ⟨2, by omega, rfl⟩
  split
  · exact ⟨3, by omega, rfl⟩
  split
  · exact ⟨4, by omega, rfl⟩
  split
  · exact ⟨5, by omega, rfl⟩
  split
  · exact ⟨6, by omega, rfl⟩
  · exact ⟨0, by omega, rfl⟩
def valsA (o : Nat) (r : List UInt8) (k : Nat) : Array Value := #[.int .i64 (valK o r k 0), .int .i64 (valK o r k 1), .int .i64 (valK o r k 2), .int .i64 (valK o r k 3)]
theorem vals_yes (o : Nat) (r : List UInt8) (k : Nat) (hk : k < 4) (h : hasF o k = true) : (valsA o r k).setIfInBounds k (.int .i64 (numV (restK o r k))) = valsA o r (k + 1) := by
  have : k = 0 ∨ k = 1 ∨ k = 2 ∨ k = 3 := by omega
  rcases this with rfl | rfl | rfl | rfl <;> simp [valsA, valK, h]
theorem vals_no (o : Nat) (r : List UInt8) (k : Nat) (hk : k < 4) (h : hasF o k = false) : valsA o r k = valsA o r (k + 1) := by
  have : k = 0 ∨ k = 1 ∨ k = 2 ∨ k = 3 := by omega
  rcases this with rfl | rfl | rfl | rfl <;> simp [valsA, valK, h]
theorem vals_at (o : Nat) (r : List UInt8) (k j : Nat) (hj : j < 4) : (valsA o r k)[j]? = some (.int .i64 (valK o r k j)) := by
  have : j = 0 ∨ j = 1 ∨ j = 2 ∨ j = 3 := by omega
  rcases this with rfl | rfl | rfl | rfl <;> rfl
theorem frzp {W : World} {B : Nat} {cs : Array Value} {t : TypeId} (h : W.heap[B]? = some (.cells cs t (0, 0))) (j : Nat) : W.frozen? ⟨B, j, none⟩ = false := by simp [World.frozen?, h]
set_option maxRecDepth 100000 in
set_option maxHeartbeats 8000000 in
theorem inst14 (W : World) (s : ByteArray) (hs : s.size ≤ 1000000000) (hE : EvP W) : Calls Tryd.prog 84 #[.string s] W fun e w' => e = .returned (instX s.data.toList).v ∧ Below W.heap.size W w' := by
  obtain ⟨o, ho7, ho⟩ := opOf_lt (cutA 32 s.data.toList)
  obtain ⟨r, hr⟩ : ∃ r, cutB 32 s.data.toList = r := ⟨_, rfl⟩
  have hrl : r.length ≤ 1000000000 := by
    rw [← hr]
    have h1 := cutB_le 32 s.data.toList
    have h2 : s.data.toList.length = s.size := by simp
    omega
  have hX : instX s.data.toList = ⟨(o : Int), valK o r 4 0, valK o r 4 1, valK o r 4 2, valK o r 4 3⟩ := by unfold instX; rw [ho, hr]; exact instOf_val o ho7 r
  rw [hX]
  unfold In.v
  dsimp only
  obtain ⟨W1, hW1⟩ : ∃ W1, W.alloc (.cells #[.int .i64 0, .int .i64 0, .int .i64 0, .int .i64 0, .int .i64 0] 81) = W1 := ⟨_, rfl⟩
  have hb1 : Below W.heap.size W W1 := by rw [← hW1]; exact (Below.refl _ _).alloc (Nat.le_refl _) _
  have hx1 : W1.heap[W.heap.size]? = some (.cells #[.int .i64 0, .int .i64 0, .int .i64 0, .int .i64 0, .int .i64 0] 81 (0, 0)) := by rw [← hW1]; exact heap_alloc_new W _
  have HC := Lib.hid (cut14 W1 s hs 32 (hE.below hb1))
  have HO := Lib.hid (fun w hw => opOf14 w (txB (cutA 32 s.data.toList)) hw)
  rw [txB_list, ho] at HO
  rw [hr] at HC
  obtain ⟨c, hc⟩ : ∃ c, txB (cutA 32 s.data.toList) = c := ⟨_, rfl⟩
  obtain ⟨q, hq⟩ : ∃ q, decide ((32 : UInt8) ∈ s.data.toList) = q := ⟨_, rfl⟩
  rw [hc, hq] at HC
  rw [hc] at HO
  have HE := Lib.hid hE
  have HB1 := Lib.hid hb1
  have HX1 := Lib.hid hx1
  have HW1 := Lib.hid hW1
  have HRL := Lib.hid hrl
  have HN := Lib.hid (fun k w hw => number14 w (txB (restK o r k)) (by rw [txB_size]; have := restK_le o r k; omega) hw)
  have HH := Lib.hid (fun k (hk : k < 4) w => has_any o k ho7 hk w)
  unfold opC at HH
  have hi0 : (0 : Int) ≤ (o : Int) := by omega
  have hi7 : (o : Int) < 7 := by omega
  have hti : (o : Int).toNat = o := by omega
  have hs0 : W1.heap.size = W.heap.size + 1 := by rw [← hW1]; simp
  have HS0 := Lib.hid hs0
  clear hb1 hx1 hW1 hE hrl hX hr ho hc hs hs0 hq
  go_enter Tryd.func84, Tryd.ntmps84
  go_wp2_with fail
  rw [HW1.out]
  refine HC.out.mono ?_
  rintro e w2 ⟨rfl, hb2⟩
  have HB2 := Lib.hid (HB1.out.trans (hb2.mono HB1.out.size))
  have HX2 := Lib.hid ((hb2.block _ (Array.getElem?_eq_some_iff.1 HX1.out).1).trans HX1.out)
  clear hb2
  go_wp2_with fail
  refine (HO.out w2 (HE.out.ops.below (Nat.le_refl _) HB2.out)).mono ?_
  rintro e w3 ⟨rfl, hb3⟩
  have HB3 := Lib.hid (HB2.out.trans (hb3.mono HB2.out.size))
  have HX3 := Lib.hid ((hb3.block _ (Array.getElem?_eq_some_iff.1 HX2.out).1).trans HX2.out)
  clear hb3
  obtain ⟨W4, hW4⟩ : ∃ W4, w3.alloc (.cells #[.int .i64 0, .int .i64 0, .int .i64 0, .int .i64 0] 134) = W4 := ⟨_, rfl⟩
  have HB4 : Hid (Below W.heap.size W W4) := Lib.hid (by rw [← hW4]; exact HB3.out.alloc HB3.out.size _)
  have HX4 : Hid (W4.heap[W.heap.size]? = some (.cells #[.int .i64 0, .int .i64 0, .int .i64 0, .int .i64 0, .int .i64 0] 81 (0, 0))) := Lib.hid (by rw [← hW4]; exact (Below.heap_alloc _ _ _ (Array.getElem?_eq_some_iff.1 HX3.out).1).trans HX3.out)
  obtain ⟨g, hg⟩ : ∃ g, w3.heap.size = g := ⟨_, rfl⟩
  have HV4 : Hid (W4.heap[g]? = some (.cells (valsA o r 0) 134 (0, 0))) := Lib.hid (by rw [← hW4, ← hg]; simpa [valsA, valK] using heap_alloc_new w3 (.cells #[.int .i64 0, .int .i64 0, .int .i64 0, .int .i64 0] 134))
  have hgW : W.heap.size < g := by rw [← hg]; exact (Array.getElem?_eq_some_iff.1 HX3.out).1
  have HG := Lib.hid hg
  have HW4 := Lib.hid hW4
  clear hW4 hg
  go_wp2
  rw [HG.out, HW4.out]
  go_loopw [4, 17] (fun V K wr => ∃ k : Nat, k ≤ 4 ∧ K = .int .i64 (k : Int) ∧ V = .string (txB (restK o r k)) ∧ Hid (Below W.heap.size W wr) ∧ Hid (wr.heap[W.heap.size]? = some (.cells #[.int .i64 0, .int .i64 0, .int .i64 0, .int .i64 0, .int .i64 0] 81 (0, 0))) ∧ Hid (wr.heap[g]? = some (.cells (valsA o r k) 134 (0, 0)))) (fun V K _ => 4 - (intOf K).toNat)
  case atStart => exact ⟨0, by omega, rfl, rfl, HB4, HX4, HV4⟩
  case round =>
    obtain ⟨k, hk, rfl, rfl, HB, HXr, HVr⟩ := hrel
    by_cases hlt : k < 4
    · have hE2 := HE.out.ops.below (Nat.le_refl _) HB.out
      have c0 := hE2.cell o 0 (by omega) (by omega)
      have c1 := hE2.cell o 1 (by omega) (by omega)
      have c2 := hE2.cell o 2 (by omega) (by omega)
      have c3 := hE2.cell o 3 (by omega) (by omega)
      have c4 := hE2.cell o 4 (by omega) (by omega)
      have c5 := hE2.cell o 5 (by omega) (by omega)
      have c6 := hE2.cell o 6 (by omega) (by omega)
      have c7 := hE2.cell o 7 (by omega) (by omega)
      have c8 := hE2.cell o 8 (by omega) (by omega)
      simp only [opC, List.getElem?_cons_zero, List.getElem?_cons_succ, Nat.add_zero] at c0 c1 c2 c3 c4 c5 c6 c7 c8
      have hk0 : (0 : Int) ≤ (k : Int) := by omega
      have hk4 : (k : Int) < 4 := by omega
      have hkt : (k : Int).toNat = k := by omega
      have HHK := Lib.hid (HH.out k hlt)
      have hs : hasF o k = !(decide (spA o k = 0) && decide (spB o k = 0)) := rfl
      rw [← hs] at HHK
      clear hE2 hs
      cases hF : hasF o k with
      | true =>
        have HRK : Hid (txB (restK o r (k + 1)) = txB (cutB 32 (restK o r k))) := Lib.hid (by rw [restK, if_pos hF])
        have HVY := Lib.hid (vals_yes o r k hlt hF)
        rw [hF] at HHK
        have HNK := Lib.hid (HN.out k)
        rw [txB_list] at HNK
        obtain ⟨T1, hT1⟩ : ∃ T1, txB (cutB 32 (restK o r k)) = T1 := ⟨_, rfl⟩
        obtain ⟨z, hz⟩ : ∃ z, numV (restK o r k) = z := ⟨_, rfl⟩
        rw [hT1] at HRK HNK
        rw [hz] at HVY HNK
        clear hF hT1 hz
        go_wp2_with fail
        refine (HHK.out _).mono ?_
        rintro e w5 ⟨rfl, hb5⟩
        have HB5 := Lib.hid (HB.out.trans (hb5.mono HB.out.size))
        have HX5 := Lib.hid ((hb5.block _ (Array.getElem?_eq_some_iff.1 HXr.out).1).trans HXr.out)
        have HV5 := Lib.hid ((hb5.block _ (Array.getElem?_eq_some_iff.1 HVr.out).1).trans HVr.out)
        clear hb5 c0 c1 c2 c3 c4 c5 c6 c7 c8
        go_wp2_with fail
        refine (HNK.out w5 (HE.out.below HB5.out)).mono ?_
        rintro e w6 ⟨rfl, hb6⟩
        have HB6 := Lib.hid (HB5.out.trans (hb6.mono HB5.out.size))
        have HX6 := Lib.hid ((hb6.block _ (Array.getElem?_eq_some_iff.1 HX5.out).1).trans HX5.out)
        have HV6 := Lib.hid ((hb6.block _ (Array.getElem?_eq_some_iff.1 HV5.out).1).trans HV5.out)
        have d0 := (blkp HV6.out k).trans (vals_at o r k k hlt)
        have d1 := frzp HV6.out k
        have HV7 : Hid ((w6.setCell ⟨g, k, none⟩ (.int .i64 z)).heap[g]? = some (.cells (valsA o r (k + 1)) 134 (0, 0))) := Lib.hid (by
          rw [← HVY.out]
          exact heap_setCell_same w6 g k _ _ _ HV6.out)
        have HX7 : Hid ((w6.setCell ⟨g, k, none⟩ (.int .i64 z)).heap[W.heap.size]? = some (.cells #[.int .i64 0, .int .i64 0, .int .i64 0, .int .i64 0, .int .i64 0] 81 (0, 0))) := Lib.hid ((Below.heap_setCell _ _ _ _ (by show W.heap.size ≠ g; omega)).trans HX6.out)
        have HB7 : Hid (Below W.heap.size W (w6.setCell ⟨g, k, none⟩ (.int .i64 z))) := Lib.hid (HB6.out.setCell (p := ⟨g, k, none⟩) (by show W.heap.size ≤ g; omega) _)
        clear hb6
        go_wp2
        go_roundw
        case rel => exact ⟨k + 1, by omega, by go_num, by rw [HRK.out], HB7, HX7, HV7⟩
        case measure => simp [intOf]; omega
      | false =>
        have HRK : Hid (txB (restK o r (k + 1)) = txB (restK o r k)) := Lib.hid (by rw [restK, if_neg (by rw [hF]; decide)])
        have HVN := Lib.hid (vals_no o r k hlt hF)
        rw [hF] at HHK
        clear hF
        go_wp2_with fail
        refine (HHK.out _).mono ?_
        rintro e w5 ⟨rfl, hb5⟩
        have HB5 := Lib.hid (HB.out.trans (hb5.mono HB.out.size))
        have HX5 := Lib.hid ((hb5.block _ (Array.getElem?_eq_some_iff.1 HXr.out).1).trans HXr.out)
        have HV5 : Hid (w5.heap[g]? = some (.cells (valsA o r (k + 1)) 134 (0, 0))) := Lib.hid (by rw [← HVN.out]; exact (hb5.block _ (Array.getElem?_eq_some_iff.1 HVr.out).1).trans HVr.out)
        clear hb5 c0 c1 c2 c3 c4 c5 c6 c7 c8
        go_wp2
        go_roundw
        case rel => exact ⟨k + 1, by omega, by go_num, by rw [HRK.out], HB5, HX5, HV5⟩
        case measure => simp [intOf]; omega
    · obtain rfl : k = 4 := by omega
      have d0 := (blkp HVr.out 0).trans (vals_at o r 4 0 (by omega))
      have d1 := (blkp HVr.out 1).trans (vals_at o r 4 1 (by omega))
      have d2 := (blkp HVr.out 2).trans (vals_at o r 4 2 (by omega))
      have d3 := (blkp HVr.out 3).trans (vals_at o r 4 3 (by omega))
      have f0 := blkp HXr.out 0
      have f1 := blkp HXr.out 1
      have f2 := blkp HXr.out 2
      have f3 := blkp HXr.out 3
      have f4 := blkp HXr.out 4
      simp only [List.getElem?_toArray, List.getElem?_cons_zero, List.getElem?_cons_succ] at f0 f1 f2 f3 f4
      have z0 := frzp HXr.out 0
      have z1 := frzp HXr.out 1
      have z2 := frzp HXr.out 2
      have z3 := frzp HXr.out 3
      have z4 := frzp HXr.out 4
      go_wp2
      refine ret_box1 rfl W.heap.size #[.int .i64 (o : Int), .int .i64 (valK o r 4 0), .int .i64 (valK o r 4 1), .int .i64 (valK o r 4 2), .int .i64 (valK o r 4 3)] (load_inst ?_ rfl) rfl rfl ?_
      · have h1 := heap_setCell_same wr W.heap.size 0 _ _ (.int .i64 (o : Int)) HXr.out
        have h2 := heap_setCell_same _ W.heap.size 1 _ _ (.int .i64 (valK o r 4 0)) h1
        have h3 := heap_setCell_same _ W.heap.size 2 _ _ (.int .i64 (valK o r 4 1)) h2
        have h4 := heap_setCell_same _ W.heap.size 3 _ _ (.int .i64 (valK o r 4 2)) h3
        have h5 := heap_setCell_same _ W.heap.size 4 _ _ (.int .i64 (valK o r 4 3)) h4
        simpa using h5
      · exact ⟨rfl, ((((HB.out.setCell (p := ⟨W.heap.size, 0, none⟩) (Nat.le_refl _) _).setCell (p := ⟨W.heap.size, 1, none⟩) (Nat.le_refl _) _).setCell (p := ⟨W.heap.size, 2, none⟩) (Nat.le_refl _) _).setCell (p := ⟨W.heap.size, 3, none⟩) (Nat.le_refl _) _).setCell (p := ⟨W.heap.size, 4, none⟩) (Nat.le_refl _) _⟩
end Pgm
end Go.Proofs.YtfnimmbmcjgdpaaDoor
