/- The landed norm: fitsTree. -/
import Derived.Test.YthhdlcckboiecaaGp7
import Derived.Test.YthhdlcckboiecaaGp18
namespace Go.Proofs.Ythhdlcckboiecaa
open Go.RowKit
set_option linter.unusedVariables false
set_option linter.unusedSimpArgs false
def leaf1 : Nd := .mk 1 [] 0 ⟨#[]⟩ 0 0 false []
def leafC : List Value := [.int .i64 1, .slice none 0 0, .int .i64 0, .string ⟨#[]⟩, .int .i64 0, .int .i64 0, .bool false, .slice none 0 0]
theorem leaf1_is (W : World) : NdIs W leaf1 leafC :=
  NdIs.mk (fun _ => []) ⟨by unfold I64; omega, by unfold I64; omega, by unfold I64; omega, by unfold I64; omega⟩ (RRow.nil W) (Nat.zero_le _) (Nat.zero_le _) (fun j h => by cases h) (fun j h => by cases h)
/-- What is asked of chapter 6: the fields alone. -/
def alone : Nd → Nd | .mk k s n nm mn mx lz l => .mk k s (if k = 6 then 1 else n) nm mn mx lz (List.replicate l.length leaf1)
theorem all_rep_leaf (d k : Nat) : ∀ n, ((List.replicate n leaf1).flatMap (Td.all d k)).length ≤ n
  | 0 => by simp
  | n + 1 => by
    have ih := all_rep_leaf d k n
    rw [List.replicate_succ, List.flatMap_cons, List.length_append]
    have : (Td.all d k leaf1).length ≤ 1 := by
      cases d with
      | zero => simp [Td.all, leaf1]
      | succ d => simp [Td.all, leaf1, Td.subs]
    omega
theorem all_alone (nd : Nd) (d k : Nat) : (Td.all d k (alone nd)).length ≤ 1 + (Td.subs nd).length := by
  cases nd with
  | mk kk s n nm mn mx lz l =>
    cases d with
    | zero => simp [Td.all, alone]
    | succ d =>
      have := all_rep_leaf d (k + 1) l.length
      simp only [Td.all, alone, Td.subs, List.length_cons]
      omega
theorem heap_setOther (w : World) (B o g : Nat) (v : Value) (h : g ≠ B) : (w.setCell ⟨B, o, none⟩ v).heap[g]? = w.heap[g]? := by
  simp [World.setCell, Array.getElem?_modify, Ne.symm h]
/-- The row of leaves behind a node that stands alone. -/
theorem alone_is {W w6 : World} {k num mn mx : Int} {set : List (Int × Int)} {name : ByteArray} {lz : Bool} {N g : Nat} {vs : Value} (hk : I64 k ∧ I64 num ∧ I64 mn ∧ I64 mx) (hset : RRow W vs set) (hname : name.size ≤ 140737488351232)
    (hN : N ≤ 999999) (hrow : w6.heap[g]? = some (.cells (repsL leafC N).toArray 25 (0, 0))) (hb : Below W.heap.size W w6) :
    NdIs w6 (.mk k set num name mn mx lz (List.replicate N leaf1)) [.int .i64 k, vs, .int .i64 num, .string name, .int .i64 mn, .int .i64 mx, .bool lz, .slice (some ⟨g, 0, none⟩) N N] := by
  have h := NdIs.mk (W := w6) (k := k) (num := num) (mn := mn) (mx := mx) (set := set) (name := name) (lz := lz) (subs := List.replicate N leaf1) (vs := vs) (a := some ⟨g, 0, none⟩) (cap := N) (fun _ => leafC) hk (hset.below (Nat.le_refl _) hb) hname (by rw [List.length_replicate]; omega)
    (fun j hj => by
      rw [List.length_replicate] at hj
      refine ⟨g, 0, rfl, (Array.getElem?_eq_some_iff.1 hrow).1, rfl, fun i hi => ?_⟩
      rw [blkc hrow]
      have h8 : leafC.length = 8 := rfl
      have e := repsL_get leafC h8 N (0 + j * 8 + i) (by omega)
      have e2 : (0 + j * 8 + i) % 8 = i := by omega
      rw [e2] at e
      simpa using e)
    (fun j hj => by rw [List.getElem_replicate]; exact leaf1_is w6)
  rw [List.length_replicate] at h
  exact h
set_option maxRecDepth 100000 in
set_option maxHeartbeats 8000000 in
theorem fitsTree_any (W : World) (nd : Nd) (cs : List Value) (h : NdIs W nd cs) (hlen : (Td.subs nd).length ≤ 999999) :
    Calls Try.prog 27 #[.agg cs.toArray] W fun e w' => e = .returned (.bool (decide (Td.checkN (alone nd) = 0))) ∧ Below W.heap.size W w' := by
  have HAL : (Td.all 1000 1 (alone nd)).length ≤ 1000000 := by have := all_alone nd 1000 1; omega
  cases h with
  | @mk k num mn mx set name lz subs vs a cap C hk hset hname hl8 hrow hsub =>
  obtain ⟨sa, sk, sc, rfl⟩ : ∃ a k c, vs = .slice a k c := by obtain ⟨a, c, h, -⟩ := hset; exact ⟨a, _, c, h⟩
  obtain ⟨N, hN⟩ : ∃ N, subs.length = N := ⟨_, rfl⟩
  have hlen' : N ≤ 999999 := by rw [← hN]; exact hlen
  have HR := Lib.hid (fun (w : World) (b : Nat) (hb : b < w.heap.size) (hc : ∀ j v, leafC[j]? = some v → w.cell? ⟨b, 0 + j, none⟩ = some v) => repeatN_any w b 0 1 N leafC (by omega) rfl (by simp [leafC, Value.oneCell']) hc hb)
  obtain ⟨num', hnum'⟩ : ∃ num' : Int, (if k = 6 then 1 else num) = num' := ⟨_, rfl⟩
  have HK : Hid (I64 k ∧ I64 num' ∧ I64 mn ∧ I64 mx) := Lib.hid ⟨hk.1, by rw [← hnum']; split; exact ⟨by omega, by omega⟩; exact hk.2.1, hk.2.2.1, hk.2.2.2⟩
  have HAN : alone (.mk k set num name mn mx lz subs) = .mk k set num' name mn mx lz (List.replicate N leaf1) := by rw [alone, hnum', hN]
  rw [HAN] at HAL ⊢
  have HALL := Lib.hid HAL
  have HST := Lib.hid hset
  have HNM := Lib.hid hname
  rw [hN]
  have hk6 : (k = 6 ∧ num' = 1) ∨ (k ≠ 6 ∧ num' = num) := by rw [← hnum']; by_cases h : k = 6 <;> simp [h]
  clear hrow hsub hlen hnum' HAN HAL hk hset hname hl8 hN
  rcases hk6 with ⟨rfl, rfl⟩ | ⟨hk6, rfl⟩
  · go_enter Try.func27, Try.ntmps27
    go_wp2_with fail
    obtain ⟨WA, hWA⟩ : ∃ WA, (W.alloc (.cells #[.int .i64 6, .slice sa sk sc, .int .i64 1, .string name, .int .i64 mn, .int .i64 mx, .bool lz, .slice a N cap] 25)).alloc (.cells #[.int .i64 1, .slice none 0 0, .int .i64 0, .string ⟨#[]⟩, .int .i64 0, .int .i64 0, .bool false, .slice none 0 0] 25) = WA := ⟨_, rfl⟩
    have HBA : Hid (Below W.heap.size W WA) := Lib.hid (by rw [← hWA]; exact ((Below.refl _ _).alloc (Nat.le_refl _) _).alloc (by simp) _)
    have HSA : Hid (WA.heap.size = W.heap.size + 2) := Lib.hid (by rw [← hWA]; simp)
    have HXA : Hid (WA.heap[W.heap.size]? = some (.cells #[.int .i64 6, .slice sa sk sc, .int .i64 1, .string name, .int .i64 mn, .int .i64 mx, .bool lz, .slice a N cap] 25 (0, 0))) := Lib.hid (by
      rw [← hWA]; exact (Below.heap_alloc _ _ _ (by simp)).trans (heap_alloc_new W _))
    have HLA : Hid (WA.heap[W.heap.size + 1]? = some (.cells #[.int .i64 1, .slice none 0 0, .int .i64 0, .string ⟨#[]⟩, .int .i64 0, .int .i64 0, .bool false, .slice none 0 0] 25 (0, 0))) := Lib.hid (by
      rw [← hWA]
      have := heap_alloc_new (W.alloc (.cells #[.int .i64 6, .slice sa sk sc, .int .i64 1, .string name, .int .i64 mn, .int .i64 mx, .bool lz, .slice a N cap] 25)) (.cells #[.int .i64 1, .slice none 0 0, .int .i64 0, .string ⟨#[]⟩, .int .i64 0, .int .i64 0, .bool false, .slice none 0 0] 25)
      rw [World.size_alloc] at this
      exact this)
    rw [hWA]
    clear hWA
    refine (HR.out WA (W.heap.size + 1) (by rw [HSA.out]; omega) (fun j v hv => by
      have := blkc HLA.out j
      rw [Nat.zero_add, this]
      simpa [leafC] using hv)).mono ?_
    rintro e w5 ⟨g, rfl, hg, hrow, hb5⟩
    rw [HSA.out] at hg hb5
    have HX5 : Hid (w5.heap[W.heap.size]? = some (.cells #[.int .i64 6, .slice sa sk sc, .int .i64 1, .string name, .int .i64 mn, .int .i64 mx, .bool lz, .slice a N cap] 25 (0, 0))) := Lib.hid ((hb5.block _ (by omega)).trans HXA.out)
    have HB5 : Hid (Below W.heap.size W w5) := Lib.hid (HBA.out.trans (hb5.mono (by omega)))
    have HROW := Lib.hid hrow
    have hl5 : W.heap.size + 2 ≤ w5.heap.size := by have := hb5.size; rw [HSA.out] at this; exact this
    have hgl : g < w5.heap.size := (Array.getElem?_eq_some_iff.1 hrow).1
    have b0 := blkc HX5.out 0
    have b1 := blkc HX5.out 1
    have b2 := blkc HX5.out 2
    have b3 := blkc HX5.out 3
    have b4 := blkc HX5.out 4
    have b5 := blkc HX5.out 5
    have b6 := blkc HX5.out 6
    have b7 := blkc HX5.out 7
    simp only [List.getElem?_toArray, List.getElem?_cons_zero, List.getElem?_cons_succ] at b0 b1 b2 b3 b4 b5 b6 b7
    have f7 : w5.frozen? ⟨W.heap.size, 7, none⟩ = false := by simp [World.frozen?, HX5.out]
    have HB6 : Hid (Below W.heap.size W (w5.setCell ⟨W.heap.size, 7, none⟩ (.slice (some ⟨g, 0, none⟩) N N))) := Lib.hid (HB5.out.setCell (p := ⟨W.heap.size, 7, none⟩) (Nat.le_refl _) _)
    have HND := Lib.hid (alone_is (lz := lz) HK.out HST.out HNM.out hlen' ((heap_setOther w5 W.heap.size 7 g (.slice (some ⟨g, 0, none⟩) N N) (by omega)).trans HROW.out) HB6.out)
    clear hb5 hrow
    go_wp2_with fail
    refine (callsIn_wide.1 (check_in 3 (by omega) _ _ _ HND.out HALL.out)).mono ?_
    rintro e w7 ⟨rfl, hb7⟩
    have HB7 := Lib.hid (HB6.out.trans (hb7.mono HB6.out.size))
    clear hb7
    go_wp2
    go_ret
    exact ⟨rfl, HB7.out⟩
  · go_enter Try.func27, Try.ntmps27
    go_wp2_with fail
    obtain ⟨WA, hWA⟩ : ∃ WA, (W.alloc (.cells #[.int .i64 k, .slice sa sk sc, .int .i64 num', .string name, .int .i64 mn, .int .i64 mx, .bool lz, .slice a N cap] 25)).alloc (.cells #[.int .i64 1, .slice none 0 0, .int .i64 0, .string ⟨#[]⟩, .int .i64 0, .int .i64 0, .bool false, .slice none 0 0] 25) = WA := ⟨_, rfl⟩
    have HBA : Hid (Below W.heap.size W WA) := Lib.hid (by rw [← hWA]; exact ((Below.refl _ _).alloc (Nat.le_refl _) _).alloc (by simp) _)
    have HSA : Hid (WA.heap.size = W.heap.size + 2) := Lib.hid (by rw [← hWA]; simp)
    have HXA : Hid (WA.heap[W.heap.size]? = some (.cells #[.int .i64 k, .slice sa sk sc, .int .i64 num', .string name, .int .i64 mn, .int .i64 mx, .bool lz, .slice a N cap] 25 (0, 0))) := Lib.hid (by
      rw [← hWA]; exact (Below.heap_alloc _ _ _ (by simp)).trans (heap_alloc_new W _))
    have HLA : Hid (WA.heap[W.heap.size + 1]? = some (.cells #[.int .i64 1, .slice none 0 0, .int .i64 0, .string ⟨#[]⟩, .int .i64 0, .int .i64 0, .bool false, .slice none 0 0] 25 (0, 0))) := Lib.hid (by
      rw [← hWA]
      have := heap_alloc_new (W.alloc (.cells #[.int .i64 k, .slice sa sk sc, .int .i64 num', .string name, .int .i64 mn, .int .i64 mx, .bool lz, .slice a N cap] 25)) (.cells #[.int .i64 1, .slice none 0 0, .int .i64 0, .string ⟨#[]⟩, .int .i64 0, .int .i64 0, .bool false, .slice none 0 0] 25)
      rw [World.size_alloc] at this
      exact this)
    rw [hWA]
    clear hWA
    refine (HR.out WA (W.heap.size + 1) (by rw [HSA.out]; omega) (fun j v hv => by
      have := blkc HLA.out j
      rw [Nat.zero_add, this]
      simpa [leafC] using hv)).mono ?_
    rintro e w5 ⟨g, rfl, hg, hrow, hb5⟩
    rw [HSA.out] at hg hb5
    have HX5 : Hid (w5.heap[W.heap.size]? = some (.cells #[.int .i64 k, .slice sa sk sc, .int .i64 num', .string name, .int .i64 mn, .int .i64 mx, .bool lz, .slice a N cap] 25 (0, 0))) := Lib.hid ((hb5.block _ (by omega)).trans HXA.out)
    have HB5 : Hid (Below W.heap.size W w5) := Lib.hid (HBA.out.trans (hb5.mono (by omega)))
    have HROW := Lib.hid hrow
    have hl5 : W.heap.size + 2 ≤ w5.heap.size := by have := hb5.size; rw [HSA.out] at this; exact this
    have hgl : g < w5.heap.size := (Array.getElem?_eq_some_iff.1 hrow).1
    have b0 := blkc HX5.out 0
    have b1 := blkc HX5.out 1
    have b2 := blkc HX5.out 2
    have b3 := blkc HX5.out 3
    have b4 := blkc HX5.out 4
    have b5 := blkc HX5.out 5
    have b6 := blkc HX5.out 6
    have b7 := blkc HX5.out 7
    simp only [List.getElem?_toArray, List.getElem?_cons_zero, List.getElem?_cons_succ] at b0 b1 b2 b3 b4 b5 b6 b7
    have f7 : w5.frozen? ⟨W.heap.size, 7, none⟩ = false := by simp [World.frozen?, HX5.out]
    have HB6 : Hid (Below W.heap.size W (w5.setCell ⟨W.heap.size, 7, none⟩ (.slice (some ⟨g, 0, none⟩) N N))) := Lib.hid (HB5.out.setCell (p := ⟨W.heap.size, 7, none⟩) (Nat.le_refl _) _)
    have HND := Lib.hid (alone_is (lz := lz) HK.out HST.out HNM.out hlen' ((heap_setOther w5 W.heap.size 7 g (.slice (some ⟨g, 0, none⟩) N N) (by omega)).trans HROW.out) HB6.out)
    clear hb5 hrow
    go_wp2_with fail
    refine (callsIn_wide.1 (check_in 3 (by omega) _ _ _ HND.out HALL.out)).mono ?_
    rintro e w7 ⟨rfl, hb7⟩
    have HB7 := Lib.hid (HB6.out.trans (hb7.mono HB6.out.size))
    clear hb7
    go_wp2
    go_ret
    exact ⟨rfl, HB7.out⟩
end Go.Proofs.Ythhdlcckboiecaa
