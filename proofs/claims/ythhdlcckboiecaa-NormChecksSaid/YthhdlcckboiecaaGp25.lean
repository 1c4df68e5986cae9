/- The landed norm: fits. · The reference's tree (burinref06): Nullable. -/
import Derived.Test.YthhdlcckboiecaaGp19
import Derived.Test.YthhdlcckboiecaaGp24
import Derived.Test.YthhdlcckboiecaaGp4
import Derived.Test.YthhdlcckboiecaaGp3
import Derived.IntWalk
namespace Go.Proofs.Ythhdlcckboiecaa
open Go.RowKit
set_option linter.unusedVariables false
set_option linter.unusedSimpArgs false
theorem noNm {s : ByteArray} (h9 : s.toList = []) : s = ⟨#[]⟩ := by
  rw [ByteArray.toList_eq] at h9
  obtain ⟨d⟩ := s
  have : d = #[] := by simpa using h9
  rw [this]
/-- What a kind asks in a core beside chapter 6. -/
def fitK (n : Nd) : Bool :=
  if Td.kind n = 6 then decide (1 ≤ Td.num n) && decide (Td.num n ≤ 31) && decide (Td.name n = ⟨#[]⟩)
  else if Td.kind n = 7 then !((Td.subs n).any (fun x => decide (Td.kind x ∈ ([7, 1] : List Int))))
  else if Td.kind n = 8 then !((Td.subs n).any (fun x => decide (Td.kind x ∈ ([8] : List Int))))
  else if Td.kind n = 9 then decide (Td.mn n = 0) && decide (Td.mx n ≠ 0) && !((Td.subs n).any (fun x => decide (Td.kind x ∈ ([1] : List Int))))
  else true
def fitB (n : Nd) : Bool := fitK n && decide (Td.checkN (alone n) = 0)
set_option maxRecDepth 100000 in
set_option maxHeartbeats 16000000 in
theorem fits_any (W : World) (n : Nd) (cs : List Value) (h : NdIs W n cs) (hlen : (Td.subs n).length ≤ 999999) :
    Calls Try.prog 16 #[.agg cs.toArray] W fun e w' => e = .returned (.bool (fitB n)) ∧ Below W.heap.size W w' := by
  have HT := Lib.hid (fun (w : World) (hb : Below W.heap.size W w) => fitsTree_any w n cs (h.kept hb) hlen)
  obtain ⟨vs, a, cap, C, hC⟩ := h.cells
  have hcs := hC.eq
  subst hcs
  have HRW : Hid (Nm.RowIs W a (Td.subs n)) := Lib.hid hC.sub
  have hl8 := hC.len
  obtain ⟨sa, sk, sc, rfl⟩ : ∃ a k c, vs = .slice a k c := by obtain ⟨a, c, h, -⟩ := hC.set; exact ⟨a, _, c, h⟩
  have HANY := Lib.hid (fun (w : World) (hb : Below W.heap.size W w) (b m c : Nat) (ks : List Int) (hks : ks.length = m) (hm : m ≤ 100) (hbl : b < w.heap.size) (hcc : ∀ j (h : j < ks.length), w.cell? ⟨b, j, none⟩ = some (.int .i64 ks[j])) =>
    anyOf_any w b m c ks hks hm hbl hcc (Td.subs n) a cap hl8 (HRW.out.kept hb))
  obtain ⟨K, hK⟩ : ∃ K, Td.kind n = K := ⟨_, rfl⟩
  obtain ⟨M, hM⟩ : ∃ M, Td.num n = M := ⟨_, rfl⟩
  obtain ⟨S, hS⟩ : ∃ S, Td.name n = S := ⟨_, rfl⟩
  obtain ⟨X, hX⟩ : ∃ X, Td.mn n = X := ⟨_, rfl⟩
  obtain ⟨Y, hY⟩ : ∃ Y, Td.mx n = Y := ⟨_, rfl⟩
  obtain ⟨Z, hZ⟩ : ∃ Z, Td.lazy n = Z := ⟨_, rfl⟩
  obtain ⟨L, hL⟩ : ∃ L, (Td.subs n).length = L := ⟨_, rfl⟩
  have HFB : Hid (fitB n = (fitK n && decide (Td.checkN (alone n) = 0))) := Lib.hid rfl
  have HFK : Hid (fitK n = if K = 6 then decide (1 ≤ M) && decide (M ≤ 31) && decide (S = ⟨#[]⟩)
    else if K = 7 then !((Td.subs n).any (fun x => decide (Td.kind x ∈ ([7, 1] : List Int))))
    else if K = 8 then !((Td.subs n).any (fun x => decide (Td.kind x ∈ ([8] : List Int))))
    else if K = 9 then decide (X = 0) && decide (Y ≠ 0) && !((Td.subs n).any (fun x => decide (Td.kind x ∈ ([1] : List Int))))
    else true) := Lib.hid (by rw [fitK, hK, hM, hS, hX, hY])
  rw [hK, hM, hS, hX, hY, hZ, hL] at HT ⊢
  rw [hL] at HANY
  have HB1 : Hid (Below W.heap.size W (W.alloc (.cells #[.int .i64 K, .slice sa sk sc, .int .i64 M, .string S, .int .i64 X, .int .i64 Y, .bool Z, .slice a L cap] 25))) := Lib.hid ((Below.refl _ _).alloc (Nat.le_refl _) _)
  clear hC h hl8 hlen hK hM hS hX hY hZ hL HRW
  by_cases k6 : K = 6
  · subst k6
    go_enter Try.func16, Try.ntmps16
    by_cases c1 : 1 ≤ M
    · by_cases c2 : M ≤ 31
      · by_cases c3 : S = ⟨#[]⟩
        · subst c3
          go_wp2_with fail
          refine (HT.out _ HB1.out).mono ?_
          rintro e w7 ⟨rfl, hb7⟩
          have HB7 := Lib.hid (HB1.out.trans (hb7.mono HB1.out.size))
          clear hb7
          go_wp2
          go_ret
          exact ⟨by rw [HFB.out, HFK.out]; simp [c1, c2], HB7.out⟩
        · have c4 : ¬ S.toList = [] := fun e => c3 (noNm e)
          go_wp2
          go_ret
          exact ⟨by rw [HFB.out, HFK.out]; simp [c1, c2, c3], HB1.out⟩
      · go_wp2
        go_ret
        exact ⟨by rw [HFB.out, HFK.out]; rw [decide_eq_false (by omega : ¬ (M ≤ 31))]; simp, HB1.out⟩
    · go_wp2
      go_ret
      exact ⟨by rw [HFB.out, HFK.out]; rw [decide_eq_false (by omega : ¬ (1 ≤ M))]; simp, HB1.out⟩
  · by_cases k7 : K = 7
    · subst k7
      go_enter Try.func16, Try.ntmps16
      go_wp2_with fail
      obtain ⟨WA, hWA⟩ : ∃ WA, (W.alloc (.cells #[.int .i64 7, .slice sa sk sc, .int .i64 M, .string S, .int .i64 X, .int .i64 Y, .bool Z, .slice a L cap] 25)).alloc (.cells #[.int .i64 7, .int .i64 1] 3) = WA := ⟨_, rfl⟩
      have HBA : Hid (Below W.heap.size W WA) := Lib.hid (by rw [← hWA]; exact ((Below.refl _ _).alloc (Nat.le_refl _) _).alloc (by simp) _)
      have HSA : Hid (WA.heap.size = W.heap.size + 2) := Lib.hid (by rw [← hWA]; simp)
      have HXA : Hid (WA.heap[W.heap.size]? = some (.cells #[.int .i64 7, .slice sa sk sc, .int .i64 M, .string S, .int .i64 X, .int .i64 Y, .bool Z, .slice a L cap] 25 (0, 0))) := Lib.hid (by
        rw [← hWA]; exact (Below.heap_alloc _ _ _ (by simp)).trans (heap_alloc_new W _))
      have HLA : Hid (WA.heap[W.heap.size + 1]? = some (.cells #[.int .i64 7, .int .i64 1] 3 (0, 0))) := Lib.hid (by
        rw [← hWA]
        have := heap_alloc_new (W.alloc (.cells #[.int .i64 7, .slice sa sk sc, .int .i64 M, .string S, .int .i64 X, .int .i64 Y, .bool Z, .slice a L cap] 25)) (.cells #[.int .i64 7, .int .i64 1] 3)
        rw [World.size_alloc] at this
        exact this)
      rw [hWA]
      clear hWA
      refine (HANY.out WA HBA.out (W.heap.size + 1) 2 2 [7, 1] rfl (by omega) (by rw [HSA.out]; omega) (fun j hj => by
        rw [blkc HLA.out]
        match j, hj with
        | 0, _ => rfl
        | 1, _ => rfl)).mono ?_
      rintro e w5 ⟨rfl, hb5⟩
      rw [HSA.out] at hb5
      have HX5 : Hid (w5.heap[W.heap.size]? = some (.cells #[.int .i64 7, .slice sa sk sc, .int .i64 M, .string S, .int .i64 X, .int .i64 Y, .bool Z, .slice a L cap] 25 (0, 0))) := Lib.hid ((hb5.block _ (by omega)).trans HXA.out)
      have HB5 : Hid (Below W.heap.size W w5) := Lib.hid (HBA.out.trans (hb5.mono (by omega)))
      have b0 := blkc HX5.out 0
      have b1 := blkc HX5.out 1
      have b2 := blkc HX5.out 2
      have b3 := blkc HX5.out 3
      have b4 := blkc HX5.out 4
      have b5 := blkc HX5.out 5
      have b6 := blkc HX5.out 6
      have b7 := blkc HX5.out 7
      simp only [List.getElem?_toArray, List.getElem?_cons_zero, List.getElem?_cons_succ] at b0 b1 b2 b3 b4 b5 b6 b7
      clear hb5
      obtain ⟨q, hq⟩ : ∃ q, (Td.subs n).any (fun x => decide (Td.kind x ∈ ([7, 1] : List Int))) = q := ⟨_, rfl⟩
      rw [hq] at HFK ⊢
      cases q
      · go_wp2_with fail
        refine (HT.out _ HB5.out).mono ?_
        rintro e w7 ⟨rfl, hb7⟩
        have HB7 := Lib.hid (HB5.out.trans (hb7.mono HB5.out.size))
        clear hb7
        go_wp2
        go_ret
        exact ⟨by rw [HFB.out, HFK.out]; simp, HB7.out⟩
      · go_wp2
        go_ret
        exact ⟨by rw [HFB.out, HFK.out]; simp, HB5.out⟩
    · by_cases k8 : K = 8
      · subst k8
        go_enter Try.func16, Try.ntmps16
        go_wp2_with fail
        obtain ⟨WA, hWA⟩ : ∃ WA, (W.alloc (.cells #[.int .i64 8, .slice sa sk sc, .int .i64 M, .string S, .int .i64 X, .int .i64 Y, .bool Z, .slice a L cap] 25)).alloc (.cells #[.int .i64 8] 3) = WA := ⟨_, rfl⟩
        have HBA : Hid (Below W.heap.size W WA) := Lib.hid (by rw [← hWA]; exact ((Below.refl _ _).alloc (Nat.le_refl _) _).alloc (by simp) _)
        have HSA : Hid (WA.heap.size = W.heap.size + 2) := Lib.hid (by rw [← hWA]; simp)
        have HXA : Hid (WA.heap[W.heap.size]? = some (.cells #[.int .i64 8, .slice sa sk sc, .int .i64 M, .string S, .int .i64 X, .int .i64 Y, .bool Z, .slice a L cap] 25 (0, 0))) := Lib.hid (by
          rw [← hWA]; exact (Below.heap_alloc _ _ _ (by simp)).trans (heap_alloc_new W _))
        have HLA : Hid (WA.heap[W.heap.size + 1]? = some (.cells #[.int .i64 8] 3 (0, 0))) := Lib.hid (by
          rw [← hWA]
          have := heap_alloc_new (W.alloc (.cells #[.int .i64 8, .slice sa sk sc, .int .i64 M, .string S, .int .i64 X, .int .i64 Y, .bool Z, .slice a L cap] 25)) (.cells #[.int .i64 8] 3)
          rw [World.size_alloc] at this
          exact this)
        rw [hWA]
        clear hWA
        refine (HANY.out WA HBA.out (W.heap.size + 1) 1 1 [8] rfl (by omega) (by rw [HSA.out]; omega) (fun j hj => by
          rw [blkc HLA.out]
          match j, hj with
          | 0, _ => rfl)).mono ?_
        rintro e w5 ⟨rfl, hb5⟩
        rw [HSA.out] at hb5
        have HX5 : Hid (w5.heap[W.heap.size]? = some (.cells #[.int .i64 8, .slice sa sk sc, .int .i64 M, .string S, .int .i64 X, .int .i64 Y, .bool Z, .slice a L cap] 25 (0, 0))) := Lib.hid ((hb5.block _ (by omega)).trans HXA.out)
        have HB5 : Hid (Below W.heap.size W w5) := Lib.hid (HBA.out.trans (hb5.mono (by omega)))
        have b0 := blkc HX5.out 0
        have b1 := blkc HX5.out 1
        have b2 := blkc HX5.out 2
        have b3 := blkc HX5.out 3
        have b4 := blkc HX5.out 4
        have b5 := blkc HX5.out 5
        have b6 := blkc HX5.out 6
        have b7 := blkc HX5.out 7
        simp only [List.getElem?_toArray, List.getElem?_cons_zero, List.getElem?_cons_succ] at b0 b1 b2 b3 b4 b5 b6 b7
        clear hb5
        obtain ⟨q, hq⟩ : ∃ q, (Td.subs n).any (fun x => decide (Td.kind x ∈ ([8] : List Int))) = q := ⟨_, rfl⟩
        rw [hq] at HFK ⊢
        cases q
        · go_wp2_with fail
          refine (HT.out _ HB5.out).mono ?_
          rintro e w7 ⟨rfl, hb7⟩
          have HB7 := Lib.hid (HB5.out.trans (hb7.mono HB5.out.size))
          clear hb7
          go_wp2
          go_ret
          exact ⟨by rw [HFB.out, HFK.out]; simp, HB7.out⟩
        · go_wp2
          go_ret
          exact ⟨by rw [HFB.out, HFK.out]; simp, HB5.out⟩
      · by_cases k9 : K = 9
        · subst k9
          go_enter Try.func16, Try.ntmps16
          by_cases c1 : X = 0
          · subst c1
            by_cases c2 : Y = 0
            · subst c2
              go_wp2
              go_ret
              exact ⟨by rw [HFB.out, HFK.out]; simp, HB1.out⟩
            · go_wp2_with fail
              obtain ⟨WA, hWA⟩ : ∃ WA, (W.alloc (.cells #[.int .i64 9, .slice sa sk sc, .int .i64 M, .string S, .int .i64 0, .int .i64 Y, .bool Z, .slice a L cap] 25)).alloc (.cells #[.int .i64 1] 3) = WA := ⟨_, rfl⟩
              have HBA : Hid (Below W.heap.size W WA) := Lib.hid (by rw [← hWA]; exact ((Below.refl _ _).alloc (Nat.le_refl _) _).alloc (by simp) _)
              have HSA : Hid (WA.heap.size = W.heap.size + 2) := Lib.hid (by rw [← hWA]; simp)
              have HXA : Hid (WA.heap[W.heap.size]? = some (.cells #[.int .i64 9, .slice sa sk sc, .int .i64 M, .string S, .int .i64 0, .int .i64 Y, .bool Z, .slice a L cap] 25 (0, 0))) := Lib.hid (by
                rw [← hWA]; exact (Below.heap_alloc _ _ _ (by simp)).trans (heap_alloc_new W _))
              have HLA : Hid (WA.heap[W.heap.size + 1]? = some (.cells #[.int .i64 1] 3 (0, 0))) := Lib.hid (by
                rw [← hWA]
                have := heap_alloc_new (W.alloc (.cells #[.int .i64 9, .slice sa sk sc, .int .i64 M, .string S, .int .i64 0, .int .i64 Y, .bool Z, .slice a L cap] 25)) (.cells #[.int .i64 1] 3)
                rw [World.size_alloc] at this
                exact this)
              rw [hWA]
              clear hWA
              refine (HANY.out WA HBA.out (W.heap.size + 1) 1 1 [1] rfl (by omega) (by rw [HSA.out]; omega) (fun j hj => by
                rw [blkc HLA.out]
                match j, hj with
                | 0, _ => rfl)).mono ?_
              rintro e w5 ⟨rfl, hb5⟩
              rw [HSA.out] at hb5
              have HX5 : Hid (w5.heap[W.heap.size]? = some (.cells #[.int .i64 9, .slice sa sk sc, .int .i64 M, .string S, .int .i64 0, .int .i64 Y, .bool Z, .slice a L cap] 25 (0, 0))) := Lib.hid ((hb5.block _ (by omega)).trans HXA.out)
              have HB5 : Hid (Below W.heap.size W w5) := Lib.hid (HBA.out.trans (hb5.mono (by omega)))
              have b0 := blkc HX5.out 0
              have b1 := blkc HX5.out 1
              have b2 := blkc HX5.out 2
              have b3 := blkc HX5.out 3
              have b4 := blkc HX5.out 4
              have b5 := blkc HX5.out 5
              have b6 := blkc HX5.out 6
              have b7 := blkc HX5.out 7
              simp only [List.getElem?_toArray, List.getElem?_cons_zero, List.getElem?_cons_succ] at b0 b1 b2 b3 b4 b5 b6 b7
              clear hb5
              obtain ⟨q, hq⟩ : ∃ q, (Td.subs n).any (fun x => decide (Td.kind x ∈ ([1] : List Int))) = q := ⟨_, rfl⟩
              rw [hq] at HFK ⊢
              cases q
              · go_wp2_with fail
                refine (HT.out _ HB5.out).mono ?_
                rintro e w7 ⟨rfl, hb7⟩
                have HB7 := Lib.hid (HB5.out.trans (hb7.mono HB5.out.size))
                clear hb7
                go_wp2
                go_ret
                exact ⟨by rw [HFB.out, HFK.out]; simp [c2], HB7.out⟩
              · go_wp2
                go_ret
                exact ⟨by rw [HFB.out, HFK.out]; simp [c2], HB5.out⟩
          · go_wp2
            go_ret
            exact ⟨by rw [HFB.out, HFK.out]; simp [c1], HB1.out⟩
        · go_enter Try.func16, Try.ntmps16
          go_wp2_with fail
          refine (HT.out _ HB1.out).mono ?_
          rintro e w7 ⟨rfl, hb7⟩
          have HB7 := Lib.hid (HB1.out.trans (hb7.mono HB1.out.size))
          clear hb7
          go_wp2
          go_ret
          exact ⟨by rw [HFB.out, HFK.out]; simp [k6, k7, k8, k9], HB7.out⟩
end Go.Proofs.Ythhdlcckboiecaa
namespace Go.Proofs.Ythhdlcckboiecaa
open Go.RowKit
set_option linter.unusedVariables false
namespace Td
/-- May it match nothing? Down to a depth. -/
def nul : Nat → Nd → Bool
  | 0, _ => false
  | k + 1, n => if kind n = 1 ∨ kind n = 5 then true else if kind n = 6 ∨ kind n = 7 then (subs n).all (nul k) else if kind n = 8 then (subs n).any (nul k) else if kind n = 9 then mn n == 0 || (subs n).all (nul k) else false
end Td



















































































































end Go.Proofs.Ythhdlcckboiecaa
