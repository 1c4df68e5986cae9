/- burinlaw11: mathematics of NormAgain and NormCores. · burinlaw11.NormAgain, walked. · An argument that is a list of ranges, opened. · An argument that is a tree, opened over this program. -/
import Derived.Test.YtanffablfgnioaaGp39
import Derived.Test.YtanffablfgnioaaGp34
import Derived.Test.YtanffablfgnioaaGp35
import Derived.Test.YtanffablfgnioaaGp40
import Derived.Test.YtanffablfgnioaaGp2
import Derived.Deep.SlicePairs
import Derived.ProofKit
import Derived.SizedLaws
import Derived.Lib.RowBridge
import Derived.Test.YtanffablfgnioaaGp3
namespace Go.Proofs.Ytanffablfgnioaa
open Go.RowKit
open Go.Proofs.Ytanffablfgnioaa.Nm
set_option linter.unusedVariables false
set_option linter.unusedSimpArgs false
namespace Nm
theorem same1_refl (n : Nd) : Td.same1 n n = true := by unfold Td.same1; simp
theorem same_refl : ∀ (k : Nat) (n : Nd), hgt n ≤ k → Td.sameB k n n = true
  | 0, n, h => by have := hgt_pos n; omega
  | k + 1, n, h => by
    rw [Td.sameB, same1_refl, Bool.true_and]
    have hm : ∀ m ∈ Td.subs n, Td.sameB k m m = true := fun m hm => same_refl k m (by have := hgt_sub hm; omega)
    have key : ∀ l : List Nd, (∀ m ∈ l, Td.sameB k m m = true) → (l.zip l).all (fun p => Td.sameB k p.1 p.2) = true := fun l => by
      induction l with
      | nil => intro _; rfl
      | cons a l ih => intro h; simp [h a (by simp)]; intro x y hxy; have := List.all_eq_true.1 (ih (fun m hm => h m (List.mem_cons_of_mem _ hm))) (x, y) hxy; exact this
    exact key _ hm
theorem fit_hgt : ∀ (k : Nat) (n : Nd), Td.fit k n → hgt n ≤ k
  | 0, n, h => h.elim
  | k + 1, n, h => hgt_le (fun m hm => fit_hgt k m (h.2.2.2 m hm))
/-- What is so of a core made of a small tree. -/
theorem coreF_ok {n : Nd} (hf : Td.fit 40 n) (h : (CoreF n).2 = 0) : (CoreF n).1 = coreI n ∧ AllN (Qc (Pg (Td.groups (Td.all 1000 1 n)).length)) (coreI n) ∧ hgt (coreI n) ≤ 80 ∧ cnt (coreI n) ≤ 4000 ∧ cnt (coreI n) ≤ wtN 1000 n ∧ nulI (coreI n) = nulI n ∧ Td.checkN n = 0 := by
  have hh := fit_hgt 40 n hf
  unfold CoreF at h ⊢
  by_cases hc : Td.checkN n ≠ 0
  · rw [if_pos hc] at h; exact absurd h hc
  rw [if_neg hc] at h ⊢
  by_cases hw : 4000 < wtN 1000 n
  · rw [if_pos hw] at h; cases h
  rw [if_neg hw]
  have hc0 : Td.checkN n = 0 := by omega
  obtain ⟨ha, -⟩ := check_all hc0
  have hw2 := wt_st 1000 n (by omega)
  have := core_is _ (fun x hx => hx.2.1) n ha (by omega)
  have h1 := this.hgt
  have h2 := this.cnt
  exact ⟨rfl, this.ok, by omega, by omega, by omega, this.nul, hc0⟩
/-- A core's core, where Check takes it. -/
theorem coreF_again {c : Nd} {P : Int → Prop} (ha : AllN (Qc P) c) (hc : Td.checkN c = 0) : CoreF c = if 4000 < wtN 1000 c then (nil0, 110) else (c, 0) := by
  unfold CoreF
  rw [if_neg (by omega), core_own P c ha]
end Nm
end Go.Proofs.Ytanffablfgnioaa
namespace Go.Proofs.Ytanffablfgnioaa
open Go.RowKit
open Go.Proofs.Ytanffablfgnioaa.Nm
set_option linter.unusedVariables false
set_option linter.unusedSimpArgs false
set_option maxRecDepth 100000 in
set_option maxHeartbeats 16000000 in
theorem walkNormAgain (W : World) (cs : List Value) (n : Nd) (h : NdIs W n cs) : Calls Try.prog 5 #[.agg cs.toArray] W fun e w' => e = .returned (.bool true) ∧ Below W.heap.size W w' := by
  obtain ⟨vs, a, cap, C, hC⟩ := h.cells
  obtain ⟨sa, sk, sc, rfl⟩ : ∃ a k c, vs = .slice a k c := by obtain ⟨a, c, h, -⟩ := hC.set; exact ⟨a, _, c, h⟩
  have hcs := hC.eq
  subst hcs
  obtain ⟨L, hL⟩ : ∃ L, (Td.subs n).length = L := ⟨_, rfl⟩
  rw [hL] at h ⊢
  obtain ⟨W1, hW1⟩ : ∃ W1, W.alloc (.cells #[.int .i64 (Td.kind n), .slice sa sk sc, .int .i64 (Td.num n), .string (Td.name n), .int .i64 (Td.mn n), .int .i64 (Td.mx n), .bool (Td.lazy n), .slice a L cap] 25) = W1 := ⟨_, rfl⟩
  have hb1 : Below W.heap.size W W1 := by rw [← hW1]; exact (Below.refl _ _).alloc (Nat.le_refl _) _
  have HX1 : Hid (W1.heap[W.heap.size]? = some (.cells #[.int .i64 (Td.kind n), .slice sa sk sc, .int .i64 (Td.num n), .string (Td.name n), .int .i64 (Td.mn n), .int .i64 (Td.mx n), .bool (Td.lazy n), .slice a L cap] 25 (0, 0))) := Lib.hid (by rw [← hW1]; exact heap_alloc_new _ _)
  have HB1 := Lib.hid hb1
  have HN1 := Lib.hid (h.kept hb1)
  have hs1 : W.heap.size < W1.heap.size := by rw [← hW1]; simp
  have HW1 := Lib.hid hW1
  clear hW1 hb1 hC hL h
  go_enter Try.func5, Try.ntmps5
  go_wp2_with fail
  rw [HW1.out]
  refine (works11_any W1).mono ?_
  rintro e w2 ⟨rfl, hb2⟩
  have HX2 := Lib.hid ((hb2.block _ hs1).trans HX1.out)
  have HB2 := Lib.hid (HB1.out.trans (hb2.mono HB1.out.size))
  have HN2 := Lib.hid (HN1.out.kept hb2)
  have hs2 : W.heap.size < w2.heap.size := Nat.lt_of_lt_of_le hs1 hb2.size
  obtain ⟨p0, p1, p2, p3, p4, p5, p6, p7⟩ := nbox_cells HX2.out
  clear hb2 hs1 HX1 HB1 HN1 HW1
  go_wp2_with fail
  refine (refGreat_any w2 n _ 200 (by omega) (by omega) HN2.out).mono ?_
  rintro e w3 ⟨b, rfl, hgr, hb3⟩
  have HX3 := Lib.hid ((hb3.block _ hs2).trans HX2.out)
  have HB3 := Lib.hid (HB2.out.trans (hb3.mono HB2.out.size))
  have HN3 := Lib.hid (HN2.out.kept hb3)
  have hs3 : W.heap.size < w3.heap.size := Nat.lt_of_lt_of_le hs2 hb3.size
  clear p0 p1 p2 p3 p4 p5 p6 p7 hb3 hs2 HX2 HB2 HN2
  cases b with
  | true =>
    go_wp2
    go_ret
    exact ⟨rfl, HB3.out⟩
  | false =>
    have HFIT := Lib.hid (hgr rfl).2
    have HSM := Lib.hid (Td.all_small n 200 (by omega) (hgr rfl) 1)
    clear hgr
    obtain ⟨p0, p1, p2, p3, p4, p5, p6, p7⟩ := nbox_cells HX3.out
    go_wp2_with fail
    refine (bigCore_any w3 n _ HN3.out HSM.out).mono ?_
    rintro e w4 ⟨c4, rfl, hn4, hb4⟩
    have HM := Lib.hid (fun h => coreF_ok HFIT.out h)
    obtain ⟨C, hC⟩ : ∃ C, (CoreF n).1 = C := ⟨_, rfl⟩
    obtain ⟨E, hE⟩ : ∃ E, (CoreF n).2 = E := ⟨_, rfl⟩
    rw [hC] at hn4 HM
    rw [hE] at HM ⊢
    have HB4 := Lib.hid (HB3.out.trans (hb4.mono HB3.out.size))
    obtain ⟨vs4, a4, cap4, Y4, hxe4, hset4, -, -⟩ := hn4.parts
    obtain ⟨ta, tk, tc, rfl⟩ : ∃ a k c, vs4 = .slice a k c := by obtain ⟨a, c, h, -⟩ := hset4.1; exact ⟨a, _, c, h⟩
    subst hxe4
    obtain ⟨W5, hW5⟩ : ∃ W5, w4.alloc (.cells #[.int .i64 (Td.kind C), .slice ta tk tc, .int .i64 (Td.num C), .string (Td.name C), .int .i64 (Td.mn C), .int .i64 (Td.mx C), .bool (Td.lazy C), .slice a4 (Td.subs C).length cap4] 25) = W5 := ⟨_, rfl⟩
    have hb5 : Below w4.heap.size w4 W5 := by rw [← hW5]; exact (Below.refl _ _).alloc (Nat.le_refl _) _
    have HX5 : Hid (W5.heap[w4.heap.size]? = some (.cells #[.int .i64 (Td.kind C), .slice ta tk tc, .int .i64 (Td.num C), .string (Td.name C), .int .i64 (Td.mn C), .int .i64 (Td.mx C), .bool (Td.lazy C), .slice a4 (Td.subs C).length cap4] 25 (0, 0))) := Lib.hid (by rw [← hW5]; exact heap_alloc_new _ _)
    have HN5 := Lib.hid (hn4.is.kept hb5)
    have HB5 := Lib.hid (HB4.out.trans (hb5.mono HB4.out.size))
    have hs5 : w4.heap.size < W5.heap.size := by rw [← hW5]; simp
    obtain ⟨q0, q1, q2, q3, q4, q5, q6, q7⟩ := nbox_cells HX5.out
    rw [← hW5] at q0 q1 q2 q3 q4 q5 q6 q7
    have HW5 := Lib.hid hW5
    clear hC hE hset4 hn4 hb4 hb5 hW5 p0 p1 p2 p3 p4 p5 p6 p7
    by_cases hE0 : E = 0
    · subst hE0
      obtain ⟨hCI, hAll, hH, hCn, -, -, -⟩ := HM.out rfl
      rw [← hCI] at hAll hH hCn
      have HALL := Lib.hid hAll
      have HH := Lib.hid hH
      have HLC : Hid ((Td.all 1000 1 C).length ≤ 1000000) := Lib.hid (by rw [all_cnt 1000 1 C (by omega)]; omega)
      clear hCI hAll hH hCn HM
      have HCK := Lib.hid (trCheck_any W5 C _ HN5.out HLC.out)
      go_wp2_with fail
      rw [HW5.out]
      refine HCK.out.mono ?_
      rintro e w6 ⟨rfl, hb6⟩
      have HX6 := Lib.hid ((hb6.block _ hs5).trans HX5.out)
      have HB6 := Lib.hid (HB5.out.trans (hb6.mono HB5.out.size))
      have HN6 := Lib.hid (HN5.out.kept hb6)
      have hs6 : w4.heap.size < w6.heap.size := Nat.lt_of_lt_of_le hs5 hb6.size
      have HAG := Lib.hid (fun h => coreF_again HALL.out h)
      obtain ⟨K, hK⟩ : ∃ K, Td.checkN C = K := ⟨_, rfl⟩
      rw [hK] at HAG ⊢
      clear hK hb6 q0 q1 q2 q3 q4 q5 q6 q7
      by_cases hK0 : K = 0
      · subst hK0
        obtain ⟨q0, q1, q2, q3, q4, q5, q6, q7⟩ := nbox_cells HX6.out
        have HCO := Lib.hid (bigCore_any w6 C _ HN6.out HLC.out)
        rw [HAG.out rfl] at HCO
        go_wp2_with fail
        refine HCO.out.mono ?_
        rintro e w7 ⟨c7, rfl, hn7, hb7⟩
        have HB7 := Lib.hid (HB6.out.trans (hb7.mono HB6.out.size))
        have HX7 := Lib.hid ((hb7.block _ hs6).trans HX6.out)
        have HN7 := Lib.hid (HN6.out.kept hb7)
        have hs7 : w4.heap.size < w7.heap.size := Nat.lt_of_lt_of_le hs6 hb7.size
        have HWT := Lib.hid (fun w h => bigWeight_any w C _ (HN7.out.kept h))
        obtain ⟨T, hT⟩ : ∃ T, wtN 1000 C = T := ⟨_, rfl⟩
        rw [hT] at hn7 HWT ⊢
        clear hT q0 q1 q2 q3 q4 q5 q6 q7
        obtain ⟨D, hD⟩ : ∃ D, (if 4000 < T then (nil0, (110 : Int)) else (C, 0)).1 = D := ⟨_, rfl⟩
        rw [hD] at hn7
        obtain ⟨vs7, a7, cap7, Y7, hxe7, hset7, -, -⟩ := hn7.parts
        obtain ⟨xa, xk, xc, rfl⟩ : ∃ a k c, vs7 = .slice a k c := by obtain ⟨a, c, h, -⟩ := hset7.1; exact ⟨a, _, c, h⟩
        subst hxe7
        obtain ⟨W8, hW8⟩ : ∃ W8, w7.alloc (.cells #[.int .i64 (Td.kind D), .slice xa xk xc, .int .i64 (Td.num D), .string (Td.name D), .int .i64 (Td.mn D), .int .i64 (Td.mx D), .bool (Td.lazy D), .slice a7 (Td.subs D).length cap7] 25) = W8 := ⟨_, rfl⟩
        have hb8 : Below w7.heap.size w7 W8 := by rw [← hW8]; exact (Below.refl _ _).alloc (Nat.le_refl _) _
        have HX8 : Hid (W8.heap[w7.heap.size]? = some (.cells #[.int .i64 (Td.kind D), .slice xa xk xc, .int .i64 (Td.num D), .string (Td.name D), .int .i64 (Td.mn D), .int .i64 (Td.mx D), .bool (Td.lazy D), .slice a7 (Td.subs D).length cap7] 25 (0, 0))) := Lib.hid (by rw [← hW8]; exact heap_alloc_new _ _)
        have HND8 := Lib.hid (hn7.is.kept hb8)
        have HN8 := Lib.hid (HN7.out.kept hb8)
        have HB8 := Lib.hid (HB7.out.trans (hb8.mono HB7.out.size))
        have HC8 := Lib.hid ((hb8.block _ hs7).trans HX7.out)
        obtain ⟨q0, q1, q2, q3, q4, q5, q6, q7⟩ := nbox_cells HC8.out
        obtain ⟨r0, r1, r2, r3, r4, r5, r6, r7⟩ := nbox_cells HX8.out
        rw [← hW8] at q0 q1 q2 q3 q4 q5 q6 q7 r0 r1 r2 r3 r4 r5 r6 r7
        have HWT8 := Lib.hid (HWT.out W8 hb8)
        have HW8 := Lib.hid hW8
        have HD := Lib.hid hD
        clear hD hset7 hn7 hb7 hb8 hW8 HWT
        by_cases hw : 4000 < T
        · have hw' : (4000 : Int) < (T : Int) := by omega
          rw [if_pos hw]
          go_wp2_with fail
          rw [HW8.out]
          refine HWT8.out.mono ?_
          rintro e w9 ⟨rfl, hb9⟩
          have HB9 := Lib.hid (HB8.out.trans (hb9.mono HB8.out.size))
          clear hb9 q0 q1 q2 q3 q4 q5 q6 q7 r0 r1 r2 r3 r4 r5 r6 r7
          go_wp2
          go_ret
          exact ⟨rfl, HB9.out⟩
        · have HDC : Hid (D = C) := Lib.hid (by have := HD.out; rw [if_neg hw] at this; exact this.symm)
          rw [if_neg hw]
          have HSA : Hid (Calls Try.prog 20 #[.agg #[.int .i64 (Td.kind C), .slice ta tk tc, .int .i64 (Td.num C), .string (Td.name C), .int .i64 (Td.mn C), .int .i64 (Td.mx C), .bool (Td.lazy C), .slice a4 (Td.subs C).length cap4], .agg #[.int .i64 (Td.kind D), .slice xa xk xc, .int .i64 (Td.num D), .string (Td.name D), .int .i64 (Td.mn D), .int .i64 (Td.mx D), .bool (Td.lazy D), .slice a7 (Td.subs D).length cap7], .int .i64 200] W8 fun e w' => e = .returned (.bool true) ∧ Below W8.heap.size W8 w') := Lib.hid (by
            have := sameNode_any 200 (by omega) W8 C D _ _ HN8.out HND8.out
            rw [HDC.out, same_refl 200 C (by have := HH.out; omega)] at this
            rw [HDC.out]
            exact this)
          go_wp2_with fail
          rw [HW8.out]
          refine HSA.out.mono ?_
          rintro e w9 ⟨rfl, hb9⟩
          have HB9 := Lib.hid (HB8.out.trans (hb9.mono HB8.out.size))
          clear hb9 q0 q1 q2 q3 q4 q5 q6 q7 r0 r1 r2 r3 r4 r5 r6 r7
          go_wp2
          go_ret
          exact ⟨rfl, HB9.out⟩
      · go_wp2
        go_ret
        exact ⟨rfl, HB6.out⟩
    · go_wp2
      rw [HW5.out]
      go_ret
      exact ⟨rfl, HB5.out⟩
end Go.Proofs.Ytanffablfgnioaa
namespace Go.Proofs.Ytanffablfgnioaa
open Go.ChangeShapes Go.WideShapes Go.ChangeAt Go.RowKit
set_option linter.unusedVariables false
theorem laidOut : laidOutB Try.prog = true := by kernel_rfl
theorem rangeStruct : ∃ f0 f1 : Field, Try.prog.underlying 49 = some (.struct #[f0, f1]) ∧ f0.offset = 0 ∧ f1.offset = 1 ∧ f0.type = 3 ∧ f1.type = 3 := ⟨_, _, Try.underlying49, rfl, rfl, rfl, rfl⟩
theorem rangeCells : Try.prog.cellsOf 49 = 2 := by kernel_rfl
theorem intCells : Try.prog.cellsOf 3 = 1 := by kernel_rfl
theorem rangeBytes : Try.prog.bytesOf 49 = 16 := by kernel_rfl
end Go.Proofs.Ytanffablfgnioaa
namespace Go.Proofs.Ytanffablfgnioaa
open Go.ChangeShapes Go.WideShapes Go.ChangeAt Go.RowKit
set_option linter.unusedVariables false
theorem rgTypes6 : RgTypes Try.prog 22 49 3 :=
  ⟨Try.underlying22, rangeStruct, Try.underlying3, rangeCells, intCells, rangeBytes⟩
theorem ndTypes : NdTypes Try.prog 25 23 22 49 3 9 4 :=
  ⟨rgTypes6, ⟨_, _, _, _, _, _, _, _, Try.underlying25, ⟨rfl, rfl, rfl, rfl, rfl, rfl, rfl, rfl⟩, rfl, rfl, rfl, rfl, rfl, rfl, rfl, rfl⟩, Try.underlying23, Try.underlying9, Try.underlying4,
    ⟨by kernel_rfl, by kernel_rfl, by kernel_rfl, by kernel_rfl, by kernel_rfl, by kernel_rfl⟩, by kernel_rfl⟩
set_option maxRecDepth 100000 in
theorem open_node {H : Type} {enc : TypeId × Value → H} {W : World} {base : Nat} {v : Value} {d : DataW H} {p : List MemPlace} (hv : Value.okWide Try.prog W .any base 25 v)
    (h : DataW.Trod enc Try.prog W 0 (fun _ => true) true 25 v d p) (hs : ∀ n ∈ d.weights Try.prog 25, n ≤ reachBytes) : ∃ cs n, v = .agg cs.toArray ∧ NdIs W n cs := by
  obtain ⟨fuel, hf⟩ := h
  obtain ⟨cs, rfl, hsz⟩ := okWide_struct Try.underlying25 hv
  obtain ⟨n, hn⟩ := open_node_g ndTypes fuel hf hs
  exact ⟨cs.toList, n, by simp, hn⟩
end Go.Proofs.Ytanffablfgnioaa
