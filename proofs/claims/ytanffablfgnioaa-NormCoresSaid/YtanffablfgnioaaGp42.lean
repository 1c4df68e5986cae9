/- burinlaw11.NormCores, walked. -/
import Derived.Test.YtanffablfgnioaaGp40
import Derived.Test.YtanffablfgnioaaGp41
import Derived.Test.YtanffablfgnioaaGp32
import Derived.Deep.RegionHeld3
namespace Go.Proofs.Ytanffablfgnioaa
open Go.RowKit
open Go.Proofs.Ytanffablfgnioaa.Nm
set_option linter.unusedVariables false
set_option linter.unusedSimpArgs false
set_option maxRecDepth 100000 in
set_option maxHeartbeats 16000000 in
theorem walkNormCores (W : World) (cs : List Value) (n : Nd) (h : NdIs W n cs) : Calls Try.prog 4 #[.agg cs.toArray] W fun e w' => e = .returned (.bool true) ∧ Below W.heap.size W w' := by
  obtain ⟨vs, a, cap, C, hC⟩ := h.cells
  obtain ⟨sa, sk, sc, rfl⟩ : ∃ a k c, vs = .slice a k c := by obtain ⟨a, c, h, -⟩ := hC.set; exact ⟨a, _, c, h⟩
  have hcs := hC.eq
  subst hcs
  obtain ⟨L, hL⟩ : ∃ L, (Td.subs n).length = L := ⟨_, rfl⟩
  rw [hL] at h ⊢
  obtain ⟨W1, hW1⟩ : ∃ W1, W.alloc (.cells #[.int .i64 (Td.kind n), .slice sa sk sc, .int .i64 (Td.num n), .string (Td.name n), .int .i64 (Td.mn n), .int .i64 (Td.mx n), .bool (Td.lazy n), .slice a L cap] 25) = W1 := ⟨_, rfl⟩
  have hb1 : Below W.heap.size W W1 := by rw [← hW1]; exact (Below.refl _ _).alloc (Nat.le_refl _) _
  have HX1 : Hid (W1.heap[W.heap.size]? = some (.cells #[.int .i64 (Td.kind n), .slice sa sk sc, .int .i64 (Td.num n), .string (Td.name n), .int .i64 (Td.mn n), .int .i64 (Td.mx n), .bool (Td.lazy n), .slice a L cap] 25 (0, 0))) := Lib.hid (by rw [← hW1]; exact heap_alloc_new _ _)
  have HB1 := Lib.hid hb1
  have HN1 := Lib.hid (h.kept hb1)
  have hs1 : W.heap.size < W1.heap.size := by rw [← hW1]; simp
  have HW1 := Lib.hid hW1
  clear hW1 hb1 hC hL h
  go_enter Try.func4, Try.ntmps4
  go_wp2_with fail
  rw [HW1.out]
  refine (works11_any W1).mono ?_
  rintro e w2 ⟨rfl, hb2⟩
  have HX2 := Lib.hid ((hb2.block _ hs1).trans HX1.out)
  have HB2 := Lib.hid (HB1.out.trans (hb2.mono HB1.out.size))
  have HN2 := Lib.hid (HN1.out.kept hb2)
  have hs2 : W.heap.size < w2.heap.size := Nat.lt_of_lt_of_le hs1 hb2.size
  obtain ⟨p0, p1, p2, p3, p4, p5, p6, p7⟩ := nbox_cells HX2.out
  clear hb2 hs1 HX1 HB1 HN1 HW1
  go_wp2_with fail
  refine (refGreat_any w2 n _ 200 (by omega) (by omega) HN2.out).mono ?_
  rintro e w3 ⟨b, rfl, hgr, hb3⟩
  have HX3 := Lib.hid ((hb3.block _ hs2).trans HX2.out)
  have HB3 := Lib.hid (HB2.out.trans (hb3.mono HB2.out.size))
  have HN3 := Lib.hid (HN2.out.kept hb3)
  have hs3 : W.heap.size < w3.heap.size := Nat.lt_of_lt_of_le hs2 hb3.size
  clear p0 p1 p2 p3 p4 p5 p6 p7 hb3 hs2 HX2 HB2 HN2
  cases b with
  | true =>
    go_wp2
    go_ret
    exact ⟨rfl, HB3.out⟩
  | false =>
    have HFIT := Lib.hid (hgr rfl).2
    have HSM := Lib.hid (Td.all_small n 200 (by omega) (hgr rfl) 1)
    clear hgr
    obtain ⟨p0, p1, p2, p3, p4, p5, p6, p7⟩ := nbox_cells HX3.out
    have HCO := Lib.hid (bigCore_any w3 n _ HN3.out HSM.out)
    by_cases hc : Td.checkN n = 0
    · by_cases hw : 4000 < wtN 1000 n
      · have e9 : CoreF n = (nil0, 110) := by unfold CoreF; rw [if_neg (by omega), if_pos hw]
        rw [e9] at HCO
        have HCE := Lib.hid hc
        have HWE := Lib.hid hw
        clear hc hw e9
        go_wp2_with fail
        refine HCO.out.mono ?_
        rintro e w4 ⟨c4, rfl, hn4, hb4⟩
        have HB4 := Lib.hid (HB3.out.trans (hb4.mono HB3.out.size))
        have HX4 := Lib.hid ((hb4.block _ hs3).trans HX3.out)
        have HN4 := Lib.hid (HN3.out.kept hb4)
        obtain ⟨vs4, a4, cap4, Y4, hxe4, hset4, -, -⟩ := hn4.parts
        obtain ⟨ta, tk, tc, rfl⟩ : ∃ a k c, vs4 = .slice a k c := by obtain ⟨a, c, h, -⟩ := hset4.1; exact ⟨a, _, c, h⟩
        replace hxe4 : c4 = ([.int .i64 0, .slice ta tk tc, .int .i64 0, .string ⟨#[]⟩, .int .i64 0, .int .i64 0, .bool false, .slice a4 0 cap4] : List Value) := hxe4
        subst hxe4
        obtain ⟨W5, hW5⟩ : ∃ W5, w4.alloc (.cells #[.int .i64 0, .slice ta tk tc, .int .i64 0, .string ⟨#[]⟩, .int .i64 0, .int .i64 0, .bool false, .slice a4 0 cap4] 25) = W5 := ⟨_, rfl⟩
        have hb5 : Below w4.heap.size w4 W5 := by rw [← hW5]; exact (Below.refl _ _).alloc (Nat.le_refl _) _
        have HX5 : Hid (W5.heap[w4.heap.size]? = some (.cells #[.int .i64 0, .slice ta tk tc, .int .i64 0, .string ⟨#[]⟩, .int .i64 0, .int .i64 0, .bool false, .slice a4 0 cap4] 25 (0, 0))) := Lib.hid (by rw [← hW5]; exact heap_alloc_new _ _)
        have hlt4 : W.heap.size < w4.heap.size := Nat.lt_of_lt_of_le hs3 hb4.size
        have HXN5 : Hid (W5.heap[W.heap.size]? = some (.cells #[.int .i64 (Td.kind n), .slice sa sk sc, .int .i64 (Td.num n), .string (Td.name n), .int .i64 (Td.mn n), .int .i64 (Td.mx n), .bool (Td.lazy n), .slice a L cap] 25 (0, 0))) := Lib.hid ((hb5.block _ hlt4).trans HX4.out)
        have HN5 := Lib.hid (HN4.out.kept hb5)
        have HC5 := Lib.hid (hn4.is.kept hb5)
        have HB5 := Lib.hid (HB4.out.trans (hb5.mono HB4.out.size))
        have hs5 : w4.heap.size < W5.heap.size := by rw [← hW5]; simp
        have HS5 := Lib.hid hs5
        have HLT := Lib.hid (Nat.lt_trans hlt4 hs5)
        obtain ⟨q0, q1, q2, q3, q4, q5, q6, q7⟩ := nbox_cells HX5.out
        obtain ⟨r0, r1, r2, r3, r4, r5, r6, r7⟩ := nbox_cells HXN5.out
        rw [← hW5] at q0 q1 q2 q3 q4 q5 q6 q7 r0 r1 r2 r3 r4 r5 r6 r7
        have HW5 := Lib.hid hW5
        clear hset4 hn4 hb4 hb5 hW5 p0 p1 p2 p3 p4 p5 p6 p7 hlt4 hs5
        have HCK := Lib.hid (trCheck_any W5 n _ HN5.out HSM.out)
        rw [HCE.out] at HCK
        go_wp2_with fail
        rw [HW5.out]
        refine HCK.out.mono ?_
        rintro e w6 ⟨rfl, hb6⟩
        obtain ⟨t0, t1, t2, t3, t4, t5, t6, t7⟩ := nbox_cells ((hb6.block _ HLT.out).trans HXN5.out)
        have HB6 := Lib.hid (HB5.out.trans (hb6.mono HB5.out.size))
        have HWT := Lib.hid (bigWeight_any w6 n _ (HN5.out.kept hb6))
        have hwi : (4000 : Int) < ((wtN 1000 n : Nat) : Int) := by have := HWE.out; omega
        obtain ⟨T, hT⟩ : ∃ T, wtN 1000 n = T := ⟨_, rfl⟩
        rw [hT] at HWT hwi
        clear hT hb6 q0 q1 q2 q3 q4 q5 q6 q7 r0 r1 r2 r3 r4 r5 r6 r7
        go_wp2_with fail
        refine HWT.out.mono ?_
        rintro e w7 ⟨rfl, hb7⟩
        have HB7 := Lib.hid (HB6.out.trans (hb7.mono HB6.out.size))
        clear hb7 t0 t1 t2 t3 t4 t5 t6 t7
        go_wp2
        go_ret
        exact ⟨rfl, HB7.out⟩
      · have e9 : CoreF n = (coreI n, 0) := by unfold CoreF; rw [if_neg (by omega), if_neg hw]
        have HM := Lib.hid (coreF_ok HFIT.out (by rw [e9]))
        rw [e9] at HCO HM
        obtain ⟨C, hC⟩ : ∃ C, coreI n = C := ⟨_, rfl⟩
        simp only [hC] at HCO HM
        clear hC e9 hc hw
        go_wp2_with fail
        refine HCO.out.mono ?_
        rintro e w4 ⟨c4, rfl, hn4, hb4⟩
        have HB4 := Lib.hid (HB3.out.trans (hb4.mono HB3.out.size))
        have HX4 := Lib.hid ((hb4.block _ hs3).trans HX3.out)
        have HN4 := Lib.hid (HN3.out.kept hb4)
        obtain ⟨vs4, a4, cap4, Y4, hxe4, hset4, -, -⟩ := hn4.parts
        obtain ⟨ta, tk, tc, rfl⟩ : ∃ a k c, vs4 = .slice a k c := by obtain ⟨a, c, h, -⟩ := hset4.1; exact ⟨a, _, c, h⟩
        subst hxe4
        obtain ⟨W5, hW5⟩ : ∃ W5, w4.alloc (.cells #[.int .i64 (Td.kind C), .slice ta tk tc, .int .i64 (Td.num C), .string (Td.name C), .int .i64 (Td.mn C), .int .i64 (Td.mx C), .bool (Td.lazy C), .slice a4 (Td.subs C).length cap4] 25) = W5 := ⟨_, rfl⟩
        have hb5 : Below w4.heap.size w4 W5 := by rw [← hW5]; exact (Below.refl _ _).alloc (Nat.le_refl _) _
        have HX5 : Hid (W5.heap[w4.heap.size]? = some (.cells #[.int .i64 (Td.kind C), .slice ta tk tc, .int .i64 (Td.num C), .string (Td.name C), .int .i64 (Td.mn C), .int .i64 (Td.mx C), .bool (Td.lazy C), .slice a4 (Td.subs C).length cap4] 25 (0, 0))) := Lib.hid (by rw [← hW5]; exact heap_alloc_new _ _)
        have hlt4 : W.heap.size < w4.heap.size := Nat.lt_of_lt_of_le hs3 hb4.size
        have HXN5 : Hid (W5.heap[W.heap.size]? = some (.cells #[.int .i64 (Td.kind n), .slice sa sk sc, .int .i64 (Td.num n), .string (Td.name n), .int .i64 (Td.mn n), .int .i64 (Td.mx n), .bool (Td.lazy n), .slice a L cap] 25 (0, 0))) := Lib.hid ((hb5.block _ hlt4).trans HX4.out)
        have HN5 := Lib.hid (HN4.out.kept hb5)
        have HC5 := Lib.hid (hn4.is.kept hb5)
        have HB5 := Lib.hid (HB4.out.trans (hb5.mono HB4.out.size))
        have hs5 : w4.heap.size < W5.heap.size := by rw [← hW5]; simp
        have HS5 := Lib.hid hs5
        have HLT := Lib.hid (Nat.lt_trans hlt4 hs5)
        obtain ⟨q0, q1, q2, q3, q4, q5, q6, q7⟩ := nbox_cells HX5.out
        obtain ⟨r0, r1, r2, r3, r4, r5, r6, r7⟩ := nbox_cells HXN5.out
        rw [← hW5] at q0 q1 q2 q3 q4 q5 q6 q7 r0 r1 r2 r3 r4 r5 r6 r7
        have HW5 := Lib.hid hW5
        clear hset4 hn4 hb4 hb5 hW5 p0 p1 p2 p3 p4 p5 p6 p7 hlt4 hs5
        obtain ⟨-, hAll, hH, hCn, hCw, hNu, hCk⟩ := HM.out
        have hG1 := groups_len (Td.all 1000 1 n)
        have hG2 := HSM.out
        have hSl := slots_le hAll
        obtain ⟨G, hG⟩ : ∃ G, (Td.groups (Td.all 1000 1 n)).length = G := ⟨_, rfl⟩
        rw [hG] at hG1 hSl
        have hlc : (Td.all 2001 1 C).length ≤ 1000000 := by rw [all_cnt 2001 1 C (by omega)]; omega
        have hlc1 : (Td.all 1000 1 C).length ≤ 1000000 := by rw [all_cnt 1000 1 C (by omega)]; omega
        have hhn := fit_hgt 40 n HFIT.out
        have H1 : Hid (∀ w, Below W5.heap.size W5 w → Calls Try.prog 10 #[.agg #[.int .i64 (Td.kind C), .slice ta tk tc, .int .i64 (Td.num C), .string (Td.name C), .int .i64 (Td.mn C), .int .i64 (Td.mx C), .bool (Td.lazy C), .slice a4 (Td.subs C).length cap4]] w fun e w' => e = .returned (.int .i64 0) ∧ Below w.heap.size w w') := Lib.hid (fun w hb => by
          have := callsIn_wide.1 (ncheck_in 3 (by omega) w C _ (HC5.out.kept hb) hlc (her_of (by omega)))
          rw [checkC_of hAll (by omega) (by omega)] at this
          exact this)
        have H2 : Hid (∀ w, Below W5.heap.size W5 w → Calls Try.prog 17 #[.agg #[.int .i64 (Td.kind C), .slice ta tk tc, .int .i64 (Td.num C), .string (Td.name C), .int .i64 (Td.mn C), .int .i64 (Td.mx C), .bool (Td.lazy C), .slice a4 (Td.subs C).length cap4]] w fun e w' => e = .returned (.int .i64 (cnt C : Int)) ∧ Below w.heap.size w w') := Lib.hid (fun w hb => count_any 80 w C _ hH (by omega) (HC5.out.kept hb))
        have H3 : Hid (∀ w, Below W5.heap.size W5 w → Calls Try.prog 16 #[.agg #[.int .i64 (Td.kind n), .slice sa sk sc, .int .i64 (Td.num n), .string (Td.name n), .int .i64 (Td.mn n), .int .i64 (Td.mx n), .bool (Td.lazy n), .slice a L cap]] w fun e w' => e = .returned (.int .i64 (wtN 1000 n : Int)) ∧ Below w.heap.size w w') := Lib.hid (fun w hb => bigWeight_any w n _ (HN5.out.kept hb))
        have H4 : Hid (∀ w, Below W5.heap.size W5 w → Calls Try.prog 18 #[.agg #[.int .i64 (Td.kind C), .slice ta tk tc, .int .i64 (Td.num C), .string (Td.name C), .int .i64 (Td.mn C), .int .i64 (Td.mx C), .bool (Td.lazy C), .slice a4 (Td.subs C).length cap4]] w fun e w' => e = .returned (.bool (nulI n)) ∧ Below w.heap.size w w') := Lib.hid (fun w hb => by
          have := trNullable_any w C _ (HC5.out.kept hb)
          rw [nul_st 1000 C (by omega), hNu] at this
          exact this)
        have H5 : Hid (∀ w, Below W5.heap.size W5 w → Calls Try.prog 18 #[.agg #[.int .i64 (Td.kind n), .slice sa sk sc, .int .i64 (Td.num n), .string (Td.name n), .int .i64 (Td.mn n), .int .i64 (Td.mx n), .bool (Td.lazy n), .slice a L cap]] w fun e w' => e = .returned (.bool (nulI n)) ∧ Below w.heap.size w w') := Lib.hid (fun w hb => by
          have := trNullable_any w n _ (HN5.out.kept hb)
          rw [nul_st 1000 n (by omega)] at this
          exact this)
        have H6 : Hid (∀ w, Below W5.heap.size W5 w → Calls Try.prog 12 #[.agg #[.int .i64 (Td.kind C), .slice ta tk tc, .int .i64 (Td.num C), .string (Td.name C), .int .i64 (Td.mn C), .int .i64 (Td.mx C), .bool (Td.lazy C), .slice a4 (Td.subs C).length cap4]] w fun e w' => e = .returned (.int .i64 (2 + 2 * topG (Td.all 2000 1 C))) ∧ Below w.heap.size w w') := Lib.hid (fun w hb => callsIn_wide.1 (slots_in 3 (by omega) w C _ (HC5.out.kept hb) (by omega)))
        have H7 : Hid (∀ w, Below W5.heap.size W5 w → Calls Try.prog 19 #[.agg #[.int .i64 (Td.kind n), .slice sa sk sc, .int .i64 (Td.num n), .string (Td.name n), .int .i64 (Td.mn n), .int .i64 (Td.mx n), .bool (Td.lazy n), .slice a L cap]] w fun e w' => ∃ x y, e = .returned (.slice x G y) ∧ Below w.heap.size w w') := Lib.hid (fun w hb => (trGroups_any w n _ (HN5.out.kept hb) HSM.out).mono fun e w' h => by
          obtain ⟨v, rfl, ht, hb'⟩ := h
          obtain ⟨x, y, rfl⟩ := ht.slice
          rw [hG]
          exact ⟨x, y, rfl, hb'⟩)
        have HQ : Hid (∀ w, Below W5.heap.size W5 w → w.heap[w4.heap.size]? = some (.cells #[.int .i64 (Td.kind C), .slice ta tk tc, .int .i64 (Td.num C), .string (Td.name C), .int .i64 (Td.mn C), .int .i64 (Td.mx C), .bool (Td.lazy C), .slice a4 (Td.subs C).length cap4] 25 (0, 0)) ∧ w.heap[W.heap.size]? = some (.cells #[.int .i64 (Td.kind n), .slice sa sk sc, .int .i64 (Td.num n), .string (Td.name n), .int .i64 (Td.mn n), .int .i64 (Td.mx n), .bool (Td.lazy n), .slice a L cap] 25 (0, 0))) := Lib.hid (fun w hb => ⟨(hb.block _ HS5.out).trans HX5.out, (hb.block _ HLT.out).trans HXN5.out⟩)
        have HQ2 : Hid (∀ w', Below W5.heap.size W5 w' → (Below W5.heap.size W5 w' ∧ w'.cell? ⟨w4.heap.size, 0, none⟩ = some (.int .i64 (Td.kind C)) ∧ w'.cell? ⟨w4.heap.size, 1, none⟩ = some (.slice ta tk tc) ∧ w'.cell? ⟨w4.heap.size, 2, none⟩ = some (.int .i64 (Td.num C)) ∧ w'.cell? ⟨w4.heap.size, 3, none⟩ = some (.string (Td.name C)) ∧ w'.cell? ⟨w4.heap.size, 4, none⟩ = some (.int .i64 (Td.mn C)) ∧ w'.cell? ⟨w4.heap.size, 5, none⟩ = some (.int .i64 (Td.mx C)) ∧ w'.cell? ⟨w4.heap.size, 6, none⟩ = some (.bool (Td.lazy C)) ∧ w'.cell? ⟨w4.heap.size, 7, none⟩ = some (.slice a4 (Td.subs C).length cap4) ∧ w'.cell? ⟨W.heap.size, 0, none⟩ = some (.int .i64 (Td.kind n)) ∧ w'.cell? ⟨W.heap.size, 1, none⟩ = some (.slice sa sk sc) ∧ w'.cell? ⟨W.heap.size, 2, none⟩ = some (.int .i64 (Td.num n)) ∧ w'.cell? ⟨W.heap.size, 3, none⟩ = some (.string (Td.name n)) ∧ w'.cell? ⟨W.heap.size, 4, none⟩ = some (.int .i64 (Td.mn n)) ∧ w'.cell? ⟨W.heap.size, 5, none⟩ = some (.int .i64 (Td.mx n)) ∧ w'.cell? ⟨W.heap.size, 6, none⟩ = some (.bool (Td.lazy n)) ∧ w'.cell? ⟨W.heap.size, 7, none⟩ = some (.slice a L cap))) := Lib.hid (fun w' hb => by
          obtain ⟨hz1, hz2⟩ := HQ.out w' hb
          obtain ⟨x0, x1, x2, x3, x4, x5, x6, x7⟩ := nbox_cells hz1
          obtain ⟨y0, y1, y2, y3, y4, y5, y6, y7⟩ := nbox_cells hz2
          exact ⟨hb, x0, x1, x2, x3, x4, x5, x6, x7, y0, y1, y2, y3, y4, y5, y6, y7⟩)
        have H7q : Hid (∀ w, Below W5.heap.size W5 w → Calls Try.prog 19 #[.agg #[.int .i64 (Td.kind n), .slice sa sk sc, .int .i64 (Td.num n), .string (Td.name n), .int .i64 (Td.mn n), .int .i64 (Td.mx n), .bool (Td.lazy n), .slice a L cap]] w fun e w' => ∃ x y, e = .returned (.slice x G y) ∧ Below W5.heap.size W5 w') := Lib.hid (fun w hb => (H7.out w hb).mono fun e w' ⟨x, y, h, hq⟩ => ⟨x, y, h, hb.trans (hq.mono hb.size)⟩)
        have hle : ((cnt C : Nat) : Int) ≤ ((wtN 1000 n : Nat) : Int) := by omega
        obtain ⟨X1, hX1⟩ : ∃ X, cnt C = X := ⟨_, rfl⟩
        obtain ⟨X2, hX2⟩ : ∃ X, wtN 1000 n = X := ⟨_, rfl⟩
        obtain ⟨X3, hX3⟩ : ∃ X, nulI n = X := ⟨_, rfl⟩
        obtain ⟨X4, hX4⟩ : ∃ X, 2 + 2 * topG (Td.all 2000 1 C) = X := ⟨_, rfl⟩
        rw [hX1] at H2 hle
        rw [hX2] at H3 hle
        rw [hX3] at H4 H5
        rw [hX4] at H6
        have hsl : X4 ≤ 2 + 2 * (G : Int) := by omega
        have wg : IntKind.i64.wrap (2 * (G : Int)) = 2 * (G : Int) := by rw [IntKind.wrap_i64]; omega
        have wg2 : IntKind.i64.wrap (2 + 2 * (G : Int)) = 2 + 2 * (G : Int) := by rw [IntKind.wrap_i64]; omega
        have hbb : (X3 == X3) = true := by cases X3 <;> rfl
        clear hAll hH hCn hCw hNu hCk hG1 hG2 hSl hG hlc hlc1 hhn hX1 hX2 hX3 hX4 HM
        go_wp2
        rw [HW5.out]
        clear q0 q1 q2 q3 q4 q5 q6 q7 r0 r1 r2 r3 r4 r5 r6 r7
        have hs0 := HQ2.out W5.drew (Below.refl _ _).drew
        go_region_held3 (fun w' => Below W5.heap.size W5 w' ∧ w'.cell? ⟨w4.heap.size, 0, none⟩ = some (.int .i64 (Td.kind C)) ∧ w'.cell? ⟨w4.heap.size, 1, none⟩ = some (.slice ta tk tc) ∧ w'.cell? ⟨w4.heap.size, 2, none⟩ = some (.int .i64 (Td.num C)) ∧ w'.cell? ⟨w4.heap.size, 3, none⟩ = some (.string (Td.name C)) ∧ w'.cell? ⟨w4.heap.size, 4, none⟩ = some (.int .i64 (Td.mn C)) ∧ w'.cell? ⟨w4.heap.size, 5, none⟩ = some (.int .i64 (Td.mx C)) ∧ w'.cell? ⟨w4.heap.size, 6, none⟩ = some (.bool (Td.lazy C)) ∧ w'.cell? ⟨w4.heap.size, 7, none⟩ = some (.slice a4 (Td.subs C).length cap4) ∧ w'.cell? ⟨W.heap.size, 0, none⟩ = some (.int .i64 (Td.kind n)) ∧ w'.cell? ⟨W.heap.size, 1, none⟩ = some (.slice sa sk sc) ∧ w'.cell? ⟨W.heap.size, 2, none⟩ = some (.int .i64 (Td.num n)) ∧ w'.cell? ⟨W.heap.size, 3, none⟩ = some (.string (Td.name n)) ∧ w'.cell? ⟨W.heap.size, 4, none⟩ = some (.int .i64 (Td.mn n)) ∧ w'.cell? ⟨W.heap.size, 5, none⟩ = some (.int .i64 (Td.mx n)) ∧ w'.cell? ⟨W.heap.size, 6, none⟩ = some (.bool (Td.lazy n)) ∧ w'.cell? ⟨W.heap.size, 7, none⟩ = some (.slice a L cap))
          (first | assumption | go_keep)
          (first
            | (go_at_call 10; with_reducible refine (calls_keep H1.out (And.left (by assumption))).mono ?_; rintro e wq ⟨rfl, -, hq⟩; have hs8 := HQ2.out wq hq; clear hq)
            | (go_at_call 17; with_reducible refine (calls_keep H2.out (And.left (by assumption))).mono ?_; rintro e wq ⟨rfl, -, hq⟩; have hs8 := HQ2.out wq hq; clear hq)
            | (go_at_call 16; with_reducible refine (calls_keep H3.out (And.left (by assumption))).mono ?_; rintro e wq ⟨rfl, -, hq⟩; have hs8 := HQ2.out wq hq; clear hq)
            | (go_at_call 18; with_reducible refine (calls_keep H4.out (And.left (by assumption))).mono ?_; rintro e wq ⟨rfl, -, hq⟩; have hs8 := HQ2.out wq hq; clear hq)
            | (go_at_call 18; with_reducible refine (calls_keep H5.out (And.left (by assumption))).mono ?_; rintro e wq ⟨rfl, -, hq⟩; have hs8 := HQ2.out wq hq; clear hq)
            | (go_at_call 12; with_reducible refine (calls_keep H6.out (And.left (by assumption))).mono ?_; rintro e wq ⟨rfl, -, hq⟩; have hs8 := HQ2.out wq hq; clear hq)
            | (go_at_call 19; refine (H7q.out _ (And.left (by assumption))).mono ?_; rintro e wq ⟨x, y, rfl, hq⟩; have hs8 := HQ2.out wq hq; clear hq))
        have HBZ := Lib.hid (HB5.out.trans (hs8.1.mono HB5.out.size))
        clear hs0 hs8
        go_wp2
        go_ret
        exact ⟨rfl, HBZ.out⟩
    · have e9 : CoreF n = (nil0, Td.checkN n) := by unfold CoreF; rw [if_pos (by omega)]
      rw [e9] at HCO
      obtain ⟨K, hK⟩ : ∃ K, Td.checkN n = K := ⟨_, rfl⟩
      have HKK := Lib.hid hK
      rw [hK] at HCO hc
      clear e9 hK
      go_wp2_with fail
      refine HCO.out.mono ?_
      rintro e w4 ⟨c4, rfl, hn4, hb4⟩
      have HB4 := Lib.hid (HB3.out.trans (hb4.mono HB3.out.size))
      have HX4 := Lib.hid ((hb4.block _ hs3).trans HX3.out)
      have HN4 := Lib.hid (HN3.out.kept hb4)
      obtain ⟨vs4, a4, cap4, Y4, hxe4, hset4, -, -⟩ := hn4.parts
      obtain ⟨ta, tk, tc, rfl⟩ : ∃ a k c, vs4 = .slice a k c := by obtain ⟨a, c, h, -⟩ := hset4.1; exact ⟨a, _, c, h⟩
      replace hxe4 : c4 = ([.int .i64 0, .slice ta tk tc, .int .i64 0, .string ⟨#[]⟩, .int .i64 0, .int .i64 0, .bool false, .slice a4 0 cap4] : List Value) := hxe4
      subst hxe4
      obtain ⟨W5, hW5⟩ : ∃ W5, w4.alloc (.cells #[.int .i64 0, .slice ta tk tc, .int .i64 0, .string ⟨#[]⟩, .int .i64 0, .int .i64 0, .bool false, .slice a4 0 cap4] 25) = W5 := ⟨_, rfl⟩
      have hb5 : Below w4.heap.size w4 W5 := by rw [← hW5]; exact (Below.refl _ _).alloc (Nat.le_refl _) _
      have HX5 : Hid (W5.heap[w4.heap.size]? = some (.cells #[.int .i64 0, .slice ta tk tc, .int .i64 0, .string ⟨#[]⟩, .int .i64 0, .int .i64 0, .bool false, .slice a4 0 cap4] 25 (0, 0))) := Lib.hid (by rw [← hW5]; exact heap_alloc_new _ _)
      have hlt4 : W.heap.size < w4.heap.size := Nat.lt_of_lt_of_le hs3 hb4.size
      have HXN5 : Hid (W5.heap[W.heap.size]? = some (.cells #[.int .i64 (Td.kind n), .slice sa sk sc, .int .i64 (Td.num n), .string (Td.name n), .int .i64 (Td.mn n), .int .i64 (Td.mx n), .bool (Td.lazy n), .slice a L cap] 25 (0, 0))) := Lib.hid ((hb5.block _ hlt4).trans HX4.out)
      have HN5 := Lib.hid (HN4.out.kept hb5)
      have HC5 := Lib.hid (hn4.is.kept hb5)
      have HB5 := Lib.hid (HB4.out.trans (hb5.mono HB4.out.size))
      have hs5 : w4.heap.size < W5.heap.size := by rw [← hW5]; simp
      have HS5 := Lib.hid hs5
      have HLT := Lib.hid (Nat.lt_trans hlt4 hs5)
      obtain ⟨q0, q1, q2, q3, q4, q5, q6, q7⟩ := nbox_cells HX5.out
      obtain ⟨r0, r1, r2, r3, r4, r5, r6, r7⟩ := nbox_cells HXN5.out
      rw [← hW5] at q0 q1 q2 q3 q4 q5 q6 q7 r0 r1 r2 r3 r4 r5 r6 r7
      have HW5 := Lib.hid hW5
      clear hset4 hn4 hb4 hb5 hW5 p0 p1 p2 p3 p4 p5 p6 p7 hlt4 hs5
      have HCK := Lib.hid (trCheck_any W5 n _ HN5.out HSM.out)
      rw [HKK.out] at HCK
      have hkk : (K == K) = true := beq_self_eq_true K
      go_wp2_with fail
      rw [HW5.out]
      refine HCK.out.mono ?_
      rintro e w6 ⟨rfl, hb6⟩
      have HB6 := Lib.hid (HB5.out.trans (hb6.mono HB5.out.size))
      clear hb6 q0 q1 q2 q3 q4 q5 q6 q7 r0 r1 r2 r3 r4 r5 r6 r7
      go_wp2
      go_ret
      exact ⟨rfl, HB6.out⟩
end Go.Proofs.Ytanffablfgnioaa
