/- burinref11.Check. · burinlaw11.NormChecks, walked. · An argument that is a list of ranges, opened. · An argument that is a tree, opened over this program. -/
import Derived.Test.YthhdlcckboiecaaGp38
import Derived.Test.YthhdlcckboiecaaGp39
import Derived.Test.YthhdlcckboiecaaGp8
import Derived.Test.YthhdlcckboiecaaGp36
import Derived.Test.YthhdlcckboiecaaGp37
import Derived.Test.YthhdlcckboiecaaGp30
import Derived.Deep.RegionHeld3
import Derived.Test.YthhdlcckboiecaaGp1
import Derived.Deep.SlicePairs
import Derived.ProofKit
import Derived.SizedLaws
import Derived.Lib.RowBridge
import Derived.Test.YthhdlcckboiecaaGp2
namespace Go.Proofs.Ythhdlcckboiecaa
open Go.RowKit
open Go.Proofs.Ythhdlcckboiecaa.Nm
set_option linter.unusedVariables false
set_option linter.unusedSimpArgs false
set_option maxRecDepth 100000 in
set_option maxHeartbeats 8000000 in
theorem rcheck_any (W : World) (n : Nd) (cs : List Value) (h : NdIs W n cs) (hh : hgt n ≤ 2000) (hc : cnt n ≤ 4000) : Calls Try.prog 8 #[.agg cs.toArray] W fun e w' => e = .returned (.int .i64 (checkC n)) ∧ Below W.heap.size W w' := by
  obtain ⟨vs, a, cap, C, hC⟩ := h.cells
  obtain ⟨sa, sk, sc, rfl⟩ : ∃ a k c, vs = .slice a k c := by obtain ⟨a, c, h, -⟩ := hC.set; exact ⟨a, _, c, h⟩
  have hcs := hC.eq
  subst hcs
  obtain ⟨L, hL⟩ : ∃ L, (Td.subs n).length = L := ⟨_, rfl⟩
  rw [hL] at h ⊢
  obtain ⟨W1, hW1⟩ : ∃ W1, W.alloc (.cells #[.int .i64 (Td.kind n), .slice sa sk sc, .int .i64 (Td.num n), .string (Td.name n), .int .i64 (Td.mn n), .int .i64 (Td.mx n), .bool (Td.lazy n), .slice a L cap] 25) = W1 := ⟨_, rfl⟩
  have hb1 : Below W.heap.size W W1 := by rw [← hW1]; exact (Below.refl _ _).alloc (Nat.le_refl _) _
  have HX1 : Hid (W1.heap[W.heap.size]? = some (.cells #[.int .i64 (Td.kind n), .slice sa sk sc, .int .i64 (Td.num n), .string (Td.name n), .int .i64 (Td.mn n), .int .i64 (Td.mx n), .bool (Td.lazy n), .slice a L cap] 25 (0, 0))) := Lib.hid (by rw [← hW1]; exact heap_alloc_new _ _)
  have HB1 := Lib.hid hb1
  have HN1 := Lib.hid (h.kept hb1)
  have hs1 : W.heap.size < W1.heap.size := by rw [← hW1]; simp
  have HS1 := Lib.hid hs1
  have HD : Hid (Calls Try.prog 17 #[.agg #[.int .i64 (Td.kind n), .slice sa sk sc, .int .i64 (Td.num n), .string (Td.name n), .int .i64 (Td.mn n), .int .i64 (Td.mx n), .bool (Td.lazy n), .slice a L cap], .int .i64 2001] W1 fun e w' => e = .returned (.int .i64 (hgt n : Nat)) ∧ Below W1.heap.size W1 w') := Lib.hid (by
    have := refDepth_any 2001 (by omega) W1 n _ HN1.out
    rw [dep_st 2001 n (by omega)] at this
    exact this)
  have HCY := Lib.hid (fun hq => checkC_yes hh hc hq)
  have HCN := Lib.hid (fun hq => checkC_no hh hc hq)
  have HZ := Lib.hid (fun w (hb : Below W1.heap.size W1 w) => rsize_any 2000 w n _ hh hc (HN1.out.kept hb))
  have HP := Lib.hid (fun w (hb : Below W1.heap.size W1 w) => rplain_any 2000 w n _ hh (HN1.out.kept hb))
  obtain ⟨T, hT⟩ : ∃ T, hgt n = T := ⟨_, rfl⟩
  obtain ⟨Z, hZ⟩ : ∃ Z, cnt n = Z := ⟨_, rfl⟩
  rw [hT] at HD hh
  rw [hZ] at HZ hc
  have hh' : ¬ (2000 : Int) < (T : Int) := by omega
  have hc' : ¬ (4000 : Int) < (Z : Int) := by omega
  obtain ⟨p0, p1, p2, p3, p4, p5, p6, p7⟩ := nbox_cells HX1.out
  rw [← hW1] at p0 p1 p2 p3 p4 p5 p6 p7
  have HW1 := Lib.hid hW1
  clear hW1 hb1 hC hL h hh hc hT hZ hs1 HN1
  go_enter Try.func8, Try.ntmps8
  go_wp2_with fail
  rw [HW1.out]
  clear p0 p1 p2 p3 p4 p5 p6 p7 HW1
  refine HD.out.mono ?_
  rintro e w2 ⟨rfl, hb2⟩
  have HB2 := Lib.hid hb2
  clear hb2 HD
  obtain ⟨p0, p1, p2, p3, p4, p5, p6, p7⟩ := nbox_cells ((HB2.out.block _ HS1.out).trans HX1.out)
  go_wp2_with fail
  refine (HZ.out _ HB2.out).mono ?_
  rintro e w3 ⟨rfl, hb3⟩
  have HB3 := Lib.hid (HB2.out.trans (hb3.mono HB2.out.size))
  clear hb3 p0 p1 p2 p3 p4 p5 p6 p7
  obtain ⟨p0, p1, p2, p3, p4, p5, p6, p7⟩ := nbox_cells ((HB3.out.block _ HS1.out).trans HX1.out)
  go_wp2_with fail
  refine (HP.out _ HB3.out).mono ?_
  rintro e w4 ⟨b, rfl, hb, hb4⟩
  have HB4 := Lib.hid (HB1.out.trans ((HB3.out.trans (hb4.mono HB3.out.size)).mono HB1.out.size))
  have HBI := Lib.hid hb
  clear hb4 hb p0 p1 p2 p3 p4 p5 p6 p7
  cases b with
  | true =>
    have HE := Lib.hid (HCY.out (HBI.out.1 rfl))
    go_wp2
    go_ret
    exact ⟨by rw [HE.out]; rfl, HB4.out⟩
  | false =>
    have HE := Lib.hid (HCN.out (fun h => by have := HBI.out.2 h; cases this))
    go_wp2
    go_ret
    exact ⟨by rw [HE.out]; rfl, HB4.out⟩
end Go.Proofs.Ythhdlcckboiecaa
namespace Go.Proofs.Ythhdlcckboiecaa
open Go.RowKit
open Go.Proofs.Ythhdlcckboiecaa.Nm
set_option linter.unusedVariables false
set_option linter.unusedSimpArgs false
set_option maxRecDepth 100000 in
set_option maxHeartbeats 16000000 in
theorem walkNormChecks (W : World) (cs : List Value) (n : Nd) (h : NdIs W n cs) : Calls Try.prog 3 #[.agg cs.toArray] W fun e w' => e = .returned (.bool true) ∧ Below W.heap.size W w' := by
  obtain ⟨vs, a, cap, C, hC⟩ := h.cells
  obtain ⟨sa, sk, sc, rfl⟩ : ∃ a k c, vs = .slice a k c := by obtain ⟨a, c, h, -⟩ := hC.set; exact ⟨a, _, c, h⟩
  have hcs := hC.eq
  subst hcs
  obtain ⟨L, hL⟩ : ∃ L, (Td.subs n).length = L := ⟨_, rfl⟩
  rw [hL] at h ⊢
  obtain ⟨W1, hW1⟩ : ∃ W1, W.alloc (.cells #[.int .i64 (Td.kind n), .slice sa sk sc, .int .i64 (Td.num n), .string (Td.name n), .int .i64 (Td.mn n), .int .i64 (Td.mx n), .bool (Td.lazy n), .slice a L cap] 25) = W1 := ⟨_, rfl⟩
  have hb1 : Below W.heap.size W W1 := by rw [← hW1]; exact (Below.refl _ _).alloc (Nat.le_refl _) _
  have HX1 : Hid (W1.heap[W.heap.size]? = some (.cells #[.int .i64 (Td.kind n), .slice sa sk sc, .int .i64 (Td.num n), .string (Td.name n), .int .i64 (Td.mn n), .int .i64 (Td.mx n), .bool (Td.lazy n), .slice a L cap] 25 (0, 0))) := Lib.hid (by rw [← hW1]; exact heap_alloc_new _ _)
  have HB1 := Lib.hid hb1
  have HN1 := Lib.hid (h.kept hb1)
  have hs1 : W.heap.size < W1.heap.size := by rw [← hW1]; simp
  have HS1 := Lib.hid hs1
  have HGR := Lib.hid (refGreat_any W1 n _ 200 (by omega) (by omega) HN1.out)
  obtain ⟨p0, p1, p2, p3, p4, p5, p6, p7⟩ := nbox_cells HX1.out
  rw [← hW1] at p0 p1 p2 p3 p4 p5 p6 p7
  have HW1 := Lib.hid hW1
  clear hW1 hb1 hC hL h hs1
  go_enter Try.func3, Try.ntmps3
  go_wp2_with fail
  rw [HW1.out]
  clear p0 p1 p2 p3 p4 p5 p6 p7 HW1
  refine HGR.out.mono ?_
  rintro e w2 ⟨b, rfl, hgr, hb2⟩
  have HB2 := Lib.hid (HB1.out.trans (hb2.mono HB1.out.size))
  have HX2 := Lib.hid ((hb2.block _ HS1.out).trans HX1.out)
  have HN2 := Lib.hid (HN1.out.kept hb2)
  have HS2 := Lib.hid (Nat.lt_of_lt_of_le HS1.out hb2.size)
  clear hb2 HGR HX1 HN1 HS1 HB1
  cases b with
  | true =>
    go_wp2_with fail
    refine (works11_any w2).mono ?_
    rintro e w3 ⟨rfl, hb3⟩
    have HB3 := Lib.hid (HB2.out.trans (hb3.mono HB2.out.size))
    clear hb3
    go_wp2
    go_ret
    exact ⟨rfl, HB3.out⟩
  | false =>
    have HFIT := Lib.hid (hgr rfl)
    clear hgr
    obtain ⟨p0, p1, p2, p3, p4, p5, p6, p7⟩ := nbox_cells HX2.out
    have HSML := Lib.hid (small_any 50 (by omega) w2 n _ HN2.out)
    go_wp2_with fail
    refine HSML.out.mono ?_
    rintro e W3 ⟨b, rfl, hsm, hb3⟩
    have HB3 := Lib.hid (HB2.out.trans (hb3.mono HB2.out.size))
    have HX3 := Lib.hid ((hb3.block _ HS2.out).trans HX2.out)
    have HN3 := Lib.hid (HN2.out.kept hb3)
    have HS3 := Lib.hid (Nat.lt_of_lt_of_le HS2.out hb3.size)
    clear hb3 p0 p1 p2 p3 p4 p5 p6 p7 HSML HX2 HN2 HS2
    cases b with
    | false =>
      go_wp2_with fail
      refine (works11_any W3).mono ?_
      rintro e w4 ⟨rfl, hb4⟩
      have HB4 := Lib.hid (HB3.out.trans (hb4.mono HB3.out.size))
      clear hb4
      go_wp2
      go_ret
      exact ⟨rfl, HB4.out⟩
    | true =>
      have hSM := hsm rfl
      have hh := fit_hgt 40 n HFIT.out.2
      have hc : cnt n ≤ 200 := by
        have h1 := Td.all_le_wgt 40 1000 1 n HFIT.out.2
        rw [all_cnt 1000 1 n (by omega)] at h1
        have := HFIT.out.1
        omega
      have hlc : (Td.all 2001 1 n).length ≤ 1000000 := by rw [all_cnt 2001 1 n (by omega)]; omega
      have hbd := slIs_bd (slIs_top (n := n) (by omega)) (by unfold BigN; omega) hSM
      unfold BigN at hbd
      have H1 : Hid (∀ w, Below W3.heap.size W3 w → Calls Try.prog 7 #[.agg #[.int .i64 (Td.kind n), .slice sa sk sc, .int .i64 (Td.num n), .string (Td.name n), .int .i64 (Td.mn n), .int .i64 (Td.mx n), .bool (Td.lazy n), .slice a L cap]] w fun e w' => e = .returned (.int .i64 (checkC n)) ∧ Below w.heap.size w w') := Lib.hid (fun w hb => callsIn_wide.1 (ncheck_in 3 (by omega) w n _ (HN3.out.kept hb) hlc (her_of (by omega))))
      have H2 : Hid (∀ w, Below W3.heap.size W3 w → Calls Try.prog 8 #[.agg #[.int .i64 (Td.kind n), .slice sa sk sc, .int .i64 (Td.num n), .string (Td.name n), .int .i64 (Td.mn n), .int .i64 (Td.mx n), .bool (Td.lazy n), .slice a L cap]] w fun e w' => e = .returned (.int .i64 (checkC n)) ∧ Below w.heap.size w w') := Lib.hid (fun w hb => rcheck_any w n _ (HN3.out.kept hb) (by omega) (by omega))
      have H3 : Hid (∀ w, Below W3.heap.size W3 w → Calls Try.prog 9 #[.agg #[.int .i64 (Td.kind n), .slice sa sk sc, .int .i64 (Td.num n), .string (Td.name n), .int .i64 (Td.mn n), .int .i64 (Td.mx n), .bool (Td.lazy n), .slice a L cap]] w fun e w' => e = .returned (.int .i64 (2 + 2 * topG (Td.all 2000 1 n))) ∧ Below w.heap.size w w') := Lib.hid (fun w hb => callsIn_wide.1 (slots_in 3 (by omega) w n _ (HN3.out.kept hb) (by omega)))
      have H4 : Hid (∀ w, Below W3.heap.size W3 w → Calls Try.prog 10 #[.agg #[.int .i64 (Td.kind n), .slice sa sk sc, .int .i64 (Td.num n), .string (Td.name n), .int .i64 (Td.mn n), .int .i64 (Td.mx n), .bool (Td.lazy n), .slice a L cap]] w fun e w' => e = .returned (.int .i64 (2 + 2 * topG (Td.all 2000 1 n))) ∧ Below w.heap.size w w') := Lib.hid (fun w hb => (rslots_any 2000 w n _ (by omega) hSM (HN3.out.kept hb)).mono fun e w' ⟨s, he, hs, hb'⟩ => ⟨by rw [he, slIs_eq (by omega) hs], hb'⟩)
      have H5 : Hid (∀ w, Below W3.heap.size W3 w → Calls Try.prog 6 #[] w fun e w' => e = .returned (.bool true) ∧ Below w.heap.size w w') := Lib.hid (fun w _ => works11_any w)
      obtain ⟨X1, hX1⟩ : ∃ X, checkC n = X := ⟨_, rfl⟩
      obtain ⟨X2, hX2⟩ : ∃ X, 2 + 2 * topG (Td.all 2000 1 n) = X := ⟨_, rfl⟩
      rw [hX1] at H1 H2
      rw [hX2] at H3 H4
      have HQ2 : Hid (∀ w', Below W3.heap.size W3 w' → (Below W3.heap.size W3 w' ∧ w'.cell? ⟨W.heap.size, 0, none⟩ = some (.int .i64 (Td.kind n)) ∧ w'.cell? ⟨W.heap.size, 1, none⟩ = some (.slice sa sk sc) ∧ w'.cell? ⟨W.heap.size, 2, none⟩ = some (.int .i64 (Td.num n)) ∧ w'.cell? ⟨W.heap.size, 3, none⟩ = some (.string (Td.name n)) ∧ w'.cell? ⟨W.heap.size, 4, none⟩ = some (.int .i64 (Td.mn n)) ∧ w'.cell? ⟨W.heap.size, 5, none⟩ = some (.int .i64 (Td.mx n)) ∧ w'.cell? ⟨W.heap.size, 6, none⟩ = some (.bool (Td.lazy n)) ∧ w'.cell? ⟨W.heap.size, 7, none⟩ = some (.slice a L cap))) := Lib.hid (fun w' hb => by
        obtain ⟨x0, x1, x2, x3, x4, x5, x6, x7⟩ := nbox_cells ((hb.block _ HS3.out).trans HX3.out)
        exact ⟨hb, x0, x1, x2, x3, x4, x5, x6, x7⟩)
      have hx1 : (X1 == X1) = true := by simp
      have hx2 : (X2 == X2) = true := by simp
      clear hSM hh hc hlc hbd hX1 hX2 hsm
      have hs0 := HQ2.out W3.drew (Below.refl _ _).drew
      go_wp2
      go_region_held3 (fun w' => Below W3.heap.size W3 w' ∧ w'.cell? ⟨W.heap.size, 0, none⟩ = some (.int .i64 (Td.kind n)) ∧ w'.cell? ⟨W.heap.size, 1, none⟩ = some (.slice sa sk sc) ∧ w'.cell? ⟨W.heap.size, 2, none⟩ = some (.int .i64 (Td.num n)) ∧ w'.cell? ⟨W.heap.size, 3, none⟩ = some (.string (Td.name n)) ∧ w'.cell? ⟨W.heap.size, 4, none⟩ = some (.int .i64 (Td.mn n)) ∧ w'.cell? ⟨W.heap.size, 5, none⟩ = some (.int .i64 (Td.mx n)) ∧ w'.cell? ⟨W.heap.size, 6, none⟩ = some (.bool (Td.lazy n)) ∧ w'.cell? ⟨W.heap.size, 7, none⟩ = some (.slice a L cap))
        (first | assumption | go_keep)
        (first
          | (go_at_call 7; with_reducible refine (calls_keep H1.out (And.left (by assumption))).mono ?_; rintro e wq ⟨rfl, -, hq⟩; have hs8 := HQ2.out wq hq; clear hq)
          | (go_at_call 8; with_reducible refine (calls_keep H2.out (And.left (by assumption))).mono ?_; rintro e wq ⟨rfl, -, hq⟩; have hs8 := HQ2.out wq hq; clear hq)
          | (go_at_call 9; with_reducible refine (calls_keep H3.out (And.left (by assumption))).mono ?_; rintro e wq ⟨rfl, -, hq⟩; have hs8 := HQ2.out wq hq; clear hq)
          | (go_at_call 10; with_reducible refine (calls_keep H4.out (And.left (by assumption))).mono ?_; rintro e wq ⟨rfl, -, hq⟩; have hs8 := HQ2.out wq hq; clear hq)
          | (go_at_call 6; with_reducible refine (calls_keep H5.out (And.left (by assumption))).mono ?_; rintro e wq ⟨rfl, -, hq⟩; have hs8 := HQ2.out wq hq; clear hq))
      have HBZ := Lib.hid (HB3.out.trans (hs8.1.mono HB3.out.size))
      clear hs0 hs8
      go_wp2
      go_ret
      exact ⟨rfl, HBZ.out⟩
end Go.Proofs.Ythhdlcckboiecaa
namespace Go.Proofs.Ythhdlcckboiecaa
open Go.ChangeShapes Go.WideShapes Go.ChangeAt Go.RowKit
set_option linter.unusedVariables false
theorem laidOut : laidOutB Try.prog = true := by kernel_rfl
theorem rangeStruct : ∃ f0 f1 : Field, Try.prog.underlying 42 = some (.struct #[f0, f1]) ∧ f0.offset = 0 ∧ f1.offset = 1 ∧ f0.type = 3 ∧ f1.type = 3 := ⟨_, _, Try.underlying42, rfl, rfl, rfl, rfl⟩
theorem rangeCells : Try.prog.cellsOf 42 = 2 := by kernel_rfl
theorem intCells : Try.prog.cellsOf 3 = 1 := by kernel_rfl
theorem rangeBytes : Try.prog.bytesOf 42 = 16 := by kernel_rfl
end Go.Proofs.Ythhdlcckboiecaa
namespace Go.Proofs.Ythhdlcckboiecaa
open Go.ChangeShapes Go.WideShapes Go.ChangeAt Go.RowKit
set_option linter.unusedVariables false
theorem rgTypes6 : RgTypes Try.prog 22 42 3 :=
  ⟨Try.underlying22, rangeStruct, Try.underlying3, rangeCells, intCells, rangeBytes⟩
theorem ndTypes : NdTypes Try.prog 25 23 22 42 3 9 4 :=
  ⟨rgTypes6, ⟨_, _, _, _, _, _, _, _, Try.underlying25, ⟨rfl, rfl, rfl, rfl, rfl, rfl, rfl, rfl⟩, rfl, rfl, rfl, rfl, rfl, rfl, rfl, rfl⟩, Try.underlying23, Try.underlying9, Try.underlying4,
    ⟨by kernel_rfl, by kernel_rfl, by kernel_rfl, by kernel_rfl, by kernel_rfl, by kernel_rfl⟩, by kernel_rfl⟩
set_option maxRecDepth 100000 in
theorem open_node {H : Type} {enc : TypeId × Value → H} {W : World} {base : Nat} {v : Value} {d : DataW H} {p : List MemPlace} (hv : Value.okWide Try.prog W .any base 25 v)
    (h : DataW.Trod enc Try.prog W 0 (fun _ => true) true 25 v d p) (hs : ∀ n ∈ d.weights Try.prog 25, n ≤ reachBytes) : ∃ cs n, v = .agg cs.toArray ∧ NdIs W n cs := by
  obtain ⟨fuel, hf⟩ := h
  obtain ⟨cs, rfl, hsz⟩ := okWide_struct Try.underlying25 hv
  obtain ⟨n, hn⟩ := open_node_g ndTypes fuel hf hs
  exact ⟨cs.toList, n, by simp, hn⟩
end Go.Proofs.Ythhdlcckboiecaa
