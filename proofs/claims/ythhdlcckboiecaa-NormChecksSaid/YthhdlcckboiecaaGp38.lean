/- burinlaw11.small. · burinlaw11.count. · burinref11.cut, Size. -/
import Derived.Test.YthhdlcckboiecaaGp28
import Derived.Test.YthhdlcckboiecaaGp37
import Derived.Test.YthhdlcckboiecaaGp27
namespace Go.Proofs.Ythhdlcckboiecaa
open Go.RowKit
open Go.Proofs.Ythhdlcckboiecaa.Nm
set_option linter.unusedVariables false
set_option linter.unusedSimpArgs false
def SmR (n : Nd) (W : World) (e : Ending) (w' : World) : Prop := ∃ b : Bool, e = .returned (.bool b) ∧ (b = true → ∀ x, Occ x n → Td.num x ≤ BigN) ∧ Below W.heap.size W w'
def SmOk (k : Nat) : Prop := ∀ (W : World) (n : Nd) (cs : List Value), NdIs W n cs → Calls Try.prog 5 #[.agg cs.toArray, .int .i64 (k : Int)] W (SmR n W)
set_option maxRecDepth 100000 in
set_option maxHeartbeats 8000000 in
theorem sm_zero : SmOk 0 := by
  intro W n cs h
  obtain ⟨vs, a, cap, C, hC⟩ := h.cells
  obtain ⟨sa, sk, sc, rfl⟩ : ∃ a k c, vs = .slice a k c := by obtain ⟨a, c, h, -⟩ := hC.set; exact ⟨a, _, c, h⟩
  have hcs := hC.eq
  have hLb0 := hC.len
  have HSUB := Lib.hid hC.sub
  have HN0 := Lib.hid h
  subst hcs
  obtain ⟨L, hL⟩ : ∃ L, (Td.subs n).length = L := ⟨_, rfl⟩
  have HL := Lib.hid hL
  rw [hL] at HSUB HN0 hLb0 ⊢
  obtain ⟨W1, hW1⟩ : ∃ W1, W.alloc (.cells #[.int .i64 (Td.kind n), .slice sa sk sc, .int .i64 (Td.num n), .string (Td.name n), .int .i64 (Td.mn n), .int .i64 (Td.mx n), .bool (Td.lazy n), .slice a L cap] 25) = W1 := ⟨_, rfl⟩
  have HX1 : Hid (W1.heap[W.heap.size]? = some (.cells #[.int .i64 (Td.kind n), .slice sa sk sc, .int .i64 (Td.num n), .string (Td.name n), .int .i64 (Td.mn n), .int .i64 (Td.mx n), .bool (Td.lazy n), .slice a L cap] 25 (0, 0))) := Lib.hid (by rw [← hW1]; exact heap_alloc_new _ _)
  have HB1 : Hid (Below W.heap.size W W1) := Lib.hid (by rw [← hW1]; exact (Below.refl _ _).alloc (Nat.le_refl _) _)
  have hs1 : W.heap.size < W1.heap.size := by rw [← hW1]; simp
  have HS1 := Lib.hid hs1
  obtain ⟨p0, p1, p2, p3, p4, p5, p6, p7⟩ := nbox_cells HX1.out
  rw [← hW1] at p0 p1 p2 p3 p4 p5 p6 p7
  have HW1 := Lib.hid hW1
  clear hW1 hC h hL hs1 HN0
  go_enter Try.func5, Try.ntmps5
  go_wp2
  rw [HW1.out]
  go_ret
  exact ⟨false, rfl, fun h => (by cases h), HB1.out⟩
set_option maxRecDepth 100000 in
set_option maxHeartbeats 8000000 in
theorem sm_step (k M : Nat) (hM : M = k + 1) (hk : k ≤ 1000) (ih : SmOk k) : SmOk M := by
  intro W n cs h
  have IH := Lib.hid ih
  obtain ⟨vs, a, cap, C, hC⟩ := h.cells
  obtain ⟨sa, sk, sc, rfl⟩ : ∃ a k c, vs = .slice a k c := by obtain ⟨a, c, h, -⟩ := hC.set; exact ⟨a, _, c, h⟩
  have hcs := hC.eq
  have hLb0 := hC.len
  have HSUB := Lib.hid hC.sub
  have HN0 := Lib.hid h
  subst hcs
  obtain ⟨L, hL⟩ : ∃ L, (Td.subs n).length = L := ⟨_, rfl⟩
  have HL := Lib.hid hL
  rw [hL] at HSUB HN0 hLb0 ⊢
  obtain ⟨W1, hW1⟩ : ∃ W1, W.alloc (.cells #[.int .i64 (Td.kind n), .slice sa sk sc, .int .i64 (Td.num n), .string (Td.name n), .int .i64 (Td.mn n), .int .i64 (Td.mx n), .bool (Td.lazy n), .slice a L cap] 25) = W1 := ⟨_, rfl⟩
  have HX1 : Hid (W1.heap[W.heap.size]? = some (.cells #[.int .i64 (Td.kind n), .slice sa sk sc, .int .i64 (Td.num n), .string (Td.name n), .int .i64 (Td.mn n), .int .i64 (Td.mx n), .bool (Td.lazy n), .slice a L cap] 25 (0, 0))) := Lib.hid (by rw [← hW1]; exact heap_alloc_new _ _)
  have HB1 : Hid (Below W.heap.size W W1) := Lib.hid (by rw [← hW1]; exact (Below.refl _ _).alloc (Nat.le_refl _) _)
  have hs1 : W.heap.size < W1.heap.size := by rw [← hW1]; simp
  have HS1 := Lib.hid hs1
  obtain ⟨p0, p1, p2, p3, p4, p5, p6, p7⟩ := nbox_cells HX1.out
  rw [← hW1] at p0 p1 p2 p3 p4 p5 p6 p7
  have HW1 := Lib.hid hW1
  have hM1 : IntKind.i64.wrap ((M : Int) - 1) = (k : Int) := by rw [IntKind.wrap_i64]; omega
  have hM0 : ¬ (M : Int) = 0 := by omega
  have hM2 : ¬ M = 0 := by omega
  clear hW1 hC h hL ih hs1 HN0 hM
  have HOW : Hid (Td.num n ≤ BigN → (∀ j m, j < L → (Td.subs n)[j]? = some m → ∀ x, Occ x m → Td.num x ≤ BigN) → ∀ x, Occ x n → Td.num x ≤ BigN) := Lib.hid (fun h1 h2 x hx => by
    cases hx with
    | here => exact h1
    | sub hm hx =>
      obtain ⟨j, hj, e⟩ := List.getElem_of_mem hm
      exact h2 j _ (by rw [← HL.out]; exact hj) (by rw [List.getElem?_eq_getElem hj, e]) x hx)
  obtain ⟨X, hX⟩ : ∃ X, Td.num n = X := ⟨_, rfl⟩
  rw [hX] at HX1 HW1 HOW p0 p1 p2 p3 p4 p5 p6 p7 ⊢
  clear hX
  go_enter Try.func5, Try.ntmps5
  by_cases hbig : 1099511627776 < X
  · go_wp2
    rw [HW1.out]
    go_ret
    exact ⟨false, rfl, fun h => (by cases h), HB1.out⟩
  · have HBG : Hid (X ≤ BigN) := Lib.hid (by unfold BigN; omega)
    go_wp2
    rw [HW1.out]
    clear p0 p1 p2 p3 p4 p5 p6 p7 HW1
    go_loopw [5] (fun iv wr => ∃ (i : Nat), i ≤ L ∧ iv = .int .i64 (i : Int) ∧ Hid (∀ j m, j < i → (Td.subs n)[j]? = some m → ∀ x, Occ x m → Td.num x ≤ BigN) ∧ Hid (Below W1.heap.size W1 wr)) (fun iv _ => L - (intOf iv).toNat)
    case atStart => exact ⟨0, by omega, rfl, Lib.hid (fun j m hj => absurd hj (Nat.not_lt_zero _)), Lib.hid (Below.refl _ _)⟩
    case round =>
      obtain ⟨i, hi, rfl, HSP, HBW⟩ := hrel
      have p7 := (nbox_cells ((HBW.out.block _ HS1.out).trans HX1.out)).2.2.2.2.2.2.2
      by_cases hlt : i < L
      · obtain ⟨b, off, m, u0, u1, u2, u3, u4, u5, u6, u7, rfl, hb, hm, hnd, q0, q1, q2, q3, q4, q5, q6, q7⟩ := HSUB.out i hlt
        have hBW := HB1.out.trans (HBW.out.mono HB1.out.size)
        have kc : ∀ o v, W.cell? ⟨b, o, none⟩ = some v → wr.cell? ⟨b, o, none⟩ = some v := fun o v h => (hBW.cell (p := ⟨b, o, none⟩) hb).trans h
        replace q0 := kc _ _ q0; replace q1 := kc _ _ q1; replace q2 := kc _ _ q2; replace q3 := kc _ _ q3
        replace q4 := kc _ _ q4; replace q5 := kc _ _ q5; replace q6 := kc _ _ q6; replace q7 := kc _ _ q7
        obtain ⟨f1, f2, f3, f4, F1⟩ := hnd.form
        obtain ⟨rfl, rfl, rfl, rfl, rfl, rfl, rfl, rfl⟩ := F1
        have HM := Lib.hid hm
        have HC := Lib.hid (IH.out wr m _ (hnd.kept hBW))
        have k0 : (0 : Int) ≤ (i : Int) := by omega
        have k1 : (i : Int) < (L : Int) := by omega
        have w2 : IntKind.i64.wrap ((i : Int) + 1) = ((i + 1 : Nat) : Int) := by rw [IntKind.wrap_i64]; omega
        clear kc hm hnd hb hBW
        go_wp2_with fail
        refine HC.out.mono ?_
        rintro e w4 ⟨z, rfl, hz, hb4⟩
        have HB4 := Lib.hid (HBW.out.trans (hb4.mono HBW.out.size))
        have HZ := Lib.hid hz
        clear hb4 hz q0 q1 q2 q3 q4 q5 q6 q7 p7
        cases z with
        | false =>
          have HBZ := Lib.hid (HB1.out.trans (HB4.out.mono HB1.out.size))
          go_wp2
          go_ret
          exact ⟨false, rfl, fun h => (by cases h), HBZ.out⟩
        | true =>
          have HNEW : Hid (∀ j m, j < i + 1 → (Td.subs n)[j]? = some m → ∀ x, Occ x m → Td.num x ≤ BigN) := Lib.hid (fun j m' hj hm' x hx => by
            by_cases e : j = i
            · subst e
              have := HM.out
              rw [hm'] at this
              injection this with e; subst e
              exact HZ.out rfl x hx
            · exact HSP.out j m' (by omega) hm' x hx)
          go_wp2
          go_roundw
          case rel => exact ⟨i + 1, by omega, rfl, HNEW, HB4⟩
          case measure => simp [intOf]; omega
      · obtain rfl : i = L := by omega
        have HSD := Lib.hid (HOW.out HBG.out HSP.out)
        have HBZ := Lib.hid (HB1.out.trans (HBW.out.mono HB1.out.size))
        go_wp2
        go_ret
        exact ⟨true, rfl, fun _ => HSD.out, HBZ.out⟩
theorem small_any : ∀ k : Nat, k ≤ 1000 → SmOk k
  | 0, _ => sm_zero
  | k + 1, h => sm_step k (k + 1) rfl (by omega) (small_any k (by omega))
end Go.Proofs.Ythhdlcckboiecaa
namespace Go.Proofs.Ythhdlcckboiecaa
open Go.RowKit
open Go.Proofs.Ythhdlcckboiecaa.Nm
set_option linter.unusedVariables false
set_option linter.unusedSimpArgs false

theorem sumC_take (l : List Nd) (i : Nat) (m : Nd) (h : l[i]? = some m) : sumC (l.take (i + 1)) = sumC (l.take i) + cnt m := by
  obtain ⟨hi, rfl⟩ := List.getElem?_eq_some_iff.1 h
  rw [List.take_succ_eq_append_getElem hi, sumC_app, sumC_cons, sumC_nil, Nat.add_zero]
theorem sumC_take_le (l : List Nd) (i : Nat) : sumC (l.take i) ≤ sumC l := by
  conv => rhs; rw [← List.take_append_drop i l, sumC_app]
  omega























































































end Go.Proofs.Ythhdlcckboiecaa
namespace Go.Proofs.Ythhdlcckboiecaa
open Go.RowKit
open Go.Proofs.Ythhdlcckboiecaa.Nm
set_option linter.unusedVariables false
set_option linter.unusedSimpArgs false
set_option maxRecDepth 100000 in
set_option maxHeartbeats 8000000 in
theorem rcut_any (W : World) (x : Int) (h : x ≤ 4000) : Calls Try.prog 28 #[.int .i64 x] W fun e w' => e = .returned (.int .i64 x) ∧ Below W.heap.size W w' := by
  have h' : ¬ (4000 < x) := by omega
  clear h
  go_enter Try.func28, Try.ntmps28
  go_wp2
  go_ret
  exact ⟨rfl, Below.refl _ _⟩
def SzOk (k : Nat) : Prop := ∀ (W : World) (n : Nd) (cs : List Value), hgt n ≤ k → cnt n ≤ 4000 → NdIs W n cs → Calls Try.prog 18 #[.agg cs.toArray] W fun e w' => e = .returned (.int .i64 (cnt n : Int)) ∧ Below W.heap.size W w'
set_option maxRecDepth 100000 in
set_option maxHeartbeats 8000000 in
theorem sz_step (k : Nat) (ih : SzOk k) : SzOk (k + 1) := by
  intro W n cs hh hc h
  have HSH := Lib.hid (fun m (hm : m ∈ Td.subs n) => hgt_sub hm)
  have HHH := Lib.hid hh
  have HCE := Lib.hid (cnt_subs n)
  have HCC := Lib.hid hc
  have IH := Lib.hid ih
  have HCUT := Lib.hid rcut_any
  obtain ⟨vs, a, cap, C, hC⟩ := h.cells
  obtain ⟨sa, sk, sc, rfl⟩ : ∃ a k c, vs = .slice a k c := by obtain ⟨a, c, h, -⟩ := hC.set; exact ⟨a, _, c, h⟩
  have hcs := hC.eq
  have hLb0 := hC.len
  have HSUB := Lib.hid hC.sub
  have HN0 := Lib.hid h
  subst hcs
  obtain ⟨L, hL⟩ : ∃ L, (Td.subs n).length = L := ⟨_, rfl⟩
  have HL := Lib.hid hL
  rw [hL] at HSUB HN0 hLb0 ⊢
  obtain ⟨W1, hW1⟩ : ∃ W1, W.alloc (.cells #[.int .i64 (Td.kind n), .slice sa sk sc, .int .i64 (Td.num n), .string (Td.name n), .int .i64 (Td.mn n), .int .i64 (Td.mx n), .bool (Td.lazy n), .slice a L cap] 25) = W1 := ⟨_, rfl⟩
  have HX1 : Hid (W1.heap[W.heap.size]? = some (.cells #[.int .i64 (Td.kind n), .slice sa sk sc, .int .i64 (Td.num n), .string (Td.name n), .int .i64 (Td.mn n), .int .i64 (Td.mx n), .bool (Td.lazy n), .slice a L cap] 25 (0, 0))) := Lib.hid (by rw [← hW1]; exact heap_alloc_new _ _)
  have HB1 : Hid (Below W.heap.size W W1) := Lib.hid (by rw [← hW1]; exact (Below.refl _ _).alloc (Nat.le_refl _) _)
  have hs1 : W.heap.size < W1.heap.size := by rw [← hW1]; simp
  have HS1 := Lib.hid hs1
  obtain ⟨p0, p1, p2, p3, p4, p5, p6, p7⟩ := nbox_cells HX1.out
  rw [← hW1] at p0 p1 p2 p3 p4 p5 p6 p7
  have HW1 := Lib.hid hW1
  obtain ⟨T, hT⟩ : ∃ T, cnt n = T := ⟨_, rfl⟩
  rw [hT] at HCE HCC ⊢
  clear hW1 hC h hL hT hh hc ih hs1
  go_enter Try.func18, Try.ntmps18
  go_wp2
  rw [HW1.out]
  clear p0 p1 p2 p3 p4 p5 p6 p7 HW1
  go_loopw [3, 4] (fun kv iv wr => ∃ i : Nat, i ≤ L ∧ iv = .int .i64 (i : Int) ∧ kv = .int .i64 ((1 + sumC ((Td.subs n).take i) : Nat) : Int) ∧ Hid (Below W1.heap.size W1 wr)) (fun _ iv _ => L - (intOf iv).toNat)
  case atStart => exact ⟨0, by omega, rfl, rfl, Lib.hid (Below.refl _ _)⟩
  case round =>
    obtain ⟨i, hi, rfl, rfl, HBW⟩ := hrel
    have p7 := (nbox_cells ((HBW.out.block _ HS1.out).trans HX1.out)).2.2.2.2.2.2.2
    by_cases hlt : i < L
    · obtain ⟨b, off, m, u0, u1, u2, u3, u4, u5, u6, u7, rfl, hb, hm, hnd, q0, q1, q2, q3, q4, q5, q6, q7⟩ := HSUB.out i hlt
      have hBW := HB1.out.trans (HBW.out.mono HB1.out.size)
      have kc : ∀ o v, W.cell? ⟨b, o, none⟩ = some v → wr.cell? ⟨b, o, none⟩ = some v := fun o v h => (hBW.cell (p := ⟨b, o, none⟩) hb).trans h
      replace q0 := kc _ _ q0; replace q1 := kc _ _ q1; replace q2 := kc _ _ q2; replace q3 := kc _ _ q3
      replace q4 := kc _ _ q4; replace q5 := kc _ _ q5; replace q6 := kc _ _ q6; replace q7 := kc _ _ q7
      obtain ⟨f1, f2, f3, f4, F1⟩ := hnd.form
      obtain ⟨rfl, rfl, rfl, rfl, rfl, rfl, rfl, rfl⟩ := F1
      have hmem : m ∈ Td.subs n := List.mem_of_getElem? hm
      have hst := sumC_take _ i m hm
      have hsl := sumC_take_le (Td.subs n) (i + 1)
      have hce := HCE.out
      have hcc := HCC.out
      have HC := Lib.hid (IH.out wr m _ (by have := HSH.out m hmem; have := HHH.out; omega) (by omega) (hnd.kept hBW))
      have HST := Lib.hid hst
      obtain ⟨S, hS⟩ : ∃ S, sumC ((Td.subs n).take i) = S := ⟨_, rfl⟩
      obtain ⟨V, hV⟩ : ∃ V, cnt m = V := ⟨_, rfl⟩
      rw [hS, hV] at HST
      rw [hV] at HC hst
      rw [hS] at hst ⊢
      have w1 : IntKind.i64.wrap (((1 + S : Nat) : Int) + (V : Int)) = ((1 + (S + V) : Nat) : Int) := by rw [IntKind.wrap_i64]; omega
      have w1' : IntKind.i64.wrap (1 + (S : Int) + (V : Int)) = 1 + ((S : Int) + (V : Int)) := by rw [IntKind.wrap_i64]; omega
      have ks : (1 : Int) + (S : Int) ≤ 4000 := by omega
      have kt : (1 : Int) + ((S : Int) + (V : Int)) ≤ 4000 := by omega
      have k0 : (0 : Int) ≤ (i : Int) := by omega
      have k1 : (i : Int) < (L : Int) := by omega
      have w2 : IntKind.i64.wrap ((i : Int) + 1) = ((i + 1 : Nat) : Int) := by rw [IntKind.wrap_i64]; omega
      clear kc hm hmem hst hsl hce hcc hS hV hnd hb hBW
      go_wp2_with fail
      refine HC.out.mono ?_
      rintro e w4 ⟨rfl, hb4⟩
      have HB4 := Lib.hid (HBW.out.trans (hb4.mono HBW.out.size))
      clear hb4 q0 q1 q2 q3 q4 q5 q6 q7 p7
      go_wp2_with fail
      refine (HCUT.out _ _ (by omega)).mono ?_
      rintro e w5 ⟨rfl, hb5⟩
      have HB5 := Lib.hid (HB4.out.trans (hb5.mono HB4.out.size))
      clear hb5
      go_wp2
      go_roundw
      case rel => exact ⟨i + 1, by omega, rfl, by rw [HST.out]; first | rfl | (congr 1; omega), HB5⟩
      case measure => simp [intOf]; omega
    · obtain rfl : i = L := by omega
      have hT : 1 + sumC ((Td.subs n).take i) = T := by rw [HCE.out, List.take_of_length_le (by rw [HL.out]; exact Nat.le_refl _)]
      rw [hT]
      have HBZ := Lib.hid (HB1.out.trans (HBW.out.mono HB1.out.size))
      clear hT
      go_wp2
      go_ret
      exact ⟨rfl, HBZ.out⟩
theorem rsize_any : ∀ k, SzOk k
  | 0 => fun W n cs h _ _ => by have := hgt_pos n; omega
  | k + 1 => sz_step k (rsize_any k)
end Go.Proofs.Ythhdlcckboiecaa
