/- burinref11.plain. -/
import Derived.Test.YthhdlcckboiecaaGp28
import Derived.Test.YthhdlcckboiecaaGp37
import Derived.Test.YthhdlcckboiecaaGp10
import Derived.Test.YthhdlcckboiecaaGp25
namespace Go.Proofs.Ythhdlcckboiecaa
open Go.RowKit
open Go.Proofs.Ythhdlcckboiecaa.Nm
set_option linter.unusedVariables false
set_option linter.unusedSimpArgs false
def PlR (n : Nd) (W : World) (e : Ending) (w' : World) : Prop := ∃ b : Bool, e = .returned (.bool b) ∧ (b = true ↔ AllN Qn n) ∧ Below W.heap.size W w'
theorem PlR.no {n : Nd} {W w' : World} (h : ¬ AllN Qn n) (hb : Below W.heap.size W w') : PlR n W (.returned (.bool false)) w' := ⟨false, rfl, ⟨fun h => (by cases h), fun h' => absurd h' h⟩, hb⟩
theorem PlR.yes {n : Nd} {W w' : World} (h : AllN Qn n) (hb : Below W.heap.size W w') : PlR n W (.returned (.bool true)) w' := ⟨true, rfl, ⟨fun _ => h, fun _ => rfl⟩, hb⟩
def PlOk (k : Nat) : Prop := ∀ (W : World) (n : Nd) (cs : List Value), hgt n ≤ k → NdIs W n cs → Calls Try.prog 19 #[.agg cs.toArray] W (PlR n W)
set_option maxRecDepth 100000 in
set_option maxHeartbeats 8000000 in
theorem pl_step (k : Nat) (ih : PlOk k) : PlOk (k + 1) := by
  intro W n cs hh h
  have HSH := Lib.hid (fun m (hm : m ∈ Td.subs n) => hgt_sub hm)
  have HHH := Lib.hid hh
  have IH := Lib.hid ih
  have hQ := allQ_iff n
  unfold OwP at hQ
  obtain ⟨vs, a, cap, C, hC⟩ := h.cells
  obtain ⟨sa, sk, sc, rfl⟩ : ∃ a k c, vs = .slice a k c := by obtain ⟨a, c, h, -⟩ := hC.set; exact ⟨a, _, c, h⟩
  have hcs := hC.eq
  have hLb0 := hC.len
  have HSUB := Lib.hid hC.sub
  have HN0 := Lib.hid h
  subst hcs
  obtain ⟨L, hL⟩ : ∃ L, (Td.subs n).length = L := ⟨_, rfl⟩
  have HL := Lib.hid hL
  rw [hL] at HSUB HN0 hLb0 ⊢
  obtain ⟨W1, hW1⟩ : ∃ W1, W.alloc (.cells #[.int .i64 (Td.kind n), .slice sa sk sc, .int .i64 (Td.num n), .string (Td.name n), .int .i64 (Td.mn n), .int .i64 (Td.mx n), .bool (Td.lazy n), .slice a L cap] 25) = W1 := ⟨_, rfl⟩
  have HX1 : Hid (W1.heap[W.heap.size]? = some (.cells #[.int .i64 (Td.kind n), .slice sa sk sc, .int .i64 (Td.num n), .string (Td.name n), .int .i64 (Td.mn n), .int .i64 (Td.mx n), .bool (Td.lazy n), .slice a L cap] 25 (0, 0))) := Lib.hid (by rw [← hW1]; exact heap_alloc_new _ _)
  have HB1 : Hid (Below W.heap.size W W1) := Lib.hid (by rw [← hW1]; exact (Below.refl _ _).alloc (Nat.le_refl _) _)
  have hs1 : W.heap.size < W1.heap.size := by rw [← hW1]; simp
  have HS1 := Lib.hid hs1
  obtain ⟨p0, p1, p2, p3, p4, p5, p6, p7⟩ := nbox_cells HX1.out
  rw [← hW1] at p0 p1 p2 p3 p4 p5 p6 p7
  have HW1 := Lib.hid hW1
  obtain ⟨W2, hW2⟩ : ∃ W2, W1.alloc (.cells #[.int .i64 (Td.kind n), .slice sa sk sc, .int .i64 (Td.num n), .string (Td.name n), .int .i64 (Td.mn n), .int .i64 (Td.mx n), .bool (Td.lazy n), .slice a L cap] 25) = W2 := ⟨_, rfl⟩
  have HX2 : Hid (W2.heap[W1.heap.size]? = some (.cells #[.int .i64 (Td.kind n), .slice sa sk sc, .int .i64 (Td.num n), .string (Td.name n), .int .i64 (Td.mn n), .int .i64 (Td.mx n), .bool (Td.lazy n), .slice a L cap] 25 (0, 0))) := Lib.hid (by rw [← hW2]; exact heap_alloc_new _ _)
  have hb12 : Below W1.heap.size W1 W2 := by rw [← hW2]; exact (Below.refl _ _).alloc (Nat.le_refl _) _
  have HB12 := Lib.hid hb12
  have hz1 : W1.heap.size = W.heap.size + 1 := by rw [← hW1]; simp
  obtain ⟨r0, r1, r2, r3, r4, r5, r6, r7⟩ := nbox_cells ((hb12.block _ hs1).trans HX1.out)
  obtain ⟨s0, s1, s2, s3, s4, s5, s6, s7⟩ := nbox_cells HX2.out
  rw [← hW2, ← hW1] at r0 r1 r2 r3 r4 r5 r6 r7 s0 s1 s2 s3 s4 s5 s6 s7
  have hz0 : (W.alloc (.cells #[.int .i64 (Td.kind n), .slice sa sk sc, .int .i64 (Td.num n), .string (Td.name n), .int .i64 (Td.mn n), .int .i64 (Td.mx n), .bool (Td.lazy n), .slice a L cap] 25)).heap.size = W.heap.size + 1 := by simp
  rw [hz0] at s0 s1 s2 s3 s4 s5 s6 s7
  have HW2 := Lib.hid hW2
  have HFT : Hid (∀ w, Below W.heap.size W w → Calls Try.prog 29 #[.agg #[.int .i64 (Td.kind n), .slice sa sk sc, .int .i64 (Td.num n), .string (Td.name n), .int .i64 (Td.mn n), .int .i64 (Td.mx n), .bool (Td.lazy n), .slice a L cap]] w fun e w' => e = .returned (.bool (Td.fitsB n)) ∧ Below w.heap.size w w') := Lib.hid (fun w hb => refFits_any w n _ (HN0.out.kept hb))
  have HB2 := Lib.hid (HB1.out.trans (hb12.mono HB1.out.size))
  clear hW1 hW2 hb12 hz1 hz0 hC h hL hh ih hs1 HN0
  obtain ⟨F, hF⟩ : ∃ F, Td.fitsB n = F := ⟨_, rfl⟩
  obtain ⟨K, hK⟩ : ∃ K, Td.kind n = K := ⟨_, rfl⟩
  obtain ⟨M, hM⟩ : ∃ M, Td.num n = M := ⟨_, rfl⟩
  obtain ⟨S, hS⟩ : ∃ S, Td.name n = S := ⟨_, rfl⟩
  obtain ⟨X, hX⟩ : ∃ X, Td.mn n = X := ⟨_, rfl⟩
  obtain ⟨Y, hY⟩ : ∃ Y, Td.mx n = Y := ⟨_, rfl⟩
  rw [hF, hK, hM, hS, hX, hY] at HFT hQ
  rw [hK, hM, hS, hX, hY] at HX1 HX2 HW1 HW2 p0 p1 p2 p3 p4 p5 p6 p7 r0 r1 r2 r3 r4 r5 r6 r7 s0 s1 s2 s3 s4 s5 s6 s7 ⊢
  have HQ := Lib.hid hQ
  clear hF hK hM hS hX hY hQ
  go_enter Try.func19, Try.ntmps19
  by_cases k6 : K = 6
  · subst k6
    by_cases km : 31 < M
    · have HNO : Hid (¬ AllN Qn n) := Lib.hid (fun h => by have := ((HQ.out.1 h).1.1 rfl).1; omega)
      go_wp2
      rw [HW1.out, HW2.out]
      clear p0 p1 p2 p3 p4 p5 p6 p7 r0 r1 r2 r3 r4 r5 r6 r7 s0 s1 s2 s3 s4 s5 s6 s7
      go_ret
      exact PlR.no HNO.out HB2.out
    by_cases ks : S.toList = []
    · have HSE : Hid (S = ⟨#[]⟩) := Lib.hid (noNm ks)
      have kse : S.toList.isEmpty = true := by rw [ks]; rfl
      have HKM := Lib.hid km
      go_wp2_with fail
      rw [HW1.out, HW2.out]
      clear p0 p1 p2 p3 p4 p5 p6 p7 r0 r1 r2 r3 r4 r5 r6 r7 s0 s1 s2 s3 s4 s5 s6 s7
      refine (HFT.out _ HB2.out).mono ?_
      rintro e w3 ⟨rfl, hb3⟩
      have HB3 := Lib.hid (HB12.out.trans (hb3.mono HB12.out.size))
      obtain ⟨p0, p1, p2, p3, p4, p5, p6, p7⟩ := nbox_cells ((HB3.out.block _ HS1.out).trans HX1.out)
      clear hb3
      cases F with
      | false =>
        have HNO : Hid (¬ AllN Qn n) := Lib.hid (fun h => by have := (HQ.out.1 h).1.2.1; cases this)
        have HBZ := Lib.hid (HB1.out.trans (HB3.out.mono HB1.out.size))
        go_wp2
        go_ret
        exact PlR.no HNO.out HBZ.out
      | true =>
        go_wp2
        clear p0 p1 p2 p3 p4 p5 p6 p7
        go_loopw [4] (fun iv wr => ∃ (i : Nat), i ≤ L ∧ iv = .int .i64 (i : Int) ∧ Hid (∀ j m, j < i → (Td.subs n)[j]? = some m → ChP 6 (Td.kind m) ∧ AllN Qn m) ∧ Hid (Below W1.heap.size W1 wr)) (fun iv _ => L - (intOf iv).toNat)
        case atStart => exact ⟨0, by omega, rfl, Lib.hid (fun j m hj => absurd hj (Nat.not_lt_zero _)), HB3⟩
        case round =>
          obtain ⟨i, hi, rfl, HSP, HBW⟩ := hrel
          obtain ⟨p0, p1, p2, p3, p4, p5, p6, p7⟩ := nbox_cells ((HBW.out.block _ HS1.out).trans HX1.out)
          by_cases hlt : i < L
          · obtain ⟨b, off, m, u0, u1, u2, u3, u4, u5, u6, u7, rfl, hb, hm, hnd, q0, q1, q2, q3, q4, q5, q6, q7⟩ := HSUB.out i hlt
            have hBW := HB1.out.trans (HBW.out.mono HB1.out.size)
            have kc : ∀ o v, W.cell? ⟨b, o, none⟩ = some v → wr.cell? ⟨b, o, none⟩ = some v := fun o v h => (hBW.cell (p := ⟨b, o, none⟩) hb).trans h
            replace q0 := kc _ _ q0; replace q1 := kc _ _ q1; replace q2 := kc _ _ q2; replace q3 := kc _ _ q3
            replace q4 := kc _ _ q4; replace q5 := kc _ _ q5; replace q6 := kc _ _ q6; replace q7 := kc _ _ q7
            obtain ⟨f1, f2, f3, f4, F1⟩ := hnd.form
            obtain ⟨rfl, rfl, rfl, rfl, rfl, rfl, rfl, rfl⟩ := F1
            have hmem : m ∈ Td.subs n := List.mem_of_getElem? hm
            have HM := Lib.hid hm
            have HME := Lib.hid hmem
            have HC := Lib.hid (IH.out wr m _ (by have := HSH.out m hmem; have := HHH.out; omega) (hnd.kept hBW))
            have k0 : (0 : Int) ≤ (i : Int) := by omega
            have k1 : (i : Int) < (L : Int) := by omega
            have w2 : IntKind.i64.wrap ((i : Int) + 1) = ((i + 1 : Nat) : Int) := by rw [IntKind.wrap_i64]; omega
            obtain ⟨c, hc⟩ : ∃ c, Td.kind m = c := ⟨_, rfl⟩
            have HCK := Lib.hid hc
            rw [hc] at q0 HC
            clear kc hm hmem hnd hb hBW hc
            have HCH : Hid (ChP 6 (Td.kind m)) := Lib.hid (by have := HCK.out; unfold ChP; omega)
            go_wp2_with fail
            refine HC.out.mono ?_
            rintro e w4 ⟨z, rfl, hz, hb4⟩
            have HB4 := Lib.hid (HBW.out.trans (hb4.mono HBW.out.size))
            have HZ := Lib.hid hz
            clear hb4 hz q0 q1 q2 q3 q4 q5 q6 q7 p0 p1 p2 p3 p4 p5 p6 p7
            cases z with
            | false =>
              have HBZ := Lib.hid (HB1.out.trans (HB4.out.mono HB1.out.size))
              have HNO : Hid (¬ AllN Qn n) := Lib.hid (fun h => by have := HZ.out.2 ((HQ.out.1 h).2 m HME.out).2; cases this)
              go_wp2
              go_ret
              exact PlR.no HNO.out HBZ.out
            | true =>
              have HNEW : Hid (∀ j m, j < i + 1 → (Td.subs n)[j]? = some m → ChP 6 (Td.kind m) ∧ AllN Qn m) := Lib.hid (fun j m' hj hm' => by
                by_cases e : j = i
                · subst e
                  have := HM.out
                  rw [hm'] at this
                  injection this with e; subst e
                  exact ⟨HCH.out, HZ.out.1 rfl⟩
                · exact HSP.out j m' (by omega) hm')
              go_wp2
              go_roundw
              case rel => exact ⟨i + 1, by omega, rfl, HNEW, HB4⟩
              case measure => simp [intOf]; omega
          · obtain rfl : i = L := by omega
            have HYE : Hid (AllN Qn n) := Lib.hid (HQ.out.2 ⟨⟨fun _ => ⟨by have := HKM.out; omega, HSE.out⟩, (by trivial), fun h => (by omega)⟩, fun m hm => by
              obtain ⟨j, hj, e⟩ := List.getElem_of_mem hm
              exact HSP.out j m (by rw [← HL.out]; exact hj) (by rw [List.getElem?_eq_getElem hj, e])⟩)
            have HBZ := Lib.hid (HB1.out.trans (HBW.out.mono HB1.out.size))
            clear p0 p1 p2 p3 p4 p5 p6
            go_wp2
            go_ret
            exact PlR.yes HYE.out HBZ.out
    · have HNO : Hid (¬ AllN Qn n) := Lib.hid (fun h => by have := ((HQ.out.1 h).1.1 rfl).2; subst this; exact ks (by rw [ByteArray.toList_eq]))
      have kse : S.toList.isEmpty = false := by cases hq : S.toList with | nil => exact absurd hq ks | cons => rfl
      go_wp2
      rw [HW1.out, HW2.out]
      clear p0 p1 p2 p3 p4 p5 p6 p7 r0 r1 r2 r3 r4 r5 r6 r7 s0 s1 s2 s3 s4 s5 s6 s7
      go_ret
      exact PlR.no HNO.out HB2.out
  by_cases k9 : K = 9
  · subst k9
    go_wp2_with fail
    rw [HW1.out, HW2.out]
    clear p0 p1 p2 p3 p4 p5 p6 p7 r0 r1 r2 r3 r4 r5 r6 r7 s0 s1 s2 s3 s4 s5 s6 s7
    refine (HFT.out _ HB2.out).mono ?_
    rintro e w3 ⟨rfl, hb3⟩
    have HB3 := Lib.hid (HB12.out.trans (hb3.mono HB12.out.size))
    obtain ⟨p0, p1, p2, p3, p4, p5, p6, p7⟩ := nbox_cells ((HB3.out.block _ HS1.out).trans HX1.out)
    clear hb3
    cases F with
    | false =>
      have HNO : Hid (¬ AllN Qn n) := Lib.hid (fun h => by have := (HQ.out.1 h).1.2.1; cases this)
      have HBZ := Lib.hid (HB1.out.trans (HB3.out.mono HB1.out.size))
      go_wp2
      go_ret
      exact PlR.no HNO.out HBZ.out
    | true =>
      by_cases kx : X = 0
      · subst kx
        by_cases ky : Y = 0
        · have HNO : Hid (¬ AllN Qn n) := Lib.hid (fun h => ((HQ.out.1 h).1.2.2 (by trivial)).2 ky)
          have HBZ := Lib.hid (HB1.out.trans (HB3.out.mono HB1.out.size))
          go_wp2
          go_ret
          exact PlR.no HNO.out HBZ.out
        · have HKY := Lib.hid ky
          have kyb : (Y == 0) = false := by simp [ky]
          clear ky
          go_wp2
          clear p0 p1 p2 p3 p4 p5 p6 p7
          go_loopw [4] (fun iv wr => ∃ (i : Nat), i ≤ L ∧ iv = .int .i64 (i : Int) ∧ Hid (∀ j m, j < i → (Td.subs n)[j]? = some m → ChP 9 (Td.kind m) ∧ AllN Qn m) ∧ Hid (Below W1.heap.size W1 wr)) (fun iv _ => L - (intOf iv).toNat)
          case atStart => exact ⟨0, by omega, rfl, Lib.hid (fun j m hj => absurd hj (Nat.not_lt_zero _)), HB3⟩
          case round =>
            obtain ⟨i, hi, rfl, HSP, HBW⟩ := hrel
            obtain ⟨p0, p1, p2, p3, p4, p5, p6, p7⟩ := nbox_cells ((HBW.out.block _ HS1.out).trans HX1.out)
            by_cases hlt : i < L
            · obtain ⟨b, off, m, u0, u1, u2, u3, u4, u5, u6, u7, rfl, hb, hm, hnd, q0, q1, q2, q3, q4, q5, q6, q7⟩ := HSUB.out i hlt
              have hBW := HB1.out.trans (HBW.out.mono HB1.out.size)
              have kc : ∀ o v, W.cell? ⟨b, o, none⟩ = some v → wr.cell? ⟨b, o, none⟩ = some v := fun o v h => (hBW.cell (p := ⟨b, o, none⟩) hb).trans h
              replace q0 := kc _ _ q0; replace q1 := kc _ _ q1; replace q2 := kc _ _ q2; replace q3 := kc _ _ q3
              replace q4 := kc _ _ q4; replace q5 := kc _ _ q5; replace q6 := kc _ _ q6; replace q7 := kc _ _ q7
              obtain ⟨f1, f2, f3, f4, F1⟩ := hnd.form
              obtain ⟨rfl, rfl, rfl, rfl, rfl, rfl, rfl, rfl⟩ := F1
              have hmem : m ∈ Td.subs n := List.mem_of_getElem? hm
              have HM := Lib.hid hm
              have HME := Lib.hid hmem
              have HC := Lib.hid (IH.out wr m _ (by have := HSH.out m hmem; have := HHH.out; omega) (hnd.kept hBW))
              have k0 : (0 : Int) ≤ (i : Int) := by omega
              have k1 : (i : Int) < (L : Int) := by omega
              have w2 : IntKind.i64.wrap ((i : Int) + 1) = ((i + 1 : Nat) : Int) := by rw [IntKind.wrap_i64]; omega
              obtain ⟨c, hc⟩ : ∃ c, Td.kind m = c := ⟨_, rfl⟩
              have HCK := Lib.hid hc
              rw [hc] at q0 HC
              clear kc hm hmem hnd hb hBW hc
              by_cases c1 : c = 1
              · subst c1
                have HNO : Hid (¬ AllN Qn n) := Lib.hid (fun h => by
                  have hc0 := HCK.out
                  exact ((HQ.out.1 h).2 m HME.out).1 (.inr (.inr ⟨rfl, hc0⟩)))
                have HBZ := Lib.hid (HB1.out.trans (HBW.out.mono HB1.out.size))
                go_wp2
                go_ret
                exact PlR.no HNO.out HBZ.out
              have cb1 : (c == 1) = false := by simp [c1]
              have HCH : Hid (ChP 9 (Td.kind m)) := Lib.hid (by have := HCK.out; unfold ChP; omega)
              go_wp2_with fail
              refine HC.out.mono ?_
              rintro e w4 ⟨z, rfl, hz, hb4⟩
              have HB4 := Lib.hid (HBW.out.trans (hb4.mono HBW.out.size))
              have HZ := Lib.hid hz
              clear hb4 hz q0 q1 q2 q3 q4 q5 q6 q7 p0 p1 p2 p3 p4 p5 p6 p7
              cases z with
              | false =>
                have HBZ := Lib.hid (HB1.out.trans (HB4.out.mono HB1.out.size))
                have HNO : Hid (¬ AllN Qn n) := Lib.hid (fun h => by have := HZ.out.2 ((HQ.out.1 h).2 m HME.out).2; cases this)
                go_wp2
                go_ret
                exact PlR.no HNO.out HBZ.out
              | true =>
                have HNEW : Hid (∀ j m, j < i + 1 → (Td.subs n)[j]? = some m → ChP 9 (Td.kind m) ∧ AllN Qn m) := Lib.hid (fun j m' hj hm' => by
                  by_cases e : j = i
                  · subst e
                    have := HM.out
                    rw [hm'] at this
                    injection this with e; subst e
                    exact ⟨HCH.out, HZ.out.1 rfl⟩
                  · exact HSP.out j m' (by omega) hm')
                go_wp2
                go_roundw
                case rel => exact ⟨i + 1, by omega, rfl, HNEW, HB4⟩
                case measure => simp [intOf]; omega
            · obtain rfl : i = L := by omega
              have HYE : Hid (AllN Qn n) := Lib.hid (HQ.out.2 ⟨⟨fun h => (by omega), (by trivial), fun _ => ⟨by trivial, HKY.out⟩⟩, fun m hm => by
                obtain ⟨j, hj, e⟩ := List.getElem_of_mem hm
                exact HSP.out j m (by rw [← HL.out]; exact hj) (by rw [List.getElem?_eq_getElem hj, e])⟩)
              have HBZ := Lib.hid (HB1.out.trans (HBW.out.mono HB1.out.size))
              clear p0 p1 p2 p3 p4 p5 p6
              go_wp2
              go_ret
              exact PlR.yes HYE.out HBZ.out
      · have HNO : Hid (¬ AllN Qn n) := Lib.hid (fun h => kx ((HQ.out.1 h).1.2.2 (by trivial)).1)
        have HBZ := Lib.hid (HB1.out.trans (HB3.out.mono HB1.out.size))
        go_wp2
        go_ret
        exact PlR.no HNO.out HBZ.out
  by_cases k7 : K = 7
  · subst k7
    go_wp2_with fail
    rw [HW1.out, HW2.out]
    clear p0 p1 p2 p3 p4 p5 p6 p7 r0 r1 r2 r3 r4 r5 r6 r7 s0 s1 s2 s3 s4 s5 s6 s7
    refine (HFT.out _ HB2.out).mono ?_
    rintro e w3 ⟨rfl, hb3⟩
    have HB3 := Lib.hid (HB12.out.trans (hb3.mono HB12.out.size))
    obtain ⟨p0, p1, p2, p3, p4, p5, p6, p7⟩ := nbox_cells ((HB3.out.block _ HS1.out).trans HX1.out)
    clear hb3
    cases F with
    | false =>
      have HNO : Hid (¬ AllN Qn n) := Lib.hid (fun h => by have := (HQ.out.1 h).1.2.1; cases this)
      have HBZ := Lib.hid (HB1.out.trans (HB3.out.mono HB1.out.size))
      go_wp2
      go_ret
      exact PlR.no HNO.out HBZ.out
    | true =>
      go_wp2
      clear p0 p1 p2 p3 p4 p5 p6 p7
      go_loopw [4] (fun iv wr => ∃ (i : Nat), i ≤ L ∧ iv = .int .i64 (i : Int) ∧ Hid (∀ j m, j < i → (Td.subs n)[j]? = some m → ChP 7 (Td.kind m) ∧ AllN Qn m) ∧ Hid (Below W1.heap.size W1 wr)) (fun iv _ => L - (intOf iv).toNat)
      case atStart => exact ⟨0, by omega, rfl, Lib.hid (fun j m hj => absurd hj (Nat.not_lt_zero _)), HB3⟩
      case round =>
        obtain ⟨i, hi, rfl, HSP, HBW⟩ := hrel
        obtain ⟨p0, p1, p2, p3, p4, p5, p6, p7⟩ := nbox_cells ((HBW.out.block _ HS1.out).trans HX1.out)
        by_cases hlt : i < L
        · obtain ⟨b, off, m, u0, u1, u2, u3, u4, u5, u6, u7, rfl, hb, hm, hnd, q0, q1, q2, q3, q4, q5, q6, q7⟩ := HSUB.out i hlt
          have hBW := HB1.out.trans (HBW.out.mono HB1.out.size)
          have kc : ∀ o v, W.cell? ⟨b, o, none⟩ = some v → wr.cell? ⟨b, o, none⟩ = some v := fun o v h => (hBW.cell (p := ⟨b, o, none⟩) hb).trans h
          replace q0 := kc _ _ q0; replace q1 := kc _ _ q1; replace q2 := kc _ _ q2; replace q3 := kc _ _ q3
          replace q4 := kc _ _ q4; replace q5 := kc _ _ q5; replace q6 := kc _ _ q6; replace q7 := kc _ _ q7
          obtain ⟨f1, f2, f3, f4, F1⟩ := hnd.form
          obtain ⟨rfl, rfl, rfl, rfl, rfl, rfl, rfl, rfl⟩ := F1
          have hmem : m ∈ Td.subs n := List.mem_of_getElem? hm
          have HM := Lib.hid hm
          have HME := Lib.hid hmem
          have HC := Lib.hid (IH.out wr m _ (by have := HSH.out m hmem; have := HHH.out; omega) (hnd.kept hBW))
          have k0 : (0 : Int) ≤ (i : Int) := by omega
          have k1 : (i : Int) < (L : Int) := by omega
          have w2 : IntKind.i64.wrap ((i : Int) + 1) = ((i + 1 : Nat) : Int) := by rw [IntKind.wrap_i64]; omega
          obtain ⟨c, hc⟩ : ∃ c, Td.kind m = c := ⟨_, rfl⟩
          have HCK := Lib.hid hc
          rw [hc] at q0 HC
          clear kc hm hmem hnd hb hBW hc
          by_cases c7 : c = 7
          · subst c7
            have HNO : Hid (¬ AllN Qn n) := Lib.hid (fun h => by
              have hc0 := HCK.out
              exact ((HQ.out.1 h).2 m HME.out).1 (.inl ⟨rfl, .inl hc0⟩))
            have HBZ := Lib.hid (HB1.out.trans (HBW.out.mono HB1.out.size))
            go_wp2
            go_ret
            exact PlR.no HNO.out HBZ.out
          by_cases c1 : c = 1
          · subst c1
            have HNO : Hid (¬ AllN Qn n) := Lib.hid (fun h => by
              have hc0 := HCK.out
              exact ((HQ.out.1 h).2 m HME.out).1 (.inl ⟨rfl, .inr hc0⟩))
            have HBZ := Lib.hid (HB1.out.trans (HBW.out.mono HB1.out.size))
            go_wp2
            go_ret
            exact PlR.no HNO.out HBZ.out
          have cb7 : (c == 7) = false := by simp [c7]
          have cb1 : (c == 1) = false := by simp [c1]
          have HCH : Hid (ChP 7 (Td.kind m)) := Lib.hid (by have := HCK.out; unfold ChP; omega)
          go_wp2_with fail
          refine HC.out.mono ?_
          rintro e w4 ⟨z, rfl, hz, hb4⟩
          have HB4 := Lib.hid (HBW.out.trans (hb4.mono HBW.out.size))
          have HZ := Lib.hid hz
          clear hb4 hz q0 q1 q2 q3 q4 q5 q6 q7 p0 p1 p2 p3 p4 p5 p6 p7
          cases z with
          | false =>
            have HBZ := Lib.hid (HB1.out.trans (HB4.out.mono HB1.out.size))
            have HNO : Hid (¬ AllN Qn n) := Lib.hid (fun h => by have := HZ.out.2 ((HQ.out.1 h).2 m HME.out).2; cases this)
            go_wp2
            go_ret
            exact PlR.no HNO.out HBZ.out
          | true =>
            have HNEW : Hid (∀ j m, j < i + 1 → (Td.subs n)[j]? = some m → ChP 7 (Td.kind m) ∧ AllN Qn m) := Lib.hid (fun j m' hj hm' => by
              by_cases e : j = i
              · subst e
                have := HM.out
                rw [hm'] at this
                injection this with e; subst e
                exact ⟨HCH.out, HZ.out.1 rfl⟩
              · exact HSP.out j m' (by omega) hm')
            go_wp2
            go_roundw
            case rel => exact ⟨i + 1, by omega, rfl, HNEW, HB4⟩
            case measure => simp [intOf]; omega
        · obtain rfl : i = L := by omega
          have HYE : Hid (AllN Qn n) := Lib.hid (HQ.out.2 ⟨⟨fun h => (by omega), (by trivial), fun h => (by omega)⟩, fun m hm => by
            obtain ⟨j, hj, e⟩ := List.getElem_of_mem hm
            exact HSP.out j m (by rw [← HL.out]; exact hj) (by rw [List.getElem?_eq_getElem hj, e])⟩)
          have HBZ := Lib.hid (HB1.out.trans (HBW.out.mono HB1.out.size))
          clear p0 p1 p2 p3 p4 p5 p6
          go_wp2
          go_ret
          exact PlR.yes HYE.out HBZ.out
  by_cases k8 : K = 8
  · subst k8
    go_wp2_with fail
    rw [HW1.out, HW2.out]
    clear p0 p1 p2 p3 p4 p5 p6 p7 r0 r1 r2 r3 r4 r5 r6 r7 s0 s1 s2 s3 s4 s5 s6 s7
    refine (HFT.out _ HB2.out).mono ?_
    rintro e w3 ⟨rfl, hb3⟩
    have HB3 := Lib.hid (HB12.out.trans (hb3.mono HB12.out.size))
    obtain ⟨p0, p1, p2, p3, p4, p5, p6, p7⟩ := nbox_cells ((HB3.out.block _ HS1.out).trans HX1.out)
    clear hb3
    cases F with
    | false =>
      have HNO : Hid (¬ AllN Qn n) := Lib.hid (fun h => by have := (HQ.out.1 h).1.2.1; cases this)
      have HBZ := Lib.hid (HB1.out.trans (HB3.out.mono HB1.out.size))
      go_wp2
      go_ret
      exact PlR.no HNO.out HBZ.out
    | true =>
      go_wp2
      clear p0 p1 p2 p3 p4 p5 p6 p7
      go_loopw [4] (fun iv wr => ∃ (i : Nat), i ≤ L ∧ iv = .int .i64 (i : Int) ∧ Hid (∀ j m, j < i → (Td.subs n)[j]? = some m → ChP 8 (Td.kind m) ∧ AllN Qn m) ∧ Hid (Below W1.heap.size W1 wr)) (fun iv _ => L - (intOf iv).toNat)
      case atStart => exact ⟨0, by omega, rfl, Lib.hid (fun j m hj => absurd hj (Nat.not_lt_zero _)), HB3⟩
      case round =>
        obtain ⟨i, hi, rfl, HSP, HBW⟩ := hrel
        obtain ⟨p0, p1, p2, p3, p4, p5, p6, p7⟩ := nbox_cells ((HBW.out.block _ HS1.out).trans HX1.out)
        by_cases hlt : i < L
        · obtain ⟨b, off, m, u0, u1, u2, u3, u4, u5, u6, u7, rfl, hb, hm, hnd, q0, q1, q2, q3, q4, q5, q6, q7⟩ := HSUB.out i hlt
          have hBW := HB1.out.trans (HBW.out.mono HB1.out.size)
          have kc : ∀ o v, W.cell? ⟨b, o, none⟩ = some v → wr.cell? ⟨b, o, none⟩ = some v := fun o v h => (hBW.cell (p := ⟨b, o, none⟩) hb).trans h
          replace q0 := kc _ _ q0; replace q1 := kc _ _ q1; replace q2 := kc _ _ q2; replace q3 := kc _ _ q3
          replace q4 := kc _ _ q4; replace q5 := kc _ _ q5; replace q6 := kc _ _ q6; replace q7 := kc _ _ q7
          obtain ⟨f1, f2, f3, f4, F1⟩ := hnd.form
          obtain ⟨rfl, rfl, rfl, rfl, rfl, rfl, rfl, rfl⟩ := F1
          have hmem : m ∈ Td.subs n := List.mem_of_getElem? hm
          have HM := Lib.hid hm
          have HME := Lib.hid hmem
          have HC := Lib.hid (IH.out wr m _ (by have := HSH.out m hmem; have := HHH.out; omega) (hnd.kept hBW))
          have k0 : (0 : Int) ≤ (i : Int) := by omega
          have k1 : (i : Int) < (L : Int) := by omega
          have w2 : IntKind.i64.wrap ((i : Int) + 1) = ((i + 1 : Nat) : Int) := by rw [IntKind.wrap_i64]; omega
          obtain ⟨c, hc⟩ : ∃ c, Td.kind m = c := ⟨_, rfl⟩
          have HCK := Lib.hid hc
          rw [hc] at q0 HC
          clear kc hm hmem hnd hb hBW hc
          by_cases c8 : c = 8
          · subst c8
            have HNO : Hid (¬ AllN Qn n) := Lib.hid (fun h => by
              have hc0 := HCK.out
              exact ((HQ.out.1 h).2 m HME.out).1 (.inr (.inl ⟨rfl, hc0⟩)))
            have HBZ := Lib.hid (HB1.out.trans (HBW.out.mono HB1.out.size))
            go_wp2
            go_ret
            exact PlR.no HNO.out HBZ.out
          have cb8 : (c == 8) = false := by simp [c8]
          have HCH : Hid (ChP 8 (Td.kind m)) := Lib.hid (by have := HCK.out; unfold ChP; omega)
          go_wp2_with fail
          refine HC.out.mono ?_
          rintro e w4 ⟨z, rfl, hz, hb4⟩
          have HB4 := Lib.hid (HBW.out.trans (hb4.mono HBW.out.size))
          have HZ := Lib.hid hz
          clear hb4 hz q0 q1 q2 q3 q4 q5 q6 q7 p0 p1 p2 p3 p4 p5 p6 p7
          cases z with
          | false =>
            have HBZ := Lib.hid (HB1.out.trans (HB4.out.mono HB1.out.size))
            have HNO : Hid (¬ AllN Qn n) := Lib.hid (fun h => by have := HZ.out.2 ((HQ.out.1 h).2 m HME.out).2; cases this)
            go_wp2
            go_ret
            exact PlR.no HNO.out HBZ.out
          | true =>
            have HNEW : Hid (∀ j m, j < i + 1 → (Td.subs n)[j]? = some m → ChP 8 (Td.kind m) ∧ AllN Qn m) := Lib.hid (fun j m' hj hm' => by
              by_cases e : j = i
              · subst e
                have := HM.out
                rw [hm'] at this
                injection this with e; subst e
                exact ⟨HCH.out, HZ.out.1 rfl⟩
              · exact HSP.out j m' (by omega) hm')
            go_wp2
            go_roundw
            case rel => exact ⟨i + 1, by omega, rfl, HNEW, HB4⟩
            case measure => simp [intOf]; omega
        · obtain rfl : i = L := by omega
          have HYE : Hid (AllN Qn n) := Lib.hid (HQ.out.2 ⟨⟨fun h => (by omega), (by trivial), fun h => (by omega)⟩, fun m hm => by
            obtain ⟨j, hj, e⟩ := List.getElem_of_mem hm
            exact HSP.out j m (by rw [← HL.out]; exact hj) (by rw [List.getElem?_eq_getElem hj, e])⟩)
          have HBZ := Lib.hid (HB1.out.trans (HBW.out.mono HB1.out.size))
          clear p0 p1 p2 p3 p4 p5 p6
          go_wp2
          go_ret
          exact PlR.yes HYE.out HBZ.out
  go_wp2_with fail
  rw [HW1.out, HW2.out]
  clear p0 p1 p2 p3 p4 p5 p6 p7 r0 r1 r2 r3 r4 r5 r6 r7 s0 s1 s2 s3 s4 s5 s6 s7
  refine (HFT.out _ HB2.out).mono ?_
  rintro e w3 ⟨rfl, hb3⟩
  have HB3 := Lib.hid (HB12.out.trans (hb3.mono HB12.out.size))
  obtain ⟨p0, p1, p2, p3, p4, p5, p6, p7⟩ := nbox_cells ((HB3.out.block _ HS1.out).trans HX1.out)
  clear hb3
  cases F with
  | false =>
    have HNO : Hid (¬ AllN Qn n) := Lib.hid (fun h => by have := (HQ.out.1 h).1.2.1; cases this)
    have HBZ := Lib.hid (HB1.out.trans (HB3.out.mono HB1.out.size))
    go_wp2
    go_ret
    exact PlR.no HNO.out HBZ.out
  | true =>
    go_wp2
    clear p0 p1 p2 p3 p4 p5 p6 p7
    go_loopw [4] (fun iv wr => ∃ (i : Nat), i ≤ L ∧ iv = .int .i64 (i : Int) ∧ Hid (∀ j m, j < i → (Td.subs n)[j]? = some m → ChP K (Td.kind m) ∧ AllN Qn m) ∧ Hid (Below W1.heap.size W1 wr)) (fun iv _ => L - (intOf iv).toNat)
    case atStart => exact ⟨0, by omega, rfl, Lib.hid (fun j m hj => absurd hj (Nat.not_lt_zero _)), HB3⟩
    case round =>
      obtain ⟨i, hi, rfl, HSP, HBW⟩ := hrel
      obtain ⟨p0, p1, p2, p3, p4, p5, p6, p7⟩ := nbox_cells ((HBW.out.block _ HS1.out).trans HX1.out)
      by_cases hlt : i < L
      · obtain ⟨b, off, m, u0, u1, u2, u3, u4, u5, u6, u7, rfl, hb, hm, hnd, q0, q1, q2, q3, q4, q5, q6, q7⟩ := HSUB.out i hlt
        have hBW := HB1.out.trans (HBW.out.mono HB1.out.size)
        have kc : ∀ o v, W.cell? ⟨b, o, none⟩ = some v → wr.cell? ⟨b, o, none⟩ = some v := fun o v h => (hBW.cell (p := ⟨b, o, none⟩) hb).trans h
        replace q0 := kc _ _ q0; replace q1 := kc _ _ q1; replace q2 := kc _ _ q2; replace q3 := kc _ _ q3
        replace q4 := kc _ _ q4; replace q5 := kc _ _ q5; replace q6 := kc _ _ q6; replace q7 := kc _ _ q7
        obtain ⟨f1, f2, f3, f4, F1⟩ := hnd.form
        obtain ⟨rfl, rfl, rfl, rfl, rfl, rfl, rfl, rfl⟩ := F1
        have hmem : m ∈ Td.subs n := List.mem_of_getElem? hm
        have HM := Lib.hid hm
        have HME := Lib.hid hmem
        have HC := Lib.hid (IH.out wr m _ (by have := HSH.out m hmem; have := HHH.out; omega) (hnd.kept hBW))
        have k0 : (0 : Int) ≤ (i : Int) := by omega
        have k1 : (i : Int) < (L : Int) := by omega
        have w2 : IntKind.i64.wrap ((i : Int) + 1) = ((i + 1 : Nat) : Int) := by rw [IntKind.wrap_i64]; omega
        obtain ⟨c, hc⟩ : ∃ c, Td.kind m = c := ⟨_, rfl⟩
        have HCK := Lib.hid hc
        rw [hc] at q0 HC
        clear kc hm hmem hnd hb hBW hc
        have HCH : Hid (ChP K (Td.kind m)) := Lib.hid (by have := HCK.out; unfold ChP; omega)
        go_wp2_with fail
        refine HC.out.mono ?_
        rintro e w4 ⟨z, rfl, hz, hb4⟩
        have HB4 := Lib.hid (HBW.out.trans (hb4.mono HBW.out.size))
        have HZ := Lib.hid hz
        clear hb4 hz q0 q1 q2 q3 q4 q5 q6 q7 p0 p1 p2 p3 p4 p5 p6 p7
        cases z with
        | false =>
          have HBZ := Lib.hid (HB1.out.trans (HB4.out.mono HB1.out.size))
          have HNO : Hid (¬ AllN Qn n) := Lib.hid (fun h => by have := HZ.out.2 ((HQ.out.1 h).2 m HME.out).2; cases this)
          go_wp2
          go_ret
          exact PlR.no HNO.out HBZ.out
        | true =>
          have HNEW : Hid (∀ j m, j < i + 1 → (Td.subs n)[j]? = some m → ChP K (Td.kind m) ∧ AllN Qn m) := Lib.hid (fun j m' hj hm' => by
            by_cases e : j = i
            · subst e
              have := HM.out
              rw [hm'] at this
              injection this with e; subst e
              exact ⟨HCH.out, HZ.out.1 rfl⟩
            · exact HSP.out j m' (by omega) hm')
          go_wp2
          go_roundw
          case rel => exact ⟨i + 1, by omega, rfl, HNEW, HB4⟩
          case measure => simp [intOf]; omega
      · obtain rfl : i = L := by omega
        have HYE : Hid (AllN Qn n) := Lib.hid (HQ.out.2 ⟨⟨fun h => absurd h k6, (by trivial), fun h => absurd h k9⟩, fun m hm => by
          obtain ⟨j, hj, e⟩ := List.getElem_of_mem hm
          exact HSP.out j m (by rw [← HL.out]; exact hj) (by rw [List.getElem?_eq_getElem hj, e])⟩)
        have HBZ := Lib.hid (HB1.out.trans (HBW.out.mono HB1.out.size))
        clear p0 p1 p2 p3 p4 p5 p6
        go_wp2
        go_ret
        exact PlR.yes HYE.out HBZ.out
theorem rplain_any : ∀ k, PlOk k
  | 0 => fun W n cs h _ => by have := hgt_pos n; omega
  | k + 1 => pl_step k (rplain_any k)
end Go.Proofs.Ythhdlcckboiecaa
