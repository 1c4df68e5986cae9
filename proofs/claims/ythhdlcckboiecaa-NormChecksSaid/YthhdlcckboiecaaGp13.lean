/- The landed tree: same, with slices.EqualFunc and its closure; Same. -/
import Derived.Test.YthhdlcckboiecaaGp12
import Derived.Test.YthhdlcckboiecaaGp3
namespace Go.Proofs.Ythhdlcckboiecaa
open Go.RowKit
set_option linter.unusedVariables false
def TSameOk (k : Nat) : Prop := ∀ (d : Nat), d + k = 1001 → ∀ (W : World) (n m : Nd) (cs ds : List Value), NdIs W n cs → NdIs W m ds → Calls Try.prog 62 #[.agg cs.toArray, .agg ds.toArray, .int .i64 (d : Int)] W fun e w' => e = .returned (.bool (Td.sameB k n m)) ∧ Below W.heap.size W w'
set_option maxRecDepth 100000 in
set_option maxHeartbeats 4000000 in
theorem same1_any (k d : Nat) (hd : d + 1 + k = 1001) (ih : TSameOk k) (W : World) (B : Nat) (n m : Nd) (cs ds : List Value) (hB : W.cell? ⟨B, 0, none⟩ = some (.int .i64 (d : Int))) (hlt : B < W.heap.size) (h : NdIs W n cs) (h' : NdIs W m ds) :
    Calls Try.prog 69 #[.agg cs.toArray, .agg ds.toArray, .pointer (some ⟨B, 0, none⟩)] W fun e w' => e = .returned (.bool (Td.sameB k n m)) ∧ Below W.heap.size W w' := by
  have hw : IntKind.i64.wrap ((d : Int) + 1) = ((d + 1 : Nat) : Int) := by rw [IntKind.wrap_i64]; omega
  have hb2 : Below W.heap.size W ((W.alloc (.cells cs.toArray 25)).alloc (.cells ds.toArray 25)) := ((Below.refl W.heap.size W).alloc (Nat.le_refl _) _).alloc (by simp) _
  have HB2 := Lib.hid hb2
  have H1 := Lib.hid (h.kept hb2)
  have H2 := Lib.hid (h'.kept hb2)
  have IH := Lib.hid (ih (d + 1) hd)
  obtain ⟨vs, a, cap, C, hC⟩ := h.cells
  obtain ⟨ws, a', cap', C', hC'⟩ := h'.cells
  have hcs := hC.eq
  have hds := hC'.eq
  subst hcs
  subst hds
  clear hC hC' h h' ih hb2
  go_enter Try.func69, Try.ntmps69
  go_wp2_with fail
  refine (IH.out _ n m _ _ H1.out H2.out).mono ?_
  rintro e w5 ⟨rfl, hb5⟩
  have HB5 := Lib.hid (HB2.out.trans (hb5.mono HB2.out.size))
  go_wp2
  go_ret
  exact ⟨rfl, HB5.out⟩
set_option maxRecDepth 100000 in
set_option maxHeartbeats 8000000 in
theorem eqf_any (k d : Nat) (hd : d + 1 + k = 1001) (ih : TSameOk k) (W : World) (B : Nat) (n m : Nd) (vs vt : Value) (a b : Option Addr) (capa capb : Nat) (C C' : Nat → List Value) (ca cb : List Value) (hB : W.cell? ⟨B, 0, none⟩ = some (.int .i64 (d : Int))) (hBl : B < W.heap.size) (hC : NdCells W ca n vs a capa C) (hC' : NdCells W cb m vt b capb C') :
    Calls Try.prog 68 #[.slice a (Td.subs n).length capa, .slice b (Td.subs m).length capb, .func (.func 69) #[] #[.pointer (some ⟨B, 0, none⟩)]] W
      fun e w' => e = .returned (.bool ((((Td.subs n).length : Int) == ((Td.subs m).length : Int)) && ((Td.subs n).zip (Td.subs m)).all fun p => Td.sameB k p.1 p.2)) ∧ Below W.heap.size W w' := by
  have HSUB := Lib.hid hC.sub
  have HSUB' := Lib.hid hC'.sub
  have hla := hC.len
  have hlb := hC'.len
  have HCL := Lib.hid (same1_any k d hd ih)
  obtain ⟨La, eLa⟩ : ∃ La, (Td.subs n).length = La := ⟨_, rfl⟩
  obtain ⟨Lb, eLb⟩ : ∃ Lb, (Td.subs m).length = Lb := ⟨_, rfl⟩
  rw [eLa] at hla HSUB
  rw [eLb] at hlb HSUB'
  rw [eLa, eLb]
  have HLA := Lib.hid eLa
  have HLB := Lib.hid eLb
  obtain ⟨Z, hZ⟩ : ∃ Z, (((Td.subs n).zip (Td.subs m)).all fun p => Td.sameB k p.1 p.2) = Z := ⟨_, rfl⟩
  rw [hZ]
  have HZ := Lib.hid hZ
  clear hZ eLa eLb hC hC' ih
  by_cases hL : La = Lb
  · subst hL
    have HLEN : Hid (((Td.subs n).zip (Td.subs m)).length = La) := Lib.hid (by rw [List.length_zip, HLA.out, HLB.out, Nat.min_self])
    have HR : Hid ((((La : Int) == (La : Int)) && Z) = Z) := Lib.hid (by simp)
    rw [HR.out]
    have HBX := Lib.hid hB
    have HBL := Lib.hid hBl
    clear hB hBl
    go_enter Try.func68, Try.ntmps68
    go_wp2
    go_loopw [7, 8, 9, 17] (fun x7 x8 x9 iv wr => ∃ i : Nat, i ≤ La ∧ iv = .int .i64 (i : Int) ∧ Hid ((((Td.subs n).zip (Td.subs m)).take i).all (fun p => Td.sameB k p.1 p.2) = true) ∧ Hid (Below W.heap.size W wr)) (fun _ _ _ iv _ => La - (intOf iv).toNat)
    case atStart => exact ⟨0, Nat.zero_le _, rfl, Lib.hid (by simp), Lib.hid (Below.refl _ _)⟩
    case round =>
      obtain ⟨i, hi, rfl, HA, HB⟩ := hrel
      by_cases hlt : i < La
      · obtain ⟨g, off, x, u0, u1, u2, u3, u4, u5, u6, u7, rfl, hb, hm, hnd, q0, q1, q2, q3, q4, q5, q6, q7⟩ := HSUB.out i hlt
        obtain ⟨g', off', x', v0, v1, v2, v3, v4, v5, v6, v7, rfl, hb', hm', hnd', r0, r1, r2, r3, r4, r5, r6, r7⟩ := HSUB'.out i hlt
        have hbw := HB.out
        have kc : ∀ o v, W.cell? ⟨g, o, none⟩ = some v → wr.cell? ⟨g, o, none⟩ = some v := fun o v h => (hbw.cell (p := ⟨g, o, none⟩) hb).trans h
        have kc' : ∀ o v, W.cell? ⟨g', o, none⟩ = some v → wr.cell? ⟨g', o, none⟩ = some v := fun o v h => (hbw.cell (p := ⟨g', o, none⟩) hb').trans h
        replace q0 := kc _ _ q0; replace q1 := kc _ _ q1; replace q2 := kc _ _ q2; replace q3 := kc _ _ q3
        replace q4 := kc _ _ q4; replace q5 := kc _ _ q5; replace q6 := kc _ _ q6; replace q7 := kc _ _ q7
        replace r0 := kc' _ _ r0; replace r1 := kc' _ _ r1; replace r2 := kc' _ _ r2; replace r3 := kc' _ _ r3
        replace r4 := kc' _ _ r4; replace r5 := kc' _ _ r5; replace r6 := kc' _ _ r6; replace r7 := kc' _ _ r7
        have hbl : g < wr.heap.size := Nat.lt_of_lt_of_le hb hbw.size
        have hbl' : g' < wr.heap.size := Nat.lt_of_lt_of_le hb' hbw.size
        have hBw : wr.cell? ⟨B, 0, none⟩ = some (.int .i64 (d : Int)) := (hbw.cell (p := ⟨B, 0, none⟩) HBL.out).trans HBX.out
        have hBs : B < wr.heap.size := Nat.lt_of_lt_of_le HBL.out hbw.size
        have hW2 : ∀ (o1 o2 : Obj), Below W.heap.size W ((wr.alloc o1).alloc o2) := fun o1 o2 => (hbw.alloc hbw.size o1).alloc (by have := hbw.size; simp; omega) o2
        have HND := Lib.hid (fun o1 o2 => hnd.kept (hW2 o1 o2))
        have HND' := Lib.hid (fun o1 o2 => hnd'.kept (hW2 o1 o2))
        have HB3 : Hid (∀ (o1 o2 : Obj), ((wr.alloc o1).alloc o2).cell? ⟨B, 0, none⟩ = some (.int .i64 (d : Int)) ∧ B < ((wr.alloc o1).alloc o2).heap.size) := Lib.hid (fun o1 o2 => by
          refine ⟨?_, by simp; omega⟩
          rw [((hbw.alloc hbw.size o1).alloc (by have := hbw.size; simp; omega) o2).cell (p := ⟨B, 0, none⟩) HBL.out]; exact HBX.out)
        have HW2 := Lib.hid hW2
        have hzip : ((Td.subs n).zip (Td.subs m))[i]? = some (x, x') := by rw [List.getElem?_zip_eq_some]; exact ⟨hm, hm'⟩
        obtain ⟨Q, hQ⟩ : ∃ Q, Td.sameB k x x' = Q := ⟨_, rfl⟩
        have HYES : Hid ((((Td.subs n).zip (Td.subs m)).take (i + 1)).all (fun p => Td.sameB k p.1 p.2) = Q) := Lib.hid (by rw [all_snoc hzip HA.out]; exact hQ)
        have HNO : Hid (Q = false → Z = false) := Lib.hid (fun e => by rw [← HZ.out]; exact all_no hzip (by rw [hQ]; exact e))
        have HQ := Lib.hid hQ
        obtain ⟨f1, f2, f3, f4, F1⟩ := hnd.form
        obtain ⟨f5, f6, f7, f8, F2⟩ := hnd'.form
        obtain ⟨rfl, rfl, rfl, rfl, rfl, rfl, rfl, rfl⟩ := F1
        obtain ⟨rfl, rfl, rfl, rfl, rfl, rfl, rfl, rfl⟩ := F2
        clear kc kc' hm hm' hnd hnd' hbw hzip hQ hW2 hBw hBs
        go_wp2_with fail
        refine (HCL.out _ B x x' _ _ (HB3.out _ _).1 (HB3.out _ _).2 (HND.out _ _) (HND'.out _ _)).mono ?_
        rintro e w5 ⟨rfl, hb5⟩
        have HB5 := Lib.hid ((HW2.out _ _).trans (hb5.mono (HW2.out _ _).size))
        rw [HQ.out]
        clear hb5 q0 q1 q2 q3 q4 q5 q6 q7 r0 r1 r2 r3 r4 r5 r6 r7
        cases Q with
        | true =>
          go_wp2
          go_roundw
          case rel => exact ⟨i + 1, by omega, by go_num, HYES, HB5⟩
          case measure => simp [intOf]; omega
        | false =>
          have HF := Lib.hid (HNO.out rfl)
          go_wp2
          go_ret
          exact ⟨by rw [HF.out]; rfl, HB5.out⟩
      · obtain rfl : i = La := by omega
        have HE : Hid (Z = true) := Lib.hid (by
          have := HA.out
          rw [List.take_of_length_le (by rw [HLEN.out]; exact Nat.le_refl _)] at this
          rw [← HZ.out]; exact this)
        go_wp2
        go_ret
        exact ⟨by rw [HE.out]; rfl, HB.out⟩
  · have hne : ¬ (La : Int) = (Lb : Int) := by omega
    have HR : Hid ((((La : Int) == (Lb : Int)) && Z) = false) := Lib.hid (by rw [beq_eq_false_iff_ne.2 hne]; rfl)
    rw [HR.out]
    go_enter Try.func68, Try.ntmps68
    go_wp2
    go_ret
    exact ⟨rfl, Below.refl _ _⟩
set_option maxRecDepth 100000 in
set_option maxHeartbeats 16000000 in
theorem tsame_step (k M : Nat) (hM : M = k + 1) (ih : TSameOk k) : TSameOk M := by
  intro d hd W n m cs ds h h'
  have hd0 : ¬ (1000 : Int) < (d : Int) := by omega
  have hd1 : (d : Int) ≤ 1000 := by omega
  have HEQ := Lib.hid (eqf_any k d (by omega) ih)
  obtain ⟨vs, aa, capa, C, hC⟩ := h.cells
  obtain ⟨ws, ab, capb, C', hC'⟩ := h'.cells
  have hcs := hC.eq
  have hds := hC'.eq
  obtain ⟨sa, sca, hvs, hsl, _, _⟩ := hC.set
  obtain ⟨sb, scb, hws, hsl', _, _⟩ := hC'.set
  obtain ⟨R, hR⟩ : ∃ R, Td.sameB M n m = R := ⟨_, rfl⟩
  rw [hR]
  rw [hM, Td.sameB] at hR
  unfold Td.same1 at hR
  have hb3 : ∀ (o1 o2 o3 : Obj), Below W.heap.size W (((W.alloc o1).alloc o2).alloc o3) := fun o1 o2 o3 => (((Below.refl W.heap.size W).alloc (Nat.le_refl _) o1).alloc (by simp) o2).alloc (by simp; omega) o3
  have HB3 := Lib.hid hb3
  have HBD : Hid (∀ (o1 o2 : Obj), (((W.alloc o1).alloc o2).alloc (.cells #[.int .i64 (d : Int)] 3)).cell? ⟨W.heap.size + 1 + 1, 0, none⟩ = some (.int .i64 (d : Int))) := Lib.hid (fun o1 o2 => by
    have key : ∀ X : World, (X.alloc (.cells #[.int .i64 (d : Int)] 3)).cell? ⟨X.heap.size, 0, none⟩ = some (.int .i64 (d : Int)) := fun X => by simp
    have h9 := key ((W.alloc o1).alloc o2)
    rwa [World.size_alloc, World.size_alloc] at h9)
  have HSS : Hid (∀ o1 o2 o3, Calls Try.prog 67 #[vs, ws] (((W.alloc o1).alloc o2).alloc o3) fun e W' => e = .returned (.bool (decide (Td.set n = Td.set m))) ∧ ∃ d, W' = (((W.alloc o1).alloc o2).alloc o3).drewN d) :=
    Lib.hid (fun o1 o2 o3 => eqr_any _ _ _ _ _ (hC.set.below (Nat.le_refl _) (hb3 o1 o2 o3)) (hC'.set.below (Nat.le_refl _) (hb3 o1 o2 o3)))
  have HNS : Hid (∀ W2, Below W.heap.size W W2 → (∃ a' b' c' D', NdCells W2 cs n a' b' c' D') ∧ (∃ a' b' c' D', NdCells W2 ds m a' b' c' D')) := Lib.hid (fun W2 hb => ⟨(h.kept hb).cells, (h'.kept hb).cells⟩)
  subst hvs
  subst hws
  subst hcs
  subst hds
  have HEF : Hid (∀ W2 B, Below W.heap.size W W2 → W2.cell? ⟨B, 0, none⟩ = some (.int .i64 (d : Int)) → B < W2.heap.size →
      Calls Try.prog 68 #[.slice aa (Td.subs n).length capa, .slice ab (Td.subs m).length capb, .func (.func 69) #[] #[.pointer (some ⟨B, 0, none⟩)]] W2
      fun e w' => e = .returned (.bool ((((Td.subs n).length : Int) == ((Td.subs m).length : Int)) && ((Td.subs n).zip (Td.subs m)).all fun p => Td.sameB k p.1 p.2)) ∧ Below W2.heap.size W2 w') := Lib.hid (fun W2 B hb h1 h2 => by
    obtain ⟨⟨a', b', c', D', hx⟩, a2, b2, c2, D2, hy⟩ := HNS.out W2 hb
    have ex := hx.eq
    have ey := hy.eq
    simp only [List.cons.injEq, Value.slice.injEq, and_true, true_and] at ex ey
    obtain ⟨_, rfl, rfl⟩ := ex
    obtain ⟨_, rfl, rfl⟩ := ey
    exact HEQ.out W2 B n m _ _ _ _ _ _ _ _ _ _ h1 h2 hx hy)
  obtain ⟨Z, hZ⟩ : ∃ Z, ((((Td.subs n).length : Int) == ((Td.subs m).length : Int)) && ((Td.subs n).zip (Td.subs m)).all fun p => Td.sameB k p.1 p.2) = Z := ⟨_, rfl⟩
  obtain ⟨t6, et6⟩ : ∃ t6, decide (Td.set n = Td.set m) = t6 := ⟨_, rfl⟩
  rw [hZ] at HEF
  rw [et6] at HSS
  have hR' : R = ((Td.kind n == Td.kind m) && ((Td.num n == Td.num m) && (((Td.name n).toList == (Td.name m).toList) && ((Td.mn n == Td.mn m) && ((Td.mx n == Td.mx m) && ((Td.lazy n == Td.lazy m) && (t6 && Z))))))) := by
    rw [← hR, ← et6, ← hZ]; simp only [Bool.and_assoc]
  clear hR hZ et6 h h' hC hC' ih hM HEQ HNS hb3
  obtain ⟨ka, eka⟩ : ∃ ka, Td.kind n = ka := ⟨_, rfl⟩
  obtain ⟨kb, ekb⟩ : ∃ kb, Td.kind m = kb := ⟨_, rfl⟩
  obtain ⟨ua, eua⟩ : ∃ ua, Td.num n = ua := ⟨_, rfl⟩
  obtain ⟨ub, eub⟩ : ∃ ub, Td.num m = ub := ⟨_, rfl⟩
  obtain ⟨na, ena⟩ : ∃ na, Td.name n = na := ⟨_, rfl⟩
  obtain ⟨nb, enb⟩ : ∃ nb, Td.name m = nb := ⟨_, rfl⟩
  obtain ⟨ma, ema⟩ : ∃ ma, Td.mn n = ma := ⟨_, rfl⟩
  obtain ⟨mb, emb⟩ : ∃ mb, Td.mn m = mb := ⟨_, rfl⟩
  obtain ⟨xa, exa⟩ : ∃ xa, Td.mx n = xa := ⟨_, rfl⟩
  obtain ⟨xb, exb⟩ : ∃ xb, Td.mx m = xb := ⟨_, rfl⟩
  obtain ⟨ya, eya⟩ : ∃ ya, Td.lazy n = ya := ⟨_, rfl⟩
  obtain ⟨yb, eyb⟩ : ∃ yb, Td.lazy m = yb := ⟨_, rfl⟩
  obtain ⟨La, eLa⟩ : ∃ La, (Td.subs n).length = La := ⟨_, rfl⟩
  obtain ⟨Lb, eLb⟩ : ∃ Lb, (Td.subs m).length = Lb := ⟨_, rfl⟩
  obtain ⟨Sa, eSa⟩ : ∃ Sa, (Td.set n).length = Sa := ⟨_, rfl⟩
  obtain ⟨Sb, eSb⟩ : ∃ Sb, (Td.set m).length = Sb := ⟨_, rfl⟩
  rw [eka, ekb, eua, eub, ena, enb, ema, emb, exa, exb, eya, eyb] at hR'
  rw [eLa, eLb] at HEF
  rw [eSa, eSb] at HSS
  rw [eka, ekb, eua, eub, ena, enb, ema, emb, exa, exb, eya, eyb, eLa, eLb, eSa, eSb]
  clear hsl hsl' eka ekb eua eub ena enb ema emb exa exb eya eyb eLa eLb eSa eSb
  cases t0 : (ka == kb) with
  | false =>
    have HR : Hid (R = false) := Lib.hid (by rw [hR']; simp [t0])
    clear hR'
    have z0 : ¬ ka = kb := beq_eq_false_iff_ne.1 t0
    go_enter Try.func62, Try.ntmps62
    go_wp2
    go_ret
    exact ⟨by rw [HR.out]; rfl, HB3.out _ _ _⟩
  | true =>
    have e0 := beq_iff_eq.1 t0
    subst e0
    clear t0
    cases t1 : (ua == ub) with
    | false =>
      have HR : Hid (R = false) := Lib.hid (by rw [hR']; simp [t1])
      clear hR'
      have z1 : ¬ ua = ub := beq_eq_false_iff_ne.1 t1
      go_enter Try.func62, Try.ntmps62
      go_wp2
      go_ret
      exact ⟨by rw [HR.out]; rfl, HB3.out _ _ _⟩
    | true =>
      have e1 := beq_iff_eq.1 t1
      subst e1
      clear t1
      cases t2 : (na.toList == nb.toList) with
      | false =>
        have HR : Hid (R = false) := Lib.hid (by rw [hR']; simp [t2])
        clear hR'
        have z2 : ¬ na.toList = nb.toList := beq_eq_false_iff_ne.1 t2
        have y2 : ¬ na = nb := fun e => z2 (by rw [e])
        go_enter Try.func62, Try.ntmps62
        go_wp2
        go_ret
        exact ⟨by rw [HR.out]; rfl, HB3.out _ _ _⟩
      | true =>
        have e2 : na = nb := by
          apply ByteArray.ext; apply Array.toList_inj.1
          rw [← ByteArray.toList_eq, ← ByteArray.toList_eq]; exact beq_iff_eq.1 t2
        subst e2
        clear t2
        cases t3 : (ma == mb) with
        | false =>
          have HR : Hid (R = false) := Lib.hid (by rw [hR']; simp [t3])
          clear hR'
          have z3 : ¬ ma = mb := beq_eq_false_iff_ne.1 t3
          go_enter Try.func62, Try.ntmps62
          go_wp2
          go_ret
          exact ⟨by rw [HR.out]; rfl, HB3.out _ _ _⟩
        | true =>
          have e3 := beq_iff_eq.1 t3
          subst e3
          clear t3
          cases t4 : (xa == xb) with
          | false =>
            have HR : Hid (R = false) := Lib.hid (by rw [hR']; simp [t4])
            clear hR'
            have z4 : ¬ xa = xb := beq_eq_false_iff_ne.1 t4
            go_enter Try.func62, Try.ntmps62
            go_wp2
            go_ret
            exact ⟨by rw [HR.out]; rfl, HB3.out _ _ _⟩
          | true =>
            have e4 := beq_iff_eq.1 t4
            subst e4
            clear t4
            cases t5 : (ya == yb) with
            | false =>
              have HR : Hid (R = false) := Lib.hid (by rw [hR']; simp [t5])
              clear hR'
              have z5 : ¬ ya = yb := beq_eq_false_iff_ne.1 t5
              go_enter Try.func62, Try.ntmps62
              go_wp2
              go_ret
              exact ⟨by rw [HR.out]; rfl, HB3.out _ _ _⟩
            | true =>
              have e5 := beq_iff_eq.1 t5
              subst e5
              clear t5
              have hR2 : R = (t6 && Z) := by rw [hR']; simp
              clear hR'
              cases t6 with
              | false =>
                have HR : Hid (R = false) := Lib.hid (by rw [hR2]; rfl)
                clear hR2
                go_enter Try.func62, Try.ntmps62
                go_wp2_with fail
                refine (HSS.out _ _ _).mono ?_
                rintro e w2 ⟨rfl, q, rfl⟩
                go_wp2
                go_ret
                exact ⟨by rw [HR.out]; rfl, below_drewNr (HB3.out _ _ _) q⟩
              | true =>
                have HR : Hid (R = Z) := Lib.hid (by rw [hR2]; rfl)
                clear hR2
                go_enter Try.func62, Try.ntmps62
                go_wp2_with fail
                refine (HSS.out _ _ _).mono ?_
                rintro e w2 ⟨rfl, q, rfl⟩
                go_wp2_with fail
                refine (HEF.out _ _ (below_drewNr (HB3.out _ _ _) q) (HBD.out _ _) (by simp)).mono ?_
                rintro e w5 ⟨rfl, hb5⟩
                have HB5 := Lib.hid ((below_drewNr (HB3.out _ _ _) q).trans (hb5.mono (below_drewNr (HB3.out _ _ _) q).size))
                clear hb5
                go_wp2
                go_ret
                exact ⟨by rw [HR.out]; rfl, HB5.out⟩
theorem tsame_any : ∀ k : Nat, TSameOk k
  | 0 => by
    intro d hd W n m cs ds h h'
    have hd0 : (1000 : Int) < (d : Int) := by omega
    obtain ⟨vs, a, cap, C, hC⟩ := h.cells
    obtain ⟨ws, a', cap', C', hC'⟩ := h'.cells
    have hcs := hC.eq
    have hds := hC'.eq
    subst hcs
    subst hds
    clear hC hC' h h'
    go_enter Try.func62, Try.ntmps62
    go_wp2
    go_ret
    exact ⟨rfl, (((Below.refl W.heap.size W).alloc (Nat.le_refl _) _).alloc (by simp) _).alloc (by simp; omega) _⟩
  | k + 1 => tsame_step k _ rfl (tsame_any k)
set_option maxRecDepth 100000 in
set_option maxHeartbeats 4000000 in
theorem trSame_any (W : World) (n m : Nd) (cs ds : List Value) (h : NdIs W n cs) (h' : NdIs W m ds) :
    Calls Try.prog 49 #[.agg cs.toArray, .agg ds.toArray] W fun e w' => e = .returned (.bool (Td.sameB 1000 n m)) ∧ Below W.heap.size W w' := by
  have hb2 : Below W.heap.size W ((W.alloc (.cells cs.toArray 25)).alloc (.cells ds.toArray 25)) := ((Below.refl W.heap.size W).alloc (Nat.le_refl _) _).alloc (by simp) _
  have HB2 := Lib.hid hb2
  have H1 := Lib.hid (h.kept hb2)
  have H2 := Lib.hid (h'.kept hb2)
  have IH := Lib.hid (tsame_any 1000 1 rfl)
  obtain ⟨vs, a, cap, C, hC⟩ := h.cells
  obtain ⟨ws, a', cap', C', hC'⟩ := h'.cells
  have hcs := hC.eq
  have hds := hC'.eq
  subst hcs
  subst hds
  clear hC hC' h h' hb2
  go_enter Try.func49, Try.ntmps49
  go_wp2_with fail
  refine (IH.out _ n m _ _ H1.out H2.out).mono ?_
  rintro e w5 ⟨rfl, hb5⟩
  have HB5 := Lib.hid (HB2.out.trans (hb5.mono HB2.out.size))
  go_wp2
  go_ret
  exact ⟨rfl, HB5.out⟩
end Go.Proofs.Ythhdlcckboiecaa
